/- ownSpans: lists of spans that are marked and put behind. -/
import Derived.Test.YtjplllglnbmjgaaMk
namespace Go.Proofs.Ytjplllglnbmjgaa
open Go.RowKit Go.Lib
set_option linter.unusedVariables false
set_option linter.unusedSimpArgs false
theorem Try.info42' : (Try.prog.info? 42).map (fun i => (i.zero, i.size, i.bytes)) = some (some (.agg #[.int .i64 0, .bool false, .int .u64 0, .int .u64 0, .int .i64 0, .int .i64 0, .int .i64 0]), 7, 56) := by kernel_rfl
/-- A row of spans in a block from S on and below T, of which the first c are of mk. -/
def MkT (X : World) (S T : Nat) (u : Value) (n c : Nat) (mk : Int) : Prop :=
  ∃ xs, X.ownsRow S 42 7 u n xs ∧ (∀ i, i < c → xs[i * 7]? = some (.int .i64 mk)) ∧ (∀ g, u.ownBlock = some g → g < T)
theorem own_lt {X : World} {S : Nat} {e : TypeId} {size : Nat} {u : Value} {n : Nat} {xs : List Value} (h : X.ownsRow S e size u n xs) : ∀ g, u.ownBlock = some g → S ≤ g ∧ g < X.heap.size := fun g e => h.lt g e
theorem MkT.of_own {X : World} {S : Nat} {u : Value} {l : List Sp} (h : SOwn X S u l) (mk : Int) : MkT X S X.heap.size u l.length 0 mk :=
  ⟨_, h, fun i hi => absurd hi (Nat.not_lt_zero _), fun g e => (own_lt h g e).2⟩
theorem own_stay {X Y : World} {S : Nat} {e : TypeId} {size : Nat} {u : Value} {n : Nat} {xs : List Value} (h : X.ownsRow S e size u n xs) (hk : ∀ g, u.ownBlock = some g → Y.heap[g]? = X.heap[g]?) : Y.ownsRow S e size u n xs := by
  obtain ⟨h0, hn | ⟨g, cap, cur, rfl, hg, hc, r⟩⟩ := h
  · exact ⟨h0, Or.inl hn⟩
  · exact ⟨h0, Or.inr ⟨g, cap, cur, rfl, hg, (hk g rfl).trans hc, r⟩⟩
theorem own_base {X : World} {S S' : Nat} {e : TypeId} {size : Nat} {u : Value} {n : Nat} {xs : List Value} (h : X.ownsRow S e size u n xs) (hs : S' ≤ S) : X.ownsRow S' e size u n xs :=
  ⟨h.1, h.2.imp id fun ⟨g, cap, cur, he, hg, r⟩ => ⟨g, cap, cur, he, Nat.le_trans hs hg, r⟩⟩
theorem MkT.stay {X Y : World} {S T : Nat} {u : Value} {n c : Nat} {mk : Int} (h : MkT X S T u n c mk) (hk : ∀ g, S ≤ g → g < T → g < X.heap.size → Y.heap[g]? = X.heap[g]?) : MkT Y S T u n c mk := by
  obtain ⟨xs, h1, h2, h3⟩ := h
  exact ⟨xs, own_stay h1 (fun g e => hk g (own_lt h1 g e).1 (h3 g e) (own_lt h1 g e).2), h2, h3⟩
theorem MkT.below {X Y : World} {S T : Nat} {u : Value} {n c : Nat} {mk : Int} (h : MkT X S T u n c mk) (hb : Below X.heap.size X Y) : MkT Y S T u n c mk := h.stay fun g _ _ hg => hb.block g hg
theorem MkT.fewer {X : World} {S T : Nat} {u : Value} {n c c' : Nat} {mk : Int} (h : MkT X S T u n c mk) (hc : c' ≤ c) : MkT X S T u n c' mk := by
  obtain ⟨xs, p, q, r⟩ := h
  exact ⟨xs, p, fun i hi => q i (by omega), r⟩
/-- Where it lies, if it is not empty. -/
theorem MkT.spot {X : World} {S T : Nat} {u : Value} {n c : Nat} {mk : Int} (h : MkT X S T u n c mk) :
    (u = .slice Option.none 0 0 ∧ n = 0) ∨ ∃ g cap, u = .slice (some ⟨g, 0, Option.none⟩) n cap ∧ n ≤ cap ∧ cap ≤ maxLen ∧ S ≤ g ∧ g < T ∧ g < X.heap.size ∧
      (∀ i j, i < n → j < 7 → ∃ v, X.cell? ⟨g, i * 7 + j, Option.none⟩ = some v) ∧ (∀ i, X.frozen? ⟨g, i, Option.none⟩ = false) ∧ (∀ i, i < c → i < n → X.cell? ⟨g, i * 7, Option.none⟩ = some (.int .i64 mk)) := by
  obtain ⟨xs, ⟨h0, hn | ⟨g, cap, cur, rfl, hg, hc, r1, r2, r3, r4⟩⟩, q, r⟩ := h
  · exact .inl hn
  · refine .inr ⟨g, cap, rfl, r1, r2, hg, r g rfl, lt_of_heap hc, fun i j hi hj => ?_, fun i => free_of hc i, fun i hi hn => ?_⟩
    · have hlt : i * 7 + j < cur.size := by omega
      exact ⟨_, cell_of hc (Array.getElem?_eq_getElem hlt)⟩
    · have e := q i hi
      rw [← r4, List.getElem?_take_of_lt (by omega)] at e
      exact cell_of hc (by simpa using e)
theorem MkT.put0 {X : World} {S T : Nat} {n c : Nat} {mk : Int} {g cap : Nat} (h : MkT X S T (.slice (some ⟨g, 0, Option.none⟩) n cap) n c mk) (hc : c < n) :
    MkT (X.setCell ⟨g, c * 7, Option.none⟩ (.int .i64 mk)) S T (.slice (some ⟨g, 0, Option.none⟩) n cap) n (c + 1) mk := by
  obtain ⟨xs, ⟨h0, hn | ⟨g', cap', cur, he, hg, hh, r1, r2, r3, r4⟩⟩, q, r⟩ := h
  · simp at hn
  · simp only [Value.slice.injEq, Option.some.injEq, Addr.mk.injEq, true_and, and_true] at he
    obtain ⟨rfl, rfl⟩ := he
    have hlen : xs.length = n * 7 := h0
    refine ⟨xs.set (c * 7) (.int .i64 mk), ⟨by simp [hlen], .inr ⟨g, cap, _, rfl, hg, heap_set hh _, r1, r2, by simp [r3], ?_⟩⟩, fun i hi => ?_, r⟩
    · rw [← r4, Array.toList_setIfInBounds, List.take_set]
    · rw [List.getElem?_set]
      by_cases e : i = c
      · subst e; rw [if_pos rfl, if_pos (by omega)]
      · rw [if_neg (by omega)]; exact q i (by omega)
theorem MkT.putj {X : World} {S T : Nat} {n c : Nat} {mk : Int} {g cap : Nat} (h : MkT X S T (.slice (some ⟨g, 0, Option.none⟩) n cap) n c mk) (k j : Nat) (hj : 0 < j) (hj7 : j < 7) (v : Value) :
    MkT (X.setCell ⟨g, k * 7 + j, Option.none⟩ v) S T (.slice (some ⟨g, 0, Option.none⟩) n cap) n c mk := by
  obtain ⟨xs, ⟨h0, hn | ⟨g', cap', cur, he, hg, hh, r1, r2, r3, r4⟩⟩, q, r⟩ := h
  · simp at hn
  · simp only [Value.slice.injEq, Option.some.injEq, Addr.mk.injEq, true_and, and_true] at he
    obtain ⟨rfl, rfl⟩ := he
    have hlen : xs.length = n * 7 := h0
    refine ⟨xs.set (k * 7 + j) v, ⟨by simp [hlen], .inr ⟨g, cap, _, rfl, hg, heap_set hh _, r1, r2, by simp [r3], ?_⟩⟩, fun i hi => ?_, r⟩
    · rw [← r4, Array.toList_setIfInBounds, List.take_set]
    · rw [List.getElem?_set, if_neg (by omega)]; exact q i hi
/-- A span whose Who is x and nothing else. -/
def put7 (X : World) (g k : Nat) (x : Int) : World :=
  ((((((X.setCell ⟨g, k * 7, none⟩ (.int .i64 x)).setCell ⟨g, k * 7 + 1, none⟩ (.bool false)).setCell ⟨g, k * 7 + 2, none⟩ (.int .u64 0)).setCell ⟨g, k * 7 + 3, none⟩ (.int .u64 0)).setCell ⟨g, k * 7 + 4, none⟩ (.int .i64 0)).setCell ⟨g, k * 7 + 5, none⟩ (.int .i64 0)).setCell ⟨g, k * 7 + 6, none⟩ (.int .i64 0)
theorem MkT.put {X : World} {S T : Nat} {n c : Nat} {mk : Int} {g cap : Nat} (h : MkT X S T (.slice (some ⟨g, 0, Option.none⟩) n cap) n c mk) (hc : c < n) :
    MkT (put7 X g c mk) S T (.slice (some ⟨g, 0, Option.none⟩) n cap) n (c + 1) mk :=
  ((((((h.put0 hc).putj c 1 (by decide) (by decide) _).putj c 2 (by decide) (by decide) _).putj c 3 (by decide) (by decide) _).putj c 4 (by decide) (by decide) _).putj c 5 (by decide) (by decide) _).putj c 6 (by decide) (by decide) _
theorem put7_heap {X : World} {g k : Nat} {x : Int} {b : Nat} (h : b ≠ g) : (put7 X g k x).heap[b]? = X.heap[b]? := by
  unfold put7
  rw [Below.heap_setCell _ _ _ _ h, Below.heap_setCell _ _ _ _ h, Below.heap_setCell _ _ _ _ h, Below.heap_setCell _ _ _ _ h, Below.heap_setCell _ _ _ _ h, Below.heap_setCell _ _ _ _ h, Below.heap_setCell _ _ _ _ h]
theorem put7_size {X : World} {g k : Nat} {x : Int} : (put7 X g k x).heap.size = X.heap.size := by simp [put7, World.setCell]
/-- What appends to a list of [S, T) may turn: its own block, and blocks from B on. -/
structure Tch (S T B : Nat) (X Y : World) : Prop where
  os : Y.os = X.os
  tape : Y.tape = X.tape
  output : Y.output = X.output
  size : X.heap.size ≤ Y.heap.size
  same : ∀ j, j < X.heap.size → (j < S ∨ T ≤ j) → j < B → Y.heap[j]? = X.heap[j]?
theorem Tch.of_below {S T B : Nat} {X Y : World} (h : Below X.heap.size X Y) : Tch S T B X Y :=
  ⟨h.os, h.tape, h.output, h.size, fun j hj _ _ => h.block j hj⟩
theorem Tch.refl (S T B : Nat) (X : World) : Tch S T B X X := Tch.of_below (Below.refl _ _)
theorem Tch.trans {S T B : Nat} {X Y Z : World} (h : Tch S T B X Y) (k : Tch S T B Y Z) : Tch S T B X Z :=
  ⟨k.os.trans h.os, k.tape.trans h.tape, k.output.trans h.output, Nat.le_trans h.size k.size, fun j hj h1 h2 => (k.same j (Nat.lt_of_lt_of_le hj h.size) h1 h2).trans (h.same j hj h1 h2)⟩
theorem Tch.below {S T B A : Nat} {a X Y : World} (h : Below A a X) (k : Tch S T B X Y) (h1 : A ≤ S) (h2 : A ≤ B) (h3 : A ≤ X.heap.size) : Below A a Y :=
  h.trans ⟨k.os, k.tape, k.output, k.size, fun i hi => k.same i (by omega) (.inl (by omega)) (by omega)⟩
theorem tch_in {X Y : World} {S T B g : Nat} (hg : (S ≤ g ∧ g < T) ∨ B ≤ g) (h3 : X.grownBy Y (some g)) : Tch S T B X Y :=
  ⟨h3.os, h3.tape, h3.output, h3.size, fun j hj h4 h5 => h3.block j hj (fun e => by simp only [Option.some.injEq] at e; omega)⟩
theorem tch_new {X Y : World} {S T B : Nat} (h3 : X.grownBy Y Option.none) : Tch S T B X Y :=
  ⟨h3.os, h3.tape, h3.output, h3.size, fun j hj _ _ => h3.block j hj (fun e => by cases e)⟩
/-- A list u of [S, T) that is marked whole, and x: u with more behind it. -/
def ST (X : World) (S T B : Nat) (u x : Value) (n k : Nat) (mk : Int) : Prop :=
  (MkT X S T u n n mk ∧ ∃ ys, X.ownsRow B 42 7 x k ys) ∨
  (∃ g cap xs, u = .slice (some ⟨g, 0, Option.none⟩) n cap ∧ x = .slice (some ⟨g, 0, Option.none⟩) k cap ∧ n ≤ k ∧ g < T ∧ X.ownsRow S 42 7 x k xs ∧ ∀ i, i < n → xs[i * 7]? = some (.int .i64 mk))
theorem ST.start {X : World} {S T B : Nat} {u : Value} {n : Nat} {mk : Int} (h : MkT X S T u n n mk) : ST X S T B u u n n mk := by
  obtain ⟨xs, h1, q, r⟩ := id h
  rcases id h1 with ⟨h0, ⟨rfl, rfl⟩ | ⟨g, cap, cur, rfl, rest⟩⟩
  · exact .inl ⟨h, [], World.ownsRow_nil X _ 42 7⟩
  · exact .inr ⟨g, cap, xs, rfl, rfl, Nat.le_refl _, r g rfl, h1, q⟩
theorem ST.marks {X : World} {S T B : Nat} {u x : Value} {n k : Nat} {mk : Int} (h : ST X S T B u x n k mk) : MkT X S T u n n mk := by
  rcases h with h | ⟨g, cap, xs, rfl, rfl, hnk, hg, ⟨h0, hn | ⟨g', cap', cur, he, hg', hc, r1, r2, r3, r4⟩⟩, q⟩
  · exact h.1
  · simp at hn
  · simp only [Value.slice.injEq, Option.some.injEq, Addr.mk.injEq, true_and, and_true] at he
    obtain ⟨rfl, rfl⟩ := he
    refine ⟨xs.take (n * 7), ⟨by rw [List.length_take]; omega, .inr ⟨g, cap, cur, rfl, hg', hc, by omega, r2, r3, ?_⟩⟩, fun i hi => ?_, fun g' e => by cases e; exact hg⟩
    · rw [← r4, List.take_take, Nat.min_eq_left (by omega)]
    · rw [List.getElem?_take_of_lt (by omega)]; exact q i hi
/-- 'append(x, Span{Who: 77})', x as ST has it. -/
theorem wpList_append_st {X : World} {ops : Array Oper} {rest : List Oper} {o : Oper} {a : Act} {Q : Exit → Act → World → Prop} (hgd : o.guard = Option.none) (s x : Operand)
    (ho : o.op = .call { callee := .builtin .append, args := #[s, x], argTypes := #[23, 23] }) (i : TypeInfo) (hi : Try.prog.info? 42 = some i) (hz : i.zero = some (.agg #[.int .i64 0, .bool false, .int .u64 0, .int .u64 0, .int .i64 0, .int .i64 0, .int .i64 0])) (hsize : i.size = 7) (hby : i.bytes = 56)
    (S T B : Nat) (u v : Value) (n k : Nat) (mk : Int) (hs : a.eval s = v) (hst : ST X S T B u v n k mk) (hB : B ≤ X.heap.size) (hT : T ≤ B) (hm : k ≤ 300000) (hx : a.eval x = .slice (some ⟨X.heap.size, 0, Option.none⟩) 1 1)
    (h : ∀ v' w', ST w' S T B u v' n (k + 1) mk → Tch S T B X w' → wpList Try.prog ops Q rest (a.put o.dst v') w') : wpList Try.prog ops Q (o :: rest) a (X.alloc (.cells #[.int .i64 77, .bool false, .int .u64 0, .int .u64 0, .int .i64 0, .int .i64 0, .int .i64 0] 42)) := by
  obtain ⟨N, hN⟩ : ∃ N : Array Value, N = #[.int .i64 77, .bool false, .int .u64 0, .int .u64 0, .int .i64 0, .int .i64 0, .int .i64 0] := ⟨_, rfl⟩
  have hN7 : N.toList.length = 1 * 7 := by rw [hN]; rfl
  have hN1 : ∀ u ∈ N.toList, u.oneCell' = true := by rw [hN]; simp [Value.oneCell']
  rw [← hN]
  clear hN
  have hb1 : Below X.heap.size X (X.alloc (.cells N 42)) := below_alloc (Below.refl _ _) _
  have ht1 : Tch S T B X (X.alloc (.cells N 42)) := Tch.of_below hb1
  have hsz1 : (X.alloc (.cells N 42)).heap.size = X.heap.size + 1 := by simp
  have hnews := arr_at X N 42
  -- what grows anew
  have grow : ∀ (ao : Option Addr) (cap : Nat) (olds : List Value), v = .slice ao k cap → (ao = Option.none → k = 0 ∧ cap = 0) → olds.length = k * 7 → (∀ b, ao = some b → ∀ j u, olds[j]? = some u → (X.alloc (.cells N 42)).cell? (b.add j) = some u) → cap < k + 1 → MkT X S T u n n mk →
      wpList Try.prog ops Q (o :: rest) a (X.alloc (.cells N 42)) := by
    intro ao cap olds hv hn hl holds hfull hmk
    refine wpList_append_grows _ hgd s x 23 ho 42 i _ 7 56 Try.underlying23 hi hz hsize hby rfl (by decide) ao k cap olds (by rw [hs, hv]) hn hl holds ⟨X.heap.size, 0, Option.none⟩ 1 1 N.toList hx hN7 hnews hN1 hfull (by unfold maxLen; omega) (by omega) ?_
    intro v' w' h1 h2
    have ht2 : Tch S T B X w' := ht1.trans (tch_new h2)
    refine h v' w' (.inl ⟨hmk.stay (fun g h3 h4 h5 => ?_), _, own_base h1 (by omega)⟩) ht2
    exact (h2.block g (by omega) (fun e => by cases e)).trans (hb1.block g h5)
  rcases hst with ⟨hmk, ys, hown⟩ | ⟨g, cap, xs, rfl, rfl, hnk, hg, hown, q⟩
  · rcases id hown with ⟨h0, ⟨rfl, rfl⟩ | ⟨g, cap, cur, rfl, hg, hc, r1, r2, r3, r4⟩⟩
    · exact grow Option.none 0 [] rfl (fun _ => ⟨rfl, rfl⟩) rfl (fun b e => by cases e) (by omega) hmk
    · by_cases hr : k + 1 ≤ cap
      · have hown1 := hown.alloc (.cells N 42)
        refine wpList_append_fits _ hgd s x 23 ho B 42 i 7 Try.underlying23 hi hsize g k cap ys hs hown1 ⟨X.heap.size, 0, Option.none⟩ 1 1 N.toList hx hN7 hnews hN1 hr ?_
        intro w' h1 h2
        refine h _ w' (.inl ⟨hmk.stay (fun g' h3 h4 h5 => ?_), _, h1⟩) (ht1.trans (tch_in (.inr hg) h2))
        exact (h2.block g' (by omega) (fun e => by simp only [Option.some.injEq] at e; omega)).trans (hb1.block g' h5)
      · refine grow (some ⟨g, 0, Option.none⟩) cap ys rfl (fun e => by cases e) h0 (fun b e j u hj => ?_) (by omega) hmk
        cases e
        exact (hown.alloc (.cells N 42)).cells (g := g) rfl j u hj
  · have hgs := own_lt hown g rfl
    by_cases hr : k + 1 ≤ cap
    · have hown1 := hown.alloc (.cells N 42)
      refine wpList_append_fits _ hgd s x 23 ho S 42 i 7 Try.underlying23 hi hsize g k cap xs hs hown1 ⟨X.heap.size, 0, Option.none⟩ 1 1 N.toList hx hN7 hnews hN1 hr ?_
      intro w' h1 h2
      refine h _ w' (.inr ⟨g, cap, _, rfl, rfl, by omega, hg, h1, fun i hi => ?_⟩) (ht1.trans (tch_in (.inl ⟨hgs.1, hg⟩) h2))
      rw [List.getElem?_append_left (by have := hown.1; omega)]
      exact q i hi
    · refine grow (some ⟨g, 0, Option.none⟩) cap xs rfl (fun e => by cases e) hown.1 (fun b e j u hj => ?_) (by omega) (ST.marks (B := B) (.inr ⟨g, cap, xs, rfl, rfl, hnk, hg, hown, q⟩))
      cases e
      exact (hown.alloc (.cells N 42)).cells (g := g) rfl j u hj
/-- Five lists in a row, so far marked. -/
structure OS (A G B : Nat) (vs : Nat → Value) (ns S T c : Nat → Nat) (W : World) : Prop where
  cel : ∀ i, i < 5 → W.cell? ⟨G, i, none⟩ = some (vs i)
  l : ∀ i, i < 5 → MkT W (S i) (T i) (vs i) (ns i) (c i) (1000 + (i : Int))
  dis : ∀ i j, i < 5 → j < 5 → i ≠ j → T i ≤ S j ∨ T j ≤ S i
  gn : ∀ i, i < 5 → G < S i ∨ T i ≤ G
  bd : ∀ i, i < 5 → ns i ≤ 2000 ∧ A ≤ S i ∧ T i ≤ B
  lo : A ≤ B ∧ G < B ∧ B ≤ W.heap.size
section
variable {A G B : Nat} {vs : Nat → Value} {ns S T c : Nat → Nat} {W Y : World}
theorem OS.mono {c' : Nat → Nat} (h : OS A G B vs ns S T c W) (hc : ∀ i, i < 5 → c' i ≤ c i) : OS A G B vs ns S T c' W :=
  ⟨h.cel, fun i hi => (h.l i hi).fewer (hc i hi), h.dis, h.gn, h.bd, h.lo⟩
theorem OS.put {i k g n cap : Nat} (h : OS A G B vs ns S T c W) (hi : i < 5) (hv : vs i = .slice (some ⟨g, 0, none⟩) n cap) (hn : n = ns i) (hk : k < n) (hc : c i = k) (hg : S i ≤ g ∧ g < T i) :
    OS A G B vs ns S T (fun j => if j = i then k + 1 else c j) (put7 W g k (1000 + (i : Int))) := by
  have hG := h.gn i hi
  refine ⟨fun j hj => ?_, fun j hj => ?_, h.dis, h.gn, h.bd, h.lo.1, h.lo.2.1, by rw [put7_size]; exact h.lo.2.2⟩
  · have := h.cel j hj
    unfold World.cell? at this ⊢
    rw [put7_heap (show G ≠ g by omega)]
    exact this
  · by_cases e : j = i
    · subst e
      simp only [if_true]
      have hl := h.l j hj
      rw [hv, ← hn, hc] at hl
      rw [hv, ← hn]
      exact hl.put hk
    · simp only [if_neg e]
      refine (h.l j hj).stay fun b h1 h2 _ => put7_heap ?_
      have := h.dis j i hj hi e
      omega
theorem OS.tch {i : Nat} (h : OS A G B vs ns S T ns W) (hi : i < 5) (ht : Tch (S i) (T i) B W Y) (hm : MkT Y (S i) (T i) (vs i) (ns i) (ns i) (1000 + (i : Int))) : OS A G B vs ns S T ns Y := by
  have hG := h.gn i hi
  have hlo := h.lo
  refine ⟨fun j hj => ?_, fun j hj => ?_, h.dis, h.gn, h.bd, hlo.1, hlo.2.1, Nat.le_trans hlo.2.2 ht.size⟩
  · have := h.cel j hj
    unfold World.cell? at this ⊢
    rw [ht.same G (by omega) (by omega) hlo.2.1]
    exact this
  · by_cases e : j = i
    · subst e; exact hm
    · refine (h.l j hj).stay fun b h1 h2 h3 => ht.same b h3 ?_ ?_
      · have := h.dis j i hj hi e; omega
      · have := (h.bd j hj).2.2; omega
end
end Go.Proofs.Ytjplllglnbmjgaa
