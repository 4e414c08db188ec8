/- Lists of tasks that are marked and put behind: rows of one's own that grow, in place or anew. -/
import Derived.Test.YtajcoimeeohnoaaTo
import Derived.Test.YtajcoimeeohnoaaRg
import Derived.OwnWalk
import Derived.ArgAppend
namespace Go.Proofs.Ytajcoimeeohnoaa
open Go.RowKit Go.Lib
set_option linter.unusedVariables false
set_option linter.unusedSimpArgs false
/-- A row of tasks in a block from S on and below T, of which the first c keys are mk. -/
def MkT (X : World) (S T : Nat) (u : Value) (n c : Nat) (mk : Int) : Prop :=
  ∃ xs, X.ownsRow S 34 2 u n xs ∧ (∀ i, i < c → xs[i * 2]? = some (.int .u64 mk)) ∧ (∀ g, u.ownBlock = some g → g < T)
theorem own_lt {X : World} {S : Nat} {e : TypeId} {size : Nat} {u : Value} {n : Nat} {xs : List Value} (h : X.ownsRow S e size u n xs) : ∀ g, u.ownBlock = some g → S ≤ g ∧ g < X.heap.size := fun g e => h.lt g e
theorem MkT.of_own {X : World} {S : Nat} {u : Value} {l : List Tk} (h : TOwn X S u l) (mk : Int) : MkT X S X.heap.size u l.length 0 mk :=
  ⟨_, h, fun i hi => absurd hi (Nat.not_lt_zero _), fun g e => (own_lt h g e).2⟩
/-- An owned row in a block that stays. -/
theorem own_stay {X Y : World} {S : Nat} {e : TypeId} {size : Nat} {u : Value} {n : Nat} {xs : List Value} (h : X.ownsRow S e size u n xs) (hk : ∀ g, u.ownBlock = some g → Y.heap[g]? = X.heap[g]?) : Y.ownsRow S e size u n xs := by
  obtain ⟨h0, hn | ⟨g, cap, cur, rfl, hg, hc, r⟩⟩ := h
  · exact ⟨h0, Or.inl hn⟩
  · exact ⟨h0, Or.inr ⟨g, cap, cur, rfl, hg, (hk g rfl).trans hc, r⟩⟩
theorem own_base {X : World} {S S' : Nat} {e : TypeId} {size : Nat} {u : Value} {n : Nat} {xs : List Value} (h : X.ownsRow S e size u n xs) (hs : S' ≤ S) : X.ownsRow S' e size u n xs :=
  ⟨h.1, h.2.imp id fun ⟨g, cap, cur, he, hg, r⟩ => ⟨g, cap, cur, he, Nat.le_trans hs hg, r⟩⟩
theorem MkT.stay {X Y : World} {S T : Nat} {u : Value} {n c : Nat} {mk : Int} (h : MkT X S T u n c mk) (hk : ∀ g, S ≤ g → g < T → g < X.heap.size → Y.heap[g]? = X.heap[g]?) : MkT Y S T u n c mk := by
  obtain ⟨xs, h1, h2, h3⟩ := h
  exact ⟨xs, own_stay h1 (fun g e => hk g (own_lt h1 g e).1 (h3 g e) (own_lt h1 g e).2), h2, h3⟩
theorem MkT.below {X Y : World} {S T : Nat} {u : Value} {n c : Nat} {mk : Int} (h : MkT X S T u n c mk) (hb : Below X.heap.size X Y) : MkT Y S T u n c mk := h.stay fun g _ _ hg => hb.block g hg
theorem MkT.wide {X : World} {S S' T T' : Nat} {u : Value} {n c : Nat} {mk : Int} (h : MkT X S T u n c mk) (h1 : S' ≤ S) (h2 : T ≤ T') : MkT X S' T' u n c mk := by
  obtain ⟨xs, p, q, r⟩ := h
  exact ⟨xs, own_base p h1, q, fun g e => Nat.lt_of_lt_of_le (r g e) h2⟩
theorem MkT.none {X : World} {S T : Nat} {u : Value} {n c c' : Nat} {mk mk' : Int} (h : MkT X S T u n c mk) (hc : c' = 0) : MkT X S T u n c' mk' := by
  obtain ⟨xs, p, q, r⟩ := h
  exact ⟨xs, p, fun i hi => by omega, r⟩
/-- Where it lies, if it is not empty. -/
theorem MkT.spot {X : World} {S T : Nat} {u : Value} {n c : Nat} {mk : Int} (h : MkT X S T u n c mk) :
    (u = .slice Option.none 0 0 ∧ n = 0) ∨ ∃ g cap, u = .slice (some ⟨g, 0, Option.none⟩) n cap ∧ n ≤ cap ∧ cap ≤ maxLen ∧ S ≤ g ∧ g < T ∧ g < X.heap.size ∧
      (∀ i, i < n → ∃ v, X.cell? ⟨g, i * 2, Option.none⟩ = some v) ∧ (∀ i, X.frozen? ⟨g, i, Option.none⟩ = false) ∧ (∀ i, i < c → i < n → X.cell? ⟨g, i * 2, Option.none⟩ = some (.int .u64 mk)) := by
  obtain ⟨xs, ⟨h0, hn | ⟨g, cap, cur, rfl, hg, hc, r1, r2, r3, r4⟩⟩, q, r⟩ := h
  · exact .inl hn
  · refine .inr ⟨g, cap, rfl, r1, r2, hg, r g rfl, lt_of_heap hc, fun i hi => ?_, fun i => free_of hc i, fun i hi hn => ?_⟩
    · have hlt : i * 2 < cur.size := by omega
      exact ⟨_, cell_of hc (Array.getElem?_eq_getElem hlt)⟩
    · have e := q i hi
      rw [← r4, List.getElem?_take_of_lt (by omega)] at e
      exact cell_of hc (by simpa using e)
theorem MkT.put {X : World} {S T : Nat} {n c : Nat} {mk : Int} {g cap : Nat} (h : MkT X S T (.slice (some ⟨g, 0, Option.none⟩) n cap) n c mk) (hc : c < n) :
    MkT (X.setCell ⟨g, c * 2, Option.none⟩ (.int .u64 mk)) S T (.slice (some ⟨g, 0, Option.none⟩) n cap) n (c + 1) mk := by
  obtain ⟨xs, ⟨h0, hn | ⟨g', cap', cur, he, hg, hh, r1, r2, r3, r4⟩⟩, q, r⟩ := h
  · simp at hn
  · simp only [Value.slice.injEq, Option.some.injEq, Addr.mk.injEq, true_and, and_true] at he
    obtain ⟨rfl, rfl⟩ := he
    have hlen : xs.length = n * 2 := h0
    refine ⟨xs.set (c * 2) (.int .u64 mk), ⟨by simp [hlen], .inr ⟨g, cap, _, rfl, hg, heap_set hh _, r1, r2, by simp [r3], ?_⟩⟩, fun i hi => ?_, r⟩
    · rw [← r4, Array.toList_setIfInBounds, List.take_set]
    · rw [List.getElem?_set]
      by_cases e : i = c
      · subst e; rw [if_pos rfl, if_pos (by omega)]
      · rw [if_neg (by omega)]; exact q i (by omega)
/-- What appends to a list of [S, T) may turn: its own block, and blocks from B on; what is a row of tasks stays one of its size. -/
structure Tch (S T B : Nat) (X Y : World) : Prop where
  os : Y.os = X.os
  tape : Y.tape = X.tape
  output : Y.output = X.output
  size : X.heap.size ≤ Y.heap.size
  same : ∀ j, j < X.heap.size → (j < S ∨ T ≤ j) → j < B → Y.heap[j]? = X.heap[j]?
  shape : ∀ (j : Nat) (cur : Array Value), X.heap[j]? = some (.cells cur 34 (0, 0)) → ∃ cur' : Array Value, Y.heap[j]? = some (.cells cur' 34 (0, 0)) ∧ cur'.size = cur.size
theorem Tch.of_below {S T B : Nat} {X Y : World} (h : Below X.heap.size X Y) : Tch S T B X Y :=
  ⟨h.os, h.tape, h.output, h.size, fun j hj _ _ => h.block j hj, fun j cur e => ⟨cur, (h.block j (lt_of_heap e)).trans e, rfl⟩⟩
theorem Tch.trans {S T B : Nat} {X Y Z : World} (h : Tch S T B X Y) (k : Tch S T B Y Z) : Tch S T B X Z :=
  ⟨k.os.trans h.os, k.tape.trans h.tape, k.output.trans h.output, Nat.le_trans h.size k.size, fun j hj h1 h2 => (k.same j (Nat.lt_of_lt_of_le hj h.size) h1 h2).trans (h.same j hj h1 h2), fun j cur e => by
    obtain ⟨c1, e1, s1⟩ := h.shape j cur e
    obtain ⟨c2, e2, s2⟩ := k.shape j c1 e1
    exact ⟨c2, e2, s2.trans s1⟩⟩
theorem Tch.below {S T B A : Nat} {a X Y : World} (h : Below A a X) (k : Tch S T B X Y) (h1 : A ≤ S) (h2 : A ≤ B) (h3 : A ≤ X.heap.size) : Below A a Y :=
  h.trans ⟨k.os, k.tape, k.output, k.size, fun i hi => k.same i (by omega) (.inl (by omega)) (by omega)⟩
/-- A list that was moved: a row in a block from B on. -/
def RoomT (X : World) (B : Nat) (y : Value) (k : Nat) : Prop := ∃ ys, X.ownsRow B 34 2 y k ys
theorem RoomT.tch {X Y : World} {S T B : Nat} {y : Value} {k : Nat} (h : RoomT X B y k) (ht : Tch S T B X Y) : RoomT Y B y k := by
  obtain ⟨ys, h0, hn | ⟨g, cap, cur, rfl, hg, hc, r1, r2, r3, r4⟩⟩ := h
  · exact ⟨ys, h0, .inl hn⟩
  · obtain ⟨cur', hc', hs'⟩ := ht.shape g cur hc
    refine ⟨cur'.toList.take (k * 2), ?_, .inr ⟨g, cap, cur', rfl, hg, hc', r1, r2, by omega, rfl⟩⟩
    rw [List.length_take]; simp; omega
/-- A list u of [S, T) whose n keys are mk, and x: u with more behind it. -/
def ST (X : World) (S T B : Nat) (u x : Value) (n k : Nat) (mk : Int) : Prop :=
  (MkT X S T u n n mk ∧ RoomT X B x k) ∨
  (∃ g cap xs, u = .slice (some ⟨g, 0, Option.none⟩) n cap ∧ x = .slice (some ⟨g, 0, Option.none⟩) k cap ∧ n ≤ k ∧ g < T ∧ X.ownsRow S 34 2 x k xs ∧ ∀ i, i < n → xs[i * 2]? = some (.int .u64 mk))
theorem ST.start {X : World} {S T B : Nat} {u : Value} {n : Nat} {mk : Int} (h : MkT X S T u n n mk) : ST X S T B u u n n mk := by
  obtain ⟨xs, h1, q, r⟩ := id h
  rcases id h1 with ⟨h0, ⟨rfl, rfl⟩ | ⟨g, cap, cur, rfl, rest⟩⟩
  · exact .inl ⟨h, [], World.ownsRow_nil X _ 34 2⟩
  · exact .inr ⟨g, cap, xs, rfl, rfl, Nat.le_refl _, r g rfl, h1, q⟩
theorem ST.marks {X : World} {S T B : Nat} {u x : Value} {n k : Nat} {mk : Int} (h : ST X S T B u x n k mk) : MkT X S T u n n mk := by
  rcases h with h | ⟨g, cap, xs, rfl, rfl, hnk, hg, ⟨h0, hn | ⟨g', cap', cur, he, hg', hc, r1, r2, r3, r4⟩⟩, q⟩
  · exact h.1
  · simp at hn
  · simp only [Value.slice.injEq, Option.some.injEq, Addr.mk.injEq, true_and, and_true] at he
    obtain ⟨rfl, rfl⟩ := he
    refine ⟨xs.take (n * 2), ⟨by rw [List.length_take]; omega, .inr ⟨g, cap, cur, rfl, hg', hc, by omega, r2, r3, ?_⟩⟩, fun i hi => ?_, fun g' e => by cases e; exact hg⟩
    · rw [← r4, List.take_take, Nat.min_eq_left (by omega)]
    · rw [List.getElem?_take_of_lt (by omega)]; exact q i hi
theorem ST.tch {X Y : World} {S T B S' T' : Nat} {u x : Value} {n k : Nat} {mk : Int} (h : ST X S T B u x n k mk) (ht : Tch S' T' B X Y) (hd : T ≤ S' ∨ T' ≤ S) (hB : T ≤ B) : ST Y S T B u x n k mk := by
  have hk : ∀ g, S ≤ g → g < T → g < X.heap.size → Y.heap[g]? = X.heap[g]? := fun g h1 h2 h3 => ht.same g h3 (by omega) (by omega)
  rcases h with ⟨h1, h2⟩ | ⟨g, cap, xs, rfl, rfl, hnk, hg, ho, q⟩
  · exact .inl ⟨h1.stay hk, h2.tch ht⟩
  · exact .inr ⟨g, cap, xs, rfl, rfl, hnk, hg, own_stay ho (fun g' e => by cases e; exact hk g (own_lt ho g rfl).1 hg (own_lt ho g rfl).2), q⟩
theorem tch_in {X Y : World} {S T B g : Nat} {k cap : Nat} {xs ys : List Value} {S0 : Nat} (hg : (S ≤ g ∧ g < T) ∨ B ≤ g) (h1 : X.ownsRow S0 34 2 (.slice (some ⟨g, 0, Option.none⟩) k cap) k xs) (h2 : Y.ownsRow S0 34 2 (.slice (some ⟨g, 0, Option.none⟩) (k + 1) cap) (k + 1) ys) (h3 : X.grownBy Y (some g)) : Tch S T B X Y := by
  refine ⟨h3.os, h3.tape, h3.output, h3.size, fun j hj h4 h5 => h3.block j hj (fun e => ?_), fun j cur e => ?_⟩
  · simp only [Option.some.injEq] at e; omega
  · by_cases hj : j = g
    · subst hj
      obtain ⟨_, hn | ⟨g', cap', cur', he, _, hc', _, _, r3, _⟩⟩ := h2
      · simp at hn
      · simp only [Value.slice.injEq, Option.some.injEq, Addr.mk.injEq, true_and, and_true] at he
        obtain ⟨rfl, rfl⟩ := he
        obtain ⟨_, hn | ⟨g', cap', cur2, he, _, hc2, _, _, s3, _⟩⟩ := h1
        · simp at hn
        · simp only [Value.slice.injEq, Option.some.injEq, Addr.mk.injEq, true_and, and_true] at he
          obtain ⟨rfl, rfl⟩ := he
          rw [hc2] at e
          simp only [Option.some.injEq, Obj.cells.injEq, and_true] at e
          exact ⟨cur', hc', by rw [r3, ← e, s3]⟩
    · exact ⟨cur, (h3.block j (lt_of_heap e) (fun e => by simp only [Option.some.injEq] at e; exact hj e)).trans e, rfl⟩
theorem tch_new {X Y : World} {S T B : Nat} (h3 : X.grownBy Y Option.none) : Tch S T B X Y :=
  ⟨h3.os, h3.tape, h3.output, h3.size, fun j hj _ _ => h3.block j hj (fun e => by cases e), fun j cur e => ⟨cur, (h3.block j (lt_of_heap e) (fun e => by cases e)).trans e, rfl⟩⟩
/-- 'append(x, Task{Key: y})', x as ST has it. -/
theorem wpList_append_st {X : World} {ops : Array Oper} {rest : List Oper} {o : Oper} {a : Act} {Q : Exit → Act → World → Prop} (hgd : o.guard = Option.none) (s x : Operand)
    (ho : o.op = .call { callee := .builtin .append, args := #[s, x], argTypes := #[24, 24] }) (i : TypeInfo) (hi : Try.prog.info? 34 = some i) (hz : i.zero = some (.agg #[.int .u64 0, .int .u64 0])) (hsize : i.size = 2) (hby : i.bytes = 16)
    (S T B : Nat) (u v : Value) (n k : Nat) (mk y : Int) (hs : a.eval s = v) (hst : ST X S T B u v n k mk) (hB : B ≤ X.heap.size) (hT : T ≤ B) (hm : k ≤ 300000) (hx : a.eval x = .slice (some ⟨X.heap.size, 0, Option.none⟩) 1 1)
    (h : ∀ v' w', ST w' S T B u v' n (k + 1) mk → Tch S T B X w' → wpList Try.prog ops Q rest (a.put o.dst v') w') : wpList Try.prog ops Q (o :: rest) a (X.alloc (.cells #[.int .u64 y, .int .u64 0] 34)) := by
  have hb1 : Below X.heap.size X (X.alloc (.cells #[.int .u64 y, .int .u64 0] 34)) := below_alloc (Below.refl _ _) _
  have ht1 : Tch S T B X (X.alloc (.cells #[.int .u64 y, .int .u64 0] 34)) := Tch.of_below hb1
  have hsz1 : (X.alloc (.cells #[.int .u64 y, .int .u64 0] 34)).heap.size = X.heap.size + 1 := by simp
  have hnews := two_at X (.int .u64 y) (.int .u64 0) 34
  -- what grows anew
  have grow : ∀ (ao : Option Addr) (cap : Nat) (olds : List Value), v = .slice ao k cap → (ao = Option.none → k = 0 ∧ cap = 0) → olds.length = k * 2 → (∀ b, ao = some b → ∀ j u, olds[j]? = some u → (X.alloc (.cells #[.int .u64 y, .int .u64 0] 34)).cell? (b.add j) = some u) → cap < k + 1 → MkT X S T u n n mk →
      wpList Try.prog ops Q (o :: rest) a (X.alloc (.cells #[.int .u64 y, .int .u64 0] 34)) := by
    intro ao cap olds hv hn hl holds hfull hmk
    refine wpList_append_grows _ hgd s x 24 ho 34 i (.agg #[.int .u64 0, .int .u64 0]) 2 16 Try.underlying24 hi hz hsize hby rfl (by decide) ao k cap olds (by rw [hs, hv]) hn hl holds ⟨X.heap.size, 0, Option.none⟩ 1 1 [.int .u64 y, .int .u64 0] hx rfl hnews (by simp [Value.oneCell']) hfull (by unfold maxLen; omega) (by omega) ?_
    intro v' w' h1 h2
    have ht2 : Tch S T B X w' := ht1.trans (tch_new h2)
    refine h v' w' (.inl ⟨hmk.stay (fun g h3 h4 h5 => ?_), _, own_base h1 (by omega)⟩) ht2
    exact (h2.block g (by omega) (fun e => by cases e)).trans (hb1.block g h5)
  rcases hst with ⟨hmk, ys, hown⟩ | ⟨g, cap, xs, rfl, rfl, hnk, hg, hown, q⟩
  · rcases id hown with ⟨h0, ⟨rfl, rfl⟩ | ⟨g, cap, cur, rfl, hg, hc, r1, r2, r3, r4⟩⟩
    · exact grow Option.none 0 [] rfl (fun _ => ⟨rfl, rfl⟩) rfl (fun b e => by cases e) (by omega) hmk
    · by_cases hr : k + 1 ≤ cap
      · have hown1 := hown.alloc (.cells #[.int .u64 y, .int .u64 0] 34)
        refine wpList_append_fits _ hgd s x 24 ho B 34 i 2 Try.underlying24 hi hsize g k cap ys hs hown1 ⟨X.heap.size, 0, Option.none⟩ 1 1 [.int .u64 y, .int .u64 0] hx rfl hnews (by simp [Value.oneCell']) hr ?_
        intro w' h1 h2
        refine h _ w' (.inl ⟨hmk.stay (fun g' h3 h4 h5 => ?_), _, h1⟩) (ht1.trans (tch_in (.inr hg) hown1 h1 h2))
        exact (h2.block g' (by omega) (fun e => by simp only [Option.some.injEq] at e; omega)).trans (hb1.block g' h5)
      · refine grow (some ⟨g, 0, Option.none⟩) cap ys rfl (fun e => by cases e) h0 (fun b e j u hj => ?_) (by omega) hmk
        cases e
        exact (hown.alloc (.cells #[.int .u64 y, .int .u64 0] 34)).cells (g := g) rfl j u hj
  · have hgs := own_lt hown g rfl
    by_cases hr : k + 1 ≤ cap
    · have hown1 := hown.alloc (.cells #[.int .u64 y, .int .u64 0] 34)
      refine wpList_append_fits _ hgd s x 24 ho S 34 i 2 Try.underlying24 hi hsize g k cap xs hs hown1 ⟨X.heap.size, 0, Option.none⟩ 1 1 [.int .u64 y, .int .u64 0] hx rfl hnews (by simp [Value.oneCell']) hr ?_
      intro w' h1 h2
      refine h _ w' (.inr ⟨g, cap, _, rfl, rfl, by omega, hg, h1, fun i hi => ?_⟩) (ht1.trans (tch_in (.inl ⟨hgs.1, hg⟩) hown1 h1 h2))
      rw [List.getElem?_append_left (by have := hown.1; omega)]
      exact q i hi
    · refine grow (some ⟨g, 0, Option.none⟩) cap xs rfl (fun e => by cases e) hown.1 (fun b e j u hj => ?_) (by omega) (ST.marks (B := B) (.inr ⟨g, cap, xs, rfl, rfl, hnk, hg, hown, q⟩))
      cases e
      exact (hown.alloc (.cells #[.int .u64 y, .int .u64 0] 34)).cells (g := g) rfl j u hj
end Go.Proofs.Ytajcoimeeohnoaa
