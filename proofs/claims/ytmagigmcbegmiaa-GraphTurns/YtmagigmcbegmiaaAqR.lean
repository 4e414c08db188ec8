import Derived.Test.YtmagigmcbegmiaaGU
import Derived.OwnWalk
import Derived.ArgAppend
import Derived.Deep.AppendLies
/- Lists of numbers that lie each in a block of its own: written over, grown one behind the other, and looked at. -/
namespace Go.Proofs.Ytmagigmcbegmiaa
open Go.RowKit Go.Lib
set_option linter.unusedVariables false
set_option linter.unusedSimpArgs false
theorem ownA_stay {X Y : World} {S : Nat} {e : TypeId} {size : Nat} {u : Value} {n : Nat} {xs : List Value} (h : X.ownsRow S e size u n xs) (hk : ∀ g, u.ownBlock = some g → Y.heap[g]? = X.heap[g]?) : Y.ownsRow S e size u n xs := by
  obtain ⟨h0, hn | ⟨g, cap, cur, rfl, hg, hc, r⟩⟩ := h
  · exact ⟨h0, Or.inl hn⟩
  · exact ⟨h0, Or.inr ⟨g, cap, cur, rfl, hg, (hk g rfl).trans hc, r⟩⟩
theorem ownA_type {X : World} {S : Nat} {e : TypeId} {size : Nat} {u : Value} {n : Nat} {xs : List Value} (h : X.ownsRow S e size u n xs) {b : Nat} (hb : u.ownBlock = some b) : ∃ cur, X.heap[b]? = some (.cells cur e (0, 0)) := by
  obtain ⟨h0, ⟨rfl, _⟩ | ⟨g, cap, cur, rfl, hg, hc, r⟩⟩ := h
  · cases hb
  · cases hb; exact ⟨cur, hc⟩
/-- Rows of two types never lie in one block. -/
theorem ownA_ne {X : World} {S S' : Nat} {e e' : TypeId} {size size' : Nat} {u u' : Value} {n n' : Nat} {xs xs' : List Value} (h : X.ownsRow S e size u n xs) (h' : X.ownsRow S' e' size' u' n' xs') (he : e ≠ e') {b : Nat} (hb : u.ownBlock = some b) : u'.ownBlock ≠ some b := by
  intro hb'
  obtain ⟨c, hc⟩ := ownA_type h hb
  obtain ⟨c', hc'⟩ := ownA_type h' hb'
  rw [hc] at hc'
  cases hc'
  exact he rfl
theorem ownA_base {X : World} {S S' : Nat} {e : TypeId} {size : Nat} {u : Value} {n : Nat} {xs : List Value} (h : X.ownsRow S e size u n xs) (hs : S' ≤ S) : X.ownsRow S' e size u n xs :=
  ⟨h.1, h.2.imp id fun ⟨g, cap, cur, he, hg, r⟩ => ⟨g, cap, cur, he, Nat.le_trans hs hg, r⟩⟩
/-- An append of one cell: the row that it makes, and that all rows of its kind stay which are not longer, if they lie in its block. -/
theorem wpList_append_keeps {P : Program} {X : World} {ops : Array Oper} {rest : List Oper} {o : Oper} {a : Act} {Q : Exit → Act → World → Prop} (hgd : o.guard = none) (s x : Operand) (t : TypeId)
    (ho : o.op = .call { callee := .builtin .append, args := #[s, x], argTypes := #[t, t] })
    (base : Nat) (e : TypeId) (i : TypeInfo) (z : Value) (bytes : Nat) (ht : P.underlying t = some (.slice e)) (hi : P.info? e = some i) (hz : i.zero = some z)
    (hsize : i.size = 1) (hby : i.bytes = bytes) (hzs : z.cells.size = 1)
    (v : Value) (n : Nat) (xs : List Value) (hs : a.eval s = v) (hown : X.ownsRow base e 1 v n xs)
    (y : Value) (hx : a.eval x = .slice (some ⟨X.heap.size, 0, none⟩) 1 1) (hy : y.oneCell' = true)
    (h63 : n + 1 ≤ maxLen) (hbytes : (n + 1) * bytes ≤ 140737488355328) (hbase : base ≤ X.heap.size)
    (h : ∀ v' w', w'.ownsRow base e 1 v' (n + 1) (xs ++ [y]) → X.grownBy w' v.ownBlock → (∀ b, v'.ownBlock = some b → v.ownBlock = some b ∨ X.heap.size ≤ b) →
      (∀ b u m us, X.ownsRow b e 1 u m us → (∀ g, u.ownBlock = some g → v.ownBlock = some g → m ≤ n) → w'.ownsRow b e 1 u m us) → wpList P ops Q rest (a.put o.dst v') w') : wpList P ops Q (o :: rest) a (X.alloc (.cells #[y] e)) := by
  have hnews : ∀ j u, [y][j]? = some u → (X.alloc (.cells #[y] e)).cell? ((⟨X.heap.size, 0, none⟩ : Addr).add j) = some u := World.news_of_block (heap_new X _)
  have hown1 := hown.alloc (.cells #[y] e)
  have hal : ∀ k, k < X.heap.size → (X.alloc (.cells #[y] e)).heap[k]? = X.heap[k]? := fun k hk => ((Below.refl X.heap.size X).alloc (Nat.le_refl _) _).block k hk
  have hsz1 : (X.alloc (.cells #[y] e)).heap.size = X.heap.size + 1 := by simp
  have gby : ∀ {Y : World} {row : Option Nat}, (X.alloc (.cells #[y] e)).grownBy Y row → X.grownBy Y row := fun {Y} {row} g => ⟨g.os, g.tape, g.output, by have := g.size; omega, fun k hk hn => (g.block k (by omega) hn).trans (hal k hk)⟩
  have grow : ∀ (ao : Option Addr) (cap : Nat), v = .slice ao n cap → (ao = none → n = 0 ∧ cap = 0) → (∀ b, ao = some b → ∀ j u, xs[j]? = some u → (X.alloc (.cells #[y] e)).cell? (b.add j) = some u) → cap < n + 1 →
      wpList P ops Q (o :: rest) a (X.alloc (.cells #[y] e)) := by
    intro ao cap hv hn holds hfull
    refine wpList_append_grows _ hgd s x t ho e i z 1 bytes ht hi hz hsize hby hzs (by decide) ao n cap xs (by rw [hs, hv]) hn hown.1 holds ⟨X.heap.size, 0, none⟩ 1 1 [y] hx rfl hnews (by simpa using hy) hfull h63 hbytes ?_
    intro v' w' h1 h2
    have h2' := gby h2
    refine h v' w' (ownA_base h1 (by omega)) ⟨h2'.os, h2'.tape, h2'.output, h2'.size, fun k hk _ => h2'.block k hk (by simp)⟩ (fun b hb => .inr (by have := (h1.lt b hb).1; omega)) (fun b u m us hu _ => ownA_stay hu (fun g hg => h2'.block g (hu.lt g hg).2 (by simp)))
  rcases id hown with ⟨h0, ⟨rfl, rfl⟩ | ⟨g, cap, cur, rfl, hg, hc, r1, r2, r3, r4⟩⟩
  · exact grow none 0 rfl (fun _ => ⟨rfl, rfl⟩) (fun b e => by cases e) (by omega)
  · by_cases hr : n + 1 ≤ cap
    · refine wpList_append_fits _ hgd s x t ho base e i 1 ht hi hsize g n cap xs hs hown1 ⟨X.heap.size, 0, none⟩ 1 1 [y] hx rfl hnews (by simpa using hy) hr ?_
      intro w' h1 h2
      refine h _ w' h1 (gby h2) (fun b hb => .inl hb) (fun b u m us hu hle => ?_)
      by_cases hug : u.ownBlock = some g
      · have hle := hle g hug rfl
        obtain ⟨_, ⟨q, _⟩ | ⟨g', cap', cur', q, hg', hc', s1, s2, s3, s4⟩⟩ := h1
        · cases q
        · cases q
          obtain ⟨u0, ⟨rfl, _⟩ | ⟨g2, cap2, cur2, rfl, hg2, hc2, t1, t2, t3, t4⟩⟩ := hu
          · cases hug
          · cases hug
            rw [hc] at hc2
            cases hc2
            have hcc : cap2 = cap := by omega
            subst hcc
            refine ⟨u0, .inr ⟨_, cap2, cur', rfl, hg2, hc', t1, t2, s3, ?_⟩⟩
            have e1 : cur'.toList.take (m * 1) = (cur'.toList.take ((n + 1) * 1)).take (m * 1) := by rw [List.take_take, Nat.min_eq_left (by omega)]
            rw [e1, s4, ← t4, List.take_append_of_le_length (by have := hown.1; omega), ← r4, List.take_take, Nat.min_eq_left (by omega)]
      · exact ownA_stay hu (fun g' hg' => (gby h2).block g' (hu.lt g' hg').2 (fun q => hug (hg'.trans (by simpa using q))))
    · refine grow (some ⟨g, 0, none⟩) cap rfl (fun e => by cases e) (fun b q j u hj => ?_) (by omega)
      cases q
      exact hown1.cells (g := g) rfl j u hj
/-- Lists of numbers, each in a block of its own. -/
structure LsO (k : IntKind) (e : TypeId) (w : World) (base : Nat) (L : List Value) (ls : List (List Int)) : Prop where
  len : ls.length = L.length
  own : ∀ (i : Nat) (v : Value) (l : List Int), L[i]? = some v → ls[i]? = some l → w.ownsRow base e 1 v l.length (l.map (Value.int k))
  apart : ∀ (i j : Nat) (u v : Value) (b : Nat), L[i]? = some u → L[j]? = some v → u.ownBlock = some b → v.ownBlock = some b → i = j
/-- One place of one list is written. -/
theorem LsO.put {k : IntKind} {e : TypeId} {w : World} {base : Nat} {L : List Value} {ls : List (List Int)} (h : LsO k e w base L ls) {i j g c : Nat} {l : List Int} (hv : L[i]? = some (.slice (some ⟨g, 0, none⟩) l.length c)) (hl : ls[i]? = some l) (hj : j < l.length) (m : Int) :
    LsO k e (w.setCell ⟨g, j, none⟩ (.int k m)) base L (ls.set i (l.set j m)) := by
  refine ⟨by simp [h.len], fun p v q hp hq => ?_, h.apart⟩
  by_cases hpi : p = i
  · subst hpi
    have hlt : p < ls.length := (List.getElem?_eq_some_iff.mp hl).1
    rw [List.getElem?_set_self hlt] at hq
    cases hq
    rw [hv] at hp
    cases hp
    obtain ⟨h0, ⟨q, _⟩ | ⟨g', cap', cur', q, hg', hc', s1, s2, s3, s4⟩⟩ := h.own _ _ _ hv hl
    · cases q
    · cases q
      refine ⟨by simp, .inr ⟨g, c, _, by simp, hg', heap_set hc' _, by simpa using s1, s2, by simpa using s3, ?_⟩⟩
      rw [List.length_set, Array.toList_setIfInBounds, List.take_set, s4, List.map_set]
  · rw [List.getElem?_set_ne (fun q => hpi q.symm)] at hq
    have ho := h.own _ _ _ hp hq
    refine ownA_stay ho (fun b hb => ?_)
    have hne : b ≠ g := fun q => hpi (h.apart p i v _ b hp hv hb (by simp [Value.ownBlock, q]))
    simp [World.setCell, Array.getElem?_modify, Ne.symm hne]
/-- What only writes into the lists' own blocks, and makes memory. -/
structure Ft (L : List Value) (w w' : World) : Prop where
  os : w'.os = w.os
  tape : w'.tape = w.tape
  output : w'.output = w.output
  size : w.heap.size ≤ w'.heap.size
  block : ∀ b, b < w.heap.size → (∀ u ∈ L, u.ownBlock ≠ some b) → w'.heap[b]? = w.heap[b]?
theorem Ft.refl (L : List Value) (w : World) : Ft L w w := ⟨rfl, rfl, rfl, Nat.le_refl _, fun _ _ _ => rfl⟩
theorem Ft.drewN {L : List Value} {w w' : World} (h : Ft L w w') (n : Nat) : Ft L w (w'.drewN n) := ⟨h.os, h.tape, h.output, h.size, h.block⟩
theorem Ft.alloc {L : List Value} {w w' : World} (h : Ft L w w') (o : Obj) : Ft L w (w'.alloc o) :=
  ⟨h.os, h.tape, h.output, by have := h.size; simp; omega, fun b hb hu => (Below.heap_alloc _ _ _ (Nat.lt_of_lt_of_le hb h.size)).trans (h.block b hb hu)⟩
theorem Ft.set {L : List Value} {w w' : World} (h : Ft L w w') {g j n c : Nat} (hu : .slice (some ⟨g, 0, none⟩) n c ∈ L) (v : Value) : Ft L w (w'.setCell ⟨g, j, none⟩ v) := by
  refine ⟨h.os, h.tape, h.output, by simpa [World.setCell] using h.size, fun b hb hn => ?_⟩
  have hne : b ≠ g := fun q => hn _ hu (by simp [Value.ownBlock, q])
  rw [← h.block b hb hn]
  simp [World.setCell, Array.getElem?_modify, Ne.symm hne]
theorem Ft.grown {L : List Value} {w w' w'' : World} {row : Option Nat} (h : Ft L w w') (g : w'.grownBy w'' row) (hr : ∀ b, row = some b → (∃ u ∈ L, u.ownBlock = some b) ∨ w.heap.size ≤ b) : Ft L w w'' := by
  refine ⟨g.os.trans h.os, g.tape.trans h.tape, g.output.trans h.output, Nat.le_trans h.size g.size, fun b hb hn => (g.block b (Nat.lt_of_lt_of_le hb h.size) (fun q => ?_)).trans (h.block b hb hn)⟩
  rcases hr b q.symm with ⟨u, hu, hb'⟩ | hb'
  · exact hn u hu hb'
  · omega
/-- All lists show their marks, and those that have grown. -/
structure AP (k : IntKind) (e : TypeId) (w : World) (base : Nat) (mk : Nat → Int) (ns : Nat → Nat) (L M : List Value) : Prop where
  ownL : ∀ (i : Nat) (v : Value), L[i]? = some v → w.ownsRow base e 1 v (ns i) (List.replicate (ns i) (.int k (mk i)))
  ownM : ∀ (i : Nat) (v : Value), M[i]? = some v → w.ownsRow base e 1 v (ns i + 20) (List.replicate (ns i + 20) (.int k (mk i)))
  apart : ∀ (i j : Nat) (u v : Value) (b : Nat), (L[i]? = some u ∨ M[i]? = some u) → (L[j]? = some v ∨ M[j]? = some v) → u.ownBlock = some b → v.ownBlock = some b → i = j
theorem LsO.marked {k : IntKind} {e : TypeId} {w : World} {base : Nat} {L : List Value} {ls : List (List Int)} (h : LsO k e w base L ls) (mk : Nat → Int) (ns : Nat → Nat) (hm : ∀ i l, ls[i]? = some l → l = List.replicate (ns i) (mk i)) : AP k e w base mk ns L [] := by
  refine ⟨fun i v hv => ?_, fun i v hv => by simp at hv, fun i j u v b h1 h2 h3 h4 => ?_⟩
  · have hlt : i < ls.length := by rw [h.len]; exact (List.getElem?_eq_some_iff.mp hv).1
    have hl : ls[i]? = some ls[i] := List.getElem?_eq_getElem hlt
    have := h.own i v _ hv hl
    rw [hm i _ hl] at this
    simpa using this
  · simp only [List.getElem?_nil, reduceCtorEq, or_false] at h1 h2
    exact h.apart i j u v b h1 h2 h3 h4
theorem AP.stay {k : IntKind} {e : TypeId} {w w' : World} {base : Nat} {mk : Nat → Int} {ns : Nat → Nat} {L M : List Value} (h : AP k e w base mk ns L M) (hs : ∀ (b : Nat) (cur : Array Value), w.heap[b]? = some (.cells cur e (0, 0)) → w'.heap[b]? = w.heap[b]?) : AP k e w' base mk ns L M :=
  ⟨fun i v hv => ownA_stay (h.ownL i v hv) (fun g hg => let ⟨c, hc⟩ := ownA_type (h.ownL i v hv) hg; hs g c hc), fun i v hv => ownA_stay (h.ownM i v hv) (fun g hg => let ⟨c, hc⟩ := ownA_type (h.ownM i v hv) hg; hs g c hc), h.apart⟩
/-- One list grows. -/
structure GI (k : IntKind) (e : TypeId) (w : World) (base : Nat) (mk : Nat → Int) (ns : Nat → Nat) (L M : List Value) (H0 : Nat) (v : Value) (j : Nat) : Prop where
  ap : AP k e w base mk ns L M
  own : w.ownsRow base e 1 v (ns M.length + j) (List.replicate (ns M.length + j) (.int k (mk M.length)))
  apart : ∀ (p : Nat) (u : Value) (b : Nat), (L[p]? = some u ∨ M[p]? = some u) → u.ownBlock = some b → v.ownBlock = some b → p = M.length
  at_ : ∀ b, v.ownBlock = some b → (∃ u ∈ L, u.ownBlock = some b) ∨ H0 ≤ b
theorem AP.start {k : IntKind} {e : TypeId} {w : World} {base : Nat} {mk : Nat → Int} {ns : Nat → Nat} {L M : List Value} (h : AP k e w base mk ns L M) (H0 : Nat) {v : Value} (hv : L[M.length]? = some v) : GI k e w base mk ns L M H0 v 0 :=
  ⟨h, h.ownL _ _ hv, fun p u b h1 h2 h3 => h.apart p _ u v b h1 (.inl hv) h2 h3, fun b hb => .inl ⟨v, List.mem_of_getElem? hv, hb⟩⟩
theorem GI.step {k : IntKind} {e : TypeId} {w w' : World} {base : Nat} {mk : Nat → Int} {ns : Nat → Nat} {L M : List Value} {H0 : Nat} {v v' : Value} {j : Nat} (h : GI k e w base mk ns L M H0 v j) (hH : H0 ≤ w.heap.size)
    (h1 : w'.ownsRow base e 1 v' (ns M.length + j + 1) (List.replicate (ns M.length + j) (.int k (mk M.length)) ++ [.int k (mk M.length)])) (h3 : ∀ b, v'.ownBlock = some b → v.ownBlock = some b ∨ w.heap.size ≤ b)
    (h4 : ∀ b u m us, w.ownsRow b e 1 u m us → (∀ g, u.ownBlock = some g → v.ownBlock = some g → m ≤ ns M.length + j) → w'.ownsRow b e 1 u m us) : GI k e w' base mk ns L M H0 v' (j + 1) := by
  have ha := h.ap
  refine ⟨⟨fun i u hu => h4 _ _ _ _ (ha.ownL i u hu) (fun g q1 q2 => ?_), fun i u hu => h4 _ _ _ _ (ha.ownM i u hu) (fun g q1 q2 => ?_), ha.apart⟩, ?_, fun p u b hp q1 q2 => ?_, fun b hb => ?_⟩
  · have := h.apart i u g (.inl hu) q1 q2
    subst this; omega
  · have := h.apart i u g (.inr hu) q1 q2
    have := (List.getElem?_eq_some_iff.mp hu).1
    omega
  · rw [show ns M.length + (j + 1) = ns M.length + j + 1 from rfl, List.replicate_succ']
    exact h1
  · rcases h3 b q2 with q | q
    · exact h.apart p u b hp q1 q
    · have : b < w.heap.size := by
        rcases hp with hp | hp
        · exact ((ha.ownL p u hp).lt b q1).2
        · exact ((ha.ownM p u hp).lt b q1).2
      omega
  · rcases h3 b hb with q | q
    · exact h.at_ b q
    · exact .inr (by omega)
theorem GI.done {k : IntKind} {e : TypeId} {w : World} {base : Nat} {mk : Nat → Int} {ns : Nat → Nat} {L M : List Value} {H0 : Nat} {v : Value} (h : GI k e w base mk ns L M H0 v 20) : AP k e w base mk ns L (M ++ [v]) := by
  have hM : ∀ (i : Nat) (u : Value), (M ++ [v])[i]? = some u → M[i]? = some u ∨ (i = M.length ∧ u = v) := fun i u hu => by
    rw [List.getElem?_append] at hu
    split at hu
    · exact .inl hu
    · have h0 : i - M.length = 0 := by
        rcases Nat.eq_zero_or_pos (i - M.length) with q | q
        · exact q
        · rw [List.getElem?_eq_none (by simp; omega)] at hu; cases hu
      rw [h0] at hu
      simp at hu
      exact .inr ⟨by omega, hu.symm⟩
  have ha := h.ap
  have hs : ∀ (i : Nat) (u : Value), (L[i]? = some u ∨ (M ++ [v])[i]? = some u) → (L[i]? = some u ∨ M[i]? = some u) ∨ (i = M.length ∧ u = v) := fun i u hu => by
    rcases hu with hu | hu
    · exact .inl (.inl hu)
    · rcases hM i u hu with q | q
      · exact .inl (.inr q)
      · exact .inr q
  refine ⟨ha.ownL, fun i u hu => ?_, fun i j u u' b h1 h2 h3 h4 => ?_⟩
  · rcases hM i u hu with q | ⟨rfl, rfl⟩
    · exact ha.ownM i u q
    · exact h.own
  · rcases hs i u h1 with q1 | ⟨rfl, rfl⟩ <;> rcases hs j u' h2 with q2 | ⟨rfl, rfl⟩
    · exact ha.apart i j u u' b q1 q2 h3 h4
    · exact h.apart i u b q1 h3 h4
    · exact (h.apart j u' b q2 h4 h3).symm
    · rfl
end Go.Proofs.Ytmagigmcbegmiaa

/- intsApart: all lists are written full, each is grown, all are looked at. -/
namespace Go.Proofs.Ytmagigmcbegmiaa
open Go.RowKit Go.Lib
set_option linter.unusedVariables false
set_option linter.unusedSimpArgs false
/-- The lists while they are written over: i of them, and j places of the next. -/
structure P1 (mk : Nat → Int) (ns : Nat → Nat) (i j : Nat) (ls : List (List Int)) : Prop where
  len : ∀ (p : Nat) (l : List Int), ls[p]? = some l → l.length = ns p
  done : ∀ (p : Nat) (l : List Int), ls[p]? = some l → p < i → l = List.replicate (ns p) (mk p)
  part : ∀ (l : List Int), ls[i]? = some l → ∀ q, q < j → l[q]? = some (mk i)
def nsL (ls : List (List Int)) (p : Nat) : Nat := (ls[p]?.getD []).length
theorem P1.start (mk : Nat → Int) (ls : List (List Int)) : P1 mk (nsL ls) 0 0 ls :=
  ⟨fun p l h => by simp [nsL, h], fun p l _ h => by omega, fun l _ q h => by omega⟩
theorem P1.put {mk : Nat → Int} {ns : Nat → Nat} {i j : Nat} {ls : List (List Int)} (h : P1 mk ns i j ls) {l : List Int} (hl : ls[i]? = some l) (hj : j < l.length) : P1 mk ns i (j + 1) (ls.set i (l.set j (mk i))) := by
  have hlt : i < ls.length := (List.getElem?_eq_some_iff.mp hl).1
  refine ⟨fun p q hq => ?_, fun p q hq hp => ?_, fun q hq r hr => ?_⟩
  · by_cases hpi : p = i
    · subst hpi; rw [List.getElem?_set_self hlt] at hq; cases hq; simp [h.len _ _ hl]
    · rw [List.getElem?_set_ne (fun q => hpi q.symm)] at hq; exact h.len _ _ hq
  · rw [List.getElem?_set_ne (by omega)] at hq; exact h.done _ _ hq hp
  · rw [List.getElem?_set_self hlt] at hq; cases hq
    rw [List.getElem?_set]
    split
    · rfl
    · exact h.part l hl r (by omega)
theorem P1.next {mk : Nat → Int} {ns : Nat → Nat} {i j : Nat} {ls : List (List Int)} (h : P1 mk ns i j ls) {l : List Int} (hl : ls[i]? = some l) (hj : l.length ≤ j) : P1 mk ns (i + 1) 0 ls := by
  refine ⟨h.len, fun p q hq hp => ?_, fun _ _ q hq => by omega⟩
  by_cases hpi : p = i
  · subst hpi
    rw [hl] at hq; cases hq
    refine List.ext_getElem? fun r => ?_
    rw [List.getElem?_replicate, ← h.len _ _ hl]
    split
    · rename_i hr; exact h.part l hl r (by omega)
    · rename_i hr; exact List.getElem?_eq_none (by omega)
  · exact h.done _ _ hq (by omega)
theorem P1.all {mk : Nat → Int} {ns : Nat → Nat} {i : Nat} {ls : List (List Int)} (h : P1 mk ns i 0 ls) (hi : ls.length ≤ i) : ∀ p l, ls[p]? = some l → l = List.replicate (ns p) (mk p) :=
  fun p l hl => h.done p l hl (by have := (List.getElem?_eq_some_iff.mp hl).1; omega)
/-- A row of one's own: its value, and its cells. -/
theorem ownA_shape {X : World} {S : Nat} {e : TypeId} {u : Value} {n : Nat} {xs : List Value} (h : X.ownsRow S e 1 u n xs) :
    ∃ ao c, u = .slice ao n c ∧ n ≤ c ∧ c ≤ 9223372036854775807 ∧ ∀ i v, xs[i]? = some v → ∃ g, ao = some ⟨g, 0, none⟩ ∧ X.cell? ⟨g, i, none⟩ = some v ∧ X.frozen? ⟨g, i, none⟩ = false ∧ g < X.heap.size := by
  obtain ⟨h0, ⟨rfl, rfl⟩ | ⟨g, cap, cur, rfl, hg, hc, r1, r2, r3, r4⟩⟩ := h
  · refine ⟨none, 0, rfl, Nat.le_refl _, by omega, fun i v hv => ?_⟩
    rw [List.getElem?_eq_none (by omega)] at hv; cases hv
  · refine ⟨some ⟨g, 0, none⟩, cap, rfl, r1, r2, fun i v hv => ⟨g, rfl, ?_, free_of hc i, lt_of_heap hc⟩⟩
    have hlt : i < xs.length := (List.getElem?_eq_some_iff.mp hv).1
    rw [← r4, List.getElem?_take_of_lt (by omega)] at hv
    exact cell_of hc (by simpa using hv)
/-- The row of lists stays: it is of another type than they are. -/
theorem Ft.head {L : List Value} {w w' : World} {k : IntKind} {e t : TypeId} {base B : Nat} {ls : List (List Int)} {lv : Value} {n : Nat} {xs : List Value} (h : Ft L w w') (hl : LsO k e w base L ls) (hr : w.ownsRow B t 1 lv n xs) (ht : t ≠ e) : w'.ownsRow B t 1 lv n xs := by
  refine ownA_stay hr (fun g hg => h.block g (hr.lt g hg).2 (fun u hu hb => ?_))
  obtain ⟨i, hi⟩ := List.mem_iff_getElem?.mp hu
  have hlt : i < ls.length := by rw [hl.len]; exact (List.getElem?_eq_some_iff.mp hi).1
  exact ownA_ne hr (hl.own i u _ hi (List.getElem?_eq_getElem hlt)) ht hg hb
theorem Try.info22A : (Try.prog.info? 22).map (fun i => (i.zero, i.size, i.bytes)) = some (some (.slice none 0 0), 1, 24) := by kernel_rfl
theorem Try.info3A : (Try.prog.info? 3).map (fun i => (i.zero, i.size, i.bytes)) = some (some (.int .i64 0), 1, 8) := by kernel_rfl
theorem own_grown {X Y : World} {S S' : Nat} {e e' : TypeId} {u u' : Value} {n n' : Nat} {xs xs' : List Value} (h : X.ownsRow S e 1 u n xs) (h' : X.ownsRow S' e' 1 u' n' xs') (he : e ≠ e') (g : X.grownBy Y u'.ownBlock) : Y.ownsRow S e 1 u n xs :=
  ownA_stay h (fun b hb => g.block b (h.lt b hb).2 (fun q => ownA_ne h h' he hb q.symm))
set_option maxRecDepth 100000 in
set_option maxHeartbeats 8000000 in
theorem intsApart_any (base : Nat) (lv : Value) (L : List Value) (ls : List (List Int)) (w : World) (hrow : w.ownsRow 0 22 1 lv L.length L) (h : LsO .i64 3 w base L ls) (hn : L.length ≤ 1000) (hls : ∀ p, nsL ls p ≤ 1099511627776) (hbase : base ≤ w.heap.size) :
    Calls Try.prog 54 #[lv] w fun e w' => e = .returned (.bool true) ∧ Ft L w w' := by
  obtain ⟨i0, ti, tz0, tz1, tz2⟩ := info_parts3 Try.info3A
  obtain ⟨j0, tj, ty0, ty1, ty2⟩ := info_parts3 Try.info22A
  obtain ⟨ao, c, rfl, _, _, _⟩ := ownA_shape hrow
  have HH := hide (fun wr (hf : Ft L w wr) => hf.head h hrow (by decide))
  have HL0 := hide h
  obtain ⟨m, hm⟩ : ∃ m, m = L.length := ⟨_, rfl⟩
  have HM := hide hm
  rw [← hm] at hn HH ⊢
  have HN := hide hls
  clear hrow h hm hls
  go_enter Try.func54, Try.ntmps54
  go_wp2_with fail
  go_loopw [4, 5] (fun t _ wr => ∃ i : Nat, i ≤ m ∧ t = .int .i64 i ∧ ∃ ls', LsO .i64 3 wr base L ls' ∧ P1 (fun p => -1000 - (p : Int)) (nsL ls) i 0 ls' ∧ Ft L w wr) (fun t _ _ => m - (RowKit.intOf t).toNat)
  case atStart => exact ⟨0, by omega, rfl, ls, HL0.out, P1.start _ _, Ft.refl _ _⟩
  case round =>
    obtain ⟨i, him, rfl, ls', hl, hp, hf⟩ := hrel
    have HL := hide hl; have HP := hide hp; have HF := hide hf
    clear hl hp hf
    obtain ⟨n, hn'⟩ : ∃ n, n = nsL ls i := ⟨_, rfl⟩
    have HNI := hide hn'
    have hnb : n ≤ 1099511627776 := by rw [hn']; exact HN.out i
    clear hn'
    by_cases hi : i < m
    · have hii : (i : Int) < (m : Int) := by omega
      obtain ⟨v, hv⟩ : ∃ v, L[i]? = some v := ⟨_, List.getElem?_eq_getElem (by have := HM.out; omega)⟩
      obtain ⟨l, hl⟩ : ∃ l, ls'[i]? = some l := ⟨_, List.getElem?_eq_getElem (by have := HM.out; have := HL.out.len; omega)⟩
      obtain ⟨vo, vc, rfl, hvc1, hvc2, _⟩ := ownA_shape (HL.out.own i v l hv hl)
      rw [show l.length = n by rw [HNI.out, HP.out.len i l hl]] at hv hvc1
      have HV := hide hv
      clear hv hl
      go_wp2_with fail
      go_loopw [5] (fun t wr => ∃ j : Nat, j ≤ n ∧ t = .int .i64 j ∧ ∃ ls', LsO .i64 3 wr base L ls' ∧ P1 (fun p => -1000 - (p : Int)) (nsL ls) i j ls' ∧ Ft L w wr) (fun t _ => n - (RowKit.intOf t).toNat)
      case atStart => exact ⟨0, by omega, rfl, ls', HL.out, HP.out, HF.out⟩
      case round =>
        clear HL HP HF
        obtain ⟨j, hj, rfl, ls2, hl, hp, hf⟩ := hrel
        obtain ⟨ao2, c2, he, hc1, hc2, hcell⟩ := ownA_shape (HH.out _ hf)
        simp only [Value.slice.injEq, true_and] at he
        obtain ⟨rfl, rfl⟩ := he
        obtain ⟨g, rfl, hg1, hg2, _⟩ := hcell i _ HV.out
        have HL := hide hl; have HP := hide hp; have HF := hide hf
        clear hl hp hf hcell hc1
        by_cases hlt : j < n
        · have hji : (j : Int) < (n : Int) := by omega
          obtain ⟨l, hl⟩ : ∃ l, ls2[i]? = some l := ⟨_, List.getElem?_eq_getElem (by have := HM.out; have := HL.out.len; omega)⟩
          have hln : l.length = n := by rw [HNI.out, HP.out.len i l hl]
          obtain ⟨ao3, c3, he, _, _, hcell⟩ := ownA_shape (HL.out.own i _ l HV.out hl)
          simp only [Value.slice.injEq] at he
          obtain ⟨rfl, _, rfl⟩ := he
          obtain ⟨y, hy⟩ : ∃ y, l[j]? = some y := ⟨_, List.getElem?_eq_getElem (by omega)⟩
          obtain ⟨g', rfl, hd1, hd2, _⟩ := hcell j (.int .i64 y) (by rw [List.getElem?_map, hy]; rfl)
          clear hy
          have HLN := hide hln
          have HLI := hide hl
          clear hl hcell hln
          go_wp2_with fail
          refine ⟨⟨j + 1, by omega, by simp, ls2.set i (l.set j (-1000 - (i : Int))), ?_, ?_, ?_⟩, by simp [RowKit.intOf]; omega⟩
          · exact HL.out.put (c := vc) (by rw [HLN.out]; exact HV.out) HLI.out (by rw [HLN.out]; exact hlt) _
          · exact HP.out.put HLI.out (by rw [HLN.out]; exact hlt)
          · exact HF.out.set (List.mem_of_getElem? HV.out) _
        · have hji : ¬ (j : Int) < (n : Int) := by omega
          go_wp2_with fail
          refine ⟨⟨i + 1, by omega, by simp, ls2, HL.out, ?_, HF.out⟩, by simp [RowKit.intOf]; omega⟩
          obtain ⟨l, hl⟩ : ∃ l, ls2[i]? = some l := ⟨_, List.getElem?_eq_getElem (by have := HM.out; have := HL.out.len; omega)⟩
          exact HP.out.next hl (by rw [HP.out.len i l hl, ← HNI.out]; omega)
    · have hii : ¬ (i : Int) < (m : Int) := by omega
      have hap : AP .i64 3 wr base (fun p => -1000 - (p : Int)) (nsL ls) L [] := HL.out.marked _ _ (HP.out.all (by have := HM.out; have := HL.out.len; omega))
      have HA := hide hap
      clear HL HP hap HNI hnb hi him
      go_wp2_with fail
      clear hii
      go_loopw [3, 6, 7, 8] (fun mv t _ _ wr => ∃ i : Nat, i ≤ m ∧ t = .int .i64 i ∧ ∃ M, M.length = i ∧ AP .i64 3 wr base (fun p => -1000 - (p : Int)) (nsL ls) L M ∧ wr.ownsRow w.heap.size 22 1 mv i M ∧ Ft L w wr) (fun _ t _ _ _ => m - (RowKit.intOf t).toNat)
      case atStart => exact ⟨0, by omega, rfl, [], rfl, HA.out, World.ownsRow_nil _ _ _ _, HF.out⟩
      case round =>
        clear HA HF
        obtain ⟨i, him, rfl, M, hMl, ha, ho, hf⟩ := hrel
        have HA := hide ha; have HO := hide ho; have HF := hide hf; have HML := hide hMl
        clear ha ho hf hMl
        by_cases hi : i < m
        · have hii : (i : Int) < (m : Int) := by omega
          obtain ⟨v, hv⟩ : ∃ v, L[i]? = some v := ⟨_, List.getElem?_eq_getElem (by have := HM.out; omega)⟩
          obtain ⟨ao2, c2, he, hc1, hc2, hcell⟩ := ownA_shape (HH.out _ HF.out)
          simp only [Value.slice.injEq, true_and] at he
          obtain ⟨rfl, rfl⟩ := he
          obtain ⟨g, rfl, hg1, hg2, _⟩ := hcell i _ hv
          have hg0 : GI .i64 3 _ base (fun p => -1000 - (p : Int)) (nsL ls) L M w.heap.size v 0 := HA.out.start _ (by rw [HML.out]; exact hv)
          have HG := hide hg0
          clear hcell hg0 HA hc1 hv
          go_wp2_with fail
          clear hg1 hg2
          go_loopw [7, 8] (fun gv t wr => ∃ j : Nat, j ≤ 20 ∧ t = .int .i64 j ∧ GI .i64 3 wr base (fun p => -1000 - (p : Int)) (nsL ls) L M w.heap.size gv j ∧ wr.ownsRow w.heap.size 22 1 u3 i M ∧ Ft L w wr) (fun _ t _ => 20 - (RowKit.intOf t).toNat)
          case atStart => exact ⟨0, by omega, rfl, HG.out, HO.out, HF.out⟩
          case round =>
            clear HG HO HF
            obtain ⟨j, hj, rfl, hg, ho, hf⟩ := hrel
            have HG := hide hg; have HO := hide ho; have HF := hide hf
            obtain ⟨go, gc, hge, _, _, _⟩ := ownA_shape hg.own
            have HGE := hide hge
            clear hg ho hf hge
            have hnb := HN.out M.length
            by_cases hlt : j < 20
            · have hji : (j : Int) < 20 := by omega
              go_wp2_with (first
                | (at_builtin; refine wpList_append_keeps rfl (.tmp 48) (.tmp 51) 22 rfl base 3 i0 (.int .i64 0) 8 Try.underlying22 ti tz0 tz1 tz2 rfl u7 (nsL ls M.length + j) _ rfl HG.out.own (.int .i64 (-1000 - (i : Int))) rfl rfl (by unfold maxLen; omega) (by omega) (by have := HF.out.size; omega) ?_; intro v1 w1 k1 k2 k3 k4; have K1 := hide k1; have K2 := hide k2; have K3 := hide k3; have K4 := hide k4; clear k1 k2 k3 k4)
                | fail)
              refine ⟨⟨j + 1, by omega, by simp, ?_, own_grown HO.out HG.out.own (by decide) K2.out, HF.out.grown K2.out HG.out.at_⟩, by simp [RowKit.intOf]; omega⟩
              have hk1 := K1.out
              rw [← HML.out] at hk1
              exact HG.out.step HF.out.size hk1 K3.out K4.out
            · have hji : ¬ (j : Int) < 20 := by omega
              obtain rfl : j = 20 := by omega
              have hap := HG.out.done
              have HAP := hide hap
              have HOG := hide HG.out.own
              clear hap HG
              obtain rfl := HGE.out
              go_wp2_with (first
                | (at_builtin; refine wpList_append_keeps rfl (.tmp 53) (.tmp 55) 52 rfl w.heap.size 22 j0 (.slice none 0 0) 24 Try.underlying52 tj ty0 ty1 ty2 rfl u3 i M rfl HO.out (.slice go (nsL ls M.length + 20) gc) rfl rfl (by unfold maxLen; omega) (by omega) (by have := HF.out.size; omega) ?_; intro v1 w1 k1 k2 k3 k4; have K1 := hide k1; have K2 := hide k2; clear k1 k2 k3 k4)
                | fail)
              refine ⟨⟨i + 1, by omega, by simp, _, by simp [HML.out], HAP.out.stay (fun b cur hb => K2.out.block b (lt_of_heap hb) (fun q => ?_)), K1.out, HF.out.grown K2.out (fun b hb => .inr (HO.out.lt b hb).1)⟩, by simp [RowKit.intOf]; omega⟩
              obtain ⟨c9, h9⟩ := ownA_type HO.out q.symm
              rw [hb] at h9
              cases h9
        · have hii : ¬ (i : Int) < (m : Int) := by omega
          have hMm : M.length = m := by rw [HML.out]; omega
          have ho := HO.out
          rw [show i = m by omega] at ho
          clear HO HML
          have HML := hide hMm
          have HO := hide ho
          clear hMm ho
          go_wp2_with fail
          clear hi hii him
          obtain ⟨mo, mc, rfl, hmc1, hmc2, hmcell⟩ := ownA_shape HO.out
          have HMC := hide hmcell
          obtain ⟨ao2, c2, he, hc1, hc2, hcell⟩ := ownA_shape (HH.out _ HF.out)
          simp only [Value.slice.injEq, true_and] at he
          obtain ⟨rfl, rfl⟩ := he
          have HLC := hide hcell
          clear hmcell hcell
          go_loopw [9, 10] (fun t _ wx => ∃ p : Nat, p ≤ m ∧ t = .int .i64 p ∧ wx = wr) (fun t _ _ => m - (RowKit.intOf t).toNat)
          case atStart => exact ⟨0, by omega, rfl, rfl⟩
          case round =>
            obtain ⟨p, hpm, rfl, rfl⟩ := hrel
            by_cases hp : p < m
            · have hpi : (p : Int) < (m : Int) := by omega
              obtain ⟨v, hv⟩ : ∃ v, L[p]? = some v := ⟨_, List.getElem?_eq_getElem (by have := HM.out; omega)⟩
              obtain ⟨v', hv'⟩ : ∃ v', M[p]? = some v' := ⟨_, List.getElem?_eq_getElem (by have := HML.out; omega)⟩
              obtain ⟨g, rfl, hg1, hg2, _⟩ := HLC.out p _ hv
              obtain ⟨g', rfl, hd1, hd2, _⟩ := HMC.out p _ hv'
              obtain ⟨n, hn'⟩ : ∃ n, n = nsL ls p := ⟨_, rfl⟩
              have hnb : n ≤ 1099511627776 := by rw [hn']; exact HN.out p
              obtain ⟨vo, vc, rfl, hvc1, hvc2, hvcell⟩ := ownA_shape (HA.out.ownL p v hv)
              obtain ⟨xo, xc, rfl, hxc1, hxc2, hxcell⟩ := ownA_shape (HA.out.ownM p v' hv')
              rw [← hn'] at hg1 hd1 hvc1 hxc1 hvcell hxcell
              have HVC := hide hvcell; have HXC := hide hxcell
              clear hv hv' hn' hvcell hxcell
              go_wp2_with fail
              go_loopw [10] (fun t wx => ∃ j : Nat, j ≤ n + 20 ∧ t = .int .i64 j ∧ wx = wr) (fun t _ => n + 20 - (RowKit.intOf t).toNat)
              case atStart => exact ⟨0, by omega, rfl, rfl⟩
              case round =>
                obtain ⟨j, hj, rfl, rfl⟩ := hrel
                by_cases hlt : j < n + 20
                · have hji : (j : Int) < ((n : Int) + 20) := by omega
                  obtain ⟨gx, rfl, hx1, hx2, _⟩ := HXC.out j (.int .i64 (-1000 - (p : Int))) (by rw [List.getElem?_replicate, if_pos hlt])
                  by_cases hjn : j < n
                  · have hjni : (j : Int) < (n : Int) := by omega
                    obtain ⟨gv, rfl, hy1, hy2, _⟩ := HVC.out j (.int .i64 (-1000 - (p : Int))) (by rw [List.getElem?_replicate, if_pos hjn])
                    go_wp2_with fail
                    exact ⟨⟨j + 1, by omega, by simp, trivial⟩, by simp [RowKit.intOf]; omega⟩
                  · have hjni : ¬ (j : Int) < (n : Int) := by omega
                    go_wp2_with fail
                    exact ⟨⟨j + 1, by omega, by simp, trivial⟩, by simp [RowKit.intOf]; omega⟩
                · have hji : ¬ (j : Int) < ((n : Int) + 20) := by omega
                  go_wp2_with fail
                  exact ⟨⟨p + 1, by omega, by simp, trivial⟩, by simp [RowKit.intOf]; omega⟩
            · have hpi : ¬ (p : Int) < (m : Int) := by omega
              go_wp2_with fail
              go_ret
              exact ⟨rfl, HF.out⟩
end Go.Proofs.Ytmagigmcbegmiaa

/- wordsApart: the same of words. -/
namespace Go.Proofs.Ytmagigmcbegmiaa
open Go.RowKit Go.Lib
set_option linter.unusedVariables false
set_option linter.unusedSimpArgs false
theorem Try.info23A : (Try.prog.info? 23).map (fun i => (i.zero, i.size, i.bytes)) = some (some (.slice none 0 0), 1, 24) := by kernel_rfl
theorem Try.info48A : (Try.prog.info? 48).map (fun i => (i.zero, i.size, i.bytes)) = some (some (.int .u64 0), 1, 8) := by kernel_rfl
set_option maxRecDepth 100000 in
set_option maxHeartbeats 8000000 in
theorem wordsApart_any (base : Nat) (lv : Value) (L : List Value) (ls : List (List Int)) (w : World) (hrow : w.ownsRow 0 23 1 lv L.length L) (h : LsO .u64 48 w base L ls) (hn : L.length ≤ 1000) (hls : ∀ p, nsL ls p ≤ 1099511627776) (hbase : base ≤ w.heap.size) :
    Calls Try.prog 55 #[lv] w fun e w' => e = .returned (.bool true) ∧ Ft L w w' := by
  obtain ⟨i0, ti, tz0, tz1, tz2⟩ := info_parts3 Try.info48A
  obtain ⟨j0, tj, ty0, ty1, ty2⟩ := info_parts3 Try.info23A
  obtain ⟨ao, c, rfl, _, _, _⟩ := ownA_shape hrow
  have HH := hide (fun wr (hf : Ft L w wr) => hf.head h hrow (by decide))
  have HL0 := hide h
  obtain ⟨m, hm⟩ : ∃ m, m = L.length := ⟨_, rfl⟩
  have HM := hide hm
  rw [← hm] at hn HH ⊢
  have HN := hide hls
  clear hrow h hm hls
  go_enter Try.func55, Try.ntmps55
  go_wp2_with fail
  go_loopw [4, 5] (fun t _ wr => ∃ i : Nat, i ≤ m ∧ t = .int .i64 i ∧ ∃ ls', LsO .u64 48 wr base L ls' ∧ P1 (fun p => 5000 + (p : Int)) (nsL ls) i 0 ls' ∧ Ft L w wr) (fun t _ _ => m - (RowKit.intOf t).toNat)
  case atStart => exact ⟨0, by omega, rfl, ls, HL0.out, P1.start _ _, Ft.refl _ _⟩
  case round =>
    obtain ⟨i, him, rfl, ls', hl, hp, hf⟩ := hrel
    have HL := hide hl; have HP := hide hp; have HF := hide hf
    clear hl hp hf
    obtain ⟨n, hn'⟩ : ∃ n, n = nsL ls i := ⟨_, rfl⟩
    have HNI := hide hn'
    have hnb : n ≤ 1099511627776 := by rw [hn']; exact HN.out i
    clear hn'
    by_cases hi : i < m
    · have hii : (i : Int) < (m : Int) := by omega
      obtain ⟨v, hv⟩ : ∃ v, L[i]? = some v := ⟨_, List.getElem?_eq_getElem (by have := HM.out; omega)⟩
      obtain ⟨l, hl⟩ : ∃ l, ls'[i]? = some l := ⟨_, List.getElem?_eq_getElem (by have := HM.out; have := HL.out.len; omega)⟩
      obtain ⟨vo, vc, rfl, hvc1, hvc2, _⟩ := ownA_shape (HL.out.own i v l hv hl)
      rw [show l.length = n by rw [HNI.out, HP.out.len i l hl]] at hv hvc1
      have HV := hide hv
      clear hv hl
      go_wp2_with fail
      go_loopw [5] (fun t wr => ∃ j : Nat, j ≤ n ∧ t = .int .i64 j ∧ ∃ ls', LsO .u64 48 wr base L ls' ∧ P1 (fun p => 5000 + (p : Int)) (nsL ls) i j ls' ∧ Ft L w wr) (fun t _ => n - (RowKit.intOf t).toNat)
      case atStart => exact ⟨0, by omega, rfl, ls', HL.out, HP.out, HF.out⟩
      case round =>
        clear HL HP HF
        obtain ⟨j, hj, rfl, ls2, hl, hp, hf⟩ := hrel
        obtain ⟨ao2, c2, he, hc1, hc2, hcell⟩ := ownA_shape (HH.out _ hf)
        simp only [Value.slice.injEq, true_and] at he
        obtain ⟨rfl, rfl⟩ := he
        obtain ⟨g, rfl, hg1, hg2, _⟩ := hcell i _ HV.out
        have HL := hide hl; have HP := hide hp; have HF := hide hf
        clear hl hp hf hcell hc1
        by_cases hlt : j < n
        · have hji : (j : Int) < (n : Int) := by omega
          obtain ⟨l, hl⟩ : ∃ l, ls2[i]? = some l := ⟨_, List.getElem?_eq_getElem (by have := HM.out; have := HL.out.len; omega)⟩
          have hln : l.length = n := by rw [HNI.out, HP.out.len i l hl]
          obtain ⟨ao3, c3, he, _, _, hcell⟩ := ownA_shape (HL.out.own i _ l HV.out hl)
          simp only [Value.slice.injEq] at he
          obtain ⟨rfl, _, rfl⟩ := he
          obtain ⟨y, hy⟩ : ∃ y, l[j]? = some y := ⟨_, List.getElem?_eq_getElem (by omega)⟩
          obtain ⟨g', rfl, hd1, hd2, _⟩ := hcell j (.int .u64 y) (by rw [List.getElem?_map, hy]; rfl)
          clear hy
          have HLN := hide hln
          have HLI := hide hl
          clear hl hcell hln
          go_wp2_with fail
          refine ⟨⟨j + 1, by omega, by simp, ls2.set i (l.set j (5000 + (i : Int))), ?_, ?_, ?_⟩, by simp [RowKit.intOf]; omega⟩
          · exact HL.out.put (c := vc) (by rw [HLN.out]; exact HV.out) HLI.out (by rw [HLN.out]; exact hlt) _
          · exact HP.out.put HLI.out (by rw [HLN.out]; exact hlt)
          · exact HF.out.set (List.mem_of_getElem? HV.out) _
        · have hji : ¬ (j : Int) < (n : Int) := by omega
          go_wp2_with fail
          refine ⟨⟨i + 1, by omega, by simp, ls2, HL.out, ?_, HF.out⟩, by simp [RowKit.intOf]; omega⟩
          obtain ⟨l, hl⟩ : ∃ l, ls2[i]? = some l := ⟨_, List.getElem?_eq_getElem (by have := HM.out; have := HL.out.len; omega)⟩
          exact HP.out.next hl (by rw [HP.out.len i l hl, ← HNI.out]; omega)
    · have hii : ¬ (i : Int) < (m : Int) := by omega
      have hap : AP .u64 48 wr base (fun p => 5000 + (p : Int)) (nsL ls) L [] := HL.out.marked _ _ (HP.out.all (by have := HM.out; have := HL.out.len; omega))
      have HA := hide hap
      clear HL HP hap HNI hnb hi him
      go_wp2_with fail
      clear hii
      go_loopw [3, 6, 7, 8] (fun mv t _ _ wr => ∃ i : Nat, i ≤ m ∧ t = .int .i64 i ∧ ∃ M, M.length = i ∧ AP .u64 48 wr base (fun p => 5000 + (p : Int)) (nsL ls) L M ∧ wr.ownsRow w.heap.size 23 1 mv i M ∧ Ft L w wr) (fun _ t _ _ _ => m - (RowKit.intOf t).toNat)
      case atStart => exact ⟨0, by omega, rfl, [], rfl, HA.out, World.ownsRow_nil _ _ _ _, HF.out⟩
      case round =>
        clear HA HF
        obtain ⟨i, him, rfl, M, hMl, ha, ho, hf⟩ := hrel
        have HA := hide ha; have HO := hide ho; have HF := hide hf; have HML := hide hMl
        clear ha ho hf hMl
        by_cases hi : i < m
        · have hii : (i : Int) < (m : Int) := by omega
          obtain ⟨v, hv⟩ : ∃ v, L[i]? = some v := ⟨_, List.getElem?_eq_getElem (by have := HM.out; omega)⟩
          obtain ⟨ao2, c2, he, hc1, hc2, hcell⟩ := ownA_shape (HH.out _ HF.out)
          simp only [Value.slice.injEq, true_and] at he
          obtain ⟨rfl, rfl⟩ := he
          obtain ⟨g, rfl, hg1, hg2, _⟩ := hcell i _ hv
          have hg0 : GI .u64 48 _ base (fun p => 5000 + (p : Int)) (nsL ls) L M w.heap.size v 0 := HA.out.start _ (by rw [HML.out]; exact hv)
          have HG := hide hg0
          clear hcell hg0 HA hc1 hv
          go_wp2_with fail
          clear hg1 hg2
          go_loopw [7, 8] (fun gv t wr => ∃ j : Nat, j ≤ 20 ∧ t = .int .i64 j ∧ GI .u64 48 wr base (fun p => 5000 + (p : Int)) (nsL ls) L M w.heap.size gv j ∧ wr.ownsRow w.heap.size 23 1 u3 i M ∧ Ft L w wr) (fun _ t _ => 20 - (RowKit.intOf t).toNat)
          case atStart => exact ⟨0, by omega, rfl, HG.out, HO.out, HF.out⟩
          case round =>
            clear HG HO HF
            obtain ⟨j, hj, rfl, hg, ho, hf⟩ := hrel
            have HG := hide hg; have HO := hide ho; have HF := hide hf
            obtain ⟨go, gc, hge, _, _, _⟩ := ownA_shape hg.own
            have HGE := hide hge
            clear hg ho hf hge
            have hnb := HN.out M.length
            by_cases hlt : j < 20
            · have hji : (j : Int) < 20 := by omega
              go_wp2_with (first
                | (at_builtin; refine wpList_append_keeps rfl (.tmp 49) (.tmp 53) 23 rfl base 48 i0 (.int .u64 0) 8 Try.underlying23 ti tz0 tz1 tz2 rfl u7 (nsL ls M.length + j) _ rfl HG.out.own (.int .u64 (5000 + (i : Int))) rfl rfl (by unfold maxLen; omega) (by omega) (by have := HF.out.size; omega) ?_; intro v1 w1 k1 k2 k3 k4; have K1 := hide k1; have K2 := hide k2; have K3 := hide k3; have K4 := hide k4; clear k1 k2 k3 k4)
                | fail)
              refine ⟨⟨j + 1, by omega, by simp, ?_, own_grown HO.out HG.out.own (by decide) K2.out, HF.out.grown K2.out HG.out.at_⟩, by simp [RowKit.intOf]; omega⟩
              have hk1 := K1.out
              rw [← HML.out] at hk1
              exact HG.out.step HF.out.size hk1 K3.out K4.out
            · have hji : ¬ (j : Int) < 20 := by omega
              obtain rfl : j = 20 := by omega
              have hap := HG.out.done
              have HAP := hide hap
              have HOG := hide HG.out.own
              clear hap HG
              obtain rfl := HGE.out
              go_wp2_with (first
                | (at_builtin; refine wpList_append_keeps rfl (.tmp 55) (.tmp 57) 53 rfl w.heap.size 23 j0 (.slice none 0 0) 24 Try.underlying53 tj ty0 ty1 ty2 rfl u3 i M rfl HO.out (.slice go (nsL ls M.length + 20) gc) rfl rfl (by unfold maxLen; omega) (by omega) (by have := HF.out.size; omega) ?_; intro v1 w1 k1 k2 k3 k4; have K1 := hide k1; have K2 := hide k2; clear k1 k2 k3 k4)
                | fail)
              refine ⟨⟨i + 1, by omega, by simp, _, by simp [HML.out], HAP.out.stay (fun b cur hb => K2.out.block b (lt_of_heap hb) (fun q => ?_)), K1.out, HF.out.grown K2.out (fun b hb => .inr (HO.out.lt b hb).1)⟩, by simp [RowKit.intOf]; omega⟩
              obtain ⟨c9, h9⟩ := ownA_type HO.out q.symm
              rw [hb] at h9
              cases h9
        · have hii : ¬ (i : Int) < (m : Int) := by omega
          have hMm : M.length = m := by rw [HML.out]; omega
          have ho := HO.out
          rw [show i = m by omega] at ho
          clear HO HML
          have HML := hide hMm
          have HO := hide ho
          clear hMm ho
          go_wp2_with fail
          clear hi hii him
          obtain ⟨mo, mc, rfl, hmc1, hmc2, hmcell⟩ := ownA_shape HO.out
          have HMC := hide hmcell
          obtain ⟨ao2, c2, he, hc1, hc2, hcell⟩ := ownA_shape (HH.out _ HF.out)
          simp only [Value.slice.injEq, true_and] at he
          obtain ⟨rfl, rfl⟩ := he
          have HLC := hide hcell
          clear hmcell hcell
          go_loopw [9, 10] (fun t _ wx => ∃ p : Nat, p ≤ m ∧ t = .int .i64 p ∧ wx = wr) (fun t _ _ => m - (RowKit.intOf t).toNat)
          case atStart => exact ⟨0, by omega, rfl, rfl⟩
          case round =>
            obtain ⟨p, hpm, rfl, rfl⟩ := hrel
            by_cases hp : p < m
            · have hpi : (p : Int) < (m : Int) := by omega
              obtain ⟨v, hv⟩ : ∃ v, L[p]? = some v := ⟨_, List.getElem?_eq_getElem (by have := HM.out; omega)⟩
              obtain ⟨v', hv'⟩ : ∃ v', M[p]? = some v' := ⟨_, List.getElem?_eq_getElem (by have := HML.out; omega)⟩
              obtain ⟨g, rfl, hg1, hg2, _⟩ := HLC.out p _ hv
              obtain ⟨g', rfl, hd1, hd2, _⟩ := HMC.out p _ hv'
              obtain ⟨n, hn'⟩ : ∃ n, n = nsL ls p := ⟨_, rfl⟩
              have hnb : n ≤ 1099511627776 := by rw [hn']; exact HN.out p
              obtain ⟨vo, vc, rfl, hvc1, hvc2, hvcell⟩ := ownA_shape (HA.out.ownL p v hv)
              obtain ⟨xo, xc, rfl, hxc1, hxc2, hxcell⟩ := ownA_shape (HA.out.ownM p v' hv')
              rw [← hn'] at hg1 hd1 hvc1 hxc1 hvcell hxcell
              have HVC := hide hvcell; have HXC := hide hxcell
              clear hv hv' hn' hvcell hxcell
              go_wp2_with fail
              go_loopw [10] (fun t wx => ∃ j : Nat, j ≤ n + 20 ∧ t = .int .i64 j ∧ wx = wr) (fun t _ => n + 20 - (RowKit.intOf t).toNat)
              case atStart => exact ⟨0, by omega, rfl, rfl⟩
              case round =>
                obtain ⟨j, hj, rfl, rfl⟩ := hrel
                by_cases hlt : j < n + 20
                · have hji : (j : Int) < ((n : Int) + 20) := by omega
                  obtain ⟨gx, rfl, hx1, hx2, _⟩ := HXC.out j (.int .u64 (5000 + (p : Int))) (by rw [List.getElem?_replicate, if_pos hlt])
                  by_cases hjn : j < n
                  · have hjni : (j : Int) < (n : Int) := by omega
                    obtain ⟨gv, rfl, hy1, hy2, _⟩ := HVC.out j (.int .u64 (5000 + (p : Int))) (by rw [List.getElem?_replicate, if_pos hjn])
                    go_wp2_with fail
                    exact ⟨⟨j + 1, by omega, by simp, trivial⟩, by simp [RowKit.intOf]; omega⟩
                  · have hjni : ¬ (j : Int) < (n : Int) := by omega
                    go_wp2_with fail
                    exact ⟨⟨j + 1, by omega, by simp, trivial⟩, by simp [RowKit.intOf]; omega⟩
                · have hji : ¬ (j : Int) < ((n : Int) + 20) := by omega
                  go_wp2_with fail
                  exact ⟨⟨p + 1, by omega, by simp, trivial⟩, by simp [RowKit.intOf]; omega⟩
            · have hpi : ¬ (p : Int) < (m : Int) := by omega
              go_wp2_with fail
              go_ret
              exact ⟨rfl, HF.out⟩
end Go.Proofs.Ytmagigmcbegmiaa
