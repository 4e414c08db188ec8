/- forwards: its memory. -/
import Derived.Test.YtacmlilcamkndaaPo
import Derived.Test.YtacmlilcamkndaaOb
import Derived.Test.YtacmlilcamkndaaChecks
namespace Go.Proofs.Ytacmlilcamkndaa
open Go.RowKit Go.Lib
set_option linter.unusedVariables false
set_option linter.unusedSimpArgs false
theorem Good.lim {n : Nat} {st tl wt : List Int} (h : Good n st tl wt) : n ≤ 1048576 ∧ tl.length ≤ 4194304 := by
  first | exact ⟨h.n_le, h.m_le⟩ | (obtain ⟨h1, h2, h3, h4, h5⟩ := h; exact ⟨by omega, by omega⟩)
structure FM (w wr : World) (gb : Array Value) (A Q : Nat) (qv cv : Value) (L q l : List Int) : Prop where
  bel : Below w.heap.size w wr
  box : wr.heap[w.heap.size]? = some (.cells gb 25 (0, 0))
  arr : Arr wr A L
  qu : IQ wr Q (Q + 1) qv q
  hp : Hp q
  com : wr.ownsRow (Q + 1) 3 1 cv l.length (ivs l)
  wA : w.heap.size < A
  AQ : A < Q
  qc : ∀ k, qv.ownBlock = some k → cv.ownBlock ≠ some k
section
variable {w wr : World} {gb : Array Value} {A Q : Nat} {qv cv : Value} {L q l : List Int}
theorem FM.on (h : FM w wr gb A Q qv cv L q l) {w' : World} (hb : Below wr.heap.size wr w') : FM w w' gb A Q qv cv L q l :=
  ⟨below_on h.bel hb, (hb.block _ (lt_of_heap h.box)).trans h.box, (hb.block _ (lt_of_heap h.arr)).trans h.arr, h.qu.below hb, h.hp, own_chg (S := fun _ => False) h.com (Chg.of_below hb) (fun _ _ h => h), h.wA, h.AQ, h.qc⟩
theorem FM.come_lt (h : FM w wr gb A Q qv cv L q l) : ∀ k, cv.ownBlock = some k → Q + 1 ≤ k ∧ k < wr.heap.size := fun k hk => World.ownsRow.lt h.com k hk
/-- A call on the queue. -/
theorem FM.queue (h : FM w wr gb A Q qv cv L q l) {w' : World} {qv' : Value} {q' : List Int} (hq : IQ w' Q (Q + 1) qv' q') (hp : Hp q') (hc : Chg (QT wr Q qv) wr w') (ho : ∀ k, qv'.ownBlock = some k → QT wr Q qv k) : FM w w' gb A Q qv' cv L q' l := by
  have hb := lt_of_heap h.box
  have hA := lt_of_heap h.arr
  have hwA := h.wA; have hAQ := h.AQ
  have hno : ∀ k, k < Q → k < wr.heap.size → ¬ QT wr Q qv k := fun k h1 h2 h3 => by
    rcases h3 with h3 | h3 | h3
    · omega
    · have := h.qu.own_lt k h3; omega
    · omega
  have hnc : ∀ k, cv.ownBlock = some k → ¬ QT wr Q qv k := fun k hk h3 => by
    have h4 := h.come_lt k hk
    rcases h3 with h3 | h3 | h3
    · omega
    · exact h.qc k h3 hk
    · omega
  refine ⟨h.bel.trans ⟨hc.os, hc.tape, hc.output, hc.size, fun k hk => hc.block k (by have := h.bel.size; omega) (hno k (by omega) (by have := h.bel.size; omega))⟩, hc.heap h.box (hno _ (by omega) hb), hc.heap h.arr (hno _ hAQ hA), hq, hp, own_chg h.com hc hnc, hwA, hAQ, fun k hk hk2 => hnc k hk2 (ho k hk)⟩
theorem FM.pushed (h : FM w wr gb A Q qv cv L q l) {x : Int} {e : Ending} {w' : World} (hp : PushPost wr Q (Q + 1) qv q x e w') : e = .returned (.tuple #[]) ∧ ∃ qv' q', FM w w' gb A Q qv' cv L q' l ∧ q'.length = q.length + 1 ∧ q'.Perm (x :: q) := by
  obtain ⟨h1, v', l', h2, h3, h4, h5, h6, h7⟩ := hp
  exact ⟨h1, v', l', h.queue h2 h3 h6 h7, h4, h5⟩
theorem FM.popped (h : FM w wr gb A Q qv cv L q l) {e : Ending} {w' : World} (hp : PopPost wr Q (Q + 1) qv q e w') : e = .returned (.int .i64 (at_ q 0)) ∧ ∃ qv' q', FM w w' gb A Q qv' cv L q' l ∧ q.length = q'.length + 1 ∧ q.Perm (at_ q 0 :: q') := by
  obtain ⟨h1, v', l', h2, h3, h4, h5, h6, h7⟩ := hp
  exact ⟨h1, v', l', h.queue h2 h3 h6 h7, h4, h5⟩
theorem FM.setA (h : FM w wr gb A Q qv cv L q l) (i : Nat) (x : Int) : FM w (wr.setCell ⟨A, i, none⟩ (.int .i64 x)) gb A Q qv cv (L.set i x) q l := by
  have hwA := h.wA; have hAQ := h.AQ
  have hc : Chg (fun k => k = A) wr (wr.setCell ⟨A, i, none⟩ (.int .i64 x)) := (Chg.refl (fun k => k = A) wr).setCell (p := ⟨A, i, none⟩) rfl _
  refine ⟨Chg.below h.bel hc (fun k hk => by omega) h.bel.size, hc.heap h.box (by omega), h.arr.put i x, h.qu.chg hc (by omega) (fun g hg => by have := h.qu.own_lt g hg; omega), h.hp, own_chg h.com hc (fun g hg => by have := h.come_lt g hg; omega), hwA, hAQ, h.qc⟩
/-- One more has come. -/
theorem FM.came (h : FM w wr gb A Q qv cv L q l) {o : Obj} {x : Int} {g cap : Nat} {w2 : World} (hown : w2.ownsRow (Q + 1) 3 1 (.slice (some ⟨g, 0, none⟩) (l.length + 1) cap) (l.length + 1) (ivs l ++ [.int .i64 x])) (hgrow : (wr.alloc o).grownBy w2 cv.ownBlock) (hat : cv.ownBlock = some g ∨ g = wr.heap.size + 1) :
    FM w w2 gb A Q qv (.slice (some ⟨g, 0, none⟩) (l ++ [x]).length cap) L q (l ++ [x]) := by
  have hwA := h.wA; have hAQ := h.AQ
  have hb := lt_of_heap h.box
  have hA := lt_of_heap h.arr
  have hc : Chg (fun k => cv.ownBlock = some k) wr w2 := ((Chg.refl _ wr).alloc o).grown hgrow (fun k hk => .inl hk)
  have hno : ∀ k, k ≤ Q → ¬ cv.ownBlock = some k := fun k hk h3 => by have := h.come_lt k h3; omega
  refine ⟨Chg.below h.bel hc (fun k hk => by have := h.come_lt k hk; omega) h.bel.size, hc.heap h.box (hno _ (by omega)), hc.heap h.arr (hno _ (by omega)), h.qu.chg hc (hno _ (Nat.le_refl _)) (fun k hk => h.qc k hk), h.hp, ?_, hwA, hAQ, fun k hk hk2 => ?_⟩
  · rw [List.length_append, List.length_singleton, show ivs (l ++ [x]) = ivs l ++ [.int .i64 x] by simp [ivs]]
    exact hown
  · simp [Value.ownBlock] at hk2
    subst hk2
    rcases hat with h4 | h4
    · exact h.qc _ hk h4
    · have := h.qu.own_lt _ hk; omega
theorem FM.boxc (h : FM w wr gb A Q qv cv L q l) {j : Nat} {u : Value} (hu : gb[j]? = some u) : wr.cell? ⟨w.heap.size, j, none⟩ = some u := cell_of h.box hu
end
/-- Ahead of the queue. -/
structure F0 (w wr : World) (gb : Array Value) (A : Nat) (L : List Int) : Prop where
  bel : Below w.heap.size w wr
  box : wr.heap[w.heap.size]? = some (.cells gb 25 (0, 0))
  arr : Arr wr A L
  wA : w.heap.size < A
theorem F0.setA {w wr : World} {gb : Array Value} {A : Nat} {L : List Int} (h : F0 w wr gb A L) (i : Nat) (x : Int) : F0 w (wr.setCell ⟨A, i, none⟩ (.int .i64 x)) gb A (L.set i x) := by
  have hwA := h.wA
  have hc : Chg (fun k => k = A) wr (wr.setCell ⟨A, i, none⟩ (.int .i64 x)) := (Chg.refl (fun k => k = A) wr).setCell (p := ⟨A, i, none⟩) rfl _
  exact ⟨Chg.below h.bel hc (fun k hk => by omega) h.bel.size, hc.heap h.box (by omega), h.arr.put i x, hwA⟩
theorem F0.queue {w wr w' : World} {gb : Array Value} {A : Nat} {L : List Int} (h : F0 w wr gb A L) (hq : IQ w' wr.heap.size (wr.heap.size + 1) (.slice none 0 0) []) (hb : Below wr.heap.size wr w') : FM w w' gb A wr.heap.size (.slice none 0 0) (.slice none 0 0) L [] [] :=
  ⟨below_on h.bel hb, (hb.block _ (lt_of_heap h.box)).trans h.box, (hb.block _ (lt_of_heap h.arr)).trans h.arr, hq, fun i _ hi => by simp at hi, ⟨by simp [ivs], .inl ⟨rfl, rfl⟩⟩, h.wA, lt_of_heap h.arr, fun k hk => by simp [Value.ownBlock] at hk⟩
theorem FM.made {w wr w' : World} {gb : Array Value} {A Q n : Nat} {qv : Value} {L q : List Int} (h : FM w wr gb A Q qv (.slice none 0 0) L q []) (hown : w'.ownsRow (Q + 1) 3 1 (.slice (some ⟨wr.heap.size, 0, none⟩) 0 n) 0 []) (hgrow : wr.grownBy w' none) : FM w w' gb A Q qv (.slice (some ⟨wr.heap.size, 0, none⟩) 0 n) L q [] := by
  have hb : Below wr.heap.size wr w' := (Below.refl _ _).grown hgrow (Nat.le_refl _) (by intro j hj; cases hj)
  have h2 := h.on hb
  refine ⟨h2.bel, h2.box, h2.arr, h2.qu, h2.hp, hown, h2.wA, h2.AQ, fun k hk hk2 => ?_⟩
  simp [Value.ownBlock] at hk2
  have := h.qu.own_lt k hk
  omega
end Go.Proofs.Ytacmlilcamkndaa
