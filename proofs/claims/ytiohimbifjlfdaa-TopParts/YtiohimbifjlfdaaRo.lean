/- The reference's order. -/
import Derived.Test.YtiohimbifjlfdaaFmFw
namespace Go.Proofs.Ytiohimbifjlfdaa
open Go.RowKit Go.Lib
set_option linter.unusedVariables false
set_option linter.unusedSimpArgs false
def bCells (l : List Bool) : Array Value := (l.map Value.bool).toArray
def BArr (w : World) (g : Nat) (l : List Bool) : Prop := w.heap[g]? = some (.cells (bCells l) 4 (0, 0))
def btab (n : Nat) (f : Nat → Bool) : List Bool := (List.range n).map f
theorem BArr.cell {w : World} {g n : Nat} {f : Nat → Bool} (h : BArr w g (btab n f)) (i : Nat) (hi : i < n) : w.cell? ⟨g, i, none⟩ = some (.bool (f i)) := cell_of h (by simp [bCells, btab, hi])
theorem BArr.free {w : World} {g : Nat} {l : List Bool} (h : BArr w g l) (i : Nat) : w.frozen? ⟨g, i, none⟩ = false := free_of h i
theorem BArr.put {w : World} {g n : Nat} {f : Nat → Bool} (h : BArr w g (btab n f)) (i : Nat) (b : Bool) : BArr (w.setCell ⟨g, i, none⟩ (.bool b)) g (btab n (fun v => if v = i then b else f v)) := by
  unfold BArr at h ⊢
  rw [heap_set h]
  congr 2
  apply Array.ext'
  simp only [bCells, btab, Array.toList_setIfInBounds, List.map_map]
  apply List.ext_getElem?
  intro j
  rw [List.getElem?_set]
  by_cases e : i = j
  · subst e
    rw [if_pos rfl]
    by_cases hj : i < n
    · simp [hj]
    · simp [hj]
  · rw [if_neg e]
    by_cases hj : j < n
    · simp [hj, Ne.symm e, show ¬ j = i from fun h => e h.symm]
    · simp [hj]
theorem barr_made {w : World} {base g n : Nat} (h : w.ownsRow base 4 1 (.slice (some ⟨g, 0, none⟩) n n) n (madeCells (Value.bool false).cells (n * 1)).toList) : BArr w g (btab n (fun _ => false)) := by
  obtain ⟨h0, ⟨he, hn⟩ | ⟨g', cap, cur, he, hg, hb, h1, h2, h3, h4⟩⟩ := h
  · simp at he
  · simp only [Value.slice.injEq, Option.some.injEq, Addr.mk.injEq, true_and, and_true] at he
    obtain ⟨rfl, rfl⟩ := he
    unfold BArr
    rw [hb]
    congr 2
    apply Array.ext'
    have h5 : cur.toList.take (n * 1) = cur.toList := List.take_of_length_le (by simp; omega)
    rw [h5] at h4
    rw [h4]
    simp [bCells, btab, madeCells, Value.cells]
    intro a _; rw [Nat.mod_one]; rfl
theorem mdec2 {a k n : Nat} (h : k < n) : a * (n + 1) + (n - (RowKit.intOf (.int .i64 ((k : Int) + 1))).toNat) < a * (n + 1) + (n - (RowKit.intOf (.int .i64 (k : Int))).toNat) := Nat.add_lt_add_left (mdec h) _
theorem mdec3 {a b k x n : Nat} (h : b < a) (hx : x ≤ n) : b * (n + 1) + (n - x) < a * (n + 1) + (n - k) := by
  have : (b + 1) * (n + 1) ≤ a * (n + 1) := Nat.mul_le_mul_right _ h
  rw [Nat.succ_mul] at this
  omega
theorem Try.info4 : (Try.prog.info? 4).map (fun i => (i.zero, i.size, i.bytes)) = some (some (.bool false), 1, 1) := by kernel_rfl
structure RM (w wr : World) (gb : Array Value) (A C : Nat) (cv : Value) (L : List Int) (K : List Bool) (l : List Int) : Prop where
  bel : Below w.heap.size w wr
  box : wr.heap[w.heap.size]? = some (.cells gb 28 (0, 0))
  arr : Arr wr A L
  car : BArr wr C K
  com : wr.ownsRow (C + 1) 3 1 cv l.length (ivs l)
  wA : w.heap.size < A
  AC : A < C
section
variable {w wr : World} {gb : Array Value} {A C : Nat} {cv : Value} {L l : List Int} {K : List Bool}
theorem RM.on (h : RM w wr gb A C cv L K l) {w' : World} (hb : Below wr.heap.size wr w') : RM w w' gb A C cv L K l :=
  ⟨below_on h.bel hb, (hb.block _ (lt_of_heap h.box)).trans h.box, (hb.block _ (lt_of_heap h.arr)).trans h.arr, (hb.block _ (lt_of_heap h.car)).trans h.car, own_chg (S := fun _ => False) h.com (Chg.of_below hb) (fun _ _ h => h), h.wA, h.AC⟩
theorem RM.come_lt (h : RM w wr gb A C cv L K l) : ∀ k, cv.ownBlock = some k → C + 1 ≤ k ∧ k < wr.heap.size := fun k hk => World.ownsRow.lt h.com k hk
theorem RM.setA (h : RM w wr gb A C cv L K l) (i : Nat) (x : Int) : RM w (wr.setCell ⟨A, i, none⟩ (.int .i64 x)) gb A C cv (L.set i x) K l := by
  have hwA := h.wA; have hAC := h.AC
  have hc : Chg (fun k => k = A) wr (wr.setCell ⟨A, i, none⟩ (.int .i64 x)) := (Chg.refl (fun k => k = A) wr).setCell (p := ⟨A, i, none⟩) rfl _
  exact ⟨Chg.below h.bel hc (fun k hk => by omega) h.bel.size, hc.heap h.box (by omega), h.arr.put i x, hc.heap h.car (by omega), own_chg h.com hc (fun g hg => by have := h.come_lt g hg; omega), hwA, hAC⟩
theorem RM.setC {n : Nat} {f : Nat → Bool} (h : RM w wr gb A C cv L (btab n f) l) (i : Nat) (b : Bool) : RM w (wr.setCell ⟨C, i, none⟩ (.bool b)) gb A C cv L (btab n (fun v => if v = i then b else f v)) l := by
  have hwA := h.wA; have hAC := h.AC
  have hc : Chg (fun k => k = C) wr (wr.setCell ⟨C, i, none⟩ (.bool b)) := (Chg.refl (fun k => k = C) wr).setCell (p := ⟨C, i, none⟩) rfl _
  exact ⟨Chg.below h.bel hc (fun k hk => by omega) h.bel.size, hc.heap h.box (by omega), hc.heap h.arr (by omega), h.car.put i b, own_chg h.com hc (fun g hg => by have := h.come_lt g hg; omega), hwA, hAC⟩
theorem RM.came (h : RM w wr gb A C cv L K l) {o : Obj} {x : Int} {g cap : Nat} {w2 : World} (hown : w2.ownsRow (C + 1) 3 1 (.slice (some ⟨g, 0, none⟩) (l.length + 1) cap) (l.length + 1) (ivs l ++ [.int .i64 x])) (hgrow : (wr.alloc o).grownBy w2 cv.ownBlock) :
    RM w w2 gb A C (.slice (some ⟨g, 0, none⟩) (l ++ [x]).length cap) L K (l ++ [x]) := by
  have hwA := h.wA; have hAC := h.AC
  have hc : Chg (fun k => cv.ownBlock = some k) wr w2 := ((Chg.refl _ wr).alloc o).grown hgrow (fun k hk => .inl hk)
  have hno : ∀ k, k ≤ C → ¬ cv.ownBlock = some k := fun k hk h3 => by have := h.come_lt k h3; omega
  refine ⟨Chg.below h.bel hc (fun k hk => by have := h.come_lt k hk; omega) h.bel.size, hc.heap h.box (hno _ (by omega)), hc.heap h.arr (hno _ (by omega)), hc.heap h.car (hno _ (Nat.le_refl _)), ?_, hwA, hAC⟩
  rw [List.length_append, List.length_singleton, show ivs (l ++ [x]) = ivs l ++ [.int .i64 x] by simp [ivs]]
  exact hown
theorem RM.boxc (h : RM w wr gb A C cv L K l) {j : Nat} {u : Value} (hu : gb[j]? = some u) : wr.cell? ⟨w.heap.size, j, none⟩ = some u := cell_of h.box hu
end
theorem F0.came {w wr w' : World} {gb : Array Value} {A n : Nat} {L : List Int} (h : F0 w wr gb A L) (hown : w'.ownsRow wr.heap.size 4 1 (.slice (some ⟨wr.heap.size, 0, none⟩) n n) n (madeCells (Value.bool false).cells (n * 1)).toList) (hgrow : wr.grownBy w' none) : RM w w' gb A wr.heap.size (.slice none 0 0) L (btab n (fun _ => false)) [] := by
  have hb : Below wr.heap.size wr w' := (Below.refl _ _).grown hgrow (Nat.le_refl _) (by intro j hj; cases hj)
  exact ⟨below_on h.bel hb, (hb.block _ (lt_of_heap h.box)).trans h.box, (hb.block _ (lt_of_heap h.arr)).trans h.arr, barr_made hown, ⟨by simp [ivs], .inl ⟨rfl, rfl⟩⟩, h.wA, lt_of_heap h.arr⟩
end Go.Proofs.Ytiohimbifjlfdaa
