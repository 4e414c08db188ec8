/- The vertex in whose row an edge stands, in plain words. -/
import Derived.Test.YtehlciejhegndaaSRow
namespace Go.Proofs.Ytehlciejhegndaa
open Go.RowKit Go.Lib
set_option linter.unusedVariables false

theorem Good.step {n : Nat} {st to wt : List Int} (h : Good n st to wt) (i : Nat) (hi : i < n) : at_ st i ≤ at_ st (i + 1) := by
  have := h.rows (i + 1) (by omega)
  unfold BadRow at this
  have e : ahead st (i + 1) = at_ st i := by unfold ahead; rw [if_neg (by omega)]; rfl
  omega
theorem Good.mono {n : Nat} {st to wt : List Int} (h : Good n st to wt) (i j : Nat) (hij : i ≤ j) (hj : j ≤ n) : at_ st i ≤ at_ st j := by
  induction j with
  | zero => have : i = 0 := by omega
            subst this; omega
  | succ j ih =>
    rcases Nat.lt_or_ge i (j + 1) with h1 | h1
    · have := ih (by omega) (by omega)
      have := h.step j (by omega)
      omega
    · have : i = j + 1 := by omega
      subst this; omega
theorem Good.zero {n : Nat} {st to wt : List Int} (h : Good n st to wt) : at_ st 0 = 0 := by
  have := h.rows 0 (by omega)
  unfold BadRow at this
  have e : ahead st 0 = 0 := rfl
  omega
theorem Good.last {n : Nat} {st to wt : List Int} (h : Good n st to wt) : at_ st n = (to.length : Int) := by
  have := h.rows n (by omega)
  unfold BadRow at this
  omega
theorem Good.range {n : Nat} {st to wt : List Int} (h : Good n st to wt) (i : Nat) (hi : i ≤ n) : 0 ≤ at_ st i ∧ at_ st i ≤ (to.length : Int) := by
  have h1 := h.mono 0 i (by omega) hi
  have h2 := h.mono i n hi (Nat.le_refl _)
  rw [h.zero] at h1
  rw [h.last] at h2
  exact ⟨h1, h2⟩
theorem Good.vtx {n : Nat} {st to wt : List Int} (h : Good n st to wt) (e : Nat) (he : e < to.length) : 0 ≤ at_ to e ∧ at_ to e < (n : Int) ∧ at_ wt e ≤ 4294967295 := by
  have := h.edges e he
  unfold edgeNo at this
  by_cases hv : IsV n (at_ to e)
  · rw [if_pos hv] at this
    by_cases hw : 4294967295 < at_ wt e
    · rw [if_pos hw] at this; omega
    · exact ⟨hv.1, hv.2, by omega⟩
  · rw [if_neg hv] at this; omega

/-- The vertex in whose row the edge p stands. -/
def src (st : List Int) (n p : Nat) : Nat := (first (fun v => decide ((p : Int) < at_ st (v + 1))) n).getD 0
theorem src_eq {n : Nat} {st to wt : List Int} (h : Good n st to wt) {v p : Nat} (hv : v < n) (h1 : at_ st v ≤ (p : Int)) (h2 : (p : Int) < at_ st (v + 1)) : src st n p = v := by
  unfold src
  rw [first_some (p := fun v => decide ((p : Int) < at_ st (v + 1))) hv (decide_eq_true h2) (fun j hj => decide_eq_false (by have := h.mono (j + 1) v (by omega) (by omega); omega))]
  rfl
theorem src_lt {n : Nat} {st to wt : List Int} (h : Good n st to wt) {p : Nat} (hp : p < to.length) : src st n p < n := by
  unfold src
  cases he : first (fun v => decide ((p : Int) < at_ st (v + 1))) n with
  | some v => exact (first_of_some he).1
  | none =>
    exfalso
    have h0 := first_none_of he
    have hl := h.last
    have hz := h.zero
    rcases Nat.eq_zero_or_pos n with hn | hn
    · subst hn; rw [hz] at hl; omega
    · have := h0 (n - 1) (by omega)
      simp only [decide_eq_false_iff_not] at this
      rw [show n - 1 + 1 = n by omega, hl] at this
      omega

def tab (n : Nat) (g : Nat → Int) : List Int := (List.range n).map g
theorem tab_length (n : Nat) (g : Nat → Int) : (tab n g).length = n := by simp [tab]
theorem tab_at (n : Nat) (g : Nat → Int) (i : Nat) (h : i < n) : at_ (tab n g) i = g i := by simp [tab, at_, h]
theorem tab_set (n : Nat) (g : Nat → Int) (a : Nat) (x : Int) : (tab n g).set a x = tab n (fun v => if v = a then x else g v) := by
  apply List.ext_getElem
  · simp [tab]
  · intro i h1 h2
    simp only [List.getElem_set, tab, List.getElem_map, List.getElem_range]
    by_cases h : a = i
    · subst h; simp
    · rw [if_neg h, if_neg (fun e => h e.symm)]
theorem tab_congr {n : Nat} {g h : Nat → Int} (e : ∀ v, v < n → g v = h v) : tab n g = tab n h := by
  apply List.ext_getElem
  · simp [tab]
  · intro i h1 h2
    simp only [tab, List.getElem_map, List.getElem_range]
    exact e i (by simpa [tab] using h1)

/-- A block of plain numbers. -/
def iCells (l : List Int) : Array Value := (l.map (Value.int .i64)).toArray
def Arr (w : World) (g : Nat) (l : List Int) : Prop := w.heap[g]? = some (.cells (iCells l) 3 (0, 0))
theorem Arr.cell {w : World} {g : Nat} {l : List Int} (h : Arr w g l) (i : Nat) (hi : i < l.length) : w.cell? ⟨g, i, none⟩ = some (.int .i64 (at_ l i)) := by
  refine cell_of h ?_
  simp [iCells, at_, hi]
theorem Arr.free {w : World} {g : Nat} {l : List Int} (h : Arr w g l) (i : Nat) : w.frozen? ⟨g, i, none⟩ = false := free_of h i
theorem Arr.put {w : World} {g : Nat} {l : List Int} (h : Arr w g l) (i : Nat) (x : Int) : Arr (w.setCell ⟨g, i, none⟩ (.int .i64 x)) g (l.set i x) := by
  have := heap_set (i := i) h (.int .i64 x)
  unfold Arr
  rw [this]
  simp [iCells]
theorem Arr.row {w : World} {g n : Nat} {l : List Int} (h : Arr w g l) (hn : l.length = n) (h63 : n ≤ 9223372036854775807) : RowAt .i64 w (.slice (some ⟨g, 0, none⟩) n n) l := by
  subst hn
  refine ⟨_, _, rfl, Nat.le_refl _, h63, (fun e => by cases e), fun a ha i hi => ?_⟩
  cases ha
  rw [Addr.add_lit, Nat.zero_add, h.cell i hi]
  rfl
theorem arr_made {w : World} {base g n : Nat} (h : w.ownsRow base 3 1 (.slice (some ⟨g, 0, none⟩) n n) n (madeCells (Value.int .i64 0).cells (n * 1)).toList) : Arr w g (tab n (fun _ => 0)) := by
  obtain ⟨h1, ⟨he, _⟩ | ⟨g', cap, cur, he, hg, hh, hnc, hcm, hcur, htake⟩⟩ := h
  · simp at he
  · simp only [Value.slice.injEq, Option.some.injEq, Addr.mk.injEq, true_and, and_true] at he
    obtain ⟨rfl, rfl⟩ := he
    rw [List.take_of_length_le (by simp; omega)] at htake
    unfold Arr
    rw [hh]
    have e : cur = iCells (tab n (fun _ => 0)) := by
      apply Array.ext'
      rw [htake]
      apply List.ext_getElem
      · simp [madeCells, iCells, tab]
      · intro i h1 h2
        simp [madeCells, iCells, Value.cells, Nat.mod_one, tab]
    rw [e]
theorem Arr.below {w w' : World} {g B : Nat} {l : List Int} (h : Arr w g l) (k : Below B w w') (hb : g < B) : Arr w' g l := (k.block g hb).trans h
end Go.Proofs.Ytehlciejhegndaa
