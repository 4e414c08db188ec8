/- Path, in plain words. -/
import Derived.Test.YtehlciejhegndaaLen
namespace Go.Proofs.Ytehlciejhegndaa
open Go.RowKit Go.Lib
set_option linter.unusedVariables false

/-- The vertex behind j steps back. -/
def vs (n : Nat) (st by_ : List Int) (t : Nat) : Nat → Nat
  | 0 => t
  | j + 1 => src st n (at_ by_ (vs n st by_ t j)).toNat
/-- What comes at step j: 1, if the way ends there; 6 and 52 are errors; 0: it goes on. -/
def pNo (n : Nat) (st to by_ : List Int) (t j : Nat) : Int :=
  if at_ by_ (vs n st by_ t j) = -1 then 1
  else if 0 ≤ at_ by_ (vs n st by_ t j) ∧ at_ by_ (vs n st by_ t j) < (to.length : Int) ∧ at_ to (at_ by_ (vs n st by_ t j)).toNat = (vs n st by_ t j : Int) then (if j = n then 52 else 0) else 6
/-- The places that are gone in j steps. -/
def back (n : Nat) (st by_ : List Int) (t j : Nat) : List Int := (List.range j).map fun i => at_ by_ (vs n st by_ t i)
theorem back_length (n : Nat) (st by_ : List Int) (t j : Nat) : (back n st by_ t j).length = j := by simp [back]
theorem back_succ (n : Nat) (st by_ : List Int) (t j : Nat) : back n st by_ t (j + 1) = back n st by_ t j ++ [at_ by_ (vs n st by_ t j)] := by simp [back, List.range_succ]
def pathAns (n : Nat) (st to by_ : List Int) (t : Nat) : List Int × Int :=
  match first (fun j => decide (pNo n st to by_ t j ≠ 0)) (n + 1) with
  | some j => if pNo n st to by_ t j = 1 then ((back n st by_ t j).reverse, 0) else ([], pNo n st to by_ t j)
  | none => ([], 0)
theorem path_at {n : Nat} {st to by_ : List Int} {t j : Nat} (hj : j ≤ n) (h : pNo n st to by_ t j ≠ 0) (hb : ∀ i, i < j → pNo n st to by_ t i = 0) :
    pathAns n st to by_ t = if pNo n st to by_ t j = 1 then ((back n st by_ t j).reverse, 0) else ([], pNo n st to by_ t j) := by
  unfold pathAns
  rw [first_some (p := fun j => decide (pNo n st to by_ t j ≠ 0)) (show j < n + 1 by omega) (decide_eq_true h) (fun i hi => decide_eq_false (by rw [hb i hi]; simp))]
theorem pNo_end {n : Nat} {st to by_ : List Int} {t j : Nat} (h : at_ by_ (vs n st by_ t j) = -1) : pNo n st to by_ t j = 1 := if_pos h
theorem pNo_six {n : Nat} {st to by_ : List Int} {t j : Nat} (h : at_ by_ (vs n st by_ t j) ≠ -1) (h2 : ¬ (0 ≤ at_ by_ (vs n st by_ t j) ∧ at_ by_ (vs n st by_ t j) < (to.length : Int) ∧ at_ to (at_ by_ (vs n st by_ t j)).toNat = (vs n st by_ t j : Int))) : pNo n st to by_ t j = 6 := by
  unfold pNo; rw [if_neg h, if_neg h2]
theorem pNo_on {n : Nat} {st to by_ : List Int} {t j : Nat} (h : at_ by_ (vs n st by_ t j) ≠ -1) (h2 : 0 ≤ at_ by_ (vs n st by_ t j) ∧ at_ by_ (vs n st by_ t j) < (to.length : Int) ∧ at_ to (at_ by_ (vs n st by_ t j)).toNat = (vs n st by_ t j : Int)) : pNo n st to by_ t j = if j = n then 52 else 0 := by
  unfold pNo; rw [if_neg h, if_pos h2]
theorem vs_lt {n : Nat} {st to wt by_ : List Int} {t : Nat} (h : Good n st to wt) (ht : t < n) (j : Nat) (hb : ∀ i, i < j → pNo n st to by_ t i = 0) : vs n st by_ t j < n := by
  cases j with
  | zero => exact ht
  | succ j =>
    have h0 := hb j (by omega)
    unfold pNo at h0
    by_cases h1 : at_ by_ (vs n st by_ t j) = -1
    · rw [if_pos h1] at h0; omega
    · rw [if_neg h1] at h0
      by_cases h2 : 0 ≤ at_ by_ (vs n st by_ t j) ∧ at_ by_ (vs n st by_ t j) < (to.length : Int) ∧ at_ to (at_ by_ (vs n st by_ t j)).toNat = (vs n st by_ t j : Int)
      · show src st n (at_ by_ (vs n st by_ t j)).toNat < n
        exact src_lt h (by omega)
      · rw [if_neg h2] at h0; omega

/-- A row at the head of a block, of numbers that may be written over. -/
def RowW (w : World) (g : Nat) (l : List Int) : Prop := ∃ cs, w.heap[g]? = some (.cells cs 3 (0, 0)) ∧ l.length ≤ cs.size ∧ ∀ k, k < l.length → cs[k]? = some (.int .i64 (at_ l k))
theorem RowW.cell {w : World} {g : Nat} {l : List Int} (h : RowW w g l) (k : Nat) (hk : k < l.length) : w.cell? ⟨g, k, none⟩ = some (.int .i64 (at_ l k)) := by
  obtain ⟨cs, h1, h2, h3⟩ := h
  exact cell_of h1 (h3 k hk)
theorem RowW.free {w : World} {g : Nat} {l : List Int} (h : RowW w g l) (k : Nat) : w.frozen? ⟨g, k, none⟩ = false := by
  obtain ⟨cs, h1, h2, h3⟩ := h
  exact free_of h1 k
theorem RowW.put {w : World} {g : Nat} {l : List Int} (h : RowW w g l) (k : Nat) (hk : k < l.length) (x : Int) : RowW (w.setCell ⟨g, k, none⟩ (.int .i64 x)) g (l.set k x) := by
  obtain ⟨cs, h1, h2, h3⟩ := h
  refine ⟨_, heap_set h1 _, by simpa using h2, fun i hi => ?_⟩
  rw [List.length_set] at hi
  by_cases e : i = k
  · subst e
    rw [Array.getElem?_setIfInBounds_self_of_lt (by omega)]
    simp [at_, hk]
  · rw [Array.getElem?_setIfInBounds_ne (fun h => e h.symm), h3 i hi]
    simp only [at_]
    rw [List.getElem?_set_ne (fun h => e h.symm)]
theorem RowW.row {w : World} {g c : Nat} {l : List Int} (h : RowW w g l) (hc : l.length ≤ c) (hc2 : c ≤ 9223372036854775807) : RowAt .i64 w (.slice (some ⟨g, 0, none⟩) l.length c) l := by
  refine ⟨_, c, rfl, hc, hc2, (fun e => by cases e), fun a ha i hi => ?_⟩
  cases ha
  rw [Addr.add_lit, Nat.zero_add, h.cell i hi]
  rfl
theorem RowW.of_owns {w : World} {base g n c : Nat} {l : List Int} (h : w.ownsRow base 3 1 (.slice (some ⟨g, 0, none⟩) n c) l.length (l.map (Value.int .i64))) : RowW w g l ∧ l.length ≤ c ∧ c ≤ 9223372036854775807 ∧ base ≤ g ∧ n = l.length := by
  have hr := RowAt.of_owns h
  obtain ⟨h1, ⟨he, _⟩ | ⟨g', cap, cur, he, hg, hh, hnc, hcm, hcur, htake⟩⟩ := h
  · simp at he
  · simp only [Value.slice.injEq, Option.some.injEq, Addr.mk.injEq, and_true] at he
    obtain ⟨rfl, rfl, rfl⟩ := he
    refine ⟨⟨cur, hh, by omega, fun k hk => ?_⟩, hnc, hcm, hg, rfl⟩
    have : (cur.toList.take (l.length * 1))[k]? = (l.map (Value.int .i64))[k]? := by rw [htake]
    rw [List.getElem?_take_of_lt (by omega)] at this
    have e : cur[k]? = cur.toList[k]? := by simp
    rw [e, this]
    simp [at_, hk]

/-- A list of which the i outermost on both sides have changed places. -/
def revUp (l : List Int) (i : Nat) : List Int := tab l.length (fun k => if k < i ∨ l.length - 1 - k < i then at_ l (l.length - 1 - k) else at_ l k)
theorem revUp_length (l : List Int) (i : Nat) : (revUp l i).length = l.length := tab_length _ _
theorem tab_self (l : List Int) : tab l.length (fun k => at_ l k) = l := by
  apply List.ext_getElem
  · simp [tab]
  · intro i h1 h2
    simp [tab, at_, h2]
theorem revUp_zero (l : List Int) : revUp l 0 = l := by
  unfold revUp
  rw [tab_congr (h := fun k => at_ l k) (fun k hk => by rw [if_neg (by omega)]), tab_self]
theorem revUp_next (l : List Int) (i : Nat) (h : 2 * i + 1 < l.length) :
    ((revUp l i).set i (at_ (revUp l i) (l.length - 1 - i))).set (l.length - 1 - i) (at_ (revUp l i) i) = revUp l (i + 1) := by
  unfold revUp
  rw [tab_at _ _ _ (by omega), tab_at _ _ _ (by omega), tab_set, tab_set]
  apply tab_congr
  intro k hk
  by_cases e1 : k = l.length - 1 - i
  · subst e1
    rw [if_pos rfl, if_neg (by omega), if_pos (by omega), show l.length - 1 - (l.length - 1 - i) = i by omega]
  · rw [if_neg e1]
    by_cases e2 : k = i
    · subst e2
      rw [if_pos rfl, if_neg (by omega), if_pos (by omega)]
    · rw [if_neg e2]
      by_cases e3 : k < i ∨ l.length - 1 - k < i
      · rw [if_pos e3, if_pos (by omega)]
      · rw [if_neg e3, if_neg (by omega)]
theorem revUp_end (l : List Int) (i : Nat) (h : l.length ≤ 2 * i + 1) : revUp l i = l.reverse := by
  unfold revUp
  apply List.ext_getElem
  · simp [tab]
  · intro k h1 h2
    have hk : k < l.length := by simpa [tab] using h1
    simp only [tab, List.getElem_map, List.getElem_range, List.getElem_reverse]
    by_cases e : k < i ∨ l.length - 1 - k < i
    · rw [if_pos e]; simp [at_, show l.length - 1 - k < l.length by omega]
    · rw [if_neg e]
      have : l.length - 1 - k = k := by omega
      simp [at_, hk, this]
end Go.Proofs.Ytehlciejhegndaa
