/- The order of tasks, plain: by key, then by load; the sorted list. -/
import Derived.Test.YtajcoimeeohnoaaTk
import Derived.Shelf.SlSortCmp.Insertion
import Derived.Sort.LotA
namespace Go.Proofs.Ytajcoimeeohnoaa
open Go.RowKit Go.Lib
set_option linter.unusedVariables false
/-- By key, then by load. -/
def tlt (a b : Tk) : Bool := decide (a.1 < b.1 ∨ (a.1 = b.1 ∧ a.2 < b.2))
def tle (a b : Tk) : Bool := !tlt b a
/-- What the program's comparison answers. -/
def cmpU (x y : Int) : Int := if x < y then -1 else if y < x then 1 else 0
def tcf (a b : Tk) : Int := if cmpU a.1 b.1 = 0 then cmpU a.2 b.2 else cmpU a.1 b.1
/-- The tasks in their order. -/
def srt (l : List Tk) : List Tk := l.mergeSort tle
theorem tle_iff (a b : Tk) : tle a b = true ↔ (a.1 < b.1 ∨ (a.1 = b.1 ∧ a.2 ≤ b.2)) := by
  simp only [tle, tlt, Bool.not_eq_true', decide_eq_false_iff_not]; omega
theorem ltOf_tcf : ltOf tcf = tlt := by
  funext a b
  simp only [ltOf, tlt, tcf, cmpU]
  congr 1
  apply propext
  constructor
  · intro h; repeat' split at h
    all_goals first | omega | (exfalso; omega)
  · intro h; repeat' split
    all_goals first | omega | (exfalso; omega)
theorem tlt_iff (a b : Tk) : tlt a b = true ↔ (a.1 < b.1 ∨ (a.1 = b.1 ∧ a.2 < b.2)) := by simp [tlt]
theorem tlt_niff (a b : Tk) : tlt a b = false ↔ ¬ (a.1 < b.1 ∨ (a.1 = b.1 ∧ a.2 < b.2)) := by simp [tlt]
theorem swo_tcf : Go.Sort.SWO (ltOf tcf) where
  irrefl x := by rw [ltOf_tcf, tlt_niff]; omega
  trans x y z h1 h2 := by rw [ltOf_tcf, tlt_iff] at *; omega
  ntrans x y z h1 h2 := by rw [ltOf_tcf, tlt_niff] at *; omega
theorem tot_tcf (x y : Tk) (h1 : (ltOf tcf) x y = false) (h2 : (ltOf tcf) y x = false) : x = y := by
  rw [ltOf_tcf, tlt_niff] at *
  exact Prod.ext (by omega) (by omega)
theorem srt_tcf (l : List Tk) : (l.mergeSort fun x y => !(ltOf tcf) y x) = srt l := by rw [ltOf_tcf]; rfl
theorem tle_trans (a b c : Tk) (h1 : tle a b = true) (h2 : tle b c = true) : tle a c = true := by rw [tle_iff] at *; omega
theorem tle_total (a b : Tk) : (tle a b || tle b a) = true := by rw [Bool.or_eq_true, tle_iff, tle_iff]; omega
theorem srt_perm (l : List Tk) : (srt l).Perm l := List.mergeSort_perm _ _
theorem srt_length (l : List Tk) : (srt l).length = l.length := (srt_perm l).length_eq
theorem srt_pair (l : List Tk) : (srt l).Pairwise (fun a b => tle a b = true) := List.pairwise_mergeSort tle_trans tle_total l
theorem srt_unique {l m : List Tk} (hp : m.Perm l) (hs : m.Pairwise (fun a b => tle a b = true)) : m = srt l := by
  refine List.Perm.eq_of_pairwise (le := fun a b => tle a b = true) ?_ hs (srt_pair l) (hp.trans (srt_perm l).symm)
  intro a b _ _ h1 h2
  rw [tle_iff] at h1 h2
  exact Prod.ext (by omega) (by omega)
theorem srt_congr {l m : List Tk} (hp : m.Perm l) : srt m = srt l := srt_unique ((srt_perm m).trans hp) (srt_pair m)
/-- Two halves, sorted and merged. -/
theorem srt_halves (l : List Tk) (k : Nat) : (srt (l.take k)).merge (srt (l.drop k)) tle = srt l := by
  refine srt_unique ?_ (List.pairwise_merge tle_trans tle_total _ _ (srt_pair _) (srt_pair _))
  refine (List.merge_perm_append tle).trans (((srt_perm _).append (srt_perm _)).trans ?_)
  rw [List.take_append_drop]
theorem srt_small {l : List Tk} (h : l.length < 2) : srt l = l := by
  match l, h with
  | [], _ => simp [srt]
  | [a], _ => simp [srt]
theorem srt_srt (l : List Tk) : srt (srt l) = srt l := srt_congr (srt_perm l)
/-- One step of the merging. -/
theorem merge_left {a b : List Tk} {i j : Nat} (hi : i < a.length) (h : b.length ≤ j ∨ tlt (tAt b j) (tAt a i) = false) :
    (a.drop i).merge (b.drop j) tle = tAt a i :: (a.drop (i + 1)).merge (b.drop j) tle := by
  have e1 : a.drop i = tAt a i :: a.drop (i + 1) := by rw [List.drop_eq_getElem_cons hi]; simp [tAt, List.getElem?_eq_getElem hi]
  rw [e1]
  rcases Nat.lt_or_ge j b.length with hj | hj
  · have e2 : b.drop j = tAt b j :: b.drop (j + 1) := by rw [List.drop_eq_getElem_cons hj]; simp [tAt, List.getElem?_eq_getElem hj]
    rw [e2, List.merge, if_pos]
    rcases h with h | h
    · omega
    · simp [tle, h]
  · rw [List.drop_of_length_le hj]; simp
theorem merge_right {a b : List Tk} {i j : Nat} (hj : j < b.length) (h : a.length ≤ i ∨ tlt (tAt b j) (tAt a i) = true) :
    (a.drop i).merge (b.drop j) tle = tAt b j :: (a.drop i).merge (b.drop (j + 1)) tle := by
  have e2 : b.drop j = tAt b j :: b.drop (j + 1) := by rw [List.drop_eq_getElem_cons hj]; simp [tAt, List.getElem?_eq_getElem hj]
  rw [e2]
  rcases Nat.lt_or_ge i a.length with hi | hi
  · have e1 : a.drop i = tAt a i :: a.drop (i + 1) := by rw [List.drop_eq_getElem_cons hi]; simp [tAt, List.getElem?_eq_getElem hi]
    rw [e1, List.merge, if_neg]
    rcases h with h | h
    · omega
    · simp [tle, h]
  · rw [List.drop_of_length_le hi]; simp
theorem merge_done {a b : List Tk} {i j : Nat} (hi : a.length ≤ i) (hj : b.length ≤ j) : (a.drop i).merge (b.drop j) tle = [] := by
  rw [List.drop_of_length_le hi, List.drop_of_length_le hj]; simp
end Go.Proofs.Ytajcoimeeohnoaa
