/- graph.ByDegree: the sorted vertices, plainly. -/
import Derived.Test.YtmagigmcbegmiaaBd
import Derived.Test.YtmagigmcbegmiaaRr
namespace Go.Proofs.Ytmagigmcbegmiaa
open Go.RowKit Go.Lib
set_option linter.unusedVariables false
set_option linter.unusedSimpArgs false
/-- Ahead: more edges, or as many and the lesser number. -/
def dlt (st : List Int) (x y : Nat) : Bool := decide (dg st y < dg st x ∨ (dg st x = dg st y ∧ x < y))
theorem dlt_iff (st : List Int) (x y : Nat) : dlt st x y = true ↔ (dg st y < dg st x ∨ (dg st x = dg st y ∧ x < y)) := by simp [dlt]
theorem dlt_niff (st : List Int) (x y : Nat) : dlt st x y = false ↔ ¬ (dg st y < dg st x ∨ (dg st x = dg st y ∧ x < y)) := by simp [dlt]
def dcF (n : Nat) (st : List Int) (x y : Fin n) : Int := dcf st x.val y.val
theorem ltOf_dcF (n : Nat) (st : List Int) : ltOf (dcF n st) = fun x y => dlt st x.val y.val := by
  funext a b
  simp only [ltOf, dlt, dcF, dcf, or2, cmpI]
  congr 1
  apply propext
  constructor
  · intro h; repeat' split at h
    all_goals first | omega | (exfalso; omega)
  · intro h; repeat' split
    all_goals first | omega | (exfalso; omega)
theorem swo_dcF (n : Nat) (st : List Int) : Go.Sort.SWO (ltOf (dcF n st)) where
  irrefl x := by rw [ltOf_dcF]; show dlt st _ _ = false; rw [dlt_niff]; omega
  trans x y z h1 h2 := by rw [ltOf_dcF] at *; simp only [dlt_iff] at *; omega
  ntrans x y z h1 h2 := by rw [ltOf_dcF] at *; simp only [dlt_niff] at *; omega
theorem tot_dcF (n : Nat) (st : List Int) (x y : Fin n) (h1 : (ltOf (dcF n st)) x y = false) (h2 : (ltOf (dcF n st)) y x = false) : x = y := by
  rw [ltOf_dcF] at *
  simp only [dlt_niff] at *
  exact Fin.ext (by omega)
/-- The vertices in their order. -/
def dsL (n : Nat) (st : List Int) (l : List (Fin n)) : List (Fin n) := l.mergeSort fun x y => !(ltOf (dcF n st)) y x
theorem dsL_perm (n : Nat) (st : List Int) (l : List (Fin n)) : (dsL n st l).Perm l := List.mergeSort_perm _ _
theorem dsL_pair (n : Nat) (st : List Int) (l : List (Fin n)) : (dsL n st l).Pairwise (fun a b => dg st b.val ≤ dg st a.val) := by
  have h := List.pairwise_mergeSort (le := fun x y => !(ltOf (dcF n st)) y x) (fun a b c h1 h2 => by
    rw [ltOf_dcF] at *
    simp only [Bool.not_eq_true', dlt_niff] at *
    omega) (fun a b => by
    rw [ltOf_dcF]
    simp only [Bool.or_eq_true, Bool.not_eq_true', dlt_niff]
    omega) l
  refine h.imp ?_
  intro a b hab
  rw [ltOf_dcF] at hab
  simp only [Bool.not_eq_true', dlt_niff] at hab
  omega
/-- As numbers. -/
def valL {n : Nat} (l : List (Fin n)) : List Int := l.map (fun v => (v.val : Int))
theorem valL_at {n : Nat} (l : List (Fin n)) (i : Nat) (hi : i < l.length) : at_ (valL l) i = (l[i].val : Int) := by simp [at_, valL, hi]
/-- All vertices, each once: an order. -/
theorem prm_of {n : Nat} {l : List (Fin n)} (h : l.Perm (List.finRange n)) : Prm n (valL l) (fun v => l.findIdx (fun x => decide (x.val = v))) := by
  have hl : l.length = n := by rw [h.length_eq]; simp
  have hnd : l.Nodup := h.nodup_iff.2 (List.nodup_finRange n)
  refine ⟨by simp [valL, hl], fun i hi => ?_, fun v hv => ?_⟩
  · have hil : i < l.length := by omega
    refine ⟨l[i].val, valL_at l i hil, l[i].isLt, ?_⟩
    rw [List.findIdx_eq hil]
    refine ⟨by simp, fun j hj => ?_⟩
    simp only [decide_eq_false_iff_not]
    intro he
    have he2 : l[j] = l[i] := Fin.ext he
    exact (List.pairwise_iff_getElem.1 hnd) j i (by omega) hil hj he2
  · have hm : (⟨v, hv⟩ : Fin n) ∈ l := h.mem_iff.2 (List.mem_finRange _)
    have hlt : l.findIdx (fun x => decide (x.val = v)) < l.length := List.findIdx_lt_length_of_exists ⟨_, hm, by simp⟩
    refine ⟨by omega, ?_⟩
    rw [valL_at _ _ hlt]
    have := List.findIdx_getElem (w := hlt)
    simp only [decide_eq_true_eq] at this
    rw [this]
/-- What lies elsewhere stays while it is sorted. -/
theorem sort_other {α : Type} [Inhabited α] {enc : α → Value} {w : World} {blk off m k : Nat} {dk : Array α} {os : Array Obj} (hk : k ≠ blk) (hl : k < w.heap.size) : (sortWorld enc w blk off m dk os).heap[k]? = w.heap[k]? := by
  unfold sortWorld
  rw [Go.Sort.heap_grow_old _ _ (by rw [Go.Sort.size_putRow]; exact hl)]
  show (Go.Sort.mapBlock (Go.Sort.ahead w m) blk _).heap[k]? = _
  simp only [Go.Sort.mapBlock, Go.Sort.heap_ahead, Array.getElem?_modify]
  rw [if_neg (fun h => hk h.symm)]
def encF (n : Nat) (v : Fin n) : Value := .int .i64 (v.val : Int)
theorem holdsF {n : Nat} {w : World} {blk : Nat} {l : List (Fin n)} [Inhabited (Fin n)] (h : Arr w blk (valL l)) : Go.Sort.Holds (encF n) w blk 0 l.toArray := by
  intro j hj
  have hjl : j < l.length := by simpa using hj
  have hjv : j < (valL l).length := by simpa [valL] using hjl
  refine ⟨?_, ?_⟩
  · rw [Nat.zero_add, h.cell j hjv, valL_at l j hjl]
    unfold encF
    rw [getElem!_pos _ j hj]
    rfl
  · rw [Nat.zero_add]; exact h.free j
theorem sort_arr {n : Nat} {w : World} {blk m : Nat} {l l' : List (Fin n)} {os : Array Obj} [Inhabited (Fin n)] (h : Arr w blk (valL l)) (hl : l'.length = l.length) : Arr (sortWorld (encF n) w blk 0 m l'.toArray os) blk (valL l') := by
  have hb : blk < w.heap.size := lt_of_heap h
  unfold Arr sortWorld
  rw [Go.Sort.heap_grow_old _ _ (by rw [Go.Sort.size_putRow]; exact hb)]
  show (Go.Sort.mapBlock (Go.Sort.ahead w m) blk _).heap[blk]? = _
  unfold Arr at h
  simp only [Go.Sort.mapBlock, Go.Sort.heap_ahead, Array.getElem?_modify, if_true, h, Option.map_some, Go.Sort.onCells]
  congr 2
  apply Array.ext_getElem?
  intro j
  simp only [Go.Sort.putCells, iCells, valL, Array.getElem?_mapIdx]
  rcases Nat.lt_or_ge j l.length with hj | hj
  · have hj' : j < l'.length := by omega
    simp [hj, hj', encF]
  · have hj' : ¬ j < l'.length := by omega
    have hj2 : ¬ j < l.length := by omega
    simp [hj', hj2]
end Go.Proofs.Ytmagigmcbegmiaa
