/- A list of edges in a block of its own; a row of it sorted in place. -/
import Derived.Test.YtmagigmcbegmiaaTq
import Derived.Test.YtmagigmcbegmiaaTe
import Derived.Test.YtmagigmcbegmiaaSoE
import Derived.Test.YtmagigmcbegmiaaGEd
import Derived.Shelf.SlSortCmp.NoneTotal
namespace Go.Proofs.Ytmagigmcbegmiaa
open Go.RowKit Go.Lib Go.Shelf Go.Sort
set_option linter.unusedVariables false
set_option linter.unusedSimpArgs false
def pcf (a b : Pq) : Int := or2 (cmpI a.1 b.1) (cmpI a.2 b.2)
theorem ltOf_pcf : ltOf pcf = plt := by
  funext a b
  simp only [ltOf, plt, pcf, or2, cmpI]
  congr 1
  apply propext
  constructor
  · intro h; repeat' split at h
    all_goals first | omega | (exfalso; omega)
  · intro h; repeat' split
    all_goals first | omega | (exfalso; omega)
theorem swo_pcf : Go.Sort.SWO (ltOf pcf) where
  irrefl x := by rw [ltOf_pcf, plt_niff]; omega
  trans x y z h1 h2 := by rw [ltOf_pcf, plt_iff] at *; omega
  ntrans x y z h1 h2 := by rw [ltOf_pcf, plt_niff] at *; omega
theorem tot_pcf (x y : Pq) (h1 : (ltOf pcf) x y = false) (h2 : (ltOf pcf) y x = false) : x = y := by
  rw [ltOf_pcf, plt_niff] at *
  exact Prod.ext (by omega) (by omega)
theorem psrt_pcf (l : List Pq) : (l.mergeSort fun x y => !(ltOf pcf) y x) = psrt l := by rw [ltOf_pcf]; rfl
def encV (v : Int) (p : Pq) : List Value := [.int .i64 v, .int .i64 p.1, .int .u64 p.2]
theorem flatV_at (v : Int) (l : List Pq) (t : Nat) (h : t < l.length * 3) : (eCells (l.map (mkE v)))[t]? = some (flatK (encV v) 3 l.toArray)[t]! := by
  rw [get_flatK _ _ _ _ (by simpa using h)]
  have hh : t / 3 < l.length := by omega
  obtain ⟨p, q, r⟩ := eCells_at (l.map (mkE v)) (t / 3) (by simpa using hh)
  have e1 : eAt (l.map (mkE v)) (t / 3) = mkE v l[t / 3] := by simp [eAt, hh]
  have e0 : l.toArray[t / 3]! = l[t / 3] := by
    rw [getElem!_pos _ _ (by simpa using hh)]; simp
  rw [e1] at p q r
  rw [e0]
  have hm : t % 3 = 0 ∨ t % 3 = 1 ∨ t % 3 = 2 := by omega
  rcases hm with hm | hm | hm
  · rw [show t / 3 * 3 = t by omega] at p
    rw [p, hm]; rfl
  · rw [show t / 3 * 3 + 1 = t by omega] at q
    rw [q, hm]; rfl
  · rw [show t / 3 * 3 + 2 = t by omega] at r
    rw [r, hm]; rfl
theorem EArr.holds {v : Int} {w : World} {R : Nat} {A C : List Ed3} {d : List Pq} (h : EArr w R (A ++ d.map (mkE v) ++ C)) : HoldsK (encV v) 3 w R (A.length * 3) d.toArray := by
  intro j hj
  rw [size_flatK] at hj
  have hj' : j < d.length * 3 := by simpa using hj
  have p := flatV_at v d j hj'
  refine ⟨cell_of h ?_, free_of h _⟩
  rw [eCells_append, eCells_append]
  simp only [List.getElem?_toArray]
  rw [List.append_assoc, List.getElem?_append_right (l₁ := eCells A) (l₂ := eCells (d.map (mkE v)) ++ eCells C) (by rw [eCells_length]; omega), eCells_length A, Nat.add_sub_cancel_left, List.getElem?_append_left (l₁ := eCells (d.map (mkE v))) (l₂ := eCells C) (by rw [eCells_length]; simpa using hj')]
  exact p
theorem putV {v : Int} {A C : List Ed3} {d d' : List Pq} (hm : d'.length = d.length) : putCells id (A.length * 3) (flatK (encV v) 3 d'.toArray) (eCells (A ++ d.map (mkE v) ++ C)).toArray = (eCells (A ++ d'.map (mkE v) ++ C)).toArray := by
  apply Array.ext_getElem?
  intro j
  have hs : (flatK (encV v) 3 d'.toArray).size = d'.length * 3 := by simp
  have l1 : (eCells (d.map (mkE v))).length = d.length * 3 := by rw [eCells_length]; simp
  have l2 : (eCells (d'.map (mkE v))).length = d.length * 3 := by rw [eCells_length]; simp [hm]
  simp only [putCells, Array.getElem?_mapIdx, List.getElem?_toArray, hs]
  rw [eCells_append, eCells_append, eCells_append, eCells_append, List.append_assoc, List.append_assoc]
  rcases Nat.lt_or_ge j (A.length * 3) with h1 | h1
  · rw [List.getElem?_append_left (by rw [eCells_length]; exact h1), List.getElem?_append_left (by rw [eCells_length]; exact h1)]
    cases h : (eCells A)[j]? with
    | none => rfl
    | some x => simp only [Option.map_some]; rw [if_neg (by omega)]
  · have la := eCells_length A
    rw [List.getElem?_append_right (l₁ := eCells A) (l₂ := eCells (d.map (mkE v)) ++ eCells C) (by omega), List.getElem?_append_right (l₁ := eCells A) (l₂ := eCells (d'.map (mkE v)) ++ eCells C) (by omega), la]
    rcases Nat.lt_or_ge (j - A.length * 3) (d.length * 3) with h2 | h2
    · rw [List.getElem?_append_left (l₁ := eCells (d.map (mkE v))) (l₂ := eCells C) (by omega), List.getElem?_append_left (l₁ := eCells (d'.map (mkE v))) (l₂ := eCells C) (by omega), flatV_at v d' _ (by omega), flatV_at v d _ h2]
      simp only [Option.map_some]
      rw [if_pos (by omega)]
      rfl
    · rw [List.getElem?_append_right (l₁ := eCells (d.map (mkE v))) (l₂ := eCells C) (by omega), List.getElem?_append_right (l₁ := eCells (d'.map (mkE v))) (l₂ := eCells C) (by omega), l1, l2]
      cases h : (eCells C)[j - A.length * 3 - d.length * 3]? with
      | none => rfl
      | some x => simp only [Option.map_some]; rw [if_neg (by omega)]
theorem EArr.sorted {v : Int} {w : World} {R : Nat} {A C : List Ed3} {d d' : List Pq} (h : EArr w R (A ++ d.map (mkE v) ++ C)) (hm : d'.length = d.length) (q : Nat) (os : Array Obj) :
    EArr (sortWorldK (encV v) 3 w R (A.length * 3) q d'.toArray os) R (A ++ d'.map (mkE v) ++ C) ∧ Chg (fun k => k = R) w (sortWorldK (encV v) 3 w R (A.length * 3) q d'.toArray os) := by
  have hgs : R < w.heap.size := lt_of_heap h
  have key : ∀ k, k < w.heap.size → (sortWorldK (encV v) 3 w R (A.length * 3) q d'.toArray os).heap[k]? = (mapBlock (Go.Sort.ahead w q) R (putCells id (A.length * 3) (flatK (encV v) 3 d'.toArray))).heap[k]? := fun k hk => by
    unfold sortWorldK
    rw [heap_grow_old _ _ (by show k < (putRow id _ R _ _).heap.size; rw [size_putRow]; exact hk)]
    rfl
  refine ⟨?_, rfl, rfl, rfl, ?_, fun k hk hne => ?_⟩
  · unfold EArr at h ⊢
    rw [key R hgs]
    simp only [mapBlock, heap_ahead, Array.getElem?_modify, if_true, h, Option.map_some, onCells]
    rw [putV hm]
  · unfold sortWorldK putRowK
    rw [size_grow, size_putRow, heap_ahead]; omega
  · rw [key k hk]
    simp only [mapBlock, heap_ahead, Array.getElem?_modify]
    rw [if_neg (fun e => hne e.symm)]
set_option maxHeartbeats 1000000 in
theorem sortRow_any (v : Int) (A C : List Ed3) (d : List Pq) (R c : Nat) (w : World) (h : EArr w R (A ++ d.map (mkE v) ++ C)) (hl : d.length < 4611686018427387904) :
    Calls Try.prog 93 #[.slice (some ⟨R, A.length * 3, none⟩) d.length c, .func (.func 94) #[] #[]] w fun e w' => e = .returned (.tuple #[]) ∧ EArr w' R (A ++ (psrt d).map (mkE v) ++ C) ∧ Chg (fun k => k = R) w w' := by
  have eg : ∀ args w, (callFunc 94 args).run Try.prog w = .ok (.enter 94 args) w := enters_of Try.func94 (by kernel_rfl) rfl
  have hcl : CmpLays Try.prog 94 #[] (encV v) 3 pcf R (A.length * 3) d.toArray.size w := fun m os dk _ x y => eclos_any (mkE v x) (mkE v y) _
  have hcon := AnyQ.slices_SortFunc_total Try.sortEd 3 Try.isAgg50 Try.sizeOf50 (encV v) (fun _ => rfl) (fun x u hu => by simp [encV] at hu; rcases hu with rfl | rfl | rfl <;> rfl) pcf swo_pcf 94 #[] R (A.length * 3) c d.toArray w eg hcl h.holds (lt_of_heap h) (by simpa using hl) tot_pcf
  change Calls Try.prog 93 _ _ _ at hcon
  rw [show (d.toArray).size = d.length by simp] at hcon
  refine hcon.mono ?_
  rintro e w' ⟨rfl, q, os, rfl⟩
  rw [show d.toArray.toList = d from rfl, psrt_pcf]
  exact ⟨rfl, h.sorted (psrt_length d) q os⟩
end Go.Proofs.Ytmagigmcbegmiaa
