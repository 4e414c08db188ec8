import Derived.Test.YtgjdjdgondpjeaaGreatTa
import Derived.Shelf.SlSortCmp.Insertion
import Derived.Sort.LotA
import Derived.Deep.RegionHeld3
import Derived.Sort.Grow
import Derived.Shelf.SlLaysF0
import Derived.Test.YtgjdjdgondpjeaaGreatTo
import Derived.Shelf.SlSortCmp.NoneTotal
/- The order of tasks, plain: by key, then by load; the sorted list. -/
namespace Go.Proofs.YtgjdjdgondpjeaaGreat
open Go.RowKit Go.Lib
set_option linter.unusedVariables false
/-- By key, then by load. -/
def tlt (a b : Tk) : Bool := decide (a.1 < b.1 ∨ (a.1 = b.1 ∧ a.2 < b.2))
def tle (a b : Tk) : Bool := !tlt b a
/-- What the program's comparison answers. -/
def cmpU (x y : Int) : Int := if x < y then -1 else if y < x then 1 else 0
def tcf (a b : Tk) : Int := if cmpU a.1 b.1 = 0 then cmpU a.2 b.2 else cmpU a.1 b.1
/-- The tasks in their order. -/
def srt (l : List Tk) : List Tk := l.mergeSort tle
theorem tle_iff (a b : Tk) : tle a b = true ↔ (a.1 < b.1 ∨ (a.1 = b.1 ∧ a.2 ≤ b.2)) := by
  simp only [tle, tlt, Bool.not_eq_true', decide_eq_false_iff_not]; omega
theorem ltOf_tcf : ltOf tcf = tlt := by
  funext a b
  simp only [ltOf, tlt, tcf, cmpU]
  congr 1
  apply propext
  constructor
  · intro h; repeat' split at h
    all_goals first | omega | (exfalso; omega)
  · intro h; repeat' split
    all_goals first | omega | (exfalso; omega)
theorem tlt_iff (a b : Tk) : tlt a b = true ↔ (a.1 < b.1 ∨ (a.1 = b.1 ∧ a.2 < b.2)) := by simp [tlt]
theorem tlt_niff (a b : Tk) : tlt a b = false ↔ ¬ (a.1 < b.1 ∨ (a.1 = b.1 ∧ a.2 < b.2)) := by simp [tlt]
theorem swo_tcf : Go.Sort.SWO (ltOf tcf) where
  irrefl x := by rw [ltOf_tcf, tlt_niff]; omega
  trans x y z h1 h2 := by rw [ltOf_tcf, tlt_iff] at *; omega
  ntrans x y z h1 h2 := by rw [ltOf_tcf, tlt_niff] at *; omega
theorem tot_tcf (x y : Tk) (h1 : (ltOf tcf) x y = false) (h2 : (ltOf tcf) y x = false) : x = y := by
  rw [ltOf_tcf, tlt_niff] at *
  exact Prod.ext (by omega) (by omega)
theorem srt_tcf (l : List Tk) : (l.mergeSort fun x y => !(ltOf tcf) y x) = srt l := by rw [ltOf_tcf]; rfl
theorem tle_trans (a b c : Tk) (h1 : tle a b = true) (h2 : tle b c = true) : tle a c = true := by rw [tle_iff] at *; omega
theorem tle_total (a b : Tk) : (tle a b || tle b a) = true := by rw [Bool.or_eq_true, tle_iff, tle_iff]; omega
theorem srt_perm (l : List Tk) : (srt l).Perm l := List.mergeSort_perm _ _
theorem srt_length (l : List Tk) : (srt l).length = l.length := (srt_perm l).length_eq
theorem srt_pair (l : List Tk) : (srt l).Pairwise (fun a b => tle a b = true) := List.pairwise_mergeSort tle_trans tle_total l
theorem srt_unique {l m : List Tk} (hp : m.Perm l) (hs : m.Pairwise (fun a b => tle a b = true)) : m = srt l := by
  refine List.Perm.eq_of_pairwise (le := fun a b => tle a b = true) ?_ hs (srt_pair l) (hp.trans (srt_perm l).symm)
  intro a b _ _ h1 h2
  rw [tle_iff] at h1 h2
  exact Prod.ext (by omega) (by omega)
theorem srt_congr {l m : List Tk} (hp : m.Perm l) : srt m = srt l := srt_unique ((srt_perm m).trans hp) (srt_pair m)
/-- Two halves, sorted and merged. -/
theorem srt_halves (l : List Tk) (k : Nat) : (srt (l.take k)).merge (srt (l.drop k)) tle = srt l := by
  refine srt_unique ?_ (List.pairwise_merge tle_trans tle_total _ _ (srt_pair _) (srt_pair _))
  refine (List.merge_perm_append tle).trans (((srt_perm _).append (srt_perm _)).trans ?_)
  rw [List.take_append_drop]
theorem srt_small {l : List Tk} (h : l.length < 2) : srt l = l := by
  match l, h with
  | [], _ => simp [srt]
  | [a], _ => simp [srt]
theorem srt_srt (l : List Tk) : srt (srt l) = srt l := srt_congr (srt_perm l)
/-- One step of the merging. -/
theorem merge_left {a b : List Tk} {i j : Nat} (hi : i < a.length) (h : b.length ≤ j ∨ tlt (tAt b j) (tAt a i) = false) :
    (a.drop i).merge (b.drop j) tle = tAt a i :: (a.drop (i + 1)).merge (b.drop j) tle := by
  have e1 : a.drop i = tAt a i :: a.drop (i + 1) := by rw [List.drop_eq_getElem_cons hi]; simp [tAt, List.getElem?_eq_getElem hi]
  rw [e1]
  rcases Nat.lt_or_ge j b.length with hj | hj
  · have e2 : b.drop j = tAt b j :: b.drop (j + 1) := by rw [List.drop_eq_getElem_cons hj]; simp [tAt, List.getElem?_eq_getElem hj]
    rw [e2, List.merge, if_pos]
    rcases h with h | h
    · omega
    · simp [tle, h]
  · rw [List.drop_of_length_le hj]; simp
theorem merge_right {a b : List Tk} {i j : Nat} (hj : j < b.length) (h : a.length ≤ i ∨ tlt (tAt b j) (tAt a i) = true) :
    (a.drop i).merge (b.drop j) tle = tAt b j :: (a.drop i).merge (b.drop (j + 1)) tle := by
  have e2 : b.drop j = tAt b j :: b.drop (j + 1) := by rw [List.drop_eq_getElem_cons hj]; simp [tAt, List.getElem?_eq_getElem hj]
  rw [e2]
  rcases Nat.lt_or_ge i a.length with hi | hi
  · have e1 : a.drop i = tAt a i :: a.drop (i + 1) := by rw [List.drop_eq_getElem_cons hi]; simp [tAt, List.getElem?_eq_getElem hi]
    rw [e1, List.merge, if_neg]
    rcases h with h | h
    · omega
    · simp [tle, h]
  · rw [List.drop_of_length_le hi]; simp
theorem merge_done {a b : List Tk} {i j : Nat} (hi : a.length ≤ i) (hj : b.length ≤ j) : (a.drop i).merge (b.drop j) tle = [] := by
  rw [List.drop_of_length_le hi, List.drop_of_length_le hj]; simp
end Go.Proofs.YtgjdjdgondpjeaaGreat

/- The program's comparison of tasks: cmp.Compare of words, cmp.Or, the closure of task.Sort. -/
namespace Go.Proofs.YtgjdjdgondpjeaaGreat
open Go.RowKit Go.Lib
set_option linter.unusedVariables false
set_option maxHeartbeats 1000000 in
theorem isNaN_any (x : Int) (w : World) : Calls Tryz.prog 113 #[.int .u64 x] w fun e w' => e = .returned (.bool false) ∧ w' = w := by
  go_enter Tryz.func113, Tryz.ntmps113
  go_wp2_with fail
  go_ret
  simp
set_option maxHeartbeats 1000000 in
theorem cmpU_any (x y : Int) (w : World) : Calls Tryz.prog 97 #[.int .u64 x, .int .u64 y] w fun e w' => e = .returned (.int .i64 (cmpU x y)) ∧ w' = w := by
  have HN := hide (fun z W => isNaN_any z W)
  go_enter Tryz.func97, Tryz.ntmps97
  unfold cmpU
  go_wp2_with (go_at_call 113; refine (HN.out _ _).mono ?_; rintro e w' ⟨rfl, rfl⟩)
  all_goals (try go_ret)
  all_goals simp_all
/-- The first one that isn't 0. -/
def or2 (a b : Int) : Int := if a = 0 then b else a
set_option maxHeartbeats 1000000 in
theorem or_any (a b : Int) (g o : Nat) (w : World) (h0 : w.cell? ⟨g, o, none⟩ = some (.int .i64 a)) (h1 : w.cell? ⟨g, o + 1, none⟩ = some (.int .i64 b)) :
    Calls Tryz.prog 96 #[.slice (some ⟨g, o, none⟩) 2 2] w fun e w' => e = .returned (.int .i64 (or2 a b)) ∧ w' = w := by
  unfold or2
  by_cases ha : a = 0
  · subst ha
    by_cases hb : b = 0
    · subst hb
      go_enter Tryz.func96, Tryz.ntmps96
      go_wp2_with fail
      refine wp_loop_rounds 3 ?_
      rw [rounds_succ]
      go_wp2_with fail
      rw [rounds_succ]
      go_wp2_with fail
      rw [rounds_succ]
      go_wp2_with fail
      go_ret
      simp
    · go_enter Tryz.func96, Tryz.ntmps96
      go_wp2_with fail
      refine wp_loop_rounds 3 ?_
      rw [rounds_succ]
      go_wp2_with fail
      rw [rounds_succ]
      go_wp2_with fail
      go_ret
      exact ⟨rfl, rfl⟩
  · go_enter Tryz.func96, Tryz.ntmps96
    go_wp2_with fail
    refine wp_loop_rounds 3 ?_
    rw [rounds_succ]
    go_wp2_with fail
    go_ret
    exact ⟨rfl, rfl⟩
set_option maxHeartbeats 1000000 in
theorem clos_any (x y : Tk) (W : World) : Calls Tryz.prog 95 #[.agg #[.int .u64 x.1, .int .u64 x.2], .agg #[.int .u64 y.1, .int .u64 y.2]] W fun e w' => e = .returned (.int .i64 (tcf x y)) ∧ ∃ q os', w' = Go.Sort.grow (W.drewN q) os' := by
  obtain ⟨x0, x1⟩ := x
  obtain ⟨y0, y1⟩ := y
  have HC := hide (fun a b W => cmpU_any a b W)
  have HO := hide (fun a b g o W h0 h1 => or_any a b g o W h0 h1)
  have e1 : tcf (x0, x1) (y0, y1) = or2 (cmpU x0 y0) (cmpU x1 y1) := rfl
  rw [e1]
  have hT : ∀ (X : World) (a b : Value) (t : TypeId), (X.alloc (.cells #[a, b] t)).drew.cell? ⟨X.heap.size, 0, none⟩ = some a ∧ (X.alloc (.cells #[a, b] t)).drew.cell? ⟨X.heap.size, 0 + 1, none⟩ = some b :=
    fun X a b t => ⟨cell_of (i := 0) (heap_new X (.cells #[a, b] t)) rfl, cell_of (i := 1) (heap_new X (.cells #[a, b] t)) rfl⟩
  have HT := hide hT
  clear hT
  have HA := hide (heap_new W (.cells #[.int .u64 x0, .int .u64 x1] 42))
  have HB := hide (heap_new (W.alloc (.cells #[.int .u64 x0, .int .u64 x1] 42)) (.cells #[.int .u64 y0, .int .u64 y1] 42))
  have hb2 := below_alloc (Below.refl (W.alloc (.cells #[.int .u64 x0, .int .u64 x1] 42)).heap.size (W.alloc (.cells #[.int .u64 x0, .int .u64 x1] 42))) (.cells #[.int .u64 y0, .int .u64 y1] 42)
  have hA2 := (hb2.block W.heap.size (by simp)).trans HA.out
  have hs1 : (W.alloc (.cells #[.int .u64 x0, .int .u64 x1] 42)).heap.size = W.heap.size + 1 := by simp
  have hB2 := HB.out
  rw [hs1] at hB2
  go_enter Tryz.func95, Tryz.ntmps95
  go_wp2_with fail
  clear hb2
  have hG : (W.alloc (.cells #[.int .u64 x0, .int .u64 x1] 42)).alloc (.cells #[.int .u64 y0, .int .u64 y1] 42) = Go.Sort.grow W (#[.cells #[.int .u64 x0, .int .u64 x1] 42] ++ #[.cells #[.int .u64 y0, .int .u64 y1] 42]) := by
    rw [Go.Sort.alloc_eq_grow, Go.Sort.alloc_eq_grow, Go.Sort.grow_grow]
  have HG := hide hG
  clear hG
  generalize ((W.alloc (.cells #[.int .u64 x0, .int .u64 x1] 42)).alloc (.cells #[.int .u64 y0, .int .u64 y1] 42)) = W2 at hA2 hB2 HG ⊢
  have c0 := cell_of (i := 0) hA2 rfl
  have c1 := cell_of (i := 1) hA2 rfl
  have c2 := cell_of (i := 0) hB2 rfl
  have c3 := cell_of (i := 1) hB2 rfl
  clear hA2 hB2 HA HB hs1
  refine wp_region_noPanic ?_
  go_region_held3 (fun x => x.cell? ⟨W.heap.size, 0, none⟩ = some (.int .u64 x0) ∧ x.cell? ⟨W.heap.size, 1, none⟩ = some (.int .u64 x1) ∧ x.cell? ⟨W.heap.size + 1, 0, none⟩ = some (.int .u64 y0) ∧ x.cell? ⟨W.heap.size + 1, 1, none⟩ = some (.int .u64 y1)) (first | go_keep | exact ⟨c0, c1, c2, c3⟩)
    (first
      | (go_at_call 97; refine (HC.out _ _ _).mono ?_; rintro e w' ⟨rfl, rfl⟩)
      | (go_at_call 96; refine (HO.out _ _ _ _ _ (HT.out _ _ _ _).1 (HT.out _ _ _ _).2).mono ?_; rintro e w' ⟨rfl, rfl⟩))
  refine NoPanic.normal ?_
  go_wp2_with fail
  go_ret
  exact ⟨rfl, 1, _, by rw [HG.out, Go.Sort.alloc_eq_grow, Go.Sort.grow_grow]; rfl⟩
end Go.Proofs.YtgjdjdgondpjeaaGreat

/- slices.SortFunc of tasks, laid at this program (printed by lay-plain.mjs over this program's own numbers). -/
namespace Go.Proofs.YtgjdjdgondpjeaaGreat
open Go.Shelf
def Tryz.sortTk_ren : Go.Shelf.Ren := ⟨fun | 6 => 94 | 15 => 112 | 14 => 111 | 28 => 133 | 29 => 134 | 20 => 125 | 21 => 126 | 22 => 127 | 23 => 128 | 24 => 129 | 25 => 130 | 26 => 131 | 27 => 132 | 46 => 136 | 47 => 137 | 48 => 138 | 49 => 139 | 50 => 140 | 57 => 141 | n => n, fun | 22 => 24 | 24 => 42 | 25 => 155 | 3 => 3 | 39 => 170 | 0 => 0 | 53 => 110 | 55 => 40 | 4 => 4 | 46 => 183 | 45 => 182 | 50 => 187 | 5 => 5 | 9 => 9 | 66 => 190 | 70 => 194 | 76 => 196 | 77 => 92 | n => n, fun | n => n⟩
theorem Tryz.sortTk : Go.Proofs.SlLaysF0.n6 Tryz.prog Tryz.sortTk_ren := {
  mixed := by kernel_rfl
  f6 := ⟨Tryz.f94.name, by decide, Tryz.func94.trans (congrArg some (by kernel_rfl))⟩
  f14 := ⟨Tryz.f111.name, by decide, Tryz.func111.trans (congrArg some (by kernel_rfl))⟩
  f15 := Tryz.func112.trans (congrArg some (by kernel_rfl))
  f20 := ⟨Tryz.f125.name, by decide, Tryz.func125.trans (congrArg some (by kernel_rfl))⟩
  f21 := ⟨Tryz.f126.name, by decide, Tryz.func126.trans (congrArg some (by kernel_rfl))⟩
  f22 := ⟨Tryz.f127.name, by decide, Tryz.func127.trans (congrArg some (by kernel_rfl))⟩
  f23 := ⟨Tryz.f128.name, by decide, Tryz.func128.trans (congrArg some (by kernel_rfl))⟩
  f24 := ⟨Tryz.f129.name, by decide, Tryz.func129.trans (congrArg some (by kernel_rfl))⟩
  f25 := ⟨Tryz.f130.name, by decide, Tryz.func130.trans (congrArg some (by kernel_rfl))⟩
  f26 := ⟨Tryz.f131.name, by decide, Tryz.func131.trans (congrArg some (by kernel_rfl))⟩
  f27 := ⟨Tryz.f132.name, by decide, Tryz.func132.trans (congrArg some (by kernel_rfl))⟩
  f28 := Tryz.func133.trans (congrArg some (by kernel_rfl))
  f29 := Tryz.func134.trans (congrArg some (by kernel_rfl))
  f46 := ⟨Tryz.f136.name, by decide, Tryz.func136.trans (congrArg some (by kernel_rfl))⟩
  f47 := Tryz.func137.trans (congrArg some (by kernel_rfl))
  f48 := Tryz.func138.trans (congrArg some (by kernel_rfl))
  f49 := ⟨Tryz.f139.name, by decide, Tryz.func139.trans (congrArg some (by kernel_rfl))⟩
  f50 := ⟨Tryz.f140.name, by decide, Tryz.func140.trans (congrArg some (by kernel_rfl))⟩
  f57 := ⟨Tryz.f141.name, by decide, Tryz.func141.trans (congrArg some (by kernel_rfl))⟩
  t0 := Tryz.underlying0
  a0 := Tryz.isAgg0
  z0 := Tryz.sizeOf0
  v0 := Tryz.zeroValue0
  t3 := Tryz.underlying3
  a3 := Tryz.isAgg3
  z3 := Tryz.sizeOf3
  v3 := Tryz.zeroValue3
  t4 := Tryz.underlying4
  a4 := Tryz.isAgg4
  z4 := Tryz.sizeOf4
  v4 := Tryz.zeroValue4
  t5 := Tryz.underlying5
  a5 := Tryz.isAgg5
  z5 := Tryz.sizeOf5
  v5 := Tryz.zeroValue5
  t9 := Tryz.underlying9
  a9 := Tryz.isAgg9
  z9 := Tryz.sizeOf9
  v9 := Tryz.zeroValue9
  t22 := Tryz.underlying24
  a22 := Tryz.isAgg24
  z22 := Tryz.sizeOf24
  v22 := Tryz.zeroValue24
  t25 := Tryz.underlying155
  a25 := Tryz.isAgg155
  z25 := Tryz.sizeOf155
  v25 := Tryz.zeroValue155
  t39 := Tryz.underlying170
  a39 := Tryz.isAgg170
  z39 := Tryz.sizeOf170
  v39 := Tryz.zeroValue170
  t45 := Tryz.underlying182
  a45 := Tryz.isAgg182
  z45 := Tryz.sizeOf182
  v45 := Tryz.zeroValue182
  t46 := Tryz.underlying183
  a46 := Tryz.isAgg183
  z46 := Tryz.sizeOf183
  v46 := Tryz.zeroValue183
  t50 := Tryz.underlying187
  a50 := Tryz.isAgg187
  z50 := Tryz.sizeOf187
  v50 := Tryz.zeroValue187
  t53 := Tryz.underlying110
  a53 := Tryz.isAgg110
  z53 := Tryz.sizeOf110
  v53 := Tryz.zeroValue110
  t55 := Tryz.underlying40
  a55 := Tryz.isAgg40
  z55 := Tryz.sizeOf40
  v55 := Tryz.zeroValue40
  t66 := Tryz.underlying190
  a66 := Tryz.isAgg190
  z66 := Tryz.sizeOf190
  v66 := Tryz.zeroValue190
  t70 := Tryz.underlying194
  a70 := Tryz.isAgg194
  z70 := Tryz.sizeOf194
  v70 := Tryz.zeroValue194
  t76 := Tryz.underlying196
  a76 := Tryz.isAgg196
  z76 := Tryz.sizeOf196
  v76 := Tryz.zeroValue196
  t77 := Tryz.underlying92
  a77 := Tryz.isAgg92
  z77 := Tryz.sizeOf92
  v77 := Tryz.zeroValue92 }
end Go.Proofs.YtgjdjdgondpjeaaGreat

/- task.Sort 36: whatever the length, the list holds the sorted tasks. -/
namespace Go.Proofs.YtgjdjdgondpjeaaGreat
open Go.RowKit Go.Lib Go.Shelf Go.Sort
set_option linter.unusedVariables false
def encT (x : Tk) : List Value := [.int .u64 x.1, .int .u64 x.2]
theorem flat_at (l : List Tk) (t : Nat) (h : t < l.length * 2) : (tCells l)[t]? = some (flatK encT 2 l.toArray)[t]! := by
  rw [get_flatK _ _ _ _ (by simpa using h)]
  have hh : t / 2 < l.length := by omega
  obtain ⟨p, q⟩ := tCells_at l (t / 2) hh
  have e0 : l.toArray[t / 2]! = tAt l (t / 2) := by
    rw [getElem!_pos _ _ (by simpa using hh)]
    simp [tAt, List.getElem?_eq_getElem hh]
  rw [e0]
  rcases Nat.mod_two_eq_zero_or_one t with hm | hm
  · rw [show t / 2 * 2 = t by omega] at p
    rw [p, hm]; rfl
  · rw [show t / 2 * 2 + 1 = t by omega] at q
    rw [q, hm]; rfl
theorem flat_list (l : List Tk) : (flatK encT 2 l.toArray).toList = tCells l := by
  apply List.ext_getElem?
  intro t
  rcases Nat.lt_or_ge t (l.length * 2) with h | h
  · rw [flat_at l t h]
    have h' : t < (flatK encT 2 l.toArray).size := by simpa using h
    rw [getElem!_pos (flatK encT 2 l.toArray) t h']
    simp
  · rw [List.getElem?_eq_none (l := (flatK encT 2 l.toArray).toList) (by simpa using h), List.getElem?_eq_none (l := tCells l) (by rw [tCells_length]; exact h)]
theorem TOwn.holds {w : World} {fr g n c : Nat} {l : List Tk} (h : TOwn w fr (.slice (some ⟨g, 0, none⟩) n c) l) : HoldsK encT 2 w g 0 l.toArray := by
  obtain ⟨h0, ⟨hv, _⟩ | ⟨g', cap, cur, hv, hg, hb, h1, h2, h3, h4⟩⟩ := h
  · cases hv
  · simp only [Value.slice.injEq, Option.some.injEq, Addr.mk.injEq] at hv
    obtain ⟨⟨rfl, _, _⟩, rfl, rfl⟩ := hv
    intro j hj
    rw [size_flatK] at hj
    have hj' : j < l.length * 2 := by simpa using hj
    have p := flat_at l j hj'
    rw [← h4, List.getElem?_take, if_pos hj'] at p
    have p' : cur[j]? = some (flatK encT 2 l.toArray)[j]! := by simpa using p
    rw [Nat.zero_add]
    exact ⟨cell_of hb p', free_of hb j⟩
/-- What lies behind the sort. -/
theorem TOwn.sorted {w : World} {fr g n c : Nat} {l m : List Tk} (h : TOwn w fr (.slice (some ⟨g, 0, none⟩) n c) l) (hm : m.length = l.length) (q : Nat) (os : Array Obj) :
    TOwn (sortWorldK encT 2 w g 0 q m.toArray os) fr (.slice (some ⟨g, 0, none⟩) n c) m := by
  obtain ⟨h0, ⟨hv, _⟩ | ⟨g', cap, cur, hv, hg, hb, h1, h2, h3, h4⟩⟩ := h
  · cases hv
  · simp only [Value.slice.injEq, Option.some.injEq, Addr.mk.injEq] at hv
    obtain ⟨⟨rfl, _, _⟩, rfl, rfl⟩ := hv
    have hgs : g < w.heap.size := lt_of_heap hb
    refine ⟨by rw [tCells_length], Or.inr ⟨g, c, putCells id 0 (flatK encT 2 m.toArray) cur, by rw [hm], hg, ?_, by omega, h2, by simp [putCells, h3], ?_⟩⟩
    · unfold sortWorldK
      rw [heap_grow_old _ _ (by show g < (putRow id _ g 0 _).heap.size; rw [size_putRow]; exact hgs)]
      show (mapBlock (Go.Sort.ahead w q) g _).heap[g]? = _
      simp only [mapBlock, heap_ahead, Array.getElem?_modify, if_true, hb, Option.map_some, onCells]
    · rw [← flat_list m]
      apply List.ext_getElem?
      intro t
      have hs : (flatK encT 2 m.toArray).size = m.length * 2 := by simp
      rcases Nat.lt_or_ge t (m.length * 2) with ht | ht
      · have hc : t < cur.size := by rw [h3]; omega
        rw [List.getElem?_take, if_pos ht]
        simp only [putCells, Array.getElem?_toList, Array.getElem?_mapIdx]
        have ht' : t < (flatK encT 2 m.toArray).size := by rw [hs]; exact ht
        rw [Array.getElem?_eq_getElem hc]
        simp [ht]
      · rw [List.getElem?_take, if_neg (by omega), List.getElem?_eq_none (by simpa using ht)]
theorem sort_below {w : World} {fr g : Nat} {d : Array Tk} (hg : fr ≤ g) (hs : fr ≤ w.heap.size) (q : Nat) (os : Array Obj) : Below fr w (sortWorldK encT 2 w g 0 q d os) := by
  refine ⟨rfl, rfl, rfl, ?_, ?_⟩
  · unfold sortWorldK putRowK
    rw [size_grow, size_putRow, heap_ahead]; omega
  · intro k hk
    unfold sortWorldK putRowK
    rw [heap_grow_old _ _ (by rw [size_putRow]; show k < w.heap.size; omega)]
    show (mapBlock (Go.Sort.ahead w q) g _).heap[k]? = _
    simp only [mapBlock, heap_ahead, Array.getElem?_modify]
    rw [if_neg (by omega)]
theorem cmpLays_any (blk off size : Nat) (w : World) : CmpLays Tryz.prog 95 #[] encT 2 tcf blk off size w :=
  fun _ _ _ _ x y => clos_any x y _
set_option maxHeartbeats 1000000 in
theorem sortFunc_own (l : List Tk) (fr g n c : Nat) (w : World) (h : TOwn w fr (.slice (some ⟨g, 0, none⟩) n c) l) (hs : fr ≤ w.heap.size) (hl : l.length < 4611686018427387904) :
    Calls Tryz.prog 94 #[.slice (some ⟨g, 0, none⟩) n c, .func (.func 95) #[] #[]] w fun e w' => e = .returned (.tuple #[]) ∧ TOwn w' fr (.slice (some ⟨g, 0, none⟩) n c) (srt l) ∧ Below fr w w' := by
  have eg : ∀ args w, (callFunc 95 args).run Tryz.prog w = .ok (.enter 95 args) w := enters_of Tryz.func95 (by kernel_rfl) rfl
  obtain ⟨hfg, hgs, hn⟩ : fr ≤ g ∧ g < w.heap.size ∧ n = l.length := by
    obtain ⟨h0, ⟨hv, _⟩ | ⟨g', cap, cur, hv, hg, hb, r⟩⟩ := h
    · cases hv
    · simp only [Value.slice.injEq, Option.some.injEq, Addr.mk.injEq] at hv
      obtain ⟨⟨rfl, _, _⟩, e, rfl⟩ := hv
      exact ⟨hg, lt_of_heap hb, e⟩
  have hcon := AnyQ.slices_SortFunc_total Tryz.sortTk 2 Tryz.isAgg42 Tryz.sizeOf42 encT (fun _ => rfl) (fun x v hv => by simp [encT] at hv; rcases hv with rfl | rfl <;> rfl) tcf swo_tcf 95 #[] g 0 c l.toArray w eg (cmpLays_any g 0 _ w) h.holds hgs (by simpa using hl) tot_tcf
  change Calls Tryz.prog 94 _ _ _ at hcon
  have e1 : (l.toArray).size = n := by simp [hn]
  rw [e1] at hcon
  refine hcon.mono ?_
  rintro e w' ⟨rfl, q, os, rfl⟩
  rw [show l.toArray.toList = l from rfl, srt_tcf]
  exact ⟨rfl, h.sorted (srt_length l) q os, sort_below hfg hs q os⟩
set_option maxHeartbeats 1000000 in
/-- task.Sort of a list of one's own. -/
theorem sort_any (v : Value) (l : List Tk) (fr : Nat) (w : World) (h : TOwn w fr v l) (hs : fr ≤ w.heap.size) (hl : l.length < 4611686018427387904) :
    Calls Tryz.prog 62 #[v] w fun e w' => e = .returned (.tuple #[]) ∧ TOwn w' fr v (srt l) ∧ Below fr w w' := by
  have hcon : Calls Tryz.prog 94 #[v, .func (.func 95) #[] #[]] w fun e w' => e = .returned (.tuple #[]) ∧ TOwn w' fr v (srt l) ∧ Below fr w w' := by
    obtain ⟨h0, hh⟩ := id h
    rcases hh with ⟨rfl, hn⟩ | ⟨g, cap, cur, rfl, _⟩
    · obtain rfl : l = [] := List.eq_nil_of_length_eq_zero hn
      have hc := AnyF.slices_SortFunc_none Tryz.sortTk none 0 (.func (.func 95) #[] #[]) w
      change Calls Tryz.prog 94 _ _ _ at hc
      refine hc.mono ?_
      rintro e w' ⟨rfl, rfl⟩
      exact ⟨rfl, by simpa [srt] using TOwn.nil _ _, Below.refl _ _⟩
    · exact sortFunc_own l fr g _ cap w h hs hl
  have HC := hide hcon
  clear hcon
  obtain ⟨ao, c, rfl, _, _⟩ := h.tat.shape
  clear h
  go_enter Tryz.func62, Tryz.ntmps62
  go_wp2_with (go_at_call 94; refine HC.out.mono ?_; rintro e w' ⟨rfl, ht, hb⟩)
  go_end0
  exact ⟨rfl, ht, hb⟩
end Go.Proofs.YtgjdjdgondpjeaaGreat
