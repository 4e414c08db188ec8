import Derived.Test.YtiohimbifjlfdaaRB
import Derived.Shelf.SlSortCmp.Insertion
import Derived.Sort.LotA
import Derived.Shelf.SlLaysF0
import Derived.Test.YtiohimbifjlfdaaFresh
import Derived.Test.YtiohimbifjlfdaaLists
import Derived.Deep.RegionHeld3
import Derived.Sort.Grow
import Derived.Shelf.SlSortCmp.NoneTotal
/- The order of pairs, plainly; the sorted list. -/
namespace Go.Proofs.Ytiohimbifjlfdaa
open Go.RowKit Go.Lib
set_option linter.unusedVariables false
abbrev Pq := Int × Int
/-- By the first, then by the second. -/
def plt (a b : Pq) : Bool := decide (a.1 < b.1 ∨ (a.1 = b.1 ∧ a.2 < b.2))
def ple (a b : Pq) : Bool := !plt b a
/-- What the program's comparison answers. -/
def cmpI (x y : Int) : Int := if x < y then -1 else if y < x then 1 else 0
def pcf (a b : Pq) : Int := if cmpI a.1 b.1 = 0 then cmpI a.2 b.2 else cmpI a.1 b.1
/-- The pairs in their order. -/
def psrt (l : List Pq) : List Pq := l.mergeSort ple
theorem ple_iff (a b : Pq) : ple a b = true ↔ (a.1 < b.1 ∨ (a.1 = b.1 ∧ a.2 ≤ b.2)) := by
  simp only [ple, plt, Bool.not_eq_true', decide_eq_false_iff_not]; omega
theorem ltOf_pcf : ltOf pcf = plt := by
  funext a b
  simp only [ltOf, plt, pcf, cmpI]
  congr 1
  apply propext
  constructor
  · intro h; repeat' split at h
    all_goals first | omega | (exfalso; omega)
  · intro h; repeat' split
    all_goals first | omega | (exfalso; omega)
theorem plt_iff (a b : Pq) : plt a b = true ↔ (a.1 < b.1 ∨ (a.1 = b.1 ∧ a.2 < b.2)) := by simp [plt]
theorem plt_niff (a b : Pq) : plt a b = false ↔ ¬ (a.1 < b.1 ∨ (a.1 = b.1 ∧ a.2 < b.2)) := by simp [plt]
theorem swo_pcf : Go.Sort.SWO (ltOf pcf) where
  irrefl x := by rw [ltOf_pcf, plt_niff]; omega
  trans x y z h1 h2 := by rw [ltOf_pcf, plt_iff] at *; omega
  ntrans x y z h1 h2 := by rw [ltOf_pcf, plt_niff] at *; omega
theorem tot_pcf (x y : Pq) (h1 : (ltOf pcf) x y = false) (h2 : (ltOf pcf) y x = false) : x = y := by
  rw [ltOf_pcf, plt_niff] at *
  exact Prod.ext (by omega) (by omega)
theorem psrt_pcf (l : List Pq) : (l.mergeSort fun x y => !(ltOf pcf) y x) = psrt l := by rw [ltOf_pcf]; rfl
theorem ple_trans (a b c : Pq) (h1 : ple a b = true) (h2 : ple b c = true) : ple a c = true := by rw [ple_iff] at *; omega
theorem ple_total (a b : Pq) : (ple a b || ple b a) = true := by rw [Bool.or_eq_true, ple_iff, ple_iff]; omega
theorem psrt_perm (l : List Pq) : (psrt l).Perm l := List.mergeSort_perm _ _
theorem psrt_length (l : List Pq) : (psrt l).length = l.length := (psrt_perm l).length_eq
theorem psrt_pair (l : List Pq) : (psrt l).Pairwise (fun a b => ple a b = true) := List.pairwise_mergeSort ple_trans ple_total l
theorem psrt_unique {l m : List Pq} (hp : m.Perm l) (hs : m.Pairwise (fun a b => ple a b = true)) : m = psrt l := by
  refine List.Perm.eq_of_pairwise (le := fun a b => ple a b = true) ?_ hs (psrt_pair l) (hp.trans (psrt_perm l).symm)
  intro a b _ _ h1 h2
  rw [ple_iff] at h1 h2
  exact Prod.ext (by omega) (by omega)
theorem psrt_congr {l m : List Pq} (hp : m.Perm l) : psrt m = psrt l := psrt_unique ((psrt_perm m).trans hp) (psrt_pair m)

/-- slices.Compare of two pairs. -/
theorem pcf_eq (a b : Pq) : pcf a b = if cmpI a.1 b.1 = 0 then cmpI a.2 b.2 else cmpI a.1 b.1 := rfl
end Go.Proofs.Ytiohimbifjlfdaa

/- slices.SortFunc of pairs, laid at this program (printed by lay-plain.mjs over this program's own numbers). -/
namespace Go.Proofs.Ytiohimbifjlfdaa
open Go.Shelf
def Try.sortPq_ren : Go.Shelf.Ren := ⟨fun | 6 => 63 | 15 => 70 | 14 => 69 | 28 => 80 | 29 => 81 | 20 => 72 | 21 => 73 | 22 => 74 | 23 => 75 | 24 => 76 | 25 => 77 | 26 => 78 | 27 => 79 | 46 => 82 | 47 => 83 | 48 => 84 | 49 => 85 | 50 => 86 | 57 => 87 | n => n, fun | 22 => 81 | 24 => 84 | 25 => 86 | 3 => 3 | 39 => 100 | 0 => 0 | 53 => 115 | 55 => 46 | 4 => 4 | 46 => 124 | 45 => 123 | 50 => 128 | 5 => 5 | 9 => 9 | 66 => 132 | 70 => 136 | 76 => 138 | 77 => 139 | n => n, fun | n => n⟩
theorem Try.sortPq : Go.Proofs.SlLaysF0.n6 Try.prog Try.sortPq_ren := {
  mixed := by kernel_rfl
  f6 := ⟨Try.f63.name, by decide, Try.func63.trans (congrArg some (by kernel_rfl))⟩
  f14 := ⟨Try.f69.name, by decide, Try.func69.trans (congrArg some (by kernel_rfl))⟩
  f15 := Try.func70.trans (congrArg some (by kernel_rfl))
  f20 := ⟨Try.f72.name, by decide, Try.func72.trans (congrArg some (by kernel_rfl))⟩
  f21 := ⟨Try.f73.name, by decide, Try.func73.trans (congrArg some (by kernel_rfl))⟩
  f22 := ⟨Try.f74.name, by decide, Try.func74.trans (congrArg some (by kernel_rfl))⟩
  f23 := ⟨Try.f75.name, by decide, Try.func75.trans (congrArg some (by kernel_rfl))⟩
  f24 := ⟨Try.f76.name, by decide, Try.func76.trans (congrArg some (by kernel_rfl))⟩
  f25 := ⟨Try.f77.name, by decide, Try.func77.trans (congrArg some (by kernel_rfl))⟩
  f26 := ⟨Try.f78.name, by decide, Try.func78.trans (congrArg some (by kernel_rfl))⟩
  f27 := ⟨Try.f79.name, by decide, Try.func79.trans (congrArg some (by kernel_rfl))⟩
  f28 := Try.func80.trans (congrArg some (by kernel_rfl))
  f29 := Try.func81.trans (congrArg some (by kernel_rfl))
  f46 := ⟨Try.f82.name, by decide, Try.func82.trans (congrArg some (by kernel_rfl))⟩
  f47 := Try.func83.trans (congrArg some (by kernel_rfl))
  f48 := Try.func84.trans (congrArg some (by kernel_rfl))
  f49 := ⟨Try.f85.name, by decide, Try.func85.trans (congrArg some (by kernel_rfl))⟩
  f50 := ⟨Try.f86.name, by decide, Try.func86.trans (congrArg some (by kernel_rfl))⟩
  f57 := ⟨Try.f87.name, by decide, Try.func87.trans (congrArg some (by kernel_rfl))⟩
  t0 := Try.underlying0
  a0 := Try.isAgg0
  z0 := Try.sizeOf0
  v0 := Try.zeroValue0
  t3 := Try.underlying3
  a3 := Try.isAgg3
  z3 := Try.sizeOf3
  v3 := Try.zeroValue3
  t4 := Try.underlying4
  a4 := Try.isAgg4
  z4 := Try.sizeOf4
  v4 := Try.zeroValue4
  t5 := Try.underlying5
  a5 := Try.isAgg5
  z5 := Try.sizeOf5
  v5 := Try.zeroValue5
  t9 := Try.underlying9
  a9 := Try.isAgg9
  z9 := Try.sizeOf9
  v9 := Try.zeroValue9
  t22 := Try.underlying81
  a22 := Try.isAgg81
  z22 := Try.sizeOf81
  v22 := Try.zeroValue81
  t25 := Try.underlying86
  a25 := Try.isAgg86
  z25 := Try.sizeOf86
  v25 := Try.zeroValue86
  t39 := Try.underlying100
  a39 := Try.isAgg100
  z39 := Try.sizeOf100
  v39 := Try.zeroValue100
  t45 := Try.underlying123
  a45 := Try.isAgg123
  z45 := Try.sizeOf123
  v45 := Try.zeroValue123
  t46 := Try.underlying124
  a46 := Try.isAgg124
  z46 := Try.sizeOf124
  v46 := Try.zeroValue124
  t50 := Try.underlying128
  a50 := Try.isAgg128
  z50 := Try.sizeOf128
  v50 := Try.zeroValue128
  t53 := Try.underlying115
  a53 := Try.isAgg115
  z53 := Try.sizeOf115
  v53 := Try.zeroValue115
  t55 := Try.underlying46
  a55 := Try.isAgg46
  z55 := Try.sizeOf46
  v55 := Try.zeroValue46
  t66 := Try.underlying132
  a66 := Try.isAgg132
  z66 := Try.sizeOf132
  v66 := Try.zeroValue132
  t70 := Try.underlying136
  a70 := Try.isAgg136
  z70 := Try.sizeOf136
  v70 := Try.zeroValue136
  t76 := Try.underlying138
  a76 := Try.isAgg138
  z76 := Try.sizeOf138
  v76 := Try.zeroValue138
  t77 := Try.underlying139
  a77 := Try.isAgg139
  z77 := Try.sizeOf139
  v77 := Try.zeroValue139 }
end Go.Proofs.Ytiohimbifjlfdaa

/- The program's comparison of pairs. -/
namespace Go.Proofs.Ytiohimbifjlfdaa
open Go.RowKit Go.Lib
set_option linter.unusedVariables false
set_option maxHeartbeats 1000000 in
theorem isNaNI_any (x : Int) (w : World) : Calls Try.prog 71 #[.int .i64 x] w fun e w' => e = .returned (.bool false) ∧ w' = w := by
  go_enter Try.func71, Try.ntmps71
  go_wp2_with fail
  go_ret
  simp
set_option maxHeartbeats 1000000 in
theorem cmpI_any (x y : Int) (w : World) : Calls Try.prog 64 #[.int .i64 x, .int .i64 y] w fun e w' => e = .returned (.int .i64 (cmpI x y)) ∧ w' = w := by
  have HN := hide (fun z W => isNaNI_any z W)
  go_enter Try.func64, Try.ntmps64
  unfold cmpI
  go_wp2_with (go_at_call 71; refine (HN.out _ _).mono ?_; rintro e w' ⟨rfl, rfl⟩)
  all_goals (try go_ret)
  all_goals simp_all
set_option maxRecDepth 100000 in
set_option maxHeartbeats 2000000 in
theorem cmpS_any (x y : Pq) (g h : Nat) (w : World) (h0 : w.cell? ⟨g, 0, none⟩ = some (.int .i64 x.1)) (h1 : w.cell? ⟨g, 0 + 1, none⟩ = some (.int .i64 x.2)) (k0 : w.cell? ⟨h, 0, none⟩ = some (.int .i64 y.1)) (k1 : w.cell? ⟨h, 0 + 1, none⟩ = some (.int .i64 y.2)) :
    Calls Try.prog 42 #[.slice (some ⟨g, 0, none⟩) 2 2, .slice (some ⟨h, 0, none⟩) 2 2] w fun e w' => e = .returned (.int .i64 (pcf x y)) ∧ w' = w := by
  obtain ⟨x0, x1⟩ := x
  obtain ⟨y0, y1⟩ := y
  have HC := hide (fun a b W => cmpI_any a b W)
  unfold pcf
  simp only at h0 h1 k0 k1 ⊢
  obtain ⟨c0, hc0⟩ : ∃ c, c = cmpI x0 y0 := ⟨_, rfl⟩
  obtain ⟨c1, hc1⟩ : ∃ c, c = cmpI x1 y1 := ⟨_, rfl⟩
  rw [← hc0, ← hc1]
  have HC0 := hide hc0; have HC1 := hide hc1
  clear hc0 hc1
  by_cases ha : c0 = 0
  · subst ha
    by_cases hb : c1 = 0
    · subst hb
      go_enter Try.func42, Try.ntmps42
      go_wp2_with fail
      refine wp_loop_rounds 3 ?_
      rw [rounds_succ]
      go_wp2_with (go_at_call 64; refine (HC.out _ _ _).mono ?_; rintro e w' ⟨rfl, rfl⟩; rw [← HC0.out])
      rw [rounds_succ]
      go_wp2_with (go_at_call 64; refine (HC.out _ _ _).mono ?_; rintro e w' ⟨rfl, rfl⟩; rw [← HC1.out])
      rw [rounds_succ]
      go_wp2_with fail
      go_ret
      exact ⟨rfl, rfl⟩
    · have hbb : (c1 != 0) = true := by simpa using hb
      go_enter Try.func42, Try.ntmps42
      go_wp2_with fail
      refine wp_loop_rounds 3 ?_
      rw [rounds_succ]
      go_wp2_with (go_at_call 64; refine (HC.out _ _ _).mono ?_; rintro e w' ⟨rfl, rfl⟩; rw [← HC0.out])
      rw [rounds_succ]
      go_wp2_with (go_at_call 64; refine (HC.out _ _ _).mono ?_; rintro e w' ⟨rfl, rfl⟩; rw [← HC1.out])
      go_ret
      exact ⟨rfl, rfl⟩
  · have hbb : (c0 != 0) = true := by simpa using ha
    rw [if_neg ha]
    go_enter Try.func42, Try.ntmps42
    go_wp2_with fail
    refine wp_loop_rounds 3 ?_
    rw [rounds_succ]
    go_wp2_with (go_at_call 64; refine (HC.out _ _ _).mono ?_; rintro e w' ⟨rfl, rfl⟩; rw [← HC0.out])
    go_ret
    exact ⟨rfl, rfl⟩
set_option maxHeartbeats 1000000 in
/-- inOrder's closure. -/
theorem closP_any (x y : Pq) (W : World) : Calls Try.prog 41 #[.agg #[.int .i64 x.1, .int .i64 x.2], .agg #[.int .i64 y.1, .int .i64 y.2]] W fun e w' => e = .returned (.int .i64 (pcf x y)) ∧ ∃ q os', w' = Go.Sort.grow (W.drewN q) os' := by
  have HO := hide (fun g h W h0 h1 h2 h3 => cmpS_any x y g h W h0 h1 h2 h3)
  have HA := hide (heap_new W (.cells #[.int .i64 x.1, .int .i64 x.2] 84))
  have HB := hide (heap_new (W.alloc (.cells #[.int .i64 x.1, .int .i64 x.2] 84)) (.cells #[.int .i64 y.1, .int .i64 y.2] 84))
  have hb2 := below_alloc (Below.refl (W.alloc (.cells #[.int .i64 x.1, .int .i64 x.2] 84)).heap.size (W.alloc (.cells #[.int .i64 x.1, .int .i64 x.2] 84))) (.cells #[.int .i64 y.1, .int .i64 y.2] 84)
  have hA2 := (hb2.block W.heap.size (by simp)).trans HA.out
  have hs1 : (W.alloc (.cells #[.int .i64 x.1, .int .i64 x.2] 84)).heap.size = W.heap.size + 1 := by simp
  have hB2 := HB.out
  rw [hs1] at hB2
  go_enter Try.func41, Try.ntmps41
  go_wp2_with fail
  clear hb2
  have hG : (W.alloc (.cells #[.int .i64 x.1, .int .i64 x.2] 84)).alloc (.cells #[.int .i64 y.1, .int .i64 y.2] 84) = Go.Sort.grow W (#[.cells #[.int .i64 x.1, .int .i64 x.2] 84] ++ #[.cells #[.int .i64 y.1, .int .i64 y.2] 84]) := by
    rw [Go.Sort.alloc_eq_grow, Go.Sort.alloc_eq_grow, Go.Sort.grow_grow]
  have HG := hide hG
  clear hG
  generalize ((W.alloc (.cells #[.int .i64 x.1, .int .i64 x.2] 84)).alloc (.cells #[.int .i64 y.1, .int .i64 y.2] 84)) = W2 at hA2 hB2 HG ⊢
  have c0 := cell_of (i := 0) hA2 rfl
  have c1 := cell_of (i := 1) hA2 rfl
  have c2 := cell_of (i := 0) hB2 rfl
  have c3 := cell_of (i := 1) hB2 rfl
  clear hA2 hB2 HA HB hs1
  have HCC := hide (And.intro c0 (And.intro c1 (And.intro c2 c3)))
  refine wp_region_noPanic ?_
  go_region_held3 (fun z => z.cell? ⟨W.heap.size, 0, none⟩ = some (.int .i64 x.1) ∧ z.cell? ⟨W.heap.size, 1, none⟩ = some (.int .i64 x.2) ∧ z.cell? ⟨W.heap.size + 1, 0, none⟩ = some (.int .i64 y.1) ∧ z.cell? ⟨W.heap.size + 1, 1, none⟩ = some (.int .i64 y.2)) (first | go_keep | exact ⟨c0, c1, c2, c3⟩)
    (first | (go_at_call 42; refine (HO.out W.heap.size (W.heap.size + 1) W2.drew HCC.out.1 HCC.out.2.1 HCC.out.2.2.1 HCC.out.2.2.2).mono ?_; rintro e w3 ⟨rfl, rfl⟩))
  refine NoPanic.normal ?_
  go_wp2_with fail
  go_ret
  exact ⟨rfl, 1, _, by rw [HG.out]; rfl⟩
end Go.Proofs.Ytiohimbifjlfdaa

/- slices.SortFunc 97 of pairs: whatever the length, the list holds the sorted pairs. -/
namespace Go.Proofs.Ytiohimbifjlfdaa
open Go.RowKit Go.Lib Go.Shelf Go.Sort
set_option linter.unusedVariables false
/-- The cells of pairs. -/
def pCells (l : List Pq) : List Value := l.flatMap fun a => [.int .i64 a.1, .int .i64 a.2]
def pqAt (l : List Pq) (i : Nat) : Pq := (l[i]?).getD (0, 0)
theorem pCells_length (l : List Pq) : (pCells l).length = l.length * 2 := by
  induction l with
  | nil => rfl
  | cons a l ih => simp only [pCells, List.flatMap_cons, List.length_append, List.length_cons, List.length_nil] at ih ⊢; rw [ih]; omega
theorem pCells_at (l : List Pq) : ∀ i, i < l.length → (pCells l)[i * 2]? = some (.int .i64 (pqAt l i).1) ∧ (pCells l)[i * 2 + 1]? = some (.int .i64 (pqAt l i).2) := by
  induction l with
  | nil => intro i h; simp at h
  | cons a l ih =>
    intro i h
    cases i with
    | zero => exact ⟨rfl, rfl⟩
    | succ i =>
      obtain ⟨h1, h2⟩ := ih i (by simpa using h)
      have e1 : (i + 1) * 2 = i * 2 + 1 + 1 := by omega
      rw [e1]
      exact ⟨h1, h2⟩
theorem pCells_snoc (l : List Pq) (a : Pq) : pCells (l ++ [a]) = pCells l ++ [.int .i64 a.1, .int .i64 a.2] := by simp [pCells]
/-- A list of pairs of one's own, in a block from fr on. -/
def POwn (w : World) (fr : Nat) (v : Value) (l : List Pq) : Prop := w.ownsRow fr 84 2 v l.length (pCells l)
def encP (x : Pq) : List Value := [.int .i64 x.1, .int .i64 x.2]
theorem flatP_at (l : List Pq) (t : Nat) (h : t < l.length * 2) : (pCells l)[t]? = some (flatK encP 2 l.toArray)[t]! := by
  rw [get_flatK _ _ _ _ (by simpa using h)]
  have hh : t / 2 < l.length := by omega
  obtain ⟨p, q⟩ := pCells_at l (t / 2) hh
  have e0 : l.toArray[t / 2]! = pqAt l (t / 2) := by
    rw [getElem!_pos _ _ (by simpa using hh)]
    simp [pqAt, List.getElem?_eq_getElem hh]
  rw [e0]
  rcases Nat.mod_two_eq_zero_or_one t with hm | hm
  · rw [show t / 2 * 2 = t by omega] at p
    rw [p, hm]; rfl
  · rw [show t / 2 * 2 + 1 = t by omega] at q
    rw [q, hm]; rfl
theorem flatP_list (l : List Pq) : (flatK encP 2 l.toArray).toList = pCells l := by
  apply List.ext_getElem?
  intro t
  rcases Nat.lt_or_ge t (l.length * 2) with h | h
  · rw [flatP_at l t h]
    have h' : t < (flatK encP 2 l.toArray).size := by simpa using h
    rw [getElem!_pos (flatK encP 2 l.toArray) t h']
    simp
  · rw [List.getElem?_eq_none (l := (flatK encP 2 l.toArray).toList) (by simpa using h), List.getElem?_eq_none (l := pCells l) (by rw [pCells_length]; exact h)]
theorem POwn.holds {w : World} {fr g n c : Nat} {l : List Pq} (h : POwn w fr (.slice (some ⟨g, 0, none⟩) n c) l) : HoldsK encP 2 w g 0 l.toArray := by
  obtain ⟨h0, ⟨hv, _⟩ | ⟨g', cap, cur, hv, hg, hb, h1, h2, h3, h4⟩⟩ := h
  · cases hv
  · simp only [Value.slice.injEq, Option.some.injEq, Addr.mk.injEq] at hv
    obtain ⟨⟨rfl, _, _⟩, rfl, rfl⟩ := hv
    intro j hj
    rw [size_flatK] at hj
    have hj' : j < l.length * 2 := by simpa using hj
    have p := flatP_at l j hj'
    rw [← h4, List.getElem?_take, if_pos hj'] at p
    have p' : cur[j]? = some (flatK encP 2 l.toArray)[j]! := by simpa using p
    rw [Nat.zero_add]
    exact ⟨cell_of hb p', free_of hb j⟩
/-- What lies behind the sort. -/
theorem POwn.sorted {w : World} {fr g n c : Nat} {l m : List Pq} (h : POwn w fr (.slice (some ⟨g, 0, none⟩) n c) l) (hm : m.length = l.length) (q : Nat) (os : Array Obj) :
    POwn (sortWorldK encP 2 w g 0 q m.toArray os) fr (.slice (some ⟨g, 0, none⟩) n c) m := by
  obtain ⟨h0, ⟨hv, _⟩ | ⟨g', cap, cur, hv, hg, hb, h1, h2, h3, h4⟩⟩ := h
  · cases hv
  · simp only [Value.slice.injEq, Option.some.injEq, Addr.mk.injEq] at hv
    obtain ⟨⟨rfl, _, _⟩, rfl, rfl⟩ := hv
    have hgs : g < w.heap.size := lt_of_heap hb
    refine ⟨by rw [pCells_length], Or.inr ⟨g, c, putCells id 0 (flatK encP 2 m.toArray) cur, by rw [hm], hg, ?_, by omega, h2, by simp [putCells, h3], ?_⟩⟩
    · unfold sortWorldK
      rw [heap_grow_old _ _ (by show g < (putRow id _ g 0 _).heap.size; rw [size_putRow]; exact hgs)]
      show (mapBlock (Go.Sort.ahead w q) g _).heap[g]? = _
      simp only [mapBlock, heap_ahead, Array.getElem?_modify, if_true, hb, Option.map_some, onCells]
    · rw [← flatP_list m]
      apply List.ext_getElem?
      intro t
      have hs : (flatK encP 2 m.toArray).size = m.length * 2 := by simp
      rcases Nat.lt_or_ge t (m.length * 2) with ht | ht
      · have hc : t < cur.size := by rw [h3]; omega
        rw [List.getElem?_take, if_pos ht]
        simp only [putCells, Array.getElem?_toList, Array.getElem?_mapIdx]
        have ht' : t < (flatK encP 2 m.toArray).size := by rw [hs]; exact ht
        rw [Array.getElem?_eq_getElem hc]
        simp [ht]
      · rw [List.getElem?_take, if_neg (by omega), List.getElem?_eq_none (by simpa using ht)]
theorem sort_below {w : World} {fr g : Nat} {d : Array Pq} (hg : fr ≤ g) (hs : fr ≤ w.heap.size) (q : Nat) (os : Array Obj) : Below fr w (sortWorldK encP 2 w g 0 q d os) := by
  refine ⟨rfl, rfl, rfl, ?_, ?_⟩
  · unfold sortWorldK putRowK
    rw [size_grow, size_putRow, heap_ahead]; omega
  · intro k hk
    unfold sortWorldK putRowK
    rw [heap_grow_old _ _ (by rw [size_putRow]; show k < w.heap.size; omega)]
    show (mapBlock (Go.Sort.ahead w q) g _).heap[k]? = _
    simp only [mapBlock, heap_ahead, Array.getElem?_modify]
    rw [if_neg (by omega)]
theorem cmpLays_any (blk off size : Nat) (w : World) : CmpLays Try.prog 41 #[] encP 2 pcf blk off size w :=
  fun _ _ _ _ x y => closP_any x y _
set_option maxHeartbeats 1000000 in
theorem sortFunc_own (l : List Pq) (fr g n c : Nat) (w : World) (h : POwn w fr (.slice (some ⟨g, 0, none⟩) n c) l) (hs : fr ≤ w.heap.size) (hl : l.length < 4611686018427387904) :
    Calls Try.prog 63 #[.slice (some ⟨g, 0, none⟩) n c, .func (.func 41) #[] #[]] w fun e w' => e = .returned (.tuple #[]) ∧ POwn w' fr (.slice (some ⟨g, 0, none⟩) n c) (psrt l) ∧ Below fr w w' := by
  have eg : ∀ args w, (callFunc 41 args).run Try.prog w = .ok (.enter 41 args) w := enters_of Try.func41 (by kernel_rfl) rfl
  obtain ⟨hfg, hgs, hn⟩ : fr ≤ g ∧ g < w.heap.size ∧ n = l.length := by
    obtain ⟨h0, ⟨hv, _⟩ | ⟨g', cap, cur, hv, hg, hb, r⟩⟩ := h
    · cases hv
    · simp only [Value.slice.injEq, Option.some.injEq, Addr.mk.injEq] at hv
      obtain ⟨⟨rfl, _, _⟩, e, rfl⟩ := hv
      exact ⟨hg, lt_of_heap hb, e⟩
  have hcon := AnyQ.slices_SortFunc_total Try.sortPq 2 Try.isAgg84 Try.sizeOf84 encP (fun _ => rfl) (fun x v hv => by simp [encP] at hv; rcases hv with rfl | rfl <;> rfl) pcf swo_pcf 41 #[] g 0 c l.toArray w eg (cmpLays_any g 0 _ w) h.holds hgs (by simpa using hl) tot_pcf
  change Calls Try.prog 63 _ _ _ at hcon
  have e1 : (l.toArray).size = n := by simp [hn]
  rw [e1] at hcon
  refine hcon.mono ?_
  rintro e w' ⟨rfl, q, os, rfl⟩
  rw [show l.toArray.toList = l from rfl, psrt_pcf]
  exact ⟨rfl, h.sorted (psrt_length l) q os, sort_below hfg hs q os⟩
end Go.Proofs.Ytiohimbifjlfdaa
