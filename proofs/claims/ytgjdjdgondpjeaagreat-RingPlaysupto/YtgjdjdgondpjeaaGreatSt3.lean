/- Step 46, the other phases, over any contract of the access. -/
import Derived.Test.YtgjdjdgondpjeaaGreatSt1
import Derived.Deep.RegionHeld3
import Derived.Deep.RegionWith
namespace Go.Proofs.YtgjdjdgondpjeaaGreat
open Go.RowKit Go.Lib
set_option linter.unusedVariables false
set_option linter.unusedSimpArgs false
section
variable {w : World} {q p : Nat} {b C : Nat} {d : Hs} {v : Value} {x : Int} {P : World → Prop}
set_option maxRecDepth 100000 in
set_option maxHeartbeats 4000000 in
theorem ph3 {bb : Bool} (hbb : bb = decide (x = d.place)) (h : w.heap[q]? = some (HObj b C d v)) (hb : b ≤ 16777216) (hC1 : 2 ≤ C) (hC2 : C ≤ 65536) (hpl : 0 ≤ d.place ∧ d.place < 18446744073709551616) (hd : d.ph = 3)
    (HA : ∀ X, Below w.heap.size w X → Calls Tryz.prog 80 #[.pointer (some ⟨p, 0, none⟩), .int .i64 ((b : Int)), .int .u64 d.place, .int .u64 (uw (d.place + 1))] X fun e w2 => e = .returned (.bool bb) ∧ P w2) (hP : ∀ w2, P w2 → w2.heap[q]? = some (HObj b C d v)) :
    Calls Tryz.prog 46 #[.pointer (some ⟨q, 0, none⟩), .pointer (some ⟨p, 0, none⟩)] w fun e w' => e = .returned (.tuple #[]) ∧ StH P q b C d (d.next C x) v w' := by
  have HOV := hide (over_any h)
  rw [show decide (d.ph = 0) = false by simp [hd]] at HOV
  have HQ := hide hP
  have HD := hide hd
  obtain ⟨pl, hpl'⟩ : ∃ pl, pl = d.place := ⟨_, rfl⟩
  have HPL := hide hpl'
  have HC := hide HA
  obtain ⟨ky, hky⟩ : ∃ p, p = d.t.1 := ⟨_, rfl⟩
  obtain ⟨ld, hld⟩ : ∃ p, p = d.t.2 := ⟨_, rfl⟩
  have HT2 : Hid (d.t = (ky, ld)) := by unfold Hid; rw [hky, hld]
  have hs1 := Int.emod_nonneg pl (show (C : Int) ≠ 0 by omega)
  have hs2 : pl % (C : Int) ≤ 65536 := by have := Int.emod_lt_of_pos pl (show (0 : Int) < C by omega); omega
  have HSL := hide (fun W => slot_b b C d.place W (by omega) (by omega) hpl.1 hpl.2)
  have HT := hide (fun W => tailCell_b b C W)
  unfold HObj at h
  rw [hd] at h
  rw [← hpl'] at h HSL hpl
  try rw [← hpl'] at HC
  rw [← hky, ← hld] at h
  obtain ⟨up, hup⟩ : ∃ u, u = uw (pl + 1) := ⟨_, rfl⟩
  have hw1 : IntKind.u64.wrap (pl + 1) = up := by rw [uw_wrap, hup]
  have HUP := hide hup
  have HPR := hide hpl
  rw [← hup] at HC
  obtain ⟨sl, hsl⟩ : ∃ sl, sl = pl % (C : Int) := ⟨_, rfl⟩
  have HSLE := hide hsl
  rw [← hsl] at HSL
  have c0 := cell_of h (i := 0) rfl; have c1 := cell_of h (i := 1) rfl; have c2 := cell_of h (i := 2) rfl; have c3 := cell_of h (i := 3) rfl
  have HHH := hide h
  have hkk : ∀ X : World, X.heap[q]? = some (.cells #[.int .i64 b, .int .i64 C, .int .i64 3, .int .u64 pl, .int .u64 ky, .int .u64 ld, .int .i64 d.st, v] 126 (0, 0)) → X.cell? ⟨q, 0, none⟩ = some (.int .i64 b) ∧ X.cell? ⟨q, 1, none⟩ = some (.int .i64 C) ∧ X.cell? ⟨q, 2, none⟩ = some (.int .i64 3) ∧ X.cell? ⟨q, 3, none⟩ = some (.int .u64 pl) ∧ X.cell? ⟨q, 4, none⟩ = some (.int .u64 ky) ∧ X.cell? ⟨q, 5, none⟩ = some (.int .u64 ld) := fun X q => ⟨cell_of q rfl, cell_of q rfl, cell_of q rfl, cell_of q rfl, cell_of q rfl, cell_of q rfl⟩
  have HKK := hide hkk
  have HK : Hid (∀ X, Below w.heap.size w X → X.cell? ⟨q, 0, none⟩ = some (.int .i64 b) ∧ X.cell? ⟨q, 1, none⟩ = some (.int .i64 C) ∧ X.cell? ⟨q, 2, none⟩ = some (.int .i64 3) ∧ X.cell? ⟨q, 3, none⟩ = some (.int .u64 pl) ∧ X.cell? ⟨q, 4, none⟩ = some (.int .u64 ky) ∧ X.cell? ⟨q, 5, none⟩ = some (.int .u64 ld)) := hide (fun X hX => hkk X ((hX.block _ (lt_of_heap h)).trans h))
  have HQ2 : Hid (∀ X, P X → X.heap[q]? = some (.cells #[.int .i64 b, .int .i64 C, .int .i64 3, .int .u64 pl, .int .u64 ky, .int .u64 ld, .int .i64 d.st, v] 126 (0, 0))) := hide (fun X hX => by
    have z := hP X hX
    unfold HObj at z
    rw [hd, ← hpl', ← hky, ← hld] at z
    exact z)
  unfold qAgg at HSL HT
  clear h hP HA hpl' hpl hky hld hup hsl hs1 hs2 hd hkk
  go_enter Tryz.func46, Tryz.ntmps46
  go_wp2_with fail
  refine HOV.out.mono ?_
  rintro e w1 ⟨rfl, rfl⟩
  have x0 := gw_cell c0; have x1 := gw_cell c1; have x3 := gw_cell c3
  go_wp2_with fail
  refine wp_region_gw (by kernel_rfl) (by kernel_rfl) ?_
  repeat (go_big_quiet_step (first
      | (go_at_call 76; exact gw_of (HSL.out _))
      | rfl))
  refine wpQuiet_nil ?_
  intro _ hw'
  obtain ⟨x', hw''⟩ := hw'
  subst hw''
  have HB := hide x'.bel
  obtain ⟨y0, y1, y2, y3, y4, y5⟩ := HK.out _ x'.bel
  clear x0 x1 x3 c0 c1 c2 c3
  generalize x'.world = w3 at HB y0 y1 y2 y3 y4 y5 ⊢
  clear x'

  obtain ⟨yv, hyv⟩ : ∃ y : Int, y = if bb then 4 else 1 := ⟨_, rfl⟩
  have HEI := hide (fun W => either_any bb 4 1 W)
  rw [← hyv] at HEI
  have HE : Hid (∀ w5 k, P w5 → StN P q (HObj b C (d.next C x) v) ((w5.drewN k).setCell ⟨q, 2, none⟩ (.int .i64 yv))) := hide (fun w5 k hp => ((StN.of hp (HQ2.out w5 hp) (below_drN w5 k)).more (by
    unfold HObj Hs.next; simp only [HD.out, hyv, hbb, HT2.out, HPL.out]; by_cases e : x = d.place <;> simp [e])))
  have HE2 : (d.next C x).out = d.out := by unfold Hs.next; simp only [HD.out]; split <;> rfl
  have HO := hide HE2
  have hfz := free_of HHH.out 2
  have HFZ : Hid (∀ X, Below w1.heap.size w1 X → X.frozen? ⟨q, 2, none⟩ = false) := hide (fun X hX => free_of ((hX.block _ (lt_of_heap HHH.out)).trans HHH.out) 2)
  have y6 := HFZ.out _ HB.out
  clear HE2 hfz hyv hbb
  have HST := hide (fun (X : World) (k : Below w1.heap.size w1 X) => HK.out X k)
  have HSET : Hid (∀ X, P X → (X.setCell ⟨q, 2, none⟩ (.int .i64 yv)).cell? ⟨q, 0, none⟩ = some (.int .i64 b) ∧ (X.setCell ⟨q, 2, none⟩ (.int .i64 yv)).cell? ⟨q, 1, none⟩ = some (.int .i64 C) ∧ (X.setCell ⟨q, 2, none⟩ (.int .i64 yv)).cell? ⟨q, 3, none⟩ = some (.int .u64 pl) ∧ (X.setCell ⟨q, 2, none⟩ (.int .i64 yv)).frozen? ⟨q, 2, none⟩ = false) := hide (fun X hX => by
    have z := heap_set (i := 2) (HQ2.out X hX) (.int .i64 yv)
    exact ⟨cell_of z rfl, cell_of z rfl, cell_of z rfl, free_of z 2⟩)
  go_upto_region 8 with fail
  refine wp_region_noPanic ?_
  go_region_held3 (fun x => x.cell? ⟨q, 0, none⟩ = some (.int .i64 b) ∧ x.cell? ⟨q, 1, none⟩ = some (.int .i64 C) ∧ x.cell? ⟨q, 3, none⟩ = some (.int .u64 pl) ∧ x.frozen? ⟨q, 2, none⟩ = false) (first | exact ⟨y0, y1, y3, y6⟩ | exact ⟨z0, z1, z3, z6⟩ | exact HSET.out _ HP.out | go_keep)
    (first
      | (go_at_call 68; refine (HT.out _).mono ?_; rintro e w4 ⟨rfl, hb4⟩; have HB4 := hide (below_on (a := w1) (below_drew HB.out) hb4); obtain ⟨z0, z1, z2, z3, z4, z5⟩ := HK.out w4 HB4.out; have z6 := HFZ.out w4 HB4.out; clear hb4)
      | (go_at_call 80; refine (HC.out _ HB4.out).mono ?_; rintro e w5 ⟨rfl, hp⟩; have HP := hide hp; have hq := HQ2.out w5 hp; obtain ⟨z0, z1, z2, z3, z4, z5⟩ := HKK.out w5 hq; have z6 := free_of hq 2; clear hp hq)
      | (go_at_call 79; refine (HEI.out _).mono ?_; rintro e w6 ⟨rfl, rfl⟩)
      | fail)
  all_goals
    refine NoPanic.normal ?_
    go_wp2_with fail
    first | go_end0 | refine bodyPost_ret (results_none rfl _ _ _) rfl ?_
    exact ⟨rfl, (HE.out _ 0 HP.out).st HO.out⟩
set_option maxRecDepth 100000 in
set_option maxHeartbeats 4000000 in
theorem ph9 {bb : Bool} (hbb : bb = decide (x = d.place)) (h : w.heap[q]? = some (HObj b C d v)) (hb : b ≤ 16777216) (hC1 : 2 ≤ C) (hC2 : C ≤ 65536) (hpl : 0 ≤ d.place ∧ d.place < 18446744073709551616) (hd : d.ph = 9)
    (HA : ∀ X, Below w.heap.size w X → Calls Tryz.prog 80 #[.pointer (some ⟨p, 0, none⟩), .int .i64 ((b : Int) + 1), .int .u64 d.place, .int .u64 (uw (d.place + 1))] X fun e w2 => e = .returned (.bool bb) ∧ P w2) (hP : ∀ w2, P w2 → w2.heap[q]? = some (HObj b C d v)) :
    Calls Tryz.prog 46 #[.pointer (some ⟨q, 0, none⟩), .pointer (some ⟨p, 0, none⟩)] w fun e w' => e = .returned (.tuple #[]) ∧ StH P q b C d (d.next C x) v w' := by
  have HOV := hide (over_any h)
  rw [show decide (d.ph = 0) = false by simp [hd]] at HOV
  have HQ := hide hP
  have HD := hide hd
  obtain ⟨pl, hpl'⟩ : ∃ pl, pl = d.place := ⟨_, rfl⟩
  have HPL := hide hpl'
  have HC := hide HA
  obtain ⟨ky, hky⟩ : ∃ p, p = d.t.1 := ⟨_, rfl⟩
  obtain ⟨ld, hld⟩ : ∃ p, p = d.t.2 := ⟨_, rfl⟩
  have HT2 : Hid (d.t = (ky, ld)) := by unfold Hid; rw [hky, hld]
  have hs1 := Int.emod_nonneg pl (show (C : Int) ≠ 0 by omega)
  have hs2 : pl % (C : Int) ≤ 65536 := by have := Int.emod_lt_of_pos pl (show (0 : Int) < C by omega); omega
  have HSL := hide (fun W => slot_b b C d.place W (by omega) (by omega) hpl.1 hpl.2)
  have HT := hide (fun W => headCell_b b C W (by omega) (by omega))
  unfold HObj at h
  rw [hd] at h
  rw [← hpl'] at h HSL hpl
  try rw [← hpl'] at HC
  rw [← hky, ← hld] at h
  obtain ⟨up, hup⟩ : ∃ u, u = uw (pl + 1) := ⟨_, rfl⟩
  have hw1 : IntKind.u64.wrap (pl + 1) = up := by rw [uw_wrap, hup]
  have HUP := hide hup
  have HPR := hide hpl
  rw [← hup] at HC
  obtain ⟨sl, hsl⟩ : ∃ sl, sl = pl % (C : Int) := ⟨_, rfl⟩
  have HSLE := hide hsl
  rw [← hsl] at HSL
  obtain ⟨ce, hce⟩ : ∃ ce, ce = (b : Int) + 1 := ⟨_, rfl⟩
  rw [← hce] at HC HT
  clear hce
  have c0 := cell_of h (i := 0) rfl; have c1 := cell_of h (i := 1) rfl; have c2 := cell_of h (i := 2) rfl; have c3 := cell_of h (i := 3) rfl
  have HHH := hide h
  have hkk : ∀ X : World, X.heap[q]? = some (.cells #[.int .i64 b, .int .i64 C, .int .i64 9, .int .u64 pl, .int .u64 ky, .int .u64 ld, .int .i64 d.st, v] 126 (0, 0)) → X.cell? ⟨q, 0, none⟩ = some (.int .i64 b) ∧ X.cell? ⟨q, 1, none⟩ = some (.int .i64 C) ∧ X.cell? ⟨q, 2, none⟩ = some (.int .i64 9) ∧ X.cell? ⟨q, 3, none⟩ = some (.int .u64 pl) ∧ X.cell? ⟨q, 4, none⟩ = some (.int .u64 ky) ∧ X.cell? ⟨q, 5, none⟩ = some (.int .u64 ld) := fun X q => ⟨cell_of q rfl, cell_of q rfl, cell_of q rfl, cell_of q rfl, cell_of q rfl, cell_of q rfl⟩
  have HKK := hide hkk
  have HK : Hid (∀ X, Below w.heap.size w X → X.cell? ⟨q, 0, none⟩ = some (.int .i64 b) ∧ X.cell? ⟨q, 1, none⟩ = some (.int .i64 C) ∧ X.cell? ⟨q, 2, none⟩ = some (.int .i64 9) ∧ X.cell? ⟨q, 3, none⟩ = some (.int .u64 pl) ∧ X.cell? ⟨q, 4, none⟩ = some (.int .u64 ky) ∧ X.cell? ⟨q, 5, none⟩ = some (.int .u64 ld)) := hide (fun X hX => hkk X ((hX.block _ (lt_of_heap h)).trans h))
  have HQ2 : Hid (∀ X, P X → X.heap[q]? = some (.cells #[.int .i64 b, .int .i64 C, .int .i64 9, .int .u64 pl, .int .u64 ky, .int .u64 ld, .int .i64 d.st, v] 126 (0, 0))) := hide (fun X hX => by
    have z := hP X hX
    unfold HObj at z
    rw [hd, ← hpl', ← hky, ← hld] at z
    exact z)
  unfold qAgg at HSL HT
  clear h hP HA hpl' hpl hky hld hup hsl hs1 hs2 hd hkk
  go_enter Tryz.func46, Tryz.ntmps46
  go_wp2_with fail
  refine HOV.out.mono ?_
  rintro e w1 ⟨rfl, rfl⟩
  have x0 := gw_cell c0; have x1 := gw_cell c1; have x3 := gw_cell c3
  go_wp2_with fail
  refine wp_region_gw (by kernel_rfl) (by kernel_rfl) ?_
  repeat (go_big_quiet_step (first
      | (go_at_call 76; exact gw_of (HSL.out _))
      | rfl))
  refine wpQuiet_nil ?_
  intro _ hw'
  obtain ⟨x', hw''⟩ := hw'
  subst hw''
  have HB := hide x'.bel
  obtain ⟨y0, y1, y2, y3, y4, y5⟩ := HK.out _ x'.bel
  clear x0 x1 x3 c0 c1 c2 c3
  generalize x'.world = w3 at HB y0 y1 y2 y3 y4 y5 ⊢
  clear x'

  obtain ⟨yv, hyv⟩ : ∃ y : Int, y = if bb then 10 else 7 := ⟨_, rfl⟩
  have HEI := hide (fun W => either_any bb 10 7 W)
  rw [← hyv] at HEI
  have HE : Hid (∀ w5 k, P w5 → StN P q (HObj b C (d.next C x) v) ((w5.drewN k).setCell ⟨q, 2, none⟩ (.int .i64 yv))) := hide (fun w5 k hp => ((StN.of hp (HQ2.out w5 hp) (below_drN w5 k)).more (by
    unfold HObj Hs.next; simp only [HD.out, hyv, hbb, HT2.out, HPL.out]; by_cases e : x = d.place <;> simp [e])))
  have HE2 : (d.next C x).out = d.out := by unfold Hs.next; simp only [HD.out]; split <;> rfl
  have HO := hide HE2
  have hfz := free_of HHH.out 2
  have HFZ : Hid (∀ X, Below w1.heap.size w1 X → X.frozen? ⟨q, 2, none⟩ = false) := hide (fun X hX => free_of ((hX.block _ (lt_of_heap HHH.out)).trans HHH.out) 2)
  have y6 := HFZ.out _ HB.out
  clear HE2 hfz hyv hbb
  have HST := hide (fun (X : World) (k : Below w1.heap.size w1 X) => HK.out X k)
  have HSET : Hid (∀ X, P X → (X.setCell ⟨q, 2, none⟩ (.int .i64 yv)).cell? ⟨q, 0, none⟩ = some (.int .i64 b) ∧ (X.setCell ⟨q, 2, none⟩ (.int .i64 yv)).cell? ⟨q, 1, none⟩ = some (.int .i64 C) ∧ (X.setCell ⟨q, 2, none⟩ (.int .i64 yv)).cell? ⟨q, 3, none⟩ = some (.int .u64 pl) ∧ (X.setCell ⟨q, 2, none⟩ (.int .i64 yv)).frozen? ⟨q, 2, none⟩ = false) := hide (fun X hX => by
    have z := heap_set (i := 2) (HQ2.out X hX) (.int .i64 yv)
    exact ⟨cell_of z rfl, cell_of z rfl, cell_of z rfl, free_of z 2⟩)
  go_upto_region 23 with fail
  refine wp_region_noPanic ?_
  go_region_held3 (fun x => x.cell? ⟨q, 0, none⟩ = some (.int .i64 b) ∧ x.cell? ⟨q, 1, none⟩ = some (.int .i64 C) ∧ x.cell? ⟨q, 3, none⟩ = some (.int .u64 pl) ∧ x.frozen? ⟨q, 2, none⟩ = false) (first | exact ⟨y0, y1, y3, y6⟩ | exact ⟨z0, z1, z3, z6⟩ | exact HSET.out _ HP.out | go_keep)
    (first
      | (go_at_call 83; refine (HT.out _).mono ?_; rintro e w4 ⟨rfl, hb4⟩; have HB4 := hide (below_on (a := w1) (below_drew HB.out) hb4); obtain ⟨z0, z1, z2, z3, z4, z5⟩ := HK.out w4 HB4.out; have z6 := HFZ.out w4 HB4.out; clear hb4)
      | (go_at_call 80; refine (HC.out _ HB4.out).mono ?_; rintro e w5 ⟨rfl, hp⟩; have HP := hide hp; have hq := HQ2.out w5 hp; obtain ⟨z0, z1, z2, z3, z4, z5⟩ := HKK.out w5 hq; have z6 := free_of hq 2; clear hp hq)
      | (go_at_call 79; refine (HEI.out _).mono ?_; rintro e w6 ⟨rfl, rfl⟩)
      | fail)
  all_goals
    refine NoPanic.normal ?_
    go_wp2_with fail
    first | go_end0 | refine bodyPost_ret (results_none rfl _ _ _) rfl ?_
    exact ⟨rfl, (HE.out _ 0 HP.out).st HO.out⟩
set_option maxRecDepth 100000 in
set_option maxHeartbeats 4000000 in
theorem ph6 (h : w.heap[q]? = some (HObj b C d v)) (hb : b ≤ 16777216) (hC1 : 2 ≤ C) (hC2 : C ≤ 65536) (hpl : 0 ≤ d.place ∧ d.place < 18446744073709551616) (hd : d.ph = 6)
    (HA : ∀ X, Below w.heap.size w X → Calls Tryz.prog 81 #[.pointer (some ⟨p, 0, none⟩), .int .i64 ((b : Int) + 2 + 3 * (d.place % (C : Int))), .int .u64 (uw (d.place + 1))] X fun e w2 => e = .returned (.tuple #[]) ∧ P w2) (hP : ∀ w2, P w2 → w2.heap[q]? = some (HObj b C d v)) :
    Calls Tryz.prog 46 #[.pointer (some ⟨q, 0, none⟩), .pointer (some ⟨p, 0, none⟩)] w fun e w' => e = .returned (.tuple #[]) ∧ StH P q b C d (d.next C x) v w' := by
  have HOV := hide (over_any h)
  rw [show decide (d.ph = 0) = false by simp [hd]] at HOV
  have HQ := hide hP
  have HD := hide hd
  obtain ⟨pl, hpl'⟩ : ∃ pl, pl = d.place := ⟨_, rfl⟩
  have HPL := hide hpl'
  have HC := hide HA
  obtain ⟨ky, hky⟩ : ∃ p, p = d.t.1 := ⟨_, rfl⟩
  obtain ⟨ld, hld⟩ : ∃ p, p = d.t.2 := ⟨_, rfl⟩
  have HT2 : Hid (d.t = (ky, ld)) := by unfold Hid; rw [hky, hld]
  have hs1 := Int.emod_nonneg pl (show (C : Int) ≠ 0 by omega)
  have hs2 : pl % (C : Int) ≤ 65536 := by have := Int.emod_lt_of_pos pl (show (0 : Int) < C by omega); omega
  have HSL := hide (fun W => slot_b b C d.place W (by omega) (by omega) hpl.1 hpl.2)
  have HT := hide (fun W => turnCell_b b C (pl % (C : Int)) W (by omega) (by omega) hs1 hs2)
  unfold HObj at h
  rw [hd] at h
  rw [← hpl'] at h HSL hpl
  try rw [← hpl'] at HC
  rw [← hky, ← hld] at h
  obtain ⟨up, hup⟩ : ∃ u, u = uw (pl + 1) := ⟨_, rfl⟩
  have hw1 : IntKind.u64.wrap (pl + 1) = up := by rw [uw_wrap, hup]
  have HUP := hide hup
  have HPR := hide hpl
  rw [← hup] at HC
  obtain ⟨sl, hsl⟩ : ∃ sl, sl = pl % (C : Int) := ⟨_, rfl⟩
  have HSLE := hide hsl
  rw [← hsl] at HSL HT HC
  obtain ⟨ce, hce⟩ : ∃ ce, ce = (b : Int) + 2 + 3 * sl := ⟨_, rfl⟩
  rw [← hce] at HC HT
  clear hce
  have c0 := cell_of h (i := 0) rfl; have c1 := cell_of h (i := 1) rfl; have c2 := cell_of h (i := 2) rfl; have c3 := cell_of h (i := 3) rfl
  have HHH := hide h
  have hkk : ∀ X : World, X.heap[q]? = some (.cells #[.int .i64 b, .int .i64 C, .int .i64 6, .int .u64 pl, .int .u64 ky, .int .u64 ld, .int .i64 d.st, v] 126 (0, 0)) → X.cell? ⟨q, 0, none⟩ = some (.int .i64 b) ∧ X.cell? ⟨q, 1, none⟩ = some (.int .i64 C) ∧ X.cell? ⟨q, 2, none⟩ = some (.int .i64 6) ∧ X.cell? ⟨q, 3, none⟩ = some (.int .u64 pl) ∧ X.cell? ⟨q, 4, none⟩ = some (.int .u64 ky) ∧ X.cell? ⟨q, 5, none⟩ = some (.int .u64 ld) := fun X q => ⟨cell_of q rfl, cell_of q rfl, cell_of q rfl, cell_of q rfl, cell_of q rfl, cell_of q rfl⟩
  have HKK := hide hkk
  have HK : Hid (∀ X, Below w.heap.size w X → X.cell? ⟨q, 0, none⟩ = some (.int .i64 b) ∧ X.cell? ⟨q, 1, none⟩ = some (.int .i64 C) ∧ X.cell? ⟨q, 2, none⟩ = some (.int .i64 6) ∧ X.cell? ⟨q, 3, none⟩ = some (.int .u64 pl) ∧ X.cell? ⟨q, 4, none⟩ = some (.int .u64 ky) ∧ X.cell? ⟨q, 5, none⟩ = some (.int .u64 ld)) := hide (fun X hX => hkk X ((hX.block _ (lt_of_heap h)).trans h))
  have HQ2 : Hid (∀ X, P X → X.heap[q]? = some (.cells #[.int .i64 b, .int .i64 C, .int .i64 6, .int .u64 pl, .int .u64 ky, .int .u64 ld, .int .i64 d.st, v] 126 (0, 0))) := hide (fun X hX => by
    have z := hP X hX
    unfold HObj at z
    rw [hd, ← hpl', ← hky, ← hld] at z
    exact z)
  unfold qAgg at HSL HT
  clear h hP HA hpl' hpl hky hld hup hsl hs1 hs2 hd hkk
  go_enter Tryz.func46, Tryz.ntmps46
  go_wp2_with fail
  refine HOV.out.mono ?_
  rintro e w1 ⟨rfl, rfl⟩
  have x0 := gw_cell c0; have x1 := gw_cell c1; have x3 := gw_cell c3
  go_wp2_with fail
  refine wp_region_gw (by kernel_rfl) (by kernel_rfl) ?_
  repeat (go_big_quiet_step (first
      | (go_at_call 76; exact gw_of (HSL.out _))
      | rfl))
  refine wpQuiet_nil ?_
  intro _ hw'
  obtain ⟨x', hw''⟩ := hw'
  subst hw''
  have HB := hide x'.bel
  obtain ⟨y0, y1, y2, y3, y4, y5⟩ := HK.out _ x'.bel
  clear x0 x1 x3 c0 c1 c2 c3
  generalize x'.world = w3 at HB y0 y1 y2 y3 y4 y5 ⊢
  clear x'

  go_upto_region 16 with fail
  refine wp_region_noPanic ?_
  go_region_held3 (fun x => x.cell? ⟨q, 0, none⟩ = some (.int .i64 b) ∧ x.cell? ⟨q, 1, none⟩ = some (.int .i64 C) ∧ x.cell? ⟨q, 3, none⟩ = some (.int .u64 pl)) (first | exact ⟨y0, y1, y3⟩ | exact ⟨z0, z1, z3⟩ | go_keep)
    (first
      | (go_at_call 69; refine (HT.out _).mono ?_; rintro e w4 ⟨rfl, hb4⟩; have HB4 := hide (below_on (a := w1) (below_drew HB.out) hb4); obtain ⟨z0, z1, z2, z3, z4, z5⟩ := HK.out w4 HB4.out; clear hb4)
      | (go_at_call 81; refine (HC.out _ HB4.out).mono ?_; rintro e w5 ⟨rfl, hp⟩; have HP := hide hp; have hq := HQ2.out w5 hp; have HQ5 := hide hq; obtain ⟨z0, z1, z2, z3, z4, z5⟩ := HKK.out w5 hq; clear hp hq)
      | fail)
  all_goals
    refine NoPanic.normal ?_
    go_wp2_with (go_at_call 82; refine (end_any (b := b) (C := C) (P := P) (StN.of HP.out (HQ.out _ HP.out) (Below.refl _ _)) 1 none 0 0 []).mono ?_; rintro e w6 ⟨rfl, hs6, _⟩; have HS6 := hide hs6; clear hs6)
    first | go_end0 | refine bodyPost_ret (results_none rfl _ _ _) rfl ?_
    rw [show d.next C x = d.fin 1 [] by unfold Hs.next; simp only [HD.out]]
    exact ⟨rfl, HS6.out.fin0 rfl⟩
set_option maxRecDepth 100000 in
set_option maxHeartbeats 4000000 in
theorem ph12 (h : w.heap[q]? = some (HObj b C d v)) (hb : b ≤ 16777216) (hC1 : 2 ≤ C) (hC2 : C ≤ 65536) (hpl : 0 ≤ d.place ∧ d.place < 18446744073709551616) (hd : d.ph = 12)
    (HA : ∀ X, Below w.heap.size w X → Calls Tryz.prog 81 #[.pointer (some ⟨p, 0, none⟩), .int .i64 ((b : Int) + 2 + 3 * (d.place % (C : Int))), .int .u64 (uw (d.place + C))] X fun e w2 => e = .returned (.tuple #[]) ∧ P w2) (hP : ∀ w2, P w2 → w2.heap[q]? = some (HObj b C d v)) :
    Calls Tryz.prog 46 #[.pointer (some ⟨q, 0, none⟩), .pointer (some ⟨p, 0, none⟩)] w fun e w' => e = .returned (.tuple #[]) ∧ StH P q b C d (d.next C x) v w' := by
  have HOV := hide (over_any h)
  rw [show decide (d.ph = 0) = false by simp [hd]] at HOV
  have HQ := hide hP
  have HD := hide hd
  obtain ⟨pl, hpl'⟩ : ∃ pl, pl = d.place := ⟨_, rfl⟩
  have HPL := hide hpl'
  have HC := hide HA
  obtain ⟨ky, hky⟩ : ∃ p, p = d.t.1 := ⟨_, rfl⟩
  obtain ⟨ld, hld⟩ : ∃ p, p = d.t.2 := ⟨_, rfl⟩
  have HT2 : Hid (d.t = (ky, ld)) := by unfold Hid; rw [hky, hld]
  have hs1 := Int.emod_nonneg pl (show (C : Int) ≠ 0 by omega)
  have hs2 : pl % (C : Int) ≤ 65536 := by have := Int.emod_lt_of_pos pl (show (0 : Int) < C by omega); omega
  have HSL := hide (fun W => slot_b b C d.place W (by omega) (by omega) hpl.1 hpl.2)
  have HT := hide (fun W => turnCell_b b C (pl % (C : Int)) W (by omega) (by omega) hs1 hs2)
  unfold HObj at h
  rw [hd] at h
  rw [← hpl'] at h HSL hpl
  try rw [← hpl'] at HC
  rw [← hky, ← hld] at h
  obtain ⟨up, hup⟩ : ∃ u, u = uw (pl + 1) := ⟨_, rfl⟩
  have hw1 : IntKind.u64.wrap (pl + 1) = up := by rw [uw_wrap, hup]
  have HUP := hide hup
  have HPR := hide hpl
  obtain ⟨uc, huc⟩ : ∃ u, u = uw (pl + C) := ⟨_, rfl⟩
  have hw2 : IntKind.u64.wrap (pl + (C : Int)) = uc := by rw [uw_wrap, huc]
  have hcw : IntKind.u64.wrap (C : Int) = (C : Int) := IntWalk.u64_in _ (by omega)
  rw [← huc] at HC
  clear huc
  obtain ⟨sl, hsl⟩ : ∃ sl, sl = pl % (C : Int) := ⟨_, rfl⟩
  have HSLE := hide hsl
  rw [← hsl] at HSL HT HC
  obtain ⟨ce, hce⟩ : ∃ ce, ce = (b : Int) + 2 + 3 * sl := ⟨_, rfl⟩
  rw [← hce] at HC HT
  clear hce
  have c0 := cell_of h (i := 0) rfl; have c1 := cell_of h (i := 1) rfl; have c2 := cell_of h (i := 2) rfl; have c3 := cell_of h (i := 3) rfl
  have HHH := hide h
  have hkk : ∀ X : World, X.heap[q]? = some (.cells #[.int .i64 b, .int .i64 C, .int .i64 12, .int .u64 pl, .int .u64 ky, .int .u64 ld, .int .i64 d.st, v] 126 (0, 0)) → X.cell? ⟨q, 0, none⟩ = some (.int .i64 b) ∧ X.cell? ⟨q, 1, none⟩ = some (.int .i64 C) ∧ X.cell? ⟨q, 2, none⟩ = some (.int .i64 12) ∧ X.cell? ⟨q, 3, none⟩ = some (.int .u64 pl) ∧ X.cell? ⟨q, 4, none⟩ = some (.int .u64 ky) ∧ X.cell? ⟨q, 5, none⟩ = some (.int .u64 ld) := fun X q => ⟨cell_of q rfl, cell_of q rfl, cell_of q rfl, cell_of q rfl, cell_of q rfl, cell_of q rfl⟩
  have HKK := hide hkk
  have HK : Hid (∀ X, Below w.heap.size w X → X.cell? ⟨q, 0, none⟩ = some (.int .i64 b) ∧ X.cell? ⟨q, 1, none⟩ = some (.int .i64 C) ∧ X.cell? ⟨q, 2, none⟩ = some (.int .i64 12) ∧ X.cell? ⟨q, 3, none⟩ = some (.int .u64 pl) ∧ X.cell? ⟨q, 4, none⟩ = some (.int .u64 ky) ∧ X.cell? ⟨q, 5, none⟩ = some (.int .u64 ld)) := hide (fun X hX => hkk X ((hX.block _ (lt_of_heap h)).trans h))
  have HQ2 : Hid (∀ X, P X → X.heap[q]? = some (.cells #[.int .i64 b, .int .i64 C, .int .i64 12, .int .u64 pl, .int .u64 ky, .int .u64 ld, .int .i64 d.st, v] 126 (0, 0))) := hide (fun X hX => by
    have z := hP X hX
    unfold HObj at z
    rw [hd, ← hpl', ← hky, ← hld] at z
    exact z)
  unfold qAgg at HSL HT
  clear h hP HA hpl' hpl hky hld hup hsl hs1 hs2 hd hkk
  go_enter Tryz.func46, Tryz.ntmps46
  go_wp2_with fail
  refine HOV.out.mono ?_
  rintro e w1 ⟨rfl, rfl⟩
  have x0 := gw_cell c0; have x1 := gw_cell c1; have x3 := gw_cell c3
  go_wp2_with fail
  refine wp_region_gw (by kernel_rfl) (by kernel_rfl) ?_
  repeat (go_big_quiet_step (first
      | (go_at_call 76; exact gw_of (HSL.out _))
      | rfl))
  refine wpQuiet_nil ?_
  intro _ hw'
  obtain ⟨x', hw''⟩ := hw'
  subst hw''
  have HB := hide x'.bel
  obtain ⟨y0, y1, y2, y3, y4, y5⟩ := HK.out _ x'.bel
  clear x0 x1 x3 c0 c1 c2 c3
  generalize x'.world = w3 at HB y0 y1 y2 y3 y4 y5 ⊢
  clear x'

  go_upto_region 29 with fail
  refine wp_region_noPanic ?_
  go_region_held3 (fun x => x.cell? ⟨q, 0, none⟩ = some (.int .i64 b) ∧ x.cell? ⟨q, 1, none⟩ = some (.int .i64 C) ∧ x.cell? ⟨q, 3, none⟩ = some (.int .u64 pl)) (first | exact ⟨y0, y1, y3⟩ | exact ⟨z0, z1, z3⟩ | go_keep)
    (first
      | (go_at_call 69; refine (HT.out _).mono ?_; rintro e w4 ⟨rfl, hb4⟩; have HB4 := hide (below_on (a := w1) (below_drew HB.out) hb4); obtain ⟨z0, z1, z2, z3, z4, z5⟩ := HK.out w4 HB4.out; clear hb4)
      | (go_at_call 81; refine (HC.out _ HB4.out).mono ?_; rintro e w5 ⟨rfl, hp⟩; have HP := hide hp; have hq := HQ2.out w5 hp; have HQ5 := hide hq; obtain ⟨z0, z1, z2, z3, z4, z5⟩ := HKK.out w5 hq; clear hp hq)
      | fail)
  all_goals
    refine NoPanic.normal ?_
    have HS0 := hide (StN.of HP.out (HQ.out _ HP.out) (Below.refl _ _))
    have HEN := hide (end_any (b := b) (C := C) (HS0.out.below (below_alloc (Below.refl _ _) (.cells #[.int .u64 ky, .int .u64 ld] 42))) 5 (some ⟨w5.heap.size, 0, none⟩) 1 1 [d.t])
    go_wp2_with (go_at_call 82; refine HEN.out.mono ?_; rintro e w6 ⟨rfl, hs6, hc6⟩; have HS6 := hide hs6; have HC6 := hide hc6; clear hs6 hc6)
    first | go_end0 | refine bodyPost_ret (results_none rfl _ _ _) rfl ?_
    rw [show d.next C x = d.fin 5 [d.t] by unfold Hs.next; simp only [HD.out]]
    exact ⟨rfl, HS0.out.fin HS6.out HC6.out (by rw [HT2.out]; rfl)⟩
end
end Go.Proofs.YtgjdjdgondpjeaaGreat
