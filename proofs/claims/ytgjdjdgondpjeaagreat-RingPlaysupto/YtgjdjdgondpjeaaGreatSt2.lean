/- Step 46, phase by phase, over any contract of the access. -/
import Derived.Test.YtgjdjdgondpjeaaGreatSt1
import Derived.Deep.RegionHeld3
import Derived.Deep.RegionWith
namespace Go.Proofs.YtgjdjdgondpjeaaGreat
open Go.RowKit Go.Lib
set_option linter.unusedVariables false
set_option linter.unusedSimpArgs false
section
variable {w : World} {q p : Nat} {b C : Nat} {d : Hs} {v : Value} {x : Int} {P : World → Prop}
set_option maxRecDepth 100000 in
set_option maxHeartbeats 4000000 in
theorem ph1 (h : w.heap[q]? = some (HObj b C d v)) (hb : b ≤ 16777216) (hC1 : 2 ≤ C) (hC2 : C ≤ 65536) (hpl : 0 ≤ d.place ∧ d.place < 18446744073709551616) (hd : d.ph = 1)
    (HA : ∀ X, Below w.heap.size w X → Calls Tryz.prog 77 #[.pointer (some ⟨p, 0, none⟩), .int .i64 ((b : Int))] X fun e w2 => e = .returned (.int .u64 x) ∧ P w2) (hP : ∀ w2, P w2 → w2.heap[q]? = some (HObj b C d v)) :
    Calls Tryz.prog 46 #[.pointer (some ⟨q, 0, none⟩), .pointer (some ⟨p, 0, none⟩)] w fun e w' => e = .returned (.tuple #[]) ∧ StH P q b C d (d.next C x) v w' := by
  have HOV := hide (over_any h)
  rw [show decide (d.ph = 0) = false by simp [hd]] at HOV
  have HQ := hide hP
  have HD := hide hd
  obtain ⟨pl, hpl'⟩ : ∃ pl, pl = d.place := ⟨_, rfl⟩
  have HPL := hide hpl'
  have HC := hide HA
  obtain ⟨ky, hky⟩ : ∃ p, p = d.t.1 := ⟨_, rfl⟩
  obtain ⟨ld, hld⟩ : ∃ p, p = d.t.2 := ⟨_, rfl⟩
  have HT2 : Hid (d.t = (ky, ld)) := by unfold Hid; rw [hky, hld]
  have hs1 := Int.emod_nonneg pl (show (C : Int) ≠ 0 by omega)
  have hs2 : pl % (C : Int) ≤ 65536 := by have := Int.emod_lt_of_pos pl (show (0 : Int) < C by omega); omega
  have HSL := hide (fun W => slot_b b C d.place W (by omega) (by omega) hpl.1 hpl.2)
  have HT := hide (fun W => tailCell_b b C W)
  unfold HObj at h
  rw [hd] at h
  rw [← hpl'] at h HSL hpl
  try rw [← hpl'] at HC
  rw [← hky, ← hld] at h
  obtain ⟨up, hup⟩ : ∃ u, u = uw (pl + 1) := ⟨_, rfl⟩
  have hw1 : IntKind.u64.wrap (pl + 1) = up := by rw [uw_wrap, hup]
  have HUP := hide hup
  have HPR := hide hpl
  obtain ⟨sl, hsl⟩ : ∃ sl, sl = pl % (C : Int) := ⟨_, rfl⟩
  have HSLE := hide hsl
  rw [← hsl] at HSL
  have c0 := cell_of h (i := 0) rfl; have c1 := cell_of h (i := 1) rfl; have c2 := cell_of h (i := 2) rfl; have c3 := cell_of h (i := 3) rfl
  have HHH := hide h
  have hkk : ∀ X : World, X.heap[q]? = some (.cells #[.int .i64 b, .int .i64 C, .int .i64 1, .int .u64 pl, .int .u64 ky, .int .u64 ld, .int .i64 d.st, v] 126 (0, 0)) → X.cell? ⟨q, 0, none⟩ = some (.int .i64 b) ∧ X.cell? ⟨q, 1, none⟩ = some (.int .i64 C) ∧ X.cell? ⟨q, 2, none⟩ = some (.int .i64 1) ∧ X.cell? ⟨q, 3, none⟩ = some (.int .u64 pl) ∧ X.cell? ⟨q, 4, none⟩ = some (.int .u64 ky) ∧ X.cell? ⟨q, 5, none⟩ = some (.int .u64 ld) := fun X q => ⟨cell_of q rfl, cell_of q rfl, cell_of q rfl, cell_of q rfl, cell_of q rfl, cell_of q rfl⟩
  have HKK := hide hkk
  have HK : Hid (∀ X, Below w.heap.size w X → X.cell? ⟨q, 0, none⟩ = some (.int .i64 b) ∧ X.cell? ⟨q, 1, none⟩ = some (.int .i64 C) ∧ X.cell? ⟨q, 2, none⟩ = some (.int .i64 1) ∧ X.cell? ⟨q, 3, none⟩ = some (.int .u64 pl) ∧ X.cell? ⟨q, 4, none⟩ = some (.int .u64 ky) ∧ X.cell? ⟨q, 5, none⟩ = some (.int .u64 ld)) := hide (fun X hX => hkk X ((hX.block _ (lt_of_heap h)).trans h))
  have HQ2 : Hid (∀ X, P X → X.heap[q]? = some (.cells #[.int .i64 b, .int .i64 C, .int .i64 1, .int .u64 pl, .int .u64 ky, .int .u64 ld, .int .i64 d.st, v] 126 (0, 0))) := hide (fun X hX => by
    have z := hP X hX
    unfold HObj at z
    rw [hd, ← hpl', ← hky, ← hld] at z
    exact z)
  unfold qAgg at HSL HT
  clear h hP HA hpl' hpl hky hld hup hsl hs1 hs2 hd hkk
  go_enter Tryz.func46, Tryz.ntmps46
  go_wp2_with fail
  refine HOV.out.mono ?_
  rintro e w1 ⟨rfl, rfl⟩
  have x0 := gw_cell c0; have x1 := gw_cell c1; have x3 := gw_cell c3
  go_wp2_with fail
  refine wp_region_gw (by kernel_rfl) (by kernel_rfl) ?_
  repeat (go_big_quiet_step (first
      | (go_at_call 76; exact gw_of (HSL.out _))
      | rfl))
  refine wpQuiet_nil ?_
  intro _ hw'
  obtain ⟨x', hw''⟩ := hw'
  subst hw''
  have HB := hide x'.bel
  obtain ⟨y0, y1, y2, y3, y4, y5⟩ := HK.out _ x'.bel
  clear x0 x1 x3 c0 c1 c2 c3
  generalize x'.world = w3 at HB y0 y1 y2 y3 y4 y5 ⊢
  clear x'

  have HE : Hid (∀ w5, P w5 → StN P q (HObj b C { d with ph := 2, place := x } v) ((w5.setCell ⟨q, 3, none⟩ (.int .u64 x)).setCell ⟨q, 2, none⟩ (.int .i64 2))) := hide (fun w5 hp => (((StN.of hp (HQ2.out w5 hp) (Below.refl _ _)).more rfl).more (by unfold HObj; simp only [HT2.out]; rfl)))
  go_wp2_with (first
    | (go_at_call 68; refine (HT.out _).mono ?_; rintro e w4 ⟨rfl, hb4⟩; have HB4 := hide (below_on HB.out hb4); clear hb4 y0 y1 y2 y3 y4 y5)
    | (go_at_call 77; refine (HC.out _ HB4.out).mono ?_; rintro e w5 ⟨rfl, hp⟩; have HP := hide hp; have hq := HQ2.out w5 hp; have f2 := free_of hq 2; have f3 := free_of hq 3; have z2 := cell_of hq (i := 2) rfl; have z3 := cell_of hq (i := 3) rfl; clear hq; clear hp)
    | fail)
  first | go_end0 | refine bodyPost_ret (results_none rfl _ _ _) rfl ?_
  rw [show d.next C x = { d with ph := 2, place := x } by unfold Hs.next; simp only [HD.out]]
  exact ⟨rfl, (HE.out _ HP.out).st rfl⟩
set_option maxRecDepth 100000 in
set_option maxHeartbeats 4000000 in
theorem ph2 (h : w.heap[q]? = some (HObj b C d v)) (hb : b ≤ 16777216) (hC1 : 2 ≤ C) (hC2 : C ≤ 65536) (hpl : 0 ≤ d.place ∧ d.place < 18446744073709551616) (hd : d.ph = 2)
    (HA : ∀ X, Below w.heap.size w X → Calls Tryz.prog 77 #[.pointer (some ⟨p, 0, none⟩), .int .i64 ((b : Int) + 2 + 3 * (d.place % (C : Int)))] X fun e w2 => e = .returned (.int .u64 x) ∧ P w2) (hP : ∀ w2, P w2 → w2.heap[q]? = some (HObj b C d v)) :
    Calls Tryz.prog 46 #[.pointer (some ⟨q, 0, none⟩), .pointer (some ⟨p, 0, none⟩)] w fun e w' => e = .returned (.tuple #[]) ∧ StH P q b C d (d.next C x) v w' := by
  have HOV := hide (over_any h)
  rw [show decide (d.ph = 0) = false by simp [hd]] at HOV
  have HQ := hide hP
  have HD := hide hd
  obtain ⟨pl, hpl'⟩ : ∃ pl, pl = d.place := ⟨_, rfl⟩
  have HPL := hide hpl'
  have HC := hide HA
  obtain ⟨ky, hky⟩ : ∃ p, p = d.t.1 := ⟨_, rfl⟩
  obtain ⟨ld, hld⟩ : ∃ p, p = d.t.2 := ⟨_, rfl⟩
  have HT2 : Hid (d.t = (ky, ld)) := by unfold Hid; rw [hky, hld]
  have hs1 := Int.emod_nonneg pl (show (C : Int) ≠ 0 by omega)
  have hs2 : pl % (C : Int) ≤ 65536 := by have := Int.emod_lt_of_pos pl (show (0 : Int) < C by omega); omega
  have HSL := hide (fun W => slot_b b C d.place W (by omega) (by omega) hpl.1 hpl.2)
  have HT := hide (fun W => turnCell_b b C (pl % (C : Int)) W (by omega) (by omega) hs1 hs2)
  unfold HObj at h
  rw [hd] at h
  rw [← hpl'] at h HSL hpl
  try rw [← hpl'] at HC
  rw [← hky, ← hld] at h
  obtain ⟨up, hup⟩ : ∃ u, u = uw (pl + 1) := ⟨_, rfl⟩
  have hw1 : IntKind.u64.wrap (pl + 1) = up := by rw [uw_wrap, hup]
  have HUP := hide hup
  have HPR := hide hpl
  obtain ⟨sl, hsl⟩ : ∃ sl, sl = pl % (C : Int) := ⟨_, rfl⟩
  have HSLE := hide hsl
  rw [← hsl] at HSL HT HC
  obtain ⟨ce, hce⟩ : ∃ ce, ce = (b : Int) + 2 + 3 * sl := ⟨_, rfl⟩
  rw [← hce] at HC HT
  clear hce
  have c0 := cell_of h (i := 0) rfl; have c1 := cell_of h (i := 1) rfl; have c2 := cell_of h (i := 2) rfl; have c3 := cell_of h (i := 3) rfl
  have HHH := hide h
  have hkk : ∀ X : World, X.heap[q]? = some (.cells #[.int .i64 b, .int .i64 C, .int .i64 2, .int .u64 pl, .int .u64 ky, .int .u64 ld, .int .i64 d.st, v] 126 (0, 0)) → X.cell? ⟨q, 0, none⟩ = some (.int .i64 b) ∧ X.cell? ⟨q, 1, none⟩ = some (.int .i64 C) ∧ X.cell? ⟨q, 2, none⟩ = some (.int .i64 2) ∧ X.cell? ⟨q, 3, none⟩ = some (.int .u64 pl) ∧ X.cell? ⟨q, 4, none⟩ = some (.int .u64 ky) ∧ X.cell? ⟨q, 5, none⟩ = some (.int .u64 ld) := fun X q => ⟨cell_of q rfl, cell_of q rfl, cell_of q rfl, cell_of q rfl, cell_of q rfl, cell_of q rfl⟩
  have HKK := hide hkk
  have HK : Hid (∀ X, Below w.heap.size w X → X.cell? ⟨q, 0, none⟩ = some (.int .i64 b) ∧ X.cell? ⟨q, 1, none⟩ = some (.int .i64 C) ∧ X.cell? ⟨q, 2, none⟩ = some (.int .i64 2) ∧ X.cell? ⟨q, 3, none⟩ = some (.int .u64 pl) ∧ X.cell? ⟨q, 4, none⟩ = some (.int .u64 ky) ∧ X.cell? ⟨q, 5, none⟩ = some (.int .u64 ld)) := hide (fun X hX => hkk X ((hX.block _ (lt_of_heap h)).trans h))
  have HQ2 : Hid (∀ X, P X → X.heap[q]? = some (.cells #[.int .i64 b, .int .i64 C, .int .i64 2, .int .u64 pl, .int .u64 ky, .int .u64 ld, .int .i64 d.st, v] 126 (0, 0))) := hide (fun X hX => by
    have z := hP X hX
    unfold HObj at z
    rw [hd, ← hpl', ← hky, ← hld] at z
    exact z)
  unfold qAgg at HSL HT
  clear h hP HA hpl' hpl hky hld hup hsl hs1 hs2 hd hkk
  go_enter Tryz.func46, Tryz.ntmps46
  go_wp2_with fail
  refine HOV.out.mono ?_
  rintro e w1 ⟨rfl, rfl⟩
  have x0 := gw_cell c0; have x1 := gw_cell c1; have x3 := gw_cell c3
  go_wp2_with fail
  refine wp_region_gw (by kernel_rfl) (by kernel_rfl) ?_
  repeat (go_big_quiet_step (first
      | (go_at_call 76; exact gw_of (HSL.out _))
      | rfl))
  refine wpQuiet_nil ?_
  intro _ hw'
  obtain ⟨x', hw''⟩ := hw'
  subst hw''
  have HB := hide x'.bel
  obtain ⟨y0, y1, y2, y3, y4, y5⟩ := HK.out _ x'.bel
  clear x0 x1 x3 c0 c1 c2 c3
  generalize x'.world = w3 at HB y0 y1 y2 y3 y4 y5 ⊢
  clear x'

  go_wp2_with (first
    | (go_at_call 69; refine (HT.out _).mono ?_; rintro e w4 ⟨rfl, hb4⟩; have HB4 := hide (below_on HB.out hb4); clear hb4 y0 y1 y2 y3 y4 y5)
    | (go_at_call 77; refine (HC.out _ HB4.out).mono ?_; rintro e w5 ⟨rfl, hp⟩; have HP := hide hp; have hq := HQ2.out w5 hp; clear hq; clear hp)
    | (go_at_call 78; refine (lookRoom_any (b := b) (C := C) (P := P) x (StN.of HP.out (HQ.out _ HP.out) (Below.refl _ _)) HD.out).mono ?_; rintro e w6 ⟨rfl, hs6⟩; have HS6 := hide hs6; clear hs6)
    | fail)
  first | go_end0 | refine bodyPost_ret (results_none rfl _ _ _) rfl ?_
  exact ⟨rfl, by rw [show C = ((C : Int)).toNat by omega]; exact HS6.out⟩
set_option maxRecDepth 100000 in
set_option maxHeartbeats 4000000 in
theorem ph4 (h : w.heap[q]? = some (HObj b C d v)) (hb : b ≤ 16777216) (hC1 : 2 ≤ C) (hC2 : C ≤ 65536) (hpl : 0 ≤ d.place ∧ d.place < 18446744073709551616) (hd : d.ph = 4)
    (HA : ∀ X, Below w.heap.size w X → Calls Tryz.prog 81 #[.pointer (some ⟨p, 0, none⟩), .int .i64 ((b : Int) + 2 + 3 * (d.place % (C : Int)) + 1), .int .u64 d.t.1] X fun e w2 => e = .returned (.tuple #[]) ∧ P w2) (hP : ∀ w2, P w2 → w2.heap[q]? = some (HObj b C d v)) :
    Calls Tryz.prog 46 #[.pointer (some ⟨q, 0, none⟩), .pointer (some ⟨p, 0, none⟩)] w fun e w' => e = .returned (.tuple #[]) ∧ StH P q b C d (d.next C x) v w' := by
  have HOV := hide (over_any h)
  rw [show decide (d.ph = 0) = false by simp [hd]] at HOV
  have HQ := hide hP
  have HD := hide hd
  obtain ⟨pl, hpl'⟩ : ∃ pl, pl = d.place := ⟨_, rfl⟩
  have HPL := hide hpl'
  have HC := hide HA
  obtain ⟨ky, hky⟩ : ∃ p, p = d.t.1 := ⟨_, rfl⟩
  obtain ⟨ld, hld⟩ : ∃ p, p = d.t.2 := ⟨_, rfl⟩
  have HT2 : Hid (d.t = (ky, ld)) := by unfold Hid; rw [hky, hld]
  have hs1 := Int.emod_nonneg pl (show (C : Int) ≠ 0 by omega)
  have hs2 : pl % (C : Int) ≤ 65536 := by have := Int.emod_lt_of_pos pl (show (0 : Int) < C by omega); omega
  have HSL := hide (fun W => slot_b b C d.place W (by omega) (by omega) hpl.1 hpl.2)
  have HT := hide (fun W => keyCell_b b C (pl % (C : Int)) W (by omega) (by omega) hs1 hs2)
  unfold HObj at h
  rw [hd] at h
  rw [← hpl'] at h HSL hpl
  try rw [← hpl'] at HC
  rw [← hky, ← hld] at h
  obtain ⟨up, hup⟩ : ∃ u, u = uw (pl + 1) := ⟨_, rfl⟩
  have hw1 : IntKind.u64.wrap (pl + 1) = up := by rw [uw_wrap, hup]
  have HUP := hide hup
  have HPR := hide hpl
  rw [← hky] at HC
  obtain ⟨sl, hsl⟩ : ∃ sl, sl = pl % (C : Int) := ⟨_, rfl⟩
  have HSLE := hide hsl
  rw [← hsl] at HSL HT HC
  obtain ⟨ce, hce⟩ : ∃ ce, ce = (b : Int) + 2 + 3 * sl + 1 := ⟨_, rfl⟩
  rw [← hce] at HC HT
  clear hce
  have c0 := cell_of h (i := 0) rfl; have c1 := cell_of h (i := 1) rfl; have c2 := cell_of h (i := 2) rfl; have c3 := cell_of h (i := 3) rfl
  have HHH := hide h
  have hkk : ∀ X : World, X.heap[q]? = some (.cells #[.int .i64 b, .int .i64 C, .int .i64 4, .int .u64 pl, .int .u64 ky, .int .u64 ld, .int .i64 d.st, v] 126 (0, 0)) → X.cell? ⟨q, 0, none⟩ = some (.int .i64 b) ∧ X.cell? ⟨q, 1, none⟩ = some (.int .i64 C) ∧ X.cell? ⟨q, 2, none⟩ = some (.int .i64 4) ∧ X.cell? ⟨q, 3, none⟩ = some (.int .u64 pl) ∧ X.cell? ⟨q, 4, none⟩ = some (.int .u64 ky) ∧ X.cell? ⟨q, 5, none⟩ = some (.int .u64 ld) := fun X q => ⟨cell_of q rfl, cell_of q rfl, cell_of q rfl, cell_of q rfl, cell_of q rfl, cell_of q rfl⟩
  have HKK := hide hkk
  have HK : Hid (∀ X, Below w.heap.size w X → X.cell? ⟨q, 0, none⟩ = some (.int .i64 b) ∧ X.cell? ⟨q, 1, none⟩ = some (.int .i64 C) ∧ X.cell? ⟨q, 2, none⟩ = some (.int .i64 4) ∧ X.cell? ⟨q, 3, none⟩ = some (.int .u64 pl) ∧ X.cell? ⟨q, 4, none⟩ = some (.int .u64 ky) ∧ X.cell? ⟨q, 5, none⟩ = some (.int .u64 ld)) := hide (fun X hX => hkk X ((hX.block _ (lt_of_heap h)).trans h))
  have HQ2 : Hid (∀ X, P X → X.heap[q]? = some (.cells #[.int .i64 b, .int .i64 C, .int .i64 4, .int .u64 pl, .int .u64 ky, .int .u64 ld, .int .i64 d.st, v] 126 (0, 0))) := hide (fun X hX => by
    have z := hP X hX
    unfold HObj at z
    rw [hd, ← hpl', ← hky, ← hld] at z
    exact z)
  unfold qAgg at HSL HT
  clear h hP HA hpl' hpl hky hld hup hsl hs1 hs2 hd hkk
  go_enter Tryz.func46, Tryz.ntmps46
  go_wp2_with fail
  refine HOV.out.mono ?_
  rintro e w1 ⟨rfl, rfl⟩
  have x0 := gw_cell c0; have x1 := gw_cell c1; have x3 := gw_cell c3
  go_wp2_with fail
  refine wp_region_gw (by kernel_rfl) (by kernel_rfl) ?_
  repeat (go_big_quiet_step (first
      | (go_at_call 76; exact gw_of (HSL.out _))
      | rfl))
  refine wpQuiet_nil ?_
  intro _ hw'
  obtain ⟨x', hw''⟩ := hw'
  subst hw''
  have HB := hide x'.bel
  obtain ⟨y0, y1, y2, y3, y4, y5⟩ := HK.out _ x'.bel
  clear x0 x1 x3 c0 c1 c2 c3
  generalize x'.world = w3 at HB y0 y1 y2 y3 y4 y5 ⊢
  clear x'

  have HE : Hid (∀ w5 k, P w5 → StN P q (HObj b C { d with ph := 5 } v) ((w5.drewN k).setCell ⟨q, 2, none⟩ (.int .i64 5))) := hide (fun w5 k hp => ((StN.of hp (HQ2.out w5 hp) (below_drN w5 k)).more (by unfold HObj; simp only [HT2.out, HPL.out]; rfl)))
  go_upto_region 10 with fail
  refine wp_region_noPanic ?_
  go_region_held3 (fun x => x.cell? ⟨q, 0, none⟩ = some (.int .i64 b) ∧ x.cell? ⟨q, 1, none⟩ = some (.int .i64 C) ∧ x.cell? ⟨q, 4, none⟩ = some (.int .u64 ky)) (first | exact ⟨y0, y1, y4⟩ | exact ⟨z0, z1, z4⟩ | go_keep)
    (first
      | (go_at_call 70; refine (HT.out _).mono ?_; rintro e w4 ⟨rfl, hb4⟩; have HB4 := hide (below_on (a := w1) (below_drew HB.out) hb4); obtain ⟨z0, z1, z2, z3, z4, z5⟩ := HK.out w4 HB4.out; clear hb4)
      | (go_at_call 81; refine (HC.out _ HB4.out).mono ?_; rintro e w5 ⟨rfl, hp⟩; have HP := hide hp; have hq := HQ2.out w5 hp; have HQ5 := hide hq; obtain ⟨z0, z1, z2, z3, z4, z5⟩ := HKK.out w5 hq; clear hp hq)
      | fail)
  all_goals
    refine NoPanic.normal ?_
    have z2' := cell_of HQ5.out (i := 2) rfl; have f2 := free_of HQ5.out 2
    clear HQ5
    go_wp2_with fail
    first | go_end0 | refine bodyPost_ret (results_none rfl _ _ _) rfl ?_
    rw [show d.next C x = { d with ph := 5 } by unfold Hs.next; simp only [HD.out]]
    exact ⟨rfl, (HE.out _ 0 HP.out).st rfl⟩
set_option maxRecDepth 100000 in
set_option maxHeartbeats 4000000 in
theorem ph5 (h : w.heap[q]? = some (HObj b C d v)) (hb : b ≤ 16777216) (hC1 : 2 ≤ C) (hC2 : C ≤ 65536) (hpl : 0 ≤ d.place ∧ d.place < 18446744073709551616) (hd : d.ph = 5)
    (HA : ∀ X, Below w.heap.size w X → Calls Tryz.prog 81 #[.pointer (some ⟨p, 0, none⟩), .int .i64 ((b : Int) + 2 + 3 * (d.place % (C : Int)) + 2), .int .u64 d.t.2] X fun e w2 => e = .returned (.tuple #[]) ∧ P w2) (hP : ∀ w2, P w2 → w2.heap[q]? = some (HObj b C d v)) :
    Calls Tryz.prog 46 #[.pointer (some ⟨q, 0, none⟩), .pointer (some ⟨p, 0, none⟩)] w fun e w' => e = .returned (.tuple #[]) ∧ StH P q b C d (d.next C x) v w' := by
  have HOV := hide (over_any h)
  rw [show decide (d.ph = 0) = false by simp [hd]] at HOV
  have HQ := hide hP
  have HD := hide hd
  obtain ⟨pl, hpl'⟩ : ∃ pl, pl = d.place := ⟨_, rfl⟩
  have HPL := hide hpl'
  have HC := hide HA
  obtain ⟨ky, hky⟩ : ∃ p, p = d.t.1 := ⟨_, rfl⟩
  obtain ⟨ld, hld⟩ : ∃ p, p = d.t.2 := ⟨_, rfl⟩
  have HT2 : Hid (d.t = (ky, ld)) := by unfold Hid; rw [hky, hld]
  have hs1 := Int.emod_nonneg pl (show (C : Int) ≠ 0 by omega)
  have hs2 : pl % (C : Int) ≤ 65536 := by have := Int.emod_lt_of_pos pl (show (0 : Int) < C by omega); omega
  have HSL := hide (fun W => slot_b b C d.place W (by omega) (by omega) hpl.1 hpl.2)
  have HT := hide (fun W => loadCell_b b C (pl % (C : Int)) W (by omega) (by omega) hs1 hs2)
  unfold HObj at h
  rw [hd] at h
  rw [← hpl'] at h HSL hpl
  try rw [← hpl'] at HC
  rw [← hky, ← hld] at h
  obtain ⟨up, hup⟩ : ∃ u, u = uw (pl + 1) := ⟨_, rfl⟩
  have hw1 : IntKind.u64.wrap (pl + 1) = up := by rw [uw_wrap, hup]
  have HUP := hide hup
  have HPR := hide hpl
  rw [← hld] at HC
  obtain ⟨sl, hsl⟩ : ∃ sl, sl = pl % (C : Int) := ⟨_, rfl⟩
  have HSLE := hide hsl
  rw [← hsl] at HSL HT HC
  obtain ⟨ce, hce⟩ : ∃ ce, ce = (b : Int) + 2 + 3 * sl + 2 := ⟨_, rfl⟩
  rw [← hce] at HC HT
  clear hce
  have c0 := cell_of h (i := 0) rfl; have c1 := cell_of h (i := 1) rfl; have c2 := cell_of h (i := 2) rfl; have c3 := cell_of h (i := 3) rfl
  have HHH := hide h
  have hkk : ∀ X : World, X.heap[q]? = some (.cells #[.int .i64 b, .int .i64 C, .int .i64 5, .int .u64 pl, .int .u64 ky, .int .u64 ld, .int .i64 d.st, v] 126 (0, 0)) → X.cell? ⟨q, 0, none⟩ = some (.int .i64 b) ∧ X.cell? ⟨q, 1, none⟩ = some (.int .i64 C) ∧ X.cell? ⟨q, 2, none⟩ = some (.int .i64 5) ∧ X.cell? ⟨q, 3, none⟩ = some (.int .u64 pl) ∧ X.cell? ⟨q, 4, none⟩ = some (.int .u64 ky) ∧ X.cell? ⟨q, 5, none⟩ = some (.int .u64 ld) := fun X q => ⟨cell_of q rfl, cell_of q rfl, cell_of q rfl, cell_of q rfl, cell_of q rfl, cell_of q rfl⟩
  have HKK := hide hkk
  have HK : Hid (∀ X, Below w.heap.size w X → X.cell? ⟨q, 0, none⟩ = some (.int .i64 b) ∧ X.cell? ⟨q, 1, none⟩ = some (.int .i64 C) ∧ X.cell? ⟨q, 2, none⟩ = some (.int .i64 5) ∧ X.cell? ⟨q, 3, none⟩ = some (.int .u64 pl) ∧ X.cell? ⟨q, 4, none⟩ = some (.int .u64 ky) ∧ X.cell? ⟨q, 5, none⟩ = some (.int .u64 ld)) := hide (fun X hX => hkk X ((hX.block _ (lt_of_heap h)).trans h))
  have HQ2 : Hid (∀ X, P X → X.heap[q]? = some (.cells #[.int .i64 b, .int .i64 C, .int .i64 5, .int .u64 pl, .int .u64 ky, .int .u64 ld, .int .i64 d.st, v] 126 (0, 0))) := hide (fun X hX => by
    have z := hP X hX
    unfold HObj at z
    rw [hd, ← hpl', ← hky, ← hld] at z
    exact z)
  unfold qAgg at HSL HT
  clear h hP HA hpl' hpl hky hld hup hsl hs1 hs2 hd hkk
  go_enter Tryz.func46, Tryz.ntmps46
  go_wp2_with fail
  refine HOV.out.mono ?_
  rintro e w1 ⟨rfl, rfl⟩
  have x0 := gw_cell c0; have x1 := gw_cell c1; have x3 := gw_cell c3
  go_wp2_with fail
  refine wp_region_gw (by kernel_rfl) (by kernel_rfl) ?_
  repeat (go_big_quiet_step (first
      | (go_at_call 76; exact gw_of (HSL.out _))
      | rfl))
  refine wpQuiet_nil ?_
  intro _ hw'
  obtain ⟨x', hw''⟩ := hw'
  subst hw''
  have HB := hide x'.bel
  obtain ⟨y0, y1, y2, y3, y4, y5⟩ := HK.out _ x'.bel
  clear x0 x1 x3 c0 c1 c2 c3
  generalize x'.world = w3 at HB y0 y1 y2 y3 y4 y5 ⊢
  clear x'

  have HE : Hid (∀ w5 k, P w5 → StN P q (HObj b C { d with ph := 6 } v) ((w5.drewN k).setCell ⟨q, 2, none⟩ (.int .i64 6))) := hide (fun w5 k hp => ((StN.of hp (HQ2.out w5 hp) (below_drN w5 k)).more (by unfold HObj; simp only [HT2.out, HPL.out]; rfl)))
  go_upto_region 13 with fail
  refine wp_region_noPanic ?_
  go_region_held3 (fun x => x.cell? ⟨q, 0, none⟩ = some (.int .i64 b) ∧ x.cell? ⟨q, 1, none⟩ = some (.int .i64 C) ∧ x.cell? ⟨q, 5, none⟩ = some (.int .u64 ld)) (first | exact ⟨y0, y1, y5⟩ | exact ⟨z0, z1, z5⟩ | go_keep)
    (first
      | (go_at_call 71; refine (HT.out _).mono ?_; rintro e w4 ⟨rfl, hb4⟩; have HB4 := hide (below_on (a := w1) (below_drew HB.out) hb4); obtain ⟨z0, z1, z2, z3, z4, z5⟩ := HK.out w4 HB4.out; clear hb4)
      | (go_at_call 81; refine (HC.out _ HB4.out).mono ?_; rintro e w5 ⟨rfl, hp⟩; have HP := hide hp; have hq := HQ2.out w5 hp; have HQ5 := hide hq; obtain ⟨z0, z1, z2, z3, z4, z5⟩ := HKK.out w5 hq; clear hp hq)
      | fail)
  all_goals
    refine NoPanic.normal ?_
    have z2' := cell_of HQ5.out (i := 2) rfl; have f2 := free_of HQ5.out 2
    clear HQ5
    go_wp2_with fail
    first | go_end0 | refine bodyPost_ret (results_none rfl _ _ _) rfl ?_
    rw [show d.next C x = { d with ph := 6 } by unfold Hs.next; simp only [HD.out]]
    exact ⟨rfl, (HE.out _ 0 HP.out).st rfl⟩
set_option maxRecDepth 100000 in
set_option maxHeartbeats 4000000 in
theorem ph7 (h : w.heap[q]? = some (HObj b C d v)) (hb : b ≤ 16777216) (hC1 : 2 ≤ C) (hC2 : C ≤ 65536) (hpl : 0 ≤ d.place ∧ d.place < 18446744073709551616) (hd : d.ph = 7)
    (HA : ∀ X, Below w.heap.size w X → Calls Tryz.prog 77 #[.pointer (some ⟨p, 0, none⟩), .int .i64 ((b : Int) + 1)] X fun e w2 => e = .returned (.int .u64 x) ∧ P w2) (hP : ∀ w2, P w2 → w2.heap[q]? = some (HObj b C d v)) :
    Calls Tryz.prog 46 #[.pointer (some ⟨q, 0, none⟩), .pointer (some ⟨p, 0, none⟩)] w fun e w' => e = .returned (.tuple #[]) ∧ StH P q b C d (d.next C x) v w' := by
  have HOV := hide (over_any h)
  rw [show decide (d.ph = 0) = false by simp [hd]] at HOV
  have HQ := hide hP
  have HD := hide hd
  obtain ⟨pl, hpl'⟩ : ∃ pl, pl = d.place := ⟨_, rfl⟩
  have HPL := hide hpl'
  have HC := hide HA
  obtain ⟨ky, hky⟩ : ∃ p, p = d.t.1 := ⟨_, rfl⟩
  obtain ⟨ld, hld⟩ : ∃ p, p = d.t.2 := ⟨_, rfl⟩
  have HT2 : Hid (d.t = (ky, ld)) := by unfold Hid; rw [hky, hld]
  have hs1 := Int.emod_nonneg pl (show (C : Int) ≠ 0 by omega)
  have hs2 : pl % (C : Int) ≤ 65536 := by have := Int.emod_lt_of_pos pl (show (0 : Int) < C by omega); omega
  have HSL := hide (fun W => slot_b b C d.place W (by omega) (by omega) hpl.1 hpl.2)
  have HT := hide (fun W => headCell_b b C W (by omega) (by omega))
  unfold HObj at h
  rw [hd] at h
  rw [← hpl'] at h HSL hpl
  try rw [← hpl'] at HC
  rw [← hky, ← hld] at h
  obtain ⟨up, hup⟩ : ∃ u, u = uw (pl + 1) := ⟨_, rfl⟩
  have hw1 : IntKind.u64.wrap (pl + 1) = up := by rw [uw_wrap, hup]
  have HUP := hide hup
  have HPR := hide hpl
  obtain ⟨sl, hsl⟩ : ∃ sl, sl = pl % (C : Int) := ⟨_, rfl⟩
  have HSLE := hide hsl
  rw [← hsl] at HSL
  obtain ⟨ce, hce⟩ : ∃ ce, ce = (b : Int) + 1 := ⟨_, rfl⟩
  rw [← hce] at HC HT
  clear hce
  have c0 := cell_of h (i := 0) rfl; have c1 := cell_of h (i := 1) rfl; have c2 := cell_of h (i := 2) rfl; have c3 := cell_of h (i := 3) rfl
  have HHH := hide h
  have hkk : ∀ X : World, X.heap[q]? = some (.cells #[.int .i64 b, .int .i64 C, .int .i64 7, .int .u64 pl, .int .u64 ky, .int .u64 ld, .int .i64 d.st, v] 126 (0, 0)) → X.cell? ⟨q, 0, none⟩ = some (.int .i64 b) ∧ X.cell? ⟨q, 1, none⟩ = some (.int .i64 C) ∧ X.cell? ⟨q, 2, none⟩ = some (.int .i64 7) ∧ X.cell? ⟨q, 3, none⟩ = some (.int .u64 pl) ∧ X.cell? ⟨q, 4, none⟩ = some (.int .u64 ky) ∧ X.cell? ⟨q, 5, none⟩ = some (.int .u64 ld) := fun X q => ⟨cell_of q rfl, cell_of q rfl, cell_of q rfl, cell_of q rfl, cell_of q rfl, cell_of q rfl⟩
  have HKK := hide hkk
  have HK : Hid (∀ X, Below w.heap.size w X → X.cell? ⟨q, 0, none⟩ = some (.int .i64 b) ∧ X.cell? ⟨q, 1, none⟩ = some (.int .i64 C) ∧ X.cell? ⟨q, 2, none⟩ = some (.int .i64 7) ∧ X.cell? ⟨q, 3, none⟩ = some (.int .u64 pl) ∧ X.cell? ⟨q, 4, none⟩ = some (.int .u64 ky) ∧ X.cell? ⟨q, 5, none⟩ = some (.int .u64 ld)) := hide (fun X hX => hkk X ((hX.block _ (lt_of_heap h)).trans h))
  have HQ2 : Hid (∀ X, P X → X.heap[q]? = some (.cells #[.int .i64 b, .int .i64 C, .int .i64 7, .int .u64 pl, .int .u64 ky, .int .u64 ld, .int .i64 d.st, v] 126 (0, 0))) := hide (fun X hX => by
    have z := hP X hX
    unfold HObj at z
    rw [hd, ← hpl', ← hky, ← hld] at z
    exact z)
  unfold qAgg at HSL HT
  clear h hP HA hpl' hpl hky hld hup hsl hs1 hs2 hd hkk
  go_enter Tryz.func46, Tryz.ntmps46
  go_wp2_with fail
  refine HOV.out.mono ?_
  rintro e w1 ⟨rfl, rfl⟩
  have x0 := gw_cell c0; have x1 := gw_cell c1; have x3 := gw_cell c3
  go_wp2_with fail
  refine wp_region_gw (by kernel_rfl) (by kernel_rfl) ?_
  repeat (go_big_quiet_step (first
      | (go_at_call 76; exact gw_of (HSL.out _))
      | rfl))
  refine wpQuiet_nil ?_
  intro _ hw'
  obtain ⟨x', hw''⟩ := hw'
  subst hw''
  have HB := hide x'.bel
  obtain ⟨y0, y1, y2, y3, y4, y5⟩ := HK.out _ x'.bel
  clear x0 x1 x3 c0 c1 c2 c3
  generalize x'.world = w3 at HB y0 y1 y2 y3 y4 y5 ⊢
  clear x'

  have HE : Hid (∀ w5, P w5 → StN P q (HObj b C { d with ph := 8, place := x } v) ((w5.setCell ⟨q, 3, none⟩ (.int .u64 x)).setCell ⟨q, 2, none⟩ (.int .i64 8))) := hide (fun w5 hp => (((StN.of hp (HQ2.out w5 hp) (Below.refl _ _)).more rfl).more (by unfold HObj; simp only [HT2.out]; rfl)))
  go_wp2_with (first
    | (go_at_call 83; refine (HT.out _).mono ?_; rintro e w4 ⟨rfl, hb4⟩; have HB4 := hide (below_on HB.out hb4); clear hb4 y0 y1 y2 y3 y4 y5)
    | (go_at_call 77; refine (HC.out _ HB4.out).mono ?_; rintro e w5 ⟨rfl, hp⟩; have HP := hide hp; have hq := HQ2.out w5 hp; have f2 := free_of hq 2; have f3 := free_of hq 3; have z2 := cell_of hq (i := 2) rfl; have z3 := cell_of hq (i := 3) rfl; clear hq; clear hp)
    | fail)
  first | go_end0 | refine bodyPost_ret (results_none rfl _ _ _) rfl ?_
  rw [show d.next C x = { d with ph := 8, place := x } by unfold Hs.next; simp only [HD.out]]
  exact ⟨rfl, (HE.out _ HP.out).st rfl⟩
set_option maxRecDepth 100000 in
set_option maxHeartbeats 4000000 in
theorem ph8 (h : w.heap[q]? = some (HObj b C d v)) (hb : b ≤ 16777216) (hC1 : 2 ≤ C) (hC2 : C ≤ 65536) (hpl : 0 ≤ d.place ∧ d.place < 18446744073709551616) (hd : d.ph = 8)
    (HA : ∀ X, Below w.heap.size w X → Calls Tryz.prog 77 #[.pointer (some ⟨p, 0, none⟩), .int .i64 ((b : Int) + 2 + 3 * (d.place % (C : Int)))] X fun e w2 => e = .returned (.int .u64 x) ∧ P w2) (hP : ∀ w2, P w2 → w2.heap[q]? = some (HObj b C d v)) :
    Calls Tryz.prog 46 #[.pointer (some ⟨q, 0, none⟩), .pointer (some ⟨p, 0, none⟩)] w fun e w' => e = .returned (.tuple #[]) ∧ StH P q b C d (d.next C x) v w' := by
  have HOV := hide (over_any h)
  rw [show decide (d.ph = 0) = false by simp [hd]] at HOV
  have HQ := hide hP
  have HD := hide hd
  obtain ⟨pl, hpl'⟩ : ∃ pl, pl = d.place := ⟨_, rfl⟩
  have HPL := hide hpl'
  have HC := hide HA
  obtain ⟨ky, hky⟩ : ∃ p, p = d.t.1 := ⟨_, rfl⟩
  obtain ⟨ld, hld⟩ : ∃ p, p = d.t.2 := ⟨_, rfl⟩
  have HT2 : Hid (d.t = (ky, ld)) := by unfold Hid; rw [hky, hld]
  have hs1 := Int.emod_nonneg pl (show (C : Int) ≠ 0 by omega)
  have hs2 : pl % (C : Int) ≤ 65536 := by have := Int.emod_lt_of_pos pl (show (0 : Int) < C by omega); omega
  have HSL := hide (fun W => slot_b b C d.place W (by omega) (by omega) hpl.1 hpl.2)
  have HT := hide (fun W => turnCell_b b C (pl % (C : Int)) W (by omega) (by omega) hs1 hs2)
  unfold HObj at h
  rw [hd] at h
  rw [← hpl'] at h HSL hpl
  try rw [← hpl'] at HC
  rw [← hky, ← hld] at h
  obtain ⟨up, hup⟩ : ∃ u, u = uw (pl + 1) := ⟨_, rfl⟩
  have hw1 : IntKind.u64.wrap (pl + 1) = up := by rw [uw_wrap, hup]
  have HUP := hide hup
  have HPR := hide hpl
  obtain ⟨sl, hsl⟩ : ∃ sl, sl = pl % (C : Int) := ⟨_, rfl⟩
  have HSLE := hide hsl
  rw [← hsl] at HSL HT HC
  obtain ⟨ce, hce⟩ : ∃ ce, ce = (b : Int) + 2 + 3 * sl := ⟨_, rfl⟩
  rw [← hce] at HC HT
  clear hce
  have c0 := cell_of h (i := 0) rfl; have c1 := cell_of h (i := 1) rfl; have c2 := cell_of h (i := 2) rfl; have c3 := cell_of h (i := 3) rfl
  have HHH := hide h
  have hkk : ∀ X : World, X.heap[q]? = some (.cells #[.int .i64 b, .int .i64 C, .int .i64 8, .int .u64 pl, .int .u64 ky, .int .u64 ld, .int .i64 d.st, v] 126 (0, 0)) → X.cell? ⟨q, 0, none⟩ = some (.int .i64 b) ∧ X.cell? ⟨q, 1, none⟩ = some (.int .i64 C) ∧ X.cell? ⟨q, 2, none⟩ = some (.int .i64 8) ∧ X.cell? ⟨q, 3, none⟩ = some (.int .u64 pl) ∧ X.cell? ⟨q, 4, none⟩ = some (.int .u64 ky) ∧ X.cell? ⟨q, 5, none⟩ = some (.int .u64 ld) := fun X q => ⟨cell_of q rfl, cell_of q rfl, cell_of q rfl, cell_of q rfl, cell_of q rfl, cell_of q rfl⟩
  have HKK := hide hkk
  have HK : Hid (∀ X, Below w.heap.size w X → X.cell? ⟨q, 0, none⟩ = some (.int .i64 b) ∧ X.cell? ⟨q, 1, none⟩ = some (.int .i64 C) ∧ X.cell? ⟨q, 2, none⟩ = some (.int .i64 8) ∧ X.cell? ⟨q, 3, none⟩ = some (.int .u64 pl) ∧ X.cell? ⟨q, 4, none⟩ = some (.int .u64 ky) ∧ X.cell? ⟨q, 5, none⟩ = some (.int .u64 ld)) := hide (fun X hX => hkk X ((hX.block _ (lt_of_heap h)).trans h))
  have HQ2 : Hid (∀ X, P X → X.heap[q]? = some (.cells #[.int .i64 b, .int .i64 C, .int .i64 8, .int .u64 pl, .int .u64 ky, .int .u64 ld, .int .i64 d.st, v] 126 (0, 0))) := hide (fun X hX => by
    have z := hP X hX
    unfold HObj at z
    rw [hd, ← hpl', ← hky, ← hld] at z
    exact z)
  unfold qAgg at HSL HT
  clear h hP HA hpl' hpl hky hld hup hsl hs1 hs2 hd hkk
  go_enter Tryz.func46, Tryz.ntmps46
  go_wp2_with fail
  refine HOV.out.mono ?_
  rintro e w1 ⟨rfl, rfl⟩
  have x0 := gw_cell c0; have x1 := gw_cell c1; have x3 := gw_cell c3
  go_wp2_with fail
  refine wp_region_gw (by kernel_rfl) (by kernel_rfl) ?_
  repeat (go_big_quiet_step (first
      | (go_at_call 76; exact gw_of (HSL.out _))
      | rfl))
  refine wpQuiet_nil ?_
  intro _ hw'
  obtain ⟨x', hw''⟩ := hw'
  subst hw''
  have HB := hide x'.bel
  obtain ⟨y0, y1, y2, y3, y4, y5⟩ := HK.out _ x'.bel
  clear x0 x1 x3 c0 c1 c2 c3
  generalize x'.world = w3 at HB y0 y1 y2 y3 y4 y5 ⊢
  clear x'

  go_wp2_with (first
    | (go_at_call 69; refine (HT.out _).mono ?_; rintro e w4 ⟨rfl, hb4⟩; have HB4 := hide (below_on HB.out hb4); clear hb4 y0 y1 y2 y3 y4 y5)
    | (go_at_call 77; refine (HC.out _ HB4.out).mono ?_; rintro e w5 ⟨rfl, hp⟩; have HP := hide hp; have hq := HQ2.out w5 hp; clear hq; clear hp)
    | (go_at_call 84; refine (lookTask_any (b := b) (C := C) (P := P) x (StN.of HP.out (HQ.out _ HP.out) (Below.refl _ _)) HD.out).mono ?_; rintro e w6 ⟨rfl, hs6⟩; have HS6 := hide hs6; clear hs6)
    | fail)
  first | go_end0 | refine bodyPost_ret (results_none rfl _ _ _) rfl ?_
  exact ⟨rfl, by rw [show C = ((C : Int)).toNat by omega]; exact HS6.out⟩
set_option maxRecDepth 100000 in
set_option maxHeartbeats 4000000 in
theorem ph10 (h : w.heap[q]? = some (HObj b C d v)) (hb : b ≤ 16777216) (hC1 : 2 ≤ C) (hC2 : C ≤ 65536) (hpl : 0 ≤ d.place ∧ d.place < 18446744073709551616) (hd : d.ph = 10)
    (HA : ∀ X, Below w.heap.size w X → Calls Tryz.prog 77 #[.pointer (some ⟨p, 0, none⟩), .int .i64 ((b : Int) + 2 + 3 * (d.place % (C : Int)) + 1)] X fun e w2 => e = .returned (.int .u64 x) ∧ P w2) (hP : ∀ w2, P w2 → w2.heap[q]? = some (HObj b C d v)) :
    Calls Tryz.prog 46 #[.pointer (some ⟨q, 0, none⟩), .pointer (some ⟨p, 0, none⟩)] w fun e w' => e = .returned (.tuple #[]) ∧ StH P q b C d (d.next C x) v w' := by
  have HOV := hide (over_any h)
  rw [show decide (d.ph = 0) = false by simp [hd]] at HOV
  have HQ := hide hP
  have HD := hide hd
  obtain ⟨pl, hpl'⟩ : ∃ pl, pl = d.place := ⟨_, rfl⟩
  have HPL := hide hpl'
  have HC := hide HA
  obtain ⟨ky, hky⟩ : ∃ p, p = d.t.1 := ⟨_, rfl⟩
  obtain ⟨ld, hld⟩ : ∃ p, p = d.t.2 := ⟨_, rfl⟩
  have HT2 : Hid (d.t = (ky, ld)) := by unfold Hid; rw [hky, hld]
  have hs1 := Int.emod_nonneg pl (show (C : Int) ≠ 0 by omega)
  have hs2 : pl % (C : Int) ≤ 65536 := by have := Int.emod_lt_of_pos pl (show (0 : Int) < C by omega); omega
  have HSL := hide (fun W => slot_b b C d.place W (by omega) (by omega) hpl.1 hpl.2)
  have HT := hide (fun W => keyCell_b b C (pl % (C : Int)) W (by omega) (by omega) hs1 hs2)
  unfold HObj at h
  rw [hd] at h
  rw [← hpl'] at h HSL hpl
  try rw [← hpl'] at HC
  rw [← hky, ← hld] at h
  obtain ⟨up, hup⟩ : ∃ u, u = uw (pl + 1) := ⟨_, rfl⟩
  have hw1 : IntKind.u64.wrap (pl + 1) = up := by rw [uw_wrap, hup]
  have HUP := hide hup
  have HPR := hide hpl
  obtain ⟨sl, hsl⟩ : ∃ sl, sl = pl % (C : Int) := ⟨_, rfl⟩
  have HSLE := hide hsl
  rw [← hsl] at HSL HT HC
  obtain ⟨ce, hce⟩ : ∃ ce, ce = (b : Int) + 2 + 3 * sl + 1 := ⟨_, rfl⟩
  rw [← hce] at HC HT
  clear hce
  have c0 := cell_of h (i := 0) rfl; have c1 := cell_of h (i := 1) rfl; have c2 := cell_of h (i := 2) rfl; have c3 := cell_of h (i := 3) rfl
  have HHH := hide h
  have hkk : ∀ X : World, X.heap[q]? = some (.cells #[.int .i64 b, .int .i64 C, .int .i64 10, .int .u64 pl, .int .u64 ky, .int .u64 ld, .int .i64 d.st, v] 126 (0, 0)) → X.cell? ⟨q, 0, none⟩ = some (.int .i64 b) ∧ X.cell? ⟨q, 1, none⟩ = some (.int .i64 C) ∧ X.cell? ⟨q, 2, none⟩ = some (.int .i64 10) ∧ X.cell? ⟨q, 3, none⟩ = some (.int .u64 pl) ∧ X.cell? ⟨q, 4, none⟩ = some (.int .u64 ky) ∧ X.cell? ⟨q, 5, none⟩ = some (.int .u64 ld) := fun X q => ⟨cell_of q rfl, cell_of q rfl, cell_of q rfl, cell_of q rfl, cell_of q rfl, cell_of q rfl⟩
  have HKK := hide hkk
  have HK : Hid (∀ X, Below w.heap.size w X → X.cell? ⟨q, 0, none⟩ = some (.int .i64 b) ∧ X.cell? ⟨q, 1, none⟩ = some (.int .i64 C) ∧ X.cell? ⟨q, 2, none⟩ = some (.int .i64 10) ∧ X.cell? ⟨q, 3, none⟩ = some (.int .u64 pl) ∧ X.cell? ⟨q, 4, none⟩ = some (.int .u64 ky) ∧ X.cell? ⟨q, 5, none⟩ = some (.int .u64 ld)) := hide (fun X hX => hkk X ((hX.block _ (lt_of_heap h)).trans h))
  have HQ2 : Hid (∀ X, P X → X.heap[q]? = some (.cells #[.int .i64 b, .int .i64 C, .int .i64 10, .int .u64 pl, .int .u64 ky, .int .u64 ld, .int .i64 d.st, v] 126 (0, 0))) := hide (fun X hX => by
    have z := hP X hX
    unfold HObj at z
    rw [hd, ← hpl', ← hky, ← hld] at z
    exact z)
  unfold qAgg at HSL HT
  clear h hP HA hpl' hpl hky hld hup hsl hs1 hs2 hd hkk
  go_enter Tryz.func46, Tryz.ntmps46
  go_wp2_with fail
  refine HOV.out.mono ?_
  rintro e w1 ⟨rfl, rfl⟩
  have x0 := gw_cell c0; have x1 := gw_cell c1; have x3 := gw_cell c3
  go_wp2_with fail
  refine wp_region_gw (by kernel_rfl) (by kernel_rfl) ?_
  repeat (go_big_quiet_step (first
      | (go_at_call 76; exact gw_of (HSL.out _))
      | rfl))
  refine wpQuiet_nil ?_
  intro _ hw'
  obtain ⟨x', hw''⟩ := hw'
  subst hw''
  have HB := hide x'.bel
  obtain ⟨y0, y1, y2, y3, y4, y5⟩ := HK.out _ x'.bel
  clear x0 x1 x3 c0 c1 c2 c3
  generalize x'.world = w3 at HB y0 y1 y2 y3 y4 y5 ⊢
  clear x'

  have HE : Hid (∀ w5, P w5 → StN P q (HObj b C { d with ph := 11, t := (x, d.t.2) } v) ((w5.setCell ⟨q, 4, none⟩ (.int .u64 x)).setCell ⟨q, 2, none⟩ (.int .i64 11))) := hide (fun w5 hp => (((StN.of hp (HQ2.out w5 hp) (Below.refl _ _)).more rfl).more (by unfold HObj; simp only [HT2.out, HPL.out]; rfl)))
  go_wp2_with (first
    | (go_at_call 70; refine (HT.out _).mono ?_; rintro e w4 ⟨rfl, hb4⟩; have HB4 := hide (below_on HB.out hb4); clear hb4 y0 y1 y2 y3 y4 y5)
    | (go_at_call 77; refine (HC.out _ HB4.out).mono ?_; rintro e w5 ⟨rfl, hp⟩; have HP := hide hp; have hq := HQ2.out w5 hp; have f2 := free_of hq 2; have f4 := free_of hq 4; have z2 := cell_of hq (i := 2) rfl; have z4 := cell_of hq (i := 4) rfl; clear hq; clear hp)
    | fail)
  first | go_end0 | refine bodyPost_ret (results_none rfl _ _ _) rfl ?_
  rw [show d.next C x = { d with ph := 11, t := (x, d.t.2) } by unfold Hs.next; simp only [HD.out]]
  exact ⟨rfl, (HE.out _ HP.out).st rfl⟩
set_option maxRecDepth 100000 in
set_option maxHeartbeats 4000000 in
theorem ph11 (h : w.heap[q]? = some (HObj b C d v)) (hb : b ≤ 16777216) (hC1 : 2 ≤ C) (hC2 : C ≤ 65536) (hpl : 0 ≤ d.place ∧ d.place < 18446744073709551616) (hd : d.ph = 11)
    (HA : ∀ X, Below w.heap.size w X → Calls Tryz.prog 77 #[.pointer (some ⟨p, 0, none⟩), .int .i64 ((b : Int) + 2 + 3 * (d.place % (C : Int)) + 2)] X fun e w2 => e = .returned (.int .u64 x) ∧ P w2) (hP : ∀ w2, P w2 → w2.heap[q]? = some (HObj b C d v)) :
    Calls Tryz.prog 46 #[.pointer (some ⟨q, 0, none⟩), .pointer (some ⟨p, 0, none⟩)] w fun e w' => e = .returned (.tuple #[]) ∧ StH P q b C d (d.next C x) v w' := by
  have HOV := hide (over_any h)
  rw [show decide (d.ph = 0) = false by simp [hd]] at HOV
  have HQ := hide hP
  have HD := hide hd
  obtain ⟨pl, hpl'⟩ : ∃ pl, pl = d.place := ⟨_, rfl⟩
  have HPL := hide hpl'
  have HC := hide HA
  obtain ⟨ky, hky⟩ : ∃ p, p = d.t.1 := ⟨_, rfl⟩
  obtain ⟨ld, hld⟩ : ∃ p, p = d.t.2 := ⟨_, rfl⟩
  have HT2 : Hid (d.t = (ky, ld)) := by unfold Hid; rw [hky, hld]
  have hs1 := Int.emod_nonneg pl (show (C : Int) ≠ 0 by omega)
  have hs2 : pl % (C : Int) ≤ 65536 := by have := Int.emod_lt_of_pos pl (show (0 : Int) < C by omega); omega
  have HSL := hide (fun W => slot_b b C d.place W (by omega) (by omega) hpl.1 hpl.2)
  have HT := hide (fun W => loadCell_b b C (pl % (C : Int)) W (by omega) (by omega) hs1 hs2)
  unfold HObj at h
  rw [hd] at h
  rw [← hpl'] at h HSL hpl
  try rw [← hpl'] at HC
  rw [← hky, ← hld] at h
  obtain ⟨up, hup⟩ : ∃ u, u = uw (pl + 1) := ⟨_, rfl⟩
  have hw1 : IntKind.u64.wrap (pl + 1) = up := by rw [uw_wrap, hup]
  have HUP := hide hup
  have HPR := hide hpl
  obtain ⟨sl, hsl⟩ : ∃ sl, sl = pl % (C : Int) := ⟨_, rfl⟩
  have HSLE := hide hsl
  rw [← hsl] at HSL HT HC
  obtain ⟨ce, hce⟩ : ∃ ce, ce = (b : Int) + 2 + 3 * sl + 2 := ⟨_, rfl⟩
  rw [← hce] at HC HT
  clear hce
  have c0 := cell_of h (i := 0) rfl; have c1 := cell_of h (i := 1) rfl; have c2 := cell_of h (i := 2) rfl; have c3 := cell_of h (i := 3) rfl
  have HHH := hide h
  have hkk : ∀ X : World, X.heap[q]? = some (.cells #[.int .i64 b, .int .i64 C, .int .i64 11, .int .u64 pl, .int .u64 ky, .int .u64 ld, .int .i64 d.st, v] 126 (0, 0)) → X.cell? ⟨q, 0, none⟩ = some (.int .i64 b) ∧ X.cell? ⟨q, 1, none⟩ = some (.int .i64 C) ∧ X.cell? ⟨q, 2, none⟩ = some (.int .i64 11) ∧ X.cell? ⟨q, 3, none⟩ = some (.int .u64 pl) ∧ X.cell? ⟨q, 4, none⟩ = some (.int .u64 ky) ∧ X.cell? ⟨q, 5, none⟩ = some (.int .u64 ld) := fun X q => ⟨cell_of q rfl, cell_of q rfl, cell_of q rfl, cell_of q rfl, cell_of q rfl, cell_of q rfl⟩
  have HKK := hide hkk
  have HK : Hid (∀ X, Below w.heap.size w X → X.cell? ⟨q, 0, none⟩ = some (.int .i64 b) ∧ X.cell? ⟨q, 1, none⟩ = some (.int .i64 C) ∧ X.cell? ⟨q, 2, none⟩ = some (.int .i64 11) ∧ X.cell? ⟨q, 3, none⟩ = some (.int .u64 pl) ∧ X.cell? ⟨q, 4, none⟩ = some (.int .u64 ky) ∧ X.cell? ⟨q, 5, none⟩ = some (.int .u64 ld)) := hide (fun X hX => hkk X ((hX.block _ (lt_of_heap h)).trans h))
  have HQ2 : Hid (∀ X, P X → X.heap[q]? = some (.cells #[.int .i64 b, .int .i64 C, .int .i64 11, .int .u64 pl, .int .u64 ky, .int .u64 ld, .int .i64 d.st, v] 126 (0, 0))) := hide (fun X hX => by
    have z := hP X hX
    unfold HObj at z
    rw [hd, ← hpl', ← hky, ← hld] at z
    exact z)
  unfold qAgg at HSL HT
  clear h hP HA hpl' hpl hky hld hup hsl hs1 hs2 hd hkk
  go_enter Tryz.func46, Tryz.ntmps46
  go_wp2_with fail
  refine HOV.out.mono ?_
  rintro e w1 ⟨rfl, rfl⟩
  have x0 := gw_cell c0; have x1 := gw_cell c1; have x3 := gw_cell c3
  go_wp2_with fail
  refine wp_region_gw (by kernel_rfl) (by kernel_rfl) ?_
  repeat (go_big_quiet_step (first
      | (go_at_call 76; exact gw_of (HSL.out _))
      | rfl))
  refine wpQuiet_nil ?_
  intro _ hw'
  obtain ⟨x', hw''⟩ := hw'
  subst hw''
  have HB := hide x'.bel
  obtain ⟨y0, y1, y2, y3, y4, y5⟩ := HK.out _ x'.bel
  clear x0 x1 x3 c0 c1 c2 c3
  generalize x'.world = w3 at HB y0 y1 y2 y3 y4 y5 ⊢
  clear x'

  have HE : Hid (∀ w5, P w5 → StN P q (HObj b C { d with ph := 12, t := (d.t.1, x) } v) ((w5.setCell ⟨q, 5, none⟩ (.int .u64 x)).setCell ⟨q, 2, none⟩ (.int .i64 12))) := hide (fun w5 hp => (((StN.of hp (HQ2.out w5 hp) (Below.refl _ _)).more rfl).more (by unfold HObj; simp only [HT2.out, HPL.out]; rfl)))
  go_wp2_with (first
    | (go_at_call 71; refine (HT.out _).mono ?_; rintro e w4 ⟨rfl, hb4⟩; have HB4 := hide (below_on HB.out hb4); clear hb4 y0 y1 y2 y3 y4 y5)
    | (go_at_call 77; refine (HC.out _ HB4.out).mono ?_; rintro e w5 ⟨rfl, hp⟩; have HP := hide hp; have hq := HQ2.out w5 hp; have f2 := free_of hq 2; have f5 := free_of hq 5; have z2 := cell_of hq (i := 2) rfl; have z5 := cell_of hq (i := 5) rfl; clear hq; clear hp)
    | fail)
  first | go_end0 | refine bodyPost_ret (results_none rfl _ _ _) rfl ?_
  rw [show d.next C x = { d with ph := 12, t := (d.t.1, x) } by unfold Hs.next; simp only [HD.out]]
  exact ⟨rfl, (HE.out _ HP.out).st rfl⟩
end
end Go.Proofs.YtgjdjdgondpjeaaGreat
