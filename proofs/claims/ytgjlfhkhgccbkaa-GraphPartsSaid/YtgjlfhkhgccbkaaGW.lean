/- GraphParts: the walk. -/
import Derived.Test.YtgjlfhkhgccbkaaGQ
import Derived.Deep.Cut
import Derived.BigQuiet
namespace Go.Proofs.Ytgjlfhkhgccbkaa
open Go.RowKit Go.Lib
set_option linter.unusedVariables false
set_option linter.unusedSimpArgs false
set_option maxRecDepth 100000 in
set_option maxHeartbeats 16000000 in
theorem parts_law (nI kI : Int) (v : Value) (es : List Ed3) (w : World) (hE : EAt w v es) (hnn : ∀ i, i < es.length → 0 ≤ (eAt es i).2.2) :
    Calls Try.prog 8 #[.int .i64 nI, v, .int .i64 kI] w fun e w' => e = .returned (.bool true) ∧ Below w.heap.size w w' := by
  obtain ⟨n, hn1, hn2, hbu⟩ := built_any nI v es w hE hnn
  obtain ⟨va0, vc0, rfl, _⟩ := id hE
  have HBU := hide hbu
  obtain ⟨m, hm⟩ : ∃ m, m = min es.length 300 := ⟨_, rfl⟩
  rw [← hm] at HBU
  have HM3 : Hid (m ≤ 300) := by have : m ≤ 300 := by omega
                                 exact this
  obtain ⟨k, hk⟩ : ∃ k : Nat, (k : Int) = 1 + prs kI 60 := ⟨(1 + prs kI 60).toNat, by have := prs_in kI 60 (by omega); omega⟩
  have hp60 := prs_in kI 60 (by omega)
  have ht60 : -(60 : Int) < kI.tmod 60 ∧ kI.tmod 60 < 60 := tmod_in kI 60 (by omega)
  have hq60 : (kI.tmod 60 + 60).tmod 60 = prs kI 60 := rfl
  have hw1 : wrap64 (kI.tmod 60 + 60) = kI.tmod 60 + 60 := IntWalk.wrap64_in _ (by omega)
  have hw2 : wrap64 (1 + (kI.tmod 60 + 60).tmod 60) = (k : Int) := by rw [hq60, hk]; exact IntWalk.wrap64_in _ (by omega)
  have HK1 : Hid (1 ≤ k) := by have : 1 ≤ k := by omega
                               exact this
  have HK2 : Hid (k ≤ 60) := by have : k ≤ 60 := by have := hp60.2; omega
                                exact this
  have HN1 := hide hn1
  have HN2 := hide hn2
  clear hE hnn hbu hm hk hp60 ht60 hq60 hn1 hn2
  go_enter Try.func8, Try.ntmps8
  go_upto_region 5 with (first
    | (go_at_call 24; refine HBU.out.mono ?_; rintro e w1 ⟨ao, ca, bo, cb, co, cc, lo, lc, st, tl, wt, nx, rfl, hgm, hea, hb1⟩; have HGM := hide hgm; have HB1 := hide hb1; have HP1 := hide (PBm.start w1 n (.slice ao (n + 1) ca) (.slice bo m cb) (.slice co m cc)); clear hgm hea hb1)
    | (go_at_call 25; refine (live_any _).mono ?_; rintro e w2 ⟨rfl, hb2⟩; have HP2 := hide (HP1.out.below hb2); obtain ⟨x0, x1, x2, x3⟩ := HP2.out.cells; clear hb2 HP1)
    | fail)
  rw [hw1, hw2]
  clear hw1 hw2
  have HPG := hide (fun W h => parts_good n k ao bo co ca cb cc m st tl wt W h HGM.out.gd HGM.out.la.tlen.symm HK1.out HK2.out)
  go_upto_region 6 with (first
    | (go_at_call 31; refine (HPG.out _ (HGM.out.at HP2.out.bel)).mono ?_; rintro e w3 ⟨G, cs, rfl, har, hcu, hb3⟩; have HC3 := hide (show PCm w1 n (.slice ao (n + 1) ca) (.slice bo m cb) (.slice co m cc) G cs w3 from ⟨HP2.out.below hb3, har⟩); have HCU := hide hcu; clear hb3 har hcu x0 x1 x2 x3 HP2)
    | fail)
  have a0 := HC3.out.ar.cell 0 (by rw [HCU.out.upT.len]; omega)
  rw [HCU.out.upT.zero] at a0
  have ak := HC3.out.ar.cell k (by rw [HCU.out.upT.len]; omega)
  rw [HCU.out.last] at ak
  have y0 := gw_cell a0
  have y1 := gw_cell ak
  have y2 := gw_cell HC3.out.b.cells.1
  have hwk : IntKind.i64.wrap ((k : Int) + 1) = (k : Int) + 1 := IntWalk.i64_in _ (by have := HK2.out; omega)
  have hkk : k < k + 1 := by omega
  have hk0 : 0 < k + 1 := by omega
  clear a0 ak
  refine wp_region_gw (by kernel_rfl) (by kernel_rfl) ?_
  repeat (go_big_quiet_step (rfl))
  refine wpQuiet_nil ?_
  intro _ hw'
  obtain ⟨x', hw''⟩ := hw'
  subst hw''
  have HC4 := hide (HC3.out.below x'.bel)
  clear y0 y1 y2 HC3
  generalize x'.world = w4 at HC4 ⊢
  clear x'
  have HST := hide (fun u (hu : u ≤ n) => HGM.out.gd.range u hu)
  have HLN := hide HGM.out.la.tlen
  have HGI := hide (fun X (hX : Below w1.heap.size w1 X) => (HGM.out.at hX).s)
  have HSL := hide HGM.out.gd.s_len
  have x0 := HC4.out.b.cells.1
  go_wp2_with fail
  clear x0
  go_loopw [12, 13, 14] (fun t12 t t14 wr => ∃ (L : Int) (u : Nat), u ≤ n ∧ t12 = .int .i64 L ∧ t = .int .i64 u ∧ (0 ≤ L ∧ L ≤ m) ∧ (∀ i, i < u → at_ st (i + 1) - at_ st i ≤ L) ∧ PCm w1 n (.slice ao (n + 1) ca) (.slice bo m cb) (.slice co m cc) G cs wr) (fun _ t _ _ => n - (RowKit.intOf t).toNat)
  case atStart => exact ⟨0, 0, by omega, rfl, rfl, by omega, fun i hi => by omega, HC4.out⟩
  case round =>
    obtain ⟨L, u, hun, rfl, rfl, hL, hall, hpc⟩ := hrel
    clear HC4
    have HPC := hide hpc
    have HALL := hide hall
    have HL := hide hL
    obtain ⟨x0, x1, x2, x3⟩ := hpc.b.cells
    clear hall hL
    by_cases hlt : u < n
    · have hui : (u : Int) < (n : Int) := by omega
      obtain ⟨gs, os, cs', hes, hl7, p0⟩ := (HGI.out _ hpc.b.bel).cellAt u (by rw [HSL.out]; omega)
      rw [HSL.out] at hes
      simp only [Value.slice.injEq] at hes
      obtain ⟨rfl, hl9, rfl⟩ := hes
      clear hl9 hl7
      have p1 := (HGI.out _ hpc.b.bel).cellIs (u + 1) (by rw [HSL.out]; omega)
      have hr0 := HST.out u (by omega)
      have hr1 := HST.out (u + 1) (by omega)
      rw [HLN.out] at hr0 hr1
      obtain ⟨a, ha⟩ : ∃ a, a = at_ st u := ⟨_, rfl⟩
      obtain ⟨b, hb⟩ : ∃ b, b = at_ st (u + 1) := ⟨_, rfl⟩
      rw [← ha] at p0 hr0
      rw [← hb] at p1 hr1
      have HA := hide ha
      have HBb := hide hb
      have z0 := gw_cell p0
      have z1 := gw_cell p1
      have z2 := gw_cell x1
      have z3 : ∀ x : GW wr, x.world.cell? ⟨gs, os + u + 1, none⟩ = some (.int .i64 b) := z1
      have hw1 : IntKind.i64.wrap ((u : Int) + 1) = (u : Int) + 1 := IntWalk.i64_in _ (by have := HN2.out; omega)
      have hw2 : IntKind.i64.wrap (b - a) = b - a := IntWalk.i64_in _ (by have := HM3.out; omega)
      have hu1 : u + 1 < n + 1 := by omega
      have hu2 : u < n + 1 := by omega
      have e2 : ((u : Int) + 1).toNat = u + 1 := by omega
      clear ha hb hpc
      go_wp2_with fail
      refine wp_region_gw (by kernel_rfl) (by kernel_rfl) ?_
      repeat (go_big_quiet_step (rfl))
      refine wpQuiet_nil ?_
      intro _ hw'
      obtain ⟨x', hw''⟩ := hw'
      subst hw''
      have HPC2 := hide (HPC.out.below x'.bel)
      clear z0 z1 z2 z3 p0 p1 x0 x1 x2 x3
      generalize x'.world = w5 at HPC2 ⊢
      clear x'
      have hd0 : b - a ≤ (m : Int) := by omega
      by_cases hd : L < b - a
      · go_wp2_with fail
        go_roundw
        case rel =>
          refine ⟨b - a, u + 1, by omega, rfl, by simp, ⟨by have := HL.out; omega, hd0⟩, fun i hi => ?_, HPC2.out⟩
          rcases Nat.lt_or_ge i u with h | h
          · have := HALL.out i h; omega
          · obtain rfl : i = u := by omega
            rw [← HA.out, ← HBb.out]; exact Int.le_refl _
        case measure => simp [RowKit.intOf]; omega
      · go_wp2_with fail
        go_roundw
        case rel =>
          refine ⟨L, u + 1, by omega, rfl, by simp, HL.out, fun i hi => ?_, HPC2.out⟩
          rcases Nat.lt_or_ge i u with h | h
          · exact HALL.out i h
          · obtain rfl : i = u := by omega
            rw [← HA.out, ← HBb.out]; omega
        case measure => simp [RowKit.intOf]; omega
    · obtain rfl : u = n := by omega
      clear x1 x2 x3 hpc
      go_wp2_with fail
      clear x0
      go_loopw [15] (fun t wr => ∃ j : Nat, j ≤ k ∧ t = .int .i64 j ∧ PCm w1 u (.slice ao (u + 1) ca) (.slice bo m cb) (.slice co m cc) G cs wr) (fun t _ => k - (RowKit.intOf t).toNat)
      case atStart => exact ⟨0, by omega, rfl, HPC.out⟩
      case round =>
        obtain ⟨j, hjk, rfl, hpc⟩ := hrel
        clear HPC
        have HPC := hide hpc
        clear hpc
        by_cases hj : j < k
        · have hji : (j : Int) < (k : Int) := by omega
          obtain ⟨a, b, ea, eb, hab, hbn, hstep⟩ := cuts_step HCU.out HGM.out.gd HLN.out.symm j hj
          have hfin := hstep L HL.out.1 HALL.out
          have p0 := HPC.out.ar.cell j (by rw [HCU.out.upT.len]; omega)
          have p1 := HPC.out.ar.cell (j + 1) (by rw [HCU.out.upT.len]; omega)
          rw [ea] at p0
          rw [eb] at p1
          obtain ⟨gs, os, cs', hes, hl7, q0⟩ := (HGI.out _ HPC.out.b.bel).cellAt a (by rw [HSL.out]; omega)
          rw [HSL.out] at hes
          simp only [Value.slice.injEq] at hes
          obtain ⟨rfl, hl9, rfl⟩ := hes
          clear hl9 hl7
          have q1 := (HGI.out _ HPC.out.b.bel).cellIs b (by rw [HSL.out]; omega)
          have hr0 := HST.out a (by omega)
          have hr1 := HST.out b hbn
          rw [HLN.out] at hr0 hr1
          obtain ⟨s, hs⟩ : ∃ s, s = at_ st a := ⟨_, rfl⟩
          obtain ⟨t, ht⟩ : ∃ t, t = at_ st b := ⟨_, rfl⟩
          rw [← hs] at q0 hr0 hfin
          rw [← ht] at q1 hr1 hfin
          clear hs ht hstep
          have hLm := HL.out
          have hkk2 := HK2.out
          have hmm := HM3.out
          have hlow1 : -(600 : Int) * 60 ≤ (t - s - L) * (k : Int) := by
            have h1 : (-(600 : Int)) * (k : Int) ≤ (t - s - L) * (k : Int) := Int.mul_le_mul_of_nonneg_right (by omega) (by omega)
            have h2 : -(600 : Int) * 60 ≤ (-(600 : Int)) * (k : Int) := by omega
            omega
          have hw1 : IntKind.i64.wrap ((j : Int) + 1) = (j : Int) + 1 := IntWalk.i64_in _ (by omega)
          have hw2 : IntKind.i64.wrap (t - s) = t - s := IntWalk.i64_in _ (by omega)
          have hw3 : IntKind.i64.wrap (t - s - L) = t - s - L := IntWalk.i64_in _ (by omega)
          have hw4 : IntKind.i64.wrap ((t - s - L) * (k : Int)) = (t - s - L) * (k : Int) := IntWalk.i64_in _ (by omega)
          have hd1 : decide ((a : Int) < 0) = false := decide_eq_false (by omega)
          have hd2 : decide ((b : Int) < (a : Int)) = false := decide_eq_false (by omega)
          have hd3 : decide ((u : Int) < (b : Int)) = false := decide_eq_false (by omega)
          have hd2n : decide (b < a) = false := decide_eq_false (by omega)
          have hd3n : decide (u < b) = false := decide_eq_false (by omega)
          have hd2p : ¬ b < a := by omega
          have hd3p : ¬ u < b := by omega
          have hd4 : decide ((m : Int) < (t - s - L) * (k : Int)) = false := decide_eq_false (by omega)
          have z0 := gw_cell p0
          have z1 := gw_cell p1
          have z2 := gw_cell HPC.out.b.cells.1
          have e2 : ((j : Int) + 1).toNat = j + 1 := by omega
          have hj1 : j < k + 1 := by omega
          have hj2 : j + 1 < k + 1 := by omega
          have HEA := hide ea
          have HEB := hide eb
          have HQ0 := hide q0
          have HQ1 := hide q1
          clear p0 p1 q0 q1 hLm hkk2 hmm hfin hlow1 hr0 hr1 ea eb
          go_wp2_with fail
          refine wp_region_gw (by kernel_rfl) (by kernel_rfl) ?_
          repeat (go_big_quiet_step (rfl))
          refine wpQuiet_nil ?_
          intro _ hw'
          obtain ⟨x', hw''⟩ := hw'
          subst hw''
          have HPC2 := hide (HPC.out.below x'.bel)
          have q0' := gw_cell HQ0.out x'
          have q1' := gw_cell HQ1.out x'
          clear z0 z1 z2 HQ0 HQ1
          generalize x'.world = w6 at HPC2 q0' q1' ⊢
          clear x'
          have p0 := HPC2.out.ar.cell j (by rw [HCU.out.upT.len]; omega)
          have p1 := HPC2.out.ar.cell (j + 1) (by rw [HCU.out.upT.len]; omega)
          rw [HEA.out] at p0
          rw [HEB.out] at p1
          have z0 := gw_cell p0
          have z1 := gw_cell p1
          have z2 := gw_cell HPC2.out.b.cells.2.1
          have z3 := gw_cell q0'
          have z4 := gw_cell q1'
          have ha1 : a < u + 1 := by omega
          have hb1 : b < u + 1 := by omega
          clear p0 p1 q0' q1'
          go_wp2_with fail
          refine wp_region_gw (by kernel_rfl) (by kernel_rfl) ?_
          repeat (go_big_quiet_step (rfl))
          refine wpQuiet_nil ?_
          intro _ hw'
          obtain ⟨x', hw''⟩ := hw'
          subst hw''
          have HPC3 := hide (HPC2.out.below x'.bel)
          clear z0 z1 z2 z3 z4
          generalize x'.world = w7 at HPC3 ⊢
          clear x'
          go_wp2_with fail
          go_roundw
          case rel => exact ⟨j + 1, by omega, by simp, HPC3.out⟩
          case measure => simp [RowKit.intOf]; omega
        · obtain rfl : j = k := by omega
          have HB := hide (below_on HB1.out HPC.out.b.bel)
          go_wp2_with fail
          go_ret
          exact ⟨rfl, HB.out⟩
end Go.Proofs.Ytgjlfhkhgccbkaa
