/- route.Length. -/
import Derived.Test.YthoklgdlnmccmaaLen
namespace Go.Proofs.Ythoklgdlnmccmaa
open Go.RowKit Go.Lib
set_option linter.unusedVariables false

def LenPost (w : World) (r : Int × Int) (e : Ending) (w' : World) : Prop := e = .returned (.tuple #[.int .u64 r.1, .int .i64 r.2]) ∧ Below w.heap.size w w'

theorem box_keep {w W : World} {B : Nat} {x0 x1 x2 x3 : Value} (hB : B < w.heap.size) (h : Below w.heap.size w W) (d : w.cell? ⟨B, 0, none⟩ = some x0 ∧ w.cell? ⟨B, 1, none⟩ = some x1 ∧ w.cell? ⟨B, 2, none⟩ = some x2 ∧ w.cell? ⟨B, 3, none⟩ = some x3) :
    W.cell? ⟨B, 0, none⟩ = some x0 ∧ W.cell? ⟨B, 1, none⟩ = some x1 ∧ W.cell? ⟨B, 2, none⟩ = some x2 ∧ W.cell? ⟨B, 3, none⟩ = some x3 :=
  ⟨(below_cell h hB).trans d.1, (below_cell h hB).trans d.2.1, (below_cell h hB).trans d.2.2.1, (below_cell h hB).trans d.2.2.2⟩

set_option maxRecDepth 100000 in
set_option maxHeartbeats 8000000 in
theorem length_good (n : Nat) (va vb vc : Value) (st to wt : List Int) (k l : Int) (wv : Value) (way : List Int) (w : World) (hg : GIs w n va vb vc st to wt) (hgd : Good n st to wt) (hk : fstNo n st to wt k = 0)
    (hw : RowAt .i64 w wv way) (hwl : way.length * 8 ≤ 140737488351232) (h0 : 0 ≤ l) (h1 : l ≤ 18446744073709551615) (hwt : ∀ e, 0 ≤ at_ wt e ∧ at_ wt e ≤ 18446744073709551615) :
    Calls Try.prog 31 #[gAgg n va vb vc, .int .i64 k, .int .u64 l, wv] w (LenPost w (lenAns n st to wt k l way)) := by
  have hst : st.length ≤ 17592186044416 := by have := hgd.s_len; have := hgd.n_le; omega
  have hto : to.length ≤ 17592186044416 := by have := hgd.m_le; omega
  have hwt2 : wt.length ≤ 17592186044416 := by have := hgd.w_len; omega
  obtain ⟨ao, ca, rfl⟩ := hg.s.shape
  obtain ⟨bo, cb, rfl⟩ := hg.t.shape
  obtain ⟨co, cc, rfl⟩ := hg.u.shape
  obtain ⟨wo, wc, rfl⟩ := hw.shape
  obtain ⟨c0, c1, c2, c3, hb1, hs1⟩ := boxed w (.int .i64 n) (.slice ao st.length ca) (.slice bo to.length cb) (.slice co wt.length cc)
  have HF := hide (graphNo_any n _ _ _ st to wt k _ (hg.below hb1) hst hto hwt2)
  rw [hk] at HF
  have HG1 := hide (hg.below hb1); have HW1 := hide (hw.below hb1)
  have HB1 := hide hb1
  have HD := hide hgd
  have HLB := hide (lab_bound (k := k) (wt := wt) (way := way) h0 h1 hwt)
  have HWB := hide hwt
  have HP := hide (fun v W => isPlace_any n (.slice ao st.length ca) (.slice co wt.length cc) bo to.length cb v W)
  have HSO := hide (fun p W (h : GIs W n (.slice ao st.length ca) (.slice bo to.length cb) (.slice co wt.length cc) st to wt) (hp : p < to.length) => source_any n _ _ _ st to wt p W h hgd hp)
  have HEX := hide (fun a x W p q r s => extend_any k a x W p q r s)
  have HL0 := hide (And.intro hgd.w_len hwl)
  have hm := hgd.m_le
  unfold gAgg at HF HP HSO ⊢
  have HAN : Hid (∀ i, i < way.length → stepNo n st to way i ≠ 0 → (∀ j, j < i → stepNo n st to way j = 0) → lenAns n st to wt k l way = (0, stepNo n st to way i)) := fun i hi h hb => len_some hi h hb
  have HAZ : Hid ((∀ j, j < way.length → stepNo n st to way j = 0) → lenAns n st to wt k l way = (lab k l wt way way.length, 0)) := fun hb => len_none hb
  obtain ⟨L, hL⟩ : ∃ L, L = way.length := ⟨_, rfl⟩
  have HWC := hide (fun (W : World) (h : RowAt .i64 W (.slice wo way.length wc) way) (i : Nat) (hi : i < way.length) => h.cellAt i hi)
  rw [← hL] at HW1 HWC HAN HAZ hwl ⊢
  clear hb1 hg hw hgd hst hto hwt2 hwt hk hL
  go_enter Try.func31, Try.ntmps31
  go_wp2_with fail
  generalize (w.alloc (.cells #[.int .i64 n, .slice ao st.length ca, .slice bo to.length cb, .slice co wt.length cc] 32)) = w1 at c0 c1 c2 c3 hs1 HB1 HG1 HW1 HF ⊢
  refine HF.out.mono ?_
  rintro e w2 ⟨rfl, hb2⟩
  have HBX := hide (box_keep hs1 hb2 ⟨c0, c1, c2, c3⟩)
  have HG2 := hide (HG1.out.below hb2); have HW2 := hide (HW1.out.below hb2)
  have HB2 := hide (below_on HB1.out hb2)
  have hs2 : w.heap.size < w2.heap.size := by have := hb2.size; omega
  clear c0 c1 c2 c3 hb2 HF HG1 HW1 HB1 hs1
  go_wp2
  go_loopw [21, 2] (fun t u wr => ∃ i : Nat, i ≤ L ∧ t = .int .i64 i ∧ u = .int .u64 (lab k l wt way i) ∧ (∀ j, j < i → stepNo n st to way j = 0) ∧ Below w2.heap.size w2 wr) (fun t _ _ => L - (RowKit.intOf t).toNat)
  case atStart => exact ⟨0, by omega, rfl, rfl, fun j hj => by omega, Below.refl _ _⟩
  case round =>
    obtain ⟨i, hiL, rfl, rfl, hall, hB⟩ := hrel
    have HALL := hide hall
    clear hall
    by_cases hlt : i < L
    · obtain ⟨gw, ow, cw', hsw, hcw, d1⟩ := HWC.out wr (HW2.out.below hB) i hlt
      simp only [Value.slice.injEq, true_and] at hsw
      obtain ⟨rfl, rfl⟩ := hsw
      obtain ⟨x0, x1, x2, x3⟩ := box_keep hs2 hB HBX.out
      have HB := hide hB
      have HGR := hide (HG2.out.below hB)
      have hlb := HLB.out i
      have HLX : Hid (lab k l wt way (i + 1) = ext k (lab k l wt way i) (at_ wt (at_ way i).toNat)) := (rfl : lab k l wt way (i + 1) = _)
      obtain ⟨y, hy⟩ : ∃ y, y = lab k l wt way i := ⟨_, rfl⟩
      rw [← hy] at hlb HLX ⊢
      have HPI := hide (HP.out (at_ way i) wr)
      clear hy hB
      by_cases hp : 0 ≤ at_ way i ∧ at_ way i < (to.length : Int)
      · rw [decide_eq_true hp] at HPI
        obtain ⟨p, hpe⟩ : ∃ p : Nat, at_ way i = (p : Int) := ⟨(at_ way i).toNat, by omega⟩
        have hpm : p < to.length := by omega
        have HPE := hide hpe
        rw [hpe] at d1 HPI HLX
        rw [Int.toNat_natCast] at HLX
        have HPP := hide hp
        clear hp hpe
        have HUC := hide (fun W (h : GIs W n (.slice ao st.length ca) (.slice bo to.length cb) (.slice co wt.length cc) st to wt) => h.u.cellAt p (by have := HL0.out.1; omega))
        have hwb := HWB.out p
        have hpw : p < wt.length := by have := HL0.out.1; omega
        obtain ⟨z, hz⟩ : ∃ z, z = at_ wt p := ⟨_, rfl⟩
        rw [← hz] at hwb HLX HUC
        have HEXX := hide (fun W => HEX.out y z W hlb.1 hlb.2 hwb.1 hwb.2)
        obtain ⟨E, hE⟩ : ∃ E, E = ext k y z := ⟨_, rfl⟩
        rw [← hE] at HLX HEXX
        clear hz hE
        rcases Nat.eq_zero_or_pos i with hi0 | hi0
        · have HS0 : Hid (stepNo n st to way i = 0) := step_in HPP.out (fun h => absurd h.1 (by omega))
          have hg0 : decide ((0 : Int) < (i : Int)) = false := decide_eq_false (by omega)
          have hg1 : ¬ (0 : Int) < (i : Int) := by omega
          have hg2 : ¬ 0 < i := by omega
          have HI0 := hide hi0
          clear hi0
          go_wp2_with fail
          refine HPI.out.mono ?_
          rintro e w3 ⟨rfl, hb3⟩
          clear x0 x1 x2 x3
          obtain ⟨x0, x1, x2, x3⟩ := box_keep (Nat.lt_of_lt_of_le hs2 HB.out.size) hb3 (box_keep hs2 HB.out HBX.out)
          obtain ⟨gu, ou, cu', hsu, hcu, d3⟩ := HUC.out w3 (HGR.out.below hb3)
          simp only [Value.slice.injEq, true_and] at hsu
          obtain ⟨rfl, rfl⟩ := hsu
          have HB3 := hide (below_on HB.out hb3)
          clear hb3 d1
          go_wp2_with fail
          go_quiet (fail)
          go_wp2_with fail
          refine (HEXX.out _).mono ?_
          rintro e w4 ⟨rfl, rfl⟩
          go_wp2
          refine ⟨⟨i + 1, by omega, by simp, by rw [HLX.out], fun j hj => ?_, below_drewN HB3.out _⟩, by simp [RowKit.intOf]; omega⟩
          rcases Nat.lt_or_ge j i with h | h
          · exact HALL.out j h
          · obtain rfl : j = i := by omega
            exact HS0.out
        · obtain ⟨hq0, hq1⟩ := step_ok (HALL.out (i - 1) (by omega))
          obtain ⟨q, hqe⟩ : ∃ q : Nat, at_ way (i - 1) = (q : Int) := ⟨(at_ way (i - 1)).toNat, by omega⟩
          have hqm : q < to.length := by omega
          have HTC := hide (fun W (h : GIs W n (.slice ao st.length ca) (.slice bo to.length cb) (.slice co wt.length cc) st to wt) => h.t.cellAt q hqm)
          have HQC := hide (fun W (h : RowAt .i64 W (.slice (some ⟨gw, ow, none⟩) L wc) way) => HWC.out W h (i - 1) (by omega))
          rw [hqe] at HQC
          have HSS := hide (fun h => step_reach (n := n) (st := st) (to := to) (way := way) (i := i) HPP.out h)
          have HSI := hide (fun h => step_in (n := n) (st := st) (to := to) (way := way) (i := i) HPP.out h)
          rw [HPE.out, hqe, Int.toNat_natCast, Int.toNat_natCast] at HSS HSI
          obtain ⟨v, hv⟩ : ∃ v, v = at_ to q := ⟨_, rfl⟩
          rw [← hv] at HTC HSS HSI
          have HSX := hide (fun W h => HSO.out p W h hpm)
          obtain ⟨sv, hsv⟩ : ∃ sv : Int, sv = (src st n p : Int) := ⟨_, rfl⟩
          rw [← hsv] at HSX HSS HSI
          have hg0 : decide ((0 : Int) < (i : Int)) = true := decide_eq_true (by omega)
          have him0 : 0 ≤ (i : Int) - 1 := by omega
          have him1 : (i : Int) - 1 < (L : Int) := by omega
          have HQE := hide hqe
          clear hv hsv hqe hq0 hq1
          go_wp2_with fail
          refine HPI.out.mono ?_
          rintro e w3 ⟨rfl, hb3⟩
          clear x0 x1 x2 x3 d1
          have HB3 := hide (below_on HB.out hb3)
          have HX3 := hide (box_keep (Nat.lt_of_lt_of_le hs2 HB.out.size) hb3 (box_keep hs2 HB.out HBX.out))
          have hs3 : w.heap.size < w3.heap.size := by have := HB.out.size; have := hb3.size; omega
          have HG3 := hide (HGR.out.below hb3)
          have HW3 := hide (HW2.out.below HB3.out)
          obtain ⟨gt, ot, ct', hst', hct, d2⟩ := HTC.out w3 HG3.out
          simp only [Value.slice.injEq, true_and] at hst'
          obtain ⟨rfl, rfl⟩ := hst'
          obtain ⟨gw', ow', cw', hsw, hcw2, d4⟩ := HQC.out w3 HW3.out
          simp only [Value.slice.injEq, Option.some.injEq, Addr.mk.injEq, true_and, and_true] at hsw
          obtain ⟨⟨rfl, rfl⟩, rfl⟩ := hsw
          have z0 : ∀ x : GW w3, x.world.cell? ⟨w.heap.size, 0, none⟩ = some (.int .i64 n) := fun x => (box_keep hs3 x.bel HX3.out).1
          have z1 : ∀ x : GW w3, x.world.cell? ⟨w.heap.size, 1, none⟩ = some (.slice ao st.length ca) := fun x => (box_keep hs3 x.bel HX3.out).2.1
          have z2 : ∀ x : GW w3, x.world.cell? ⟨w.heap.size, 2, none⟩ = some (.slice (some ⟨gt, ot, none⟩) to.length cb) := fun x => (box_keep hs3 x.bel HX3.out).2.2.1
          have z3 : ∀ x : GW w3, x.world.cell? ⟨w.heap.size, 3, none⟩ = some (.slice co wt.length cc) := fun x => (box_keep hs3 x.bel HX3.out).2.2.2
          have e2 : ∀ x : GW w3, x.world.cell? ⟨gt, ot + q, none⟩ = some (.int .i64 v) := fun x => (below_cell x.bel (block_of_cell d2)).trans d2
          have e4 : ∀ x : GW w3, x.world.cell? ⟨gw, ow + (i - 1), none⟩ = some (.int .i64 (q : Int)) := fun x => (below_cell x.bel (block_of_cell d4)).trans d4
          have HSG := hide (fun x : GW w3 => gw_of (HSX.out x.world (HG3.out.below x.bel)))
          clear hb3 d2 d4
          by_cases hne : sv = v
          · have hnb : (sv != v) = false := by simp [hne]
            have HS0 := hide (HSI.out (fun h => h.2 hne))
            clear hne
            go_wp2_with fail
            refine wp_region_gw (by kernel_rfl) (by kernel_rfl) ?_
            repeat (go_big_quiet_step (first
              | (go_at_call 79; exact HSG.out _)
              | rfl))
            refine wpQuiet_nil ?_
            intro _ hw'
            obtain ⟨x, hw''⟩ := hw'
            subst hw''
            obtain ⟨gu, ou, cu', hsu, hcu, d3⟩ := HUC.out x.world (HG3.out.below x.bel)
            simp only [Value.slice.injEq, true_and] at hsu
            obtain ⟨rfl, rfl⟩ := hsu
            have x3 := z3 x
            have HB4 := hide (below_on HB3.out x.bel)
            clear z0 z1 z2 z3 e2 e4 HSG
            go_wp2_with fail
            refine (HEXX.out _).mono ?_
            rintro e w4 ⟨rfl, rfl⟩
            go_wp2
            refine ⟨⟨i + 1, by omega, by simp, by rw [HLX.out], fun j hj => ?_, HB4.out⟩, by simp [RowKit.intOf]; omega⟩
            rcases Nat.lt_or_ge j i with h | h
            · exact HALL.out j h
            · obtain rfl : j = i := by omega
              exact HS0.out
          · have hnb : (sv != v) = true := by simp [hne]
            have HS1 := HSS.out ⟨hi0, hne⟩
            have HR := hide (HAN.out i hlt (by rw [HS1]; omega) HALL.out)
            rw [HS1] at HR
            clear hne HS1
            go_wp2_with fail
            refine wp_region_gw (by kernel_rfl) (by kernel_rfl) ?_
            repeat (go_big_quiet_step (first
              | (go_at_call 79; exact HSG.out _)
              | rfl))
            refine wpQuiet_nil ?_
            intro _ hw'
            obtain ⟨x, hw''⟩ := hw'
            subst hw''
            have HB4 := hide (below_on HB2.out (below_on HB3.out x.bel))
            clear z0 z1 z2 z3 e2 e4 HSG
            go_wp2
            go_ret2
            exact ⟨by rw [HR.out]; rfl, HB4.out⟩
      · rw [decide_eq_false hp] at HPI
        have HR := hide (HAN.out i hlt (by rw [step_six hp]; omega) HALL.out)
        rw [step_six hp] at HR
        clear hp
        obtain ⟨q, hq⟩ : ∃ q, q = at_ way i := ⟨_, rfl⟩
        rw [← hq] at d1 HPI
        clear hq
        go_wp2_with fail
        refine HPI.out.mono ?_
        rintro e w3 ⟨rfl, hb3⟩
        have HB3 := hide (below_on HB2.out (below_on HB.out hb3))
        clear x0 x1 x2 x3 d1 hb3
        go_wp2
        go_ret2
        exact ⟨by rw [HR.out]; rfl, HB3.out⟩
    · obtain rfl : i = L := by omega
      go_wp2
      go_ret2
      exact ⟨by rw [HAZ.out HALL.out]; rfl, below_on HB2.out hB⟩
end Go.Proofs.Ythoklgdlnmccmaa
