import Derived.Test.YthoklgdlnmccmaaLenWalk
/- The reference's Length. -/
namespace Go.Proofs.Ythoklgdlnmccmaa
open Go.RowKit Go.Lib
set_option linter.unusedVariables false

set_option maxRecDepth 100000 in
set_option maxHeartbeats 8000000 in
theorem refLength_good (n : Nat) (va vb vc : Value) (st to wt : List Int) (k l : Int) (wv : Value) (way : List Int) (w : World) (hg : GIs w n va vb vc st to wt) (hgd : Good n st to wt) (hk : fstNo n st to wt k = 0)
    (hw : RowAt .i64 w wv way) (hwl : way.length * 8 ≤ 140737488351232) (h0 : 0 ≤ l) (h1 : l ≤ 18446744073709551615) (hwt : ∀ e, 0 ≤ at_ wt e ∧ at_ wt e ≤ 18446744073709551615) :
    Calls Try.prog 30 #[gAgg n va vb vc, .int .i64 k, .int .u64 l, wv] w (LenPost w (lenAns n st to wt k l way)) := by
  have hst : st.length ≤ 17592186044416 := by have := hgd.s_len; have := hgd.n_le; omega
  have hto : to.length ≤ 17592186044416 := by have := hgd.m_le; omega
  have hwt2 : wt.length ≤ 17592186044416 := by have := hgd.w_len; omega
  obtain ⟨ao, ca, rfl⟩ := hg.s.shape
  obtain ⟨bo, cb, rfl⟩ := hg.t.shape
  obtain ⟨co, cc, rfl⟩ := hg.u.shape
  obtain ⟨wo, wc, rfl⟩ := hw.shape
  obtain ⟨c0, c1, c2, c3, hb1, hs1⟩ := boxed w (.int .i64 n) (.slice ao st.length ca) (.slice bo to.length cb) (.slice co wt.length cc)
  have HF := hide (first_nil n _ _ _ st to wt k _ (hg.below hb1) hst hto hwt2)
  rw [hk] at HF
  have HG1 := hide (hg.below hb1); have HW1 := hide (hw.below hb1)
  have HB1 := hide hb1
  have HFR := hide (fun W h => from_any n (.slice ao st.length ca) (.slice bo to.length cb) (.slice co wt.length cc) st to wt W h hgd)
  have HLB := hide (lab_bound (k := k) (wt := wt) (way := way) h0 h1 hwt)
  have HWB := hide hwt
  have HEX := hide (fun a x W p q r s => refExtend_any k a x W p q r s)
  have HL0 := hide (And.intro hgd.w_len hwl)
  have hm := hgd.m_le
  unfold gAgg at HF HFR ⊢
  have HAN : Hid (∀ i, i < way.length → stepNo n st to way i ≠ 0 → (∀ j, j < i → stepNo n st to way j = 0) → lenAns n st to wt k l way = (0, stepNo n st to way i)) := fun i hi h hb => len_some hi h hb
  have HAZ : Hid ((∀ j, j < way.length → stepNo n st to way j = 0) → lenAns n st to wt k l way = (lab k l wt way way.length, 0)) := fun hb => len_none hb
  obtain ⟨L, hL⟩ : ∃ L, L = way.length := ⟨_, rfl⟩
  have HWC := hide (fun (W : World) (h : RowAt .i64 W (.slice wo way.length wc) way) (i : Nat) (hi : i < way.length) => h.cellAt i hi)
  rw [← hL] at HW1 HWC HAN HAZ hwl ⊢
  clear hb1 hg hw hgd hst hto hwt2 hwt hk hL
  go_enter Try.func30, Try.ntmps30
  go_wp2_with fail
  generalize (w.alloc (.cells #[.int .i64 n, .slice ao st.length ca, .slice bo to.length cb, .slice co wt.length cc] 32)) = w1 at c0 c1 c2 c3 hs1 HB1 HG1 HW1 HF ⊢
  refine HF.out.mono ?_
  rintro e w2 ⟨rfl, hb2⟩
  obtain ⟨x0, x1, x2, x3⟩ := box_keep hs1 hb2 ⟨c0, c1, c2, c3⟩
  have HG2 := hide (HG1.out.below hb2); have HW2 := hide (HW1.out.below hb2)
  have HB2 := hide (below_on HB1.out hb2)
  have hs2 : w.heap.size < w2.heap.size := by have := hb2.size; omega
  have HBX := hide (And.intro x0 (And.intro x1 (And.intro x2 x3)))
  clear c0 c1 c2 c3 hb2 HF HG1 HW1 HB1 hs1
  go_wp2_with fail
  refine (HFR.out w2 HG2.out).mono ?_
  rintro e w3 ⟨gf, rfl, hfr, hb3⟩
  clear x0 x1 x2 x3
  obtain ⟨x0, x1, x2, x3⟩ := box_keep hs2 hb3 HBX.out
  have HG3 := hide (HG2.out.below hb3); have HW3 := hide (HW2.out.below hb3)
  have HB3 := hide (below_on HB2.out hb3)
  have HFC := hide (fun p (hp : p < to.length) => hfr.cellAt p (by rw [tab_length]; exact hp))
  clear hb3 HG2 HW2 HB2 HFR HBX hfr
  go_wp2
  go_loopw [12, 2] (fun t u wr => ∃ i : Nat, i ≤ L ∧ t = .int .i64 i ∧ u = .int .u64 (lab k l wt way i) ∧ (∀ j, j < i → stepNo n st to way j = 0) ∧ ∃ m, wr = w3.drewN m) (fun t _ _ => L - (RowKit.intOf t).toNat)
  case atStart => exact ⟨0, by omega, rfl, rfl, fun j hj => by omega, 0, rfl⟩
  case round =>
    obtain ⟨i, hiL, rfl, rfl, hall, m, rfl⟩ := hrel
    have HALL := hide hall
    clear hall
    by_cases hlt : i < L
    · obtain ⟨gw, ow, cw', hsw, hcw, d1⟩ := HWC.out w3 HW3.out i hlt
      simp only [Value.slice.injEq, true_and] at hsw
      obtain ⟨rfl, rfl⟩ := hsw
      have hlb := HLB.out i
      have HLX : Hid (lab k l wt way (i + 1) = ext k (lab k l wt way i) (at_ wt (at_ way i).toNat)) := (rfl : lab k l wt way (i + 1) = _)
      obtain ⟨y, hy⟩ : ∃ y, y = lab k l wt way i := ⟨_, rfl⟩
      rw [← hy] at hlb HLX ⊢
      have hli : (i : Int) < (L : Int) := by omega
      clear hy
      by_cases hp : 0 ≤ at_ way i ∧ at_ way i < (to.length : Int)
      · obtain ⟨p, hpe⟩ : ∃ p : Nat, at_ way i = (p : Int) := ⟨(at_ way i).toNat, by omega⟩
        have hpm : p < to.length := by omega
        have HPE := hide hpe
        rw [hpe] at d1 HLX
        rw [Int.toNat_natCast] at HLX
        have HPP := hide hp
        have hd : decide ((p : Int) < 0) = false := decide_eq_false (by omega)
        have hd2 : decide ((to.length : Int) ≤ (p : Int)) = false := decide_eq_false (by omega)
        have hpi : (p : Int) < (to.length : Int) := by omega
        have hpwi : (p : Int) < (wt.length : Int) := by have := HL0.out.1; omega
        obtain ⟨gu, ou, cu', hsu, hcu, d3⟩ := HG3.out.u.cellAt p (by have := HL0.out.1; omega)
        simp only [Value.slice.injEq, true_and] at hsu
        obtain ⟨rfl, rfl⟩ := hsu
        have hwb := HWB.out p
        obtain ⟨z, hz⟩ : ∃ z, z = at_ wt p := ⟨_, rfl⟩
        rw [← hz] at hwb HLX d3
        have HEXX := hide (fun W => HEX.out y z W hlb.1 hlb.2 hwb.1 hwb.2)
        obtain ⟨E, hE⟩ : ∃ E, E = ext k y z := ⟨_, rfl⟩
        rw [← hE] at HLX HEXX
        clear hz hE hp hpe
        rcases Nat.eq_zero_or_pos i with hi0 | hi0
        · have HS0 : Hid (stepNo n st to way i = 0) := step_in HPP.out (fun h => absurd h.1 (by omega))
          have hg0 : decide ((0 : Int) < (i : Int)) = false := decide_eq_false (by omega)
          have hg1 : ¬ (0 : Int) < (i : Int) := by omega
          have hg2 : ¬ 0 < i := by omega
          have HI0 := hide hi0
          clear hi0
          go_wp2_with fail
          go_quiet (fail)
          go_wp2_with fail
          go_quiet (fail)
          go_wp2_with fail
          go_quiet (first | (go_at_call 73; exact (HEXX.out _).mono fun _ _ h => ⟨h.1, _, h.2⟩))
          go_wp2
          refine ⟨⟨i + 1, by omega, by simp, by rw [HLX.out], fun j hj => ?_, _, rfl⟩, by simp [RowKit.intOf]; omega⟩
          rcases Nat.lt_or_ge j i with h | h
          · exact HALL.out j h
          · obtain rfl : j = i := by omega
            exact HS0.out
        · obtain ⟨hq0, hq1⟩ := step_ok (HALL.out (i - 1) (by omega))
          obtain ⟨q, hqe⟩ : ∃ q : Nat, at_ way (i - 1) = (q : Int) := ⟨(at_ way (i - 1)).toNat, by omega⟩
          have hqm : q < to.length := by omega
          obtain ⟨gt, ot, ct', hst', hct, d2⟩ := HG3.out.t.cellAt q hqm
          simp only [Value.slice.injEq, true_and] at hst'
          obtain ⟨rfl, rfl⟩ := hst'
          obtain ⟨gw', ow', cw', hsw, hcw2, d4⟩ := HWC.out w3 HW3.out (i - 1) (by omega)
          simp only [Value.slice.injEq, Option.some.injEq, Addr.mk.injEq, true_and, and_true] at hsw
          obtain ⟨⟨rfl, rfl⟩, rfl⟩ := hsw
          rw [hqe] at d4
          obtain ⟨gf', of', cf', hsf, hcf, d5⟩ := HFC.out p hpm
          rw [tab_length] at hsf
          simp only [Value.slice.injEq, Option.some.injEq, Addr.mk.injEq, true_and, and_true] at hsf
          obtain ⟨⟨rfl, rfl⟩, rfl⟩ := hsf
          rw [tab_at _ _ _ hpm, Nat.zero_add] at d5
          have HSS := hide (fun h => step_reach (n := n) (st := st) (to := to) (way := way) (i := i) HPP.out h)
          have HSI := hide (fun h => step_in (n := n) (st := st) (to := to) (way := way) (i := i) HPP.out h)
          rw [HPE.out, hqe, Int.toNat_natCast, Int.toNat_natCast] at HSS HSI
          obtain ⟨v, hv⟩ : ∃ v, v = at_ to q := ⟨_, rfl⟩
          rw [← hv] at d2 HSS HSI
          obtain ⟨sv, hsv⟩ : ∃ sv : Int, sv = (src st n p : Int) := ⟨_, rfl⟩
          rw [← hsv] at d5 HSS HSI
          have hg0 : decide ((0 : Int) < (i : Int)) = true := decide_eq_true (by omega)
          have hqi : (q : Int) < (to.length : Int) := by omega
          have him0 : 0 ≤ (i : Int) - 1 := by omega
          have him1 : (i : Int) - 1 < (L : Int) := by omega
          have hwrap : IntKind.i64.wrap ((i : Int) - 1) = (i : Int) - 1 := IntWalk.i64_in _ ⟨by omega, by omega⟩
          have hnat : i - 1 = (IntKind.i64.wrap ((i : Int) - 1)).toNat := by rw [hwrap]; omega
          rw [hnat] at d4
          rw [← hwrap] at him0 him1
          have HQE := hide hqe
          clear hv hsv hqe hq0 hq1 hwrap hnat hcf
          by_cases hne : sv = v
          · have hnb : (sv != v) = false := by simp [hne]
            have HS0 := hide (HSI.out (fun h => h.2 hne))
            clear hne
            go_wp2_with fail
            go_quiet (fail)
            go_wp2_with fail
            go_quiet (fail)
            go_wp2_with fail
            go_quiet (first | (go_at_call 73; exact (HEXX.out _).mono fun _ _ h => ⟨h.1, _, h.2⟩))
            go_wp2
            refine ⟨⟨i + 1, by omega, by simp, by rw [HLX.out], fun j hj => ?_, _, rfl⟩, by simp [RowKit.intOf]; omega⟩
            rcases Nat.lt_or_ge j i with h | h
            · exact HALL.out j h
            · obtain rfl : j = i := by omega
              exact HS0.out
          · have hnb : (sv != v) = true := by simp [hne]
            have HS1 := HSS.out ⟨hi0, hne⟩
            have HR := hide (HAN.out i hlt (by rw [HS1]; omega) HALL.out)
            rw [HS1] at HR
            clear hne HS1
            go_wp2_with fail
            go_quiet (fail)
            go_wp2_with fail
            go_quiet (fail)
            go_wp2
            go_ret2
            exact ⟨by rw [HR.out]; rfl, by first | exact below_drewN HB3.out _ | exact below_drewN (below_drewN HB3.out _) _ | exact below_drewN (below_drewN (below_drewN HB3.out _) _) _⟩
      · have HR := hide (HAN.out i hlt (by rw [step_six hp]; omega) HALL.out)
        rw [step_six hp] at HR
        obtain ⟨q, hq⟩ : ∃ q, q = at_ way i := ⟨_, rfl⟩
        rw [← hq] at d1 hp
        clear hq
        by_cases hq0 : q < 0
        · have hd : decide (q < 0) = true := decide_eq_true hq0
          clear hp
          go_wp2_with fail
          go_quiet (fail)
          go_wp2
          go_ret2
          exact ⟨by rw [HR.out]; rfl, by first | exact below_drewN HB3.out _ | exact below_drewN (below_drewN HB3.out _) _ | exact below_drewN (below_drewN (below_drewN HB3.out _) _) _⟩
        · have hd : decide (q < 0) = false := decide_eq_false hq0
          have hq1 : (to.length : Int) ≤ q := by omega
          have hd1 : decide ((to.length : Int) ≤ q) = true := decide_eq_true hq1
          clear hp
          go_wp2_with fail
          go_quiet (fail)
          go_wp2
          go_ret2
          exact ⟨by rw [HR.out]; rfl, by first | exact below_drewN HB3.out _ | exact below_drewN (below_drewN HB3.out _) _ | exact below_drewN (below_drewN (below_drewN HB3.out _) _) _⟩
    · obtain rfl : i = L := by omega
      go_wp2
      go_ret2
      exact ⟨by rw [HAZ.out HALL.out]; rfl, below_drewN HB3.out _⟩
end Go.Proofs.Ythoklgdlnmccmaa

/- Length of what the graph or the kind bars, both; whatever is given. -/
namespace Go.Proofs.Ythoklgdlnmccmaa
open Go.RowKit Go.Lib
set_option linter.unusedVariables false

set_option maxRecDepth 100000 in
set_option maxHeartbeats 2000000 in
theorem length_bad (N : Int) (va vb vc : Value) (st to wt : List Int) (k l : Int) (wo : Option Addr) (wn wc : Nat) (w : World) (hg : GIs w N va vb vc st to wt) (hst : st.length ≤ 17592186044416) (hto : to.length ≤ 17592186044416) (hwt : wt.length ≤ 17592186044416)
    (hbad : fstNo N st to wt k ≠ 0) : Calls Try.prog 31 #[gAgg N va vb vc, .int .i64 k, .int .u64 l, .slice wo wn wc] w (LenPost w (0, fstNo N st to wt k)) := by
  obtain ⟨ao, ca, rfl⟩ := hg.s.shape
  obtain ⟨bo, cb, rfl⟩ := hg.t.shape
  obtain ⟨co, cc, rfl⟩ := hg.u.shape
  obtain ⟨c0, c1, c2, c3, hb1, hs1⟩ := boxed w (.int .i64 N) (.slice ao st.length ca) (.slice bo to.length cb) (.slice co wt.length cc)
  have HF := hide (graphNo_any N _ _ _ st to wt k _ (hg.below hb1) hst hto hwt)
  unfold gAgg at HF ⊢
  obtain ⟨x, hX⟩ : ∃ x, x = fstNo N st to wt k := ⟨_, rfl⟩
  rw [← hX] at HF hbad ⊢
  have hx : (x != 0) = true := by simp [hbad]
  have HB1 := hide hb1
  clear hb1 hX hbad hg
  go_enter Try.func31, Try.ntmps31
  go_wp2_with fail
  generalize (w.alloc (.cells #[.int .i64 N, .slice ao st.length ca, .slice bo to.length cb, .slice co wt.length cc] 32)) = w1 at c0 c1 c2 c3 hs1 HB1 HF ⊢
  refine HF.out.mono ?_
  rintro e w2 ⟨rfl, hb2⟩
  have HB2 := hide (below_on HB1.out hb2)
  clear c0 c1 c2 c3 hb2 HF
  go_wp2
  go_ret2
  exact ⟨rfl, HB2.out⟩
set_option maxRecDepth 100000 in
set_option maxHeartbeats 2000000 in
theorem refLength_bad (N : Int) (va vb vc : Value) (st to wt : List Int) (k l : Int) (wo : Option Addr) (wn wc : Nat) (w : World) (hg : GIs w N va vb vc st to wt) (hst : st.length ≤ 17592186044416) (hto : to.length ≤ 17592186044416) (hwt : wt.length ≤ 17592186044416)
    (hbad : fstNo N st to wt k ≠ 0) : Calls Try.prog 30 #[gAgg N va vb vc, .int .i64 k, .int .u64 l, .slice wo wn wc] w (LenPost w (0, fstNo N st to wt k)) := by
  obtain ⟨ao, ca, rfl⟩ := hg.s.shape
  obtain ⟨bo, cb, rfl⟩ := hg.t.shape
  obtain ⟨co, cc, rfl⟩ := hg.u.shape
  obtain ⟨c0, c1, c2, c3, hb1, hs1⟩ := boxed w (.int .i64 N) (.slice ao st.length ca) (.slice bo to.length cb) (.slice co wt.length cc)
  have HF := hide (first_nil N _ _ _ st to wt k _ (hg.below hb1) hst hto hwt)
  unfold gAgg at HF ⊢
  obtain ⟨x, hX⟩ : ∃ x, x = fstNo N st to wt k := ⟨_, rfl⟩
  rw [← hX] at HF hbad ⊢
  have hx : (x != 0) = true := by simp [hbad]
  have HB1 := hide hb1
  clear hb1 hX hbad hg
  go_enter Try.func30, Try.ntmps30
  go_wp2_with fail
  generalize (w.alloc (.cells #[.int .i64 N, .slice ao st.length ca, .slice bo to.length cb, .slice co wt.length cc] 32)) = w1 at c0 c1 c2 c3 hs1 HB1 HF ⊢
  refine HF.out.mono ?_
  rintro e w2 ⟨rfl, hb2⟩
  have HB2 := hide (below_on HB1.out hb2)
  clear c0 c1 c2 c3 hb2 HF
  go_wp2
  go_ret2
  exact ⟨rfl, HB2.out⟩

/-- What Length answers, of whatever it is given. -/
def lenAll (N : Int) (st to wt : List Int) (k l : Int) (way : List Int) : Int × Int := if fstNo N st to wt k = 0 then lenAns N.toNat st to wt k l way else (0, fstNo N st to wt k)
theorem length_any (N : Int) (va vb vc : Value) (st to wt : List Int) (k l : Int) (wv : Value) (way : List Int) (w : World) (hg : GIs w N va vb vc st to wt) (hst : st.length ≤ 17592186044416) (hto : to.length ≤ 17592186044416) (hwt2 : wt.length ≤ 17592186044416)
    (hw : RowAt .i64 w wv way) (hwl : way.length * 8 ≤ 140737488351232) (h0 : 0 ≤ l) (h1 : l ≤ 18446744073709551615) (hwt : ∀ e, 0 ≤ at_ wt e ∧ at_ wt e ≤ 18446744073709551615) :
    Calls Try.prog 31 #[gAgg N va vb vc, .int .i64 k, .int .u64 l, wv] w (LenPost w (lenAll N st to wt k l way)) := by
  unfold lenAll
  by_cases h : fstNo N st to wt k = 0
  · rw [if_pos h]
    obtain ⟨_, n, rfl, hgd⟩ := fst_good h
    exact length_good n va vb vc st to wt k l wv way w hg hgd h hw hwl h0 h1 hwt
  · rw [if_neg h]
    obtain ⟨wo, wc, rfl⟩ := hw.shape
    exact length_bad N va vb vc st to wt k l wo way.length wc w hg hst hto hwt2 h
theorem refLength_any (N : Int) (va vb vc : Value) (st to wt : List Int) (k l : Int) (wv : Value) (way : List Int) (w : World) (hg : GIs w N va vb vc st to wt) (hst : st.length ≤ 17592186044416) (hto : to.length ≤ 17592186044416) (hwt2 : wt.length ≤ 17592186044416)
    (hw : RowAt .i64 w wv way) (hwl : way.length * 8 ≤ 140737488351232) (h0 : 0 ≤ l) (h1 : l ≤ 18446744073709551615) (hwt : ∀ e, 0 ≤ at_ wt e ∧ at_ wt e ≤ 18446744073709551615) :
    Calls Try.prog 30 #[gAgg N va vb vc, .int .i64 k, .int .u64 l, wv] w (LenPost w (lenAll N st to wt k l way)) := by
  unfold lenAll
  by_cases h : fstNo N st to wt k = 0
  · rw [if_pos h]
    obtain ⟨_, n, rfl, hgd⟩ := fst_good h
    exact refLength_good n va vb vc st to wt k l wv way w hg hgd h hw hwl h0 h1 hwt
  · rw [if_neg h]
    obtain ⟨wo, wc, rfl⟩ := hw.shape
    exact refLength_bad N va vb vc st to wt k l wo way.length wc w hg hst hto hwt2 h
end Go.Proofs.Ythoklgdlnmccmaa
