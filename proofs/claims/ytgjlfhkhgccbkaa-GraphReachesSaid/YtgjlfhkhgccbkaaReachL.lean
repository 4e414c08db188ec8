/- GraphReaches: the walk. -/
import Derived.Test.YtgjlfhkhgccbkaaReachA
import Derived.BigRegion
import Derived.BigQuiet
namespace Go.Proofs.Ytgjlfhkhgccbkaa
open Go.RowKit Go.Lib
set_option linter.unusedVariables false
set_option maxRecDepth 100000 in
set_option maxHeartbeats 8000000 in
theorem reaches_law (N : Int) (va vb vc : Value) (st tl wt : List Int) (fv : Value) (fr : List Int) (w : World) (hg : GIs w N va vb vc st tl wt) (hst : st.length * 8 ≤ 140737488351232) (hto : tl.length * 8 ≤ 140737488351232) (hwt : wt.length * 8 ≤ 140737488351232) (hf : RowAt .i64 w fv fr) (hfl : fr.length * 8 ≤ 140737488351232) :
    Calls Try.prog 4 #[gAgg N va vb vc, fv] w fun e w' => e = .returned (.bool true) ∧ Below w.heap.size w w' := by
  obtain ⟨B, x, hp, hr, hBl⟩ := both_any N st tl wt fr (by omega) (by omega) (by omega) hfl
  obtain ⟨i0, hi, hz0, hz1, hz2⟩ := info_parts Try.info3
  obtain ⟨ao, ca, rfl⟩ := hg.s.shape
  obtain ⟨bo, cb, rfl⟩ := hg.t.shape
  obtain ⟨co, cc, rfl⟩ := hg.u.shape
  obtain ⟨fo, fc, rfl⟩ := hf.shape
  have HG := hide hg
  have HP := hide hp; have HRR := hide hr
  obtain ⟨c0, c1, c2, c3, hb1, hs1⟩ := boxed w (.int .i64 N) (.slice ao st.length ca) (.slice bo tl.length cb) (.slice co wt.length cc)
  have HRM := hide (room_any N _ _ _ st tl wt _ (HG.out.below hb1) hst hto hwt)
  have HG1 := hide (HG.out.below hb1)
  have HF1 := hide (hf.below hb1)
  unfold gAgg at HRM HP HRR ⊢
  have HB1 := hide hb1
  clear hb1 hg hf hp hr
  go_enter Try.func4, Try.ntmps4
  go_wp2_with fail
  generalize (w.alloc (.cells #[.int .i64 N, .slice ao st.length ca, .slice bo tl.length cb, .slice co wt.length cc] 25)) = w1 at c0 c1 c2 c3 hs1 HB1 HRM HG1 HF1 ⊢
  refine HRM.out.mono ?_
  rintro e w2 ⟨R, rfl, hR, hroom, hb2⟩
  have HG2 := hide (HG1.out.below hb2)
  have HF2 := hide (HF1.out.below hb2)
  have HB2 := hide (below_on HB1.out hb2)
  have HX2 : Hid (w2.cell? ⟨w.heap.size, 0, none⟩ = some (.int .i64 N) ∧ w2.cell? ⟨w.heap.size, 1, none⟩ = some (.slice ao st.length ca) ∧ w2.cell? ⟨w.heap.size, 2, none⟩ = some (.slice bo tl.length cb) ∧ w2.cell? ⟨w.heap.size, 3, none⟩ = some (.slice co wt.length cc)) :=
    ⟨(below_cell (o := 0) hb2 hs1).trans c0, (below_cell (o := 1) hb2 hs1).trans c1, (below_cell (o := 2) hb2 hs1).trans c2, (below_cell (o := 3) hb2 hs1).trans c3⟩
  have hs2 : w.heap.size < w2.heap.size := by have := hb2.size; omega
  have HRO := hide hroom
  clear hroom hb2 HB1 HG1 HF1 HRM c0 c1 c2 c3 hs1
  go_wp2_with (first
    | (at_builtin; refine wpList_fresh rfl (.tmp 15) (.tmp 16) 22 rfl .i64 3 i0 (.int .i64 0) 8 Try.underlying22 hi hz0 hz1 hz2 rfl w2.heap.size _ (own_new _ 3 w2.heap.size (by simp)) (by simp) _ fr rfl rfl (HF2.out.below (below_alloc (Below.refl _ _) _)) (by omega) (by unfold maxLen; omega) ?_; intro v1 w1a hownA1 hbelA1)
    | (at_builtin; refine wpList_append_own _ rfl (.tmp 17) (.tmp 18) 22 rfl _ 3 i0 (.int .i64 0) 1 8 Try.underlying22 hi hz0 hz1 hz2 rfl (by decide) _ _ _ rfl (hownA1.alloc _) ⟨w1a.heap.size, 0, none⟩ 2 2 [.int .i64 (-77), .int .i64 (-78)] rfl rfl (two_at w1a _ _ _) (by simp [Value.oneCell']) (by unfold maxLen; omega) (by omega) (by have hq := hbelA1.size; simp at hq; simp; omega) ?_; intro u1 w1b hownB1 hgrowB1 hqB1; obtain ⟨g1, e1, rfl, ka1, kb1, kc1, hrow1, hbel1⟩ := marks_made hownA1 (below_on (below_alloc (Below.refl _ _) _) hbelA1) hownB1 hgrowB1; have HROW1 := hide hrow1; have HBEL1 := hide hbel1; clear hownA1 hbelA1 hownB1 hgrowB1 hqB1 hrow1 hbel1)
    | fail)
  have HRO3 := hide (HRO.out.below HBEL1.out)
  have HB3 := hide (below_on HB2.out HBEL1.out)
  have HG3 := hide (HG2.out.below HBEL1.out)
  have HF3 := hide (HF2.out.below HBEL1.out)
  have HX3 : Hid (w1b.cell? ⟨w.heap.size, 0, none⟩ = some (.int .i64 N) ∧ w1b.cell? ⟨w.heap.size, 1, none⟩ = some (.slice ao st.length ca) ∧ w1b.cell? ⟨w.heap.size, 2, none⟩ = some (.slice bo tl.length cb) ∧ w1b.cell? ⟨w.heap.size, 3, none⟩ = some (.slice co wt.length cc)) :=
    ⟨(below_cell (o := 0) HBEL1.out hs2).trans HX2.out.1, (below_cell (o := 1) HBEL1.out hs2).trans HX2.out.2.1, (below_cell (o := 2) HBEL1.out hs2).trans HX2.out.2.2.1, (below_cell (o := 3) HBEL1.out hs2).trans HX2.out.2.2.2⟩
  have hs3 : w.heap.size < w1b.heap.size := by have := HBEL1.out.size; omega
  obtain ⟨xo, xa, yo, yb, zo, zc, h1, f1, h2, f2, h3, f3, hh, hg, r1, r2, r3⟩ := HRO3.out
  have y7 := cell_of hh (i := 7) rfl; have y8 := cell_of hh (i := 8) rfl; have y9 := cell_of hh (i := 9) rfl; have y10 := cell_of hh (i := 10) rfl
  have HIN : Hid (∀ W, Below w1b.heap.size w1b W → Calls Try.prog 18 #[.agg #[.int .i64 N, .slice (some ⟨h1, 0, none⟩) st.length f1, .slice (some ⟨h2, 0, none⟩) tl.length f2, .slice (some ⟨h3, 0, none⟩) wt.length f3], .slice (some ⟨g1, 0, none⟩) fr.length e1] W (RA B x W)) := fun W hb => HP.out _ _ _ _ W ((⟨r1.front, r2.front, r3.front⟩ : GIs w1b N _ _ _ st tl wt).below hb) (HROW1.out.front.below hb)
  obtain ⟨L, hL⟩ : ∃ L, L = fr.length := ⟨_, rfl⟩
  have HLL := hide hL
  rw [← hL] at HIN ka1 HF3 hfl ⊢
  have HRW3 : Hid (RowAt .i64 w1b (.slice (some ⟨g1, 0, none⟩) (L + 2) e1) (fr ++ [-77, -78])) := by have := HROW1.out; rw [← hL] at this; exact this
  clear hh hg r1 r2 r3 HRO HB2 HG2 HF2 HX2 hs2 HBEL1 hL HP HROW1 kc1
  have hLc : (L : Int) ≤ (e1 : Int) := by omega
  go_cut [8, 9] from 22 to 88 (fun a b wx => ∃ o c, a = .slice o B.length c ∧ b = .int .i64 x ∧ Hid ((∀ i, i < B.length → ∃ g, o = some ⟨g, 0, none⟩ ∧ wx.cell? ⟨g, i, none⟩ = some (.bool (bAt B i))) ∧ Below w1b.heap.size w1b wx))
  case first =>
    go_region_with (first | (go_at_call 18; refine (HIN.out w1b.drew (below_drew (Below.refl _ _))).mono ?_; rintro e9 w9 ⟨o9, c9, rfl, hc9, hb9⟩; have HC9 := hide hc9; have HB9 := hide (below_on (below_drew (Below.refl _ w1b)) hb9); clear hc9 hb9))
    all_goals
      go_wp2
      go_meet
      case rel => exact ⟨o9, c9, rfl, rfl, HC9.out, HB9.out⟩
  case rest =>
    obtain ⟨o8, c8, rfl, rfl, HC8⟩ := hcut
    have HX4 : Hid (wc.cell? ⟨w.heap.size, 0, none⟩ = some (.int .i64 N) ∧ wc.cell? ⟨w.heap.size, 1, none⟩ = some (.slice ao st.length ca) ∧ wc.cell? ⟨w.heap.size, 2, none⟩ = some (.slice bo tl.length cb) ∧ wc.cell? ⟨w.heap.size, 3, none⟩ = some (.slice co wt.length cc)) :=
      ⟨(below_cell (o := 0) HC8.out.2 hs3).trans HX3.out.1, (below_cell (o := 1) HC8.out.2 hs3).trans HX3.out.2.1, (below_cell (o := 2) HC8.out.2 hs3).trans HX3.out.2.2.1, (below_cell (o := 3) HC8.out.2 hs3).trans HX3.out.2.2.2⟩
    have HRF := hide (HRR.out _ _ _ (.slice fo L fc) wc (HG3.out.below HC8.out.2) (HF3.out.below HC8.out.2))
    obtain ⟨x0, x1, x2, x3⟩ := HX4.out
    clear y7 y8 y9 y10 HIN
    go_wp2_with fail
    refine HRF.out.mono ?_
    rintro e w5 ⟨o5, c5, rfl, hc5, hb5⟩
    have HB5 := hide (below_on HC8.out.2 hb5)
    have HA5 : Hid (∀ i, i < B.length → ∃ g, o8 = some ⟨g, 0, none⟩ ∧ w5.cell? ⟨g, i, none⟩ = some (.bool (bAt B i))) := fun i hi => by
      obtain ⟨g, he, hc⟩ := HC8.out.1 i hi
      exact ⟨g, he, (below_cell hb5 (block_of_cell hc)).trans hc⟩
    have HD5 := hide hc5
    have hxx : (x != x) = false := by simp
    clear hc5 hb5 x0 x1 x2 x3 HX4 HRF HC8
    go_wp2_with fail
    refine (no_any x w5).mono ?_
    rintro e w6 ⟨rfl, h6⟩
    obtain rfl := h6.symm
    clear h6
    have hnn : ((B.length : Int) != (B.length : Int)) = false := by simp
    go_wp2_with fail
    obtain ⟨K, hK⟩ : ∃ K, K = B.length := ⟨_, rfl⟩
    rw [← hK] at HA5 HD5 hBl ⊢
    clear hK hnn
    go_loopw [12] (fun t wr => ∃ i : Nat, i ≤ K ∧ t = .int .i64 i ∧ ∃ m, wr = w5.drewN m) (fun t _ => K - (RowKit.intOf t).toNat)
    case atStart => exact ⟨0, by omega, rfl, 0, rfl⟩
    case round =>
      obtain ⟨i, hiK, rfl, m, rfl⟩ := hrel
      by_cases hlt : i < K
      · obtain ⟨ga, rfl, da⟩ := HA5.out i hlt
        obtain ⟨gb, rfl, db⟩ := HD5.out i hlt
        have hli : (i : Int) < (K : Int) := by omega
        generalize bAt B i = y at da db
        have hyy : (y != y) = false := by simp
        go_wp2
        go_quiet (fail)
        go_wp2
        exact ⟨⟨i + 1, by omega, by simp, m + nq, rfl⟩, by simp [RowKit.intOf]; omega⟩
      · obtain rfl : K = i := by omega
        have HBQ := hide (below_on HB5.out (below_drewN (Below.refl _ w5) m))
        generalize w5.drewN m = wq at HBQ ⊢
        have HKE := hide (kept_any R N st tl wt wq (HRO3.out.below HBQ.out) (by omega) (by omega) (by omega))
        clear HA5 HD5 HB5
        go_wp2_with fail
        refine HKE.out.mono ?_
        rintro e w7 ⟨rfl, hb7⟩
        have HB7 := hide (below_on HBQ.out hb7)
        have hfr : RowAt .i64 w1b (.slice (some ⟨g1, 0, none⟩) L e1) fr := by
          have := HRW3.out.front
          rw [← HLL.out] at this
          exact this
        have HSA := hide (same_any _ _ fr w7 (hfr.below HB7.out) (HF3.out.below HB7.out))
        clear hb7 HKE HBQ hfr
        go_wp2_with fail
        refine HSA.out.mono ?_
        rintro e w8 ⟨rfl, hb8⟩
        have HB8 := hide (below_on HB7.out hb8)
        obtain ⟨p1, p2, p3⟩ := row_end (HRW3.out.below HB8.out)
        rw [← HLL.out] at p1 p2 p3
        have hL2 : (L : Int) < (L : Int) + 2 := by omega
        have hL3 : (L : Int) + 1 < (L : Int) + 2 := by omega
        clear hb8 HSA HB7
        go_wp2
        go_ret
        exact ⟨rfl, below_on HB3.out HB8.out⟩
end Go.Proofs.Ytgjlfhkhgccbkaa
