/- SeekFars: the walk. -/
import Derived.Test.YtnjljhabbgceoaaFaD
import Derived.Test.YtnjljhabbgceoaaStG
namespace Go.Proofs.Ytnjljhabbgceoaa
open Go.RowKit Go.Lib
set_option linter.unusedVariables false
set_option linter.unusedSimpArgs false
theorem far_parts {N : Int} {st tl wt : List Int} {f c : Int} (h : farNo N st tl wt f c = 0) : (chk N st tl wt).1 = 0 ∧ (0 ≤ f ∧ f < N) ∧ 1 ≤ c ∧ c ≤ 64 := by
  unfold farNo at h
  by_cases h1 : (chk N st tl wt).1 ≠ 0
  · rw [if_pos h1] at h; exact absurd h h1
  · rw [if_neg h1] at h
    by_cases h2 : ¬ (0 ≤ f ∧ f < N)
    · rw [if_pos h2] at h; cases h
    · rw [if_neg h2] at h
      by_cases h3 : c < 1 ∨ 64 < c
      · rw [if_pos h3] at h; cases h
      · exact ⟨Decidable.not_not.1 h1, Decidable.not_not.1 h2, by omega, by omega⟩
theorem far_all (N : Int) (va vb vc : Value) (st tl wt : List Int) (f c : Int) (w : World) (hg : GIs w N va vb vc st tl wt) (hst : st.length ≤ 17592186044416) (hto : tl.length ≤ 17592186044416) (hwt : wt.length ≤ 17592186044416) (hwb : ∀ e, 0 ≤ at_ wt e ∧ at_ wt e ≤ 18446744073709551615) :
    Calls Try.prog 6 #[gAgg N va vb vc, .int .i64 f, .int .i64 c] w (FarPost w (farL N st tl wt f c) (farNo N st tl wt f c)) := by
  by_cases h : farNo N st tl wt f c = 0
  · obtain ⟨h1, ⟨h2, h3⟩, h4, h5⟩ := far_parts h
    obtain ⟨n, rfl, hgd⟩ := chk_good h1
    unfold farL
    rw [if_pos h, h]
    obtain ⟨f', rfl⟩ := Int.eq_ofNat_of_zero_le h2
    obtain ⟨c', rfl⟩ := Int.eq_ofNat_of_zero_le (show 0 ≤ c by omega)
    rw [Int.toNat_natCast, Int.toNat_natCast]
    exact far_good n va vb vc st tl wt f' c' w hg hgd h1 hwb (by omega) (by omega) (by omega)
  · unfold farL
    rw [if_neg h]
    exact far_bad N va vb vc st tl wt f c w hg hst hto hwt h
theorem rfar_all (N : Int) (va vb vc : Value) (st tl wt : List Int) (f c : Int) (w : World) (hg : GIs w N va vb vc st tl wt) (hst : st.length ≤ 17592186044416) (hto : tl.length ≤ 17592186044416) (hwt : wt.length ≤ 17592186044416) (hwb : ∀ e, 0 ≤ at_ wt e ∧ at_ wt e ≤ 18446744073709551615) :
    Calls Try.prog 4 #[gAgg N va vb vc, .int .i64 f, .int .i64 c] w (FarPost w (farL N st tl wt f c) (farNo N st tl wt f c)) := by
  by_cases h : farNo N st tl wt f c = 0
  · obtain ⟨h1, ⟨h2, h3⟩, h4, h5⟩ := far_parts h
    obtain ⟨n, rfl, hgd⟩ := chk_good h1
    unfold farL
    rw [if_pos h, h]
    obtain ⟨f', rfl⟩ := Int.eq_ofNat_of_zero_le h2
    obtain ⟨c', rfl⟩ := Int.eq_ofNat_of_zero_le (show 0 ≤ c by omega)
    rw [Int.toNat_natCast, Int.toNat_natCast]
    exact rfar_good n va vb vc st tl wt f' c' w hg hgd h1 hwb (by omega) (by omega) (by omega)
  · unfold farL
    rw [if_neg h]
    exact rfar_bad N va vb vc st tl wt f c w hg hst hto hwt h
set_option maxRecDepth 100000 in
set_option maxHeartbeats 4000000 in
theorem fars_law (N : Int) (va vb vc : Value) (st tl wt : List Int) (f c : Int) (w : World) (hg : GIs w N va vb vc st tl wt) (hst : st.length * 8 ≤ 140737488351232) (hto : tl.length * 8 ≤ 140737488351232) (hwt : wt.length * 8 ≤ 140737488351232) (hwb : ∀ e, 0 ≤ at_ wt e ∧ at_ wt e ≤ 18446744073709551615) :
    Calls Try.prog 3 #[gAgg N va vb vc, .int .i64 f, .int .i64 c] w fun e w' => e = .returned (.bool true) ∧ Below w.heap.size w w' := by
  obtain ⟨c0, c1, c2, c3, hb1, hs1⟩ := boxed w (.int .i64 N) va vb vc
  have HB1 := hide hb1
  have HBX := hide (And.intro c0 (And.intro c1 (And.intro c2 c3)))
  have HR : Hid (∀ W, Below w.heap.size w W → Calls Try.prog 4 #[gAgg N va vb vc, .int .i64 f, .int .i64 c] W (FarPost W (farL N st tl wt f c) (farNo N st tl wt f c))) := fun W hb => rfar_all N va vb vc st tl wt f c W (hg.below hb) (by omega) (by omega) (by omega) hwb
  have HT : Hid (∀ W, Below w.heap.size w W → Calls Try.prog 5 #[gAgg N va vb vc] W _) := fun W hb => twin_any N va vb vc st tl wt W (hg.below hb) hst hto hwt
  have HF : Hid (∀ W g1 c1 g2 c2 g3 c3, TIs W N g1 c1 g2 c2 g3 c3 st tl wt → Calls Try.prog 6 #[tAgg N g1 c1 g2 c2 g3 c3 st.length tl.length wt.length, .int .i64 f, .int .i64 c] W (FarPost W (farL N st tl wt f c) (farNo N st tl wt f c))) := fun W g1 c1 g2 c2 g3 c3 ht => far_all N _ _ _ st tl wt f c W ht.gis (by omega) (by omega) (by omega) hwb
  have HK : Hid (∀ W g1 c1 g2 c2 g3 c3, Below w.heap.size w W → TIs W N g1 c1 g2 c2 g3 c3 st tl wt → Calls Try.prog 8 #[tAgg N g1 c1 g2 c2 g3 c3 st.length tl.length wt.length, gAgg N va vb vc] W _) := fun W g1 c1 g2 c2 g3 c3 hb ht => twinKept_any N va vb vc st tl wt g1 c1 g2 c2 g3 c3 W ht (hg.below hb) hst hto hwt
  obtain ⟨FN, hFN⟩ : ∃ FN, FN = farNo N st tl wt f c := ⟨_, rfl⟩
  obtain ⟨FL, hFL⟩ : ∃ FL, FL = farL N st tl wt f c := ⟨_, rfl⟩
  simp only [← hFN, ← hFL] at HR HF
  clear hb1 hg hFN hFL hwb
  unfold tAgg at HT HF HK
  unfold gAgg at HR HT HF HK ⊢
  go_enter Try.func3, Try.ntmps3
  go_wp2_with fail
  generalize (w.alloc (.cells #[.int .i64 N, va, vb, vc] 25)) = w1 at HBX HB1 hs1 c0 c1 c2 c3 ⊢
  go_wp2_with (first
    | (go_at_call 4; refine (HR.out _ HB1.out).mono ?_; rintro e w2 ⟨v1, rfl, hrow, hb2⟩; have HV1 := hide hrow; have HBX2 := hide (box_keep hs1 hb2 HBX.out); have hs2 : w.heap.size < w2.heap.size := Nat.lt_of_lt_of_le hs1 hb2.size; have HB2 := hide (below_on HB1.out hb2); clear hb2 c0 c1 c2 c3; obtain ⟨c0, c1, c2, c3⟩ := HBX2.out; obtain ⟨a1, p1, rfl⟩ := hrow.shape; clear hrow)
    | (go_at_call 5; refine (HT.out _ HB2.out).mono ?_; rintro e w3 ⟨g1, e1, g2, e2, g3, e3, rfl, hti, hb3⟩; have HTI := hide hti; have HV3 := hide (HV1.out.below hb3); have HBX3 := hide (box_keep hs2 hb3 HBX2.out); have hs3 : w.heap.size < w3.heap.size := Nat.lt_of_lt_of_le hs2 hb3.size; have HB3 := hide (below_on HB2.out hb3); clear hb3 hti c0 c1 c2 c3)
    | fail)
  obtain ⟨d0, d1, d2, d3, hb4, hs4⟩ := boxed w3 (.int .i64 N) (.slice (some ⟨g1, 0, none⟩) st.length e1) (.slice (some ⟨g2, 0, none⟩) tl.length e2) (.slice (some ⟨g3, 0, none⟩) wt.length e3)
  have HBY4 := hide (And.intro d0 (And.intro d1 (And.intro d2 d3)))
  have HBX4 := hide (box_keep hs3 hb4 HBX3.out)
  have HB4 := hide (below_on HB3.out hb4)
  have HT4 := hide (HTI.out.below hb4)
  have HV4 := hide (HV3.out.below hb4)
  have hs5 : w.heap.size < (w3.alloc (.cells #[.int .i64 N, .slice (some ⟨g1, 0, none⟩) st.length e1, .slice (some ⟨g2, 0, none⟩) tl.length e2, .slice (some ⟨g3, 0, none⟩) wt.length e3] 25)).heap.size := Nat.lt_of_lt_of_le hs3 hb4.size
  clear hb4 d0 d1 d2 d3
  generalize (w3.alloc (.cells #[.int .i64 N, .slice (some ⟨g1, 0, none⟩) st.length e1, .slice (some ⟨g2, 0, none⟩) tl.length e2, .slice (some ⟨g3, 0, none⟩) wt.length e3] 25)) = w4 at HBY4 HBX4 HB4 HT4 HV4 hs4 hs5 ⊢
  generalize w3.heap.size = b3 at HBY4 hs4 ⊢
  go_wp2_with (first
    | (go_at_call 6; refine (HF.out _ _ _ _ _ _ _ HT4.out).mono ?_; rintro e w5 ⟨v2, rfl, hrow, hb5⟩; have HV2 := hide hrow; have HV5 := hide (HV4.out.below hb5); have HBX5 := hide (box_keep hs5 hb5 HBX4.out); have HBY5 := hide (box_keep hs4 hb5 HBY4.out); have HB5 := hide (below_on HB4.out hb5); have HT5 := hide (HT4.out.below hb5); have hs6 : w.heap.size < w5.heap.size := Nat.lt_of_lt_of_le hs5 hb5.size; have hs7 : b3 < w5.heap.size := Nat.lt_of_lt_of_le hs4 hb5.size; clear hb5; obtain ⟨a2, p2, rfl⟩ := hrow.shape; clear hrow)
    | (go_at_call 7; refine (same_any _ _ FL _ HV2.out HV5.out).mono ?_; rintro e w6 ⟨rfl, hb6⟩; have HT6 := hide (HT5.out.below hb6); have HB6 := hide (below_on HB5.out hb6); obtain ⟨c0, c1, c2, c3⟩ := box_keep hs6 hb6 HBX5.out; obtain ⟨d0, d1, d2, d3⟩ := box_keep hs7 hb6 HBY5.out; clear hb6)
    | (go_at_call 8; refine (HK.out _ _ _ _ _ _ _ HB6.out HT6.out).mono ?_; rintro e w7 ⟨rfl, hb7⟩; have HB7 := hide (below_on HB6.out hb7); clear hb7)
    | fail)
  go_ret
  exact ⟨rfl, HB7.out⟩
end Go.Proofs.Ytnjljhabbgceoaa
