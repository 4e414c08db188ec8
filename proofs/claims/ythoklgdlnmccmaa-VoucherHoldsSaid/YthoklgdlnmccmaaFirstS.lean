/- The reference's first error of graph, kind and starts; Begin; longer and Least of a graph without edges. -/
import Derived.Test.YthoklgdlnmccmaaTermsS
namespace Go.Proofs.Ythoklgdlnmccmaa
open Go.RowKit Go.Lib
set_option linter.unusedVariables false

set_option maxRecDepth 100000 in
set_option maxHeartbeats 8000000 in
theorem firstS_any (N : Int) (va vb vc : Value) (st tl wt : List Int) (k : Int) (sv : Value) (S : List Pr) (w : World) (hg : GIs w N va vb vc st tl wt) (hst : st.length ≤ 17592186044416) (hto : tl.length ≤ 17592186044416) (hwt : wt.length ≤ 17592186044416) (hs : SAt w sv S) (hS : S.length * 16 ≤ 140737488353280) :
    Calls Try.prog 74 #[gAgg N va vb vc, .int .i64 k, sv] w fun e w' => e = .returned (.int .i64 (srchNo N st tl wt k S)) ∧ Below w.heap.size w w' := by
  obtain ⟨ao, ca, rfl⟩ := hg.s.shape
  obtain ⟨bo, cb, rfl⟩ := hg.t.shape
  obtain ⟨co, cc, rfl⟩ := hg.u.shape
  obtain ⟨so, sc, rfl, hsc, hscm⟩ := hs.shape
  obtain ⟨c0, c1, c2, c3, hb1, hs1⟩ := boxed w (.int .i64 N) (.slice ao st.length ca) (.slice bo tl.length cb) (.slice co wt.length cc)
  have HF := hide (refCheck_all N _ _ _ st tl wt _ (hg.below hb1) hst hto hwt)
  have HB1 := hide hb1
  have HS1 := hide (hs.below hb1)
  unfold gAgg at HF ⊢
  unfold ChkPost at HF
  unfold srchNo fstNo
  obtain ⟨X, hX⟩ : ∃ X, X = chk N st tl wt := ⟨_, rfl⟩
  rw [← hX] at HF ⊢
  obtain ⟨x, y⟩ := X
  clear hb1 hg hs hX
  by_cases hx0 : x = 0
  · subst hx0
    have HK := hide (fun W => refKind_any k W)
    by_cases hk : 1 ≤ k ∧ k ≤ 4
    · rw [if_pos rfl, kindNo_ok hk, if_pos rfl]
      rw [decide_eq_true hk] at HK
      have HSO := hide (fun j => @st_some N S j)
      have HNO := hide (@st_none N S)
      obtain ⟨T, hT⟩ : ∃ T, T = stNo N S := ⟨_, rfl⟩
      rw [← hT] at HSO HNO ⊢
      obtain ⟨M, hM⟩ : ∃ M, M = S.length := ⟨_, rfl⟩
      rw [← hM] at hsc hS HS1 HSO HNO ⊢
      have HM := hide hM
      clear hT hM hk
      go_enter Try.func74, Try.ntmps74
      go_wp2_with fail
      generalize (w.alloc (.cells #[.int .i64 N, .slice ao st.length ca, .slice bo tl.length cb, .slice co wt.length cc] 32)) = w1 at c0 c1 c2 c3 hs1 HB1 HS1 HF ⊢
      refine HF.out.mono ?_
      rintro e w2 ⟨rfl, hb2⟩
      obtain ⟨x0, x1, x2, x3⟩ := box_keep hs1 hb2 ⟨c0, c1, c2, c3⟩
      have HS2 := hide (HS1.out.below hb2)
      have HB2 := hide (below_on HB1.out hb2)
      clear c0 c1 c2 c3 hb2 HF HS1 HB1 x1 x2 x3
      go_wp2_with fail
      refine (HK.out _).mono ?_
      rintro e w3 ⟨rfl, rfl⟩
      go_wp2
      go_loopw [9] (fun t wr => ∃ j : Nat, j ≤ M ∧ t = .int .i64 j ∧ (∀ i, i < j → sBad N S i = 0) ∧ ∃ m, wr = w3.drewN m) (fun t _ => M - (RowKit.intOf t).toNat)
      case atStart => exact ⟨0, by omega, rfl, fun i hi => by omega, 0, rfl⟩
      case round =>
        obtain ⟨j, hjM, rfl, hall, m, rfl⟩ := hrel
        by_cases hlt : j < M
        · obtain ⟨g, o, he, p0, p1⟩ := HS2.out.cellAt j (by have := HM.out; omega)
          subst he
          have HSB := hide (fun h => HSO.out j hlt h hall)
          have hsd : sBad N S j = if 0 ≤ (sAt S j).1 ∧ (sAt S j).1 < N then (if 4611686018427387904 < (sAt S j).2 then 51 else 0) else 30 := rfl
          obtain ⟨x, hx⟩ : ∃ x, x = (sAt S j).1 := ⟨_, rfl⟩
          obtain ⟨y, hy⟩ : ∃ y, y = (sAt S j).2 := ⟨_, rfl⟩
          rw [← hx] at p0 hsd
          rw [← hy] at p1 hsd
          have HSD := hide hsd
          have HALL := hide hall
          have hji : (j : Int) < (M : Int) := by omega
          clear hall hx hy hsd
          by_cases hv0 : x < 0
          · have hd : decide (x < 0) = true := decide_eq_true hv0
            have hs30 : sBad N S j = 30 := by rw [HSD.out, if_neg (by omega)]
            have HT := hide (HSB.out (by rw [hs30]; omega))
            rw [hs30] at HT
            clear hs30
            go_wp2_with fail
            go_quiet (fail)
            go_wp2
            go_ret
            exact ⟨by rw [HT.out]; rfl, by first | exact below_drewN HB2.out _ | exact below_drewN (below_drewN HB2.out _) _⟩
          · have hd : decide (x < 0) = false := decide_eq_false hv0
            by_cases hv1 : N ≤ x
            · have hd1 : decide (N ≤ x) = true := decide_eq_true hv1
              have hs30 : sBad N S j = 30 := by rw [HSD.out, if_neg (by omega)]
              have HT := hide (HSB.out (by rw [hs30]; omega))
              rw [hs30] at HT
              clear hs30
              go_wp2_with fail
              go_quiet (fail)
              go_wp2
              go_ret
              exact ⟨by rw [HT.out]; rfl, by first | exact below_drewN HB2.out _ | exact below_drewN (below_drewN HB2.out _) _⟩
            · have hd1 : decide (N ≤ x) = false := decide_eq_false hv1
              by_cases hl : 4611686018427387904 < y
              · have hs51 : sBad N S j = 51 := by rw [HSD.out, if_pos (by omega), if_pos hl]
                have HT := hide (HSB.out (by rw [hs51]; omega))
                rw [hs51] at HT
                clear hs51
                go_wp2_with fail
                go_quiet (fail)
                go_wp2
                go_ret
                exact ⟨by rw [HT.out]; rfl, by first | exact below_drewN HB2.out _ | exact below_drewN (below_drewN HB2.out _) _⟩
              · have hs0 : sBad N S j = 0 := by rw [HSD.out, if_pos (by omega), if_neg hl]
                have HS0 := hide hs0
                clear hs0
                go_wp2_with fail
                go_quiet (fail)
                go_wp2
                refine ⟨⟨j + 1, by omega, by simp, fun i hi => ?_, _, rfl⟩, by simp [RowKit.intOf]; omega⟩
                rcases Nat.lt_or_ge i j with h | h
                · exact HALL.out i h
                · obtain rfl : i = j := by omega
                  exact HS0.out
        · obtain rfl : j = M := by omega
          go_wp2
          go_ret
          exact ⟨by rw [HNO.out hall]; rfl, below_drewN HB2.out _⟩
    · rw [if_pos rfl, kindNo_bad hk, if_neg (by omega)]
      rw [decide_eq_false hk] at HK
      clear hk
      go_enter Try.func74, Try.ntmps74
      go_wp2_with fail
      generalize (w.alloc (.cells #[.int .i64 N, .slice ao st.length ca, .slice bo tl.length cb, .slice co wt.length cc] 32)) = w1 at c0 c1 c2 c3 hs1 HB1 HS1 HF ⊢
      refine HF.out.mono ?_
      rintro e w2 ⟨rfl, hb2⟩
      have HB2 := hide (below_on HB1.out hb2)
      clear c0 c1 c2 c3 hb2 HF
      go_wp2_with fail
      refine (HK.out _).mono ?_
      rintro e w3 ⟨rfl, rfl⟩
      go_wp2
      go_ret
      exact ⟨rfl, HB2.out⟩
  · have hx : (x != 0) = true := by simp [hx0]
    have hxx : ¬ (x, y).1 = 0 := hx0
    rw [if_neg hxx, if_neg hxx]
    clear hx0 hxx
    go_enter Try.func74, Try.ntmps74
    go_wp2_with fail
    generalize (w.alloc (.cells #[.int .i64 N, .slice ao st.length ca, .slice bo tl.length cb, .slice co wt.length cc] 32)) = w1 at c0 c1 c2 c3 hs1 HB1 HS1 HF ⊢
    refine HF.out.mono ?_
    rintro e w2 ⟨rfl, hb2⟩
    have HB2 := hide (below_on HB1.out hb2)
    clear c0 c1 c2 c3 hb2 HF
    go_wp2
    go_ret
    exact ⟨rfl, HB2.out⟩
end Go.Proofs.Ythoklgdlnmccmaa
