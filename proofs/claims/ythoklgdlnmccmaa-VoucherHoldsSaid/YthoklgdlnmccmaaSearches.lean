import Derived.Test.YthoklgdlnmccmaaStG
import Derived.Test.YthoklgdlnmccmaaRnd
/- RouteSearches: same, and starts with their mark. -/
namespace Go.Proofs.Ythoklgdlnmccmaa
open Go.RowKit Go.Lib
set_option linter.unusedVariables false

set_option maxRecDepth 100000 in
theorem sameU_empty (v1 v2 : Value) (w : World) (h1 : RowAt .u64 w v1 []) (h2 : RowAt .u64 w v2 []) :
    Calls Try.prog 38 #[v1, v2] w fun e w' => e = .returned (.bool true) ∧ Below w.heap.size w w' := by
  obtain ⟨a1, c1, rfl⟩ := h1.empty
  obtain ⟨a2, c2, rfl⟩ := h2.empty
  clear h1 h2
  go_enter Try.func38, Try.ntmps38
  go_wp2
  refine wp_loop_rounds 1 ?_
  rw [rounds_succ]
  go_wp2
  go_ret
  exact ⟨rfl, Below.refl _ _⟩

set_option maxRecDepth 100000 in
theorem sameU_any (v1 v2 : Value) (xs : List Int) (w : World) (h1 : RowAt .u64 w v1 xs) (h2 : RowAt .u64 w v2 xs) :
    Calls Try.prog 38 #[v1, v2] w fun e w' => e = .returned (.bool true) ∧ Below w.heap.size w w' := by
  by_cases hne : xs = []
  · subst hne; exact sameU_empty v1 v2 w h1 h2
  · obtain ⟨g1, o1, c1, rfl, hc1, hm1, hcell1⟩ := h1.spot hne
    obtain ⟨g2, o2, c2, rfl, hc2, hm2, hcell2⟩ := h2.spot hne
    clear h1 h2 hne
    obtain ⟨n, hn⟩ : ∃ n, n = xs.length := ⟨_, rfl⟩
    rw [← hn] at hcell1 hcell2 hc1 hc2 ⊢
    have H1 := hide hcell1; have H2 := hide hcell2
    clear hcell1 hcell2 hn
    go_enter Try.func38, Try.ntmps38
    go_wp2
    go_loopw [5] (fun t wr => ∃ k : Nat, k ≤ n ∧ t = .int .i64 k ∧ ∃ m, wr = w.drewN m) (fun t _ => n - (RowKit.intOf t).toNat)
    case atStart => exact ⟨0, by omega, rfl, 0, rfl⟩
    case round =>
      obtain ⟨k, hk, rfl, m, rfl⟩ := hrel
      by_cases hlt : k < n
      · have d1 := H1.out k hlt
        have d2 := H2.out k hlt
        go_wp2
        go_region
        all_goals
          go_wp2
          go_roundw
          case rel => exact ⟨k + 1, by omega, by go_num, m + 1, rfl⟩
          case measure => simp [RowKit.intOf]; omega
      · go_wp2
        go_ret
        exact ⟨rfl, below_drewN (Below.refl _ _) _⟩

/-- A copy of starts with its mark. -/
def MkS (w : World) (g c : Nat) (xs : List Pr) : Prop := SAt w (.slice (some ⟨g, 0, none⟩) (xs.length + 1) c) (xs ++ [(71, 72)]) ∧ SAt w (.slice (some ⟨g, 0, none⟩) xs.length c) xs ∧ xs.length + 1 ≤ c ∧ c ≤ 9223372036854775807
theorem MkS.below {w w' : World} {g c : Nat} {xs : List Pr} (h : MkS w g c xs) (hb : Below w.heap.size w w') : MkS w' g c xs := ⟨h.1.below hb, h.2.1.below hb, h.2.2⟩
set_option maxRecDepth 100000 in
set_option maxHeartbeats 2000000 in
theorem startsM_any (xv : Value) (xs : List Pr) (w : World) (hx : SAt w xv xs) (hb : xs.length * 16 ≤ 140737488353280) :
    Calls Try.prog 34 #[xv] w fun e w' => ∃ g c, e = .returned (.slice (some ⟨g, 0, none⟩) xs.length c) ∧ w.heap.size ≤ g ∧ MkS w' g c xs ∧ Below w.heap.size w w' := by
  obtain ⟨i0, hi, hz0, hz1, hz2⟩ := info_parts Try.info41
  obtain ⟨ao, ca, rfl⟩ : ∃ ao c, xv = .slice ao xs.length c := by obtain ⟨ao, c, h, _⟩ := hx; exact ⟨ao, c, h⟩
  have HX := hide hx
  clear hx
  go_enter Try.func34, Try.ntmps34
  go_wp2_with (first
    | (at_builtin; refine wpList_freshS rfl (.tmp 4) (.tmp 5) 33 rfl 41 i0 (.agg #[.int .i64 0, .int .u64 0]) Try.underlying33 hi hz0 hz1 hz2 rfl w.heap.size _ (own_new2 _ 41 w.heap.size rfl) (by simp) _ xs rfl rfl (HX.out.below (below_alloc (Below.refl _ _) _)) (by omega) (by unfold maxLen; omega) ?_; intro v1 w1a hownA1 hbelA1)
    | (at_builtin; refine wpList_append_own _ rfl (.tmp 6) (.tmp 8) 33 rfl _ 41 i0 (.agg #[.int .i64 0, .int .u64 0]) 2 16 Try.underlying33 hi hz0 hz1 hz2 rfl (by decide) _ _ _ rfl (hownA1.alloc _) ⟨w1a.heap.size, 0, none⟩ 1 1 [.int .i64 71, .int .u64 72] rfl rfl (two_at w1a _ _ _) (by simp [Value.oneCell']) (by unfold maxLen; omega) (by omega) (by have hq := hbelA1.size; simp at hq; simp; omega) ?_; intro u1 w1b hownB1 hgrowB1 hqB1; obtain ⟨g1, e1, rfl, ka1, kb1, kc1, hrow1, hrow2, hbel1⟩ := markS_made (m := (71, 72)) hownA1 (below_on (below_alloc (Below.refl _ _) _) hbelA1) hownB1 hgrowB1; have HROW1 : Hid (MkS w1b g1 e1 xs) := ⟨hrow1, hrow2, ka1, kb1⟩; have HBEL1 := hide hbel1; clear hownA1 hbelA1 hownB1 hgrowB1 hqB1 hrow1 hrow2 hbel1)
    | fail)
  go_wp2
  go_ret
  exact ⟨g1, e1, rfl, kc1, HROW1.out, HBEL1.out⟩

set_option maxRecDepth 100000 in
set_option maxHeartbeats 2000000 in
theorem startsKept_any (g c : Nat) (sv : Value) (S : List Pr) (w : World) (hm : MkS w g c S) (hs : SAt w sv S) (hb : S.length * 16 ≤ 140737488353280) :
    Calls Try.prog 42 #[.slice (some ⟨g, 0, none⟩) S.length c, sv] w fun e w' => e = .returned (.bool true) ∧ Below w.heap.size w w' := by
  obtain ⟨so, sc, rfl, hsc, hscm⟩ := hs.shape
  obtain ⟨hma, hmb, hc1, hc2⟩ := hm
  have HC := hide (fun (i : Nat) (hi : i < S.length) => hmb.cellAt i hi)
  have HD := hide (fun (i : Nat) (hi : i < S.length) => hs.cellAt i hi)
  have p : w.cell? ⟨g, S.length * 2, none⟩ = some (.int .i64 71) ∧ w.cell? ⟨g, S.length * 2 + 1, none⟩ = some (.int .u64 72) := by
    obtain ⟨g', o', he, p1, p2⟩ := hma.cellAt S.length (by simp)
    simp only [Option.some.injEq, Addr.mk.injEq, and_true] at he
    obtain ⟨rfl, rfl⟩ := he
    have e : sAt (S ++ [((71 : Int), (72 : Int))]) S.length = (71, 72) := by simp [sAt]
    rw [e] at p1 p2
    simp only [Nat.zero_add] at p1 p2
    exact ⟨p1, p2⟩
  obtain ⟨p1, p2⟩ := p
  obtain ⟨n, hn⟩ : ∃ n, n = S.length := ⟨_, rfl⟩
  rw [← hn] at HC HD hc1 hsc p1 p2 hb ⊢
  have hneq := neq_start
  clear hn hma hmb hs
  go_enter Try.func42, Try.ntmps42
  go_wp2
  go_loopw [6] (fun t wr => ∃ i : Nat, i ≤ n ∧ t = .int .i64 i ∧ ∃ m, wr = w.drewN m) (fun t _ => n - (RowKit.intOf t).toNat)
  case atStart => exact ⟨0, by omega, rfl, 0, rfl⟩
  case round =>
    obtain ⟨i, hin, rfl, m, rfl⟩ := hrel
    by_cases hlt : i < n
    · obtain ⟨ga, oa, hsa, a0, a1⟩ := HC.out i hlt
      obtain ⟨gb, ob, hsb, b0, b1⟩ := HD.out i hlt
      simp only [Option.some.injEq, Addr.mk.injEq, and_true] at hsa
      obtain ⟨rfl, rfl⟩ := hsa
      subst hsb
      rw [Nat.zero_add] at a0 a1
      obtain ⟨u, hu⟩ : ∃ u, u = (sAt S i).1 := ⟨_, rfl⟩
      obtain ⟨v, hv⟩ : ∃ v, v = (sAt S i).2 := ⟨_, rfl⟩
      rw [← hu] at a0 b0
      rw [← hv] at a1 b1
      clear hu hv p1 p2
      have hself : (!(u == u && (v == v && true))) = false := by simp
      go_wp2_with fail
      go_region
      all_goals
        go_wp2_with fail
        go_roundw
        case rel => exact ⟨i + 1, by omega, by go_num, m + 1, rfl⟩
        case measure => simp [RowKit.intOf]; omega
    · obtain rfl : i = n := by omega
      go_wp2
      go_ret
      exact ⟨rfl, below_drewN (Below.refl _ _) _⟩
end Go.Proofs.Ythoklgdlnmccmaa

/- RouteSearches: the walk. -/
namespace Go.Proofs.Ythoklgdlnmccmaa
open Go.RowKit Go.Lib
set_option linter.unusedVariables false

set_option maxRecDepth 100000 in
set_option maxHeartbeats 8000000 in
theorem searches_law (N : Int) (va vb vc : Value) (st tl wt : List Int) (k : Int) (sv : Value) (S : List Pr) (w : World) (hg : GIs w N va vb vc st tl wt) (hst : st.length * 8 ≤ 140737488351232) (hto : tl.length * 8 ≤ 140737488351232) (hwt : wt.length * 8 ≤ 140737488351232)
    (hs : SAt w sv S) (hw : ∀ j, j < S.length → 0 ≤ (sAt S j).2 ∧ (sAt S j).2 ≤ 18446744073709551615) (hS : S.length * 16 ≤ 140737488353280) (hwb : ∀ e, 0 ≤ at_ wt e ∧ at_ wt e ≤ 18446744073709551615) :
    Calls Try.prog 9 #[gAgg N va vb vc, .int .i64 k, sv] w fun e w' => e = .returned (.bool true) ∧ Below w.heap.size w w' := by
  obtain ⟨L1, L2, j, x, h4⟩ := four_any N st tl wt k S (by omega) (by omega) (by omega) hwb hw hS
  have H4 := hide h4
  clear h4 hw hwb
  obtain ⟨ao, ca, rfl⟩ := hg.s.shape
  obtain ⟨bo, cb, rfl⟩ := hg.t.shape
  obtain ⟨co, cc, rfl⟩ := hg.u.shape
  obtain ⟨so, sc, rfl, hsc, hscm⟩ := hs.shape
  obtain ⟨c0, c1, c2, c3, hb1, hs1⟩ := boxed w (.int .i64 N) (.slice ao st.length ca) (.slice bo tl.length cb) (.slice co wt.length cc)
  have HG1 := hide (hg.below hb1)
  have HS1 := hide (hs.below hb1)
  have HB1 := hide hb1
  have HX1 := hide (And.intro c0 (And.intro c1 (And.intro c2 c3)))
  have HRS := hide (H4.out.rs _ _ _ _ _ HG1.out HS1.out)
  unfold gAgg at HRS ⊢
  clear hb1 hg hs
  go_enter Try.func9, Try.ntmps9
  go_wp2_with fail
  generalize (w.alloc (.cells #[.int .i64 N, .slice ao st.length ca, .slice bo tl.length cb, .slice co wt.length cc] 32)) = w1 at c0 c1 c2 c3 hs1 HB1 HG1 HS1 HX1 HRS ⊢
  refine HRS.out.mono ?_
  rintro e w2 ⟨o2, n2, q2, rfl, hr2, hb2⟩
  have HX2 := hide (box_keep hs1 hb2 HX1.out)
  obtain ⟨d0, d1, d2, d3⟩ := box_keep hs1 hb2 HX1.out
  have hs2 : w.heap.size < w2.heap.size := by have := hb2.size; omega
  have HB2 := hide (below_on HB1.out hb2)
  have HG2 := hide (HG1.out.below hb2)
  have HS2 := hide (HS1.out.below hb2)
  have HR2 := hide hr2
  clear c0 c1 c2 c3 hb2 hr2 HRS HG1 HS1 HB1 HX1
  go_wp2_with fail
  have HRR := hide (H4.out.rr _ _ _ _ w2 HG2.out HS2.out)
  unfold gAgg at HRR
  refine HRR.out.mono ?_
  rintro e w3 ⟨o3, n3, q3, rfl, hr3, hb3⟩
  have HX3 := hide (box_keep hs2 hb3 HX2.out)
  clear d0 d1 d2 d3
  obtain ⟨d0, d1, d2, d3⟩ := HX3.out
  have hs3 : w.heap.size < w3.heap.size := by have := hb3.size; omega
  have HB3 := hide (below_on HB2.out hb3)
  have HG3 := hide (HG2.out.below hb3)
  have HS3 := hide (HS2.out.below hb3)
  have HR3a := hide (HR2.out.below hb3)
  have HR3b := hide hr3
  clear hb3 hr3 HRR HG2 HS2 HB2 HX2 HR2
  go_wp2_with fail
  have HTW := hide (twin_any N _ _ _ st tl wt w3 HG3.out hst hto hwt)
  unfold gAgg at HTW
  refine HTW.out.mono ?_
  rintro e w4 ⟨g1, p1, g2, p2, g3, p3, rfl, ht, hb4⟩
  have HX4 := hide (box_keep hs3 hb4 HX3.out)
  have hs4 : w.heap.size < w4.heap.size := by have := hb4.size; omega
  have HB4 := hide (below_on HB3.out hb4)
  have HG4 := hide (HG3.out.below hb4)
  have HS4 := hide (HS3.out.below hb4)
  have HR4a := hide (HR3a.out.below hb4)
  have HR4b := hide (HR3b.out.below hb4)
  have HT4 := hide ht
  clear d0 d1 d2 d3 hb4 ht HTW HG3 HS3 HB3 HX3 HR3a HR3b
  unfold tAgg gAgg
  go_wp2_with fail
  obtain ⟨b0, b1, b2, b3, hb5, hs5⟩ := boxed w4 (.int .i64 N) (.slice (some ⟨g1, 0, none⟩) st.length p1) (.slice (some ⟨g2, 0, none⟩) tl.length p2) (.slice (some ⟨g3, 0, none⟩) wt.length p3)
  have HTX := hide (And.intro b0 (And.intro b1 (And.intro b2 b3)))
  have HX5 := hide (box_keep hs4 hb5 HX4.out)
  have HB5 := hide (below_on HB4.out hb5)
  have HG5 := hide (HG4.out.below hb5)
  have HS5 := hide (HS4.out.below hb5)
  have HR5a := hide (HR4a.out.below hb5)
  have HR5b := hide (HR4b.out.below hb5)
  have HT5 := hide (HT4.out.below hb5)
  clear hb5 HG4 HS4 HB4 HX4 HR4a HR4b HT4
  generalize (w4.alloc (.cells #[.int .i64 N, .slice (some ⟨g1, 0, none⟩) st.length p1, .slice (some ⟨g2, 0, none⟩) tl.length p2, .slice (some ⟨g3, 0, none⟩) wt.length p3] 32)) = w5 at b0 b1 b2 b3 hs5 HTX HX5 HB5 HG5 HS5 HR5a HR5b HT5 ⊢
  have hs5' : w.heap.size < w5.heap.size := by omega
  refine (startsM_any _ S w5 HS5.out hS).mono ?_
  rintro e w6 ⟨g6, c6, rfl, hg6, hm6, hb6⟩
  clear b0 b1 b2 b3
  have HTX6 := hide (box_keep hs5 hb6 HTX.out)
  obtain ⟨b0, b1, b2, b3⟩ := HTX6.out
  have HX6 := hide (box_keep hs5' hb6 HX5.out)
  have hs6 : w4.heap.size < w6.heap.size := by have := hb6.size; omega
  have hs6' : w.heap.size < w6.heap.size := by omega
  have HB6 := hide (below_on HB5.out hb6)
  have HG6 := hide (HG5.out.below hb6)
  have HS6 := hide (HS5.out.below hb6)
  have HR6a := hide (HR5a.out.below hb6)
  have HR6b := hide (HR5b.out.below hb6)
  have HT6 := hide (HT5.out.below hb6)
  have HM6 := hide hm6
  clear hb6 hm6 hg6 HG5 HS5 HB5 HX5 HTX HR5a HR5b HT5
  go_wp2_with fail
  have HPS := hide (H4.out.s _ _ _ _ w6 HT6.out.gis HM6.out.2.1)
  unfold gAgg at HPS
  refine HPS.out.mono ?_
  rintro e w7 ⟨o7, n7, q7, rfl, hr7, hb7⟩
  clear b0 b1 b2 b3
  have HTX7 := hide (box_keep hs6 hb7 HTX6.out)
  obtain ⟨b0, b1, b2, b3⟩ := HTX7.out
  have HX7 := hide (box_keep hs6' hb7 HX6.out)
  have hs7 : w4.heap.size < w7.heap.size := by have := hb7.size; omega
  have hs7' : w.heap.size < w7.heap.size := by omega
  have HB7 := hide (below_on HB6.out hb7)
  have HG7 := hide (HG6.out.below hb7)
  have HS7 := hide (HS6.out.below hb7)
  have HR7a := hide (HR6a.out.below hb7)
  have HR7b := hide (HR6b.out.below hb7)
  have HT7 := hide (HT6.out.below hb7)
  have HM7 := hide (HM6.out.below hb7)
  have HR7c := hide hr7
  clear hb7 hr7 HPS HG6 HS6 HB6 HX6 HTX6 HR6a HR6b HT6 HM6
  go_wp2_with fail
  have HPR := hide (H4.out.r _ _ _ _ w7 HT7.out.gis HM7.out.2.1)
  unfold gAgg at HPR
  refine HPR.out.mono ?_
  rintro e w8 ⟨o8, n8, q8, rfl, hr8, hb8⟩
  clear b0 b1 b2 b3
  have HTX8 := hide (box_keep hs7 hb8 HTX7.out)
  have HX8 := hide (box_keep hs7' hb8 HX7.out)
  have hs8 : w4.heap.size < w8.heap.size := by have := hb8.size; omega
  have hs8' : w.heap.size < w8.heap.size := by omega
  have HB8 := hide (below_on HB7.out hb8)
  have HG8 := hide (HG7.out.below hb8)
  have HS8 := hide (HS7.out.below hb8)
  have HR8a := hide (HR7a.out.below hb8)
  have HR8b := hide (HR7b.out.below hb8)
  have HR8c := hide (HR7c.out.below hb8)
  have HT8 := hide (HT7.out.below hb8)
  have HM8 := hide (HM7.out.below hb8)
  have HR8d := hide hr8
  clear hb8 hr8 HPR HG7 HS7 HB7 HX7 HTX7 HR7a HR7b HR7c HT7 HM7 H4
  go_wp2_with fail
  refine (sameU_any _ _ L1 w8 HR8c.out HR8a.out).mono ?_
  rintro e w9 ⟨rfl, hb9⟩
  have HTX9 := hide (box_keep hs8 hb9 HTX8.out)
  have HX9 := hide (box_keep hs8' hb9 HX8.out)
  have hs9 : w4.heap.size < w9.heap.size := by have := hb9.size; omega
  have hs9' : w.heap.size < w9.heap.size := by omega
  have HB9 := hide (below_on HB8.out hb9)
  have HG9 := hide (HG8.out.below hb9)
  have HS9 := hide (HS8.out.below hb9)
  have HR9b := hide (HR8b.out.below hb9)
  have HR9d := hide (HR8d.out.below hb9)
  have HT9 := hide (HT8.out.below hb9)
  have HM9 := hide (HM8.out.below hb9)
  clear hb9 HG8 HS8 HB8 HX8 HTX8 HR8a HR8b HR8c HR8d HT8 HM8
  have hxx : (x != x) = false := by simp
  have hjj : (j != j) = false := by simp
  go_wp2_with fail
  refine (sameU_any _ _ L2 w9 HR9d.out HR9b.out).mono ?_
  rintro e w10 ⟨rfl, hb10⟩
  have HTX10 := hide (box_keep hs9 hb10 HTX9.out)
  have HX10 := hide (box_keep hs9' hb10 HX9.out)
  obtain ⟨b0, b1, b2, b3⟩ := HTX10.out
  obtain ⟨d0, d1, d2, d3⟩ := HX10.out
  have HB10 := hide (below_on HB9.out hb10)
  have HG10 := hide (HG9.out.below hb10)
  have HS10 := hide (HS9.out.below hb10)
  have HT10 := hide (HT9.out.below hb10)
  have HM10 := hide (HM9.out.below hb10)
  clear hb10 HG9 HS9 HB9 HX9 HTX9 HR9b HR9d HT9 HM9
  go_wp2_with fail
  have HK := hide (twinKept_any N _ _ _ st tl wt g1 p1 g2 p2 g3 p3 w10 HT10.out HG10.out hst hto hwt)
  unfold tAgg gAgg at HK
  refine HK.out.mono ?_
  rintro e w11 ⟨rfl, hb11⟩
  have HB11 := hide (below_on HB10.out hb11)
  have HS11 := hide (HS10.out.below hb11)
  have HM11 := hide (HM10.out.below hb11)
  clear hb11 b0 b1 b2 b3 d0 d1 d2 d3 HK HG10 HS10 HB10 HT10 HM10 HTX10 HX10
  go_wp2_with fail
  refine (startsKept_any g6 c6 _ S w11 HM11.out HS11.out hS).mono ?_
  rintro e w12 ⟨rfl, hb12⟩
  have HB12 := hide (below_on HB11.out hb12)
  clear hb12
  go_wp2
  go_ret
  exact ⟨rfl, HB12.out⟩
end Go.Proofs.Ythoklgdlnmccmaa
