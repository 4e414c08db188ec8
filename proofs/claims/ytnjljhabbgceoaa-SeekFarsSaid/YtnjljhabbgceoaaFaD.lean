/- The reference's Far. -/
import Derived.Test.YtnjljhabbgceoaaFaC
namespace Go.Proofs.Ytnjljhabbgceoaa
open Go.RowKit Go.Lib
set_option linter.unusedVariables false
set_option linter.unusedSimpArgs false
theorem SAt.of_owns {w : World} {base : Nat} {v : Value} {l : List Pr} (h : w.ownsRow base 40 2 v l.length (sCells l)) : SAt w v l := by
  rcases SRow.of_owns h with ⟨rfl, rfl⟩ | ⟨g, c, rfl, h1, h2, h3⟩
  · exact ⟨none, 0, rfl, Nat.le_refl _, by omega, fun i hi => by simp at hi⟩
  · exact ⟨_, c, rfl, h1, h2, fun i hi => ⟨g, 0, rfl, by simpa using (h3 i hi).1, by simpa using (h3 i hi).2⟩⟩
theorem one_own2 (w : World) (x : Int) (base : Nat) (hb : base ≤ w.heap.size) : (w.alloc (.cells #[.int .i64 x, .int .u64 0] 40)).ownsRow base 40 2 (.slice (some ⟨w.heap.size, 0, none⟩) 1 1) 1 (sCells (S0 [x])) :=
  ⟨by simp [sCells, S0], .inr ⟨w.heap.size, 1, #[.int .i64 x, .int .u64 0], rfl, hb, heap_new _ _, Nat.le_refl _, by decide, by simp, by simp [sCells, S0]⟩⟩
theorem owns_other {w w2 : World} {B n1 n2 c1 c2 : Nat} {e1 e2 : TypeId} {s v : Value} {xs ys : List Value} {p : Obj} (hne : e1 ≠ e2) (h1 : w.ownsRow B e1 c1 s n1 xs) (h2 : w.ownsRow B e2 c2 v n2 ys) (hg : (w.alloc p).grownBy w2 v.ownBlock) : w2.ownsRow B e1 c1 s n1 xs := by
  obtain ⟨hl, h0 | ⟨g, cap, cur, rfl, hB, hh, r⟩⟩ := h1
  · exact ⟨hl, .inl h0⟩
  · refine ⟨hl, .inr ⟨g, cap, cur, rfl, hB, ?_, r⟩⟩
    have hlt := lt_of_heap hh
    rw [hg.block g (by simp; omega) ?_, ← hh]
    · exact (below_alloc (Below.refl _ _) _ : Below w.heap.size w (w.alloc p)).block g hlt
    · intro e
      obtain ⟨_, ⟨rfl, _⟩ | ⟨g', cap', cur', rfl, _, hh', _⟩⟩ := h2
      · simp [Value.ownBlock] at e
      · simp [Value.ownBlock] at e
        subst e
        rw [hh] at hh'
        simp at hh'
        exact hne hh'.2
/-- The two rows of the reference's Far. -/
structure RM (w3 wr : World) (v s : Value) (l : List Int) : Prop where
  own : wr.ownsRow w3.heap.size 3 1 v l.length (l.map (Value.int .i64))
  st : wr.ownsRow w3.heap.size 40 2 s l.length (sCells (S0 l))
  bel : Below w3.heap.size w3 wr
theorem RM.below {w3 wr w' : World} {v s : Value} {l : List Int} (h : RM w3 wr v s l) (hb : Below wr.heap.size wr w') : RM w3 w' v s l := ⟨owns_below h.own hb, owns_below h.st hb, below_on h.bel hb⟩
theorem RM.start (w3 : World) (f : Int) : RM w3 ((w3.alloc (.cells #[.int .i64 f] 3)).alloc (.cells #[.int .i64 f, .int .u64 0] 40)) (.slice (some ⟨w3.heap.size, 0, none⟩) 1 1) (.slice (some ⟨w3.heap.size + 1, 0, none⟩) 1 1) [f] := by
  refine ⟨?_, ?_, below_alloc (below_alloc (Below.refl _ _) _) _⟩
  · exact (one_own w3 f _ (Nat.le_refl _)).alloc _
  · have h := one_own2 (w3.alloc (.cells #[.int .i64 f] 3)) f w3.heap.size (by simp)
    have hs : (w3.alloc (.cells #[.int .i64 f] 3)).heap.size = w3.heap.size + 1 := by simp
    rw [hs] at h
    exact h
theorem beg_ex {n : Nat} {S : List Pr} (hs : Sok n S) : ∀ j, j ≤ S.length → ∃ L, Beg n S L j
  | 0, _ => ⟨_, beg_zero n S⟩
  | j + 1, h => by
    obtain ⟨L, hL⟩ := beg_ex hs j (by omega)
    have h1 := (hs j (by omega)).1
    exact ⟨_, beg_step hL (by omega) hs (v := (sAt S j).1.toNat) (by omega)⟩
theorem found_ex {n : Nat} {st tl wt l : List Int} (hgd : Good n st tl wt) (hwb : ∀ e, 0 ≤ at_ wt e ∧ at_ wt e ≤ 18446744073709551615) (hv : Vs n l) : ∃ F, Found n st tl wt 1 (S0 l) F := by
  obtain ⟨L, hL⟩ := beg_ex hv.sok (S0 l).length (Nat.le_refl _)
  refine found_is hgd hwb (fun j hj => ?_) _ L (Nat.le_refl _) (LL.beg hL)
  have h2 := (hv.sok j hj).2
  exact ⟨h2.1, by omega⟩
theorem s2_shape {w : World} {base n : Nat} {e : TypeId} {v : Value} {xs : List Value} (h : w.ownsRow base e 2 v n xs) : ∃ ao c, v = .slice ao n c := by
  obtain ⟨_, ⟨rfl, rfl⟩ | ⟨g, cap, cur, rfl, _⟩⟩ := h
  · exact ⟨none, 0, rfl⟩
  · exact ⟨_, _, rfl⟩
set_option maxRecDepth 100000 in
set_option maxHeartbeats 8000000 in
theorem rfar_good (n : Nat) (va vb vc : Value) (st tl wt : List Int) (f c : Nat) (w : World) (hg : GIs w n va vb vc st tl wt) (hgd : Good n st tl wt) (hchk : (chk n st tl wt).1 = 0) (hwb : ∀ e, 0 ≤ at_ wt e ∧ at_ wt e ≤ 18446744073709551615)
    (hf : f < n) (hc1 : 1 ≤ c) (hc2 : c ≤ 64) :
    Calls Try.prog 4 #[gAgg n va vb vc, .int .i64 f, .int .i64 c] w (FarPost w (far n st tl wt (c - 1) [(f : Int)]) 0) := by
  obtain ⟨i0, hi, hz0, hz1, hz2⟩ := info_parts Try.info3
  obtain ⟨i1, hj, hy0, hy1, hy2⟩ := info_parts Try.info40
  have hnle := hgd.n_le
  have HCK : Hid (∀ W, Below w.heap.size w W → Calls Try.prog 9 #[gAgg n va vb vc] W (ChkPost W (chk n st tl wt))) := fun W hb => refCheck_all n va vb vc st tl wt W (hg.below hb) (by have := hgd.s_len; omega) (by have := hgd.m_le; omega) (by have := hgd.w_len; have := hgd.m_le; omega)
  have HIV := hide (fun W => rVtx_any n va vb vc f W)
  rw [decide_eq_true (show 0 ≤ (f : Int) ∧ (f : Int) < n by omega)] at HIV
  have HDS : Hid (∀ W sv l, Below w.heap.size w W → SAt W sv (S0 l) → Vs n l → l.length ≤ 64 → Calls Try.prog 11 #[gAgg n va vb vc, .int .i64 1, sv] W (DistPost W n st tl wt l)) := fun W sv l hb hs hv hle => least_any n va vb vc st tl wt 1 sv (S0 l) W (hg.below hb) hgd hwb hs hv.sok (by rw [S0_len]; omega)
  have HWB := hide hwb
  have HEX : Hid (∀ l, Vs n l → ∃ F, Found n st tl wt 1 (S0 l) F) := fun l hv => found_ex hgd hwb hv
  have st0 : Hid True := trivial
  have st1 : Hid True := trivial
  obtain ⟨c0, c1, c2, c3, hb1, hs1⟩ := boxed w (.int .i64 n) va vb vc
  have HB1 := hide hb1
  have HBX := hide (And.intro c0 (And.intro c1 (And.intro c2 c3)))
  obtain ⟨C1, C2, hC⟩ : ∃ C1 C2, chk n st tl wt = (C1, C2) := ⟨_, _, rfl⟩
  have hC1 : C1 = 0 := by rw [hC] at hchk; exact hchk
  subst hC1
  rw [hC] at HCK
  unfold ChkPost at HCK
  simp only at HCK
  clear hb1 hgd hchk hwb hg hC
  unfold gAgg at HCK HIV HDS ⊢
  obtain ⟨RS, hRS⟩ : ∃ RS, RS = far n st tl wt (c - 1) [(f : Int)] := ⟨_, rfl⟩
  have HRS := hide hRS
  rw [← hRS]
  clear hRS
  go_enter Try.func4, Try.ntmps4
  go_wp2_with fail
  generalize (w.alloc (.cells #[.int .i64 (n : Int), va, vb, vc] 25)) = w1 at HBX HB1 hs1 c0 c1 c2 c3 ⊢
  go_wp2_with (first
    | (go_at_call 9; refine (HCK.out _ HB1.out).mono ?_; rintro e w2 ⟨rfl, hb2⟩; have HBX2 := hide (box_keep hs1 hb2 HBX.out); have hs2 : w.heap.size < w2.heap.size := Nat.lt_of_lt_of_le hs1 hb2.size; have HB2 := hide (below_on HB1.out hb2); clear hb2 c0 c1 c2 c3; obtain ⟨c0, c1, c2, c3⟩ := HBX2.out)
    | (go_at_call 10; refine (HIV.out _).mono ?_; rintro e w3 ⟨rfl, hb3⟩; have HBX3 := hide (box_keep hs2 hb3 HBX2.out); have hs3 : w.heap.size < w3.heap.size := Nat.lt_of_lt_of_le hs2 hb3.size; have HB3 := hide (below_on HB2.out hb3); clear hb3 c0 c1 c2 c3)
    | fail)
  have hnpos : 0 < n := by omega
  go_loopw [10, 11] (fun v s wr => ∃ l, FS n st tl wt f c l ∧ RM w3 wr v s l) (fun v _ _ => c - slen v)
  case atStart => exact ⟨[(f : Int)], FS.start hf hc1, RM.start w3 f⟩
  case round =>
    obtain ⟨l, hFS, hM⟩ := hrel
    have HFS := hide hFS
    have HM := hide hM
    obtain ⟨ao, cap, rfl⟩ := owns_len hM.own
    obtain ⟨so, scap, rfl⟩ := s2_shape hM.st
    obtain ⟨x0, x1, x2, x3⟩ := box_keep hs3 hM.bel HBX3.out
    obtain ⟨k, hk⟩ : ∃ k, k = l.length := ⟨_, rfl⟩
    have HKL := hide hk
    have hk2 := hFS.le
    have hk1 := hFS.pos
    rw [← hk] at hk1 hk2 HM ⊢
    clear hFS hM hk
    by_cases hlt : k < c
    · by_cases hkn : k < n
      · have HD := hide (HDS.out wr _ l (below_on HB3.out HM.out.bel) (SAt.of_owns (by rw [S0_len]; exact HM.out.st)) HFS.out.vs (by rw [← HKL.out]; omega))
        go_wp2_with (first
          | (go_at_call 11; refine HD.out.mono ?_; rintro e w5 ⟨G, L, rfl, hG, hA, hF, hb5⟩; have HA := hide hA; have HF := hide hF; have HM5 := hide (HM.out.below hb5); clear hG hA hF hb5 x0 x1 x2 x3)
          | fail)
        have HB5 := hide (below_on HB3.out HM5.out.bel)
        have HBX5 := hide (box_keep hs3 HM5.out.bel HBX3.out)
        have hs5 : w.heap.size < w5.heap.size := Nat.lt_of_lt_of_le hs3 HM5.out.bel.size
        go_loopw [13, 14] (fun nx t wi => ∃ i : Nat, 1 ≤ i ∧ i ≤ n ∧ t = .int .i64 (i : Int) ∧ nx = .int .i64 (amx L i : Int) ∧ Below w5.heap.size w5 wi) (fun _ t _ => n - (RowKit.intOf t).toNat)
        case atStart => exact ⟨1, Nat.le_refl _, hnpos, rfl, by simp [amx], Below.refl _ _⟩
        case round =>
          obtain ⟨i, hi1, hin, rfl, rfl, hbi⟩ := hrel
          have HBI := hide hbi
          have hA6 : ArrU wr G L := (hbi.block G (lt_of_heap HA.out)).trans HA.out
          obtain ⟨x0, x1, x2, x3⟩ := box_keep hs5 hbi HBX5.out
          have hJn : amx L i < n := Nat.lt_of_lt_of_le (amx_lt L (by omega)) hin
          have cJ := hA6.cell (amx L i) (by rw [HF.out.len]; exact hJn)
          clear hbi
          by_cases hil : i < n
          · have ci := hA6.cell i (by rw [HF.out.len]; exact hil)
            by_cases hx : at_ L (amx L i) < at_ L i
            · have HX : Hid (amx L (i + 1) = i) := by show (if at_ L (amx L i) < at_ L i then i else amx L i) = i; rw [if_pos hx]
              obtain ⟨X, hX⟩ : ∃ X, X = at_ L i := ⟨_, rfl⟩
              obtain ⟨Y, hY⟩ : ∃ Y, Y = at_ L (amx L i) := ⟨_, rfl⟩
              obtain ⟨J, hJ⟩ : ∃ J, J = amx L i := ⟨_, rfl⟩
              rw [← hX, ← hY] at hx
              rw [← hX] at ci
              rw [← hY, ← hJ] at cJ
              rw [← hJ] at hJn ⊢
              clear hX hY hJ hA6
              go_wp2_with fail
              go_region
              all_goals
                go_wp2_with fail
                exact ⟨⟨i + 1, by omega, hil, by simp, by rw [HX.out], HBI.out.drew⟩, mdec hil⟩
            · have HX : Hid (amx L (i + 1) = amx L i) := by show (if at_ L (amx L i) < at_ L i then i else amx L i) = amx L i; rw [if_neg hx]
              obtain ⟨X, hX⟩ : ∃ X, X = at_ L i := ⟨_, rfl⟩
              obtain ⟨Y, hY⟩ : ∃ Y, Y = at_ L (amx L i) := ⟨_, rfl⟩
              obtain ⟨J, hJ⟩ : ∃ J, J = amx L i := ⟨_, rfl⟩
              rw [← hX, ← hY] at hx
              rw [← hX] at ci
              rw [← hY, ← hJ] at cJ
              rw [← hJ] at hJn HX ⊢
              clear hX hY hJ hA6
              go_wp2_with fail
              go_region
              all_goals
                go_wp2_with fail
                exact ⟨⟨i + 1, by omega, hil, by simp, by rw [HX.out], HBI.out.drew⟩, mdec hil⟩
          · obtain rfl : i = n := by omega
            have HM6 := hide (HM5.out.below HBI.out)
            have HST := hide (HFS.out.stop HWB.out HF.out)
            have HSP := hide (HFS.out.step HWB.out hnpos (by rw [← HKL.out]; exact hlt) HF.out)
            obtain ⟨Y, hY⟩ : ∃ Y, Y = at_ L (amx L i) := ⟨_, rfl⟩
            obtain ⟨J, hJ⟩ : ∃ J, J = amx L i := ⟨_, rfl⟩
            rw [← hY] at HST HSP
            rw [← hJ] at HSP
            rw [← hY, ← hJ] at cJ
            rw [← hJ] at hJn ⊢
            clear hY hJ hA6
            by_cases hY0 : Y = 0
            · have HE := hide (HST.out hY0)
              subst hY0
              clear HST HSP
              go_wp2_with fail
              go_ret2
              refine ⟨_, rfl, ?_, below_on HB3.out HM6.out.bel⟩
              rw [HRS.out, ← HE.out, HKL.out]
              exact RowAt.of_owns (by have := HM6.out.own; rwa [HKL.out] at this)
            · have HN := hide (HSP.out hY0)
              have hYb : (Y == 0) = false := by simp [hY0]
              have hB6 := HM6.out.bel.size
              clear HST HSP hY0
              have HOL := hide (show wr.ownsRow w3.heap.size 3 1 (.slice ao k cap) k (l.map (Value.int .i64)) by have := HM6.out.own; rwa [← HKL.out] at this)
              have HOS := hide (show wr.ownsRow w3.heap.size 40 2 (.slice so k scap) k (sCells (S0 l)) by have := HM6.out.st; rwa [← HKL.out] at this)
              have hkk : k ≤ 64 := by omega
              go_wp2_with (first
                | (clear st0; at_builtin; refine wpList_append_own _ rfl (.tmp 74) (.tmp 76) 22 rfl _ 3 i0 (.int .i64 0) 1 8 Try.underlying22 hi hz0 hz1 hz2 rfl (by decide) _ _ _ rfl (HOL.out.alloc _) ⟨wr.heap.size, 0, none⟩ 1 1 [.int .i64 (J : Int)] rfl rfl (one_at wr _ _) (by simp [Value.oneCell']) (by unfold maxLen; omega) (by omega) (by simp; omega) ?_; intro u1 w8 hown hgrow hq; have HO8 := hide hown; have HS8 := hide (owns_other (by decide) HOS.out HOL.out hgrow); have HB8 := hide (own_below HM6.out.bel HOL.out hgrow); have hB8 := HB8.out.size; obtain ⟨ua, uc, rfl⟩ := owns_len hown; clear hown hgrow hq)
                | (clear st1; at_builtin; refine wpList_append_own _ rfl (.tmp 78) (.tmp 81) 41 rfl _ 40 i1 (.agg #[.int .i64 0, .int .u64 0]) 2 16 Try.underlying41 hj hy0 hy1 hy2 rfl (by decide) _ _ _ rfl (HS8.out.alloc _) ⟨w8.heap.size, 0, none⟩ 1 1 [.int .i64 (J : Int), .int .u64 0] rfl rfl (two_at w8 _ _ _) (by simp [Value.oneCell']) (by unfold maxLen; omega) (by omega) (by simp; omega) ?_; intro u2 w9 hown hgrow hq; have HS9 := hide hown; have HO9 := hide (owns_other (by decide) HO8.out HS8.out hgrow); have HB9 := hide (own_below HB8.out HS8.out hgrow); clear hown hgrow hq)
                | fail)
              have h9 := HO9.out
              refine ⟨⟨_, HN.out, ?_, ?_, HB9.out⟩, ?_⟩
              · rw [List.length_append, List.length_singleton, ← HKL.out, List.map_append]
                exact h9
              · rw [List.length_append, List.length_singleton, ← HKL.out, S0_snoc, sCells_snoc]
                exact HS9.out
              · exact sdec h9 rfl hlt
      · have HE : Hid (l = far n st tl wt (c - 1) [(f : Int)]) := by
          obtain ⟨F, hF⟩ := HEX.out l HFS.out.vs
          exact HFS.out.stop HWB.out hF (all_zero HFS.out.ap HFS.out.vs hF (by rw [← HKL.out]; omega) hnpos)
        go_wp2
        go_ret2
        refine ⟨_, rfl, ?_, below_on HB3.out HM.out.bel⟩
        rw [HRS.out, ← HE.out, HKL.out]
        exact RowAt.of_owns (by have := HM.out.own; rwa [HKL.out] at this)
    · have HE := hide (HFS.out.full (by rw [← HKL.out]; exact hlt))
      go_wp2
      go_ret2
      refine ⟨_, rfl, ?_, below_on HB3.out HM.out.bel⟩
      rw [HRS.out, ← HE.out, HKL.out]
      exact RowAt.of_owns (by have := HM.out.own; rwa [HKL.out] at this)
set_option maxRecDepth 100000 in
set_option maxHeartbeats 4000000 in
theorem rfar_bad (N : Int) (va vb vc : Value) (st tl wt : List Int) (f c : Int) (w : World) (hg : GIs w N va vb vc st tl wt) (hst : st.length ≤ 17592186044416) (hto : tl.length ≤ 17592186044416) (hwt : wt.length ≤ 17592186044416) (hno : farNo N st tl wt f c ≠ 0) :
    Calls Try.prog 4 #[gAgg N va vb vc, .int .i64 f, .int .i64 c] w (FarPost w [] (farNo N st tl wt f c)) := by
  have HCK : Hid (∀ W, Below w.heap.size w W → Calls Try.prog 9 #[gAgg N va vb vc] W (ChkPost W (chk N st tl wt))) := fun W hb => refCheck_all N va vb vc st tl wt W (hg.below hb) hst hto hwt
  have HIV := hide (fun W => rVtx_any N va vb vc f W)
  obtain ⟨c0, c1, c2, c3, hb1, hs1⟩ := boxed w (.int .i64 N) va vb vc
  have HB1 := hide hb1
  have HBX := hide (And.intro c0 (And.intro c1 (And.intro c2 c3)))
  have HF : Hid (farNo N st tl wt f c = if (chk N st tl wt).1 ≠ 0 then (chk N st tl wt).1 else if ¬ (0 ≤ f ∧ f < N) then 30 else if c < 1 ∨ 64 < c then 22 else 0) := rfl
  obtain ⟨FN, hFN⟩ : ∃ FN, FN = farNo N st tl wt f c := ⟨_, rfl⟩
  rw [← hFN] at HF hno ⊢
  obtain ⟨C1, C2, hC⟩ : ∃ C1 C2, chk N st tl wt = (C1, C2) := ⟨_, _, rfl⟩
  rw [hC] at HCK HF
  unfold ChkPost at HCK
  simp only at HCK HF
  clear hb1 hg hC hFN
  unfold gAgg at HCK HIV ⊢
  by_cases hc : C1 = 0
  · rw [if_neg (fun h => h hc)] at HF
    subst hc
    by_cases hv : 0 ≤ f ∧ f < N
    · rw [if_neg (fun h => h hv)] at HF
      rw [decide_eq_true hv] at HIV
      by_cases hcc : c < 1 ∨ 64 < c
      · rw [if_pos hcc] at HF
        have e := HF.out
        subst e
        clear HF hno hv
        rcases Int.lt_or_le c 1 with hc1 | hc1
        · go_enter Try.func4, Try.ntmps4
          go_wp2_with fail
          generalize (w.alloc (.cells #[.int .i64 N, va, vb, vc] 25)) = w1 at HBX HB1 hs1 c0 c1 c2 c3 ⊢
          go_wp2_with (first
            | (go_at_call 9; refine (HCK.out _ HB1.out).mono ?_; rintro e w2 ⟨rfl, hb2⟩; have HBX2 := hide (box_keep hs1 hb2 HBX.out); have hs2 : w.heap.size < w2.heap.size := Nat.lt_of_lt_of_le hs1 hb2.size; have HB2 := hide (below_on HB1.out hb2); clear hb2 c0 c1 c2 c3; obtain ⟨c0, c1, c2, c3⟩ := HBX2.out)
            | (go_at_call 10; refine (HIV.out _).mono ?_; rintro e w3 ⟨rfl, hb3⟩; have HB3 := hide (below_on HB2.out hb3); clear hb3 c0 c1 c2 c3)
            | fail)
          go_ret2
          exact ⟨_, rfl, RowAt.nil _, HB3.out⟩
        · have hc2 : 64 < c := by omega
          go_enter Try.func4, Try.ntmps4
          go_wp2_with fail
          generalize (w.alloc (.cells #[.int .i64 N, va, vb, vc] 25)) = w1 at HBX HB1 hs1 c0 c1 c2 c3 ⊢
          go_wp2_with (first
            | (go_at_call 9; refine (HCK.out _ HB1.out).mono ?_; rintro e w2 ⟨rfl, hb2⟩; have HBX2 := hide (box_keep hs1 hb2 HBX.out); have hs2 : w.heap.size < w2.heap.size := Nat.lt_of_lt_of_le hs1 hb2.size; have HB2 := hide (below_on HB1.out hb2); clear hb2 c0 c1 c2 c3; obtain ⟨c0, c1, c2, c3⟩ := HBX2.out)
            | (go_at_call 10; refine (HIV.out _).mono ?_; rintro e w3 ⟨rfl, hb3⟩; have HB3 := hide (below_on HB2.out hb3); clear hb3 c0 c1 c2 c3)
            | fail)
          go_ret2
          exact ⟨_, rfl, RowAt.nil _, HB3.out⟩
      · rw [if_neg hcc] at HF
        exact absurd HF.out hno
    · rw [if_pos hv] at HF
      rw [decide_eq_false hv] at HIV
      have e := HF.out
      subst e
      clear HF hno hv
      go_enter Try.func4, Try.ntmps4
      go_wp2_with fail
      generalize (w.alloc (.cells #[.int .i64 N, va, vb, vc] 25)) = w1 at HBX HB1 hs1 c0 c1 c2 c3 ⊢
      go_wp2_with (first
        | (go_at_call 9; refine (HCK.out _ HB1.out).mono ?_; rintro e w2 ⟨rfl, hb2⟩; have HBX2 := hide (box_keep hs1 hb2 HBX.out); have hs2 : w.heap.size < w2.heap.size := Nat.lt_of_lt_of_le hs1 hb2.size; have HB2 := hide (below_on HB1.out hb2); clear hb2 c0 c1 c2 c3; obtain ⟨c0, c1, c2, c3⟩ := HBX2.out)
        | (go_at_call 10; refine (HIV.out _).mono ?_; rintro e w3 ⟨rfl, hb3⟩; have HB3 := hide (below_on HB2.out hb3); clear hb3 c0 c1 c2 c3)
        | fail)
      go_ret2
      exact ⟨_, rfl, RowAt.nil _, HB3.out⟩
  · rw [if_pos hc] at HF
    have e := HF.out
    subst e
    have hcb : (FN != 0) = true := by simp [hc]
    clear HF hno
    go_enter Try.func4, Try.ntmps4
    go_wp2_with fail
    generalize (w.alloc (.cells #[.int .i64 N, va, vb, vc] 25)) = w1 at HBX HB1 hs1 c0 c1 c2 c3 ⊢
    go_wp2_with (first
      | (go_at_call 9; refine (HCK.out _ HB1.out).mono ?_; rintro e w2 ⟨rfl, hb2⟩; have HB2 := hide (below_on HB1.out hb2); clear hb2 c0 c1 c2 c3)
      | fail)
    go_ret2
    exact ⟨_, rfl, RowAt.nil _, HB2.out⟩
end Go.Proofs.Ytnjljhabbgceoaa
