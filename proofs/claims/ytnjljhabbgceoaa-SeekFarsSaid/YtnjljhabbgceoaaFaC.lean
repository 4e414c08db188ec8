/- seek.Far. -/
import Derived.Test.YtnjljhabbgceoaaFaB
namespace Go.Proofs.Ytnjljhabbgceoaa
open Go.RowKit Go.Lib
set_option linter.unusedVariables false
set_option linter.unusedSimpArgs false
def farNo (N : Int) (st tl wt : List Int) (f c : Int) : Int := if (chk N st tl wt).1 ≠ 0 then (chk N st tl wt).1 else if ¬ (0 ≤ f ∧ f < N) then 30 else if c < 1 ∨ 64 < c then 22 else 0
noncomputable def farL (N : Int) (st tl wt : List Int) (f c : Int) : List Int := if farNo N st tl wt f c = 0 then far N.toNat st tl wt (c.toNat - 1) [f] else []
def FarPost (w : World) (l : List Int) (no : Int) (e : Ending) (w' : World) : Prop := ∃ v, e = .returned (.tuple #[v, .int .i64 no]) ∧ RowAt .i64 w' v l ∧ Below w.heap.size w w'
/-- The landmarks under way. -/
structure FS (n : Nat) (st tl wt : List Int) (f c : Nat) (l : List Int) : Prop where
  pos : 1 ≤ l.length
  le : l.length ≤ c
  vs : Vs n l
  ap : Apart l
  is : far n st tl wt (c - l.length) l = far n st tl wt (c - 1) [(f : Int)]
theorem FS.start {n : Nat} {st tl wt : List Int} {f c : Nat} (hf : f < n) (hc : 1 ≤ c) : FS n st tl wt f c [(f : Int)] := by
  refine ⟨by simp, by simpa using hc, fun j hj => ?_, fun i j h1 h2 => ?_, rfl⟩
  · simp at hj; subst hj; simp [at_]; omega
  · simp at h2; omega
theorem FS.step {n : Nat} {st tl wt : List Int} {f c : Nat} {l L : List Int} (h : FS n st tl wt f c l) (hw : ∀ e, 0 ≤ at_ wt e ∧ at_ wt e ≤ 18446744073709551615) (hn : 0 < n) (hlt : l.length < c) (hF : Found n st tl wt 1 (S0 l) L) (h0 : at_ L (amx L n) ≠ 0) : FS n st tl wt f c (l ++ [(amx L n : Int)]) := by
  refine ⟨by simp, by simp; omega, h.vs.snoc (amx_lt L hn), h.ap.snoc h.vs hF h0, ?_⟩
  rw [← h.is, List.length_append, List.length_singleton, show c - l.length = (c - (l.length + 1)) + 1 by omega]
  exact (far_step hw hF h0 _).symm
theorem FS.stop {n : Nat} {st tl wt : List Int} {f c : Nat} {l L : List Int} (h : FS n st tl wt f c l) (hw : ∀ e, 0 ≤ at_ wt e ∧ at_ wt e ≤ 18446744073709551615) (hF : Found n st tl wt 1 (S0 l) L) (h0 : at_ L (amx L n) = 0) : l = far n st tl wt (c - 1) [(f : Int)] := by
  rw [← h.is, far_stop hw hF h0]
theorem FS.full {n : Nat} {st tl wt : List Int} {f c : Nat} {l : List Int} (h : FS n st tl wt f c l) (hlt : ¬ l.length < c) : l = far n st tl wt (c - 1) [(f : Int)] := by
  rw [← h.is, show c - l.length = 0 by omega]
  rfl
theorem one_own (w : World) (x : Int) (base : Nat) (hb : base ≤ w.heap.size) : (w.alloc (.cells #[.int .i64 x] 3)).ownsRow base 3 1 (.slice (some ⟨w.heap.size, 0, none⟩) 1 1) 1 ([x].map (Value.int .i64)) :=
  ⟨by simp, .inr ⟨w.heap.size, 1, #[.int .i64 x], rfl, hb, heap_new _ _, Nat.le_refl _, by decide, by simp, by simp⟩⟩
theorem sdec {w : World} {base n c : Nat} {e : TypeId} {u v : Value} {xs : List Value} (h : w.ownsRow base e 1 v (n + 1) xs) (hu : slen u = n) (hk : n < c) : c - slen v < c - slen u := by
  rw [owns_slen h, hu]; omega
set_option maxRecDepth 100000 in
set_option maxHeartbeats 4000000 in
theorem far_good (n : Nat) (va vb vc : Value) (st tl wt : List Int) (f c : Nat) (w : World) (hg : GIs w n va vb vc st tl wt) (hgd : Good n st tl wt) (hchk : (chk n st tl wt).1 = 0) (hwb : ∀ e, 0 ≤ at_ wt e ∧ at_ wt e ≤ 18446744073709551615)
    (hf : f < n) (hc1 : 1 ≤ c) (hc2 : c ≤ 64) :
    Calls Try.prog 6 #[gAgg n va vb vc, .int .i64 f, .int .i64 c] w (FarPost w (far n st tl wt (c - 1) [(f : Int)]) 0) := by
  obtain ⟨i0, hi, hz0, hz1, hz2⟩ := info_parts Try.info3
  have hnle := hgd.n_le
  have HCK : Hid (∀ W, Below w.heap.size w W → Calls Try.prog 14 #[gAgg n va vb vc] W (ChkPost W (chk n st tl wt))) := fun W hb => check_all n va vb vc st tl wt W (hg.below hb) (by have := hgd.s_len; omega) (by have := hgd.m_le; omega) (by have := hgd.w_len; have := hgd.m_le; omega)
  have HIV := hide (fun W => isVtx_any n va vb vc f W)
  rw [decide_eq_true (show 0 ≤ (f : Int) ∧ (f : Int) < n by omega)] at HIV
  have HDS : Hid (∀ W vl l, Below w.heap.size w W → RowAt .i64 W vl l → Vs n l → l.length ≤ 64 → Calls Try.prog 16 #[gAgg n va vb vc, vl] W (DistPost W n st tl wt l)) := fun W vl l hb hl hv hle => dist_any n va vb vc st tl wt vl l W (hg.below hb) hgd hchk hwb hl hv hle
  have HCH := hide hchk
  have HWB := hide hwb
  obtain ⟨c0, c1, c2, c3, hb1, hs1⟩ := boxed w (.int .i64 n) va vb vc
  have HB1 := hide hb1
  have HBX := hide (And.intro c0 (And.intro c1 (And.intro c2 c3)))
  obtain ⟨C1, C2, hC⟩ : ∃ C1 C2, chk n st tl wt = (C1, C2) := ⟨_, _, rfl⟩
  have hC1 : C1 = 0 := by rw [hC] at hchk; exact hchk
  subst hC1
  rw [hC] at HCK
  unfold ChkPost at HCK
  simp only at HCK
  clear hb1 hgd hchk hwb hg hC HCH
  unfold gAgg at HCK HIV HDS ⊢
  obtain ⟨RS, hRS⟩ : ∃ RS, RS = far n st tl wt (c - 1) [(f : Int)] := ⟨_, rfl⟩
  have HRS := hide hRS
  rw [← hRS]
  clear hRS
  go_enter Try.func6, Try.ntmps6
  go_wp2_with fail
  generalize (w.alloc (.cells #[.int .i64 (n : Int), va, vb, vc] 25)) = w1 at HBX HB1 hs1 c0 c1 c2 c3 ⊢
  go_wp2_with (first
    | (go_at_call 14; refine (HCK.out _ HB1.out).mono ?_; rintro e w2 ⟨rfl, hb2⟩; have HBX2 := hide (box_keep hs1 hb2 HBX.out); have hs2 : w.heap.size < w2.heap.size := Nat.lt_of_lt_of_le hs1 hb2.size; have HB2 := hide (below_on HB1.out hb2); clear hb2 c0 c1 c2 c3; obtain ⟨c0, c1, c2, c3⟩ := HBX2.out)
    | (go_at_call 15; refine (HIV.out _).mono ?_; rintro e w3 ⟨rfl, hb3⟩; have HBX3 := hide (box_keep hs2 hb3 HBX2.out); have hs3 : w.heap.size < w3.heap.size := Nat.lt_of_lt_of_le hs2 hb3.size; have HB3 := hide (below_on HB2.out hb3); clear hb3 c0 c1 c2 c3)
    | fail)
  have hnpos : 0 < n := by omega
  go_loopw [10] (fun v wr => ∃ l, FS n st tl wt f c l ∧ wr.ownsRow w3.heap.size 3 1 v l.length (l.map (Value.int .i64)) ∧ Below w3.heap.size w3 wr) (fun v _ => c - slen v)
  case atStart => exact ⟨[(f : Int)], FS.start hf hc1, one_own w3 f _ (Nat.le_refl _), below_alloc (Below.refl _ _) _⟩
  case round =>
    obtain ⟨l, hFS, hown, hbel⟩ := hrel
    have HFS := hide hFS
    have HO := hide hown
    have HB := hide hbel
    obtain ⟨ao, cap, rfl⟩ := owns_len hown
    obtain ⟨k, hk⟩ : ∃ k, k = l.length := ⟨_, rfl⟩
    have HKL := hide hk
    have hk2 := hFS.le
    have hk1 := hFS.pos
    rw [← hk] at hk1 hk2 HO ⊢
    clear hFS hown hbel hk
    obtain ⟨x0, x1, x2, x3⟩ := box_keep hs3 HB.out HBX3.out
    by_cases hlt : k < c
    · have HD := hide (HDS.out wr _ l (below_on HB3.out HB.out) (RowAt.of_owns (by rw [← HKL.out]; exact HO.out)) HFS.out.vs (by rw [← HKL.out]; omega))
      go_wp2_with (first
        | (go_at_call 16; refine HD.out.mono ?_; rintro e w5 ⟨G, L, rfl, hG, hA, hF, hb5⟩; have HA := hide hA; have HF := hide hF; have HB5 := hide (below_on HB.out hb5); have HO5 := hide (owns_below HO.out hb5); have HMX := hide (max_any G n L w5 hA hF.len hnpos hnle); have HIX := hide (index_any G n L w5 hA hF.len hnpos hnle); clear hG hA hF hb5 x0 x1 x2 x3; obtain ⟨M, hM⟩ : ∃ M, M = at_ L (amx L n) := ⟨_, rfl⟩; obtain ⟨K, hK⟩ : ∃ K, K = amx L n := ⟨_, rfl⟩; rw [← hM] at HMX HIX; rw [← hK] at HIX; have HM := hide hM; have HK := hide hK; clear hM hK)
        | (go_at_call 17; refine HMX.out.mono ?_; rintro e w6 ⟨rfl, rfl⟩)
        | fail)
      · rename_i hM0
        have hM1 : M = 0 := by simpa using hM0
        have HE := hide (HFS.out.stop HWB.out HF.out (by rw [← HM.out]; exact hM1))
        go_ret2
        refine ⟨_, rfl, ?_, below_on HB3.out HB5.out⟩
        rw [HRS.out, ← HE.out, HKL.out]
        exact RowAt.of_owns (by have := HO5.out; rwa [HKL.out] at this)
      · rename_i hM0 _ _
        have hM1 : ¬ M = 0 := by simpa using hM0
        have HN := hide (HFS.out.step HWB.out hnpos (by rw [← HKL.out]; exact hlt) HF.out (by rw [← HM.out]; exact hM1))
        clear hM1 hM0
        have hB5 := HB5.out.size
        go_wp2_with (first
          | (go_at_call 18; refine HIX.out.mono ?_; rintro e w7 ⟨rfl, rfl⟩)
          | (at_builtin; refine wpList_append_own _ rfl (.tmp 44) (.tmp 48) 22 rfl _ 3 i0 (.int .i64 0) 1 8 Try.underlying22 hi hz0 hz1 hz2 rfl (by decide) _ _ _ rfl (HO5.out.alloc _) ⟨w7.heap.size, 0, none⟩ 1 1 [.int .i64 (K : Int)] rfl rfl (one_at w7 _ _) (by simp [Value.oneCell']) (by unfold maxLen; omega) (by omega) (by simp; omega) ?_; intro u1 w8 hown hgrow hq; have HO8 := hide hown; have HB8 := hide (own_below HB5.out HO5.out hgrow); clear hown hgrow hq)
          | fail)
        have h9 := HO8.out
        refine ⟨⟨_, HN.out, ?_, HB8.out⟩, ?_⟩
        · rw [← HK.out, List.length_append, List.length_singleton, ← HKL.out, List.map_append]
          exact h9
        · exact sdec h9 rfl hlt
    · have HE := hide (HFS.out.full (by rw [← HKL.out]; exact hlt))
      go_wp2
      go_ret2
      refine ⟨_, rfl, ?_, below_on HB3.out HB.out⟩
      rw [HRS.out, ← HE.out, HKL.out]
      exact RowAt.of_owns (by have := HO.out; rwa [HKL.out] at this)
set_option maxRecDepth 100000 in
set_option maxHeartbeats 4000000 in
theorem far_bad (N : Int) (va vb vc : Value) (st tl wt : List Int) (f c : Int) (w : World) (hg : GIs w N va vb vc st tl wt) (hst : st.length ≤ 17592186044416) (hto : tl.length ≤ 17592186044416) (hwt : wt.length ≤ 17592186044416) (hno : farNo N st tl wt f c ≠ 0) :
    Calls Try.prog 6 #[gAgg N va vb vc, .int .i64 f, .int .i64 c] w (FarPost w [] (farNo N st tl wt f c)) := by
  have HCK : Hid (∀ W, Below w.heap.size w W → Calls Try.prog 14 #[gAgg N va vb vc] W (ChkPost W (chk N st tl wt))) := fun W hb => check_all N va vb vc st tl wt W (hg.below hb) hst hto hwt
  have HIV := hide (fun W => isVtx_any N va vb vc f W)
  obtain ⟨c0, c1, c2, c3, hb1, hs1⟩ := boxed w (.int .i64 N) va vb vc
  have HB1 := hide hb1
  have HBX := hide (And.intro c0 (And.intro c1 (And.intro c2 c3)))
  have HF : Hid (farNo N st tl wt f c = if (chk N st tl wt).1 ≠ 0 then (chk N st tl wt).1 else if ¬ (0 ≤ f ∧ f < N) then 30 else if c < 1 ∨ 64 < c then 22 else 0) := rfl
  obtain ⟨FN, hFN⟩ : ∃ FN, FN = farNo N st tl wt f c := ⟨_, rfl⟩
  rw [← hFN] at HF hno ⊢
  obtain ⟨C1, C2, hC⟩ : ∃ C1 C2, chk N st tl wt = (C1, C2) := ⟨_, _, rfl⟩
  rw [hC] at HCK HF
  unfold ChkPost at HCK
  simp only at HCK HF
  clear hb1 hg hC hFN
  unfold gAgg at HCK HIV ⊢
  by_cases hc : C1 = 0
  · rw [if_neg (fun h => h hc)] at HF
    subst hc
    by_cases hv : 0 ≤ f ∧ f < N
    · rw [if_neg (fun h => h hv)] at HF
      rw [decide_eq_true hv] at HIV
      by_cases hcc : c < 1 ∨ 64 < c
      · rw [if_pos hcc] at HF
        have e := HF.out
        subst e
        clear HF hno hv
        rcases Int.lt_or_le c 1 with hc1 | hc1
        · go_enter Try.func6, Try.ntmps6
          go_wp2_with fail
          generalize (w.alloc (.cells #[.int .i64 N, va, vb, vc] 25)) = w1 at HBX HB1 hs1 c0 c1 c2 c3 ⊢
          go_wp2_with (first
            | (go_at_call 14; refine (HCK.out _ HB1.out).mono ?_; rintro e w2 ⟨rfl, hb2⟩; have HBX2 := hide (box_keep hs1 hb2 HBX.out); have hs2 : w.heap.size < w2.heap.size := Nat.lt_of_lt_of_le hs1 hb2.size; have HB2 := hide (below_on HB1.out hb2); clear hb2 c0 c1 c2 c3; obtain ⟨c0, c1, c2, c3⟩ := HBX2.out)
            | (go_at_call 15; refine (HIV.out _).mono ?_; rintro e w3 ⟨rfl, hb3⟩; have HB3 := hide (below_on HB2.out hb3); clear hb3 c0 c1 c2 c3)
            | fail)
          go_ret2
          exact ⟨_, rfl, RowAt.nil _, HB3.out⟩
        · have hc2 : 64 < c := by omega
          go_enter Try.func6, Try.ntmps6
          go_wp2_with fail
          generalize (w.alloc (.cells #[.int .i64 N, va, vb, vc] 25)) = w1 at HBX HB1 hs1 c0 c1 c2 c3 ⊢
          go_wp2_with (first
            | (go_at_call 14; refine (HCK.out _ HB1.out).mono ?_; rintro e w2 ⟨rfl, hb2⟩; have HBX2 := hide (box_keep hs1 hb2 HBX.out); have hs2 : w.heap.size < w2.heap.size := Nat.lt_of_lt_of_le hs1 hb2.size; have HB2 := hide (below_on HB1.out hb2); clear hb2 c0 c1 c2 c3; obtain ⟨c0, c1, c2, c3⟩ := HBX2.out)
            | (go_at_call 15; refine (HIV.out _).mono ?_; rintro e w3 ⟨rfl, hb3⟩; have HB3 := hide (below_on HB2.out hb3); clear hb3 c0 c1 c2 c3)
            | fail)
          go_ret2
          exact ⟨_, rfl, RowAt.nil _, HB3.out⟩
      · rw [if_neg hcc] at HF
        exact absurd HF.out hno
    · rw [if_pos hv] at HF
      rw [decide_eq_false hv] at HIV
      have e := HF.out
      subst e
      clear HF hno hv
      go_enter Try.func6, Try.ntmps6
      go_wp2_with fail
      generalize (w.alloc (.cells #[.int .i64 N, va, vb, vc] 25)) = w1 at HBX HB1 hs1 c0 c1 c2 c3 ⊢
      go_wp2_with (first
        | (go_at_call 14; refine (HCK.out _ HB1.out).mono ?_; rintro e w2 ⟨rfl, hb2⟩; have HBX2 := hide (box_keep hs1 hb2 HBX.out); have hs2 : w.heap.size < w2.heap.size := Nat.lt_of_lt_of_le hs1 hb2.size; have HB2 := hide (below_on HB1.out hb2); clear hb2 c0 c1 c2 c3; obtain ⟨c0, c1, c2, c3⟩ := HBX2.out)
        | (go_at_call 15; refine (HIV.out _).mono ?_; rintro e w3 ⟨rfl, hb3⟩; have HB3 := hide (below_on HB2.out hb3); clear hb3 c0 c1 c2 c3)
        | fail)
      go_ret2
      exact ⟨_, rfl, RowAt.nil _, HB3.out⟩
  · rw [if_pos hc] at HF
    have e := HF.out
    subst e
    have hcb : (FN != 0) = true := by simp [hc]
    clear HF hno
    go_enter Try.func6, Try.ntmps6
    go_wp2_with fail
    generalize (w.alloc (.cells #[.int .i64 N, va, vb, vc] 25)) = w1 at HBX HB1 hs1 c0 c1 c2 c3 ⊢
    go_wp2_with (first
      | (go_at_call 14; refine (HCK.out _ HB1.out).mono ?_; rintro e w2 ⟨rfl, hb2⟩; have HB2 := hide (below_on HB1.out hb2); clear hb2 c0 c1 c2 c3)
      | fail)
    go_ret2
    exact ⟨_, rfl, RowAt.nil _, HB2.out⟩
end Go.Proofs.Ytnjljhabbgceoaa
