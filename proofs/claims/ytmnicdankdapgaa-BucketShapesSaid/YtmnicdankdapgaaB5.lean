/- The reference's Fill of stacks. -/
import Derived.Test.YtmnicdankdapgaaB4
namespace Go.Proofs.Ytmnicdankdapgaa
open Go.RowKit Go.Lib
set_option linter.unusedVariables false
set_option maxRecDepth 100000 in
theorem refFillB_shape (b W S C D : Int) (v : Value) (l : List Tk) (w : World) (hD : 0 ≤ D) (hl : TAt w v l) (h : ¬ OkB b W S C D) : Calls Try.prog 32 #[bAgg b W S C D, v] w (FillPost w 60 []) := by
  obtain ⟨ao, c, rfl, k1, k2⟩ := hl.shape
  have HC := hide (fun w => bShape_any b W S C D w hD)
  rw [decide_eq_false h] at HC
  unfold bAgg at HC ⊢
  clear h hl
  go_enter Try.func32, Try.ntmps32
  go_wp2_with (go_at_call 60; refine (HC.out _).mono ?_; rintro e w2 ⟨rfl, hb1⟩)
  go_ret2
  exact ⟨_, rfl, RowAt.nil _ _, below_on (below_alloc (Below.refl _ _) _) hb1⟩
set_option maxRecDepth 100000 in
set_option maxHeartbeats 2000000 in
theorem refFillB_never (b W S C D : Int) (v : Value) (l : List Tk) (w : World) (hD : 0 ≤ D) (hl : TAt w v l) (h : OkB b W S C D) (hn : hasNev l = true) : Calls Try.prog 32 #[bAgg b W S C D, v] w (FillPost w 51 []) := by
  obtain ⟨ao, c, rfl, k1, k2⟩ := hl.shape
  have HC := hide (fun w => bShape_any b W S C D w hD)
  rw [decide_eq_true h] at HC
  have HL := hide hl
  obtain ⟨m, hm⟩ : ∃ m, nevAt l = some m := by unfold hasNev at hn; exact Option.isSome_iff_exists.1 hn
  obtain ⟨hmL, hmN⟩ := first_of_some hm
  have hmN' : (tAt l m).1 = Nev := by simpa using hmN
  have HNO : Hid (∀ j, j < m → (tAt l j).1 ≠ Nev) := fun j hj he => by
    unfold nevAt first at hm
    rw [List.find?_range_eq_some] at hm
    have := hm.2.2 j hj
    simp [he] at this
  have HMN := hide hmN'
  unfold bAgg at HC ⊢
  clear h hl hn hm hmN hmN'
  obtain ⟨M, hM⟩ : ∃ M, M = l.length := ⟨_, rfl⟩
  rw [← hM] at k1 HL hmL ⊢
  have HM := hide hM
  clear hM
  go_enter Try.func32, Try.ntmps32
  go_wp2_with (go_at_call 60; refine (HC.out _).mono ?_; rintro e w2 ⟨rfl, hb1⟩; have HM1 := hide ((gm_one w 69 b W S C D).below hb1); clear hb1)
  go_loopw [6] (fun t wr => ∃ i : Nat, i ≤ m ∧ t = .int .i64 i ∧ wr = w2) (fun t _ => m - (RowKit.intOf t).toNat)
  case atStart => exact ⟨0, by omega, rfl, rfl⟩
  case round =>
    obtain ⟨i, him, rfl, rfl⟩ := hrel
    obtain ⟨gl, ol, he, p0, p1⟩ := (HL.out.below HM1.out.bel).cellAt i (by have := HM.out; omega)
    subst he
    have hlt : i < M := by omega
    by_cases hi : i < m
    · have hne := HNO.out i hi
      obtain ⟨x, hx⟩ : ∃ x, x = (tAt l i).1 := ⟨_, rfl⟩
      rw [← hx] at p0 hne
      have hne2 : ¬ x = 18446744073709551615 := hne
      clear hx p1 hne
      go_wp2
      go_roundw
      case rel => exact ⟨i + 1, by omega, by simp, by trivial⟩
      case measure => simp [RowKit.intOf]; omega
    · obtain rfl : i = m := by omega
      have e9 : (tAt l i).1 = 18446744073709551615 := HMN.out
      rw [e9] at p0
      clear e9 p1
      go_wp2
      go_ret2
      exact ⟨_, rfl, RowAt.nil _ _, HM1.out.bel⟩
set_option maxRecDepth 100000 in
set_option maxHeartbeats 16000000 in
theorem refFillB_rest (b W D : Int) (S C n : Nat) (v : Value) (l : List Tk) (w : World) (hl : TAt w v l) (htk : Tok l) (h : OkB b W S C D) (hD2 : D < 18446744073709551616) (hn : hasNev l = false) (hnn : n = S * (2 + 2 * C)) (E : Int) (A : List Int)
    (hov : ∀ k, k < l.length → Fit S C D l k → hiB S D l k = C → E = 62 ∧ A = []) (hfi : Fit S C D l l.length → E = 0 ∧ A = cB n C S D l l.length) : Calls Try.prog 32 #[bAgg b W S C D, v] w (FillPost w E A) := by
  obtain ⟨i0, hi, hz0, hz1, hz2⟩ := info_parts Try.info33
  obtain ⟨ao, c, rfl, k1, k2⟩ := hl.shape
  have HC := hide (fun w => bShape_any b W S C D w (by have := h.1.2.2.2; omega))
  rw [decide_eq_true h] at HC
  have HL := hide hl
  have HTK := hide htk
  have HNO := hide (nev_no hn)
  have HOV := hide hov
  have HFI0 := hide hfi
  obtain ⟨⟨⟨a1, a2, a3, a4⟩, a5, a6, a9⟩, a7, a8⟩ := h
  have e0 : (S : Int) * (2 + 2 * (C : Int)) = (n : Int) := by rw [hnn]; push_cast; rfl
  have hn8 := (prodB_le a3 a4 a5 a6).2
  rw [e0] at hn8
  have HE0 := hide e0
  have HNN := hide hnn
  have g1 : 0 ≤ (S : Int) * (2 + 2 * (C : Int)) ∧ (S : Int) * (2 + 2 * (C : Int)) ≤ 134219776 := by rw [e0]; omega
  obtain ⟨g1, g2⟩ := g1
  unfold bAgg at HC ⊢
  clear hl hn a8 e0 hnn htk hov hfi
  obtain ⟨M, hM⟩ : ∃ M, M = l.length := ⟨_, rfl⟩
  rw [← hM] at k1 HL HOV HFI0 ⊢
  have HM := hide hM
  clear hM
  go_enter Try.func32, Try.ntmps32
  go_wp2_with (go_at_call 60; refine (HC.out _).mono ?_; rintro e w2 ⟨rfl, hb1⟩; have HM1 := hide ((gm_one w 69 b W S C D).below hb1); clear hb1)
  go_loopw [6] (fun t wr => ∃ i : Nat, i ≤ M ∧ t = .int .i64 i ∧ wr = w2) (fun t _ => M - (RowKit.intOf t).toNat)
  case atStart => exact ⟨0, by omega, rfl, rfl⟩
  case round =>
    obtain ⟨i, him, rfl, rfl⟩ := hrel
    by_cases hil : i < M
    · obtain ⟨gl, ol, he, p0, p1⟩ := (HL.out.below HM1.out.bel).cellAt i (by have := HM.out; omega)
      subst he
      have hne := HNO.out i (by have := HM.out; omega)
      obtain ⟨x, hx⟩ : ∃ x, x = (tAt l i).1 := ⟨_, rfl⟩
      rw [← hx] at p0 hne
      have hne2 : ¬ x = 18446744073709551615 := hne
      clear hx p1 hne
      go_wp2
      go_roundw
      case rel => exact ⟨i + 1, by omega, by simp, by trivial⟩
      case measure => simp [RowKit.intOf]; omega
    · obtain rfl : i = M := by omega
      obtain ⟨s0, s1, s2, s3, s4⟩ := HM1.out.five
      have f0 := free_of HM1.out.bx 0
      have HM2 := hide HM1.out.zero
      clear HM1
      rename_i wr
      go_wp2_with (at_make; refine wpList_make_row _ rfl _ _ 30 rfl 33 i0 (.int .u64 0) Try.underlying30 hi hz0 hz1 rfl .i64 .i64 n (congrArg (Value.int .i64) HE0.out) (congrArg (Value.int .i64) HE0.out) (by rw [hz2]; omega) (by omega) ?_; have HA := hide (ga_made n HM2.out))
      have hsz : (wr.setCell ⟨w.heap.size, 0, none⟩ (.int .i64 0)).heap.size = wr.heap.size := by simp [World.setCell]
      rw [hsz] at HA
      try rw [hsz]
      obtain ⟨g, hg⟩ : ∃ g, g = wr.heap.size := ⟨_, rfl⟩
      rw [← hg] at HA ⊢
      clear hg hsz HM2 s0 s1 s2 s3 s4 f0 HC hz0 hz1 hz2 hi
      generalize ((wr.setCell ⟨w.heap.size, 0, none⟩ (.int .i64 0)).alloc (.cells (madeCells #[Value.int IntKind.u64 0] n) 33)) = w4 at HA ⊢
      go_loopw [8] (fun t wr => ∃ k : Nat, k ≤ i ∧ t = .int .i64 k ∧ Fit S C D l k ∧ GA w w.heap.size g 69 W S C D (cB n C S D l k) wr) (fun t _ => i - (RowKit.intOf t).toNat)
      case atStart => exact ⟨0, by omega, rfl, fun j hj => absurd hj (Nat.not_lt_zero _), HA.out⟩
      case round =>
        obtain ⟨k, hk, rfl, hfit, hfa⟩ := hrel
        clear HA
        by_cases hlt : k < i
        · obtain ⟨gl, ol, he, p0, p1⟩ := (HL.out.below hfa.m.bel).cellAt k (by have := HM.out; omega)
          subst he
          have htk := (HTK.out k (by have := HM.out; omega)).1
          obtain ⟨y0, hy0⟩ : ∃ x, x = (tAt l k).1 := ⟨_, rfl⟩
          obtain ⟨y1, hy1⟩ : ∃ y, y = (tAt l k).2 := ⟨_, rfl⟩
          rw [← hy0] at p0 htk
          rw [← hy1] at p1
          have hSi : (1 : Int) ≤ (S : Int) := a3
          obtain ⟨s, hs⟩ : ∃ s, s = stB S D l k := ⟨_, rfl⟩
          have hst : s < S := by rw [hs]; have := stB_lt (D := D) (l := l) (k := k) hSi; simpa using this
          have hrg := szB_rng hSi a5 k hfit s (by simpa using hst)
          obtain ⟨m, hm⟩ : ∃ m, m = (hiB S D l k).toNat := ⟨_, rfl⟩
          have ehi : hiB S D l k = at_ (szB S D l k) s := by rw [hs]; rfl
          have hmi : ((m : Nat) : Int) = hiB S D l k := by rw [hm]; omega
          have hsz := cB_size hSi (show 1 ≤ C by omega) (by simpa using HNN.out) k hfit s (by simpa using hst)
          rw [← ehi, ← hmi] at hsz
          have hmC : m ≤ C := by omega
          obtain ⟨L, hL⟩ : ∃ L, L = cB n C S D l k := ⟨_, rfl⟩
          have hlen : L.length = n := by rw [hL]; exact cB_length _ _ _ _ _ _
          rw [← hL] at hfa hsz
          have hix := idx_le (C := C) hst
          have hnn := HNN.out
          obtain ⟨P, hP⟩ : ∃ P, P = s * (2 + 2 * C) := ⟨_, rfl⟩
          have hbo : sizeAt C s = P + 1 := by unfold sizeAt; rw [← hP]
          obtain ⟨K, hK⟩ : ∃ K, K = keyAt C s m := ⟨_, rfl⟩
          rw [hbo] at hsz
          have HFI : Hid (cB n C S D l (k + 1) = ((L.set K y0).set (K + 1) y1).set (P + 1) ((m : Int) + 1)) := by
            show layB C (stB S D l k) (hiB S D l k).toNat (cB n C S D l k) (tAt l k) = _
            unfold layB
            rw [← hL, ← hs, ← hm, hbo, ← hK, hy0, hy1]
          have HOF := hide (fun w => ofB_any 0 W S C D y0 y1 w (by omega) (by omega) a9 hD2 htk.1 htk.2)
          have eS : stk S D y0 = s := by rw [hs, hy0]; rfl
          rw [eS] at HOF
          have HT := hide (fun w => stackB_any 0 W S C D s w (by omega) (by omega) (by omega) a5 a6 (by omega) (by omega))
          have HK := hide (fun w => keyB_any 0 W S C D s m w (by omega) (by omega) (by omega) a5 a6 (by omega) (by omega) (by omega) (by omega))
          have e1 : (0 + (s : Int) * (2 + 2 * (C : Int))) = (P : Int) := by rw [hP]; push_cast; omega
          have e2 : (0 + (s : Int) * (2 + 2 * (C : Int)) + 2 + 2 * (m : Int)) = (K : Int) := by rw [hK]; unfold keyAt; push_cast; omega
          rw [e1] at HT
          rw [e2] at HK
          have hPn : P + 1 < n := by omega
          have hKn : m < C → K + 1 < n := fun h => by rw [hK]; unfold keyAt; omega
          unfold bAgg at HOF HT HK
          have HSIX : Hid (∀ L X, GA w w.heap.size g 69 W S C D L X → X.cell? ⟨w.heap.size, 0, none⟩ = some (.int .i64 0) ∧ X.cell? ⟨w.heap.size, 1, none⟩ = some (.int .i64 W) ∧ X.cell? ⟨w.heap.size, 2, none⟩ = some (.int .i64 S) ∧ X.cell? ⟨w.heap.size, 3, none⟩ = some (.int .i64 C) ∧ X.cell? ⟨w.heap.size, 4, none⟩ = some (.int .u64 D) ∧ X.cell? ⟨gl, ol + k * 2, none⟩ = some (.int .u64 y0) ∧ X.cell? ⟨gl, ol + k * 2 + 1, none⟩ = some (.int .u64 y1)) := fun L X hX => by
            obtain ⟨s0, s1, s2, s3, s4⟩ := hX.m.five
            obtain ⟨_, _, he, p0, p1'⟩ := (HL.out.below hX.m.bel).cellAt k (by have := HM.out; omega)
            simp only [Option.some.injEq, Addr.mk.injEq, and_true] at he
            obtain ⟨rfl, rfl⟩ := he
            rw [← hy0] at p0
            rw [← hy1] at p1'
            exact ⟨s0, s1, s2, s3, s4, p0, p1'⟩
          have HMc := hide hfa
          have HLN := hide hlen
          have HSZ := hide hsz
          have HFIT := hide hfit
          have HMI := hide hmi
          obtain ⟨s0, s1, s2, s3, s4, s5, s6⟩ := HSIX.out _ _ hfa
          have x0 := gw_cell s0; have x1 := gw_cell s1; have x2 := gw_cell s2; have x3 := gw_cell s3; have x4 := gw_cell s4; have x5 := gw_cell s5; have x6 := gw_cell s6
          have i1 : (P : Int) + 1 < (n : Int) := by omega
          have i2 : (0 : Int) ≤ (P : Int) + 1 := by omega
          clear hfa hL hlen hy0 hy1 htk hs hrg hm ehi hmi hsz hix hnn hP hbo hK e1 e2 eS hfit s0 s1 s2 s3 s4 s5 s6 p0 p1
          go_wp2_with fail
          refine wp_region_gw (by kernel_rfl) (by kernel_rfl) ?_
          repeat (go_big_quiet_step (first
            | (go_at_call 63; exact gw_of (HOF.out _))
            | rfl))
          refine wpQuiet_nil ?_
          intro _ hw'
          obtain ⟨x', hw''⟩ := hw'
          subst hw''
          replace HMc := hide (HMc.out.below x'.bel)
          clear x0 x1 x2 x3 x4 x5 x6
          generalize x'.world = w5 at HMc ⊢
          clear x'
          obtain ⟨s0, s1, s2, s3, s4, s5, s6⟩ := HSIX.out _ _ HMc.out
          go_wp2_with fail
          refine (HT.out _).mono ?_
          rintro e w6 ⟨rfl, hb2⟩
          replace HMc := hide (HMc.out.below hb2)
          clear hb2 s0 s1 s2 s3 s4 s5 s6
          have kK := HMc.out.a.cell (P + 1) (by have := HLN.out; omega)
          rw [HSZ.out] at kK
          obtain ⟨s0, s1, s2, s3, s4, s5, s6⟩ := HSIX.out _ _ HMc.out
          by_cases hmc : m = C
          · have hE := HOV.out k hlt HFIT.out (by rw [← HMI.out, hmc])
            have hd : ((m : Int) == (C : Int)) = true := by simp [hmc]
            have HB := hide HMc.out.m.bel
            obtain ⟨rfl, rfl⟩ := hE
            clear hKn
            go_wp2
            go_ret2
            exact ⟨_, rfl, RowAt.nil _ _, HB.out⟩
          · have hd : ((m : Int) == (C : Int)) = false := by simp; omega
            have hKn2 := hKn (by omega)
            have HF2 : Hid (Fit S C D l (k + 1)) := fun j hj => by
              rcases Nat.lt_or_ge j k with h | h
              · exact HFIT.out j h
              · obtain rfl : j = k := by omega
                rw [← HMI.out]; omega
            have i3 : (K : Int) < (n : Int) := by omega
            have i4 : (K : Int) + 1 < (n : Int) := by omega
            have i5 : (0 : Int) ≤ (K : Int) + 1 := by omega
            have hwr : IntKind.i64.wrap ((K : Int) + 1) = (K : Int) + 1 := IntWalk.i64_in _ (by omega)
            clear hKn
            go_wp2_with fail
            replace HMc := hide HMc.out.drew
            clear kK
            go_region_held3 (fun x' => x'.cell? ⟨w.heap.size, 0, none⟩ = some (.int .i64 0) ∧ x'.cell? ⟨w.heap.size, 1, none⟩ = some (.int .i64 W) ∧ x'.cell? ⟨w.heap.size, 2, none⟩ = some (.int .i64 S) ∧ x'.cell? ⟨w.heap.size, 3, none⟩ = some (.int .i64 C) ∧ x'.cell? ⟨w.heap.size, 4, none⟩ = some (.int .u64 D) ∧ x'.cell? ⟨gl, ol + k * 2, none⟩ = some (.int .u64 y0) ∧ x'.cell? ⟨gl, ol + k * 2 + 1, none⟩ = some (.int .u64 y1))
              (first | go_keep | exact HSIX.out _ _ HMc.out | exact HSIX.out _ _ (HMc.out.put _ _))
              ((go_at_call 65; refine (HK.out _).mono ?_; rintro e w7 ⟨rfl, hb2⟩; replace HMc := hide (HMc.out.below hb2); clear hb2; have kK := HMc.out.a.cell K (by have := HLN.out; omega); have fK := HMc.out.a.free K))
            rename_i hHeld
            clear hHeld s0 s1 s2 s3 s4 s5 s6 kK fK
            replace HMc := hide (HMc.out.put K y0)
            generalize (w7.setCell ⟨g, K, none⟩ (.int .u64 y0)) = w8 at HMc ⊢
            obtain ⟨s0, s1, s2, s3, s4, s5, s6⟩ := HSIX.out _ _ HMc.out
            go_wp2_with fail
            replace HMc := hide HMc.out.drew
            go_region_held3 (fun x' => x'.cell? ⟨w.heap.size, 0, none⟩ = some (.int .i64 0) ∧ x'.cell? ⟨w.heap.size, 1, none⟩ = some (.int .i64 W) ∧ x'.cell? ⟨w.heap.size, 2, none⟩ = some (.int .i64 S) ∧ x'.cell? ⟨w.heap.size, 3, none⟩ = some (.int .i64 C) ∧ x'.cell? ⟨w.heap.size, 4, none⟩ = some (.int .u64 D) ∧ x'.cell? ⟨gl, ol + k * 2, none⟩ = some (.int .u64 y0) ∧ x'.cell? ⟨gl, ol + k * 2 + 1, none⟩ = some (.int .u64 y1))
              (first | go_keep | exact HSIX.out _ _ HMc.out | exact HSIX.out _ _ (HMc.out.put _ _))
              ((go_at_call 65; refine (HK.out _).mono ?_; rintro e w9 ⟨rfl, hb2⟩; replace HMc := hide (HMc.out.below hb2); clear hb2; have kK := HMc.out.a.cell (K + 1) (by rw [List.length_set]; have := HLN.out; omega); have fK := HMc.out.a.free (K + 1)))
            rename_i hHeld
            clear hHeld s0 s1 s2 s3 s4 s5 s6 kK fK
            replace HMc := hide (HMc.out.put (K + 1) y1)
            generalize (w9.setCell ⟨g, K + 1, none⟩ (.int .u64 y1)) = wa at HMc ⊢
            obtain ⟨s0, s1, s2, s3, s4, s5, s6⟩ := HSIX.out _ _ HMc.out
            go_wp2_with fail
            refine (HT.out _).mono ?_
            rintro e wb ⟨rfl, hb2⟩
            replace HMc := hide (HMc.out.below hb2)
            clear hb2 s0 s1 s2 s3 s4 s5 s6
            have kK := HMc.out.a.cell (P + 1) (by rw [List.length_set, List.length_set]; have := HLN.out; omega)
            have fK := HMc.out.a.free (P + 1)
            have hfin := HMc.out.put (P + 1) ((m : Int) + 1)
            rw [← HFI.out] at hfin
            have HFIN := hide hfin
            clear hfin
            go_wp2
            go_roundw
            case rel => exact ⟨k + 1, by omega, by simp, HF2.out, HFIN.out⟩
            case measure => simp [RowKit.intOf]; omega
        · obtain rfl : k = i := by omega
          obtain ⟨rfl, rfl⟩ := HFI0.out hfit
          have HA := hide hfa
          clear hfa
          go_wp2
          go_ret2
          exact ⟨_, rfl, HA.out.a.row (cB_length _ _ _ _ _ _) (by omega), HA.out.m.bel⟩
theorem bucketFill_any (b W S C D : Int) (v : Value) (l : List Tk) (w : World) (hl : TAt w v l) (htk : Tok l) (hD : 0 ≤ D) (hD2 : D < 18446744073709551616) : Calls Try.prog 31 #[bAgg b W S C D, v] w (FillPost w (errB b W S C D l) (ansB b W S C D l)) := by
  by_cases h : OkB b W S C D
  · obtain ⟨S', C', rfl, rfl, _⟩ := okB_nat h
    unfold ansB
    by_cases hn : hasNev l = true
    · have e : errB b W S' C' D l = 51 := by unfold errB; rw [if_pos h, if_pos hn]
      rw [e, if_neg (by decide)]
      exact bucketFill_never b W S' C' D v l w hD hl h hn
    · have hn' : hasNev l = false := by simpa using hn
      by_cases hf : (ovB S' C' D l).isSome = true
      · have e : errB b W S' C' D l = 62 := by unfold errB; rw [if_pos h, if_neg hn, if_pos hf]
        rw [e, if_neg (by decide)]
        exact bucketFill_full b W D S' C' v l w hl htk h hD2 hn' hf
      · have e : errB b W S' C' D l = 0 := by unfold errB; rw [if_pos h, if_neg hn, if_neg hf]
        rw [e, if_pos rfl]
        have e2 : ((S' : Int) * (2 + 2 * (C' : Int))).toNat = S' * (2 + 2 * C') := by
          rw [show (S' : Int) * (2 + 2 * (C' : Int)) = ((S' * (2 + 2 * C') : Nat) : Int) by push_cast; rfl]; rfl
        rw [e2]
        exact bucketFill_good b W D S' C' _ v l w hl htk h hD2 hn' (by simpa using hf) rfl
  · have e : errB b W S C D l = 60 := by unfold errB; rw [if_neg h]
    unfold ansB
    rw [e, if_neg (by decide)]
    exact bucketFill_shape b W S C D v l w hD hl h
theorem refFillB_any (b W S C D : Int) (v : Value) (l : List Tk) (w : World) (hl : TAt w v l) (htk : Tok l) (hD : 0 ≤ D) (hD2 : D < 18446744073709551616) : Calls Try.prog 32 #[bAgg b W S C D, v] w (FillPost w (errB b W S C D l) (ansB b W S C D l)) := by
  by_cases h : OkB b W S C D
  · obtain ⟨S', C', rfl, rfl, _⟩ := okB_nat h
    by_cases hn : hasNev l = true
    · have e : errB b W S' C' D l = 51 := by unfold errB; rw [if_pos h, if_pos hn]
      unfold ansB
      rw [e, if_neg (by decide)]
      exact refFillB_never b W S' C' D v l w hD hl h hn
    · have hn' : hasNev l = false := by simpa using hn
      have e2 : ((S' : Int) * (2 + 2 * (C' : Int))).toNat = S' * (2 + 2 * C') := by
        rw [show (S' : Int) * (2 + 2 * (C' : Int)) = ((S' * (2 + 2 * C') : Nat) : Int) by push_cast; rfl]; rfl
      refine refFillB_rest b W D S' C' (S' * (2 + 2 * C')) v l w hl htk h hD2 hn' rfl _ _ (fun k hk hf he => ?_) (fun hf => ?_)
      · have e : errB b W S' C' D l = 62 := by unfold errB; rw [if_pos h, if_neg hn, ov_some hk hf he]; rfl
        unfold ansB
        rw [e]
        exact ⟨rfl, if_neg (by decide)⟩
      · have e : errB b W S' C' D l = 0 := by unfold errB; rw [if_pos h, if_neg hn, ov_none hf]; rfl
        unfold ansB
        rw [e, if_pos rfl, e2]
        exact ⟨rfl, rfl⟩
  · have e : errB b W S C D l = 60 := by unfold errB; rw [if_neg h]
    unfold ansB
    rw [e, if_neg (by decide)]
    exact refFillB_shape b W S C D v l w hD hl h
end Go.Proofs.Ytmnicdankdapgaa
