/- The reference's Fill of deques. -/
import Derived.Test.YtmnicdankdapgaaS4
namespace Go.Proofs.Ytmnicdankdapgaa
open Go.RowKit Go.Lib
set_option linter.unusedVariables false
theorem stealFill_any (b W C T : Int) (v : Value) (l : List Tk) (w : World) (hl : TAt w v l) (htk : Tok l) (hb : l.length * 16 ≤ 140737488355328) : Calls Try.prog 18 #[sAgg b W C T, v] w (FillPost w (errS b W C T l) (ansS b W C T l)) := by
  by_cases h : OkS b W C T
  · obtain ⟨W', C', rfl, rfl, _⟩ := ok_nat h
    unfold ansS
    by_cases hn : hasNev l = true
    · have e : errS b W' C' T l = 51 := by unfold errS; rw [if_pos h, if_pos hn]
      rw [e, if_neg (by decide)]
      exact stealFill_never b W' C' T v l w hl h hn
    · have hn' : hasNev l = false := by simpa using hn
      by_cases hf : (W' : Int) * C' < l.length
      · have e : errS b W' C' T l = 62 := by unfold errS; rw [if_pos h, if_neg hn, if_pos hf]
        rw [e, if_neg (by decide)]
        exact stealFill_full b T W' C' v l w hl h hn' hf hb
      · have e : errS b W' C' T l = 0 := by unfold errS; rw [if_pos h, if_neg hn, if_neg hf]
        rw [e, if_pos rfl]
        have e2 : ((W' : Int) * (2 + 2 * (C' : Int))).toNat = W' * (2 + 2 * C') := by
          rw [show (W' : Int) * (2 + 2 * (C' : Int)) = ((W' * (2 + 2 * C') : Nat) : Int) by push_cast; rfl]; rfl
        rw [e2]
        exact stealFill_good b T W' C' _ v l w hl htk h hn' hf rfl
  · have e : errS b W C T l = 60 := by unfold errS; rw [if_neg h]
    unfold ansS
    rw [e, if_neg (by decide)]
    exact stealFill_shape b W C T v l w hl h
set_option maxRecDepth 100000 in
theorem refFill_shape (b W C T : Int) (v : Value) (l : List Tk) (w : World) (hl : TAt w v l) (h : ¬ OkS b W C T) : Calls Try.prog 19 #[sAgg b W C T, v] w (FillPost w 60 []) := by
  obtain ⟨ao, c, rfl, k1, k2⟩ := hl.shape
  have HC := hide (fun w => shape_any b W C T w)
  rw [decide_eq_false h] at HC
  unfold sAgg at HC ⊢
  clear h hl
  go_enter Try.func19, Try.ntmps19
  go_wp2_with (go_at_call 51; refine (HC.out _).mono ?_; rintro e w2 ⟨rfl, hb1⟩)
  go_ret2
  exact ⟨_, rfl, RowAt.nil _ _, below_on (below_alloc (Below.refl _ _) _) hb1⟩
set_option maxRecDepth 100000 in
set_option maxHeartbeats 2000000 in
theorem refFill_never (b W C T : Int) (v : Value) (l : List Tk) (w : World) (hl : TAt w v l) (h : OkS b W C T) (hn : hasNev l = true) : Calls Try.prog 19 #[sAgg b W C T, v] w (FillPost w 51 []) := by
  obtain ⟨ao, c, rfl, k1, k2⟩ := hl.shape
  have HC := hide (fun w => shape_any b W C T w)
  rw [decide_eq_true h] at HC
  have HL := hide hl
  obtain ⟨m, hm⟩ : ∃ m, nevAt l = some m := by unfold hasNev at hn; exact Option.isSome_iff_exists.1 hn
  obtain ⟨hmL, hmN⟩ := first_of_some hm
  have hmN' : (tAt l m).1 = Nev := by simpa using hmN
  have HNO : Hid (∀ j, j < m → (tAt l j).1 ≠ Nev) := fun j hj he => by
    unfold nevAt first at hm
    rw [List.find?_range_eq_some] at hm
    have := hm.2.2 j hj
    simp [he] at this
  have HMN := hide hmN'
  unfold sAgg at HC ⊢
  clear h hl hn hm hmN hmN'
  obtain ⟨M, hM⟩ : ∃ M, M = l.length := ⟨_, rfl⟩
  rw [← hM] at k1 HL hmL ⊢
  have HM := hide hM
  clear hM
  go_enter Try.func19, Try.ntmps19
  go_wp2_with (go_at_call 51; refine (HC.out _).mono ?_; rintro e w2 ⟨rfl, hb1⟩; have HM1 := hide ((fm_one w 50 b W C T).below hb1); clear hb1)
  go_loopw [6] (fun t wr => ∃ i : Nat, i ≤ m ∧ t = .int .i64 i ∧ wr = w2) (fun t _ => m - (RowKit.intOf t).toNat)
  case atStart => exact ⟨0, by omega, rfl, rfl⟩
  case round =>
    obtain ⟨i, him, rfl, rfl⟩ := hrel
    obtain ⟨gl, ol, he, p0, p1⟩ := (HL.out.below HM1.out.bel).cellAt i (by have := HM.out; omega)
    subst he
    have hlt : i < M := by omega
    by_cases hi : i < m
    · have hne := HNO.out i hi
      obtain ⟨x, hx⟩ : ∃ x, x = (tAt l i).1 := ⟨_, rfl⟩
      rw [← hx] at p0 hne
      have hne2 : ¬ x = 18446744073709551615 := hne
      clear hx p1 hne
      go_wp2
      go_roundw
      case rel => exact ⟨i + 1, by omega, by simp, by trivial⟩
      case measure => simp [RowKit.intOf]; omega
    · obtain rfl : i = m := by omega
      have e9 : (tAt l i).1 = 18446744073709551615 := HMN.out
      rw [e9] at p0
      clear e9 p1
      go_wp2
      go_ret2
      exact ⟨_, rfl, RowAt.nil _ _, HM1.out.bel⟩
theorem quo_lt {M W C : Int} (h : 0 < W) : C < (M + W - 1) / W ↔ W * C < M := by
  have := Int.le_ediv_iff_mul_le h (a := C + 1) (b := M + W - 1)
  rw [Int.add_mul, Int.one_mul, Int.mul_comm C W] at this
  omega
set_option maxRecDepth 100000 in
set_option maxHeartbeats 2000000 in
theorem refFill_full (b T : Int) (W C : Nat) (v : Value) (l : List Tk) (w : World) (hl : TAt w v l) (h : OkS b W C T) (hn : hasNev l = false) (hf : (W : Int) * C < l.length) (hb : l.length * 16 ≤ 140737488355328) : Calls Try.prog 19 #[sAgg b W C T, v] w (FillPost w 62 []) := by
  obtain ⟨ao, c, rfl, k1, k2⟩ := hl.shape
  have HC := hide (fun w => shape_any b W C T w)
  rw [decide_eq_true h] at HC
  have HL := hide hl
  have HNO := hide (nev_no hn)
  have hq := (quo_lt (M := l.length) (C := C) (show 0 < (W : Int) by have := h.1.1; omega)).2 hf
  obtain ⟨⟨a1, a2, a3, a4, a5, a6⟩, a7, a8⟩ := h
  unfold sAgg at HC ⊢
  clear hl hn a8 hf
  obtain ⟨M, hM⟩ : ∃ M, M = l.length := ⟨_, rfl⟩
  rw [← hM] at k1 HL hq hb ⊢
  have HM := hide hM
  clear hM
  have hW0 : ¬ W = 0 := by omega
  have hWb : ((W : Int) == 0) = false := by simp; omega
  have hd : decide ((C : Int) < ((M : Int) + (W : Int) - 1) / (W : Int)) = true := decide_eq_true hq
  go_enter Try.func19, Try.ntmps19
  go_wp2_with (go_at_call 51; refine (HC.out _).mono ?_; rintro e w2 ⟨rfl, hb1⟩; have HM1 := hide ((fm_one w 50 b W C T).below hb1); clear hb1)
  go_loopw [6] (fun t wr => ∃ i : Nat, i ≤ M ∧ t = .int .i64 i ∧ wr = w2) (fun t _ => M - (RowKit.intOf t).toNat)
  case atStart => exact ⟨0, by omega, rfl, rfl⟩
  case round =>
    obtain ⟨i, him, rfl, rfl⟩ := hrel
    by_cases hi : i < M
    · obtain ⟨gl, ol, he, p0, p1⟩ := (HL.out.below HM1.out.bel).cellAt i (by have := HM.out; omega)
      subst he
      have hne := HNO.out i (by have := HM.out; omega)
      obtain ⟨x, hx⟩ : ∃ x, x = (tAt l i).1 := ⟨_, rfl⟩
      rw [← hx] at p0 hne
      have hne2 : ¬ x = 18446744073709551615 := hne
      clear hx p1 hne
      go_wp2
      go_roundw
      case rel => exact ⟨i + 1, by omega, by simp, by trivial⟩
      case measure => simp [RowKit.intOf]; omega
    · obtain rfl : i = M := by omega
      obtain ⟨s0, s1, s2, s3⟩ := HM1.out.four
      have x1 := gw_cell s1
      have x2 := gw_cell s2
      clear s0 s1 s2 s3
      go_wp2_with fail
      refine wp_region_gw (by kernel_rfl) (by kernel_rfl) ?_
      repeat (go_big_quiet_step (rfl))
      refine wpQuiet_nil ?_
      intro _ hw'
      obtain ⟨x, hw''⟩ := hw'
      subst hw''
      go_wp2
      go_ret2
      exact ⟨_, rfl, RowAt.nil _ _, below_on HM1.out.bel x.bel⟩
set_option maxRecDepth 100000 in
set_option maxHeartbeats 8000000 in
theorem refFill_good (b T : Int) (W C n : Nat) (v : Value) (l : List Tk) (w : World) (hl : TAt w v l) (htk : Tok l) (h : OkS b W C T) (hn : hasNev l = false) (hf : ¬ (W : Int) * C < l.length) (hb : l.length * 16 ≤ 140737488355328) (hnn : n = W * (2 + 2 * C)) : Calls Try.prog 19 #[sAgg b W C T, v] w (FillPost w 0 (fillS n W C l l.length)) := by
  obtain ⟨i0, hi, hz0, hz1, hz2⟩ := info_parts Try.info33
  obtain ⟨ao, c, rfl, k1, k2⟩ := hl.shape
  have HC := hide (fun w => shape_any b W C T w)
  rw [decide_eq_true h] at HC
  have HL := hide hl
  have HTK := hide htk
  have HNO := hide (nev_no hn)
  have hq := fun hh => hf ((quo_lt (M := l.length) (C := C) (show 0 < (W : Int) by have := h.1.1; omega)).1 hh)
  obtain ⟨⟨a1, a2, a3, a4, a5, a6⟩, a7, a8⟩ := h
  have e0 : (W : Int) * (2 + 2 * (C : Int)) = (n : Int) := by rw [hnn]; push_cast; rfl
  have hn8 := (prod_le a1 a2 a3 a4).2
  rw [e0] at hn8
  have HE0 := hide e0
  have HNN := hide hnn
  have g1 : 0 ≤ (W : Int) * (2 + 2 * (C : Int)) ∧ (W : Int) * (2 + 2 * (C : Int)) ≤ 8388736 := by rw [e0]; omega
  obtain ⟨g1, g2⟩ := g1
  unfold sAgg at HC ⊢
  clear hl hn a8 hf e0 hnn htk
  obtain ⟨M, hM⟩ : ∃ M, M = l.length := ⟨_, rfl⟩
  rw [← hM] at k1 HL hq hb ⊢
  have HM := hide hM
  clear hM
  have hW0 : ¬ W = 0 := by omega
  have hWb : ((W : Int) == 0) = false := by simp; omega
  have hd : decide ((C : Int) < ((M : Int) + (W : Int) - 1) / (W : Int)) = false := decide_eq_false hq
  go_enter Try.func19, Try.ntmps19
  go_wp2_with (go_at_call 51; refine (HC.out _).mono ?_; rintro e w2 ⟨rfl, hb1⟩; have HM1 := hide ((fm_one w 50 b W C T).below hb1); clear hb1)
  go_loopw [6] (fun t wr => ∃ i : Nat, i ≤ M ∧ t = .int .i64 i ∧ wr = w2) (fun t _ => M - (RowKit.intOf t).toNat)
  case atStart => exact ⟨0, by omega, rfl, rfl⟩
  case round =>
    obtain ⟨i, him, rfl, rfl⟩ := hrel
    by_cases hil : i < M
    · obtain ⟨gl, ol, he, p0, p1⟩ := (HL.out.below HM1.out.bel).cellAt i (by have := HM.out; omega)
      subst he
      have hne := HNO.out i (by have := HM.out; omega)
      obtain ⟨x, hx⟩ : ∃ x, x = (tAt l i).1 := ⟨_, rfl⟩
      rw [← hx] at p0 hne
      have hne2 : ¬ x = 18446744073709551615 := hne
      clear hx p1 hne
      go_wp2
      go_roundw
      case rel => exact ⟨i + 1, by omega, by simp, by trivial⟩
      case measure => simp [RowKit.intOf]; omega
    · obtain rfl : i = M := by omega
      obtain ⟨s0, s1, s2, s3⟩ := HM1.out.four
      have x1 := gw_cell s1
      have x2 := gw_cell s2
      clear s0 s1 s2 s3
      go_wp2_with fail
      refine wp_region_gw (by kernel_rfl) (by kernel_rfl) ?_
      repeat (go_big_quiet_step (rfl))
      refine wpQuiet_nil ?_
      intro _ hw'
      obtain ⟨x, hw''⟩ := hw'
      subst hw''
      have hm2 := HM1.out.below x.bel
      generalize x.world = w3 at hm2 ⊢
      obtain ⟨s0, s1, s2, s3⟩ := hm2.four
      have f0 := free_of hm2.bx 0
      have HM2 := hide hm2.zero
      clear x1 x2 x hm2 HM1
      go_wp2_with (at_make; refine wpList_make_row _ rfl _ _ 30 rfl 33 i0 (.int .u64 0) Try.underlying30 hi hz0 hz1 rfl .i64 .i64 n (congrArg (Value.int .i64) HE0.out) (congrArg (Value.int .i64) HE0.out) (by rw [hz2]; omega) (by omega) ?_; have HA := hide (fa_made n HM2.out))
      have hsz : (w3.setCell ⟨w.heap.size, 0, none⟩ (.int .i64 0)).heap.size = w3.heap.size := by simp [World.setCell]
      rw [hsz] at HA
      try rw [hsz]
      obtain ⟨g, hg⟩ : ∃ g, g = w3.heap.size := ⟨_, rfl⟩
      rw [← hg] at HA ⊢
      clear hg hsz HM2 s0 s1 s2 s3 f0 hq hd HC hz0 hz1 hz2 hi
      generalize ((w3.setCell ⟨w.heap.size, 0, none⟩ (.int .i64 0)).alloc (.cells (madeCells #[Value.int IntKind.u64 0] n) 33)) = w4 at HA ⊢
      go_loopw [8] (fun t wr => ∃ j : Nat, j ≤ W ∧ t = .int .i64 j ∧ FA w w.heap.size g 50 W C T (iniS n C j) wr) (fun t _ => W - (RowKit.intOf t).toNat)
      case atStart => exact ⟨0, by omega, rfl, HA.out⟩
      case round =>
        obtain ⟨j, hj, rfl, hfa⟩ := hrel
        clear HA
        obtain ⟨s0, s1, s2, s3⟩ := hfa.m.four
        by_cases hlt : j < W
        · have HT := hide (fun w => deque_any 0 W C T j w (by omega) (by omega) a2 a3 a4 (by omega) (by omega))
          have hix := idx_le (C := C) hlt
          have hnn := HNN.out
          obtain ⟨P, hP⟩ : ∃ P, P = j * (2 + 2 * C) := ⟨_, rfl⟩
          have e1 : (0 + (j : Int) * (2 + 2 * (C : Int))) = (P : Int) := by rw [hP]; push_cast; omega
          rw [e1] at HT
          have i1 : (P : Int) < (n : Int) := by omega
          have i2 : (P : Int) + 1 < (n : Int) := by omega
          have i4 : (0 : Int) ≤ (P : Int) + 1 := by omega
          have HIN : Hid (iniS n C (j + 1) = ((iniS n C j).set P 1).set (P + 1) 1) := by rw [hP]; rfl
          have HLN := hide (iniS_length n C j)
          have HMc := hide hfa
          unfold sAgg at HT
          clear hfa hnn hix e1 hP
          go_wp2_with fail
          refine (HT.out _).mono ?_
          rintro e w5 ⟨rfl, hb2⟩
          replace HMc := hide (HMc.out.below hb2)
          clear hb2 s0 s1 s2 s3
          have kK := HMc.out.a.cell P (by have := HLN.out; omega)
          have fK := HMc.out.a.free P
          replace HMc := hide (HMc.out.put P 1)
          obtain ⟨s0, s1, s2, s3⟩ := HMc.out.m.four
          go_wp2_with fail
          refine (HT.out _).mono ?_
          rintro e w6 ⟨rfl, hb2⟩
          replace HMc := hide (HMc.out.below hb2)
          clear hb2 s0 s1 s2 s3 kK fK
          have kK := HMc.out.a.cell (P + 1) (by rw [List.length_set]; have := HLN.out; omega)
          have fK := HMc.out.a.free (P + 1)
          have hfin := HMc.out.put (P + 1) 1
          rw [← HIN.out] at hfin
          have HFIN := hide hfin
          clear hfin
          go_wp2
          go_roundw
          case rel => exact ⟨j + 1, by omega, by simp, HFIN.out⟩
          case measure => simp [RowKit.intOf]; omega
        · obtain rfl : j = W := by omega
          have HA := hide hfa
          clear hfa
          go_wp2
          go_loopw [9] (fun t wr => ∃ k : Nat, k ≤ i ∧ t = .int .i64 k ∧ FA w w.heap.size g 50 j C T (fillS n j C l k) wr) (fun t _ => i - (RowKit.intOf t).toNat)
          case atStart => exact ⟨0, by omega, rfl, HA.out⟩
          case round =>
            obtain ⟨k, hk, rfl, hfa⟩ := hrel
            clear HA s0 s1 s2 s3
            by_cases hlt2 : k < i
            · obtain ⟨gl, ol, he, p0, p1'⟩ := (HL.out.below hfa.m.bel).cellAt k (by have := HM.out; omega)
              subst he
              obtain ⟨L, hL⟩ : ∃ L, L = fillS n j C l k := ⟨_, rfl⟩
              have hlen : L.length = n := by rw [hL]; exact fillS_length _ _ _ _ _
              have hwok : Wok L := by rw [hL]; exact fillS_wok HTK.out k (by have := HM.out; omega)
              obtain ⟨y0, hy0⟩ : ∃ x, x = (tAt l k).1 := ⟨_, rfl⟩
              obtain ⟨y1, hy1⟩ : ∃ y, y = (tAt l k).2 := ⟨_, rfl⟩
              rw [← hy0] at p0
              rw [← hy1] at p1'
              rw [← hL] at hfa
              have hv : k % j < j := Nat.mod_lt _ (by omega)
              have hix := idx_le (C := C) hv
              have hnn := HNN.out
              obtain ⟨P, hP⟩ : ∃ P, P = (k % j) * (2 + 2 * C) := ⟨_, rfl⟩
              have hbo : bot C (k % j) = P + 1 := by unfold bot; rw [← hP]
              obtain ⟨x, hx⟩ : ∃ x, x = at_ L (P + 1) := ⟨_, rfl⟩
              have hxr := hwok (P + 1) (by omega)
              rw [← hx] at hxr
              obtain ⟨hr1, hr2⟩ := rem_toNat (x := x) (show 1 ≤ C by omega)
              obtain ⟨K, hK⟩ : ∃ K, K = keyOf C (k % j) x := ⟨_, rfl⟩
              have hKn : K + 1 < n := by rw [hK]; unfold keyOf; omega
              have HFI : Hid (fillS n j C l (k + 1) = ((L.set K y0).set (K + 1) y1).set (P + 1) (IntKind.u64.wrap (x + 1))) := by
                show layS C (k % j) (fillS n j C l k) (tAt l k) = _
                unfold layS
                rw [← hL, hbo, ← hx, ← hK, hy0, hy1]
              have HT := hide (fun w => deque_any 0 j C T ((k % j : Nat) : Int) w (by omega) (by omega) a2 a3 a4 (by omega) (by omega))
              have HK := hide (fun w => slot_any 0 j C T ((k % j : Nat) : Int) x w (by omega) (by omega) a2 a3 a4 (by omega) (by omega) hxr.1 hxr.2)
              have e1 : (0 + ((k % j : Nat) : Int) * (2 + 2 * (C : Int))) = (P : Int) := by rw [hP]; push_cast; omega
              have e2 : (0 + ((k % j : Nat) : Int) * (2 + 2 * (C : Int)) + 2 + 2 * (x % (C : Int))) = (K : Int) := by rw [hK]; unfold keyOf; push_cast; rw [hr1]; push_cast; omega
              rw [e1] at HT
              rw [e2] at HK
              rw [Int.natCast_emod] at HT HK
              unfold sAgg at HT HK
              have i1 : (P : Int) + 1 < (n : Int) := by omega
              have i2 : (0 : Int) ≤ (P : Int) + 1 := by omega
              have i3 : (K : Int) < (n : Int) := by omega
              have i4 : (K : Int) + 1 < (n : Int) := by omega
              have i5 : (0 : Int) ≤ (K : Int) + 1 := by omega
              have hwr : IntKind.i64.wrap ((K : Int) + 1) = (K : Int) + 1 := IntWalk.i64_in _ (by omega)
              obtain ⟨s0, s1, s2, s3⟩ := hfa.m.four
              have hj1 : (0 : Int) < (j : Int) := by omega
              have HMc := hide hfa
              have HLN := hide hlen
              have HX := hide hx
              have HSIX : Hid (∀ L X, FA w w.heap.size g 50 j C T L X → X.cell? ⟨w.heap.size, 0, none⟩ = some (.int .i64 0) ∧ X.cell? ⟨w.heap.size, 1, none⟩ = some (.int .i64 j) ∧ X.cell? ⟨w.heap.size, 2, none⟩ = some (.int .i64 C) ∧ X.cell? ⟨w.heap.size, 3, none⟩ = some (.int .i64 T) ∧ X.cell? ⟨gl, ol + k * 2, none⟩ = some (.int .u64 y0) ∧ X.cell? ⟨gl, ol + k * 2 + 1, none⟩ = some (.int .u64 y1)) := fun L X hX => by
                obtain ⟨s0, s1, s2, s3⟩ := hX.m.four
                obtain ⟨_, _, he, p0, p1'⟩ := (HL.out.below hX.m.bel).cellAt k (by have := HM.out; omega)
                simp only [Option.some.injEq, Addr.mk.injEq, and_true] at he
                obtain ⟨rfl, rfl⟩ := he
                rw [← hy0] at p0
                rw [← hy1] at p1'
                exact ⟨s0, s1, s2, s3, p0, p1'⟩
              clear hfa hL hlen hwok hy0 hy1 hv hix hnn hP hbo hx hr1 hr2 hK e1 e2
              go_wp2_with fail
              refine (HT.out _).mono ?_
              rintro e w5 ⟨rfl, hb2⟩
              replace HMc := hide (HMc.out.below hb2)
              clear hb2 s0 s1 s2 s3 p0 p1'
              have kK := HMc.out.a.cell (P + 1) (by have := HLN.out; omega)
              rw [← HX.out] at kK
              obtain ⟨s0, s1, s2, s3, p0, p1'⟩ := HSIX.out _ _ HMc.out
              go_wp2_with fail
              replace HMc := hide HMc.out.drew
              clear kK
              go_region_held3 (fun x' => x'.cell? ⟨w.heap.size, 0, none⟩ = some (.int .i64 0) ∧ x'.cell? ⟨w.heap.size, 1, none⟩ = some (.int .i64 j) ∧ x'.cell? ⟨w.heap.size, 2, none⟩ = some (.int .i64 C) ∧ x'.cell? ⟨w.heap.size, 3, none⟩ = some (.int .i64 T) ∧ x'.cell? ⟨gl, ol + k * 2, none⟩ = some (.int .u64 y0) ∧ x'.cell? ⟨gl, ol + k * 2 + 1, none⟩ = some (.int .u64 y1))
                (first | go_keep | exact HSIX.out _ _ HMc.out | exact HSIX.out _ _ (HMc.out.put _ _))
                ((go_at_call 56; refine (HK.out _).mono ?_; rintro e w6 ⟨rfl, hb2⟩; replace HMc := hide (HMc.out.below hb2); clear hb2; have kK := HMc.out.a.cell K (by have := HLN.out; omega); have fK := HMc.out.a.free K))
              rename_i hHeld
              clear hHeld s0 s1 s2 s3 p0 p1' kK fK
              replace HMc := hide (HMc.out.put K y0)
              generalize (w6.setCell ⟨g, K, none⟩ (.int .u64 y0)) = w7 at HMc ⊢
              obtain ⟨s0, s1, s2, s3, p0, p1'⟩ := HSIX.out _ _ HMc.out
              go_wp2_with fail
              replace HMc := hide HMc.out.drew
              go_region_held3 (fun x' => x'.cell? ⟨w.heap.size, 0, none⟩ = some (.int .i64 0) ∧ x'.cell? ⟨w.heap.size, 1, none⟩ = some (.int .i64 j) ∧ x'.cell? ⟨w.heap.size, 2, none⟩ = some (.int .i64 C) ∧ x'.cell? ⟨w.heap.size, 3, none⟩ = some (.int .i64 T) ∧ x'.cell? ⟨gl, ol + k * 2, none⟩ = some (.int .u64 y0) ∧ x'.cell? ⟨gl, ol + k * 2 + 1, none⟩ = some (.int .u64 y1))
                (first | go_keep | exact HSIX.out _ _ HMc.out | exact HSIX.out _ _ (HMc.out.put _ _))
                ((go_at_call 56; refine (HK.out _).mono ?_; rintro e w8 ⟨rfl, hb2⟩; replace HMc := hide (HMc.out.below hb2); clear hb2; have kK := HMc.out.a.cell (K + 1) (by rw [List.length_set]; have := HLN.out; omega); have fK := HMc.out.a.free (K + 1)))
              rename_i hHeld
              clear hHeld s0 s1 s2 s3 p0 p1' kK fK
              replace HMc := hide (HMc.out.put (K + 1) y1)
              generalize (w8.setCell ⟨g, K + 1, none⟩ (.int .u64 y1)) = w9 at HMc ⊢
              obtain ⟨s0, s1, s2, s3, p0, p1'⟩ := HSIX.out _ _ HMc.out
              go_wp2_with fail
              refine (HT.out _).mono ?_
              rintro e wa ⟨rfl, hb2⟩
              replace HMc := hide (HMc.out.below hb2)
              clear hb2 s0 s1 s2 s3 p0 p1'
              have kK := HMc.out.a.cell (P + 1) (by rw [List.length_set, List.length_set]; have := HLN.out; omega)
              have fK := HMc.out.a.free (P + 1)
              have hfin := HMc.out.put (P + 1) (IntKind.u64.wrap (x + 1))
              rw [← HFI.out] at hfin
              have HFIN := hide hfin
              clear hfin
              go_wp2
              go_roundw
              case rel => exact ⟨k + 1, by omega, by simp, HFIN.out⟩
              case measure => simp [RowKit.intOf]; omega
            · obtain rfl : k = i := by omega
              have HA := hide hfa
              clear hfa
              go_wp2
              go_ret2
              exact ⟨_, rfl, HA.out.a.row (fillS_length _ _ _ _ _) (by omega), HA.out.m.bel⟩
theorem refFill_any (b W C T : Int) (v : Value) (l : List Tk) (w : World) (hl : TAt w v l) (htk : Tok l) (hb : l.length * 16 ≤ 140737488355328) : Calls Try.prog 19 #[sAgg b W C T, v] w (FillPost w (errS b W C T l) (ansS b W C T l)) := by
  by_cases h : OkS b W C T
  · obtain ⟨W', C', rfl, rfl, _⟩ := ok_nat h
    unfold ansS
    by_cases hn : hasNev l = true
    · have e : errS b W' C' T l = 51 := by unfold errS; rw [if_pos h, if_pos hn]
      rw [e, if_neg (by decide)]
      exact refFill_never b W' C' T v l w hl h hn
    · have hn' : hasNev l = false := by simpa using hn
      by_cases hf : (W' : Int) * C' < l.length
      · have e : errS b W' C' T l = 62 := by unfold errS; rw [if_pos h, if_neg hn, if_pos hf]
        rw [e, if_neg (by decide)]
        exact refFill_full b T W' C' v l w hl h hn' hf hb
      · have e : errS b W' C' T l = 0 := by unfold errS; rw [if_pos h, if_neg hn, if_neg hf]
        rw [e, if_pos rfl]
        have e2 : ((W' : Int) * (2 + 2 * (C' : Int))).toNat = W' * (2 + 2 * C') := by
          rw [show (W' : Int) * (2 + 2 * (C' : Int)) = ((W' * (2 + 2 * C') : Nat) : Int) by push_cast; rfl]; rfl
        rw [e2]
        exact refFill_good b T W' C' _ v l w hl htk h hn' hf hb rfl
  · have e : errS b W C T l = 60 := by unfold errS; rw [if_neg h]
    unfold ansS
    rw [e, if_neg (by decide)]
    exact refFill_shape b W C T v l w hl h
end Go.Proofs.Ytmnicdankdapgaa
