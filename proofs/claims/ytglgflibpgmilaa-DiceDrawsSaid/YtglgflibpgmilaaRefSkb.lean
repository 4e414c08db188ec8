/- The reference's Skipped: many steps. -/
import Derived.Test.YtglgflibpgmilaaRefMat
namespace Go.Proofs.Ytglgflibpgmilaa
open Go.RowKit Go.Lib

theorem put_size (w : World) (b : Nat) (z : St) : ((((w.setCell ⟨b, 0, none⟩ (.int .u64 z.a)).setCell ⟨b, 1, none⟩ (.int .u64 z.b)).setCell ⟨b, 2, none⟩ (.int .u64 z.c)).setCell ⟨b, 3, none⟩ (.int .u64 z.d)).heap.size = w.heap.size := by simp [World.setCell]
theorem row_set {w : World} {B n z b i : Nat} {e : TypeId} {v : Value} {xs : List Value} (h : w.ownsRow B e z v n xs) (hb : b < B) (x : Value) : (w.setCell ⟨b, i, none⟩ x).ownsRow B e z v n xs := by
  obtain ⟨h1, h2 | ⟨g, cap, cur, rfl, hg, hh, r⟩⟩ := h
  · exact ⟨h1, .inl h2⟩
  · exact ⟨h1, .inr ⟨g, cap, cur, rfl, hg, (Below.heap_setCell _ _ _ _ (by show g ≠ b; omega)).trans hh, r⟩⟩
theorem row_put {w : World} {B n z b : Nat} {e : TypeId} {v : Value} {xs : List Value} (h : w.ownsRow B e z v n xs) (hb : b < B) (s : St) : ((((w.setCell ⟨b, 0, none⟩ (.int .u64 s.a)).setCell ⟨b, 1, none⟩ (.int .u64 s.b)).setCell ⟨b, 2, none⟩ (.int .u64 s.c)).setCell ⟨b, 3, none⟩ (.int .u64 s.d)).ownsRow B e z v n xs :=
  row_set (row_set (row_set (row_set h hb _) hb _) hb _) hb _
theorem own_base {w : World} {B B' n z : Nat} {e : TypeId} {v : Value} {xs : List Value} (h : w.ownsRow B e z v n xs) (hb : B' ≤ B) : w.ownsRow B' e z v n xs := by
  obtain ⟨h1, h2 | ⟨g, cap, cur, rfl, hg, hh, r⟩⟩ := h
  · exact ⟨h1, .inl h2⟩
  · exact ⟨h1, .inr ⟨g, cap, cur, rfl, Nat.le_trans hb hg, hh, r⟩⟩
set_option maxRecDepth 100000 in
set_option maxHeartbeats 4000000 in
theorem skipped_big (s : St) (n : Nat) (w : World) (hs : s.Ok) (hn : ¬ n < 100000) (hn1 : n < 18446744073709551616) :
    Calls Try.prog 48 #[stAgg s, .int .u64 n] w fun e w' => e = .returned (stAgg (Leap.it n s)) ∧ Below w.heap.size w w' := by
  obtain ⟨i0, hi, hz0, hz1, hz2⟩ := info_parts Try.info44
  have hd : decide ((n : Int) < 100000) = false := by simp; omega
  have HN := hide hn; have HN1 := hide hn1
  clear hn hn1
  obtain ⟨w0, hw0⟩ : ∃ w0, w0 = (w.alloc (.cells (stCells s) 44)).alloc (.cells (stCells Leap.zs) 44) := ⟨_, rfl⟩
  have HK : Hid (Skp w w0 s) := hw0 ▸ Skp.new w s
  have HW0 := hide hw0
  clear hw0
  unfold stAgg
  go_enter Try.func48, Try.ntmps48
  go_wp2_with fail
  go_loopw [6, 7] (fun v t wr => ∃ k : Nat, k ≤ 256 ∧ t = .int .i64 k ∧ wr.ownsRow w0.heap.size 44 4 v k (matCells (steps 1) k) ∧ Below w0.heap.size w0 wr) (fun _ t _ => 256 - (RowKit.intOf t).toNat)
  case atStart => exact ⟨0, by omega, rfl, World.ownsRow_nil _ _ _ _, by rw [HW0.out]; exact Below.refl _ _⟩
  case round =>
    obtain ⟨k, hk, rfl, hown, hL⟩ := hrel
    by_cases hlt : k < 256
    · have HO := hide hown; have HL := hide hL
      clear hown hL
      have hst : steps 1 k = stNext (Leap.bitSt k) := rfl
      have hb1 := bit_any k wr hlt
      have hb2 := fun W => refBehind_any (Leap.bitSt k) (Leap.bitSt_ok k) W
      generalize Leap.bitSt k = bk at hst hb1 hb2
      generalize stNext bk = z at hst hb2
      have HB1 := hide hb1; have HB2 := hide hb2; have HST := hide hst
      clear hb1 hb2 hst
      have hki : (k : Int) < 256 := by omega
      have HLT := hide hlt; have HKK := hide hk
      clear hlt hk
      go_wp2_with fail
      refine HB1.out.mono ?_
      rintro e w1 ⟨rfl, hb1⟩
      have HBa := hide hb1
      clear hb1
      unfold stAgg
      go_wp2_with fail
      refine (HB2.out w1).mono ?_
      rintro e w2 ⟨rfl, hb2⟩
      have HBb := hide (HBa.out.trans (hb2.mono HBa.out.size))
      clear hb2 HBa HB1 HB2
      unfold stAgg
      go_wp2_with (at_builtin; refine wpList_append_own _ rfl _ _ 91 rfl w0.heap.size 44 i0 _ 4 32 Try.underlying91 hi hz0 hz1 hz2 rfl (by decide) _ _ _ rfl ((owns_below HO.out HBb.out).alloc _) ⟨w2.heap.size, 0, none⟩ 1 1 (four z) rfl rfl (four_news w2 z _) (four_one z) ?c3 ?c4 ?c5 ?_)
      case c3 => unfold maxLen; omega
      case c4 => omega
      case c5 => have := HL.out.size; have := HBb.out.size; simp; omega
      intro v' w3 hown' hgrow _
      have HR := hide (mat_step HST.out HL.out HBb.out HO hown' hgrow)
      clear hown' hgrow HO HL HBb
      go_wp2
      go_roundw
      case rel => exact ⟨k + 1, HLT.out, by go_num, HR.out.1, HR.out.2⟩
      case measure => simp [RowKit.intOf]; omega
    · obtain rfl : k = 256 := by omega
      have HO := hide hown; have HL := hide hL
      clear hown hL hlt hk
      have hnn := HN1.out
      rw [show ((256 : Nat) : Int) = (256 : Int) from rfl]
      have HS0 : Hid (Leap.it (n * 1) s = Leap.it n s) := by show _ = _; rw [Nat.mul_one]
      clear hnn
      go_wp2_with fail
      go_loopw [1, 6] (fun t v wr' => ∃ (N e : Nat) (sc : St), t = .int .u64 N ∧ N < 18446744073709551616 ∧ sc.Ok ∧ Leap.it (N * e) sc = Leap.it n s ∧ wr'.ownsRow w0.heap.size 44 4 v 256 (matCells (steps e) 256) ∧ Skp w wr' sc) (fun t _ _ => (RowKit.intOf t).toNat)
      case atStart => exact ⟨n, 1, s, rfl, HN1.out, hs, HS0.out, HO.out, HK.out.below HL.out⟩
      case round =>
        clear HS0 HO HL hd
        obtain ⟨N, e, sc, rfl, hN, hsc, hit, hown, hF⟩ := hrel
        by_cases hN0 : N = 0
        · subst hN0
          rw [Nat.zero_mul] at hit
          obtain ⟨o, hO⟩ : ∃ o, sc = o := ⟨_, rfl⟩
          have HIT : Hid (Leap.it n s = o) := by show _ = _; rw [← hO]; exact hit.symm
          subst hO
          have a0 := hF.a.cell 0 (by omega); have a1 := hF.a.cell 1 (by omega); have a2 := hF.a.cell 2 (by omega); have a3 := hF.a.cell 3 (by omega)
          have z0 := hF.c.cell 0 (by omega); have z1 := hF.c.cell 1 (by omega); have z2 := hF.c.cell 2 (by omega); have z3 := hF.c.cell 3 (by omega)
          have f0 := hF.c.free 0; have f1 := hF.c.free 1; have f2 := hF.c.free 2; have f3 := hF.c.free 3
          simp only [Leap.word] at a0 a1 a2 a3
          have HF := hide hF
          clear hF hown hit hN
          go_wp2
          have hW := four_setr HF.out.c sc.a sc.b sc.c sc.d
          have b0 := hW.cell 0 (by omega); have b1 := hW.cell 1 (by omega); have b2 := hW.cell 2 (by omega); have b3 := hW.cell 3 (by omega)
          exact bodyPost_ret (v := stAgg sc) (by simp [results, Try.results48, go_sem, stAgg, b0, b1, b2, b3, Leap.word]) rfl
            ⟨by rw [HIT.out]; rfl, (((HF.out.l.setCell (by simp) _).setCell (by simp) _).setCell (by simp) _).setCell (by simp) _⟩
        · obtain ⟨g, c, rfl, hg, hgc, hmat⟩ := mat_of_owns (by omega) hown
          obtain ⟨H, hH⟩ : ∃ H, H = N / 2 := ⟨_, rfl⟩
          have hap := fun W (hm : Mat W g (steps e) 256) => apply_any g c (steps e) sc W hm (steps_ok e) hsc
          rw [show Leap.appN (steps e) sc 256 = Leap.it e sc from Leap.appN_steps hsc e] at hap
          have hok2 := Leap.it_ok hsc e
          have hhalf := Leap.it_half sc N e
          rw [hit] at hhalf
          have hodd : (bits .and .u64 (N : Int) 1 == 1) = decide (N % 2 = 1) := by
            have h := u64_and_nat N 1 hN (by decide)
            have h1 : bits .and .u64 (N : Int) 1 = ((N &&& 1 : Nat) : Int) := h
            rw [h1, Nat.and_one_is_mod]
            apply Bool.eq_iff_iff.2; simp; omega
          have hHi : (N : Int) / 2 = (H : Int) := by omega
          have hpos : (0 : Int) < (N : Int) := by omega
          have hNd : 0 < N := by omega
          have hdec : (RowKit.intOf (.int .u64 (H : Int))).toNat < (RowKit.intOf (.int .u64 (N : Int))).toNat := by simp [RowKit.intOf]; omega
          have HH64 : Hid (H < 18446744073709551616) := by show H < 18446744073709551616; omega
          have a0 := hF.a.cell 0 (by omega); have a1 := hF.a.cell 1 (by omega); have a2 := hF.a.cell 2 (by omega); have a3 := hF.a.cell 3 (by omega)
          simp only [Leap.word] at a0 a1 a2 a3
          have hw0 := HK.out.c.lt
          by_cases hN2 : N % 2 = 1
          · rw [hN2, Nat.one_mul, ← hH] at hhalf
            have hodd2 : (bits .and .u64 (N : Int) 1 == 1) = true := by rw [hodd]; simpa using hN2
            generalize Leap.it e sc = z at hap hok2 hhalf
            unfold stAgg at hap
            have HAP := hide (hap wr hmat); have HHF := hide hhalf; have HOW := hide hown; have HF := hide hF; have HOK2 := hide hok2
            have HLW := hide (show w0.heap.size ≤ wr.heap.size from Nat.le_of_lt (Nat.lt_of_le_of_lt hg hmat.1))
            clear hgc hap hhalf hodd hN2 hN hH hown hF hmat hit hN0 hok2 hsc hg
            by_cases hH0 : H = 0
            · subst hH0
              have hHp : ¬ (0 : Int) < ((0 : Nat) : Int) := by omega
              go_wp2_with (first
                | (go_at_call 56; refine HAP.out.mono ?_; rintro e1 w1 ⟨rfl, hb1⟩; have HS1 := hide (HF.out.below hb1); have HO1 := hide (owns_below HOW.out hb1); have b0 := HS1.out.a.cell 0 (by omega); have b1 := HS1.out.a.cell 1 (by omega); have b2 := HS1.out.a.cell 2 (by omega); have b3 := HS1.out.a.cell 3 (by omega); have f0 := HS1.out.a.free 0; have f1 := HS1.out.a.free 1; have f2 := HS1.out.a.free 2; have f3 := HS1.out.a.free 3; have HLB := hide (Nat.le_trans HLW.out hb1.size); clear hb1 a0 a1 a2 a3)
                | fail)
              have HSK := hide (HS1.out.put z)
              have HOW1 := hide (row_put HO1.out (show w.heap.size < w0.heap.size by omega) z)
              have HW1 := hide (put_size w1 w.heap.size z)
              have HWB := hide HLB.out
              generalize ((((w1.setCell ⟨w.heap.size, 0, none⟩ (.int .u64 z.a)).setCell ⟨w.heap.size, 1, none⟩ (.int .u64 z.b)).setCell ⟨w.heap.size, 2, none⟩ (.int .u64 z.c)).setCell ⟨w.heap.size, 3, none⟩ (.int .u64 z.d)) = W1 at HSK HOW1 HW1 ⊢
              go_roundw
              case rel => exact ⟨0, e, z, rfl, by decide, HOK2.out, by have h5 := HHF.out; rw [Nat.zero_mul] at h5 ⊢; exact h5, HOW1.out, HSK.out⟩
              case measure => exact hdec
            · have hHp : (0 : Int) < (H : Int) := by omega
              have hH1 : 0 < H := by omega
              clear hH0
              go_wp2_with (first
                | (go_at_call 56; refine HAP.out.mono ?_; rintro e1 w1 ⟨rfl, hb1⟩; have HS1 := hide (HF.out.below hb1); have HO1 := hide (owns_below HOW.out hb1); have b0 := HS1.out.a.cell 0 (by omega); have b1 := HS1.out.a.cell 1 (by omega); have b2 := HS1.out.a.cell 2 (by omega); have b3 := HS1.out.a.cell 3 (by omega); have f0 := HS1.out.a.free 0; have f1 := HS1.out.a.free 1; have f2 := HS1.out.a.free 2; have f3 := HS1.out.a.free 3; have HLB := hide (Nat.le_trans HLW.out hb1.size); clear hb1 a0 a1 a2 a3)
                | fail)
              have HSK := hide (HS1.out.put z)
              have HOW1 := hide (row_put HO1.out (show w.heap.size < w0.heap.size by omega) z)
              have HW1 := hide (put_size w1 w.heap.size z)
              have HWB := hide HLB.out
              generalize ((((w1.setCell ⟨w.heap.size, 0, none⟩ (.int .u64 z.a)).setCell ⟨w.heap.size, 1, none⟩ (.int .u64 z.b)).setCell ⟨w.heap.size, 2, none⟩ (.int .u64 z.c)).setCell ⟨w.heap.size, 3, none⟩ (.int .u64 z.d)) = W1 at HSK HOW1 HW1 ⊢
              go_loopw [8, 9] (fun v t wi => ∃ k : Nat, k ≤ 256 ∧ t = .int .i64 (k : Int) ∧ wi.ownsRow W1.heap.size 44 4 v k (matCells (steps (e + e)) k) ∧ Below W1.heap.size W1 wi) (fun _ t _ => 256 - (RowKit.intOf t).toNat)
              case atStart => exact ⟨0, by omega, rfl, World.ownsRow_nil _ _ _ _, Below.refl _ _⟩
              case round =>
                obtain ⟨k, hk, rfl, hown2, hL2⟩ := hrel
                have HO2 := hide hown2; have HL2 := hide hL2
                clear hown2 hL2
                by_cases hlt : k < 256
                · obtain ⟨g2, c2, he, _, _, hmat2⟩ := mat_of_owns (by omega) (owns_below HOW1.out HL2.out)
                  simp only [Value.slice.injEq, Option.some.injEq, Addr.mk.injEq, true_and, and_true] at he
                  obtain ⟨q1, q2⟩ := he
                  subst q1 q2
                  have m0 := hmat2.2 k hlt 0 (by omega); have m1 := hmat2.2 k hlt 1 (by omega); have m2 := hmat2.2 k hlt 2 (by omega); have m3 := hmat2.2 k hlt 3 (by omega)
                  have hap2 := apply_any g c (steps e) (steps e k) wr hmat2 (steps_ok e) (steps_ok e k)
                  rw [show Leap.appN (steps e) (steps e k) 256 = steps (e + e) k from Leap.twice_steps k e] at hap2
                  generalize hzk : steps (e + e) k = zk at hap2
                  generalize hyk : steps e k = yk at m0 m1 m2 m3 hap2
                  simp only [Leap.word] at m0 m1 m2 m3
                  rw [Nat.add_zero] at m0
                  unfold stAgg at hap2
                  have HAP2 := hide hap2; have HZK := hide hzk
                  have hki : (k : Int) < 256 := by omega
                  have HLT := hide hlt
                  clear hap2 hzk hyk hmat2 hlt hk
                  go_wp2_with (first
                    | (go_at_call 56; refine HAP2.out.mono ?_; rintro e2 w5 ⟨rfl, hb5⟩; have HB5 := hide hb5; clear hb5 m0 m1 m2 m3)
                    | (at_builtin; refine wpList_append_own _ rfl _ _ 91 rfl W1.heap.size 44 i0 _ 4 32 Try.underlying91 hi hz0 hz1 hz2 rfl (by decide) _ _ _ rfl ((owns_below HO2.out HB5.out).alloc _) ⟨w5.heap.size, 0, none⟩ 1 1 (four zk) rfl rfl (four_news w5 zk _) (four_one zk) (by unfold maxLen; have := HLT.out; omega) (by have := HLT.out; omega) (by have := HL2.out.size; have := HB5.out.size; simp; omega) ?_; intro v' w6 hown' hgrow hq; have HR := hide (mat_step HZK.out HL2.out HB5.out HO2 hown' hgrow); clear hown' hgrow hq)
                    | fail)
                  go_roundw
                  case rel => exact ⟨k + 1, HLT.out, by go_num, HR.out.1, HR.out.2⟩
                  case measure => have := HLT.out; simp [RowKit.intOf]; omega
                · obtain rfl : k = 256 := by omega
                  clear hlt hk
                  go_wp2_with fail
                  go_roundw
                  case rel => exact ⟨H, e + e, z, rfl, HH64.out, HOK2.out, HHF.out, own_base HO2.out (by rw [HW1.out]; exact HWB.out), HSK.out.below HL2.out⟩
                  case measure => exact hdec
          · have hN0e : N % 2 = 0 := by omega
            rw [hN0e, Nat.zero_mul, ← hH] at hhalf
            have hodd2 : (bits .and .u64 (N : Int) 1 == 1) = false := by rw [hodd]; simpa using hN2
            have HHF := hide (show Leap.it (H * (e + e)) sc = Leap.it n s from hhalf); have HOW := hide hown; have HSK := hide hF; have HOK2 := hide hsc
            have HLW := hide (show w0.heap.size ≤ wr.heap.size from Nat.le_of_lt (Nat.lt_of_le_of_lt hg hmat.1))
            obtain ⟨Wx, hWx⟩ : ∃ Wx, Wx = wr := ⟨_, rfl⟩
            clear hgc hap hhalf hodd hN2 hN0e hN hH hown hF hmat hit hN0 hok2 hsc hg a0 a1 a2 a3
            subst hWx
            by_cases hH0 : H = 0
            · subst hH0
              have hHp : ¬ (0 : Int) < ((0 : Nat) : Int) := by omega
              go_wp2_with fail
              (try rw [decide_eq_true hNd])
              go_roundw
              case rel => exact ⟨0, e, sc, rfl, by decide, HOK2.out, by have h5 := HHF.out; rw [Nat.zero_mul] at h5 ⊢; exact h5, HOW.out, HSK.out⟩
              case measure => exact hdec
            · have hHp : (0 : Int) < (H : Int) := by omega
              have hH1 : 0 < H := by omega
              clear hH0
              go_wp2_with fail
              (try rw [decide_eq_true hNd])
              go_loopw [8, 9] (fun v t wi => ∃ k : Nat, k ≤ 256 ∧ t = .int .i64 (k : Int) ∧ wi.ownsRow Wx.heap.size 44 4 v k (matCells (steps (e + e)) k) ∧ Below Wx.heap.size Wx wi) (fun _ t _ => 256 - (RowKit.intOf t).toNat)
              case atStart => exact ⟨0, by omega, rfl, World.ownsRow_nil _ _ _ _, Below.refl _ _⟩
              case round =>
                obtain ⟨k, hk, rfl, hown2, hL2⟩ := hrel
                have HO2 := hide hown2; have HL2 := hide hL2
                clear hown2 hL2
                by_cases hlt : k < 256
                · obtain ⟨g2, c2, he, _, _, hmat2⟩ := mat_of_owns (by omega) (owns_below HOW.out HL2.out)
                  simp only [Value.slice.injEq, Option.some.injEq, Addr.mk.injEq, true_and, and_true] at he
                  obtain ⟨q1, q2⟩ := he
                  subst q1 q2
                  have m0 := hmat2.2 k hlt 0 (by omega); have m1 := hmat2.2 k hlt 1 (by omega); have m2 := hmat2.2 k hlt 2 (by omega); have m3 := hmat2.2 k hlt 3 (by omega)
                  have hap2 := apply_any g c (steps e) (steps e k) wr hmat2 (steps_ok e) (steps_ok e k)
                  rw [show Leap.appN (steps e) (steps e k) 256 = steps (e + e) k from Leap.twice_steps k e] at hap2
                  generalize hzk : steps (e + e) k = zk at hap2
                  generalize hyk : steps e k = yk at m0 m1 m2 m3 hap2
                  simp only [Leap.word] at m0 m1 m2 m3
                  rw [Nat.add_zero] at m0
                  unfold stAgg at hap2
                  have HAP2 := hide hap2; have HZK := hide hzk
                  have hki : (k : Int) < 256 := by omega
                  have HLT := hide hlt
                  clear hap2 hzk hyk hmat2 hlt hk
                  go_wp2_with (first
                    | (go_at_call 56; refine HAP2.out.mono ?_; rintro e2 w5 ⟨rfl, hb5⟩; have HB5 := hide hb5; clear hb5 m0 m1 m2 m3)
                    | (at_builtin; refine wpList_append_own _ rfl _ _ 91 rfl Wx.heap.size 44 i0 _ 4 32 Try.underlying91 hi hz0 hz1 hz2 rfl (by decide) _ _ _ rfl ((owns_below HO2.out HB5.out).alloc _) ⟨w5.heap.size, 0, none⟩ 1 1 (four zk) rfl rfl (four_news w5 zk _) (four_one zk) (by unfold maxLen; have := HLT.out; omega) (by have := HLT.out; omega) (by have := HL2.out.size; have := HB5.out.size; simp; omega) ?_; intro v' w6 hown' hgrow hq; have HR := hide (mat_step HZK.out HL2.out HB5.out HO2 hown' hgrow); clear hown' hgrow hq)
                    | fail)
                  go_roundw
                  case rel => exact ⟨k + 1, HLT.out, by go_num, HR.out.1, HR.out.2⟩
                  case measure => have := HLT.out; simp [RowKit.intOf]; omega
                · obtain rfl : k = 256 := by omega
                  clear hlt hk
                  go_wp2_with fail
                  go_roundw
                  case rel => exact ⟨H, e + e, sc, rfl, HH64.out, HOK2.out, HHF.out, own_base HO2.out HLW.out, HSK.out.below HL2.out⟩
                  case measure => exact hdec
end Go.Proofs.Ytglgflibpgmilaa
