/- Powers of x. -/
import Derived.Test.YtglgflibpgmilaaTimes
import Derived.Test.YtglgflibpgmilaaLen
namespace Go.Proofs.Ytglgflibpgmilaa
open Go.RowKit Go.Lib

theorem bitLenAux_spec : ∀ (f x : Nat), x < 2 ^ f → x / 2 ^ Lib.bitLenAux f x = 0 ∧ Lib.bitLenAux f x ≤ f
  | 0, x, h => by
    have : x = 0 := by simpa using h
    subst this; simp [Lib.bitLenAux]
  | f + 1, x, h => by
    simp only [Lib.bitLenAux]
    split
    · rename_i h0; subst h0; simp
    · have hx : x / 2 < 2 ^ f := by rw [Nat.pow_succ] at h; omega
      have := bitLenAux_spec f (x / 2) hx
      rw [Nat.add_comm 1, Nat.pow_succ, Nat.mul_comm, ← Nat.div_div_eq_div_mul]
      exact ⟨this.1, by omega⟩
theorem bitLen_spec (x : Nat) (h : x < 18446744073709551616) : x / 2 ^ Lib.bitLen x = 0 ∧ Lib.bitLen x ≤ 64 := bitLenAux_spec 64 x h

theorem half_step (n k : Nat) : n / 2 ^ k = 2 * (n / 2 ^ (k + 1)) + (n.testBit k).toNat := by
  rw [Nat.pow_succ, ← Nat.div_div_eq_div_mul, Nat.testBit_eq_decide_div_mod_eq]
  generalize n / 2 ^ k = m
  by_cases h : m % 2 = 1
  · simp [h]; omega
  · simp [h]; omega

structure Two (w wr : World) (c o : St) : Prop where
  c : St4 wr w.heap.size c
  o : St4 wr (w.heap.size + 1) o
  l : Below w.heap.size w wr
theorem Two.below {w wr w' : World} {c o : St} (h : Two w wr c o) (k : Below wr.heap.size wr w') : Two w w' c o :=
  ⟨h.c.below k h.c.lt, h.o.below k h.o.lt, h.l.trans (k.mono h.l.size)⟩
theorem Two.put {w wr : World} {c o : St} (h : Two w wr c o) (x : St) :
    Two w ((((wr.setCell ⟨w.heap.size + 1, 0, none⟩ (.int .u64 x.a)).setCell ⟨w.heap.size + 1, 1, none⟩ (.int .u64 x.b)).setCell ⟨w.heap.size + 1, 2, none⟩ (.int .u64 x.c)).setCell ⟨w.heap.size + 1, 3, none⟩ (.int .u64 x.d)) c x :=
  ⟨(((h.c.other (by omega) _ _).other (by omega) _ _).other (by omega) _ _).other (by omega) _ _,
   four_set h.o x.a x.b x.c x.d,
   (((h.l.setCell (by simp) _).setCell (by simp) _).setCell (by simp) _).setCell (by simp) _⟩
theorem Two.new (w : World) (c o : St) : Two w ((w.alloc (.cells (stCells c) 41)).alloc (.cells (stCells o) 41)) c o := by
  refine ⟨?_, ?_, ((Below.refl _ w).alloc (Nat.le_refl _) _).alloc (by simp) _⟩
  · unfold St4; rw [Below.heap_alloc _ _ _ (by simp)]; exact heap_new w _
  · have := heap_new (w.alloc (.cells (stCells c) 41)) (.cells (stCells o) 41)
    simpa [St4] using this

set_option maxRecDepth 100000 in
set_option maxHeartbeats 2000000 in
theorem powerOfX_any (n : Nat) (w : World) (hn : n < 18446744073709551616) :
    Calls Try.prog 51 #[.int .u64 n] w fun e w' => ∃ p, e = .returned (stAgg p) ∧ Leap.Powers p n ∧ Below w.heap.size w w' := by
  have hL := bitLen_spec n hn
  obtain ⟨L, hLe⟩ : ∃ L, L = Lib.bitLen n := ⟨_, rfl⟩
  rw [← hLe] at hL
  have HLe := hide hLe; have HL0 := hide hL.1
  have hL64 := hL.2
  clear hLe hL
  go_enter Try.func51, Try.ntmps51
  go_wp2_with fail
  have hlen := Try.bits_Len64 n ((w.alloc (.cells (stCells Leap.zs) 41)).alloc (.cells (stCells Leap.one) 41)) (by omega) (by omega)
  rw [Int.toNat_natCast, ← HLe.out] at hlen
  refine hlen.mono ?_
  clear hlen
  rintro e w1 ⟨rfl, rfl⟩
  go_wp2_with fail
  go_loopw [4] (fun i wr => ∃ (k : Nat) (p : St), k ≤ 64 ∧ i = .int .i64 ((k : Int) - 1) ∧ Leap.Powers p (n / 2 ^ k) ∧ Two w wr Leap.zs p) (fun i _ => (RowKit.intOf i + 1).toNat)
  case atStart => exact ⟨L, Leap.one, hL64, rfl, by rw [HL0.out]; exact Leap.Powers.one, Two.new w Leap.zs Leap.one⟩
  case round =>
    obtain ⟨k, p, hk, rfl, hP, hT⟩ := hrel
    by_cases hpos : 0 < k
    · have hst := half_step n (k - 1)
      rw [show k - 1 + 1 = k by omega] at hst
      obtain ⟨bb, hbb⟩ : ∃ bb, bb = n.testBit (k - 1) := ⟨_, rfl⟩
      rw [← hbb] at hst
      have hbit : (bits .and .u64 ((n : Int) / 2 ^ (k - 1)) 1 == 1) = bb := by rw [hbb]; exact low_bit n (k - 1) hn
      have hp := hP.1
      have hP2 := hP.sq
      have a0 := hT.o.cell 0 (by omega); have a1 := hT.o.cell 1 (by omega); have a2 := hT.o.cell 2 (by omega); have a3 := hT.o.cell 3 (by omega)
      simp only [Leap.word] at a0 a1 a2 a3
      have HT := hide hT; have HS := hide hst; have HP2 := hide hP2; have HBIT := hide hbit
      clear hT hst hP2 hP hbb hbit
      go_wp2_with fail
      refine (times_any p p _ hp hp).mono ?_
      rintro e w2 ⟨rfl, hb2⟩
      have hT2 := HT.out.below hb2
      generalize Leap.tm p p 256 = o at HP2 ⊢
      have f0 := hT2.o.free 0; have f1 := hT2.o.free 1; have f2 := hT2.o.free 2; have f3 := hT2.o.free 3
      have a0 := hT2.o.cell 0 (by omega); have a1 := hT2.o.cell 1 (by omega); have a2 := hT2.o.cell 2 (by omega); have a3 := hT2.o.cell 3 (by omega)
      have HT3 := hide (hT2.put o)
      clear hT2 hb2 HT
      unfold stAgg
      have hb1 := HBIT.out
      cases bb
      · go_wp2_with fail
        go_roundw
        case rel =>
          refine ⟨k - 1, o, by omega, by go_num, ?_, HT3.out⟩
          rw [HS.out]; exact HP2.out
        case measure => simp [RowKit.intOf]; omega
      · go_wp2_with fail
        refine (timesX_any o _ HP2.out.1).mono ?_
        rintro e w4 ⟨rfl, hb4⟩
        have hT4 := HT3.out.below hb4
        have HP3 := hide HP2.out.tx
        generalize Leap.tx o = o2 at HP3 ⊢
        have f0 := hT4.o.free 0; have f1 := hT4.o.free 1; have f2 := hT4.o.free 2; have f3 := hT4.o.free 3
        have a0 := hT4.o.cell 0 (by omega); have a1 := hT4.o.cell 1 (by omega); have a2 := hT4.o.cell 2 (by omega); have a3 := hT4.o.cell 3 (by omega)
        have HT5 := hide (hT4.put o2)
        clear hT4 hb4 HT3
        unfold stAgg
        go_wp2_with fail
        go_roundw
        case rel =>
          refine ⟨k - 1, o2, by omega, by go_num, ?_, HT5.out⟩
          rw [HS.out]; exact HP3.out
        case measure => simp [RowKit.intOf]; omega
    · obtain rfl : 0 = k := by omega
      have hP0 : Leap.Powers p n := by simpa using hP
      have a0 := hT.o.cell 0 (by omega); have a1 := hT.o.cell 1 (by omega); have a2 := hT.o.cell 2 (by omega); have a3 := hT.o.cell 3 (by omega)
      have z0 := hT.c.cell 0 (by omega); have z1 := hT.c.cell 1 (by omega); have z2 := hT.c.cell 2 (by omega); have z3 := hT.c.cell 3 (by omega)
      have f0 := hT.c.free 0; have f1 := hT.c.free 1; have f2 := hT.c.free 2; have f3 := hT.c.free 3
      simp only [Leap.word] at a0 a1 a2 a3
      have HC := hide hT.c; have HL := hide hT.l; have HP := hide hP0
      clear hT hP hP0
      go_wp2
      have hW := four_set HC.out p.a p.b p.c p.d
      have b0 := hW.cell 0 (by omega); have b1 := hW.cell 1 (by omega); have b2 := hW.cell 2 (by omega); have b3 := hW.cell 3 (by omega)
      exact bodyPost_ret (v := stAgg p) (by simp [results, Try.results51, go_sem, stAgg, b0, b1, b2, b3, Leap.word]) rfl
        ⟨p, rfl, HP.out, (((HL.out.setCell (Nat.le_refl _) _).setCell (Nat.le_refl _) _).setCell (Nat.le_refl _) _).setCell (Nat.le_refl _) _⟩
end Go.Proofs.Ytglgflibpgmilaa
