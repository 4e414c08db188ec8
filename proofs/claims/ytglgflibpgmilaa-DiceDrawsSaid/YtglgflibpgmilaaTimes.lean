/- The product of two polynomials. -/
import Derived.Test.YtglgflibpgmilaaTimesX
namespace Go.Proofs.Ytglgflibpgmilaa
open Go.RowKit Go.Lib

/-- Four blocks of the product: the two factors, the result's place, what has been reckoned. -/
structure Four (w wr : World) (a b c o : St) : Prop where
  a : St4 wr w.heap.size a
  b : St4 wr (w.heap.size + 1) b
  c : St4 wr (w.heap.size + 2) c
  o : St4 wr (w.heap.size + 3) o
  l : Below w.heap.size w wr
theorem Four.below {w wr w' : World} {a b c o : St} (h : Four w wr a b c o) (k : Below wr.heap.size wr w') : Four w w' a b c o :=
  ⟨h.a.below k h.a.lt, h.b.below k h.b.lt, h.c.below k h.c.lt, h.o.below k h.o.lt, h.l.trans (k.mono h.l.size)⟩
theorem Four.put {w wr : World} {a b c o : St} (h : Four w wr a b c o) (x : St) :
    Four w ((((wr.setCell ⟨w.heap.size + 3, 0, none⟩ (.int .u64 x.a)).setCell ⟨w.heap.size + 3, 1, none⟩ (.int .u64 x.b)).setCell ⟨w.heap.size + 3, 2, none⟩ (.int .u64 x.c)).setCell ⟨w.heap.size + 3, 3, none⟩ (.int .u64 x.d)) a b c x :=
  ⟨(((h.a.other (by omega) _ _).other (by omega) _ _).other (by omega) _ _).other (by omega) _ _,
   (((h.b.other (by omega) _ _).other (by omega) _ _).other (by omega) _ _).other (by omega) _ _,
   (((h.c.other (by omega) _ _).other (by omega) _ _).other (by omega) _ _).other (by omega) _ _,
   four_set h.o x.a x.b x.c x.d,
   (((h.l.setCell (by simp) _).setCell (by simp) _).setCell (by simp) _).setCell (by simp) _⟩
theorem Four.new (w : World) (a b c o : St) : Four w ((((w.alloc (.cells (stCells a) 41)).alloc (.cells (stCells b) 41)).alloc (.cells (stCells c) 41)).alloc (.cells (stCells o) 41)) a b c o := by
  refine ⟨?_, ?_, ?_, ?_, ((((Below.refl _ w).alloc (Nat.le_refl _) _).alloc (by simp) _).alloc (by simp; omega) _).alloc (by simp; omega) _⟩
  · unfold St4; rw [Below.heap_alloc _ _ _ (by simp; omega)]; exact three_new0 w _ _ _
  · unfold St4; rw [Below.heap_alloc _ _ _ (by simp)]; exact three_new1 w _ _ _
  · unfold St4; rw [Below.heap_alloc _ _ _ (by simp)]; exact three_new2 w _ _ _
  · have := heap_new (((w.alloc (.cells (stCells a) 41)).alloc (.cells (stCells b) 41)).alloc (.cells (stCells c) 41)) (.cells (stCells o) 41)
    simpa [St4] using this

theorem hasTerm_int (p : St) (i : Int) (bb : Bool) (w : World) (hp : p.Ok) (h0 : 0 ≤ i) (hi : i < 256) (hbb : bb = Leap.bitS p i.toNat) :
    Calls Try.prog 52 #[stAgg p, .int .i64 i] w fun e w' => e = .returned (.bool bb) ∧ Below w.heap.size w w' := by
  obtain ⟨n, rfl⟩ := Int.eq_ofNat_of_zero_le h0
  rw [hbb, Int.toNat_natCast]
  exact hasTerm_any p n w hp (by omega)

set_option maxRecDepth 100000 in
set_option maxHeartbeats 2000000 in
theorem times_any (a b : St) (w : World) (ha : a.Ok) (hb : b.Ok) :
    Calls Try.prog 59 #[stAgg a, stAgg b] w fun e w' => e = .returned (stAgg (Leap.tm a b 256)) ∧ Below w.heap.size w w' := by
  unfold stAgg
  go_enter Try.func59, Try.ntmps59
  go_wp2
  go_loopw [6] (fun i wr => ∃ n : Nat, n ≤ 256 ∧ i = .int .i64 (255 - (n : Int)) ∧ Four w wr a b Leap.zs (Leap.tm a b n)) (fun i _ => (RowKit.intOf i + 1).toNat)
  case atStart => exact ⟨0, by omega, rfl, Four.new w a b Leap.zs Leap.zs⟩
  case round =>
    obtain ⟨n, hn, rfl, hF⟩ := hrel
    by_cases hlt : n < 256
    · have ho := Leap.tm_ok (b := b) ha n
      have htm : Leap.tm a b (n + 1) = if Leap.bitS b (255 - n) then Leap.xs (Leap.tx (Leap.tm a b n)) a else Leap.tx (Leap.tm a b n) := rfl
      generalize Leap.tm a b n = o at ho htm hF
      have ho2 := Leap.tx_ok ho
      obtain ⟨bb, hbb⟩ : ∃ bb, bb = Leap.bitS b (255 - n) := ⟨_, rfl⟩
      rw [← hbb] at htm
      have HF := hide hF; have HT := hide htm; have HBB := hide hbb
      have a0 := hF.o.cell 0 (by omega); have a1 := hF.o.cell 1 (by omega); have a2 := hF.o.cell 2 (by omega); have a3 := hF.o.cell 3 (by omega)
      simp only [Leap.word] at a0 a1 a2 a3
      clear hF htm hbb
      go_wp2_with fail
      refine (timesX_any o _ ho).mono ?_
      rintro e w1 ⟨rfl, hb1⟩
      have hF1 := HF.out.below hb1
      generalize Leap.tx o = o2 at ho2 HT ⊢
      have a0 := hF1.o.cell 0 (by omega); have a1 := hF1.o.cell 1 (by omega); have a2 := hF1.o.cell 2 (by omega); have a3 := hF1.o.cell 3 (by omega)
      have f0 := hF1.o.free 0; have f1 := hF1.o.free 1; have f2 := hF1.o.free 2; have f3 := hF1.o.free 3
      have b0 := hF1.b.cell 0 (by omega); have b1 := hF1.b.cell 1 (by omega); have b2 := hF1.b.cell 2 (by omega); have b3 := hF1.b.cell 3 (by omega)
      simp only [Leap.word] at b0 b1 b2 b3
      have HF2 := hide (hF1.put o2)
      clear hF1 hb1 HF
      unfold stAgg
      go_wp2_with fail
      refine (hasTerm_int b (255 - (n : Int)) bb _ hb (by omega) (by omega) (by rw [HBB.out, show (255 - (n : Int)).toNat = 255 - n by omega])).mono ?_
      rintro e w3 ⟨rfl, hb3⟩
      have hF3 := HF2.out.below hb3
      have c0 := hF3.o.cell 0 (by omega); have c1 := hF3.o.cell 1 (by omega); have c2 := hF3.o.cell 2 (by omega); have c3 := hF3.o.cell 3 (by omega)
      have g0 := hF3.o.free 0; have g1 := hF3.o.free 1; have g2 := hF3.o.free 2; have g3 := hF3.o.free 3
      have d0 := hF3.a.cell 0 (by omega); have d1 := hF3.a.cell 1 (by omega); have d2 := hF3.a.cell 2 (by omega); have d3 := hF3.a.cell 3 (by omega)
      simp only [Leap.word] at c0 c1 c2 c3 d0 d1 d2 d3
      have HF3 := hide hF3
      clear hF3 hb3 HF2 a0 a1 a2 a3 f0 f1 f2 f3 b0 b1 b2 b3
      cases bb
      · go_wp2_with fail
        go_roundw
        case rel => exact ⟨n + 1, by omega, by go_num, by rw [HT.out]; exact HF3.out⟩
        case measure => simp [RowKit.intOf]; omega
      · go_wp2_with fail
        refine (xor_any o2 a _ ho2 ha).mono ?_
        rintro e w4 ⟨rfl, hb4⟩
        have hF4 := HF3.out.below hb4
        have e0 := hF4.o.cell 0 (by omega); have e1 := hF4.o.cell 1 (by omega); have e2 := hF4.o.cell 2 (by omega); have e3 := hF4.o.cell 3 (by omega)
        have k0 := hF4.o.free 0; have k1 := hF4.o.free 1; have k2 := hF4.o.free 2; have k3 := hF4.o.free 3
        have HF5 := hide (hF4.put (Leap.xs o2 a))
        clear hF4 hb4 HF3 c0 c1 c2 c3 g0 g1 g2 g3 d0 d1 d2 d3
        unfold stAgg
        go_wp2_with fail
        go_roundw
        case rel => exact ⟨n + 1, by omega, by go_num, by rw [HT.out]; exact HF5.out⟩
        case measure => simp [RowKit.intOf]; omega
    · obtain rfl : 256 = n := by omega
      generalize hoo : Leap.tm a b 256 = o at hF
      have HOO := hide hoo
      clear hoo
      have a0 := hF.o.cell 0 (by omega); have a1 := hF.o.cell 1 (by omega); have a2 := hF.o.cell 2 (by omega); have a3 := hF.o.cell 3 (by omega)
      have z0 := hF.c.cell 0 (by omega); have z1 := hF.c.cell 1 (by omega); have z2 := hF.c.cell 2 (by omega); have z3 := hF.c.cell 3 (by omega)
      have f0 := hF.c.free 0; have f1 := hF.c.free 1; have f2 := hF.c.free 2; have f3 := hF.c.free 3
      simp only [Leap.word] at a0 a1 a2 a3
      have HC := hide hF.c; have HL := hide hF.l
      clear hF
      go_wp2
      have hW := four_set HC.out o.a o.b o.c o.d
      have b0 := hW.cell 0 (by omega); have b1 := hW.cell 1 (by omega); have b2 := hW.cell 2 (by omega); have b3 := hW.cell 3 (by omega)
      exact bodyPost_ret (v := stAgg o) (by simp [results, Try.results59, go_sem, stAgg, b0, b1, b2, b3, Leap.word]) rfl
        ⟨by rw [HOO.out]; rfl, (((HL.out.setCell (by simp; omega) _).setCell (by simp; omega) _).setCell (by simp; omega) _).setCell (by simp; omega) _⟩
end Go.Proofs.Ytglgflibpgmilaa
