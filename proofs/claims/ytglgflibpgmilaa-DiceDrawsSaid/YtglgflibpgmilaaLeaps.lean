/- dice.leap is so many steps. -/
import Derived.Test.YtglgflibpgmilaaPower
namespace Go.Proofs.Ytglgflibpgmilaa
open Go.RowKit Go.Lib

/-- The blocks of leap: the state, the result's place, the polynomial, what has been reckoned. -/
structure LeapIs (w wr : World) (C : Nat) (s p o : St) : Prop where
  s : St4 wr w.heap.size s
  c : St4 wr (w.heap.size + 1) Leap.zs
  p : St4 wr C p
  o : St4 wr (C + 1) o
  l : Below w.heap.size w wr
  g : w.heap.size + 2 ≤ C
theorem LeapIs.below {w wr w' : World} {C : Nat} {s p o : St} (h : LeapIs w wr C s p o) (k : Below wr.heap.size wr w') : LeapIs w w' C s p o :=
  ⟨h.s.below k h.s.lt, h.c.below k h.c.lt, h.p.below k h.p.lt, h.o.below k h.o.lt, h.l.trans (k.mono h.l.size), h.g⟩
theorem LeapIs.putO {w wr : World} {C : Nat} {s p o : St} (h : LeapIs w wr C s p o) (x : St) :
    LeapIs w ((((wr.setCell ⟨C + 1, 0, none⟩ (.int .u64 x.a)).setCell ⟨C + 1, 1, none⟩ (.int .u64 x.b)).setCell ⟨C + 1, 2, none⟩ (.int .u64 x.c)).setCell ⟨C + 1, 3, none⟩ (.int .u64 x.d)) C s p x := by
  have hg := h.g
  exact ⟨(((h.s.other (by omega) _ _).other (by omega) _ _).other (by omega) _ _).other (by omega) _ _,
   (((h.c.other (by omega) _ _).other (by omega) _ _).other (by omega) _ _).other (by omega) _ _,
   (((h.p.other (by omega) _ _).other (by omega) _ _).other (by omega) _ _).other (by omega) _ _,
   four_set h.o x.a x.b x.c x.d,
   (((h.l.setCell (by simp; omega) _).setCell (by simp; omega) _).setCell (by simp; omega) _).setCell (by simp; omega) _, hg⟩
theorem LeapIs.putS {w wr : World} {C : Nat} {s p o : St} (h : LeapIs w wr C s p o) (x : St) :
    LeapIs w ((((wr.setCell ⟨w.heap.size, 0, none⟩ (.int .u64 x.a)).setCell ⟨w.heap.size, 1, none⟩ (.int .u64 x.b)).setCell ⟨w.heap.size, 2, none⟩ (.int .u64 x.c)).setCell ⟨w.heap.size, 3, none⟩ (.int .u64 x.d)) C x p o := by
  have hg := h.g
  exact ⟨four_set h.s x.a x.b x.c x.d,
   (((h.c.other (by omega) _ _).other (by omega) _ _).other (by omega) _ _).other (by omega) _ _,
   (((h.p.other (by omega) _ _).other (by omega) _ _).other (by omega) _ _).other (by omega) _ _,
   (((h.o.other (by omega) _ _).other (by omega) _ _).other (by omega) _ _).other (by omega) _ _,
   (((h.l.setCell (by simp) _).setCell (by simp) _).setCell (by simp) _).setCell (by simp) _, hg⟩
theorem LeapIs.new {w w1 : World} (s p : St) (hb : Below ((w.alloc (.cells (stCells s) 41)).alloc (.cells (stCells Leap.zs) 41)).heap.size ((w.alloc (.cells (stCells s) 41)).alloc (.cells (stCells Leap.zs) 41)) w1) :
    LeapIs w ((w1.alloc (.cells (stCells p) 41)).alloc (.cells (stCells Leap.zs) 41)) w1.heap.size s p Leap.zs := by
  have h2 := Two.new w s Leap.zs
  have h1 := h2.below hb
  have hsz : w.heap.size + 2 ≤ w1.heap.size := by have := hb.size; simp at this; omega
  have n := Two.new w1 p Leap.zs
  exact ⟨h1.c.below n.l h1.c.lt, h1.o.below n.l h1.o.lt, n.c, n.o, h1.l.trans (n.l.mono h1.l.size), hsz⟩

set_option maxRecDepth 100000 in
set_option maxHeartbeats 2000000 in
theorem leap_any (s : St) (n : Nat) (w : World) (hs : s.Ok) (hn : n < 18446744073709551616) :
    Calls Try.prog 46 #[stAgg s, .int .u64 n] w fun e w' => e = .returned (stAgg (Leap.it n s)) ∧ Below w.heap.size w w' := by
  unfold stAgg
  go_enter Try.func46, Try.ntmps46
  go_wp2_with fail
  have hp := powerOfX_any n ((w.alloc (.cells (stCells s) 41)).alloc (.cells (stCells Leap.zs) 41)) hn
  refine hp.mono ?_
  clear hp
  rintro e w1 ⟨p, rfl, hP, hb1⟩
  have HI := hide (LeapIs.new s p hb1)
  have hp := hP.1
  have HF := hide (hP.2 s hs)
  clear hb1 hP
  unfold stAgg
  go_wp2_with fail
  go_loopw [10] (fun i wr => ∃ k : Nat, k ≤ 256 ∧ i = .int .i64 k ∧ LeapIs w wr w1.heap.size (Leap.it k s) p (Leap.actN p s k)) (fun i _ => 256 - (RowKit.intOf i).toNat)
  case atStart => exact ⟨0, by omega, rfl, HI.out⟩
  case round =>
    clear HI
    obtain ⟨k, hk, rfl, hI⟩ := hrel
    by_cases hlt : k < 256
    · have ht := Leap.it_ok hs k
      have ho := Leap.actN_ok (q := p) hs k
      have hit : Leap.it (k + 1) s = stNext (Leap.it k s) := rfl
      have hact : Leap.actN p s (k + 1) = if Leap.bitS p k then Leap.xs (Leap.actN p s k) (Leap.it k s) else Leap.actN p s k := rfl
      generalize Leap.it k s = t at ht hit hact hI
      generalize Leap.actN p s k = o at ho hact hI
      obtain ⟨bb, hbb⟩ : ∃ bb, bb = Leap.bitS p k := ⟨_, rfl⟩
      rw [← hbb] at hact
      have a0 := hI.p.cell 0 (by omega); have a1 := hI.p.cell 1 (by omega); have a2 := hI.p.cell 2 (by omega); have a3 := hI.p.cell 3 (by omega)
      simp only [Leap.word] at a0 a1 a2 a3
      have HI := hide hI; have HIT := hide hit; have HACT := hide hact; have HBB := hide hbb
      clear hI hit hact hbb
      go_wp2_with fail
      refine (hasTerm_int p k bb _ hp (by omega) (by omega) (by rw [HBB.out, Int.toNat_natCast])).mono ?_
      rintro e w2 ⟨rfl, hb2⟩
      have hI2 := HI.out.below hb2
      have c0 := hI2.o.cell 0 (by omega); have c1 := hI2.o.cell 1 (by omega); have c2 := hI2.o.cell 2 (by omega); have c3 := hI2.o.cell 3 (by omega)
      have d0 := hI2.s.cell 0 (by omega); have d1 := hI2.s.cell 1 (by omega); have d2 := hI2.s.cell 2 (by omega); have d3 := hI2.s.cell 3 (by omega)
      simp only [Leap.word] at c0 c1 c2 c3 d0 d1 d2 d3
      have HI2 := hide hI2
      clear hI2 hb2 HI a0 a1 a2 a3
      cases bb
      · go_wp2_with fail
        refine (behind_any t ht _).mono ?_
        rintro e w3 ⟨rfl, hb3⟩
        have hI3 := HI2.out.below hb3
        have e0 := hI3.s.cell 0 (by omega); have e1 := hI3.s.cell 1 (by omega); have e2 := hI3.s.cell 2 (by omega); have e3 := hI3.s.cell 3 (by omega)
        have f0 := hI3.s.free 0; have f1 := hI3.s.free 1; have f2 := hI3.s.free 2; have f3 := hI3.s.free 3
        have HI4 := hide (hI3.putS (stNext t))
        clear hI3 hb3 HI2 c0 c1 c2 c3 d0 d1 d2 d3
        unfold stAgg
        go_wp2_with fail
        go_roundw
        case rel => exact ⟨k + 1, by omega, by go_num, by rw [HIT.out, HACT.out]; exact HI4.out⟩
        case measure => simp [RowKit.intOf]; omega
      · go_wp2_with fail
        refine (xor_any o t _ ho ht).mono ?_
        rintro e w3 ⟨rfl, hb3⟩
        have hI3 := HI2.out.below hb3
        have e0 := hI3.o.cell 0 (by omega); have e1 := hI3.o.cell 1 (by omega); have e2 := hI3.o.cell 2 (by omega); have e3 := hI3.o.cell 3 (by omega)
        have f0 := hI3.o.free 0; have f1 := hI3.o.free 1; have f2 := hI3.o.free 2; have f3 := hI3.o.free 3
        have g0 := hI3.s.cell 0 (by omega); have g1 := hI3.s.cell 1 (by omega); have g2 := hI3.s.cell 2 (by omega); have g3 := hI3.s.cell 3 (by omega)
        simp only [Leap.word] at g0 g1 g2 g3
        have hapart : w.heap.size ≠ w1.heap.size + 1 := by have := hI3.g; omega
        have HI4 := hide (hI3.putO (Leap.xs o t))
        clear hI3 hb3 HI2 c0 c1 c2 c3 d0 d1 d2 d3
        unfold stAgg
        go_wp2_with fail
        refine (behind_any t ht _).mono ?_
        rintro e w5 ⟨rfl, hb5⟩
        have hI5 := HI4.out.below hb5
        have q0 := hI5.s.cell 0 (by omega); have q1 := hI5.s.cell 1 (by omega); have q2 := hI5.s.cell 2 (by omega); have q3 := hI5.s.cell 3 (by omega)
        have r0 := hI5.s.free 0; have r1 := hI5.s.free 1; have r2 := hI5.s.free 2; have r3 := hI5.s.free 3
        have HI6 := hide (hI5.putS (stNext t))
        clear hI5 hb5 HI4 e0 e1 e2 e3 f0 f1 f2 f3 g0 g1 g2 g3
        unfold stAgg
        go_wp2_with fail
        go_roundw
        case rel => exact ⟨k + 1, by omega, by go_num, by rw [HIT.out, HACT.out]; exact HI6.out⟩
        case measure => simp [RowKit.intOf]; omega
    · obtain rfl : 256 = k := by omega
      have hfin : Leap.actN p s 256 = Leap.it n s := HF.out
      rw [hfin] at hI
      generalize hoo : Leap.it n s = o at hI
      have a0 := hI.o.cell 0 (by omega); have a1 := hI.o.cell 1 (by omega); have a2 := hI.o.cell 2 (by omega); have a3 := hI.o.cell 3 (by omega)
      have z0 := hI.c.cell 0 (by omega); have z1 := hI.c.cell 1 (by omega); have z2 := hI.c.cell 2 (by omega); have z3 := hI.c.cell 3 (by omega)
      have f0 := hI.c.free 0; have f1 := hI.c.free 1; have f2 := hI.c.free 2; have f3 := hI.c.free 3
      simp only [Leap.word] at a0 a1 a2 a3
      have HC := hide hI.c; have HL := hide hI.l; have HOO := hide hoo
      clear hI hfin hoo HF
      go_wp2
      have hW := four_set HC.out o.a o.b o.c o.d
      have b0 := hW.cell 0 (by omega); have b1 := hW.cell 1 (by omega); have b2 := hW.cell 2 (by omega); have b3 := hW.cell 3 (by omega)
      exact bodyPost_ret (v := stAgg o) (by simp [results, Try.results46, go_sem, stAgg, b0, b1, b2, b3, Leap.word]) rfl
        ⟨by rw [HOO.out]; rfl, (((HL.out.setCell (by simp) _).setCell (by simp) _).setCell (by simp) _).setCell (by simp) _⟩
end Go.Proofs.Ytglgflibpgmilaa
