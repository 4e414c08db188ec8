/- Times x. -/
import Derived.Test.YtglgflibpgmilaaPoly
import Derived.Deep.RegionWith
namespace Go.Proofs.Ytglgflibpgmilaa
open Go.RowKit Go.Lib

theorem up_int (x y : Nat) (hy : y < 18446744073709551616) :
    bits .or .u64 (IntKind.u64.wrap ((x : Int) * 2)) ((y : Int) / 9223372036854775808) = (((x * 2 % 18446744073709551616) ||| (y / 9223372036854775808) : Nat) : Int) := by
  have e : IntKind.u64.wrap ((x : Int) * 2) = ((x * 2 % 18446744073709551616 : Nat) : Int) := by rw [IntKind.wrap_u64]; omega
  have e2 : (y : Int) / 9223372036854775808 = ((y / 9223372036854775808 : Nat) : Int) := by omega
  rw [e, e2, u64_or_nat _ _ (Nat.mod_lt _ (by decide)) (by omega)]

/-- The words above k moved up. -/
def shTo (p : St) (k : Nat) : St :=
  ⟨p.a, if k < 1 then (Leap.sh p).b else p.b, if k < 2 then (Leap.sh p).c else p.c, if k < 3 then (Leap.sh p).d else p.d⟩
theorem shTo_word (p : St) (k : Nat) (hk : k < 4) : Leap.word (shTo p k) k = Leap.word p k := by
  rcases (show k = 0 ∨ k = 1 ∨ k = 2 ∨ k = 3 by omega) with rfl | rfl | rfl | rfl <;> rfl
theorem shTo_low (p : St) (k : Nat) (hk : k < 3) : Leap.word (shTo p (k + 1)) k = Leap.word p k := by
  rcases (show k = 0 ∨ k = 1 ∨ k = 2 by omega) with rfl | rfl | rfl <;> rfl
theorem shTo_step (p : St) (k : Nat) (hk : k < 3) :
    setW (shTo p (k + 1)) ((Leap.word p (k + 1) * 2 % 18446744073709551616) ||| (Leap.word p k / 9223372036854775808)) (k + 1) = shTo p k := by
  rcases (show k = 0 ∨ k = 1 ∨ k = 2 by omega) with rfl | rfl | rfl <;> rfl

theorem r8 {w w2 w5 : World} {q : St} (hA : St4 w2 w.heap.size q) (hC : St4 w2 (w.heap.size + 1) Leap.zs) (hL : Below w.heap.size w w2) (hb : Below w2.heap.size w2 w5) :
    St4 w5 w.heap.size q ∧ St4 w5 (w.heap.size + 1) Leap.zs ∧ Below w.heap.size w w5 :=
  ⟨hA.below hb hA.lt, hC.below hb hC.lt, hL.trans (hb.mono hL.size)⟩

theorem r8end {w w6 : World} {xs : St} (hC : St4 w6 (w.heap.size + 1) Leap.zs) (hL : Below w.heap.size w w6) :
    St4 ((((((((w6.setCell ⟨w.heap.size, 0, none⟩ (.int .u64 xs.a)).setCell ⟨w.heap.size, 1, none⟩ (.int .u64 xs.b)).setCell ⟨w.heap.size, 2, none⟩ (.int .u64 xs.c)).setCell ⟨w.heap.size, 3, none⟩ (.int .u64 xs.d)).setCell ⟨w.heap.size + 1, 0, none⟩ (.int .u64 xs.a)).setCell
      ⟨w.heap.size + 1, 1, none⟩ (.int .u64 xs.b)).setCell ⟨w.heap.size + 1, 2, none⟩ (.int .u64 xs.c)).setCell ⟨w.heap.size + 1, 3, none⟩ (.int .u64 xs.d)) (w.heap.size + 1) xs ∧
    Below w.heap.size w ((((((((w6.setCell ⟨w.heap.size, 0, none⟩ (.int .u64 xs.a)).setCell ⟨w.heap.size, 1, none⟩ (.int .u64 xs.b)).setCell ⟨w.heap.size, 2, none⟩ (.int .u64 xs.c)).setCell ⟨w.heap.size, 3, none⟩ (.int .u64 xs.d)).setCell ⟨w.heap.size + 1, 0, none⟩ (.int .u64 xs.a)).setCell
      ⟨w.heap.size + 1, 1, none⟩ (.int .u64 xs.b)).setCell ⟨w.heap.size + 1, 2, none⟩ (.int .u64 xs.c)).setCell ⟨w.heap.size + 1, 3, none⟩ (.int .u64 xs.d)) := by
  constructor
  · exact four_set ((((hC.other (by omega) _ _).other (by omega) _ _).other (by omega) _ _).other (by omega) _ _) xs.a xs.b xs.c xs.d
  · exact (((((((hL.setCell (Nat.le_refl _) _).setCell (Nat.le_refl _) _).setCell (Nat.le_refl _) _).setCell (Nat.le_refl _) _).setCell (by simp) _).setCell (by simp) _).setCell (by simp) _).setCell (by simp) _

set_option maxRecDepth 100000 in
set_option maxHeartbeats 2000000 in
theorem timesX_any (p : St) (w : World) (hp : p.Ok) :
    Calls Try.prog 60 #[stAgg p] w fun e w' => e = .returned (stAgg (Leap.tx p)) ∧ Below w.heap.size w w' := by
  have hO := Leap.sh_ok hp
  obtain ⟨bb, hbb⟩ : ∃ bb, bb = Leap.bitS p 255 := ⟨_, rfl⟩
  unfold stAgg
  go_enter Try.func60, Try.ntmps60
  go_wp2_with fail
  have hct := hasTerm_any p 255 ((w.alloc (.cells (stCells p) 41)).alloc (.cells (stCells Leap.zs) 41)) hp (by omega)
  rw [← hbb] at hct
  have HBB := hide hbb
  clear hbb
  refine hct.mono ?_
  clear hct
  rintro e w1 ⟨rfl, hbel⟩
  have hA : St4 w1 w.heap.size p := by
    refine St4.below (w := (w.alloc (.cells (stCells p) 41)).alloc (.cells (stCells Leap.zs) 41)) ?_ hbel (by simp; omega)
    unfold St4
    rw [Below.heap_alloc _ _ _ (by simp)]; exact heap_new w _
  have hC : St4 w1 (w.heap.size + 1) Leap.zs := by
    refine St4.below (w := (w.alloc (.cells (stCells p) 41)).alloc (.cells (stCells Leap.zs) 41)) ?_ hbel (by simp)
    have := heap_new (w.alloc (.cells (stCells p) 41)) (.cells (stCells Leap.zs) 41)
    simpa [St4] using this
  have hL : Below w.heap.size w w1 := (((Below.refl _ w).alloc (Nat.le_refl _) _).alloc (by simp) _).trans (hbel.mono (by simp; omega))
  have HA := hide hA; have HC := hide hC; have HL := hide hL
  clear hA hC hL hbel
  go_wp2_with fail
  go_loopw [4] (fun i wr => ∃ k : Nat, k ≤ 3 ∧ i = .int .i64 k ∧ St4 wr w.heap.size (shTo p k) ∧ St4 wr (w.heap.size + 1) Leap.zs ∧ Below w.heap.size w wr) (fun i _ => (RowKit.intOf i).toNat)
  case atStart => exact ⟨3, by omega, rfl, HA.out, HC.out, HL.out⟩
  case round =>
    clear HA HC HL
    obtain ⟨k, hk, rfl, hA, hC, hL⟩ := hrel
    by_cases hpos : 0 < k
    · have c1 := hA.cell k (by omega)
      rw [shTo_word p k (by omega)] at c1
      have c2 := hA.cell (k - 1) (by omega)
      have e2 := shTo_low p (k - 1) (by omega)
      rw [show k - 1 + 1 = k by omega] at e2
      rw [e2] at c2
      have f1 := hA.free k
      have e1 := up_int (Leap.word p k) (Leap.word p (k - 1)) (word_lt hp _)
      have hst := shTo_step p (k - 1) (by omega)
      rw [show k - 1 + 1 = k by omega] at hst
      obtain ⟨v, hv⟩ : ∃ v, v = (Leap.word p k * 2 % 18446744073709551616) ||| (Leap.word p (k - 1) / 9223372036854775808) := ⟨_, rfl⟩
      rw [← hv] at e1 hst
      have hR : Hid (St4 (wr.setCell ⟨w.heap.size, k, none⟩ (.int .u64 (v : Nat))) w.heap.size (shTo p (k - 1)) ∧ St4 (wr.setCell ⟨w.heap.size, k, none⟩ (.int .u64 (v : Nat))) (w.heap.size + 1) Leap.zs ∧ Below w.heap.size w (wr.setCell ⟨w.heap.size, k, none⟩ (.int .u64 (v : Nat)))) :=
        ⟨by rw [← hst]; exact hA.set k _ (by omega), hC.other (by omega) _ _, hL.setCell (Nat.le_refl _) _⟩
      clear hA hC hL hst hv e2
      go_wp2
      go_region
      go_wp2
      go_roundw
      case rel => exact ⟨k - 1, by omega, by go_num, hR.out.1, hR.out.2.1, hR.out.2.2.drew⟩
      case measure => simp [RowKit.intOf]; omega
    · obtain rfl : 0 = k := by omega
      have c0 := hA.cell 0 (by omega); have c1 := hA.cell 1 (by omega); have c2 := hA.cell 2 (by omega); have c3 := hA.cell 3 (by omega)
      have f0 := hA.free 0; have f1 := hA.free 1; have f2 := hA.free 2; have f3 := hA.free 3
      have z0 := hC.cell 0 (by omega); have z1 := hC.cell 1 (by omega); have z2 := hC.cell 2 (by omega); have z3 := hC.cell 3 (by omega)
      have y0 := hC.free 0; have y1 := hC.free 1; have y2 := hC.free 2; have y3 := hC.free 3
      obtain ⟨v0, hv0⟩ : ∃ v0, v0 = p.a * 2 % 18446744073709551616 := ⟨_, rfl⟩
      have e0 : IntKind.u64.wrap ((p.a : Int) * 2) = (v0 : Int) := by rw [hv0, IntKind.wrap_u64]; omega
      simp only [Leap.word, shTo, if_true, Nat.lt_add_one, Nat.zero_lt_succ] at c0 c1 c2 c3
      have hA2 : St4 (wr.setCell ⟨w.heap.size, 0, none⟩ (.int .u64 (v0 : Int))) w.heap.size (Leap.sh p) := by rw [hv0]; exact hA.set 0 _ (by omega)
      have HA := hide hA2; have HC := hide (hC.other (C := w.heap.size) (by omega) 0 (.int .u64 (v0 : Int))); have HL := hide (hL.setCell (p := ⟨w.heap.size, 0, none⟩) (Nat.le_refl _) (.int .u64 (v0 : Int)))
      have htx : Leap.tx p = if Leap.bitS p 255 then Leap.xs (Leap.sh p) Leap.poly else Leap.sh p := rfl
      rw [← HBB.out] at htx
      have hqa : v0 = (Leap.sh p).a := hv0
      generalize Leap.sh p = q at HA htx hO c1 c2 c3 hqa
      have HQ := hide hqa
      clear hqa
      have HT := hide htx
      clear hA hC hL hA2 hv0 htx
      cases bb
      · go_wp2_with fail
        generalize wr.setCell ⟨w.heap.size, 0, none⟩ (.int .u64 (v0 : Int)) = w2 at HA HC HL ⊢
        have hW := four_set HC.out v0 q.b q.c q.d
        have b0 := hW.cell 0 (by omega); have b1 := hW.cell 1 (by omega); have b2 := hW.cell 2 (by omega); have b3 := hW.cell 3 (by omega)
        have hT : Leap.tx p = q := by rw [HT.out]; rfl
        refine bodyPost_ret (v := .agg #[.int .u64 v0, .int .u64 q.b, .int .u64 q.c, .int .u64 q.d]) (by simp [results, Try.results60, go_sem, b0, b1, b2, b3, Leap.word]) rfl
          ⟨by rw [hT, HQ.out], (((HL.out.setCell (by simp) _).setCell (by simp) _).setCell (by simp) _).setCell (by simp) _⟩
      · go_wp2_with fail
        generalize wr.setCell ⟨w.heap.size, 0, none⟩ (.int .u64 (v0 : Int)) = w2 at HA HC HL ⊢
        clear c0 c1 c2 c3 f0 f1 f2 f3 z0 z1 z2 z3 y0 y1 y2 y3 e0
        have a0 := HA.out.cell 0 (by omega); have a1 := HA.out.cell 1 (by omega); have a2 := HA.out.cell 2 (by omega); have a3 := HA.out.cell 3 (by omega)
        simp only [Leap.word] at a0 a1 a2 a3
        go_region_with (first
          | (go_at_call 63; refine (stepPoly_any _).mono ?_; rintro e w5 ⟨rfl, hb5⟩; have H5 := hide (r8 (w2 := w2.drew) HA.out HC.out HL.out.drew hb5); clear hb5; have d0 := H5.out.1.cell 0 (by omega); have d1 := H5.out.1.cell 1 (by omega); have d2 := H5.out.1.cell 2 (by omega); have d3 := H5.out.1.cell 3 (by omega); simp only [Leap.word] at d0 d1 d2 d3)
          | (go_at_call 53; refine (xor_any q Leap.poly _ hO Leap.poly_ok).mono ?_; rintro e w6 ⟨rfl, hb6⟩; have H6 := hide (r8 (w2 := w5) H5.out.1 H5.out.2.1 H5.out.2.2 hb6); clear hb6; have g0 := H6.out.1.cell 0 (by omega); have g1 := H6.out.1.cell 1 (by omega); have g2 := H6.out.1.cell 2 (by omega); have g3 := H6.out.1.cell 3 (by omega); have i0 := H6.out.1.free 0; have i1 := H6.out.1.free 1; have i2 := H6.out.1.free 2; have i3 := H6.out.1.free 3; unfold stAgg))
        all_goals
          have hT : Leap.tx p = Leap.xs q Leap.poly := by rw [HT.out]; rfl
          have HT2 := hide hT
          clear hT
          have z0 := H6.out.2.1.cell 0 (by omega); have z1 := H6.out.2.1.cell 1 (by omega); have z2 := H6.out.2.1.cell 2 (by omega); have z3 := H6.out.2.1.cell 3 (by omega)
          have y0 := H6.out.2.1.free 0; have y1 := H6.out.2.1.free 1; have y2 := H6.out.2.1.free 2; have y3 := H6.out.2.1.free 3
          have hE := r8end (xs := Leap.xs q Leap.poly) H6.out.2.1 H6.out.2.2
          have b0 := hE.1.cell 0 (by omega); have b1 := hE.1.cell 1 (by omega); have b2 := hE.1.cell 2 (by omega); have b3 := hE.1.cell 3 (by omega)
          have HB := hide (And.intro b0 (And.intro b1 (And.intro b2 b3))); have HE := hide hE.2
          clear b0 b1 b2 b3 hE
          go_wp2_with fail
          obtain ⟨b0, b1, b2, b3⟩ := HB.out
          rw [HT2.out]
          exact bodyPost_ret (v := stAgg (Leap.xs q Leap.poly)) (by simp [results, Try.results60, go_sem, stAgg, b0, b1, b2, b3, Leap.word]) rfl ⟨rfl, HE.out⟩
end Go.Proofs.Ytglgflibpgmilaa
