/- The reference's Skipped: few steps. -/
import Derived.Test.YtglgflibpgmilaaRefApply
namespace Go.Proofs.Ytglgflibpgmilaa
open Go.RowKit Go.Lib

/-- Two blocks: the state, the result's place. -/
structure Skp (w wr : World) (s : St) : Prop where
  a : Sr4 wr w.heap.size s
  c : Sr4 wr (w.heap.size + 1) Leap.zs
  l : Below w.heap.size w wr
theorem Skp.below {w wr w' : World} {a : St} (h : Skp w wr a) (k : Below wr.heap.size wr w') : Skp w w' a :=
  ⟨h.a.below k h.a.lt, h.c.below k h.c.lt, h.l.trans (k.mono h.l.size)⟩
theorem Skp.put {w wr : World} {a : St} (h : Skp w wr a) (x : St) :
    Skp w ((((wr.setCell ⟨w.heap.size, 0, none⟩ (.int .u64 x.a)).setCell ⟨w.heap.size, 1, none⟩ (.int .u64 x.b)).setCell ⟨w.heap.size, 2, none⟩ (.int .u64 x.c)).setCell ⟨w.heap.size, 3, none⟩ (.int .u64 x.d)) x :=
  ⟨four_setr h.a x.a x.b x.c x.d,
   (((h.c.other (by omega) _ _).other (by omega) _ _).other (by omega) _ _).other (by omega) _ _,
   (((h.l.setCell (by simp) _).setCell (by simp) _).setCell (by simp) _).setCell (by simp) _⟩
theorem Skp.new (w : World) (a : St) : Skp w ((w.alloc (.cells (stCells a) 44)).alloc (.cells (stCells Leap.zs) 44)) a :=
  ⟨two_new0 w _ _, two_new1 w _ _, ((Below.refl _ w).alloc (Nat.le_refl _) _).alloc (by simp) _⟩

set_option maxRecDepth 100000 in
set_option maxHeartbeats 2000000 in
theorem skipped_small (s : St) (n : Nat) (w : World) (hs : s.Ok) (hn : n < 100000) :
    Calls Try.prog 48 #[stAgg s, .int .u64 n] w fun e w' => e = .returned (stAgg (Leap.it n s)) ∧ Below w.heap.size w w' := by
  have hd : decide ((n : Int) < 100000) = true := by simp; omega
  have HN := hide hn
  clear hn
  unfold stAgg
  go_enter Try.func48, Try.ntmps48
  go_wp2_with fail
  go_loopw [5] (fun i wr => ∃ k : Nat, k ≤ n ∧ i = .int .u64 k ∧ Skp w wr (Leap.it k s)) (fun i _ => n - (RowKit.intOf i).toNat)
  case atStart => exact ⟨0, by omega, rfl, Skp.new w s⟩
  case round =>
    obtain ⟨k, hk, rfl, hF⟩ := hrel
    by_cases hlt : k < n
    · have hwr : IntKind.u64.wrap ((k : Int) + 1) = (k : Int) + 1 := by
        have := HN.out
        rw [IntKind.wrap_u64]; omega
      have ok := Leap.it_ok hs k
      have hap : Leap.it (k + 1) s = stNext (Leap.it k s) := rfl
      generalize Leap.it k s = o at ok hap hF
      have a0 := hF.a.cell 0 (by omega); have a1 := hF.a.cell 1 (by omega); have a2 := hF.a.cell 2 (by omega); have a3 := hF.a.cell 3 (by omega)
      simp only [Leap.word] at a0 a1 a2 a3
      have hB := refBehind_any o ok wr
      generalize stNext o = z at *
      unfold stAgg at hB
      have HB := hide hB; have HF := hide hF; have HA := hide hap
      clear hB hF hap
      go_wp2_with fail
      refine HB.out.mono ?_
      rintro e w1 ⟨rfl, hb1⟩
      have hF1 := HF.out.below hb1
      have e0 := hF1.a.cell 0 (by omega); have e1 := hF1.a.cell 1 (by omega); have e2 := hF1.a.cell 2 (by omega); have e3 := hF1.a.cell 3 (by omega)
      have f0 := hF1.a.free 0; have f1 := hF1.a.free 1; have f2 := hF1.a.free 2; have f3 := hF1.a.free 3
      have HF2 := hide (hF1.put z)
      clear hF1 hb1
      go_wp2_with fail
      go_roundw
      case rel => exact ⟨k + 1, by omega, by go_num, by rw [HA.out]; exact HF2.out⟩
      case measure => simp [RowKit.intOf]; omega
    · obtain rfl : n = k := by omega
      obtain ⟨o, hO⟩ : ∃ o, Leap.it n s = o := ⟨_, rfl⟩
      rw [hO] at hF
      have HO := hide hO
      clear hO
      have a0 := hF.a.cell 0 (by omega); have a1 := hF.a.cell 1 (by omega); have a2 := hF.a.cell 2 (by omega); have a3 := hF.a.cell 3 (by omega)
      have z0 := hF.c.cell 0 (by omega); have z1 := hF.c.cell 1 (by omega); have z2 := hF.c.cell 2 (by omega); have z3 := hF.c.cell 3 (by omega)
      have f0 := hF.c.free 0; have f1 := hF.c.free 1; have f2 := hF.c.free 2; have f3 := hF.c.free 3
      simp only [Leap.word] at a0 a1 a2 a3
      have HF := hide hF
      clear hF
      go_wp2
      have hW := four_setr HF.out.c o.a o.b o.c o.d
      have b0 := hW.cell 0 (by omega); have b1 := hW.cell 1 (by omega); have b2 := hW.cell 2 (by omega); have b3 := hW.cell 3 (by omega)
      exact bodyPost_ret (v := stAgg o) (by simp [results, Try.results48, go_sem, stAgg, b0, b1, b2, b3, Leap.word]) rfl
        ⟨by rw [HO.out]; rfl, (((HF.out.l.setCell (by simp) _).setCell (by simp) _).setCell (by simp) _).setCell (by simp) _⟩
end Go.Proofs.Ytglgflibpgmilaa
