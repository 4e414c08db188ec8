/- The reference's apply. -/
import Derived.Test.YtglgflibpgmilaaRefBit
import Derived.Deep.RegionWith
namespace Go.Proofs.Ytglgflibpgmilaa
open Go.RowKit Go.Lib

/-- A matrix in memory: so many states in a row. -/
structure Mat (w : World) (g : Nat) (m : Nat → St) (n : Nat) : Prop where
  lt : g < w.heap.size
  at_ : ∀ k, k < n → ∀ j, j < 4 → w.cell? ⟨g, k * 4 + j, none⟩ = some (.int .u64 (Leap.word (m k) j : Nat))
theorem Mat.below {w w' : World} {g n B : Nat} {m : Nat → St} (h : Mat w g m n) (k : Below B w w') (hg : g < B) : Mat w' g m n :=
  ⟨Nat.lt_of_lt_of_le h.lt k.size, fun i hi j hj => (k.cell (p := ⟨g, i * 4 + j, none⟩) hg).trans (h.at_ i hi j hj)⟩

/-- Three blocks: the state, the result's place, what has been reckoned. -/
structure App (w wr : World) (s o : St) : Prop where
  a : Sr4 wr w.heap.size s
  c : Sr4 wr (w.heap.size + 1) Leap.zs
  o : Sr4 wr (w.heap.size + 1 + 1) o
  l : Below w.heap.size w wr
theorem App.below {w wr w' : World} {a o : St} (h : App w wr a o) (k : Below wr.heap.size wr w') : App w w' a o :=
  ⟨h.a.below k h.a.lt, h.c.below k h.c.lt, h.o.below k h.o.lt, h.l.trans (k.mono h.l.size)⟩
theorem App.put {w wr : World} {a o : St} (h : App w wr a o) (x : St) :
    App w ((((wr.setCell ⟨w.heap.size + 1 + 1, 0, none⟩ (.int .u64 x.a)).setCell ⟨w.heap.size + 1 + 1, 1, none⟩ (.int .u64 x.b)).setCell ⟨w.heap.size + 1 + 1, 2, none⟩ (.int .u64 x.c)).setCell ⟨w.heap.size + 1 + 1, 3, none⟩ (.int .u64 x.d)) a x :=
  ⟨(((h.a.other (by omega) _ _).other (by omega) _ _).other (by omega) _ _).other (by omega) _ _,
   (((h.c.other (by omega) _ _).other (by omega) _ _).other (by omega) _ _).other (by omega) _ _,
   four_setr h.o x.a x.b x.c x.d,
   (((h.l.setCell (by simp; omega) _).setCell (by simp; omega) _).setCell (by simp; omega) _).setCell (by simp; omega) _⟩
theorem App.drew {w wr : World} {a o : St} (h : App w wr a o) : App w wr.drew a o := ⟨h.a.drew, h.c.drew, h.o.drew, h.l.drew⟩
theorem App.new (w : World) (a o : St) : App w (((w.alloc (.cells (stCells a) 44)).alloc (.cells (stCells Leap.zs) 44)).alloc (.cells (stCells o) 44)) a o :=
  ⟨three_new0 w _ _ _, three_new1 w _ _ _, three_new2 w _ _ _, (((Below.refl _ w).alloc (Nat.le_refl _) _).alloc (by simp) _).alloc (by simp; omega) _⟩

set_option maxRecDepth 100000 in
set_option maxHeartbeats 2000000 in
theorem apply_any (g c : Nat) (m : Nat → St) (s : St) (w : World) (hm : Mat w g m 256) (ho : ∀ k, (m k).Ok) (hs : s.Ok) :
    Calls Try.prog 56 #[.slice (some ⟨g, 0, none⟩) 256 c, stAgg s] w fun e w' => e = .returned (stAgg (Leap.appN m s 256)) ∧ Below w.heap.size w w' := by
  have HM := hide hm
  clear hm
  unfold stAgg
  go_enter Try.func56, Try.ntmps56
  go_wp2
  go_loopw [6] (fun i wr => ∃ n : Nat, n ≤ 256 ∧ i = .int .i64 n ∧ App w wr s (Leap.appN m s n)) (fun i _ => 256 - (RowKit.intOf i).toNat)
  case atStart => exact ⟨0, by omega, rfl, App.new w s Leap.zs⟩
  case round =>
    obtain ⟨n, hn, rfl, hF⟩ := hrel
    by_cases hlt : n < 256
    · have ok := Leap.appN_ok ho s n
      have hap : Leap.appN m s (n + 1) = if Leap.bitS s n then Leap.xs (Leap.appN m s n) (m n) else Leap.appN m s n := rfl
      generalize Leap.appN m s n = o at ok hap hF
      obtain ⟨q, hq⟩ : ∃ q, q = n / 64 := ⟨_, rfl⟩
      have hq4 : q < 4 := by omega
      have cs := hF.a.cell q hq4
      have hqi : (n : Int) / 64 = (q : Int) := by omega
      obtain ⟨x, hx⟩ : ∃ x, x = Leap.word s q := ⟨_, rfl⟩
      have hxl : x < 18446744073709551616 := by rw [hx]; exact word_lt hs q
      rw [← hx] at cs
      have hbit : Leap.bitS s n = x.testBit (n % 64) := by rw [hx, hq]; rfl
      have hlow := low_bit x (n % 64) hxl
      rw [← hbit] at hlow
      have HF := hide hF; have HA := hide hap
      clear hF hap hq hx hbit
      cases hbb : Leap.bitS s n
      · rw [hbb] at hlow
        have HA2 : Hid (Leap.appN m s (n + 1) = o) := by show _ = _; rw [HA.out, hbb]; rfl
        clear hbb HA
        go_wp2_with fail
        go_roundw
        case rel => exact ⟨n + 1, by omega, by go_num, by rw [HA2.out]; exact HF.out⟩
        case measure => simp [RowKit.intOf]; omega
      · rw [hbb] at hlow
        have HA2 : Hid (Leap.appN m s (n + 1) = Leap.xs o (m n)) := by show _ = _; rw [HA.out, hbb]; rfl
        clear hbb HA
        have hM := HM.out.below HF.out.l HM.out.lt
        have d0 := hM.at_ n hlt 0 (by omega); have d1 := hM.at_ n hlt 1 (by omega); have d2 := hM.at_ n hlt 2 (by omega); have d3 := hM.at_ n hlt 3 (by omega)
        have a0 := HF.out.o.cell 0 (by omega); have a1 := HF.out.o.cell 1 (by omega); have a2 := HF.out.o.cell 2 (by omega); have a3 := HF.out.o.cell 3 (by omega)
        simp only [Leap.word, Nat.add_zero] at a0 a1 a2 a3 d0 d1 d2 d3
        have hnb : (n : Int) < 256 := by omega
        have okm := ho n
        have hxo := fun W => refXor_any o (m n) W ok okm
        generalize m n = mm at *
        generalize Leap.xs o mm = z at *
        unfold stAgg at hxo
        have HX := hide hxo
        clear hxo hM
        go_wp2_with fail
        go_region_with (go_at_call 62; refine (HX.out _).mono ?_; rintro e w1 ⟨rfl, hb1⟩; have hF1 := HF.out.drew.below hb1; have e0 := hF1.o.cell 0 (by omega); have e1 := hF1.o.cell 1 (by omega); have e2 := hF1.o.cell 2 (by omega); have e3 := hF1.o.cell 3 (by omega); have f0 := hF1.o.free 0; have f1 := hF1.o.free 1; have f2 := hF1.o.free 2; have f3 := hF1.o.free 3; have HF2 := hide (hF1.put z); clear hF1 hb1)
        all_goals
          go_wp2_with fail
          go_roundw
          case rel => exact ⟨n + 1, by omega, by go_num, by rw [HA2.out]; exact HF2.out⟩
          case measure => simp [RowKit.intOf]; omega
    · obtain rfl : n = 256 := by omega
      obtain ⟨o, hO⟩ : ∃ o, Leap.appN m s 256 = o := ⟨_, rfl⟩
      rw [hO] at hF
      have HO := hide hO
      clear hO
      have a0 := hF.o.cell 0 (by omega); have a1 := hF.o.cell 1 (by omega); have a2 := hF.o.cell 2 (by omega); have a3 := hF.o.cell 3 (by omega)
      have z0 := hF.c.cell 0 (by omega); have z1 := hF.c.cell 1 (by omega); have z2 := hF.c.cell 2 (by omega); have z3 := hF.c.cell 3 (by omega)
      have f0 := hF.c.free 0; have f1 := hF.c.free 1; have f2 := hF.c.free 2; have f3 := hF.c.free 3
      simp only [Leap.word] at a0 a1 a2 a3
      have HF := hide hF
      clear hF
      go_wp2
      have hW := four_setr HF.out.c o.a o.b o.c o.d
      have b0 := hW.cell 0 (by omega); have b1 := hW.cell 1 (by omega); have b2 := hW.cell 2 (by omega); have b3 := hW.cell 3 (by omega)
      exact bodyPost_ret (v := stAgg o) (by simp [results, Try.results56, go_sem, stAgg, b0, b1, b2, b3, Leap.word]) rfl
        ⟨by rw [HO.out]; rfl, (((HF.out.l.setCell (by simp) _).setCell (by simp) _).setCell (by simp) _).setCell (by simp) _⟩
end Go.Proofs.Ytglgflibpgmilaa
