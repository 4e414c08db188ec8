/- QuietDetects: next without a task in hand. -/
import Derived.Test.YtabmmjhcfhplnaaD3
namespace Go.Proofs.Ytabmmjhcfhplnaa
open Go.RowKit Go.Lib Go.MuLone
set_option linter.unusedVariables false
set_option linter.unusedSimpArgs false
set_option maxRecDepth 100000 in
theorem next_none {w : World} {G n k B cb : Nat} {ao : Option Addr} {f : Nat → W4} {mv : Value} (hq : WQ w G n f) (hk : k < n) (ha : (f k).a = .int .i64 (-1)) (hb : w.cell? ⟨B, 0, none⟩ = some (.slice ao 0 cb)) :
    Calls Try.prog 9 #[.pointer (some ⟨G, k * 4, none⟩), mv, .pointer (some ⟨B, 0, none⟩)] w fun e w' => e = .returned (.bool false) ∧ w' = w := by
  obtain ⟨c0, c1, c2, c3⟩ := hq.cells hk
  rw [ha] at c0
  clear hq hk ha
  go_enter Try.func9, Try.ntmps9
  go_wp2_with fail
  go_ret
  exact ⟨rfl, rfl⟩
set_option maxRecDepth 100000 in
set_option maxHeartbeats 2000000 in
theorem next_take {w : World} {G n k B gb j cb gm N cm t m : Nat} {f : Nat → W4} (hq : WQ w G n f) (hk : k < n) (ha : (f k).a = .int .i64 (-1)) (hb : w.heap[B]? = some (.cells #[.slice (some ⟨gb, 0, none⟩) (j + 1) cb] 22 (0, 0))) (hj : j + 1 ≤ cb) (hj2 : j ≤ 419430400) (hcb : cb ≤ 9223372036854775807) (hct : w.cell? ⟨gb, j, none⟩ = some (.int .i64 (t : Int)))
    (ht : t < N) (hN : N ≤ cm) (hc3 : w.cell? ⟨gm, t, none⟩ = some (.int .i64 (m : Int))) (hg : gm ≠ G) (hgB : gm ≠ B) (hBG : B ≠ G) (hbG : gb ≠ G) :
    Calls Try.prog 9 #[.pointer (some ⟨G, k * 4, none⟩), .slice (some ⟨gm, 0, none⟩) N cm, .pointer (some ⟨B, 0, none⟩)] w fun e w' => ∃ w3, NxP w3 G n (upd f k ⟨.int .i64 (t : Int), .int .i64 0, (f k).o, (f k).l⟩) k B t 0 (decide (m ≤ 0)) e w' ∧ w3.heap[B]? = some (.cells #[.slice (some ⟨gb, 0, none⟩) j cb] 22 (0, 0)) ∧ Chg (fun x => x = G ∨ x = B) w w3 := by
  obtain ⟨c0, c1, c2, c3⟩ := hq.cells hk
  rw [ha] at c0
  have b0 := cell_of hb (i := 0) rfl
  have bf0 := free_of hb 0
  have f0 := hq.free (k * 4)
  have f1 := hq.free (k * 4 + 1)
  have hq1 := hq.set0 hk (.int .i64 (t : Int))
  have hq2 := hq1.set1 hk (.int .i64 0)
  rw [upd_upd, upd_same] at hq2
  simp only at hq2
  have c1' := (hq1.cells hk).2.1
  rw [upd_same] at c1'
  simp only at c1'
  have f1' := hq1.free (k * 4 + 1)
  have hb2 : ((w.setCell ⟨G, k * 4, none⟩ (.int .i64 (t : Int))).setCell ⟨G, k * 4 + 1, none⟩ (.int .i64 0)).heap[B]? = some (.cells #[.slice (some ⟨gb, 0, none⟩) (j + 1) cb] 22 (0, 0)) := (Below.heap_setCell _ _ _ _ hBG).trans ((Below.heap_setCell _ _ _ _ hBG).trans hb)
  have b2 : ((w.setCell ⟨G, k * 4, none⟩ (.int .i64 (t : Int))).setCell ⟨G, k * 4 + 1, none⟩ (.int .i64 0)).cell? ⟨B, 0, none⟩ = some (.slice (some ⟨gb, 0, none⟩) (j + 1) cb) := cell_of hb2 (i := 0) rfl
  have bf2 := free_of hb2 0
  have HB3 := hide (heap_set (i := 0) hb2 (.slice (some ⟨gb, 0, none⟩) j cb))
  have HQ3 := hide (hq2.kept (w' := ((w.setCell ⟨G, k * 4, none⟩ (.int .i64 (t : Int))).setCell ⟨G, k * 4 + 1, none⟩ (.int .i64 0)).setCell ⟨B, 0, none⟩ (.slice (some ⟨gb, 0, none⟩) j cb)) (Below.heap_setCell _ _ _ _ (fun e => hBG e.symm)))
  have HCB : Hid (Chg (fun x => x = G ∨ x = B) w (((w.setCell ⟨G, k * 4, none⟩ (.int .i64 (t : Int))).setCell ⟨G, k * 4 + 1, none⟩ (.int .i64 0)).setCell ⟨B, 0, none⟩ (.slice (some ⟨gb, 0, none⟩) j cb))) := Chg.setCell (S := fun x => x = G ∨ x = B) (Chg.setCell (S := fun x => x = G ∨ x = B) (Chg.setCell (S := fun x => x = G ∨ x = B) (Chg.refl _ w) (p := ⟨G, k * 4, none⟩) (.inl rfl) _) (p := ⟨G, k * 4 + 1, none⟩) (.inl rfl) _) (p := ⟨B, 0, none⟩) (.inr rfl) _
  have HC3 := hide ((chg_cell (i := t) HCB.out (fun e => e.elim hg hgB) (block_of_cell hc3)).trans hc3)
  have HG := hide hg
  have HK := hide hk
  have HTN := hide (And.intro ht hN)
  have hji : (j : Int) < (j : Int) + 1 := by omega
  have hjw : wrap64 ((j : Int) + 1 - 1) = (j : Int) := by rw [IntWalk.wrap64_in _ (by omega)]; omega
  have hjc : j < cb := by omega
  have hjcI : (j : Int) ≤ (cb : Int) := by omega
  have hnz : ¬ (j : Int) + 1 = 0 := by omega
  have hnb : ((j : Int) + 1 == 0) = false := by simp; omega
  clear hcb hq hq1 hq2 hb hb2 ha hg hgB hBG hbG hc3 ht hN hk c2 c3
  obtain ⟨fk, hfk⟩ : ∃ fk, fk = upd f k ⟨.int .i64 (t : Int), .int .i64 0, (f k).o, (f k).l⟩ := ⟨_, rfl⟩
  have ha : (fk k).a = .int .i64 (t : Int) := by rw [hfk, upd_same]
  have hc : (fk k).c = .int .i64 0 := by rw [hfk, upd_same]
  rw [← hfk] at HQ3 ⊢
  have HAC0 := hide (And.intro ha hc)
  clear ha hc hfk
  go_enter Try.func9, Try.ntmps9
  go_upto_region 8 with fail
  generalize ((w.setCell ⟨G, k * 4, none⟩ (.int .i64 (t : Int))).setCell ⟨G, k * 4 + 1, none⟩ (.int .i64 0)).setCell ⟨B, 0, none⟩ (.slice (some ⟨gb, 0, none⟩) j cb) = w3 at HB3 HQ3 HCB HC3 ⊢
  have ha := HAC0.out.1
  obtain ⟨ch, hch⟩ : ∃ ch : Nat, ch = 0 := ⟨0, rfl⟩
  have hc : (fk k).c = .int .i64 (ch : Int) := by rw [hch]; exact HAC0.out.2
  have HCH := hide hch
  clear hch
  clear HAC0
  clear hj2 c0 c1 b0 bf0 f0 f1 c1' f1' b2 bf2 hct hji hjw hjc hjcI hnz hnb hj
  have hq := HQ3.out
  have hk := HK.out
  have hg := HG.out
  have hc3 := HC3.out
  obtain ⟨ht, hN⟩ := HTN.out
  clear HQ3 HK HG HC3 HTN
  obtain ⟨c0, c1, c2, c3⟩ := hq.cells hk
  rw [ha] at c0
  rw [hc] at c1
  have f3 := hq.free (k * 4 + 3)
  have hti : (t : Int) < (N : Int) := by omega
  have htc : t < cm := by omega
  have ht0 : ¬ (t : Int) < 0 := by omega
  have hq1 := (hq.set3 hk (.bool (decide (m ≤ ch)))).kept (w' := (w3.setCell ⟨G, k * 4 + 3, none⟩ (.bool (decide (m ≤ ch)))).drew) rfl
  have HQ1 := hide hq1
  obtain ⟨d0, d1, d2, d3⟩ := hq1.cells hk
  rw [upd_same] at d0 d1 d2 d3
  simp only at d0 d1 d2 d3
  rw [ha] at d0
  rw [hc] at d1
  have HAC := hide (And.intro ha hc)
  have HC1 : Hid (Chg (fun x => x = G) w3 (w3.setCell ⟨G, k * 4 + 3, none⟩ (.bool (decide (m ≤ ch)))).drew) := (Chg.setCell (S := fun x => x = G) (Chg.refl _ w3) (p := ⟨G, k * 4 + 3, none⟩) rfl _).drew
  have hcm : (w3.setCell ⟨G, k * 4 + 3, none⟩ (.bool (decide (m ≤ ch)))).drew.cell? ⟨gm, t, none⟩ = some (.int .i64 (m : Int)) := (chg_cell HC1.out hg (block_of_cell hc3)).trans hc3
  have HKE := hide (And.intro d0 (And.intro d1 hcm))
  have HRA := hide (fun W => raise_any W 0 ⟨by decide, by decide⟩)
  have HLO := hide (fun W => lower_any W 0 ⟨by decide, by decide⟩)
  have HK := hide hk
  unfold Made1 at HRA HLO
  clear hq1 hq ha hc hcm hg
  by_cases hm : m ≤ ch
  · rw [decide_eq_true hm] at HQ1 HC1 d3 HKE d0 d1 d2
    have HMM := hide hm
    have hmi : (m : Int) ≤ (ch : Int) := by omega
    clear hm hk ht
    go_upto_region 9 with fail
    go_region_held3 (fun X => X.cell? ⟨G, k * 4, none⟩ = some (.int .i64 (t : Int)) ∧ X.cell? ⟨G, k * 4 + 1, none⟩ = some (.int .i64 (ch : Int)) ∧ X.cell? ⟨gm, t, none⟩ = some (.int .i64 (m : Int))) (first | exact HKE.out | exact HKE.out.2.2 | go_keep) (fail)
    all_goals
      clear c0 c1 c2 c3 f3 HKE
      obtain ⟨W, hW⟩ : ∃ W, W = (w3.setCell ⟨G, k * 4 + 3, none⟩ (.bool true)).drew := ⟨_, rfl⟩
      rw [← hW] at d0 d1 d2 d3 HQ1 HC1
      rw [← hW]
      clear hW
      go_wp2_with (first
        | (go_at_call 27; refine (HLO.out W).mono ?_; rintro e w2 ⟨q, rfl, h1, h2, h3⟩; obtain ⟨g2, f2, g3, hend⟩ := nx_call (B := B) (lo := true) HQ1.out HK.out HAC.out HC1.out h1 h2 h3; have HEND := hide hend; clear h1 h2 h3 hend)
        | fail)
      go_ret
      refine ⟨w3, ?_, HB3.out, HCB.out⟩
      have hm2 := HMM.out
      have hend := HEND.out
      have hz := HCH.out
      clear HMM HEND HCH HQ1 HC1 HAC d0 d1 d2 d3
      subst hz
      rw [decide_eq_true hm2]
      exact hend
  · rw [decide_eq_false hm] at HQ1 HC1 d3 HKE d0 d1 d2
    have HMM := hide hm
    have hmi : ¬ (m : Int) ≤ (ch : Int) := by omega
    clear hm hk ht
    go_upto_region 9 with fail
    go_region_held3 (fun X => X.cell? ⟨G, k * 4, none⟩ = some (.int .i64 (t : Int)) ∧ X.cell? ⟨G, k * 4 + 1, none⟩ = some (.int .i64 (ch : Int)) ∧ X.cell? ⟨gm, t, none⟩ = some (.int .i64 (m : Int))) (first | exact HKE.out | exact HKE.out.2.2 | go_keep) (fail)
    all_goals
      clear c0 c1 c2 c3 f3 HKE
      obtain ⟨W, hW⟩ : ∃ W, W = (w3.setCell ⟨G, k * 4 + 3, none⟩ (.bool false)).drew := ⟨_, rfl⟩
      rw [← hW] at d0 d1 d2 d3 HQ1 HC1
      rw [← hW]
      clear hW
      go_wp2_with (first
        | (go_at_call 26; refine (HRA.out W).mono ?_; rintro e w2 ⟨q, rfl, h1, h2, h3⟩; obtain ⟨g2, f2, g3, hend⟩ := nx_call (B := B) (lo := false) HQ1.out HK.out HAC.out HC1.out h1 h2 h3; have HEND := hide hend; clear h1 h2 h3 hend)
        | fail)
      go_ret
      refine ⟨w3, ?_, HB3.out, HCB.out⟩
      have hm2 := HMM.out
      have hend := HEND.out
      have hz := HCH.out
      clear HMM HEND HCH HQ1 HC1 HAC d0 d1 d2 d3
      subst hz
      rw [decide_eq_false hm2]
      exact hend
end Go.Proofs.Ytabmmjhcfhplnaa
