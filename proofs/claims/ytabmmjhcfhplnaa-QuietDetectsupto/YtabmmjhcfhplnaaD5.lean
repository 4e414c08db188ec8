/- QuietDetects: over. -/
import Derived.Test.YtabmmjhcfhplnaaD4
namespace Go.Proofs.Ytabmmjhcfhplnaa
open Go.RowKit Go.Lib Go.MuLone
set_option linter.unusedVariables false
set_option linter.unusedSimpArgs false
set_option maxRecDepth 100000 in
theorem over_low {w : World} {G n k : Nat} {f : Nat → W4} {bv fv : Value} (hq : WQ w G n f) (hk : k < n) (hl : (f k).l = .bool true) :
    Calls Try.prog 13 #[.pointer (some ⟨G, k * 4, none⟩), bv, fv] w fun e w' => e = .returned (.tuple #[]) ∧ WQ w' G n (upd f k ⟨.int .i64 (-1), (f k).c, .pointer none, .bool true⟩) ∧ Chg (fun x => x = G) w w' := by
  obtain ⟨c0, c1, c2, c3⟩ := hq.cells hk
  have f2 := hq.free (k * 4 + 2)
  have hq1 := hq.set2 hk (.pointer none)
  obtain ⟨d0, d1, d2, d3⟩ := hq1.cells hk
  rw [upd_same] at d0 d1 d2 d3
  simp only at d0 d1 d2 d3
  rw [hl] at d3
  have g0 := hq1.free (k * 4)
  have hq2 := hq1.set0 hk (.int .i64 (-1))
  rw [upd_upd, upd_same] at hq2
  simp only at hq2
  rw [hl] at hq2
  have HQ2 := hide hq2
  have HC : Hid (Chg (fun x => x = G) w ((w.setCell ⟨G, k * 4 + 2, none⟩ (.pointer none)).setCell ⟨G, k * 4, none⟩ (.int .i64 (-1)))) := Chg.setCell (S := fun x => x = G) (Chg.setCell (S := fun x => x = G) (Chg.refl _ w) (p := ⟨G, k * 4 + 2, none⟩) rfl _) (p := ⟨G, k * 4, none⟩) rfl _
  clear hq hq1 hq2 hk hl
  go_enter Try.func13, Try.ntmps13
  go_wp2_with fail
  first | go_end0 | refine bodyPost_ret (results_none rfl _ _ _) rfl ?_
  exact ⟨rfl, HQ2.out, HC.out⟩
theorem own_at {w : World} {Y t z n : Nat} {v : Value} {l : List Value} (h : w.ownsRow Y t z v n l) {g : Nat} (hg : v.ownBlock = some g) : ∃ cur, w.heap[g]? = some (.cells cur t (0, 0)) := by
  obtain ⟨_, ⟨rfl, _⟩ | ⟨g', cap, cur, rfl, hg', hc, _⟩⟩ := h
  · cases hg
  · cases hg; exact ⟨cur, hc⟩
theorem own_type {w : World} {Y t t' z n g : Nat} {v : Value} {l : List Value} {cs : Array Value} {fr : Nat × Nat} (h : w.ownsRow Y t z v n l) (hg : w.heap[g]? = some (.cells cs t' fr)) (ht : t' ≠ t) : v.ownBlock ≠ some g := fun e => by
  obtain ⟨cur, hc⟩ := own_at h e
  rw [hc] at hg
  simp only [Option.some.injEq, Obj.cells.injEq] at hg
  exact ht hg.2.1.symm
/-- What over has made of a Raise. -/
structure OvP (w w' : World) (G n : Nat) (f' : Nat → W4) (B F Yb : Nat) (bv : Value) (j : Nat) (bag : List Nat) (fr : Nat) : Prop where
  q : WQ w' G n f'
  ex : ∃ g cap, w'.heap[B]? = some (.cells #[.slice (some ⟨g, 0, none⟩) (j + 1) cap] 22 (0, 0)) ∧ w'.ownsRow Yb 3 1 (.slice (some ⟨g, 0, none⟩) (j + 1) cap) (j + 1) (nums (bag ++ [fr])) ∧ g ≠ F
  f_ : w'.heap[F]? = some (.cells #[.int .i64 ((fr : Int) + 1)] 3 (0, 0))
  c : Chg (fun x => x = G ∨ x = B ∨ x = F ∨ bv.ownBlock = some x) w w'
section
variable {w w2 W w5 : World} {G n B F Yb j fr g cap : Nat} {f' : Nat → W4} {bv : Value} {bag : List Nat}
theorem ov_end (c : Chg (fun x => x = G ∨ x = B ∨ x = F ∨ bv.ownBlock = some x) w W) (hq : WQ W G n f') (hB : W.heap[B]? = some (.cells #[bv] 22 (0, 0))) (hF : W.heap[F]? = some (.cells #[.int .i64 (fr : Int)] 3 (0, 0))) (hbF : bv.ownBlock ≠ some F) (hrow : W.ownsRow Yb 3 1 bv j (nums bag))
    (h1 : w5.ownsRow Yb 3 1 (.slice (some ⟨g, 0, none⟩) (j + 1) cap) (j + 1) (nums bag ++ [.int .i64 (fr : Int)])) (h2 : W.grownBy w5 bv.ownBlock) {H : Nat} (hH : W.heap.size = H) (h3 : bv.ownBlock = some g ∨ g = H) :
    w5.cell? ⟨B, 0, none⟩ = some bv ∧ w5.frozen? ⟨B, 0, none⟩ = false ∧ (w5.setCell ⟨B, 0, none⟩ (.slice (some ⟨g, 0, none⟩) (j + 1) cap)).cell? ⟨F, 0, none⟩ = some (.int .i64 (fr : Int)) ∧ (w5.setCell ⟨B, 0, none⟩ (.slice (some ⟨g, 0, none⟩) (j + 1) cap)).frozen? ⟨F, 0, none⟩ = false ∧
    OvP w ((w5.setCell ⟨B, 0, none⟩ (.slice (some ⟨g, 0, none⟩) (j + 1) cap)).setCell ⟨F, 0, none⟩ (.int .i64 ((fr : Int) + 1))) G n f' B F Yb bv j bag fr := by
  have nB : bv.ownBlock ≠ some B := own_type hrow hB (by decide)
  obtain ⟨A, hA, hA2, hA3⟩ := id hq
  have nG : bv.ownBlock ≠ some G := own_type hrow hA (by decide)
  have kB : w5.heap[B]? = some (.cells #[bv] 22 (0, 0)) := (h2.block B (lt_of_heap hB) (fun e => nB e.symm)).trans hB
  have kF : w5.heap[F]? = some (.cells #[.int .i64 (fr : Int)] 3 (0, 0)) := (h2.block F (lt_of_heap hF) (fun e => hbF e.symm)).trans hF
  have kG : WQ w5 G n f' := hq.kept (h2.block G hq.lt (fun e => nG e.symm))
  obtain ⟨A5, hA5, _⟩ := id kG
  have eBF : F ≠ B := fun e => by subst e; rw [kB] at kF; simp at kF
  have eBG : G ≠ B := fun e => by subst e; rw [kB] at hA5; simp at hA5
  have eFG : G ≠ F := fun e => by subst e; rw [kF] at hA5; simp at hA5
  have gB : g ≠ B := by
    rcases h3 with h | h
    · intro e; subst e; exact nB h
    · have := lt_of_heap hB; omega
  have gF : g ≠ F := by
    rcases h3 with h | h
    · intro e; subst e; exact hbF h
    · have := lt_of_heap hF; omega
  have kF6 : (w5.setCell ⟨B, 0, none⟩ (.slice (some ⟨g, 0, none⟩) (j + 1) cap)).heap[F]? = some (.cells #[.int .i64 (fr : Int)] 3 (0, 0)) := (Below.heap_setCell _ _ _ _ eBF).trans kF
  refine ⟨cell_of kB (i := 0) rfl, free_of kB 0, cell_of kF6 (i := 0) rfl, free_of kF6 0, ⟨?_, ⟨g, cap, ?_, ?_, gF⟩, ?_, ?_⟩⟩
  · exact (kG.kept (Below.heap_setCell _ _ _ _ eBG)).kept (Below.heap_setCell _ _ _ _ eFG)
  · exact (Below.heap_setCell _ _ _ _ (Ne.symm eBF)).trans (heap_set (i := 0) kB _)
  · rw [nums_snoc]
    refine ownsRow_block h1 (fun x hx => ?_)
    cases hx
    exact (Below.heap_setCell _ _ _ _ gF).trans (Below.heap_setCell _ _ _ _ gB)
  · exact heap_set (i := 0) kF6 _
  · exact Chg.setCell (Chg.setCell (c.grown h2 (fun x hx => .inl (.inr (.inr (.inr hx))))) (p := ⟨B, 0, none⟩) (.inr (.inl rfl)) _) (p := ⟨F, 0, none⟩) (.inr (.inr (.inl rfl))) _
end
set_option maxRecDepth 100000 in
set_option maxHeartbeats 2000000 in
theorem over_raise {w : World} {G n k B F Yb j ch fr : Nat} {f : Nat → W4} {bv : Value} {bag : List Nat} (hq : WQ w G n f) (hk : k < n) (hl : (f k).l = .bool false) (hc : (f k).c = .int .i64 (ch : Int)) (hch : ch ≤ 1048576) (hB : w.heap[B]? = some (.cells #[bv] 22 (0, 0))) (hF : w.heap[F]? = some (.cells #[.int .i64 (fr : Int)] 3 (0, 0))) (hfr : fr ≤ 1048576) (hbF : bv.ownBlock ≠ some F) (hrow : w.ownsRow Yb 3 1 bv j (nums bag)) (hj : j ≤ 419430400) (hY : Yb ≤ w.heap.size) :
    Calls Try.prog 13 #[.pointer (some ⟨G, k * 4, none⟩), .pointer (some ⟨B, 0, none⟩), .pointer (some ⟨F, 0, none⟩)] w fun e w' => e = .returned (.tuple #[]) ∧ OvP w w' G n (upd f k ⟨(f k).a, .int .i64 ((ch : Int) + 1), .pointer none, .bool false⟩) B F Yb bv j bag fr := by
  obtain ⟨c0, c1, c2, c3⟩ := hq.cells hk
  have f2 := hq.free (k * 4 + 2)
  have hq1 := hq.set2 hk (.pointer none)
  obtain ⟨d0, d1, d2, d3⟩ := hq1.cells hk
  rw [upd_same] at d0 d1 d2 d3
  simp only at d0 d1 d2 d3
  rw [hl] at d3
  rw [hc] at d1
  have g1 := hq1.free (k * 4 + 1)
  have hq2 := hq1.set1 hk (.int .i64 ((ch : Int) + 1))
  rw [upd_upd, upd_same] at hq2
  simp only at hq2
  rw [hl] at hq2
  obtain ⟨A, hA, _⟩ := id hq
  have eB : B ≠ G := fun e => by subst e; rw [hB] at hA; simp at hA
  have eF : F ≠ G := fun e => by subst e; rw [hF] at hA; simp at hA
  have nG : bv.ownBlock ≠ some G := own_type hrow hA (by decide)
  have hc2 : Chg (fun x => x = G) w ((w.setCell ⟨G, k * 4 + 2, none⟩ (.pointer none)).setCell ⟨G, k * 4 + 1, none⟩ (.int .i64 ((ch : Int) + 1))) := Chg.setCell (S := fun x => x = G) (Chg.setCell (S := fun x => x = G) (Chg.refl _ w) (p := ⟨G, k * 4 + 2, none⟩) rfl _) (p := ⟨G, k * 4 + 1, none⟩) rfl _
  obtain ⟨w2, hw2⟩ : ∃ w2, w2 = ((w.setCell ⟨G, k * 4 + 2, none⟩ (.pointer none)).setCell ⟨G, k * 4 + 1, none⟩ (.int .i64 ((ch : Int) + 1))) := ⟨_, rfl⟩
  rw [← hw2] at hq2 hc2
  have hB2 := hc2.heap hB eB
  have hF2 := hc2.heap hF eF
  have hrow2 : w2.ownsRow Yb 3 1 bv j (nums bag) := ownsRow_block hrow (fun x hx => by
    obtain ⟨cur, hcx⟩ := own_at hrow hx
    exact hc2.block x (lt_of_heap hcx) (fun e => nG (e ▸ hx)))
  have b2 : w2.cell? ⟨B, 0, none⟩ = some bv := cell_of hB2 (i := 0) rfl
  have e2 : w2.cell? ⟨F, 0, none⟩ = some (.int .i64 (fr : Int)) := cell_of hF2 (i := 0) rfl
  have hbA : Below w2.heap.size w2 (w2.alloc (.cells #[.int .i64 (fr : Int)] 3)).drew := below_drew (below_alloc (Below.refl _ _) _)
  have hrowA : (w2.alloc (.cells #[.int .i64 (fr : Int)] 3)).drew.ownsRow Yb 3 1 bv j (nums bag) := ownsRow_block hrow2 (fun x hx => by
    obtain ⟨cur, hcx⟩ := own_at hrow2 hx
    exact hbA.block x (lt_of_heap hcx))
  have HCW := hide ((hc2.mono (T := fun x => x = G ∨ x = B ∨ x = F ∨ bv.ownBlock = some x) (fun x hx => .inl hx)).trans (Chg.of_below hbA))
  have HQA := hide (hq2.kept (hbA.block G hq2.lt))
  have HBA := hide ((hbA.block B (lt_of_heap hB2)).trans hB2)
  have HFA := hide ((hbA.block F (lt_of_heap hF2)).trans hF2)
  have HBF := hide hbF
  have HRA := hide hrowA
  have nB2 := lt_of_heap hB2
  have nF2 := lt_of_heap hF2
  have HYW : Hid (Yb ≤ w2.heap.size) := Nat.le_trans hY hc2.size
  have b3 : (w2.alloc (.cells #[.int .i64 (fr : Int)] 3)).drew.cell? ⟨B, 0, none⟩ = some bv := (below_cell hbA nB2).trans b2
  have e3 : (w2.alloc (.cells #[.int .i64 (fr : Int)] 3)).drew.cell? ⟨F, 0, none⟩ = some (.int .i64 (fr : Int)) := (below_cell hbA nF2).trans e2
  have HW2 := hide hw2
  have hwc : wrap64 ((ch : Int) + 1) = (ch : Int) + 1 := IntWalk.wrap64_in _ (by omega)
  have hwf : wrap64 ((fr : Int) + 1) = (fr : Int) + 1 := IntWalk.wrap64_in _ (by omega)
  obtain ⟨bo, bc, hbs⟩ := owns_shape hrow
  subst hbs
  clear hq hq1 hq2 hA eB eF nG hc2 hw2 hB hF hB2 hF2 hrow hrow2 hrowA hbA hk hl hc hbF hY
  go_enter Try.func13, Try.ntmps13
  go_upto_region 4 with fail
  rw [← HW2.out]
  clear c0 c1 c2 c3 f2 d0 d1 d2 d3 g1 HW2 hwc
  obtain ⟨i3, hi3, hy0, hy1, hy2⟩ := dinfo_parts Try.dinfo3
  refine wp_region_noPanic ?_
  go_region_law ((refine step_append_lies _ (by rfl) _ _ _ (by rfl) Yb 3 i3 (.int .i64 0) 1 8 Try.underlying22 hi3 hy0 hy1 hy2 rfl (by omega) (.slice bo j bc) j (nums bag) (by rfl) HRA.out ⟨w2.heap.size, 0, none⟩ 1 1 [.int .i64 (fr : Int)] (by rfl) (by rfl) (done_cell w2 _ _) (by simp [Value.oneCell']) (by omega) (by unfold maxLen; omega) (by omega) (by have := HYW.out; simp; omega) (w2.heap.size + 1) (by simp) ?_; intro g cap w5 h1 h2 h3 h4; obtain ⟨b5, bf5, e5, ef5, hend⟩ := ov_end (H := w2.heap.size + 1) HCW.out HQA.out HBA.out HFA.out HBF.out HRA.out h1 h2 (by simp) h3; have HEND := hide hend; clear h1 h2 h3 h4 hend))
  all_goals
    refine NoPanic.normal ?_
    go_wp2_with fail
    first | go_end0 | refine bodyPost_ret (results_none rfl _ _ _) rfl ?_
    exact ⟨rfl, HEND.out⟩
end Go.Proofs.Ytabmmjhcfhplnaa
