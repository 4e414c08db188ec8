/- sameRoads. -/
import Derived.Test.YtmejgjhijdcahaaDoorSp
namespace Go.Proofs.YtmejgjhijdcahaaDoor
open Go.Shelf Go.RowKit Go.Sort Go.Lib
set_option linter.unusedVariables false
set_option linter.unusedSimpArgs false
set_option maxHeartbeats 2000000 in
set_option maxRecDepth 100000 in
theorem sameRoads_any (N : Int) (v1 v2 : Value) (l : List Eg) (w : World) (h1 : RAt Eg.arr 3 w v1 l) (h2 : RAt Eg.arr 3 w v2 l) : Calls Tryd.prog 13 #[.agg #[.int .i64 N, v1], .agg #[.int .i64 N, v2]] w fun e w' => e = .returned (.bool true) ∧ Below w.heap.size w w' := by
  obtain ⟨a1, c1, rfl, hc1, hm1⟩ := h1.shape
  obtain ⟨a2, c2, rfl, hc2, hm2⟩ := h2.shape
  have K1 := hide (fun i hi => h1.at i hi)
  have K2 := hide (fun i hi => h2.at i hi)
  clear h1 h2
  obtain ⟨n, hn⟩ : ∃ n, n = l.length := ⟨_, rfl⟩
  have HN := hide hn
  rw [← hn] at hc1 hc2 ⊢
  clear hn
  have M1 := hide hm1; have M2 := hide hm2; have N1 := hide hc1; have N2 := hide hc2
  clear hm1 hm2 hc1 hc2
  have hb0 : Below w.heap.size w ((w.alloc (.cells #[.int .i64 N, .slice a1 n c1] 24)).alloc (.cells #[.int .i64 N, .slice a2 n c2] 24)) := ((Below.refl _ w).alloc (Nat.le_refl _) _).alloc (by simp) _
  have f2 := fresh_heap (w.alloc (.cells #[.int .i64 N, .slice a1 n c1] 24)) (.cells #[.int .i64 N, .slice a2 n c2] 24)
  have f1 := fresh_heap w (.cells #[.int .i64 N, .slice a1 n c1] 24)
  rw [show (w.alloc (.cells #[.int .i64 N, .slice a1 n c1] 24)).heap.size = w.heap.size + 1 by simp] at f2
  have q1 : ((w.alloc (.cells #[.int .i64 N, .slice a1 n c1] 24)).alloc (.cells #[.int .i64 N, .slice a2 n c2] 24)).cell? ⟨w.heap.size, 1, none⟩ = some (.slice a1 n c1) := Lib.cell?_alloc_some _ (by rw [Lib.cell_of_heap f1]; rfl)
  have q2 : ((w.alloc (.cells #[.int .i64 N, .slice a1 n c1] 24)).alloc (.cells #[.int .i64 N, .slice a2 n c2] 24)).cell? ⟨w.heap.size + 1, 1, none⟩ = some (.slice a2 n c2) := by rw [Lib.cell_of_heap f2]; rfl
  have HB0 := hide hb0
  clear f1 f2 hb0
  go_enter Tryd.func13, Tryd.ntmps13
  go_wp2_with fail
  generalize ((w.alloc (.cells #[.int .i64 N, .slice a1 n c1] 24)).alloc (.cells #[.int .i64 N, .slice a2 n c2] 24)) = w0 at HB0 q1 q2 ⊢
  have s1 := block_of_cell q1
  have s2 := block_of_cell q2
  simp only at s1 s2
  go_loopw [5] (fun t wr => ∃ k : Nat, k ≤ n ∧ t = .int .i64 k ∧ Below w0.heap.size w0 wr) (fun t _ => n - (RowKit.intOf t).toNat)
  case atStart => exact ⟨0, by omega, rfl, Below.refl _ _⟩
  case round =>
    obtain ⟨k, hk, rfl, hbel⟩ := hrel
    have HBL := hide hbel
    have d1 : wr.cell? ⟨w.heap.size, 1, none⟩ = some (.slice a1 n c1) := (below_cell hbel s1).trans q1
    have d2 : wr.cell? ⟨w.heap.size + 1, 1, none⟩ = some (.slice a2 n c2) := (below_cell hbel s2).trans q2
    have hb1 : Below w.heap.size w wr := HB0.out.trans (hbel.mono HB0.out.size)
    have HF := hide hb1
    by_cases hlt : k < n
    · obtain ⟨g1, o1, rfl, hg1, e1⟩ := K1.out k (by have := HN.out; omega)
      obtain ⟨g2, o2, rfl, hg2, e2⟩ := K2.out k (by have := HN.out; omega)
      obtain ⟨⟨s, r, z⟩, hs⟩ : ∃ s, s = l[k]'(by have := HN.out; omega) := ⟨_, rfl⟩
      rw [← hs] at e1 e2
      have y1 := gw_cell ((below_cell hb1 hg1).trans (e1 0 (.int .i64 s) rfl) : wr.cell? ⟨g1, o1 + k * 3, none⟩ = some (.int .i64 s))
      have y2 := gw_cell ((below_cell hb1 hg1).trans (e1 1 (.int .i64 r) rfl) : wr.cell? ⟨g1, o1 + k * 3 + 1, none⟩ = some (.int .i64 r))
      have y3 := gw_cell ((below_cell hb1 hg1).trans (e1 2 (.int .u64 z) rfl) : wr.cell? ⟨g1, o1 + k * 3 + 2, none⟩ = some (.int .u64 z))
      have y4 := gw_cell ((below_cell hb1 hg2).trans (e2 0 (.int .i64 s) rfl) : wr.cell? ⟨g2, o2 + k * 3, none⟩ = some (.int .i64 s))
      have y5 := gw_cell ((below_cell hb1 hg2).trans (e2 1 (.int .i64 r) rfl) : wr.cell? ⟨g2, o2 + k * 3 + 1, none⟩ = some (.int .i64 r))
      have y6 := gw_cell ((below_cell hb1 hg2).trans (e2 2 (.int .u64 z) rfl) : wr.cell? ⟨g2, o2 + k * 3 + 2, none⟩ = some (.int .u64 z))
      have y7 := gw_cell d1
      have y8 := gw_cell d2
      have hneq := neq_30 s r z
      have hkm : (k : Int) + 1 ≤ 9223372036854775807 := by have := M1.out; have := N1.out; omega
      have hk1 : (k : Int) < c1 := by have := N1.out; omega
      have hk2 : (k : Int) < c2 := by have := N2.out; omega
      clear e1 e2 hs hbel hb1 q1 q2
      go_wp2_with fail
      refine wp_region_gw (by kernel_rfl) (by kernel_rfl) ?_
      repeat (go_big_quiet_step (rfl))
      refine wpQuiet_nil ?_
      intro _ hw'
      obtain ⟨x, hw''⟩ := hw'
      subst hw''
      go_wp2_with fail
      go_roundw
      case rel => exact ⟨k + 1, by omega, by go_num, HBL.out.trans (x.bel.mono HBL.out.size)⟩
      case measure => simp [RowKit.intOf]; omega
    · clear hbel hb1 q1 q2
      go_wp2_with fail
      go_ret
      exact ⟨rfl, HF.out⟩
end Go.Proofs.YtmejgjhijdcahaaDoor
