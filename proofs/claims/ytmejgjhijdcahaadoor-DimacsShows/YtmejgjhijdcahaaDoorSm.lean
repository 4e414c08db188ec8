/- The sames. -/
import Derived.Test.YtmejgjhijdcahaaDoorRe
namespace Go.Proofs.YtmejgjhijdcahaaDoor
open Go.Shelf Go.RowKit Go.Sort Go.Lib
set_option linter.unusedVariables false
set_option linter.unusedSimpArgs false
set_option maxHeartbeats 2000000 in
set_option maxRecDepth 100000 in
theorem sameInts_any (v1 v2 : Value) (l : List Int) (w : World) (h1 : RAt iArr 1 w v1 l) (h2 : RAt iArr 1 w v2 l) : Calls Tryd.prog 15 #[v1, v2] w fun e w' => e = .returned (.bool true) ∧ Below w.heap.size w w' := by
  obtain ⟨a1, c1, rfl, hc1, hm1⟩ := h1.shape
  obtain ⟨a2, c2, rfl, hc2, hm2⟩ := h2.shape
  have K1 := hide (fun i hi => h1.at i hi)
  have K2 := hide (fun i hi => h2.at i hi)
  clear h1 h2
  obtain ⟨n, hn⟩ : ∃ n, n = l.length := ⟨_, rfl⟩
  have HN := hide hn
  rw [← hn] at hc1 hc2 ⊢
  clear hn
  have M1 := hide hm1; have M2 := hide hm2; have N1 := hide hc1; have N2 := hide hc2
  clear hm1 hm2 hc1 hc2
  go_enter Tryd.func15, Tryd.ntmps15
  go_wp2_with fail
  go_loopw [5] (fun t wr => ∃ k : Nat, k ≤ n ∧ t = .int .i64 k ∧ Below w.heap.size w wr) (fun t _ => n - (RowKit.intOf t).toNat)
  case atStart => exact ⟨0, by omega, rfl, Below.refl _ _⟩
  case round =>
    obtain ⟨k, hk, rfl, hbel⟩ := hrel
    have HBL := hide hbel
    by_cases hlt : k < n
    · obtain ⟨g1, o1, rfl, hg1, e1⟩ := K1.out k (by have := HN.out; omega)
      obtain ⟨g2, o2, rfl, hg2, e2⟩ := K2.out k (by have := HN.out; omega)
      obtain ⟨s, hs⟩ : ∃ s, s = l[k]'(by have := HN.out; omega) := ⟨_, rfl⟩
      rw [← hs] at e1 e2
      have x1 : wr.cell? ⟨g1, o1 + k, none⟩ = some (.int .i64 s) := by
        have := (below_cell hbel hg1).trans (e1 0 (.int .i64 s) rfl); simpa using this
      have x2 : wr.cell? ⟨g2, o2 + k, none⟩ = some (.int .i64 s) := by
        have := (below_cell hbel hg2).trans (e2 0 (.int .i64 s) rfl); simpa using this
      have hkm : (k : Int) + 1 ≤ 9223372036854775807 := by have := M1.out; have := N1.out; omega
      have hk1 : (k : Int) < c1 := by have := N1.out; omega
      have hk2 : (k : Int) < c2 := by have := N2.out; omega
      clear e1 e2 hs hbel
      have y1 := gw_cell x1
      have y2 := gw_cell x2
      go_wp2_with fail
      refine wp_region_gw (by kernel_rfl) (by kernel_rfl) ?_
      repeat (go_big_quiet_step (rfl))
      refine wpQuiet_nil ?_
      intro _ hw'
      obtain ⟨x, hw''⟩ := hw'
      subst hw''
      go_wp2_with fail
      go_roundw
      case rel => exact ⟨k + 1, by omega, by go_num, HBL.out.trans (x.bel.mono HBL.out.size)⟩
      case measure => simp [RowKit.intOf]; omega
    · clear hbel
      go_wp2_with fail
      go_ret
      exact ⟨rfl, HBL.out⟩
end Go.Proofs.YtmejgjhijdcahaaDoor
