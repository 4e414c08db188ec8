/- The reference's Same, where the two are alike. -/
import Derived.Test.YtmagigmcbegmiaaCheck
namespace Go.Proofs.Ytmagigmcbegmiaa
open Go.RowKit Go.Lib
set_option linter.unusedVariables false

set_option maxRecDepth 100000 in
set_option maxHeartbeats 4000000 in
theorem sameG_any (N : Int) (va vb vc va' vb' vc' : Value) (st to wt : List Int) (w : World) (hg : GIs w N va vb vc st to wt) (hg' : GIs w N va' vb' vc' st to wt) (hwt : wt.length ≤ 17592186044416) :
    Calls Try.prog 46 #[gAgg N va vb vc, gAgg N va' vb' vc'] w fun e w' => e = .returned (.bool true) ∧ Below w.heap.size w w' := by
  obtain ⟨ao, ca, rfl⟩ := hg.s.shape
  obtain ⟨bo, cb, rfl⟩ := hg.t.shape
  obtain ⟨co, cc, rfl⟩ := hg.u.shape
  obtain ⟨ao', ca', rfl⟩ := hg'.s.shape
  obtain ⟨bo', cb', rfl⟩ := hg'.t.shape
  obtain ⟨co', cc', rfl⟩ := hg'.u.shape
  have HG := hide hg; have HG' := hide hg'
  clear hg hg'
  unfold gAgg
  obtain ⟨W, hW⟩ : ∃ W, W = (w.alloc (.cells #[.int .i64 N, .slice ao st.length ca, .slice bo to.length cb, .slice co wt.length cc] 25)).alloc (.cells #[.int .i64 N, .slice ao' st.length ca', .slice bo' to.length cb', .slice co' wt.length cc'] 25) := ⟨_, rfl⟩
  have hb1 : Below w.heap.size w (w.alloc (.cells #[.int .i64 N, .slice ao st.length ca, .slice bo to.length cb, .slice co wt.length cc] 25)) := (Below.refl _ _).alloc (Nat.le_refl _) _
  have hbW : Below w.heap.size w W := by rw [hW]; exact hb1.alloc hb1.size _
  have hA : W.heap[w.heap.size]? = some (.cells #[.int .i64 N, .slice ao st.length ca, .slice bo to.length cb, .slice co wt.length cc] 25 (0, 0)) := by
    rw [hW]
    exact (((Below.refl _ _).alloc (Nat.le_refl _) _).block w.heap.size (by simp)).trans (heap_new w _)
  have hB : W.heap[w.heap.size + 1]? = some (.cells #[.int .i64 N, .slice ao' st.length ca', .slice bo' to.length cb', .slice co' wt.length cc'] 25 (0, 0)) := by
    rw [hW]
    have := heap_new (w.alloc (.cells #[.int .i64 N, .slice ao st.length ca, .slice bo to.length cb, .slice co wt.length cc] 25)) (.cells #[.int .i64 N, .slice ao' st.length ca', .slice bo' to.length cb', .slice co' wt.length cc'] 25)
    simpa using this
  have HA := hide hA; have HB := hide hB; have HBW := hide hbW
  have HGW := hide (HG.out.below hbW); have HGW' := hide (HG'.out.below hbW)
  have a0 := cell_of hA (i := 0) rfl; have a1 := cell_of hA (i := 1) rfl; have a2 := cell_of hA (i := 2) rfl; have a3 := cell_of hA (i := 3) rfl
  have b0 := cell_of hB (i := 0) rfl; have b1 := cell_of hB (i := 1) rfl; have b2 := cell_of hB (i := 2) rfl; have b3 := cell_of hB (i := 3) rfl
  have hWA : w.heap.size < W.heap.size := lt_of_heap hA
  have hWB : w.heap.size + 1 < W.heap.size := lt_of_heap hB
  clear hA hB hbW hb1
  go_enter Try.func46, Try.ntmps46
  go_wp2_with fail
  rw [← hW]
  clear hW
  refine (refSame_any _ _ st W HGW.out.s HGW'.out.s).mono ?_
  rintro e w1 ⟨rfl, hb1⟩
  have a2' := (below_cell (o := 2) hb1 hWA).trans a2
  have a3' := (below_cell (o := 3) hb1 hWA).trans a3
  have b2' := (below_cell (o := 2) hb1 hWB).trans b2
  have b3' := (below_cell (o := 3) hb1 hWB).trans b3
  have HB1 := hide hb1
  clear hb1 a0 a1 a2 a3 b0 b1 b2 b3
  go_wp2_with fail
  refine (refSame_any _ _ to w1 (HGW.out.below HB1.out).t (HGW'.out.below HB1.out).t).mono ?_
  rintro e w2 ⟨rfl, hb2⟩
  have hs1 : w.heap.size < w1.heap.size := by have := HB1.out.size; omega
  have hs2 : w.heap.size + 1 < w1.heap.size := by have := HB1.out.size; omega
  have a3 := (below_cell (o := 3) hb2 hs1).trans a3'
  have b3 := (below_cell (o := 3) hb2 hs2).trans b3'
  have HG2 := hide ((HGW.out.below HB1.out).below hb2)
  have HG2' := hide ((HGW'.out.below HB1.out).below hb2)
  have HB2 : Hid (Below w.heap.size w w2) := (HBW.out.trans (HB1.out.mono HBW.out.size)).trans (hb2.mono (by have := HBW.out.size; have := HB1.out.size; omega))
  clear hb2 a2' a3' b2' b3' HB1
  have HL := hide (fun i (hi : i < wt.length) => And.intro (HG2.out.u.cellAt i hi) (HG2'.out.u.cellAt i hi))
  obtain ⟨m, hm⟩ : ∃ m, m = wt.length := ⟨_, rfl⟩
  rw [← hm] at HL hwt a3 b3 ⊢
  clear hm
  go_wp2
  go_loopw [5] (fun t wr => ∃ k : Nat, k ≤ m ∧ t = .int .i64 k ∧ ∃ j, wr = w2.drewN j) (fun t _ => m - (RowKit.intOf t).toNat)
  case atStart => exact ⟨0, by omega, rfl, 0, rfl⟩
  case round =>
    obtain ⟨k, hk, rfl, j, rfl⟩ := hrel
    by_cases hlt : k < m
    · obtain ⟨⟨g, o, c, hs, hc, d1⟩, ⟨g', o', c', hs', hc', d2⟩⟩ := HL.out k hlt
      simp only [Value.slice.injEq, true_and] at hs hs'
      obtain ⟨rfl, rfl⟩ := hs
      obtain ⟨rfl, rfl⟩ := hs'
      have hki : (k : Int) < (m : Int) := by omega
      go_wp2
      go_region
      all_goals
        go_wp2
        go_roundw
        case rel => exact ⟨k + 1, by omega, by go_num, _, rfl⟩
        case measure => simp [RowKit.intOf]; omega
    · go_wp2
      go_ret
      exact ⟨rfl, below_drewN HB2.out _⟩
end Go.Proofs.Ytmagigmcbegmiaa
