/- twinKept: a twin is as its graph was. -/
import Derived.Test.YtdbphlafbehklaaTwin
namespace Go.Proofs.Ytdbphlafbehklaa
open Go.RowKit Go.Lib
set_option linter.unusedVariables false

theorem boxedB (w : World) (x0 x1 x2 x3 : Value) (h : Below w.heap.size w w) :
    ∀ A, A < w.heap.size → ∀ i, (w.alloc (.cells #[x0, x1, x2, x3] 32)).cell? ⟨A, i, none⟩ = w.cell? ⟨A, i, none⟩ := fun A hA i => below_cell (below_alloc h _) hA

set_option maxRecDepth 100000 in
set_option maxHeartbeats 4000000 in
theorem twinKept_any (N : Int) (va vb vc : Value) (st to wt : List Int) (g1 c1 g2 c2 g3 c3 : Nat) (w : World) (ht : TIs w N g1 c1 g2 c2 g3 c3 st to wt) (hg : GIs w N va vb vc st to wt) (hst : st.length * 8 ≤ 140737488351232) (hto : to.length * 8 ≤ 140737488351232) (hwt : wt.length * 8 ≤ 140737488351232) :
    Calls Try.prog 24 #[tAgg N g1 c1 g2 c2 g3 c3 st.length to.length wt.length, gAgg N va vb vc] w fun e w' => e = .returned (.bool true) ∧ Below w.heap.size w w' := by
  obtain ⟨ao, ca, rfl⟩ := hg.s.shape
  obtain ⟨bo, cb, rfl⟩ := hg.t.shape
  obtain ⟨co, cc, rfl⟩ := hg.u.shape
  have HG := hide hg; have HT := hide ht
  clear hg ht
  unfold tAgg gAgg
  go_enter Try.func24, Try.ntmps24
  go_wp2_with fail
  obtain ⟨W, hW⟩ : ∃ W, W = (w.alloc (.cells #[.int .i64 N, .slice (some ⟨g1, 0, none⟩) st.length c1, .slice (some ⟨g2, 0, none⟩) to.length c2, .slice (some ⟨g3, 0, none⟩) wt.length c3] 32)).alloc (.cells #[.int .i64 N, .slice ao st.length ca, .slice bo to.length cb, .slice co wt.length cc] 32) := ⟨_, rfl⟩
  have hbW : Below w.heap.size w W := by rw [hW]; exact below_alloc (below_alloc (Below.refl _ _) _) _
  have hA : W.heap[w.heap.size]? = some (.cells #[.int .i64 N, .slice (some ⟨g1, 0, none⟩) st.length c1, .slice (some ⟨g2, 0, none⟩) to.length c2, .slice (some ⟨g3, 0, none⟩) wt.length c3] 32 (0, 0)) := by
    rw [hW]
    exact (((Below.refl _ _).alloc (Nat.le_refl _) _).block w.heap.size (by simp)).trans (heap_new w _)
  have hB : W.heap[w.heap.size + 1]? = some (.cells #[.int .i64 N, .slice ao st.length ca, .slice bo to.length cb, .slice co wt.length cc] 32 (0, 0)) := by
    rw [hW]
    have := heap_new (w.alloc (.cells #[.int .i64 N, .slice (some ⟨g1, 0, none⟩) st.length c1, .slice (some ⟨g2, 0, none⟩) to.length c2, .slice (some ⟨g3, 0, none⟩) wt.length c3] 32)) (.cells #[.int .i64 N, .slice ao st.length ca, .slice bo to.length cb, .slice co wt.length cc] 32)
    simpa using this
  rw [← hW]
  have HA := hide hA; have HB := hide hB; have HBW := hide hbW
  have HK1 := hide (intsKept_any g1 c1 (.slice ao st.length ca) st W (HT.out.below hbW).s (HG.out.below hbW).s hst)
  clear hA hB hbW hW
  refine HK1.out.mono ?_
  rintro e w1 ⟨rfl, hb1⟩
  obtain ⟨⟨z0, z1, z2, z3⟩, _⟩ := two_keep HA.out HB.out hb1
  obtain ⟨⟨y0, y1, y2, y3⟩, _⟩ := two_keep HB.out HA.out hb1
  have HB1 := hide hb1
  clear hb1
  go_wp2_with fail
  refine (intsKept_any g2 c2 (.slice bo to.length cb) to w1 ((HT.out.below HBW.out).below HB1.out).t ((HG.out.below HBW.out).below HB1.out).t hto).mono ?_
  rintro e w2 ⟨rfl, hb2⟩
  have hb2' := below_on HB1.out hb2
  clear z0 z1 z2 z3 y0 y1 y2 y3 hb2
  obtain ⟨⟨z0, z1, z2, z3⟩, _⟩ := two_keep HA.out HB.out hb2'
  obtain ⟨⟨y0, y1, y2, y3⟩, _⟩ := two_keep HB.out HA.out hb2'
  have HB2 := hide hb2'
  clear hb2'
  go_wp2_with fail
  refine (wordsKept_any g3 c3 (.slice co wt.length cc) wt w2 ((HT.out.below HBW.out).below HB2.out).u ((HG.out.below HBW.out).below HB2.out).u hwt).mono ?_
  rintro e w3 ⟨rfl, hb3⟩
  have HB3 := hide (below_on HBW.out (below_on HB2.out hb3))
  clear hb3
  go_wp2
  go_ret
  exact ⟨rfl, HB3.out⟩
end Go.Proofs.Ytdbphlafbehklaa
