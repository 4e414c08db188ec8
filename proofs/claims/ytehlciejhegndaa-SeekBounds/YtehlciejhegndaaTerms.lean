/- What all calls share: the graph's error, then the kind's. -/
import Derived.Test.YtehlciejhegndaaExtWalk
import Derived.Test.YtehlciejhegndaaChecks
import Derived.Test.YtehlciejhegndaaLists
namespace Go.Proofs.Ytehlciejhegndaa
open Go.RowKit Go.Lib
set_option linter.unusedVariables false

/-- The first error of a graph and a kind. -/
def fstNo (N : Int) (st to wt : List Int) (k : Int) : Int := if (chk N st to wt).1 = 0 then kindNo k else (chk N st to wt).1

set_option maxRecDepth 100000 in
set_option maxHeartbeats 2000000 in
theorem graphNo_any (N : Int) (va vb vc : Value) (st to wt : List Int) (k : Int) (w : World) (hg : GIs w N va vb vc st to wt) (hst : st.length ≤ 17592186044416) (hto : to.length ≤ 17592186044416) (hwt : wt.length ≤ 17592186044416) :
    Calls Try.prog 54 #[gAgg N va vb vc, .int .i64 k] w fun e w' => e = .returned (.int .i64 (fstNo N st to wt k)) ∧ Below w.heap.size w w' := by
  obtain ⟨ao, ca, rfl⟩ := hg.s.shape
  obtain ⟨bo, cb, rfl⟩ := hg.t.shape
  obtain ⟨co, cc, rfl⟩ := hg.u.shape
  have HG := hide hg
  clear hg
  obtain ⟨c0, c1, c2, c3, hb1, hs1⟩ := boxed w (.int .i64 N) (.slice ao st.length ca) (.slice bo to.length cb) (.slice co wt.length cc)
  have HCH := hide (check_all N _ _ _ st to wt _ (HG.out.below hb1) hst hto hwt)
  unfold gAgg at HCH ⊢
  unfold fstNo
  obtain ⟨X, hX⟩ : ∃ X, X = chk N st to wt := ⟨_, rfl⟩
  rw [← hX] at HCH ⊢
  obtain ⟨x, y⟩ := X
  have HB1 := hide hb1
  clear hb1 hX
  by_cases h : x = 0
  · subst h
    rw [if_pos rfl]
    go_enter Try.func54, Try.ntmps54
    go_wp2_with fail
    generalize (w.alloc (.cells #[.int .i64 N, .slice ao st.length ca, .slice bo to.length cb, .slice co wt.length cc] 25)) = w1 at c0 c1 c2 c3 hs1 HB1 HCH ⊢
    refine HCH.out.mono ?_
    rintro e w2 ⟨rfl, hb2⟩
    have HB2 := hide (below_on HB1.out hb2)
    clear c0 c1 c2 c3 hb2 HCH
    go_wp2_with fail
    refine (kind_any k w2).mono ?_
    rintro e w3 ⟨rfl, rfl⟩
    go_wp2
    go_ret
    exact ⟨rfl, HB2.out⟩
  · have hx : (x != 0) = true := by simp [h]
    rw [if_neg h]
    clear h
    go_enter Try.func54, Try.ntmps54
    go_wp2_with fail
    generalize (w.alloc (.cells #[.int .i64 N, .slice ao st.length ca, .slice bo to.length cb, .slice co wt.length cc] 25)) = w1 at c0 c1 c2 c3 hs1 HB1 HCH ⊢
    refine HCH.out.mono ?_
    rintro e w2 ⟨rfl, hb2⟩
    have HB2 := hide (below_on HB1.out hb2)
    clear c0 c1 c2 c3 hb2 HCH
    go_wp2
    go_ret
    exact ⟨rfl, HB2.out⟩

set_option maxRecDepth 100000 in
theorem isVtx_any (N : Int) (va vb vc : Value) (v : Int) (w : World) :
    Calls Try.prog 40 #[gAgg N va vb vc, .int .i64 v] w fun e w' => e = .returned (.bool (decide (0 ≤ v ∧ v < N))) ∧ Below w.heap.size w w' := by
  obtain ⟨c0, c1, c2, c3, hb1, hs1⟩ := boxed w (.int .i64 N) va vb vc
  have HB1 := hide hb1
  clear hb1
  unfold gAgg
  by_cases h : 0 ≤ v ∧ v < N
  · rw [decide_eq_true h]
    obtain ⟨h1, h2⟩ := h
    go_enter Try.func40, Try.ntmps40
    go_wp2
    all_goals first
      | (exfalso; omega)
      | (go_ret; exact ⟨by simp; omega, HB1.out⟩)
      | (go_ret; exact ⟨rfl, HB1.out⟩)
  · rw [decide_eq_false h]
    have hh : v < 0 ∨ N ≤ v := by omega
    clear h
    go_enter Try.func40, Try.ntmps40
    go_wp2
    all_goals first
      | (exfalso; omega)
      | (go_ret; exact ⟨by simp; omega, HB1.out⟩)
      | (go_ret; exact ⟨rfl, HB1.out⟩)
end Go.Proofs.Ytehlciejhegndaa
