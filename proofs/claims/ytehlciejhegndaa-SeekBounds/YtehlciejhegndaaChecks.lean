/- Check, the program's and the reference's, of any N. -/
import Derived.Test.YtehlciejhegndaaRefCheck
namespace Go.Proofs.Ytehlciejhegndaa
open Go.RowKit Go.Lib
set_option linter.unusedVariables false

set_option maxRecDepth 100000 in
set_option maxHeartbeats 2000000 in
theorem check_all (N : Int) (va vb vc : Value) (st to wt : List Int) (w : World) (hg : GIs w N va vb vc st to wt) (hst : st.length ≤ 17592186044416) (hto : to.length ≤ 17592186044416) (hwt : wt.length ≤ 17592186044416) :
    Calls Try.prog 38 #[gAgg N va vb vc] w (ChkPost w (chk N st to wt)) := by
  by_cases hf : FitsI N to.length
  · exact check_any N va vb vc st to wt w hg (by have := hf.2.1; omega) hst hto hwt
  · obtain ⟨ao, ca, rfl⟩ := hg.s.shape
    obtain ⟨bo, cb, rfl⟩ := hg.t.shape
    obtain ⟨co, cc, rfl⟩ := hg.u.shape
    clear hg
    unfold gAgg
    have HP : Hid (∀ w', Below w.heap.size w w' → ChkPost w (chk N st to wt) (.returned (.tuple #[.int .i64 22, .int .i64 (-1)])) w') := fun w' hb => ⟨by rw [chk_size hf], hb⟩
    have HF := hide (fits_any N to.length)
    rw [decide_eq_false hf] at HF
    clear hf
    go_enter Try.func38, Try.ntmps38
    go_wp2_with fail
    refine (HF.out _).mono ?_
    rintro e w' ⟨rfl, rfl⟩
    go_wp2
    go_ret2
    exact HP.out _ ((Below.refl _ _).alloc (Nat.le_refl _) _)
set_option maxRecDepth 100000 in
set_option maxHeartbeats 2000000 in
theorem refCheck_all (N : Int) (va vb vc : Value) (st to wt : List Int) (w : World) (hg : GIs w N va vb vc st to wt) (hst : st.length ≤ 17592186044416) (hto : to.length ≤ 17592186044416) (hwt : wt.length ≤ 17592186044416) :
    Calls Try.prog 44 #[gAgg N va vb vc] w (ChkPost w (chk N st to wt)) := by
  by_cases hf : FitsI N to.length
  · exact refCheck_any N va vb vc st to wt w hg (by have := hf.2.1; omega) hst hto hwt
  · obtain ⟨ao, ca, rfl⟩ := hg.s.shape
    obtain ⟨bo, cb, rfl⟩ := hg.t.shape
    obtain ⟨co, cc, rfl⟩ := hg.u.shape
    clear hg
    unfold gAgg
    have HP : Hid (∀ w', Below w.heap.size w w' → ChkPost w (chk N st to wt) (.returned (.tuple #[.int .i64 22, .int .i64 (-1)])) w') := fun w' hb => ⟨by rw [chk_size hf], hb⟩
    have hp := fits_parts hf
    clear hf
    go_enter Try.func44, Try.ntmps44
    go_wp2
    all_goals first
      | (exfalso; omega)
      | (go_ret2; exact HP.out _ ((Below.refl _ _).alloc (Nat.le_refl _) _))

end Go.Proofs.Ytehlciejhegndaa
