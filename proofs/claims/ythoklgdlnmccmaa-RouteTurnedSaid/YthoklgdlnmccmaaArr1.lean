/- slices.Clone of ints. -/
import Derived.Test.YthoklgdlnmccmaaIterT
namespace Go.Proofs.Ythoklgdlnmccmaa
open Go.RowKit Go.Lib
set_option linter.unusedVariables false
set_option maxRecDepth 100000 in
theorem cloneInts_any (g o c : Nat) (xs : List Int) (w : World) (hr : RowAt .i64 w (.slice (some ⟨g, o, none⟩) xs.length c) xs) (hl : xs.length ≤ 4194305) :
    Calls Try.prog 131 #[.slice (some ⟨g, o, none⟩) xs.length c] w fun e w' => ∃ v, e = .returned v ∧ w'.ownsRow w.heap.size 3 1 v xs.length (xs.map (Value.int .i64)) ∧ Below w.heap.size w w' := by
  obtain ⟨i0, hi, hz0, hz1, hz2⟩ := info_parts Try.info3
  have q29 : ∀ (w : World) (a : Option Addr) (n c n' c' : Nat), (binOp .eql 29 (.slice a n c) (.slice none n' c')).run Try.prog w = .ok (.bool a.isNone) w := fun w a n c n' c' => Lib.run_eql_slice_nil w _ _ a n c n' c' Try.underlying29
  have HR := hide hr
  clear hr
  go_enter Try.func131, Try.ntmps131
  go_wp2_with (at_builtin; refine wpList_fresh rfl _ _ 29 rfl .i64 3 i0 (.int .i64 0) 8 Try.underlying29 hi hz0 hz1 hz2 rfl w.heap.size _ (own_new _ 3 w.heap.size rfl) (by simp) _ xs rfl rfl (HR.out.below (below_alloc (Below.refl _ _) _)) (by omega) (by unfold maxLen; omega) ?_; intro v' w1 hown hbel; have HO := hide hown; have HB := hide hbel; clear hown hbel)
  go_ret
  exact ⟨_, rfl, HO.out, below_on (below_alloc (Below.refl _ _) _) HB.out⟩
end Go.Proofs.Ythoklgdlnmccmaa
