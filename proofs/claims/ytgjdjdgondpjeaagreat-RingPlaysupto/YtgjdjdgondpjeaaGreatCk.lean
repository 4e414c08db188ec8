/- ring's checkCells 31. -/
import Derived.Test.YtgjdjdgondpjeaaGreatTo
import Derived.Test.YtgjdjdgondpjeaaGreatHd
import Derived.Deep.RegionHeld3
namespace Go.Proofs.YtgjdjdgondpjeaaGreat
open Go.RowKit Go.Lib
set_option linter.unusedVariables false
set_option linter.unusedSimpArgs false
theorem OkR.dec (b C : Int) : OkR b C ∨ ¬ OkR b C := Classical.em _
set_option maxRecDepth 100000 in
set_option maxHeartbeats 2000000 in
theorem checkCells_shape (b C : Int) (ao : Option Addr) (n c : Nat) (w : World) (h : ¬ OkR b C) :
    Calls Tryz.prog 57 #[qAgg b C, .slice ao n c] w fun e w' => e = .returned (.int .i64 60) ∧ Below w.heap.size w w' := by
  have hc := fun W => qCheck_any b C W
  simp only [if_neg h] at hc
  have HC := hide hc
  clear hc
  have HQ := hide (qm_one w 121 b C)
  unfold qAgg at HC ⊢
  go_enter Tryz.func57, Tryz.ntmps57
  go_wp2_with (go_at_call 65; refine (HC.out _).mono ?_; rintro e w2 ⟨rfl, hb2⟩)
  go_ret
  exact ⟨rfl, below_on HQ.out.bel hb2⟩
set_option maxRecDepth 100000 in
set_option maxHeartbeats 2000000 in
theorem checkCells_ok (b C : Int) (ao : Option Addr) (n c : Nat) (w : World) (h : OkR b C) (hn : (n : Int) ≤ 9223372036854775807) :
    Calls Tryz.prog 57 #[qAgg b C, .slice ao n c] w fun e w' => e = .returned (.int .i64 (if (n : Int) < b + (2 + 3 * C) then 34 else 0)) ∧ Below w.heap.size w w' := by
  have hc := fun W => qCheck_any b C W
  simp only [if_pos h] at hc
  have HC := hide hc
  clear hc
  have HQ := hide (qm_one w 121 b C)
  obtain ⟨⟨h1, h2⟩, h3, h4⟩ := h
  have HE := hide (fun W => qCells_any b C W h1 h2)
  have hwr : IntKind.i64.wrap (b + (2 + 3 * C)) = b + (2 + 3 * C) := IntWalk.i64_in _ (by omega)
  unfold qAgg at HC HE ⊢
  have key : ∀ (q : Bool), decide ((n : Int) < b + (2 + 3 * C)) = q → Calls Tryz.prog 57 #[.agg #[.int .i64 b, .int .i64 C], .slice ao n c] w fun e w' => e = .returned (.int .i64 (if q = true then 34 else 0)) ∧ Below w.heap.size w w' := by
    intro q hq
    go_enter Tryz.func57, Tryz.ntmps57
    go_wp2_with (go_at_call 65; refine (HC.out _).mono ?_; rintro e w2 ⟨rfl, hb2⟩; have HM := hide (HQ.out.below hb2); clear hb2; obtain ⟨s0, s1⟩ := HM.out.two)
    have x0 := gw_cell s0; have x1 := gw_cell s1
    refine wp_region_gw (by kernel_rfl) (by kernel_rfl) ?_
    repeat (go_big_quiet_step (first
      | (go_at_call 67; exact gw_of (HE.out _))
      | rfl))
    refine wpQuiet_nil ?_
    intro _ hw'
    obtain ⟨x', hw''⟩ := hw'
    subst hw''
    have HB := hide (HM.out.below x'.bel).bel
    clear x0 x1 s0 s1
    generalize x'.world = w3 at HB ⊢
    clear x'
    cases q
    · go_wp2
      go_ret
      exact ⟨rfl, HB.out⟩
    · go_wp2
      go_ret
      exact ⟨rfl, HB.out⟩
  by_cases hq : (n : Int) < b + (2 + 3 * C)
  · rw [if_pos hq]; simpa using key true (by simpa using hq)
  · rw [if_neg hq]; simpa using key false (by simpa using hq)
end Go.Proofs.YtgjdjdgondpjeaaGreat
