/- ring: the shape, its cells, Open. -/
import Derived.Test.YtgjdjdgondpjeaaGreatS4
namespace Go.Proofs.YtgjdjdgondpjeaaGreat
open Go.RowKit Go.Lib
set_option linter.unusedVariables false
instance (b C : Int) : Decidable (OkR b C) := by unfold OkR; infer_instance
set_option maxRecDepth 100000 in
theorem ringCells_any (b C : Int) (w : World) :
    Calls Tryz.prog 32 #[qAgg b C] w fun e w' => e = .returned (.tuple #[.int .i64 (if OkR b C then 2 + 3 * C else 0), .int .i64 (if OkR b C then 0 else 60)]) ∧ Below w.heap.size w w' := by
  by_cases h : OkR b C
  · have HC := hide (fun w => qCheck_any b C w)
    rw [if_pos h, if_pos h]
    rw [if_pos h] at HC
    have HS := hide (fun w => qCells_any b C w h.1.1 h.1.2)
    unfold qAgg at HC HS ⊢
    clear h
    go_enter Tryz.func32, Tryz.ntmps32
    go_wp2_with (first
      | (go_at_call 65; refine (HC.out _).mono ?_; rintro e w2 ⟨rfl, hb1⟩; have hm1 := (qm_two w 121 _ b C).below hb1; obtain ⟨s0, s1⟩ := hm1.two; have HM1 := hide hm1; clear hb1 hm1)
      | (go_at_call 67; refine (HS.out _).mono ?_; rintro e w3 ⟨rfl, hb2⟩))
    go_ret2
    exact ⟨rfl, below_on HM1.out.bel hb2⟩
  · have HC := hide (fun w => qCheck_any b C w)
    rw [if_neg h, if_neg h]
    rw [if_neg h] at HC
    unfold qAgg at HC ⊢
    clear h
    go_enter Tryz.func32, Tryz.ntmps32
    go_wp2_with (first
      | (go_at_call 65; refine (HC.out _).mono ?_; rintro e w2 ⟨rfl, hb1⟩; have HM1 := hide ((qm_two w 121 _ b C).below hb1); clear hb1))
    go_ret2
    exact ⟨rfl, HM1.out.bel⟩
set_option maxRecDepth 100000 in
theorem refCellsR_any (b C : Int) (w : World) :
    Calls Tryz.prog 33 #[qAgg b C] w fun e w' => e = .returned (.tuple #[.int .i64 (if OkR b C then 2 + 3 * C else 0), .int .i64 (if OkR b C then 0 else 60)]) ∧ Below w.heap.size w w' := by
  by_cases h : OkR b C
  · have HC := hide (fun w => valid_any b C w)
    rw [if_pos h, if_pos h]
    rw [decide_eq_true h] at HC
    obtain ⟨⟨h1, h2⟩, _⟩ := h
    unfold qAgg at HC ⊢
    go_enter Tryz.func33, Tryz.ntmps33
    go_wp2_with (first
      | (go_at_call 73; refine (HC.out _).mono ?_; rintro e w2 ⟨rfl, hb1⟩; have hm1 := (qm_one w 23 b C).below hb1; obtain ⟨s0, s1⟩ := hm1.two; have HM1 := hide hm1; clear hb1 hm1))
    go_ret2
    exact ⟨rfl, HM1.out.bel⟩
  · have HC := hide (fun w => valid_any b C w)
    rw [if_neg h, if_neg h]
    rw [decide_eq_false h] at HC
    unfold qAgg at HC ⊢
    clear h
    go_enter Tryz.func33, Tryz.ntmps33
    go_wp2_with (first
      | (go_at_call 73; refine (HC.out _).mono ?_; rintro e w2 ⟨rfl, hb1⟩; have HM1 := hide ((qm_one w 23 b C).below hb1); clear hb1))
    go_ret2
    exact ⟨rfl, HM1.out.bel⟩
def openR (b C who : Int) : Int := if OkR b C then (if who < 0 then 6 else 0) else 60
def OpenRP (w : World) (err : Int) (e : Ending) (w' : World) : Prop :=
  Below w.heap.size w w' ∧ ((err ≠ 0 ∧ e = .returned (.tuple #[.pointer none, .int .i64 err])) ∨ (err = 0 ∧ ∃ h : Nat, e = .returned (.tuple #[.pointer (some ⟨h, 0, none⟩), .int .i64 err])))
set_option maxRecDepth 100000 in
set_option maxHeartbeats 2000000 in
theorem ringOpen_any (b C who : Int) (w : World) : Calls Tryz.prog 29 #[qAgg b C, .int .i64 who] w (OpenRP w (openR b C who)) := by
  have HC := hide (fun w => qCheck_any b C w)
  by_cases h : OkR b C
  · rw [if_pos h] at HC
    unfold openR
    rw [if_pos h]
    unfold qAgg at HC ⊢
    clear h
    by_cases hw : who < 0
    · rw [if_pos hw]
      go_enter Tryz.func29, Tryz.ntmps29
      go_wp2_with (go_at_call 65; refine (HC.out _).mono ?_; rintro e w2 ⟨rfl, hb1⟩; have hm1 := (qm_two w 121 _ b C).below hb1; obtain ⟨s0, s1⟩ := hm1.two; have HM1 := hide hm1; clear hb1 hm1)
      go_ret2
      exact ⟨HM1.out.bel, .inl ⟨by decide, rfl⟩⟩
    · rw [if_neg hw]
      go_enter Tryz.func29, Tryz.ntmps29
      go_wp2_with (go_at_call 65; refine (HC.out _).mono ?_; rintro e w2 ⟨rfl, hb1⟩; have hm1 := (qm_two w 121 _ b C).below hb1; obtain ⟨s0, s1⟩ := hm1.two; have HM1 := hide hm1; clear hb1 hm1)
      go_ret2
      exact ⟨below_alloc HM1.out.bel _, .inr ⟨rfl, _, rfl⟩⟩
  · rw [if_neg h] at HC
    unfold openR
    rw [if_neg h]
    unfold qAgg at HC ⊢
    clear h
    go_enter Tryz.func29, Tryz.ntmps29
    go_wp2_with (go_at_call 65; refine (HC.out _).mono ?_; rintro e w2 ⟨rfl, hb1⟩; have HM1 := hide ((qm_two w 121 _ b C).below hb1); clear hb1)
    go_ret2
    exact ⟨HM1.out.bel, .inl ⟨by decide, rfl⟩⟩
set_option maxRecDepth 100000 in
set_option maxHeartbeats 2000000 in
theorem refOpenR_any (b C who : Int) (w : World) : Calls Tryz.prog 36 #[qAgg b C, .int .i64 who] w (OpenRP w (openR b C who)) := by
  have HC := hide (fun w => valid_any b C w)
  by_cases h : OkR b C
  · rw [decide_eq_true h] at HC
    unfold openR
    rw [if_pos h]
    unfold qAgg at HC ⊢
    clear h
    by_cases hw : who < 0
    · rw [if_pos hw]
      go_enter Tryz.func36, Tryz.ntmps36
      go_wp2_with (go_at_call 73; refine (HC.out _).mono ?_; rintro e w2 ⟨rfl, hb1⟩; have hm1 := (qm_one w 23 b C).below hb1; obtain ⟨s0, s1⟩ := hm1.two; have HM1 := hide hm1; clear hb1 hm1)
      go_ret2
      exact ⟨HM1.out.bel, .inl ⟨by decide, rfl⟩⟩
    · rw [if_neg hw]
      go_enter Tryz.func36, Tryz.ntmps36
      go_wp2_with (go_at_call 73; refine (HC.out _).mono ?_; rintro e w2 ⟨rfl, hb1⟩; have hm1 := (qm_one w 23 b C).below hb1; obtain ⟨s0, s1⟩ := hm1.two; have HM1 := hide hm1; clear hb1 hm1)
      go_ret2
      exact ⟨below_alloc HM1.out.bel _, .inr ⟨rfl, _, rfl⟩⟩
  · rw [decide_eq_false h] at HC
    unfold openR
    rw [if_neg h]
    unfold qAgg at HC ⊢
    clear h
    go_enter Tryz.func36, Tryz.ntmps36
    go_wp2_with (go_at_call 73; refine (HC.out _).mono ?_; rintro e w2 ⟨rfl, hb1⟩; have HM1 := hide ((qm_one w 23 b C).below hb1); clear hb1)
    go_ret2
    exact ⟨HM1.out.bel, .inl ⟨by decide, rfl⟩⟩
end Go.Proofs.YtgjdjdgondpjeaaGreat
