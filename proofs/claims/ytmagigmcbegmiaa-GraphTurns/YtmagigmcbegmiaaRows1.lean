/- sizesFit, isVertex, lookOver, wrongRow. -/
import Derived.Test.YtmagigmcbegmiaaSmall
import Derived.Test.YtmagigmcbegmiaaPlain
namespace Go.Proofs.Ytmagigmcbegmiaa
open Go.RowKit Go.Lib

def SaysIs (w : World) (P : Prop) (e : Ending) (w' : World) : Prop := ∃ b : Bool, e = .returned (.bool b) ∧ (b = true ↔ P) ∧ w' = w
theorem SaysIs.is {w w' : World} {P : Prop} [Decidable P] {e : Ending} (h : SaysIs w P e w') : e = .returned (.bool (decide P)) ∧ w' = w := by
  obtain ⟨b, rfl, hb, rfl⟩ := h
  refine ⟨?_, rfl⟩
  by_cases hp : P
  · rw [decide_eq_true hp, hb.2 hp]
  · rw [decide_eq_false hp]
    cases b
    · rfl
    · exact absurd (hb.1 rfl) hp
def FitsI (n m : Int) : Prop := 0 ≤ n ∧ n ≤ 1048576 ∧ m ≤ 4194304
instance (n m : Int) : Decidable (FitsI n m) := by unfold FitsI; infer_instance
set_option maxRecDepth 100000 in
theorem fits_says (n m : Int) (w : World) : Calls Try.prog 43 #[.int .i64 n, .int .i64 m] w (SaysIs w (FitsI n m)) := by
  go_enter Try.func43, Try.ntmps43
  go_wp2
  all_goals
    go_ret
    refine ⟨_, rfl, ?_, rfl⟩
    simp [FitsI]
    try omega
theorem fits_any (n m : Int) (w : World) : Calls Try.prog 43 #[.int .i64 n, .int .i64 m] w fun e w' => e = .returned (.bool (decide (FitsI n m))) ∧ w' = w := (fits_says n m w).mono fun _ _ h => h.is
set_option maxRecDepth 100000 in
theorem isV_says (n v : Int) (w : World) : Calls Try.prog 49 #[.int .i64 n, .int .i64 v] w (SaysIs w (IsV n v)) := by
  go_enter Try.func49, Try.ntmps49
  go_wp2
  all_goals
    go_ret
    refine ⟨_, rfl, ?_, rfl⟩
    simp [IsV]
    try omega
theorem isV_any (n v : Int) (w : World) : Calls Try.prog 49 #[.int .i64 n, .int .i64 v] w fun e w' => e = .returned (.bool (decide (IsV n v))) ∧ w' = w := (isV_says n v w).mono fun _ _ h => h.is
set_option maxRecDepth 100000 in
theorem look_any (n v x : Int) (w : World) : Calls Try.prog 45 #[.int .i64 n, .int .i64 v, .int .u64 x] w fun e w' => e = .returned (.int .i64 (edgeNo n v x)) ∧ w' = w := by
  have hh := isV_any n v w
  by_cases h : IsV n v
  · rw [decide_eq_true h] at hh
    have H := hide hh
    by_cases h2 : 4294967295 < x
    · have e1 : edgeNo n v x = 31 := by unfold edgeNo; rw [if_pos h, if_pos h2]
      rw [e1]
      clear h e1 hh
      go_enter Try.func45, Try.ntmps45
      go_wp2_with fail
      refine H.out.mono ?_
      rintro e w' ⟨rfl, rfl⟩
      go_wp2
      go_ret
      exact ⟨rfl, rfl⟩
    · have e1 : edgeNo n v x = 0 := by unfold edgeNo; rw [if_pos h, if_neg h2]
      rw [e1]
      clear h e1 hh
      go_enter Try.func45, Try.ntmps45
      go_wp2_with fail
      refine H.out.mono ?_
      rintro e w' ⟨rfl, rfl⟩
      go_wp2
      go_ret
      exact ⟨rfl, rfl⟩
  · rw [decide_eq_false h] at hh
    have H := hide hh
    have e1 : edgeNo n v x = 30 := by unfold edgeNo; rw [if_neg h]
    rw [e1]
    clear h e1 hh
    go_enter Try.func45, Try.ntmps45
    go_wp2_with fail
    refine H.out.mono ?_
    rintro e w' ⟨rfl, rfl⟩
    go_wp2
    go_ret
    exact ⟨rfl, rfl⟩
end Go.Proofs.Ytmagigmcbegmiaa
