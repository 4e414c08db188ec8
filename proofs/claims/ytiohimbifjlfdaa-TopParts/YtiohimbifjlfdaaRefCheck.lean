/- The reference's Check. -/
import Derived.Test.YtiohimbifjlfdaaCheck
namespace Go.Proofs.Ytiohimbifjlfdaa
open Go.RowKit Go.Lib
set_option linter.unusedVariables false

theorem fits_parts {N : Int} {m : Nat} (h : ¬ FitsI N m) : N < 0 ∨ 1048576 < N ∨ 4194304 < m := by
  unfold FitsI at h; omega

/-- What BadRow says, as the reference asks it. -/
theorem bad_iff {N m i : Nat} {st : List Int} (h0 : 0 ≤ ahead st i) : BadRow N m st i ↔ (at_ st i < 0 ∨ (m : Int) < at_ st i ∨ (i = 0 ∧ at_ st i ≠ 0) ∨ (0 < i ∧ at_ st i < ahead st i) ∨ (i = N ∧ at_ st i ≠ m)) := by
  unfold BadRow
  rcases Nat.eq_zero_or_pos i with h | h
  · subst h
    have : ahead st 0 = 0 := rfl
    omega
  · omega
theorem ahead_nonneg {N m i : Nat} {st : List Int} (h : ∀ j, j < i → ¬ BadRow N m st j) : 0 ≤ ahead st i := by
  induction i with
  | zero => simp [ahead]
  | succ i ih =>
    have h1 := ih (fun j hj => h j (by omega))
    have h2 := h i (by omega)
    unfold BadRow at h2
    have h3 : ahead st (i + 1) = at_ st i := by unfold ahead; rw [if_neg (by omega)]; rfl
    omega

theorem good_next {n m i : Nat} {st : List Int} {w1 w2 : World} {C : Prop} (HBI : Hid (BadRow n m st i ↔ C)) (HALL : Hid (∀ j, j < i → ¬ BadRow n m st j)) (hC : ¬ C) (hi : i < n + 1) (hw : ∃ k, w2 = w1.drewN k) :
    ∃ i' : Nat, i' ≤ n + 1 ∧ Value.int .i64 ((i : Int) + 1) = .int .i64 i' ∧ (∃ k, w2 = w1.drewN k) ∧ ∀ j, j < i' → ¬ BadRow n m st j := by
  refine ⟨i + 1, by omega, by simp, hw, fun j hj => ?_⟩
  rcases Nat.lt_or_ge j i with h | h
  · exact HALL.out j h
  · obtain rfl : j = i := by omega
    exact fun hb => hC (HBI.out.1 hb)

end Go.Proofs.Ytiohimbifjlfdaa
