/- RouteExtends: the walk. -/
import Derived.Test.YtcnlkcbipnkbcaaExtWalk
import Derived.Below
namespace Go.Proofs.Ytcnlkcbipnkbcaa
open Go.RowKit Go.Lib
set_option linter.unusedVariables false

set_option maxRecDepth 100000 in
theorem law_any (k l m x : Int) (w : World) (h0 : 0 ≤ l) (h1 : l ≤ 18446744073709551615) (g0 : 0 ≤ m) (g1 : m ≤ 18446744073709551615) (h2 : 0 ≤ x) (h3 : x ≤ 18446744073709551615) :
    Calls Try.prog 3 #[.int .i64 k, .int .u64 l, .int .u64 m, .int .u64 x] w fun e w' => e = .returned (.bool true) ∧ Below w.heap.size w w' := by
  have HA := hide (fun w => extendE_any k l x w h0 h1 h2 h3)
  have HB := hide (fun w => extended_any k l x w h0 h1 h2 h3)
  have HC := hide (fun w => extendE_any k m x w g0 g1 h2 h3)
  unfold extNo at HA HB HC
  by_cases hk : 1 ≤ k ∧ k ≤ 4
  · rw [kindNo_ok hk] at HA HB HC
    rw [if_pos rfl] at HA HB HC
    have b1 := ext_ge (k := k) h1 h2
    have b2 := ext_ge (k := k) g1 h2
    have m1 : l ≤ m → ext k l x ≤ ext k m x := fun h => ext_mono g1 h h2
    have m2 : m ≤ l → ext k m x ≤ ext k l x := fun h => ext_mono h1 h h2
    obtain ⟨E, hE⟩ : ∃ E, E = ext k l x := ⟨_, rfl⟩
    obtain ⟨F, hF⟩ : ∃ F, F = ext k m x := ⟨_, rfl⟩
    rw [← hE] at HA HB b1 m1 m2
    rw [← hF] at HC b2 m1 m2
    clear hE hF hk
    rcases Int.lt_or_le m l with hlm | hlm
    · have m3 := m2 (by omega)
      clear m1 m2
      go_enter Try.func3, Try.ntmps3
      go_wp2_with fail
      refine (HA.out _).mono ?_
      rintro e w' ⟨rfl, rfl⟩
      go_wp2_with fail
      refine (HB.out _).mono ?_
      rintro e w' ⟨rfl, rfl⟩
      go_wp2_with fail
      refine (HC.out _).mono ?_
      rintro e w' ⟨rfl, rfl⟩
      go_wp2
      all_goals first
        | (exfalso; omega)
        | (go_ret; exact ⟨rfl, Below.refl _ _⟩)
        | (go_ret; exact ⟨by simp; omega, Below.refl _ _⟩)
    · have m3 := m1 (by omega)
      clear m1 m2
      go_enter Try.func3, Try.ntmps3
      go_wp2_with fail
      refine (HA.out _).mono ?_
      rintro e w' ⟨rfl, rfl⟩
      go_wp2_with fail
      refine (HB.out _).mono ?_
      rintro e w' ⟨rfl, rfl⟩
      go_wp2_with fail
      refine (HC.out _).mono ?_
      rintro e w' ⟨rfl, rfl⟩
      go_wp2
      all_goals first
        | (exfalso; omega)
        | (go_ret; exact ⟨rfl, Below.refl _ _⟩)
        | (go_ret; exact ⟨by simp; omega, Below.refl _ _⟩)
  · rw [kindNo_bad hk] at HA HB HC
    rw [if_neg (by omega)] at HA HB HC
    clear hk
    go_enter Try.func3, Try.ntmps3
    go_wp2_with fail
    refine (HA.out _).mono ?_
    rintro e w' ⟨rfl, rfl⟩
    go_wp2_with fail
    refine (HB.out _).mono ?_
    rintro e w' ⟨rfl, rfl⟩
    go_wp2_with fail
    refine (HC.out _).mono ?_
    rintro e w' ⟨rfl, rfl⟩
    go_wp2
    go_ret
    exact ⟨rfl, Below.refl _ _⟩
end Go.Proofs.Ytcnlkcbipnkbcaa
