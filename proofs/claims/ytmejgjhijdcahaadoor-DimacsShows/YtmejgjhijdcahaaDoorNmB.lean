/- The reference's Decimal. -/
import Derived.Test.YtmejgjhijdcahaaDoorBd
import Derived.Laws.DeepStrings4
namespace Go.Proofs.YtmejgjhijdcahaaDoor
open Go.Shelf Go.RowKit Go.Sort Go.Lib
set_option linter.unusedVariables false
set_option linter.unusedSimpArgs false
theorem dec_small {u : Nat} (hu : u < 10) : Lib.decDigits u = [UInt8.ofNat (48 + u)] := by rw [Lib.decDigits, dif_pos hu]
theorem dec_big {u : Nat} (hu : ¬ u < 10) : Lib.decDigits u = Lib.decDigits (u / 10) ++ Lib.decDigits (u % 10) := by
  rw [dec_small (u := u % 10) (by omega)]
  conv => lhs; rw [Lib.decDigits, dif_neg hu]
theorem slice_digit (u : Nat) (hu : u < 10) (w : World) : (Instr.slice 9 (.string ⟨#[48, 49, 50, 51, 52, 53, 54, 55, 56, 57]⟩) (some (.int .u64 (u : Int))) (some (.int .u64 ((u : Int) + 1))) none).run Tryd.prog w = .ok (.string ⟨(Lib.decDigits u).toArray⟩) w := by
  rw [dec_small hu, run_slice_string_if w 9 _ .u64 .u64 _ _ Tryd.underlying9]
  have h : u = 0 ∨ u = 1 ∨ u = 2 ∨ u = 3 ∨ u = 4 ∨ u = 5 ∨ u = 6 ∨ u = 7 ∨ u = 8 ∨ u = 9 := by omega
  rcases h with rfl | rfl | rfl | rfl | rfl | rfl | rfl | rfl | rfl | rfl
  all_goals rw [if_pos (by decide), if_pos (by decide)]
  all_goals rfl
set_option maxRecDepth 100000 in
theorem rdec_small (u : Nat) (hu : u < 10) (w : World) :
    Calls Tryd.prog 26 #[.int .u64 u] w fun e w' => e = .returned (.string ⟨(Lib.decDigits u).toArray⟩) ∧ w' = w := by
  have hi : (u : Int) < 10 := by omega
  have hsl := slice_digit u hu w
  go_enter Tryd.func26, Tryd.ntmps26
  go_wp2
  go_ret
  exact ⟨rfl, rfl⟩
end Go.Proofs.YtmejgjhijdcahaaDoor
