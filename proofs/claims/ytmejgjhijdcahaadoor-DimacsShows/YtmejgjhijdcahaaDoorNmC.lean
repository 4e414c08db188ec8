/- The reference's Decimal, any number. -/
import Derived.Test.YtmejgjhijdcahaaDoorNmB
namespace Go.Proofs.YtmejgjhijdcahaaDoor
open Go.Shelf Go.RowKit Go.Sort Go.Lib
set_option linter.unusedVariables false
set_option linter.unusedSimpArgs false
theorem wrap_quo {a : Int} (h0 : 0 ≤ a) (h1 : a < 18446744073709551616) : IntKind.u64.wrap (a.tdiv 10) = a / 10 := by
  rw [Int.tdiv_eq_ediv_of_nonneg h0, IntKind.wrap_u64]; omega
theorem wrap_rem {a : Int} (h0 : 0 ≤ a) (h1 : a < 18446744073709551616) : IntKind.u64.wrap (a.tmod 10) = a % 10 := by
  rw [Int.tmod_eq_emod_of_nonneg h0, IntKind.wrap_u64]; omega
set_option maxRecDepth 100000 in
set_option maxHeartbeats 1000000 in
theorem rdec_step (u : Nat) (hu : ¬ u < 10) (hu64 : u < 18446744073709551616) (w : World) (ih : Calls Tryd.prog 26 #[.int .u64 ((u / 10 : Nat) : Int)] w fun e w' => e = .returned (.string ⟨(Lib.decDigits (u / 10)).toArray⟩) ∧ w' = w) :
    Calls Tryd.prog 26 #[.int .u64 u] w fun e w' => e = .returned (.string ⟨(Lib.decDigits u).toArray⟩) ∧ w' = w := by
  have H1 := hide ih
  have H2 := hide (rdec_small (u % 10) (by omega) w)
  obtain ⟨a, ha⟩ : ∃ a : Int, a = (u : Int) := ⟨_, rfl⟩
  have e1 : ((u / 10 : Nat) : Int) = a / 10 := by rw [ha]; omega
  have e2 : ((u % 10 : Nat) : Int) = a % 10 := by rw [ha]; omega
  rw [e1] at H1
  rw [e2] at H2
  rw [dec_big hu, ← ha]
  have hi : ¬ a < 10 := by omega
  have q1 := wrap_quo (a := a) (by omega) (by omega)
  have q2 := wrap_rem (a := a) (by omega) (by omega)
  have hlen : ¬ 9223372036854775807 < (Lib.decDigits (u / 10)).length + (Lib.decDigits (u % 10)).length := by
    have h1 : Lib.nDigits (u / 10) ≤ 20 := by have := Lib.numDigits_eq (u / 10) (by omega) (by omega); split at this <;> omega
    rw [dec_small (u := u % 10) (by omega), Lib.decDigits_length]
    simp only [List.length_cons, List.length_nil]
    omega
  obtain ⟨d1, hd1⟩ : ∃ d1, d1 = Lib.decDigits (u / 10) := ⟨_, rfl⟩
  obtain ⟨d2, hd2⟩ : ∃ d2, d2 = Lib.decDigits (u % 10) := ⟨_, rfl⟩
  rw [← hd1] at H1
  rw [← hd2] at H2
  rw [← hd1, ← hd2] at hlen
  rw [← hd1, ← hd2]
  obtain ⟨A1, hA1⟩ : ∃ A1, A1 = a / 10 := ⟨_, rfl⟩
  rw [← hA1] at H1 q1
  clear ih e1 e2 ha hu hu64 hd1 hd2 hA1 q2
  have st := hide True.intro
  go_enter Tryd.func26, Tryd.ntmps26
  go_wp2_with (first
    | (go_at_call 26; clear st; refine H1.out.mono ?_; rintro e w' ⟨rfl, rfl⟩)
    | (go_at_call 26; refine H2.out.mono ?_; rintro e w' ⟨rfl, rfl⟩)
    | fail)
  go_ret
  refine ⟨?_, rfl⟩
  have hba : (⟨d1.toArray⟩ : ByteArray) ++ ⟨d2.toArray⟩ = ⟨(d1 ++ d2).toArray⟩ := by
    apply ByteArray.ext
    simp
  rw [hba]
  rfl
theorem rdec_any (u : Nat) (hu64 : u < 18446744073709551616) (w : World) :
    Calls Tryd.prog 26 #[.int .u64 u] w fun e w' => e = .returned (.string ⟨(Lib.decDigits u).toArray⟩) ∧ w' = w := by
  induction u using Nat.strongRecOn with
  | _ u ih =>
    by_cases hu : u < 10
    · exact rdec_small u hu w
    · exact rdec_step u hu hu64 w (ih (u / 10) (by omega) (by omega))
end Go.Proofs.YtmejgjhijdcahaaDoor
