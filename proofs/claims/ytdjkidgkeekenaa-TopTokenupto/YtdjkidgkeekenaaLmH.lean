/- turns; what is left at the end. -/
import Derived.Test.YtdjkidgkeekenaaLmG
import Derived.BigQuiet
namespace Go.Proofs.Ytdjkidgkeekenaa
open Go.RowKit Go.Lib Go.MuLone
set_option linter.unusedVariables false
set_option linter.unusedSimpArgs false
theorem tot_mono (ls : List (List Int)) {i : Nat} : ∀ {n : Nat}, i ≤ n → tot ls i ≤ tot ls n
  | 0, h => by rw [show i = 0 by omega]; exact Nat.le_refl _
  | n + 1, h => by
    by_cases e : i = n + 1
    · subst e; exact Nat.le_refl _
    · have := tot_mono ls (n := n) (show i ≤ n by omega)
      simp only [tot]; omega
section
variable {w wr wr' : World} {X b gc Y Z n lb sb K K' : Nat} {lv lv' vN : Value} {s s' : Ast} {qs rs : Nat → Nat} {sv : Nat → Value} {gs : Nat → Bool} {ds : Nat → Nd} {mv : Nat → Int}
theorem field51_3 (a d : Int) (p q r : Bool) (w : World) : (Instr.field 61 (.agg #[.int .i64 a, .bool p, .bool q, .int .i64 d, .bool r]) 3).run Try.prog w = .ok (.int .i64 d) w := by kernel_rfl
/-- All at the end. -/
structure Rst (n : Nat) (ls : List (List Int)) (aw : List Int) (ds : Nat → Nd) (cs : List Int) : Prop where
  ov : Ov n ds
  c0 : nth cs 0 = 1
  qt : Quiet n ds (nth cs)
  len : cs.length = 4 + n
  sd : ∀ j, j < n → (ds j).sends = rowL ls j
  st : ∀ j, j < n → 0 ≤ (ds j).sent ∧ (ds j).sent ≤ ((rowL ls j).length : Int)
  al : ∀ j, j < n → (j : Int) ∈ aw → (ds j).sent = ((rowL ls j).length : Int)
  bl : sumF (fun j => (ds j).bal) n = 0
  bd : ∀ j, j < n → -1099511627776 ≤ (ds j).bal ∧ (ds j).bal ≤ 1099511627776
  bs : ∀ j, j ≤ n → -70368744177664 ≤ sumF (fun j => (ds j).bal) j ∧ sumF (fun j => (ds j).bal) j ≤ 70368744177664
end
end Go.Proofs.Ytdjkidgkeekenaa
