/- Extend, the program's and the reference's: kinds 1 to 4, labels that stay below Never. -/
import Derived.Test.YtehlciejhegndaaSmall
import Derived.WalkKit
import Derived.Lib.Walk
import Derived.RegionTactic
import Derived.BigRegion
import Derived.BigQuiet
import Derived.WalkSmall
import Derived.Deep.Draws
namespace Go.Proofs.Ytehlciejhegndaa
open Go.RowKit Go.Lib
set_option linter.unusedVariables false

/-- A label, one edge on. -/
def ext (k l x : Int) : Int :=
  if l = 18446744073709551615 then 18446744073709551615
  else if k = 1 then (if l + x ≤ 18446744073709551614 then l + x else 18446744073709551614)
  else if k = 2 then (if l + 1 ≤ 18446744073709551614 then l + 1 else 18446744073709551614)
  else if k = 3 then (if l ≤ x then (if x ≤ 18446744073709551614 then x else 18446744073709551614) else l)
  else l
def kindNo (k : Int) : Int := if 1 ≤ k ∧ k ≤ 4 then 0 else 50
theorem ext_bound {k l x : Int} (h0 : 0 ≤ l) (h1 : l ≤ 18446744073709551615) (h2 : 0 ≤ x) (h3 : x ≤ 18446744073709551615) : 0 ≤ ext k l x ∧ ext k l x ≤ 18446744073709551615 := by
  unfold ext; repeat' split
  all_goals omega
theorem ext_ge {k l x : Int} (h1 : l ≤ 18446744073709551615) (h2 : 0 ≤ x) : l ≤ ext k l x := by
  unfold ext; repeat' split
  all_goals omega
theorem ext_mono {k l m x : Int} (hm : m ≤ 18446744073709551615) (h : l ≤ m) (h2 : 0 ≤ x) : ext k l x ≤ ext k m x := by
  unfold ext; repeat' split
  all_goals omega

set_option maxRecDepth 100000 in
theorem plus_any (l x : Int) (w : World) (h0 : 0 ≤ l) (h1 : l ≤ 18446744073709551614) (h2 : 0 ≤ x) (h3 : x ≤ 18446744073709551615) :
    Calls Try.prog 103 #[.int .u64 l, .int .u64 x] w fun e w' => e = .returned (.int .u64 (if l + x ≤ 18446744073709551614 then l + x else 18446744073709551614)) ∧ w' = w := by
  by_cases h : l + x ≤ 18446744073709551614
  · rw [if_pos h]
    go_enter Try.func103, Try.ntmps103
    go_wp2
    all_goals first
      | (exfalso; omega)
      | (go_ret; exact ⟨rfl, rfl⟩)
  · rw [if_neg h]
    go_enter Try.func103, Try.ntmps103
    go_wp2
    all_goals first
      | (exfalso; omega)
      | (go_ret; exact ⟨rfl, rfl⟩)

set_option maxRecDepth 100000 in
theorem kind_any (k : Int) (w : World) : Calls Try.prog 101 #[.int .i64 k] w fun e w' => e = .returned (.int .i64 (kindNo k)) ∧ w' = w := by
  unfold kindNo
  by_cases h : 1 ≤ k ∧ k ≤ 4
  · rw [if_pos h]
    have hh : k = 1 ∨ k = 2 ∨ k = 3 ∨ k = 4 := by omega
    clear h
    rcases hh with rfl | rfl | rfl | rfl
    all_goals
      go_enter Try.func101, Try.ntmps101
      go_wp2
      go_ret
      exact ⟨rfl, rfl⟩
  · rw [if_neg h]
    have e1 : (k == 1) = false := by simp; omega
    have e2 : (k == 2) = false := by simp; omega
    have e3 : (k == 3) = false := by simp; omega
    have e4 : (k == 4) = false := by simp; omega
    clear h
    go_enter Try.func101, Try.ntmps101
    go_wp2
    all_goals first
      | (exfalso; simp_all; done)
      | (go_ret; exact ⟨rfl, rfl⟩)

end Go.Proofs.Ytehlciejhegndaa
