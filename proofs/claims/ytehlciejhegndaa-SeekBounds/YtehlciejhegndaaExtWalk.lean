/- Extend, the program's and the reference's, and the law. -/
import Derived.Test.YtehlciejhegndaaExt
namespace Go.Proofs.Ytehlciejhegndaa
open Go.RowKit Go.Lib
set_option linter.unusedVariables false

set_option maxRecDepth 100000 in
theorem extend_any (k l x : Int) (w : World) (h0 : 0 ≤ l) (h1 : l ≤ 18446744073709551615) (h2 : 0 ≤ x) (h3 : x ≤ 18446744073709551615) :
    Calls Try.prog 57 #[.int .i64 k, .int .u64 l, .int .u64 x] w fun e w' => e = .returned (.int .u64 (ext k l x)) ∧ w' = w := by
  by_cases hl : l = 18446744073709551615
  · subst hl
    unfold ext; rw [if_pos rfl]
    go_enter Try.func57, Try.ntmps57
    go_wp2
    go_ret
    exact ⟨rfl, rfl⟩
  · have e0 : (l == 18446744073709551615) = false := by simp; omega
    by_cases k1 : k = 1
    · subst k1
      have HP := hide (fun w => plus_any l x w h0 (by omega) h2 h3)
      unfold ext; rw [if_neg hl, if_pos rfl]
      clear hl
      go_enter Try.func57, Try.ntmps57
      go_wp2_with fail
      refine (HP.out _).mono ?_
      rintro e w' ⟨rfl, rfl⟩
      go_wp2
      all_goals (go_ret; exact ⟨rfl, rfl⟩)
    · by_cases k2 : k = 2
      · subst k2
        have HP := hide (fun w => plus_any l 1 w h0 (by omega) (by omega) (by omega))
        unfold ext; rw [if_neg hl, if_neg (by omega), if_pos rfl]
        clear hl k1
        go_enter Try.func57, Try.ntmps57
        go_wp2_with fail
        refine (HP.out _).mono ?_
        rintro e w' ⟨rfl, rfl⟩
        go_wp2
        all_goals (go_ret; exact ⟨rfl, rfl⟩)
      · by_cases k3 : k = 3
        · subst k3
          unfold ext; rw [if_neg hl, if_neg (by omega), if_neg (by omega), if_pos rfl]
          clear k1 k2
          go_enter Try.func57, Try.ntmps57
          go_wp2
          all_goals
            go_ret
            refine ⟨?_, rfl⟩
            show Ending.returned (Value.int .u64 _) = Ending.returned (Value.int .u64 _)
            congr 2
            repeat' split
            all_goals omega
        · have e1 : (k == 1) = false := by simp; omega
          have e2 : (k == 2) = false := by simp; omega
          have e3 : (k == 3) = false := by simp; omega
          unfold ext; rw [if_neg hl, if_neg k1, if_neg k2, if_neg k3]
          clear hl k1 k2 k3
          go_enter Try.func57, Try.ntmps57
          go_wp2
          all_goals first
            | (exfalso; simp_all; done)
            | (go_ret; exact ⟨rfl, rfl⟩)

set_option maxRecDepth 100000 in
theorem refExtend_any (k l x : Int) (w : World) (h0 : 0 ≤ l) (h1 : l ≤ 18446744073709551615) (h2 : 0 ≤ x) (h3 : x ≤ 18446744073709551615) :
    Calls Try.prog 86 #[.int .i64 k, .int .u64 l, .int .u64 x] w fun e w' => e = .returned (.int .u64 (ext k l x)) ∧ w' = w := by
  by_cases hl : l = 18446744073709551615
  · subst hl
    unfold ext; rw [if_pos rfl]
    go_enter Try.func86, Try.ntmps86
    go_wp2
    go_ret
    exact ⟨rfl, rfl⟩
  · have e0 : (l == 18446744073709551615) = false := by simp; omega
    by_cases k1 : k = 1
    · subst k1
      unfold ext; rw [if_neg hl, if_pos rfl]
      by_cases hx : l + x ≤ 18446744073709551615
      · go_enter Try.func86, Try.ntmps86
        go_wp2
        all_goals first
          | (exfalso; omega)
          | (go_ret
             refine ⟨?_, rfl⟩
             show Ending.returned (Value.int .u64 _) = Ending.returned (Value.int .u64 _)
             congr 2
             repeat' split
             all_goals first | omega | (simp only [beq_eq_false_iff_ne, ne_eq, beq_iff_eq] at *; omega))
      · have hw : IntKind.u64.wrap (l + x) = l + x - 18446744073709551616 := by
          simp [IntKind.wrap, IntKind.bits, IntKind.signed]; omega
        go_enter Try.func86, Try.ntmps86
        go_wp2
        all_goals first
          | (exfalso; omega)
          | (go_ret
             refine ⟨?_, rfl⟩
             show Ending.returned (Value.int .u64 _) = Ending.returned (Value.int .u64 _)
             congr 2
             repeat' split
             all_goals first | omega | (simp only [beq_eq_false_iff_ne, ne_eq, beq_iff_eq] at *; omega))
    · by_cases k2 : k = 2
      · subst k2
        unfold ext; rw [if_neg hl, if_neg (by omega), if_pos rfl]
        clear k1
        go_enter Try.func86, Try.ntmps86
        go_wp2
        all_goals first
          | (exfalso; omega)
          | (go_ret
             refine ⟨?_, rfl⟩
             show Ending.returned (Value.int .u64 _) = Ending.returned (Value.int .u64 _)
             congr 2
             repeat' split
             all_goals first | omega | (simp only [beq_eq_false_iff_ne, ne_eq, beq_iff_eq] at *; omega))
      · by_cases k3 : k = 3
        · subst k3
          unfold ext; rw [if_neg hl, if_neg (by omega), if_neg (by omega), if_pos rfl]
          clear k1 k2
          go_enter Try.func86, Try.ntmps86
          go_wp2
          all_goals first
            | (exfalso; omega)
            | (go_ret
               refine ⟨?_, rfl⟩
               show Ending.returned (Value.int .u64 _) = Ending.returned (Value.int .u64 _)
               congr 2
               repeat' split
               all_goals first | omega | (simp only [beq_eq_false_iff_ne, ne_eq, beq_iff_eq] at *; omega))
        · have e1 : (k == 1) = false := by simp; omega
          have e2 : (k == 2) = false := by simp; omega
          have e3 : (k == 3) = false := by simp; omega
          unfold ext; rw [if_neg hl, if_neg k1, if_neg k2, if_neg k3]
          clear hl k1 k2 k3
          go_enter Try.func86, Try.ntmps86
          go_wp2
          all_goals first
            | (exfalso; simp_all; done)
            | (go_ret; exact ⟨rfl, rfl⟩)

/-- Extend's answer, of any kind. -/
def extNo (k l x : Int) : Int := if kindNo k = 0 then ext k l x else 0
theorem kindNo_ok {k : Int} (h : 1 ≤ k ∧ k ≤ 4) : kindNo k = 0 := if_pos h
theorem kindNo_bad {k : Int} (h : ¬ (1 ≤ k ∧ k ≤ 4)) : kindNo k = 50 := if_neg h
end Go.Proofs.Ytehlciejhegndaa
