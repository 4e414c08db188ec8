/- The program's comparison of tasks: cmp.Compare of words, cmp.Or, the closure of task.Sort. -/
import Derived.Test.YtajcoimeeohnoaaSoP
import Derived.Deep.RegionHeld3
import Derived.Sort.Grow
namespace Go.Proofs.Ytajcoimeeohnoaa
open Go.RowKit Go.Lib
set_option linter.unusedVariables false
set_option maxHeartbeats 1000000 in
theorem isNaN_any (x : Int) (w : World) : Calls Try.prog 82 #[.int .u64 x] w fun e w' => e = .returned (.bool false) ∧ w' = w := by
  go_enter Try.func82, Try.ntmps82
  go_wp2_with fail
  go_ret
  simp
set_option maxHeartbeats 1000000 in
theorem cmpU_any (x y : Int) (w : World) : Calls Try.prog 65 #[.int .u64 x, .int .u64 y] w fun e w' => e = .returned (.int .i64 (cmpU x y)) ∧ w' = w := by
  have HN := hide (fun z W => isNaN_any z W)
  go_enter Try.func65, Try.ntmps65
  unfold cmpU
  go_wp2_with (go_at_call 82; refine (HN.out _ _).mono ?_; rintro e w' ⟨rfl, rfl⟩)
  all_goals (try go_ret)
  all_goals simp_all
/-- The first one that isn't 0. -/
def or2 (a b : Int) : Int := if a = 0 then b else a
set_option maxHeartbeats 1000000 in
theorem or_any (a b : Int) (g o : Nat) (w : World) (h0 : w.cell? ⟨g, o, none⟩ = some (.int .i64 a)) (h1 : w.cell? ⟨g, o + 1, none⟩ = some (.int .i64 b)) :
    Calls Try.prog 64 #[.slice (some ⟨g, o, none⟩) 2 2] w fun e w' => e = .returned (.int .i64 (or2 a b)) ∧ w' = w := by
  unfold or2
  by_cases ha : a = 0
  · subst ha
    by_cases hb : b = 0
    · subst hb
      go_enter Try.func64, Try.ntmps64
      go_wp2_with fail
      refine wp_loop_rounds 3 ?_
      rw [rounds_succ]
      go_wp2_with fail
      rw [rounds_succ]
      go_wp2_with fail
      rw [rounds_succ]
      go_wp2_with fail
      go_ret
      simp
    · go_enter Try.func64, Try.ntmps64
      go_wp2_with fail
      refine wp_loop_rounds 3 ?_
      rw [rounds_succ]
      go_wp2_with fail
      rw [rounds_succ]
      go_wp2_with fail
      go_ret
      exact ⟨rfl, rfl⟩
  · go_enter Try.func64, Try.ntmps64
    go_wp2_with fail
    refine wp_loop_rounds 3 ?_
    rw [rounds_succ]
    go_wp2_with fail
    go_ret
    exact ⟨rfl, rfl⟩
set_option maxHeartbeats 1000000 in
theorem clos_any (x y : Tk) (W : World) : Calls Try.prog 63 #[.agg #[.int .u64 x.1, .int .u64 x.2], .agg #[.int .u64 y.1, .int .u64 y.2]] W fun e w' => e = .returned (.int .i64 (tcf x y)) ∧ ∃ q os', w' = Go.Sort.grow (W.drewN q) os' := by
  obtain ⟨x0, x1⟩ := x
  obtain ⟨y0, y1⟩ := y
  have HC := hide (fun a b W => cmpU_any a b W)
  have HO := hide (fun a b g o W h0 h1 => or_any a b g o W h0 h1)
  have e1 : tcf (x0, x1) (y0, y1) = or2 (cmpU x0 y0) (cmpU x1 y1) := rfl
  rw [e1]
  have hT : ∀ (X : World) (a b : Value) (t : TypeId), (X.alloc (.cells #[a, b] t)).drew.cell? ⟨X.heap.size, 0, none⟩ = some a ∧ (X.alloc (.cells #[a, b] t)).drew.cell? ⟨X.heap.size, 0 + 1, none⟩ = some b :=
    fun X a b t => ⟨cell_of (i := 0) (heap_new X (.cells #[a, b] t)) rfl, cell_of (i := 1) (heap_new X (.cells #[a, b] t)) rfl⟩
  have HT := hide hT
  clear hT
  have HA := hide (heap_new W (.cells #[.int .u64 x0, .int .u64 x1] 34))
  have HB := hide (heap_new (W.alloc (.cells #[.int .u64 x0, .int .u64 x1] 34)) (.cells #[.int .u64 y0, .int .u64 y1] 34))
  have hb2 := below_alloc (Below.refl (W.alloc (.cells #[.int .u64 x0, .int .u64 x1] 34)).heap.size (W.alloc (.cells #[.int .u64 x0, .int .u64 x1] 34))) (.cells #[.int .u64 y0, .int .u64 y1] 34)
  have hA2 := (hb2.block W.heap.size (by simp)).trans HA.out
  have hs1 : (W.alloc (.cells #[.int .u64 x0, .int .u64 x1] 34)).heap.size = W.heap.size + 1 := by simp
  have hB2 := HB.out
  rw [hs1] at hB2
  go_enter Try.func63, Try.ntmps63
  go_wp2_with fail
  clear hb2
  have hG : (W.alloc (.cells #[.int .u64 x0, .int .u64 x1] 34)).alloc (.cells #[.int .u64 y0, .int .u64 y1] 34) = Go.Sort.grow W (#[.cells #[.int .u64 x0, .int .u64 x1] 34] ++ #[.cells #[.int .u64 y0, .int .u64 y1] 34]) := by
    rw [Go.Sort.alloc_eq_grow, Go.Sort.alloc_eq_grow, Go.Sort.grow_grow]
  have HG := hide hG
  clear hG
  generalize ((W.alloc (.cells #[.int .u64 x0, .int .u64 x1] 34)).alloc (.cells #[.int .u64 y0, .int .u64 y1] 34)) = W2 at hA2 hB2 HG ⊢
  have c0 := cell_of (i := 0) hA2 rfl
  have c1 := cell_of (i := 1) hA2 rfl
  have c2 := cell_of (i := 0) hB2 rfl
  have c3 := cell_of (i := 1) hB2 rfl
  clear hA2 hB2 HA HB hs1
  refine wp_region_noPanic ?_
  go_region_held3 (fun x => x.cell? ⟨W.heap.size, 0, none⟩ = some (.int .u64 x0) ∧ x.cell? ⟨W.heap.size, 1, none⟩ = some (.int .u64 x1) ∧ x.cell? ⟨W.heap.size + 1, 0, none⟩ = some (.int .u64 y0) ∧ x.cell? ⟨W.heap.size + 1, 1, none⟩ = some (.int .u64 y1)) (first | go_keep | exact ⟨c0, c1, c2, c3⟩)
    (first
      | (go_at_call 65; refine (HC.out _ _ _).mono ?_; rintro e w' ⟨rfl, rfl⟩)
      | (go_at_call 64; refine (HO.out _ _ _ _ _ (HT.out _ _ _ _).1 (HT.out _ _ _ _).2).mono ?_; rintro e w' ⟨rfl, rfl⟩))
  refine NoPanic.normal ?_
  go_wp2_with fail
  go_ret
  exact ⟨rfl, 1, _, by rw [HG.out, Go.Sort.alloc_eq_grow, Go.Sort.grow_grow]; rfl⟩
end Go.Proofs.Ytajcoimeeohnoaa
