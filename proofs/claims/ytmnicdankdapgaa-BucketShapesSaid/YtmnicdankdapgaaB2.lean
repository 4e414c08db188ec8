/- bucket: where things stand; the stack of a task; lay. -/
import Derived.Test.YtmnicdankdapgaaB1
namespace Go.Proofs.Ytmnicdankdapgaa
open Go.RowKit Go.Lib
set_option linter.unusedVariables false
theorem stkB_le {S C v : Int} (h2 : S ≤ 1024) (h3 : 1 ≤ C) (h4 : C ≤ 65536) (v1 : 0 ≤ v) (v2 : v < S) : 0 ≤ v * (2 + 2 * C) ∧ v * (2 + 2 * C) ≤ 134088702 := by
  constructor
  · exact Int.mul_nonneg v1 (by omega)
  · have := Int.mul_le_mul (show v ≤ 1023 by omega) (show 2 + 2 * C ≤ 131074 by omega) (by omega) (by omega)
    omega
set_option maxRecDepth 100000 in
theorem lockCell_any (b W S C D v : Int) (w : World) (hb1 : 0 ≤ b) (hb2 : b ≤ 16777216) (h2 : S ≤ 1024) (h3 : 1 ≤ C) (h4 : C ≤ 65536) (v1 : 0 ≤ v) (v2 : v < S) :
    Calls Try.prog 78 #[bAgg b W S C D, .int .i64 v] w fun e w' => e = .returned (.int .i64 (b + v * (2 + 2 * C))) ∧ Below w.heap.size w w' := by
  have HI := hide (fun w => inStack_any b W S C D w h3 h4)
  unfold bAgg at HI ⊢
  obtain ⟨p1, p2⟩ := stkB_le h2 h3 h4 v1 v2
  obtain ⟨c0, c1, c2, c3, c4, hb⟩ := box5 w (.int .i64 b) (.int .i64 W) (.int .i64 S) (.int .i64 C) (.int .u64 D) 108
  have x0 := gw_cell c0; have x1 := gw_cell c1; have x2 := gw_cell c2; have x3 := gw_cell c3; have x4 := gw_cell c4
  have HB := hide hb
  clear c0 c1 c2 c3 c4 hb
  go_enter Try.func78, Try.ntmps78
  go_wp2_with fail
  refine wp_region_gw (by kernel_rfl) (by kernel_rfl) ?_
  repeat (go_big_quiet_step (first
    | (go_at_call 71; exact gw_of (HI.out _))
    | rfl))
  refine wpQuiet_nil ?_
  intro _ hw'
  obtain ⟨x, hw''⟩ := hw'
  subst hw''
  go_wp2
  go_ret
  exact ⟨rfl, below_on HB.out x.bel⟩
set_option maxRecDepth 100000 in
theorem sizeCell_any (b W S C D v : Int) (w : World) (hb1 : 0 ≤ b) (hb2 : b ≤ 16777216) (h2 : S ≤ 1024) (h3 : 1 ≤ C) (h4 : C ≤ 65536) (v1 : 0 ≤ v) (v2 : v < S) :
    Calls Try.prog 74 #[bAgg b W S C D, .int .i64 v] w fun e w' => e = .returned (.int .i64 (b + v * (2 + 2 * C) + 1)) ∧ Below w.heap.size w w' := by
  obtain ⟨p1, p2⟩ := stkB_le h2 h3 h4 v1 v2
  have HS := hide (fun w => lockCell_any b W S C D v w hb1 hb2 h2 h3 h4 v1 v2)
  unfold bAgg at HS ⊢
  go_enter Try.func74, Try.ntmps74
  go_wp2_with (go_at_call 78; refine (HS.out _).mono ?_; rintro e w2 ⟨rfl, hbel⟩)
  go_ret
  exact ⟨rfl, below_on ((Below.refl _ _).alloc (Nat.le_refl _) _) hbel⟩
set_option maxRecDepth 100000 in
theorem keyCellB_any (b W S C D v j : Int) (w : World) (hb1 : 0 ≤ b) (hb2 : b ≤ 16777216) (h2 : S ≤ 1024) (h3 : 1 ≤ C) (h4 : C ≤ 65536) (v1 : 0 ≤ v) (v2 : v < S) (j1 : 0 ≤ j) (j2 : j ≤ 65536) :
    Calls Try.prog 75 #[bAgg b W S C D, .int .i64 v, .int .i64 j] w fun e w' => e = .returned (.int .i64 (b + v * (2 + 2 * C) + 2 + 2 * j)) ∧ Below w.heap.size w w' := by
  obtain ⟨p1, p2⟩ := stkB_le h2 h3 h4 v1 v2
  have HS := hide (fun w => lockCell_any b W S C D v w hb1 hb2 h2 h3 h4 v1 v2)
  unfold bAgg at HS ⊢
  go_enter Try.func75, Try.ntmps75
  go_wp2_with (go_at_call 78; refine (HS.out _).mono ?_; rintro e w2 ⟨rfl, hbel⟩)
  go_ret
  exact ⟨rfl, below_on ((Below.refl _ _).alloc (Nat.le_refl _) _) hbel⟩
set_option maxRecDepth 100000 in
theorem loadCellB_any (b W S C D v j : Int) (w : World) (hb1 : 0 ≤ b) (hb2 : b ≤ 16777216) (h2 : S ≤ 1024) (h3 : 1 ≤ C) (h4 : C ≤ 65536) (v1 : 0 ≤ v) (v2 : v < S) (j1 : 0 ≤ j) (j2 : j ≤ 65536) :
    Calls Try.prog 76 #[bAgg b W S C D, .int .i64 v, .int .i64 j] w fun e w' => e = .returned (.int .i64 (b + v * (2 + 2 * C) + 2 + 2 * j + 1)) ∧ Below w.heap.size w w' := by
  obtain ⟨p1, p2⟩ := stkB_le h2 h3 h4 v1 v2
  have HS := hide (fun w => keyCellB_any b W S C D v j w hb1 hb2 h2 h3 h4 v1 v2 j1 j2)
  unfold bAgg at HS ⊢
  go_enter Try.func76, Try.ntmps76
  go_wp2_with (go_at_call 75; refine (HS.out _).mono ?_; rintro e w2 ⟨rfl, hbel⟩)
  go_ret
  exact ⟨rfl, below_on ((Below.refl _ _).alloc (Nat.le_refl _) _) hbel⟩
set_option maxRecDepth 100000 in
theorem stackB_any (b W S C D v : Int) (w : World) (hb1 : 0 ≤ b) (hb2 : b ≤ 16777216) (h2 : S ≤ 1024) (h3 : 1 ≤ C) (h4 : C ≤ 65536) (v1 : 0 ≤ v) (v2 : v < S) :
    Calls Try.prog 64 #[bAgg b W S C D, .int .i64 v] w fun e w' => e = .returned (.int .i64 (b + v * (2 + 2 * C))) ∧ Below w.heap.size w w' := by
  obtain ⟨p1, p2⟩ := stkB_le h2 h3 h4 v1 v2
  unfold bAgg
  go_enter Try.func64, Try.ntmps64
  go_wp2
  go_ret
  exact ⟨rfl, (Below.refl _ _).alloc (Nat.le_refl _) _⟩
set_option maxRecDepth 100000 in
theorem keyB_any (b W S C D v j : Int) (w : World) (hb1 : 0 ≤ b) (hb2 : b ≤ 16777216) (h2 : S ≤ 1024) (h3 : 1 ≤ C) (h4 : C ≤ 65536) (v1 : 0 ≤ v) (v2 : v < S) (j1 : 0 ≤ j) (j2 : j ≤ 65536) :
    Calls Try.prog 65 #[bAgg b W S C D, .int .i64 v, .int .i64 j] w fun e w' => e = .returned (.int .i64 (b + v * (2 + 2 * C) + 2 + 2 * j)) ∧ Below w.heap.size w w' := by
  obtain ⟨p1, p2⟩ := stkB_le h2 h3 h4 v1 v2
  have HS := hide (fun w => stackB_any b W S C D v w hb1 hb2 h2 h3 h4 v1 v2)
  unfold bAgg at HS ⊢
  go_enter Try.func65, Try.ntmps65
  go_wp2_with (go_at_call 64; refine (HS.out _).mono ?_; rintro e w2 ⟨rfl, hbel⟩)
  go_ret
  exact ⟨rfl, below_on ((Below.refl _ _).alloc (Nat.le_refl _) _) hbel⟩
/-- The stack of a key. -/
def stk (S D : Int) (x : Int) : Nat := (x / D % S).toNat
theorem stk_is {S D x : Int} (h1 : 1 ≤ S) : ((stk S D x : Nat) : Int) = x / D % S ∧ (stk S D x : Int) < S := by
  have := Int.emod_nonneg (x / D) (show S ≠ 0 by omega)
  have := Int.emod_lt_of_pos (x / D) (show 0 < S by omega)
  unfold stk
  omega
theorem quoB {x D : Int} (h1 : 0 ≤ x) (h2 : x < 18446744073709551616) (h3 : 1 ≤ D) : 0 ≤ x / D ∧ x / D < 18446744073709551616 := by
  have a := Int.ediv_nonneg h1 (show 0 ≤ D by omega)
  have b := Int.ediv_le_self D h1
  omega
theorem box52 (w : World) (x0 x1 x2 x3 x4 y0 y1 : Value) (t u : TypeId) :
    ((w.alloc (.cells #[x0, x1, x2, x3, x4] t)).alloc (.cells #[y0, y1] u)).heap[w.heap.size]? = some (.cells #[x0, x1, x2, x3, x4] t (0, 0)) ∧ ((w.alloc (.cells #[x0, x1, x2, x3, x4] t)).alloc (.cells #[y0, y1] u)).heap[w.heap.size + 1]? = some (.cells #[y0, y1] u (0, 0)) := by
  have e := heap_new (w.alloc (.cells #[x0, x1, x2, x3, x4] t)) (.cells #[y0, y1] u)
  rw [show (w.alloc (.cells #[x0, x1, x2, x3, x4] t)).heap.size = w.heap.size + 1 by simp] at e
  exact ⟨(Below.heap_alloc _ _ _ (by simp)).trans (heap_new _ _), e⟩
set_option maxRecDepth 100000 in
theorem stackOf_any (b W S C D x y : Int) (w : World) (hS1 : 1 ≤ S) (hS2 : S ≤ 1024) (hD1 : 1 ≤ D) (hD2 : D < 18446744073709551616) (hx1 : 0 ≤ x) (hx2 : x < 18446744073709551616) :
    Calls Try.prog 72 #[bAgg b W S C D, .agg #[.int .u64 x, .int .u64 y]] w fun e w' => e = .returned (.int .i64 (stk S D x)) ∧ Below w.heap.size w w' := by
  unfold bAgg
  obtain ⟨b1, b2⟩ := box52 w (.int .i64 b) (.int .i64 W) (.int .i64 S) (.int .i64 C) (.int .u64 D) (.int .u64 x) (.int .u64 y) 108 35
  have z2 := gw_cell (cell_of b1 (i := 2) rfl)
  have z4 := gw_cell (cell_of b1 (i := 4) rfl)
  have z5 := gw_cell (cell_of b2 (i := 0) rfl)
  clear b1 b2
  obtain ⟨q1, q2⟩ := quoB hx1 hx2 hD1
  obtain ⟨e1, e2⟩ := stk_is (D := D) (x := x) hS1
  have e3 := Int.emod_nonneg (x / D) (show S ≠ 0 by omega)
  have e4 : x / D % S < S := Int.emod_lt_of_pos (x / D) (by omega)
  rw [e1]
  clear e1 e2
  have hD0 : ¬ D = 0 := by omega
  have hDb : (D == 0) = false := by simpa using hD0
  have hS0 : ¬ S = 0 := by omega
  have hSb : (S == 0) = false := by simpa using hS0
  have HBE : Hid (Below w.heap.size w ((w.alloc (.cells #[.int .i64 b, .int .i64 W, .int .i64 S, .int .i64 C, .int .u64 D] 108)).alloc (.cells #[.int .u64 x, .int .u64 y] 35))) := below_alloc (below_alloc (Below.refl _ _) _) _
  go_enter Try.func72, Try.ntmps72
  go_wp2_with fail
  refine wp_region_gw (by kernel_rfl) (by kernel_rfl) ?_
  repeat (go_big_quiet_step (rfl))
  refine wpQuiet_nil ?_
  intro _ hw'
  obtain ⟨x, hw''⟩ := hw'
  subst hw''
  go_wp2
  go_ret
  exact ⟨rfl, below_on HBE.out x.bel⟩
set_option maxRecDepth 100000 in
theorem ofB_any (b W S C D x y : Int) (w : World) (hS1 : 1 ≤ S) (hS2 : S ≤ 1024) (hD1 : 1 ≤ D) (hD2 : D < 18446744073709551616) (hx1 : 0 ≤ x) (hx2 : x < 18446744073709551616) :
    Calls Try.prog 63 #[bAgg b W S C D, .agg #[.int .u64 x, .int .u64 y]] w fun e w' => e = .returned (.int .i64 (stk S D x)) ∧ Below w.heap.size w w' := by
  unfold bAgg
  obtain ⟨b1, b2⟩ := box52 w (.int .i64 b) (.int .i64 W) (.int .i64 S) (.int .i64 C) (.int .u64 D) (.int .u64 x) (.int .u64 y) 69 35
  have z2 := gw_cell (cell_of b1 (i := 2) rfl)
  have z4 := gw_cell (cell_of b1 (i := 4) rfl)
  have z5 := gw_cell (cell_of b2 (i := 0) rfl)
  clear b1 b2
  obtain ⟨q1, q2⟩ := quoB hx1 hx2 hD1
  obtain ⟨e1, e2⟩ := stk_is (D := D) (x := x) hS1
  have e3 := Int.emod_nonneg (x / D) (show S ≠ 0 by omega)
  have e4 : x / D % S < S := Int.emod_lt_of_pos (x / D) (by omega)
  rw [e1]
  clear e1 e2
  have hD0 : ¬ D = 0 := by omega
  have hDb : (D == 0) = false := by simpa using hD0
  have hS0 : ¬ S = 0 := by omega
  have hSb : (S == 0) = false := by simpa using hS0
  have HBE : Hid (Below w.heap.size w ((w.alloc (.cells #[.int .i64 b, .int .i64 W, .int .i64 S, .int .i64 C, .int .u64 D] 69)).alloc (.cells #[.int .u64 x, .int .u64 y] 35))) := below_alloc (below_alloc (Below.refl _ _) _) _
  go_enter Try.func63, Try.ntmps63
  go_wp2_with fail
  refine wp_region_gw (by kernel_rfl) (by kernel_rfl) ?_
  repeat (go_big_quiet_step (rfl))
  refine wpQuiet_nil ?_
  intro _ hw'
  obtain ⟨x, hw''⟩ := hw'
  subst hw''
  go_wp2
  go_ret
  exact ⟨rfl, below_on HBE.out x.bel⟩
set_option maxRecDepth 100000 in
theorem count_any (b W S C D : Int) (n : Int) (w : World) (h1 : 0 ≤ n) (h2 : n < C) (h3 : C ≤ 65536) :
    Calls Try.prog 73 #[bAgg b W S C D, .int .u64 n] w fun e w' => e = .returned (.int .i64 n) ∧ Below w.heap.size w w' := by
  unfold bAgg
  go_enter Try.func73, Try.ntmps73
  go_wp2
  go_ret
  exact ⟨by show Ending.returned (Value.int .i64 (min n C)) = _; rw [Int.min_eq_left (by omega)], (Below.refl _ _).alloc (Nat.le_refl _) _⟩
end Go.Proofs.Ytmnicdankdapgaa
