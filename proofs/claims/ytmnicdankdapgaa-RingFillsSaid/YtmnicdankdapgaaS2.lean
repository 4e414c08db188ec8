import Derived.Test.YtmnicdankdapgaaS1
namespace Go.Proofs.Ytmnicdankdapgaa
open Go.RowKit Go.Lib
set_option linter.unusedVariables false
theorem bcell {W w1 : World} (hb : Below W.heap.size W w1) : (∀ b o, b < W.heap.size → w1.cell? ⟨b, o, none⟩ = W.cell? ⟨b, o, none⟩) ∧ (∀ b o, b < W.heap.size → w1.frozen? ⟨b, o, none⟩ = W.frozen? ⟨b, o, none⟩) :=
  ⟨fun b o h => hb.cell (p := ⟨b, o, none⟩) h, fun b o h => hb.frozen (p := ⟨b, o, none⟩) h⟩
theorem who_le {W C v : Int} (h2 : W ≤ 64) (h3 : 1 ≤ C) (h4 : C ≤ 65536) (v1 : 0 ≤ v) (v2 : v < W) : 0 ≤ v * (2 + 2 * C) ∧ v * (2 + 2 * C) ≤ 8257662 := by
  constructor
  · exact Int.mul_nonneg v1 (by omega)
  · have := Int.mul_le_mul (show v ≤ 63 by omega) (show 2 + 2 * C ≤ 131074 by omega) (by omega) (by omega)
    omega
set_option maxRecDepth 100000 in
theorem topCell_any (b W C T v : Int) (w : World) (hb1 : 0 ≤ b) (hb2 : b ≤ 16777216) (h2 : W ≤ 64) (h3 : 1 ≤ C) (h4 : C ≤ 65536) (v1 : 0 ≤ v) (v2 : v < W) :
    Calls Try.prog 52 #[sAgg b W C T, .int .i64 v] w fun e w' => e = .returned (.int .i64 (b + v * (2 + 2 * C))) ∧ Below w.heap.size w w' := by
  unfold sAgg
  obtain ⟨p1, p2⟩ := who_le h2 h3 h4 v1 v2
  obtain ⟨c0, c1, c2, c3, hb⟩ := box4 w (.int .i64 b) (.int .i64 W) (.int .i64 C) (.int .i64 T) 92
  have x0 := gw_cell c0; have x1 := gw_cell c1; have x2 := gw_cell c2; have x3 := gw_cell c3
  have HB := hide hb
  clear c0 c1 c2 c3 hb
  go_enter Try.func52, Try.ntmps52
  go_wp2_with fail
  refine wp_region_gw (by kernel_rfl) (by kernel_rfl) ?_
  repeat (go_big_quiet_step (first
    | (go_at_call 68; exact gw_of (inDeque_any b W C T _ h3 h4))
    | rfl))
  refine wpQuiet_nil ?_
  intro _ hw'
  obtain ⟨x, hw''⟩ := hw'
  subst hw''
  go_wp2
  go_ret
  exact ⟨rfl, below_on HB.out x.bel⟩
set_option maxRecDepth 100000 in
theorem bottomCell_any (b W C T v : Int) (w : World) (hb1 : 0 ≤ b) (hb2 : b ≤ 16777216) (h2 : W ≤ 64) (h3 : 1 ≤ C) (h4 : C ≤ 65536) (v1 : 0 ≤ v) (v2 : v < W) :
    Calls Try.prog 53 #[sAgg b W C T, .int .i64 v] w fun e w' => e = .returned (.int .i64 (b + v * (2 + 2 * C) + 1)) ∧ Below w.heap.size w w' := by
  obtain ⟨p1, p2⟩ := who_le h2 h3 h4 v1 v2
  have HS := hide (fun w => topCell_any b W C T v w hb1 hb2 h2 h3 h4 v1 v2)
  unfold sAgg at HS ⊢
  go_enter Try.func53, Try.ntmps53
  go_wp2_with (go_at_call 52; refine (HS.out _).mono ?_; rintro e w2 ⟨rfl, hbel⟩)
  go_ret
  exact ⟨rfl, below_on ((Below.refl _ _).alloc (Nat.le_refl _) _) hbel⟩
theorem rem_le {C x : Int} (h3 : 1 ≤ C) (h4 : C ≤ 65536) : 0 ≤ x % C ∧ x % C < 65536 := by
  have := Int.emod_nonneg x (show C ≠ 0 by omega)
  have := Int.emod_lt_of_pos x (show 0 < C by omega)
  omega
set_option maxRecDepth 100000 in
theorem keyCell_any (b W C T v x : Int) (w : World) (hb1 : 0 ≤ b) (hb2 : b ≤ 16777216) (h2 : W ≤ 64) (h3 : 1 ≤ C) (h4 : C ≤ 65536) (v1 : 0 ≤ v) (v2 : v < W) (x1 : 0 ≤ x) (x2 : x < 18446744073709551616) :
    Calls Try.prog 69 #[sAgg b W C T, .int .i64 v, .int .u64 x] w fun e w' => e = .returned (.int .i64 (b + v * (2 + 2 * C) + 2 + 2 * (x % C))) ∧ Below w.heap.size w w' := by
  obtain ⟨p1, p2⟩ := who_le h2 h3 h4 v1 v2
  obtain ⟨q1, q2⟩ := rem_le (x := x) h3 h4
  have HS := hide (fun w => topCell_any b W C T v w hb1 hb2 h2 h3 h4 v1 v2)
  unfold sAgg at HS ⊢
  have hC : ¬ C = 0 := by omega
  go_enter Try.func69, Try.ntmps69
  go_wp2_with (go_at_call 52; refine (HS.out _).mono ?_; rintro e w2 ⟨rfl, hbel⟩)
  go_ret
  exact ⟨rfl, below_on ((Below.refl _ _).alloc (Nat.le_refl _) _) hbel⟩
set_option maxRecDepth 100000 in
theorem loadCell_any (b W C T v x : Int) (w : World) (hb1 : 0 ≤ b) (hb2 : b ≤ 16777216) (h2 : W ≤ 64) (h3 : 1 ≤ C) (h4 : C ≤ 65536) (v1 : 0 ≤ v) (v2 : v < W) (x1 : 0 ≤ x) (x2 : x < 18446744073709551616) :
    Calls Try.prog 70 #[sAgg b W C T, .int .i64 v, .int .u64 x] w fun e w' => e = .returned (.int .i64 (b + v * (2 + 2 * C) + 2 + 2 * (x % C) + 1)) ∧ Below w.heap.size w w' := by
  obtain ⟨p1, p2⟩ := who_le h2 h3 h4 v1 v2
  obtain ⟨q1, q2⟩ := rem_le (x := x) h3 h4
  have HS := hide (fun w => keyCell_any b W C T v x w hb1 hb2 h2 h3 h4 v1 v2 x1 x2)
  unfold sAgg at HS ⊢
  go_enter Try.func70, Try.ntmps70
  go_wp2_with (go_at_call 69; refine (HS.out _).mono ?_; rintro e w2 ⟨rfl, hbel⟩)
  go_ret
  exact ⟨rfl, below_on ((Below.refl _ _).alloc (Nat.le_refl _) _) hbel⟩
set_option maxRecDepth 100000 in
theorem deque_any (b W C T v : Int) (w : World) (hb1 : 0 ≤ b) (hb2 : b ≤ 16777216) (h2 : W ≤ 64) (h3 : 1 ≤ C) (h4 : C ≤ 65536) (v1 : 0 ≤ v) (v2 : v < W) :
    Calls Try.prog 55 #[sAgg b W C T, .int .i64 v] w fun e w' => e = .returned (.int .i64 (b + v * (2 + 2 * C))) ∧ Below w.heap.size w w' := by
  obtain ⟨p1, p2⟩ := who_le h2 h3 h4 v1 v2
  unfold sAgg
  go_enter Try.func55, Try.ntmps55
  go_wp2
  go_ret
  exact ⟨rfl, (Below.refl _ _).alloc (Nat.le_refl _) _⟩
set_option maxRecDepth 100000 in
theorem slot_any (b W C T v x : Int) (w : World) (hb1 : 0 ≤ b) (hb2 : b ≤ 16777216) (h2 : W ≤ 64) (h3 : 1 ≤ C) (h4 : C ≤ 65536) (v1 : 0 ≤ v) (v2 : v < W) (x1 : 0 ≤ x) (x2 : x < 18446744073709551616) :
    Calls Try.prog 56 #[sAgg b W C T, .int .i64 v, .int .u64 x] w fun e w' => e = .returned (.int .i64 (b + v * (2 + 2 * C) + 2 + 2 * (x % C))) ∧ Below w.heap.size w w' := by
  obtain ⟨p1, p2⟩ := who_le h2 h3 h4 v1 v2
  obtain ⟨q1, q2⟩ := rem_le (x := x) h3 h4
  have HS := hide (fun w => deque_any b W C T v w hb1 hb2 h2 h3 h4 v1 v2)
  unfold sAgg at HS ⊢
  have hC : ¬ C = 0 := by omega
  obtain ⟨c0, c1, c2, c3, hb⟩ := box4 w (.int .i64 b) (.int .i64 W) (.int .i64 C) (.int .i64 T) 50
  have y0 := gw_cell c0; have y1 := gw_cell c1; have y2 := gw_cell c2; have y3 := gw_cell c3
  have HB := hide hb
  clear c0 c1 c2 c3 hb
  go_enter Try.func56, Try.ntmps56
  go_wp2_with fail
  refine wp_region_gw (by kernel_rfl) (by kernel_rfl) ?_
  repeat (go_big_quiet_step (first
    | (go_at_call 55; exact gw_of (HS.out _))
    | rfl))
  refine wpQuiet_nil ?_
  intro _ hw'
  obtain ⟨x, hw''⟩ := hw'
  subst hw''
  go_wp2
  go_ret
  exact ⟨rfl, below_on HB.out x.bel⟩
set_option maxRecDepth 100000 in
theorem stealCells_any (b W C T : Int) (w : World) :
    Calls Try.prog 15 #[sAgg b W C T] w fun e w' => e = .returned (.tuple #[.int .i64 (if OkS b W C T then W * (2 + 2 * C) else 0), .int .i64 (if OkS b W C T then 0 else 60)]) ∧ Below w.heap.size w w' := by
  by_cases h : OkS b W C T
  · have HC := hide (fun w => sCheck_any b W C T w)
    rw [if_pos h, if_pos h]
    rw [if_pos h] at HC
    have HS := hide (fun w => sCells_any b W C T w h.1.1 h.1.2.1 h.1.2.2.1 h.1.2.2.2.1)
    unfold sAgg at HC HS ⊢
    clear h
    go_enter Try.func15, Try.ntmps15
    go_wp2_with (first
      | (go_at_call 49; refine (HC.out _).mono ?_; rintro e w2 ⟨rfl, hb1⟩; obtain ⟨hc1, hf1⟩ := bcell hb1)
      | (go_at_call 50; refine (HS.out _).mono ?_; rintro e w3 ⟨rfl, hb2⟩))
    go_ret2
    exact ⟨rfl, below_on (below_on (below_alloc (below_alloc (Below.refl _ _) _) _) hb1) hb2⟩
  · have HC := hide (fun w => sCheck_any b W C T w)
    rw [if_neg h, if_neg h]
    rw [if_neg h] at HC
    unfold sAgg at HC ⊢
    clear h
    go_enter Try.func15, Try.ntmps15
    go_wp2_with (first
      | (go_at_call 49; refine (HC.out _).mono ?_; rintro e w2 ⟨rfl, hb1⟩))
    go_ret2
    exact ⟨rfl, below_on (below_alloc (below_alloc (Below.refl _ _) _) _) hb1⟩
set_option maxRecDepth 100000 in
theorem refCells_any (b W C T : Int) (w : World) :
    Calls Try.prog 16 #[sAgg b W C T] w fun e w' => e = .returned (.tuple #[.int .i64 (if OkS b W C T then W * (2 + 2 * C) else 0), .int .i64 (if OkS b W C T then 0 else 60)]) ∧ Below w.heap.size w w' := by
  by_cases h : OkS b W C T
  · have HC := hide (fun w => shape_any b W C T w)
    rw [if_pos h, if_pos h]
    rw [decide_eq_true h] at HC
    obtain ⟨p1, p2⟩ := prod_le h.1.1 h.1.2.1 h.1.2.2.1 h.1.2.2.2.1
    obtain ⟨⟨h1, h2, h3, h4, h5, h6⟩, _⟩ := h
    unfold sAgg at HC ⊢
    go_enter Try.func16, Try.ntmps16
    go_wp2_with (first
      | (go_at_call 51; refine (HC.out _).mono ?_; rintro e w2 ⟨rfl, hb1⟩; obtain ⟨hc1, hf1⟩ := bcell hb1))
    go_ret2
    exact ⟨rfl, below_on (below_alloc (Below.refl _ _) _) hb1⟩
  · have HC := hide (fun w => shape_any b W C T w)
    rw [if_neg h, if_neg h]
    rw [decide_eq_false h] at HC
    unfold sAgg at HC ⊢
    clear h
    go_enter Try.func16, Try.ntmps16
    go_wp2_with (first
      | (go_at_call 51; refine (HC.out _).mono ?_; rintro e w2 ⟨rfl, hb1⟩; obtain ⟨hc1, hf1⟩ := bcell hb1))
    go_ret2
    exact ⟨rfl, below_on (below_alloc (Below.refl _ _) _) hb1⟩
end Go.Proofs.Ytmnicdankdapgaa
