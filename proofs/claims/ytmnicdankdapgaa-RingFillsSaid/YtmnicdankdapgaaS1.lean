import Derived.Test.YtmnicdankdapgaaKit
namespace Go.Proofs.Ytmnicdankdapgaa
open Go.RowKit Go.Lib
set_option linter.unusedVariables false
theorem gw_cell {w : World} {b i : Nat} {v : Value} (h : w.cell? ⟨b, i, none⟩ = some v) (x : GW w) : x.world.cell? ⟨b, i, none⟩ = some v := (below_cell x.bel (block_of_cell h)).trans h
def sAgg (b W C T : Int) : Value := .agg #[.int .i64 b, .int .i64 W, .int .i64 C, .int .i64 T]
def NumS (W C T : Int) : Prop := 1 ≤ W ∧ W ≤ 64 ∧ 1 ≤ C ∧ C ≤ 65536 ∧ 1 ≤ T ∧ T ≤ 64
def OkS (b W C T : Int) : Prop := NumS W C T ∧ 0 ≤ b ∧ b + W * (2 + 2 * C) ≤ 16777216
theorem prod_le {W C : Int} (h1 : 1 ≤ W) (h2 : W ≤ 64) (h3 : 1 ≤ C) (h4 : C ≤ 65536) : 0 ≤ W * (2 + 2 * C) ∧ W * (2 + 2 * C) ≤ 8388736 := by
  constructor
  · exact Int.mul_nonneg (by omega) (by omega)
  · have := Int.mul_le_mul h2 (show 2 + 2 * C ≤ 131074 by omega) (by omega) (by omega)
    omega
theorem box4 (w : World) (x0 x1 x2 x3 : Value) (t : TypeId) :
    (w.alloc (.cells #[x0, x1, x2, x3] t)).cell? ⟨w.heap.size, 0, none⟩ = some x0 ∧ (w.alloc (.cells #[x0, x1, x2, x3] t)).cell? ⟨w.heap.size, 1, none⟩ = some x1 ∧
    (w.alloc (.cells #[x0, x1, x2, x3] t)).cell? ⟨w.heap.size, 2, none⟩ = some x2 ∧ (w.alloc (.cells #[x0, x1, x2, x3] t)).cell? ⟨w.heap.size, 3, none⟩ = some x3 ∧ Below w.heap.size w (w.alloc (.cells #[x0, x1, x2, x3] t)) := by
  have hbk : (w.alloc (.cells #[x0, x1, x2, x3] t)).heap[w.heap.size]? = some (.cells #[x0, x1, x2, x3] t (0, 0)) := heap_new _ _
  exact ⟨cell_of hbk rfl, cell_of hbk rfl, cell_of hbk rfl, cell_of hbk rfl, (Below.refl _ _).alloc (Nat.le_refl _) _⟩
theorem inDeque_any (b W C T : Int) (w : World) (h1 : 1 ≤ C) (h2 : C ≤ 65536) :
    Calls Try.prog 68 #[sAgg b W C T] w fun e w' => e = .returned (.int .i64 (2 + 2 * C)) ∧ Below w.heap.size w w' := by
  unfold sAgg
  go_enter Try.func68, Try.ntmps68
  go_wp2
  go_ret
  exact ⟨rfl, (Below.refl _ _).alloc (Nat.le_refl _) _⟩
set_option maxRecDepth 100000 in
theorem sCells_any (b W C T : Int) (w : World) (hW1 : 1 ≤ W) (hW2 : W ≤ 64) (h1 : 1 ≤ C) (h2 : C ≤ 65536) :
    Calls Try.prog 50 #[sAgg b W C T] w fun e w' => e = .returned (.int .i64 (W * (2 + 2 * C))) ∧ Below w.heap.size w w' := by
  unfold sAgg
  obtain ⟨p1, p2⟩ := prod_le hW1 hW2 h1 h2
  obtain ⟨c0, c1, c2, c3, hb⟩ := box4 w (.int .i64 b) (.int .i64 W) (.int .i64 C) (.int .i64 T) 92
  have x0 := gw_cell c0; have x1 := gw_cell c1; have x2 := gw_cell c2; have x3 := gw_cell c3
  have HB := hide hb
  clear c0 c1 c2 c3 hb
  go_enter Try.func50, Try.ntmps50
  go_wp2_with fail
  refine wp_region_gw (by kernel_rfl) (by kernel_rfl) ?_
  repeat (go_big_quiet_step (first
    | (go_at_call 68; exact gw_of (inDeque_any b W C T _ h1 h2))
    | rfl))
  refine wpQuiet_nil ?_
  intro _ hw'
  obtain ⟨x, hw''⟩ := hw'
  subst hw''
  go_wp2
  go_ret
  exact ⟨rfl, below_on HB.out x.bel⟩
set_option maxRecDepth 100000 in
theorem sCheck_num (b W C T : Int) (w : World) (h : ¬ NumS W C T) :
    Calls Try.prog 49 #[sAgg b W C T] w fun e w' => e = .returned (.int .i64 60) ∧ Below w.heap.size w w' := by
  unfold sAgg
  unfold NumS at h
  go_enter Try.func49, Try.ntmps49
  go_wp2
  all_goals first
    | (exfalso; omega)
    | (go_ret; exact ⟨rfl, (Below.refl _ _).alloc (Nat.le_refl _) _⟩)
set_option maxRecDepth 100000 in
theorem sCheck_neg (b W C T : Int) (w : World) (h : NumS W C T) (hb : b < 0) :
    Calls Try.prog 49 #[sAgg b W C T] w fun e w' => e = .returned (.int .i64 60) ∧ Below w.heap.size w w' := by
  unfold sAgg
  obtain ⟨h1, h2, h3, h4, h5, h6⟩ := h
  obtain ⟨c0, c1, c2, c3, hB⟩ := box4 w (.int .i64 b) (.int .i64 W) (.int .i64 C) (.int .i64 T) 92
  have x0 := gw_cell c0
  have HB := hide hB
  clear c0 c1 c2 c3 hB
  have hd : decide (b < 0) = true := decide_eq_true hb
  go_enter Try.func49, Try.ntmps49
  go_wp2_with fail
  refine wp_region_gw (by kernel_rfl) (by kernel_rfl) ?_
  repeat (go_big_quiet_step (rfl))
  refine wpQuiet_nil ?_
  intro _ hw'
  obtain ⟨x, hw''⟩ := hw'
  subst hw''
  go_wp2
  go_ret
  exact ⟨rfl, below_on HB.out x.bel⟩
set_option maxRecDepth 100000 in
theorem sCheck_rest (b W C T : Int) (w : World) (h : NumS W C T) (hb : ¬ b < 0) :
    Calls Try.prog 49 #[sAgg b W C T] w fun e w' => e = .returned (.int .i64 (if b + W * (2 + 2 * C) ≤ 16777216 then 0 else 60)) ∧ Below w.heap.size w w' := by
  unfold sAgg
  obtain ⟨h1, h2, h3, h4, h5, h6⟩ := h
  obtain ⟨p1, p2⟩ := prod_le h1 h2 h3 h4
  obtain ⟨c0, c1, c2, c3, hB⟩ := box4 w (.int .i64 b) (.int .i64 W) (.int .i64 C) (.int .i64 T) 92
  have x0 := gw_cell c0; have x1 := gw_cell c1; have x2 := gw_cell c2; have x3 := gw_cell c3
  have HB := hide hB
  clear c0 c1 c2 c3 hB
  have hd : decide (b < 0) = false := decide_eq_false hb
  have HS := hide (fun w => sCells_any b W C T w h1 h2 h3 h4)
  unfold sAgg at HS
  obtain ⟨M, hM⟩ : ∃ M, M = W * (2 + 2 * C) := ⟨_, rfl⟩
  rw [← hM] at HS p1 p2 ⊢
  clear hM
  go_enter Try.func49, Try.ntmps49
  go_wp2_with fail
  refine wp_region_gw (by kernel_rfl) (by kernel_rfl) ?_
  repeat (go_big_quiet_step (first
    | (go_at_call 50; exact gw_of (HS.out _))
    | rfl))
  refine wpQuiet_nil ?_
  intro _ hw'
  obtain ⟨x, hw''⟩ := hw'
  subst hw''
  go_wp2
  all_goals first
    | (exfalso; omega)
    | (go_ret; exact ⟨rfl, below_on HB.out x.bel⟩)
instance (b W C T : Int) : Decidable (OkS b W C T) := by unfold OkS NumS; infer_instance
theorem sCheck_any (b W C T : Int) (w : World) :
    Calls Try.prog 49 #[sAgg b W C T] w fun e w' => e = .returned (.int .i64 (if OkS b W C T then 0 else 60)) ∧ Below w.heap.size w w' := by
  by_cases h : NumS W C T
  · by_cases hb : b < 0
    · rw [if_neg (fun hk => by have := hk.2.1; omega)]; exact sCheck_neg b W C T w h hb
    · refine (sCheck_rest b W C T w h hb).mono ?_
      rintro e w' ⟨rfl, k⟩
      by_cases hk : b + W * (2 + 2 * C) ≤ 16777216
      · rw [if_pos hk, if_pos ⟨h, by omega, hk⟩]; exact ⟨rfl, k⟩
      · rw [if_neg hk, if_neg (fun hh => hk hh.2.2)]; exact ⟨rfl, k⟩
  · rw [if_neg (fun hk => h hk.1)]; exact sCheck_num b W C T w h
set_option maxRecDepth 100000 in
set_option maxHeartbeats 2000000 in
theorem shape_any (b W C T : Int) (w : World) :
    Calls Try.prog 51 #[sAgg b W C T] w fun e w' => e = .returned (.bool (decide (OkS b W C T))) ∧ Below w.heap.size w w' := by
  by_cases h : NumS W C T ∧ 0 ≤ b ∧ b ≤ 16777216
  · obtain ⟨⟨h1, h2, h3, h4, h5, h6⟩, h7, h8⟩ := h
    obtain ⟨p1, p2⟩ := prod_le h1 h2 h3 h4
    have e : decide (OkS b W C T) = decide (b + W * (2 + 2 * C) ≤ 16777216) := by
      by_cases hk : b + W * (2 + 2 * C) ≤ 16777216
      · rw [decide_eq_true hk, decide_eq_true]; exact ⟨⟨h1, h2, h3, h4, h5, h6⟩, h7, hk⟩
      · rw [decide_eq_false hk, decide_eq_false]; exact fun hh => hk hh.2.2
    rw [e]
    clear e
    unfold sAgg
    go_enter Try.func51, Try.ntmps51
    go_wp2
    all_goals first
      | (exfalso; omega)
      | (go_ret; exact ⟨rfl, (Below.refl _ _).alloc (Nat.le_refl _) _⟩)
  · have e : decide (OkS b W C T) = false := decide_eq_false fun hk => h ⟨hk.1, hk.2.1, by
      have := (prod_le hk.1.1 hk.1.2.1 hk.1.2.2.1 hk.1.2.2.2.1).1; have := hk.2.2; omega⟩
    rw [e]
    clear e
    unfold sAgg
    unfold NumS at h
    go_enter Try.func51, Try.ntmps51
    go_wp2
    all_goals first
      | (exfalso; omega)
      | (go_ret; exact ⟨rfl, (Below.refl _ _).alloc (Nat.le_refl _) _⟩)
end Go.Proofs.Ytmnicdankdapgaa
