/- bucket: the shape, its cells; the program's and the reference's. -/
import Derived.Test.YtmnicdankdapgaaS4
namespace Go.Proofs.Ytmnicdankdapgaa
open Go.RowKit Go.Lib
set_option linter.unusedVariables false
def bAgg (b W S C D : Int) : Value := .agg #[.int .i64 b, .int .i64 W, .int .i64 S, .int .i64 C, .int .u64 D]
def NumB (W S C D : Int) : Prop := (1 ≤ W ∧ W ≤ 64 ∧ 1 ≤ S ∧ S ≤ 1024) ∧ 1 ≤ C ∧ C ≤ 65536 ∧ 1 ≤ D
def OkB (b W S C D : Int) : Prop := NumB W S C D ∧ 0 ≤ b ∧ b + S * (2 + 2 * C) ≤ 16777216
instance (W S C D : Int) : Decidable (NumB W S C D) := by unfold NumB; infer_instance
instance (b W S C D : Int) : Decidable (OkB b W S C D) := by unfold OkB; infer_instance
theorem prodB_le {S C : Int} (h1 : 1 ≤ S) (h2 : S ≤ 1024) (h3 : 1 ≤ C) (h4 : C ≤ 65536) : 0 ≤ S * (2 + 2 * C) ∧ S * (2 + 2 * C) ≤ 134219776 := by
  constructor
  · exact Int.mul_nonneg (by omega) (by omega)
  · have := Int.mul_le_mul h2 (show 2 + 2 * C ≤ 131074 by omega) (by omega) (by omega)
    omega
theorem box5 (w : World) (x0 x1 x2 x3 x4 : Value) (t : TypeId) :
    (w.alloc (.cells #[x0, x1, x2, x3, x4] t)).cell? ⟨w.heap.size, 0, none⟩ = some x0 ∧ (w.alloc (.cells #[x0, x1, x2, x3, x4] t)).cell? ⟨w.heap.size, 1, none⟩ = some x1 ∧
    (w.alloc (.cells #[x0, x1, x2, x3, x4] t)).cell? ⟨w.heap.size, 2, none⟩ = some x2 ∧ (w.alloc (.cells #[x0, x1, x2, x3, x4] t)).cell? ⟨w.heap.size, 3, none⟩ = some x3 ∧ (w.alloc (.cells #[x0, x1, x2, x3, x4] t)).cell? ⟨w.heap.size, 4, none⟩ = some x4 ∧ Below w.heap.size w (w.alloc (.cells #[x0, x1, x2, x3, x4] t)) := by
  have hbk : (w.alloc (.cells #[x0, x1, x2, x3, x4] t)).heap[w.heap.size]? = some (.cells #[x0, x1, x2, x3, x4] t (0, 0)) := heap_new _ _
  exact ⟨cell_of hbk rfl, cell_of hbk rfl, cell_of hbk rfl, cell_of hbk rfl, cell_of hbk rfl, (Below.refl _ _).alloc (Nat.le_refl _) _⟩
theorem inStack_any (b W S C D : Int) (w : World) (h1 : 1 ≤ C) (h2 : C ≤ 65536) :
    Calls Try.prog 71 #[bAgg b W S C D] w fun e w' => e = .returned (.int .i64 (2 + 2 * C)) ∧ Below w.heap.size w w' := by
  unfold bAgg
  go_enter Try.func71, Try.ntmps71
  go_wp2
  go_ret
  exact ⟨rfl, (Below.refl _ _).alloc (Nat.le_refl _) _⟩
set_option maxRecDepth 100000 in
theorem bCells_any (b W S C D : Int) (w : World) (hS1 : 1 ≤ S) (hS2 : S ≤ 1024) (h1 : 1 ≤ C) (h2 : C ≤ 65536) :
    Calls Try.prog 59 #[bAgg b W S C D] w fun e w' => e = .returned (.int .i64 (S * (2 + 2 * C))) ∧ Below w.heap.size w w' := by
  unfold bAgg
  obtain ⟨p1, p2⟩ := prodB_le hS1 hS2 h1 h2
  obtain ⟨c0, c1, c2, c3, c4, hb⟩ := box5 w (.int .i64 b) (.int .i64 W) (.int .i64 S) (.int .i64 C) (.int .u64 D) 108
  have x0 := gw_cell c0; have x1 := gw_cell c1; have x2 := gw_cell c2; have x3 := gw_cell c3; have x4 := gw_cell c4
  have HB := hide hb
  have HI := hide (fun w => inStack_any b W S C D w h1 h2)
  unfold bAgg at HI
  clear c0 c1 c2 c3 c4 hb
  go_enter Try.func59, Try.ntmps59
  go_wp2_with fail
  refine wp_region_gw (by kernel_rfl) (by kernel_rfl) ?_
  repeat (go_big_quiet_step (first
    | (go_at_call 71; exact gw_of (HI.out _))
    | rfl))
  refine wpQuiet_nil ?_
  intro _ hw'
  obtain ⟨x, hw''⟩ := hw'
  subst hw''
  go_wp2
  go_ret
  exact ⟨rfl, below_on HB.out x.bel⟩
set_option maxRecDepth 100000 in
theorem bCheck_num (b W S C D : Int) (w : World) (hD : 0 ≤ D) (h : ¬ NumB W S C D) :
    Calls Try.prog 58 #[bAgg b W S C D] w fun e w' => e = .returned (.int .i64 60) ∧ Below w.heap.size w w' := by
  unfold bAgg
  unfold NumB at h
  by_cases h1 : 1 ≤ W ∧ W ≤ 64 ∧ 1 ≤ S ∧ S ≤ 1024
  · have h2 : ¬ (1 ≤ C ∧ C ≤ 65536 ∧ 1 ≤ D) := fun k => h ⟨h1, k⟩
    clear h
    obtain ⟨a1, a2, a3, a4⟩ := h1
    go_enter Try.func58, Try.ntmps58
    go_wp2
    all_goals first
      | (exfalso; omega)
      | (go_ret; exact ⟨rfl, (Below.refl _ _).alloc (Nat.le_refl _) _⟩)
  · clear h
    go_enter Try.func58, Try.ntmps58
    go_wp2
    all_goals first
      | (exfalso; omega)
      | (go_ret; exact ⟨rfl, (Below.refl _ _).alloc (Nat.le_refl _) _⟩)
set_option maxRecDepth 100000 in
theorem bCheck_neg (b W S C D : Int) (w : World) (h : NumB W S C D) (hb : b < 0) :
    Calls Try.prog 58 #[bAgg b W S C D] w fun e w' => e = .returned (.int .i64 60) ∧ Below w.heap.size w w' := by
  unfold bAgg
  obtain ⟨⟨h1, h2, h3, h4⟩, h5, h6, h7⟩ := h
  obtain ⟨c0, c1, c2, c3, c4, hB⟩ := box5 w (.int .i64 b) (.int .i64 W) (.int .i64 S) (.int .i64 C) (.int .u64 D) 108
  have x0 := gw_cell c0
  have HB := hide hB
  clear c0 c1 c2 c3 c4 hB
  have hd : decide (b < 0) = true := decide_eq_true hb
  go_enter Try.func58, Try.ntmps58
  go_wp2_with fail
  refine wp_region_gw (by kernel_rfl) (by kernel_rfl) ?_
  repeat (go_big_quiet_step (rfl))
  refine wpQuiet_nil ?_
  intro _ hw'
  obtain ⟨x, hw''⟩ := hw'
  subst hw''
  go_wp2
  go_ret
  exact ⟨rfl, below_on HB.out x.bel⟩
set_option maxRecDepth 100000 in
theorem bCheck_rest (b W S C D : Int) (w : World) (h : NumB W S C D) (hb : ¬ b < 0) :
    Calls Try.prog 58 #[bAgg b W S C D] w fun e w' => e = .returned (.int .i64 (if b + S * (2 + 2 * C) ≤ 16777216 then 0 else 60)) ∧ Below w.heap.size w w' := by
  unfold bAgg
  obtain ⟨⟨h1, h2, h3, h4⟩, h5, h6, h7⟩ := h
  obtain ⟨p1, p2⟩ := prodB_le h3 h4 h5 h6
  obtain ⟨c0, c1, c2, c3, c4, hB⟩ := box5 w (.int .i64 b) (.int .i64 W) (.int .i64 S) (.int .i64 C) (.int .u64 D) 108
  have x0 := gw_cell c0; have x1 := gw_cell c1; have x2 := gw_cell c2; have x3 := gw_cell c3; have x4 := gw_cell c4
  have HB := hide hB
  clear c0 c1 c2 c3 c4 hB
  have hd : decide (b < 0) = false := decide_eq_false hb
  have HS := hide (fun w => bCells_any b W S C D w h3 h4 h5 h6)
  unfold bAgg at HS
  obtain ⟨M, hM⟩ : ∃ M, M = S * (2 + 2 * C) := ⟨_, rfl⟩
  rw [← hM] at HS p1 p2 ⊢
  clear hM
  go_enter Try.func58, Try.ntmps58
  go_wp2_with fail
  refine wp_region_gw (by kernel_rfl) (by kernel_rfl) ?_
  repeat (go_big_quiet_step (first
    | (go_at_call 59; exact gw_of (HS.out _))
    | rfl))
  refine wpQuiet_nil ?_
  intro _ hw'
  obtain ⟨x, hw''⟩ := hw'
  subst hw''
  go_wp2
  all_goals first
    | (exfalso; omega)
    | (go_ret; exact ⟨rfl, below_on HB.out x.bel⟩)
theorem bCheck_any (b W S C D : Int) (w : World) (hD : 0 ≤ D) :
    Calls Try.prog 58 #[bAgg b W S C D] w fun e w' => e = .returned (.int .i64 (if OkB b W S C D then 0 else 60)) ∧ Below w.heap.size w w' := by
  by_cases h : NumB W S C D
  · by_cases hb : b < 0
    · rw [if_neg (fun hk => by have := hk.2.1; omega)]; exact bCheck_neg b W S C D w h hb
    · refine (bCheck_rest b W S C D w h hb).mono ?_
      rintro e w' ⟨rfl, k⟩
      by_cases hk : b + S * (2 + 2 * C) ≤ 16777216
      · rw [if_pos hk, if_pos ⟨h, by omega, hk⟩]; exact ⟨rfl, k⟩
      · rw [if_neg hk, if_neg (fun hh => hk hh.2.2)]; exact ⟨rfl, k⟩
  · rw [if_neg (fun hk => h hk.1)]; exact bCheck_num b W S C D w hD h
set_option maxRecDepth 100000 in
set_option maxHeartbeats 2000000 in
theorem bShape_any (b W S C D : Int) (w : World) (hD : 0 ≤ D) :
    Calls Try.prog 60 #[bAgg b W S C D] w fun e w' => e = .returned (.bool (decide (OkB b W S C D))) ∧ Below w.heap.size w w' := by
  by_cases h : NumB W S C D ∧ 0 ≤ b ∧ b ≤ 16777216
  · obtain ⟨⟨⟨h1, h2, h3, h4⟩, h5, h6, h9⟩, h7, h8⟩ := h
    obtain ⟨p1, p2⟩ := prodB_le h3 h4 h5 h6
    have e : decide (OkB b W S C D) = decide (b + S * (2 + 2 * C) ≤ 16777216) := by
      by_cases hk : b + S * (2 + 2 * C) ≤ 16777216
      · rw [decide_eq_true hk, decide_eq_true]; exact ⟨⟨⟨h1, h2, h3, h4⟩, h5, h6, h9⟩, h7, hk⟩
      · rw [decide_eq_false hk, decide_eq_false]; exact fun hh => hk hh.2.2
    rw [e]
    clear e
    have hD0 : ¬ D = 0 := by omega
    have hDb : (D == 0) = false := by simpa using hD0
    unfold bAgg
    go_enter Try.func60, Try.ntmps60
    go_wp2
    all_goals first
      | (exfalso; omega)
      | (go_ret; exact ⟨rfl, (Below.refl _ _).alloc (Nat.le_refl _) _⟩)
  · have e : decide (OkB b W S C D) = false := decide_eq_false fun hk => h ⟨hk.1, hk.2.1, by
      have := (prodB_le hk.1.1.2.2.1 hk.1.1.2.2.2 hk.1.2.1 hk.1.2.2.1).1; have := hk.2.2; omega⟩
    rw [e]
    clear e
    unfold bAgg
    unfold NumB at h
    go_enter Try.func60, Try.ntmps60
    go_wp2
    all_goals first
      | (exfalso; omega)
      | (exfalso; simp only [beq_iff_eq] at *; omega)
      | (go_ret; exact ⟨rfl, (Below.refl _ _).alloc (Nat.le_refl _) _⟩)
/-- A shape of five in its box B. -/
structure GM (w : World) (B : Nat) (ty : TypeId) (b W S C D : Int) (X : World) : Prop where
  bx : X.heap[B]? = some (.cells #[.int .i64 b, .int .i64 W, .int .i64 S, .int .i64 C, .int .u64 D] ty (0, 0))
  bel : Below w.heap.size w X
  hB : w.heap.size ≤ B
theorem GM.below {w : World} {B : Nat} {ty : TypeId} {b W S C D : Int} {X Y : World} (h : GM w B ty b W S C D X) (hb : Below X.heap.size X Y) : GM w B ty b W S C D Y :=
  ⟨(hb.block _ (lt_of_heap h.bx)).trans h.bx, below_on h.bel hb, h.hB⟩
theorem GM.five {w : World} {B : Nat} {ty : TypeId} {b W S C D : Int} {X : World} (h : GM w B ty b W S C D X) :
    X.cell? ⟨B, 0, none⟩ = some (.int .i64 b) ∧ X.cell? ⟨B, 1, none⟩ = some (.int .i64 W) ∧ X.cell? ⟨B, 2, none⟩ = some (.int .i64 S) ∧ X.cell? ⟨B, 3, none⟩ = some (.int .i64 C) ∧ X.cell? ⟨B, 4, none⟩ = some (.int .u64 D) :=
  ⟨cell_of h.bx rfl, cell_of h.bx rfl, cell_of h.bx rfl, cell_of h.bx rfl, cell_of h.bx rfl⟩
theorem GM.zero {w : World} {B : Nat} {ty : TypeId} {b W S C D : Int} {X : World} (h : GM w B ty b W S C D X) : GM w B ty 0 W S C D (X.setCell ⟨B, 0, none⟩ (.int .i64 0)) :=
  ⟨by rw [heap_set h.bx]; rfl, h.bel.setCell (p := ⟨B, 0, none⟩) h.hB _, h.hB⟩
theorem gm_one (w : World) (ty : TypeId) (b W S C D : Int) : GM w w.heap.size ty b W S C D (w.alloc (.cells #[.int .i64 b, .int .i64 W, .int .i64 S, .int .i64 C, .int .u64 D] ty)) :=
  ⟨heap_new _ _, below_alloc (Below.refl _ _) _, Nat.le_refl _⟩
theorem gm_two (w : World) (ty : TypeId) (o : Obj) (b W S C D : Int) : GM w (w.heap.size + 1) ty b W S C D ((w.alloc o).alloc (.cells #[.int .i64 b, .int .i64 W, .int .i64 S, .int .i64 C, .int .u64 D] ty)) := by
  have e := heap_new (w.alloc o) (.cells #[.int .i64 b, .int .i64 W, .int .i64 S, .int .i64 C, .int .u64 D] ty)
  rw [show (w.alloc o).heap.size = w.heap.size + 1 by simp] at e
  exact ⟨e, below_alloc (below_alloc (Below.refl _ _) _) _, by omega⟩
set_option maxRecDepth 100000 in
theorem bucketCells_any (b W S C D : Int) (w : World) (hD : 0 ≤ D) :
    Calls Try.prog 28 #[bAgg b W S C D] w fun e w' => e = .returned (.tuple #[.int .i64 (if OkB b W S C D then S * (2 + 2 * C) else 0), .int .i64 (if OkB b W S C D then 0 else 60)]) ∧ Below w.heap.size w w' := by
  by_cases h : OkB b W S C D
  · have HC := hide (fun w => bCheck_any b W S C D w hD)
    rw [if_pos h, if_pos h]
    rw [if_pos h] at HC
    have HS := hide (fun w => bCells_any b W S C D w h.1.1.2.2.1 h.1.1.2.2.2 h.1.2.1 h.1.2.2.1)
    unfold bAgg at HC HS ⊢
    clear h
    go_enter Try.func28, Try.ntmps28
    go_wp2_with (first
      | (go_at_call 58; refine (HC.out _).mono ?_; rintro e w2 ⟨rfl, hb1⟩; have hm1 := (gm_two w 108 _ b W S C D).below hb1; obtain ⟨s0, s1, s2, s3, s4⟩ := hm1.five; have HM1 := hide hm1; clear hb1 hm1)
      | (go_at_call 59; refine (HS.out _).mono ?_; rintro e w3 ⟨rfl, hb2⟩))
    go_ret2
    exact ⟨rfl, below_on HM1.out.bel hb2⟩
  · have HC := hide (fun w => bCheck_any b W S C D w hD)
    rw [if_neg h, if_neg h]
    rw [if_neg h] at HC
    unfold bAgg at HC ⊢
    clear h
    go_enter Try.func28, Try.ntmps28
    go_wp2_with (first
      | (go_at_call 58; refine (HC.out _).mono ?_; rintro e w2 ⟨rfl, hb1⟩; have HM1 := hide ((gm_two w 108 _ b W S C D).below hb1); clear hb1))
    go_ret2
    exact ⟨rfl, HM1.out.bel⟩
set_option maxRecDepth 100000 in
theorem refCellsB_any (b W S C D : Int) (w : World) (hD : 0 ≤ D) :
    Calls Try.prog 29 #[bAgg b W S C D] w fun e w' => e = .returned (.tuple #[.int .i64 (if OkB b W S C D then S * (2 + 2 * C) else 0), .int .i64 (if OkB b W S C D then 0 else 60)]) ∧ Below w.heap.size w w' := by
  by_cases h : OkB b W S C D
  · have HC := hide (fun w => bShape_any b W S C D w hD)
    rw [if_pos h, if_pos h]
    rw [decide_eq_true h] at HC
    obtain ⟨p1, p2⟩ := prodB_le h.1.1.2.2.1 h.1.1.2.2.2 h.1.2.1 h.1.2.2.1
    obtain ⟨⟨⟨h1, h2, h3, h4⟩, h5, h6, h7⟩, _⟩ := h
    unfold bAgg at HC ⊢
    go_enter Try.func29, Try.ntmps29
    go_wp2_with (first
      | (go_at_call 60; refine (HC.out _).mono ?_; rintro e w2 ⟨rfl, hb1⟩; have hm1 := (gm_one w 69 b W S C D).below hb1; obtain ⟨s0, s1, s2, s3, s4⟩ := hm1.five; have HM1 := hide hm1; clear hb1 hm1))
    go_ret2
    exact ⟨rfl, HM1.out.bel⟩
  · have HC := hide (fun w => bShape_any b W S C D w hD)
    rw [if_neg h, if_neg h]
    rw [decide_eq_false h] at HC
    unfold bAgg at HC ⊢
    clear h
    go_enter Try.func29, Try.ntmps29
    go_wp2_with (first
      | (go_at_call 60; refine (HC.out _).mono ?_; rintro e w2 ⟨rfl, hb1⟩; have HM1 := hide ((gm_one w 69 b W S C D).below hb1); clear hb1))
    go_ret2
    exact ⟨rfl, HM1.out.bel⟩
end Go.Proofs.Ytmnicdankdapgaa
