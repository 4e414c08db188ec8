/- ring: the shape, its cells, Open. -/
import Derived.Test.YtgjdjdgondpjeaaGreatTa
namespace Go.Proofs.YtgjdjdgondpjeaaGreat
open Go.RowKit Go.Lib
set_option linter.unusedVariables false
theorem Tryz.info42 : (Tryz.prog.info? 42).map (fun i => (i.zero, i.size, i.bytes)) = some (some (.agg #[.int .u64 0, .int .u64 0]), 2, 16) := by kernel_rfl
def qAgg (b C : Int) : Value := .agg #[.int .i64 b, .int .i64 C]
def OkR (b C : Int) : Prop := (2 ≤ C ∧ C ≤ 65536) ∧ 0 ≤ b ∧ b + (2 + 3 * C) ≤ 16777216
instance (b C : Int) : Decidable (OkR b C) := by unfold OkR; infer_instance
theorem box2 (w : World) (x0 x1 : Value) (t : TypeId) :
    (w.alloc (.cells #[x0, x1] t)).cell? ⟨w.heap.size, 0, none⟩ = some x0 ∧ (w.alloc (.cells #[x0, x1] t)).cell? ⟨w.heap.size, 1, none⟩ = some x1 ∧ Below w.heap.size w (w.alloc (.cells #[x0, x1] t)) := by
  have hbk : (w.alloc (.cells #[x0, x1] t)).heap[w.heap.size]? = some (.cells #[x0, x1] t (0, 0)) := heap_new _ _
  exact ⟨cell_of hbk rfl, cell_of hbk rfl, (Below.refl _ _).alloc (Nat.le_refl _) _⟩
theorem qCells_any (b C : Int) (w : World) (h1 : 2 ≤ C) (h2 : C ≤ 65536) :
    Calls Tryz.prog 67 #[qAgg b C] w fun e w' => e = .returned (.int .i64 (2 + 3 * C)) ∧ Below w.heap.size w w' := by
  unfold qAgg
  go_enter Tryz.func67, Tryz.ntmps67
  go_wp2
  go_ret
  exact ⟨rfl, (Below.refl _ _).alloc (Nat.le_refl _) _⟩
set_option maxRecDepth 100000 in
theorem qCheck_num (b C : Int) (w : World) (h : ¬ (2 ≤ C ∧ C ≤ 65536)) :
    Calls Tryz.prog 65 #[qAgg b C] w fun e w' => e = .returned (.int .i64 60) ∧ Below w.heap.size w w' := by
  unfold qAgg
  go_enter Tryz.func65, Tryz.ntmps65
  go_wp2
  all_goals first
    | (exfalso; omega)
    | (go_ret; exact ⟨rfl, (Below.refl _ _).alloc (Nat.le_refl _) _⟩)
set_option maxRecDepth 100000 in
theorem qCheck_neg (b C : Int) (w : World) (h1 : 2 ≤ C) (h2 : C ≤ 65536) (hb : b < 0) :
    Calls Tryz.prog 65 #[qAgg b C] w fun e w' => e = .returned (.int .i64 60) ∧ Below w.heap.size w w' := by
  unfold qAgg
  obtain ⟨c0, c1, hB⟩ := box2 w (.int .i64 b) (.int .i64 C) 121
  have x0 := gw_cell c0
  have HB := hide hB
  clear c0 c1 hB
  have hd : decide (b < 0) = true := decide_eq_true hb
  go_enter Tryz.func65, Tryz.ntmps65
  go_wp2_with fail
  refine wp_region_gw (by kernel_rfl) (by kernel_rfl) ?_
  repeat (go_big_quiet_step (rfl))
  refine wpQuiet_nil ?_
  intro _ hw'
  obtain ⟨x, hw''⟩ := hw'
  subst hw''
  go_wp2
  go_ret
  exact ⟨rfl, below_on HB.out x.bel⟩
set_option maxRecDepth 100000 in
theorem qCheck_rest (b C : Int) (w : World) (h1 : 2 ≤ C) (h2 : C ≤ 65536) (hb : ¬ b < 0) :
    Calls Tryz.prog 65 #[qAgg b C] w fun e w' => e = .returned (.int .i64 (if b + (2 + 3 * C) ≤ 16777216 then 0 else 60)) ∧ Below w.heap.size w w' := by
  unfold qAgg
  obtain ⟨c0, c1, hB⟩ := box2 w (.int .i64 b) (.int .i64 C) 121
  have x0 := gw_cell c0; have x1 := gw_cell c1
  have HB := hide hB
  clear c0 c1 hB
  have hd : decide (b < 0) = false := decide_eq_false hb
  have HS := hide (fun w => qCells_any b C w h1 h2)
  unfold qAgg at HS
  go_enter Tryz.func65, Tryz.ntmps65
  go_wp2_with fail
  refine wp_region_gw (by kernel_rfl) (by kernel_rfl) ?_
  repeat (go_big_quiet_step (first
    | (go_at_call 67; exact gw_of (HS.out _))
    | rfl))
  refine wpQuiet_nil ?_
  intro _ hw'
  obtain ⟨x, hw''⟩ := hw'
  subst hw''
  go_wp2
  all_goals first
    | (exfalso; omega)
    | (go_ret; exact ⟨rfl, below_on HB.out x.bel⟩)
theorem qCheck_any (b C : Int) (w : World) :
    Calls Tryz.prog 65 #[qAgg b C] w fun e w' => e = .returned (.int .i64 (if OkR b C then 0 else 60)) ∧ Below w.heap.size w w' := by
  by_cases h : 2 ≤ C ∧ C ≤ 65536
  · by_cases hb : b < 0
    · rw [if_neg (fun hk => by have := hk.2.1; omega)]; exact qCheck_neg b C w h.1 h.2 hb
    · refine (qCheck_rest b C w h.1 h.2 hb).mono ?_
      rintro e w' ⟨rfl, k⟩
      by_cases hk : b + (2 + 3 * C) ≤ 16777216
      · rw [if_pos hk, if_pos ⟨h, by omega, hk⟩]; exact ⟨rfl, k⟩
      · rw [if_neg hk, if_neg (fun hh => hk hh.2.2)]; exact ⟨rfl, k⟩
  · rw [if_neg (fun hk => h hk.1)]; exact qCheck_num b C w h
set_option maxRecDepth 100000 in
set_option maxHeartbeats 2000000 in
theorem valid_any (b C : Int) (w : World) :
    Calls Tryz.prog 73 #[qAgg b C] w fun e w' => e = .returned (.bool (decide (OkR b C))) ∧ Below w.heap.size w w' := by
  by_cases h : OkR b C
  · rw [decide_eq_true h]
    obtain ⟨⟨h1, h2⟩, h3, h4⟩ := h
    have d1 : decide (0 ≤ b) = true := decide_eq_true h3
    have d2 : b ≤ 16777216 := by omega
    have d3 : b + 2 + 3 * C ≤ 16777216 := by omega
    unfold qAgg
    go_enter Tryz.func73, Tryz.ntmps73
    go_wp2
    all_goals first
      | (exfalso; omega)
      | (go_ret; exact ⟨rfl, (Below.refl _ _).alloc (Nat.le_refl _) _⟩)
      | (go_ret; exact ⟨by simp; omega, (Below.refl _ _).alloc (Nat.le_refl _) _⟩)
  · rw [decide_eq_false h]
    unfold OkR at h
    unfold qAgg
    go_enter Tryz.func73, Tryz.ntmps73
    go_wp2
    all_goals first
      | (exfalso; omega)
      | (go_ret; exact ⟨rfl, (Below.refl _ _).alloc (Nat.le_refl _) _⟩)
      | (go_ret; exact ⟨by simp; omega, (Below.refl _ _).alloc (Nat.le_refl _) _⟩)
theorem tailCell_any (C : Int) (w : World) :
    Calls Tryz.prog 68 #[qAgg 0 C] w fun e w' => e = .returned (.int .i64 0) ∧ Below w.heap.size w w' := by
  unfold qAgg
  go_enter Tryz.func68, Tryz.ntmps68
  go_wp2
  go_ret
  exact ⟨rfl, (Below.refl _ _).alloc (Nat.le_refl _) _⟩
theorem turnCell_any (C : Int) (s : Int) (w : World) (h1 : 0 ≤ s) (h2 : s ≤ 65536) :
    Calls Tryz.prog 69 #[qAgg 0 C, .int .i64 s] w fun e w' => e = .returned (.int .i64 (2 + 3 * s)) ∧ Below w.heap.size w w' := by
  unfold qAgg
  go_enter Tryz.func69, Tryz.ntmps69
  go_wp2
  go_ret
  exact ⟨rfl, (Below.refl _ _).alloc (Nat.le_refl _) _⟩
set_option maxRecDepth 100000 in
theorem keyCellR_any (C : Int) (s : Int) (w : World) (h1 : 0 ≤ s) (h2 : s ≤ 65536) :
    Calls Tryz.prog 70 #[qAgg 0 C, .int .i64 s] w fun e w' => e = .returned (.int .i64 (2 + 3 * s + 1)) ∧ Below w.heap.size w w' := by
  have HS := hide (fun w => turnCell_any C s w h1 h2)
  unfold qAgg at HS ⊢
  go_enter Tryz.func70, Tryz.ntmps70
  go_wp2_with (go_at_call 69; refine (HS.out _).mono ?_; rintro e w2 ⟨rfl, hbel⟩)
  go_ret
  exact ⟨rfl, below_on ((Below.refl _ _).alloc (Nat.le_refl _) _) hbel⟩
set_option maxRecDepth 100000 in
theorem loadCellR_any (C : Int) (s : Int) (w : World) (h1 : 0 ≤ s) (h2 : s ≤ 65536) :
    Calls Tryz.prog 71 #[qAgg 0 C, .int .i64 s] w fun e w' => e = .returned (.int .i64 (2 + 3 * s + 2)) ∧ Below w.heap.size w w' := by
  have HS := hide (fun w => turnCell_any C s w h1 h2)
  unfold qAgg at HS ⊢
  go_enter Tryz.func71, Tryz.ntmps71
  go_wp2_with (go_at_call 69; refine (HS.out _).mono ?_; rintro e w2 ⟨rfl, hbel⟩)
  go_ret
  exact ⟨rfl, below_on ((Below.refl _ _).alloc (Nat.le_refl _) _) hbel⟩
/-- A shape of two in its box B. -/
structure QM (w : World) (B : Nat) (ty : TypeId) (b C : Int) (X : World) : Prop where
  bx : X.heap[B]? = some (.cells #[.int .i64 b, .int .i64 C] ty (0, 0))
  bel : Below w.heap.size w X
  hB : w.heap.size ≤ B
theorem QM.below {w : World} {B : Nat} {ty : TypeId} {b C : Int} {X Y : World} (h : QM w B ty b C X) (hb : Below X.heap.size X Y) : QM w B ty b C Y :=
  ⟨(hb.block _ (lt_of_heap h.bx)).trans h.bx, below_on h.bel hb, h.hB⟩
theorem QM.two {w : World} {B : Nat} {ty : TypeId} {b C : Int} {X : World} (h : QM w B ty b C X) :
    X.cell? ⟨B, 0, none⟩ = some (.int .i64 b) ∧ X.cell? ⟨B, 1, none⟩ = some (.int .i64 C) := ⟨cell_of h.bx rfl, cell_of h.bx rfl⟩
theorem QM.zero {w : World} {B : Nat} {ty : TypeId} {b C : Int} {X : World} (h : QM w B ty b C X) : QM w B ty 0 C (X.setCell ⟨B, 0, none⟩ (.int .i64 0)) :=
  ⟨by rw [heap_set h.bx]; rfl, h.bel.setCell (p := ⟨B, 0, none⟩) h.hB _, h.hB⟩
theorem qm_one (w : World) (ty : TypeId) (b C : Int) : QM w w.heap.size ty b C (w.alloc (.cells #[.int .i64 b, .int .i64 C] ty)) :=
  ⟨heap_new _ _, below_alloc (Below.refl _ _) _, Nat.le_refl _⟩
theorem qm_two (w : World) (ty : TypeId) (o : Obj) (b C : Int) : QM w (w.heap.size + 1) ty b C ((w.alloc o).alloc (.cells #[.int .i64 b, .int .i64 C] ty)) := by
  have e := heap_new (w.alloc o) (.cells #[.int .i64 b, .int .i64 C] ty)
  rw [show (w.alloc o).heap.size = w.heap.size + 1 by simp] at e
  exact ⟨e, below_alloc (below_alloc (Below.refl _ _) _) _, by omega⟩
end Go.Proofs.YtgjdjdgondpjeaaGreat
