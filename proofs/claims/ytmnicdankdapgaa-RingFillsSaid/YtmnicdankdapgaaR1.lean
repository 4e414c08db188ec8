/- ring: the shape, its cells, Open. -/
import Derived.Test.YtmnicdankdapgaaS4
namespace Go.Proofs.Ytmnicdankdapgaa
open Go.RowKit Go.Lib
set_option linter.unusedVariables false
def qAgg (b C : Int) : Value := .agg #[.int .i64 b, .int .i64 C]
def OkR (b C : Int) : Prop := (2 ≤ C ∧ C ≤ 65536) ∧ 0 ≤ b ∧ b + (2 + 3 * C) ≤ 16777216
instance (b C : Int) : Decidable (OkR b C) := by unfold OkR; infer_instance
theorem box2 (w : World) (x0 x1 : Value) (t : TypeId) :
    (w.alloc (.cells #[x0, x1] t)).cell? ⟨w.heap.size, 0, none⟩ = some x0 ∧ (w.alloc (.cells #[x0, x1] t)).cell? ⟨w.heap.size, 1, none⟩ = some x1 ∧ Below w.heap.size w (w.alloc (.cells #[x0, x1] t)) := by
  have hbk : (w.alloc (.cells #[x0, x1] t)).heap[w.heap.size]? = some (.cells #[x0, x1] t (0, 0)) := heap_new _ _
  exact ⟨cell_of hbk rfl, cell_of hbk rfl, (Below.refl _ _).alloc (Nat.le_refl _) _⟩
theorem qCells_any (b C : Int) (w : World) (h1 : 2 ≤ C) (h2 : C ≤ 65536) :
    Calls Try.prog 42 #[qAgg b C] w fun e w' => e = .returned (.int .i64 (2 + 3 * C)) ∧ Below w.heap.size w w' := by
  unfold qAgg
  go_enter Try.func42, Try.ntmps42
  go_wp2
  go_ret
  exact ⟨rfl, (Below.refl _ _).alloc (Nat.le_refl _) _⟩
set_option maxRecDepth 100000 in
theorem qCheck_num (b C : Int) (w : World) (h : ¬ (2 ≤ C ∧ C ≤ 65536)) :
    Calls Try.prog 41 #[qAgg b C] w fun e w' => e = .returned (.int .i64 60) ∧ Below w.heap.size w w' := by
  unfold qAgg
  go_enter Try.func41, Try.ntmps41
  go_wp2
  all_goals first
    | (exfalso; omega)
    | (go_ret; exact ⟨rfl, (Below.refl _ _).alloc (Nat.le_refl _) _⟩)
set_option maxRecDepth 100000 in
theorem qCheck_neg (b C : Int) (w : World) (h1 : 2 ≤ C) (h2 : C ≤ 65536) (hb : b < 0) :
    Calls Try.prog 41 #[qAgg b C] w fun e w' => e = .returned (.int .i64 60) ∧ Below w.heap.size w w' := by
  unfold qAgg
  obtain ⟨c0, c1, hB⟩ := box2 w (.int .i64 b) (.int .i64 C) 81
  have x0 := gw_cell c0
  have HB := hide hB
  clear c0 c1 hB
  have hd : decide (b < 0) = true := decide_eq_true hb
  go_enter Try.func41, Try.ntmps41
  go_wp2_with fail
  refine wp_region_gw (by kernel_rfl) (by kernel_rfl) ?_
  repeat (go_big_quiet_step (rfl))
  refine wpQuiet_nil ?_
  intro _ hw'
  obtain ⟨x, hw''⟩ := hw'
  subst hw''
  go_wp2
  go_ret
  exact ⟨rfl, below_on HB.out x.bel⟩
set_option maxRecDepth 100000 in
theorem qCheck_rest (b C : Int) (w : World) (h1 : 2 ≤ C) (h2 : C ≤ 65536) (hb : ¬ b < 0) :
    Calls Try.prog 41 #[qAgg b C] w fun e w' => e = .returned (.int .i64 (if b + (2 + 3 * C) ≤ 16777216 then 0 else 60)) ∧ Below w.heap.size w w' := by
  unfold qAgg
  obtain ⟨c0, c1, hB⟩ := box2 w (.int .i64 b) (.int .i64 C) 81
  have x0 := gw_cell c0; have x1 := gw_cell c1
  have HB := hide hB
  clear c0 c1 hB
  have hd : decide (b < 0) = false := decide_eq_false hb
  have HS := hide (fun w => qCells_any b C w h1 h2)
  unfold qAgg at HS
  go_enter Try.func41, Try.ntmps41
  go_wp2_with fail
  refine wp_region_gw (by kernel_rfl) (by kernel_rfl) ?_
  repeat (go_big_quiet_step (first
    | (go_at_call 42; exact gw_of (HS.out _))
    | rfl))
  refine wpQuiet_nil ?_
  intro _ hw'
  obtain ⟨x, hw''⟩ := hw'
  subst hw''
  go_wp2
  all_goals first
    | (exfalso; omega)
    | (go_ret; exact ⟨rfl, below_on HB.out x.bel⟩)
theorem qCheck_any (b C : Int) (w : World) :
    Calls Try.prog 41 #[qAgg b C] w fun e w' => e = .returned (.int .i64 (if OkR b C then 0 else 60)) ∧ Below w.heap.size w w' := by
  by_cases h : 2 ≤ C ∧ C ≤ 65536
  · by_cases hb : b < 0
    · rw [if_neg (fun hk => by have := hk.2.1; omega)]; exact qCheck_neg b C w h.1 h.2 hb
    · refine (qCheck_rest b C w h.1 h.2 hb).mono ?_
      rintro e w' ⟨rfl, k⟩
      by_cases hk : b + (2 + 3 * C) ≤ 16777216
      · rw [if_pos hk, if_pos ⟨h, by omega, hk⟩]; exact ⟨rfl, k⟩
      · rw [if_neg hk, if_neg (fun hh => hk hh.2.2)]; exact ⟨rfl, k⟩
  · rw [if_neg (fun hk => h hk.1)]; exact qCheck_num b C w h
set_option maxRecDepth 100000 in
set_option maxHeartbeats 2000000 in
theorem valid_any (b C : Int) (w : World) :
    Calls Try.prog 43 #[qAgg b C] w fun e w' => e = .returned (.bool (decide (OkR b C))) ∧ Below w.heap.size w w' := by
  by_cases h : OkR b C
  · rw [decide_eq_true h]
    obtain ⟨⟨h1, h2⟩, h3, h4⟩ := h
    have d1 : decide (0 ≤ b) = true := decide_eq_true h3
    have d2 : b ≤ 16777216 := by omega
    have d3 : b + 2 + 3 * C ≤ 16777216 := by omega
    unfold qAgg
    go_enter Try.func43, Try.ntmps43
    go_wp2
    all_goals first
      | (exfalso; omega)
      | (go_ret; exact ⟨rfl, (Below.refl _ _).alloc (Nat.le_refl _) _⟩)
      | (go_ret; exact ⟨by simp; omega, (Below.refl _ _).alloc (Nat.le_refl _) _⟩)
  · rw [decide_eq_false h]
    unfold OkR at h
    unfold qAgg
    go_enter Try.func43, Try.ntmps43
    go_wp2
    all_goals first
      | (exfalso; omega)
      | (go_ret; exact ⟨rfl, (Below.refl _ _).alloc (Nat.le_refl _) _⟩)
      | (go_ret; exact ⟨by simp; omega, (Below.refl _ _).alloc (Nat.le_refl _) _⟩)
theorem tailCell_any (C : Int) (w : World) :
    Calls Try.prog 45 #[qAgg 0 C] w fun e w' => e = .returned (.int .i64 0) ∧ Below w.heap.size w w' := by
  unfold qAgg
  go_enter Try.func45, Try.ntmps45
  go_wp2
  go_ret
  exact ⟨rfl, (Below.refl _ _).alloc (Nat.le_refl _) _⟩
theorem turnCell_any (C : Int) (s : Int) (w : World) (h1 : 0 ≤ s) (h2 : s ≤ 65536) :
    Calls Try.prog 46 #[qAgg 0 C, .int .i64 s] w fun e w' => e = .returned (.int .i64 (2 + 3 * s)) ∧ Below w.heap.size w w' := by
  unfold qAgg
  go_enter Try.func46, Try.ntmps46
  go_wp2
  go_ret
  exact ⟨rfl, (Below.refl _ _).alloc (Nat.le_refl _) _⟩
set_option maxRecDepth 100000 in
theorem keyCellR_any (C : Int) (s : Int) (w : World) (h1 : 0 ≤ s) (h2 : s ≤ 65536) :
    Calls Try.prog 47 #[qAgg 0 C, .int .i64 s] w fun e w' => e = .returned (.int .i64 (2 + 3 * s + 1)) ∧ Below w.heap.size w w' := by
  have HS := hide (fun w => turnCell_any C s w h1 h2)
  unfold qAgg at HS ⊢
  go_enter Try.func47, Try.ntmps47
  go_wp2_with (go_at_call 46; refine (HS.out _).mono ?_; rintro e w2 ⟨rfl, hbel⟩)
  go_ret
  exact ⟨rfl, below_on ((Below.refl _ _).alloc (Nat.le_refl _) _) hbel⟩
set_option maxRecDepth 100000 in
theorem loadCellR_any (C : Int) (s : Int) (w : World) (h1 : 0 ≤ s) (h2 : s ≤ 65536) :
    Calls Try.prog 48 #[qAgg 0 C, .int .i64 s] w fun e w' => e = .returned (.int .i64 (2 + 3 * s + 2)) ∧ Below w.heap.size w w' := by
  have HS := hide (fun w => turnCell_any C s w h1 h2)
  unfold qAgg at HS ⊢
  go_enter Try.func48, Try.ntmps48
  go_wp2_with (go_at_call 46; refine (HS.out _).mono ?_; rintro e w2 ⟨rfl, hbel⟩)
  go_ret
  exact ⟨rfl, below_on ((Below.refl _ _).alloc (Nat.le_refl _) _) hbel⟩
/-- A shape of two in its box B. -/
structure QM (w : World) (B : Nat) (ty : TypeId) (b C : Int) (X : World) : Prop where
  bx : X.heap[B]? = some (.cells #[.int .i64 b, .int .i64 C] ty (0, 0))
  bel : Below w.heap.size w X
  hB : w.heap.size ≤ B
theorem QM.below {w : World} {B : Nat} {ty : TypeId} {b C : Int} {X Y : World} (h : QM w B ty b C X) (hb : Below X.heap.size X Y) : QM w B ty b C Y :=
  ⟨(hb.block _ (lt_of_heap h.bx)).trans h.bx, below_on h.bel hb, h.hB⟩
theorem QM.two {w : World} {B : Nat} {ty : TypeId} {b C : Int} {X : World} (h : QM w B ty b C X) :
    X.cell? ⟨B, 0, none⟩ = some (.int .i64 b) ∧ X.cell? ⟨B, 1, none⟩ = some (.int .i64 C) := ⟨cell_of h.bx rfl, cell_of h.bx rfl⟩
theorem QM.zero {w : World} {B : Nat} {ty : TypeId} {b C : Int} {X : World} (h : QM w B ty b C X) : QM w B ty 0 C (X.setCell ⟨B, 0, none⟩ (.int .i64 0)) :=
  ⟨by rw [heap_set h.bx]; rfl, h.bel.setCell (p := ⟨B, 0, none⟩) h.hB _, h.hB⟩
theorem qm_one (w : World) (ty : TypeId) (b C : Int) : QM w w.heap.size ty b C (w.alloc (.cells #[.int .i64 b, .int .i64 C] ty)) :=
  ⟨heap_new _ _, below_alloc (Below.refl _ _) _, Nat.le_refl _⟩
theorem qm_two (w : World) (ty : TypeId) (o : Obj) (b C : Int) : QM w (w.heap.size + 1) ty b C ((w.alloc o).alloc (.cells #[.int .i64 b, .int .i64 C] ty)) := by
  have e := heap_new (w.alloc o) (.cells #[.int .i64 b, .int .i64 C] ty)
  rw [show (w.alloc o).heap.size = w.heap.size + 1 by simp] at e
  exact ⟨e, below_alloc (below_alloc (Below.refl _ _) _) _, by omega⟩
set_option maxRecDepth 100000 in
theorem ringCells_any (b C : Int) (w : World) :
    Calls Try.prog 6 #[qAgg b C] w fun e w' => e = .returned (.tuple #[.int .i64 (if OkR b C then 2 + 3 * C else 0), .int .i64 (if OkR b C then 0 else 60)]) ∧ Below w.heap.size w w' := by
  by_cases h : OkR b C
  · have HC := hide (fun w => qCheck_any b C w)
    rw [if_pos h, if_pos h]
    rw [if_pos h] at HC
    have HS := hide (fun w => qCells_any b C w h.1.1 h.1.2)
    unfold qAgg at HC HS ⊢
    clear h
    go_enter Try.func6, Try.ntmps6
    go_wp2_with (first
      | (go_at_call 41; refine (HC.out _).mono ?_; rintro e w2 ⟨rfl, hb1⟩; have hm1 := (qm_two w 81 _ b C).below hb1; obtain ⟨s0, s1⟩ := hm1.two; have HM1 := hide hm1; clear hb1 hm1)
      | (go_at_call 42; refine (HS.out _).mono ?_; rintro e w3 ⟨rfl, hb2⟩))
    go_ret2
    exact ⟨rfl, below_on HM1.out.bel hb2⟩
  · have HC := hide (fun w => qCheck_any b C w)
    rw [if_neg h, if_neg h]
    rw [if_neg h] at HC
    unfold qAgg at HC ⊢
    clear h
    go_enter Try.func6, Try.ntmps6
    go_wp2_with (first
      | (go_at_call 41; refine (HC.out _).mono ?_; rintro e w2 ⟨rfl, hb1⟩; have HM1 := hide ((qm_two w 81 _ b C).below hb1); clear hb1))
    go_ret2
    exact ⟨rfl, HM1.out.bel⟩
set_option maxRecDepth 100000 in
theorem refCellsR_any (b C : Int) (w : World) :
    Calls Try.prog 7 #[qAgg b C] w fun e w' => e = .returned (.tuple #[.int .i64 (if OkR b C then 2 + 3 * C else 0), .int .i64 (if OkR b C then 0 else 60)]) ∧ Below w.heap.size w w' := by
  by_cases h : OkR b C
  · have HC := hide (fun w => valid_any b C w)
    rw [if_pos h, if_pos h]
    rw [decide_eq_true h] at HC
    obtain ⟨⟨h1, h2⟩, _⟩ := h
    unfold qAgg at HC ⊢
    go_enter Try.func7, Try.ntmps7
    go_wp2_with (first
      | (go_at_call 43; refine (HC.out _).mono ?_; rintro e w2 ⟨rfl, hb1⟩; have hm1 := (qm_one w 23 b C).below hb1; obtain ⟨s0, s1⟩ := hm1.two; have HM1 := hide hm1; clear hb1 hm1))
    go_ret2
    exact ⟨rfl, HM1.out.bel⟩
  · have HC := hide (fun w => valid_any b C w)
    rw [if_neg h, if_neg h]
    rw [decide_eq_false h] at HC
    unfold qAgg at HC ⊢
    clear h
    go_enter Try.func7, Try.ntmps7
    go_wp2_with (first
      | (go_at_call 43; refine (HC.out _).mono ?_; rintro e w2 ⟨rfl, hb1⟩; have HM1 := hide ((qm_one w 23 b C).below hb1); clear hb1))
    go_ret2
    exact ⟨rfl, HM1.out.bel⟩
def openR (b C who : Int) : Int := if OkR b C then (if who < 0 then 6 else 0) else 60
def OpenRP (w : World) (err : Int) (e : Ending) (w' : World) : Prop :=
  Below w.heap.size w w' ∧ ((err ≠ 0 ∧ e = .returned (.tuple #[.pointer none, .int .i64 err])) ∨ (err = 0 ∧ ∃ h : Nat, e = .returned (.tuple #[.pointer (some ⟨h, 0, none⟩), .int .i64 err])))
set_option maxRecDepth 100000 in
set_option maxHeartbeats 2000000 in
theorem ringOpen_any (b C who : Int) (w : World) : Calls Try.prog 13 #[qAgg b C, .int .i64 who] w (OpenRP w (openR b C who)) := by
  have HC := hide (fun w => qCheck_any b C w)
  by_cases h : OkR b C
  · rw [if_pos h] at HC
    unfold openR
    rw [if_pos h]
    unfold qAgg at HC ⊢
    clear h
    by_cases hw : who < 0
    · rw [if_pos hw]
      go_enter Try.func13, Try.ntmps13
      go_wp2_with (go_at_call 41; refine (HC.out _).mono ?_; rintro e w2 ⟨rfl, hb1⟩; have hm1 := (qm_two w 81 _ b C).below hb1; obtain ⟨s0, s1⟩ := hm1.two; have HM1 := hide hm1; clear hb1 hm1)
      go_ret2
      exact ⟨HM1.out.bel, .inl ⟨by decide, rfl⟩⟩
    · rw [if_neg hw]
      go_enter Try.func13, Try.ntmps13
      go_wp2_with (go_at_call 41; refine (HC.out _).mono ?_; rintro e w2 ⟨rfl, hb1⟩; have hm1 := (qm_two w 81 _ b C).below hb1; obtain ⟨s0, s1⟩ := hm1.two; have HM1 := hide hm1; clear hb1 hm1)
      go_ret2
      exact ⟨below_alloc HM1.out.bel _, .inr ⟨rfl, _, rfl⟩⟩
  · rw [if_neg h] at HC
    unfold openR
    rw [if_neg h]
    unfold qAgg at HC ⊢
    clear h
    go_enter Try.func13, Try.ntmps13
    go_wp2_with (go_at_call 41; refine (HC.out _).mono ?_; rintro e w2 ⟨rfl, hb1⟩; have HM1 := hide ((qm_two w 81 _ b C).below hb1); clear hb1)
    go_ret2
    exact ⟨HM1.out.bel, .inl ⟨by decide, rfl⟩⟩
set_option maxRecDepth 100000 in
set_option maxHeartbeats 2000000 in
theorem refOpenR_any (b C who : Int) (w : World) : Calls Try.prog 14 #[qAgg b C, .int .i64 who] w (OpenRP w (openR b C who)) := by
  have HC := hide (fun w => valid_any b C w)
  by_cases h : OkR b C
  · rw [decide_eq_true h] at HC
    unfold openR
    rw [if_pos h]
    unfold qAgg at HC ⊢
    clear h
    by_cases hw : who < 0
    · rw [if_pos hw]
      go_enter Try.func14, Try.ntmps14
      go_wp2_with (go_at_call 43; refine (HC.out _).mono ?_; rintro e w2 ⟨rfl, hb1⟩; have hm1 := (qm_one w 23 b C).below hb1; obtain ⟨s0, s1⟩ := hm1.two; have HM1 := hide hm1; clear hb1 hm1)
      go_ret2
      exact ⟨HM1.out.bel, .inl ⟨by decide, rfl⟩⟩
    · rw [if_neg hw]
      go_enter Try.func14, Try.ntmps14
      go_wp2_with (go_at_call 43; refine (HC.out _).mono ?_; rintro e w2 ⟨rfl, hb1⟩; have hm1 := (qm_one w 23 b C).below hb1; obtain ⟨s0, s1⟩ := hm1.two; have HM1 := hide hm1; clear hb1 hm1)
      go_ret2
      exact ⟨below_alloc HM1.out.bel _, .inr ⟨rfl, _, rfl⟩⟩
  · rw [decide_eq_false h] at HC
    unfold openR
    rw [if_neg h]
    unfold qAgg at HC ⊢
    clear h
    go_enter Try.func14, Try.ntmps14
    go_wp2_with (go_at_call 43; refine (HC.out _).mono ?_; rintro e w2 ⟨rfl, hb1⟩; have HM1 := hide ((qm_one w 23 b C).below hb1); clear hb1)
    go_ret2
    exact ⟨HM1.out.bel, .inl ⟨by decide, rfl⟩⟩
end Go.Proofs.Ytmnicdankdapgaa
