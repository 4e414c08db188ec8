/- A ring's cells with a base: head, tail, turn, key, load; slot; task. -/
import Derived.Test.YtgjdjdgondpjeaaGreatTo
import Derived.Test.YtgjdjdgondpjeaaGreatRg
import Derived.Deep.RegionHeld3
namespace Go.Proofs.YtgjdjdgondpjeaaGreat
open Go.RowKit Go.Lib
set_option linter.unusedVariables false
set_option linter.unusedSimpArgs false
theorem headCell_b (b C : Int) (w : World) (h1 : 0 ≤ b) (h2 : b ≤ 16777216) :
    Calls Tryz.prog 83 #[qAgg b C] w fun e w' => e = .returned (.int .i64 (b + 1)) ∧ Below w.heap.size w w' := by
  unfold qAgg
  go_enter Tryz.func83, Tryz.ntmps83
  go_wp2
  go_ret
  exact ⟨rfl, (Below.refl _ _).alloc (Nat.le_refl _) _⟩
theorem tailCell_b (b C : Int) (w : World) :
    Calls Tryz.prog 68 #[qAgg b C] w fun e w' => e = .returned (.int .i64 b) ∧ Below w.heap.size w w' := by
  unfold qAgg
  go_enter Tryz.func68, Tryz.ntmps68
  go_wp2
  go_ret
  exact ⟨rfl, (Below.refl _ _).alloc (Nat.le_refl _) _⟩
theorem turnCell_b (b C : Int) (s : Int) (w : World) (b1 : 0 ≤ b) (b2 : b ≤ 16777216) (h1 : 0 ≤ s) (h2 : s ≤ 65536) :
    Calls Tryz.prog 69 #[qAgg b C, .int .i64 s] w fun e w' => e = .returned (.int .i64 (b + 2 + 3 * s)) ∧ Below w.heap.size w w' := by
  unfold qAgg
  go_enter Tryz.func69, Tryz.ntmps69
  go_wp2
  go_ret
  exact ⟨rfl, (Below.refl _ _).alloc (Nat.le_refl _) _⟩
set_option maxRecDepth 100000 in
theorem keyCell_b (b C : Int) (s : Int) (w : World) (b1 : 0 ≤ b) (b2 : b ≤ 16777216) (h1 : 0 ≤ s) (h2 : s ≤ 65536) :
    Calls Tryz.prog 70 #[qAgg b C, .int .i64 s] w fun e w' => e = .returned (.int .i64 (b + 2 + 3 * s + 1)) ∧ Below w.heap.size w w' := by
  have HS := hide (fun w => turnCell_b b C s w b1 b2 h1 h2)
  unfold qAgg at HS ⊢
  go_enter Tryz.func70, Tryz.ntmps70
  go_wp2_with (go_at_call 69; refine (HS.out _).mono ?_; rintro e w2 ⟨rfl, hbel⟩)
  go_ret
  exact ⟨rfl, below_on ((Below.refl _ _).alloc (Nat.le_refl _) _) hbel⟩
set_option maxRecDepth 100000 in
theorem loadCell_b (b C : Int) (s : Int) (w : World) (b1 : 0 ≤ b) (b2 : b ≤ 16777216) (h1 : 0 ≤ s) (h2 : s ≤ 65536) :
    Calls Tryz.prog 71 #[qAgg b C, .int .i64 s] w fun e w' => e = .returned (.int .i64 (b + 2 + 3 * s + 2)) ∧ Below w.heap.size w w' := by
  have HS := hide (fun w => turnCell_b b C s w b1 b2 h1 h2)
  unfold qAgg at HS ⊢
  go_enter Tryz.func71, Tryz.ntmps71
  go_wp2_with (go_at_call 69; refine (HS.out _).mono ?_; rintro e w2 ⟨rfl, hbel⟩)
  go_ret
  exact ⟨rfl, below_on ((Below.refl _ _).alloc (Nat.le_refl _) _) hbel⟩
theorem slot_b (b C : Int) (p : Int) (w : World) (c1 : 2 ≤ C) (c2 : C ≤ 65536) (h1 : 0 ≤ p) (h2 : p < 18446744073709551616) :
    Calls Tryz.prog 76 #[qAgg b C, .int .u64 p] w fun e w' => e = .returned (.int .i64 (p % C)) ∧ Below w.heap.size w w' := by
  unfold qAgg
  have e3 := Int.emod_nonneg p (show C ≠ 0 by omega)
  have e4 : p % C < C := Int.emod_lt_of_pos p (by omega)
  have hC0 : ¬ C = 0 := by omega
  have hCb : (C == 0) = false := by simpa using hC0
  go_enter Tryz.func76, Tryz.ntmps76
  go_wp2
  go_ret
  exact ⟨rfl, (Below.refl _ _).alloc (Nat.le_refl _) _⟩
structure LQ (w : World) (b C z0 z1 : Int) (X : World) : Prop where
  m : QM w w.heap.size 121 b C X
  r : X.heap[w.heap.size + 1]? = some (.cells #[.int .u64 z0, .int .u64 z1] 42 (0, 0))
theorem LQ.below {w X Y : World} {b C z0 z1 : Int} (h : LQ w b C z0 z1 X) (hb : Below X.heap.size X Y) : LQ w b C z0 z1 Y := ⟨h.m.below hb, (hb.block _ (lt_of_heap h.r)).trans h.r⟩
theorem LQ.drew {w X : World} {b C z0 z1 : Int} (h : LQ w b C z0 z1 X) : LQ w b C z0 z1 X.drew := h.below (below_drew (Below.refl _ _))
theorem lq_one (w : World) (b C : Int) : LQ w b C 0 0 ((w.alloc (.cells #[.int .i64 b, .int .i64 C] 121)).alloc (.cells #[.int .u64 0, .int .u64 0] 42)) := by
  refine ⟨(qm_one w 121 b C).below (below_alloc (Below.refl _ _) _), ?_⟩
  have e := heap_new (w.alloc (.cells #[.int .i64 b, .int .i64 C] 121)) (.cells #[.int .u64 0, .int .u64 0] 42)
  rw [show (w.alloc (.cells #[.int .i64 b, .int .i64 C] 121)).heap.size = w.heap.size + 1 by simp] at e
  exact e
theorem LQ.put {w X : World} {b C z0 z1 : Int} (h : LQ w b C z0 z1 X) (x y : Int) : LQ w b C x y ((X.setCell ⟨w.heap.size + 1, 0, none⟩ (.int .u64 x)).setCell ⟨w.heap.size + 1, 1, none⟩ (.int .u64 y)) := by
  refine ⟨⟨((But.setCell X ⟨w.heap.size + 1, 0, none⟩ _).trans (But.setCell _ ⟨w.heap.size + 1, 1, none⟩ _)).heap h.m.bx (by show w.heap.size ≠ w.heap.size + 1; omega), ?_, Nat.le_refl _⟩, ?_⟩
  · exact (h.m.bel.setCell (p := ⟨w.heap.size + 1, 0, none⟩) (by show w.heap.size ≤ w.heap.size + 1; omega) _).setCell (p := ⟨w.heap.size + 1, 1, none⟩) (by show w.heap.size ≤ w.heap.size + 1; omega) _
  · rw [heap_set (heap_set h.r _) _]; rfl
set_option maxRecDepth 100000 in
set_option maxHeartbeats 2000000 in
theorem task_b (b C : Int) (s : Int) (g o n c : Nat) (x y : Int) (w : World) (b1 : 0 ≤ b) (h1 : 0 ≤ s) (h2 : s ≤ 65536) (hn : b + 2 + 3 * s + 2 < n) (hb : b ≤ 16777216) (hnc : n ≤ c) (k1 k2 : Nat) (e1 : b + 2 + 3 * s + 1 = (k1 : Int)) (e2 : b + 2 + 3 * s + 2 = (k2 : Int))
    (hx : w.cell? ⟨g, o + k1, none⟩ = some (.int .u64 x)) (hy : w.cell? ⟨g, o + k2, none⟩ = some (.int .u64 y)) :
    Calls Tryz.prog 93 #[qAgg b C, .slice (some ⟨g, o, none⟩) n c, .int .i64 s] w fun e w' => e = .returned (.agg #[.int .u64 x, .int .u64 y]) ∧ Below w.heap.size w w' := by
  have HK := hide (fun w => keyCell_b b C s w b1 hb h1 h2)
  have HL := hide (fun w => loadCell_b b C s w b1 hb h1 h2)
  rw [e1] at HK
  rw [e2] at HL
  have HQ := hide (lq_one w b C)
  have HX := hide (fun X (hX : Below w.heap.size w X) => And.intro ((below_cell hX (block_of_cell hx)).trans hx) ((below_cell hX (block_of_cell hy)).trans hy))
  have j1 : (k1 : Int) < (n : Int) := by omega
  have j2 : (k2 : Int) < (n : Int) := by omega
  clear hx hy e1 e2 hn
  unfold qAgg at HK HL ⊢
  go_enter Tryz.func93, Tryz.ntmps93
  go_wp2_with fail
  generalize ((w.alloc (.cells #[.int .i64 b, .int .i64 C] 121)).alloc (.cells #[.int .u64 0, .int .u64 0] 42)) = W2 at HQ ⊢
  have HC : Hid (∀ z0 z1 X, LQ w b C z0 z1 X → X.cell? ⟨w.heap.size, 0, none⟩ = some (.int .i64 b) ∧ X.cell? ⟨w.heap.size, 1, none⟩ = some (.int .i64 C) ∧ X.cell? ⟨g, o + k1, none⟩ = some (.int .u64 x) ∧ X.cell? ⟨g, o + k2, none⟩ = some (.int .u64 y)) := fun z0 z1 X hX => ⟨hX.m.two.1, hX.m.two.2, HX.out X hX.m.bel⟩
  obtain ⟨c0, c1, c2, c3⟩ := HC.out _ _ _ HQ.out
  replace HQ := hide HQ.out.drew
  refine wp_region_noPanic ?_
  go_region_held3 (fun X => X.cell? ⟨w.heap.size, 0, none⟩ = some (.int .i64 b) ∧ X.cell? ⟨w.heap.size, 1, none⟩ = some (.int .i64 C) ∧ X.cell? ⟨g, o + k1, none⟩ = some (.int .u64 x) ∧ X.cell? ⟨g, o + k2, none⟩ = some (.int .u64 y))
    (first | exact HC.out _ _ _ HQ.out | exact HC.out _ _ _ (HQ.out.put x y) | go_keep)
    (first
      | (go_at_call 70; refine (HK.out _).mono ?_; rintro e w3 ⟨rfl, hb3⟩; replace HQ := hide (HQ.out.below hb3); clear hb3)
      | (go_at_call 71; refine (HL.out _).mono ?_; rintro e w4 ⟨rfl, hb4⟩; replace HQ := hide (HQ.out.below hb4); clear hb4; have f0 := free_of HQ.out.r 0; have f1 := free_of HQ.out.r 1; have z0 := cell_of (i := 0) HQ.out.r rfl; have z1 := cell_of (i := 1) HQ.out.r rfl))
  rename_i hHeld
  clear hHeld f0 f1 z0 z1 c0 c1 c2 c3
  refine NoPanic.normal ?_
  replace HQ := hide (HQ.out.put x y)
  generalize ((w4.setCell ⟨w.heap.size + 1, 0, none⟩ (.int .u64 x)).setCell ⟨w.heap.size + 1, 1, none⟩ (.int .u64 y)) = w5 at HQ ⊢
  go_wp2_with fail
  exact bodyPost_ret (results_cell_row Tryz.results93 _ _ (w.heap.size + 1) 42 _ (0, 0) _ rfl HQ.out.r Tryz.underlying42 rfl (by kernel_rfl)) rfl ⟨rfl, HQ.out.m.bel⟩
end Go.Proofs.YtgjdjdgondpjeaaGreat
