/- ring's Open 13; a handle without an open operation: inHand 35. -/
import Derived.Test.YtajcoimeeohnoaaTo
import Derived.Test.YtajcoimeeohnoaaHd
import Derived.Deep.RegionHeld3
namespace Go.Proofs.Ytajcoimeeohnoaa
open Go.RowKit Go.Lib
set_option linter.unusedVariables false
set_option linter.unusedSimpArgs false
set_option maxRecDepth 100000 in
set_option maxHeartbeats 2000000 in
/-- A handle without an open operation holds no task. -/
theorem inHand_idle (H : Nat) (v : Value) (w : World) (h : w.cell? ⟨H, 2, none⟩ = some (.int .i64 0)) :
    Calls Try.prog 35 #[.pointer (some ⟨H, 0, none⟩), v] w fun e w' => e = .returned (.slice none 0 0) ∧ w' = w := by
  go_enter Try.func35, Try.ntmps35
  go_wp2
  go_ret
  exact ⟨rfl, rfl⟩
/-- A handle of the ring (b, C) without an open operation. -/
structure HAt (w : World) (H : Nat) (b C : Int) : Prop where
  c0 : w.cell? ⟨H, 0, none⟩ = some (.int .i64 b)
  c1 : w.cell? ⟨H, 1, none⟩ = some (.int .i64 C)
  c2 : w.cell? ⟨H, 2, none⟩ = some (.int .i64 0)
theorem HAt.below {w w' : World} {H : Nat} {b C : Int} (h : HAt w H b C) (hb : Below w.heap.size w w') : HAt w' H b C :=
  ⟨(below_cell hb (block_of_cell h.c0)).trans h.c0, (below_cell hb (block_of_cell h.c0)).trans h.c1, (below_cell hb (block_of_cell h.c0)).trans h.c2⟩
set_option maxRecDepth 100000 in
set_option maxHeartbeats 2000000 in
theorem open_shape (b C i : Int) (w : World) (h : ¬ OkR b C) :
    Calls Try.prog 13 #[qAgg b C, .int .i64 i] w fun e w' => e = .returned (.tuple #[.pointer none, .int .i64 60]) ∧ Below w.heap.size w w' := by
  have hc := fun W => qCheck_any b C W
  simp only [if_neg h] at hc
  have HC := hide hc
  clear hc
  have HQ := hide (qm_two w 75 (.cells #[.int .i64 b, .int .i64 C] 47) b C)
  unfold qAgg at HC ⊢
  go_enter Try.func13, Try.ntmps13
  go_wp2_with (go_at_call 29; refine (HC.out _).mono ?_; rintro e w2 ⟨rfl, hb2⟩)
  go_ret2
  exact ⟨rfl, below_on HQ.out.bel hb2⟩
set_option maxRecDepth 100000 in
set_option maxHeartbeats 2000000 in
theorem open_neg (b C i : Int) (w : World) (h : OkR b C) (hi : i < 0) :
    Calls Try.prog 13 #[qAgg b C, .int .i64 i] w fun e w' => e = .returned (.tuple #[.pointer none, .int .i64 6]) ∧ Below w.heap.size w w' := by
  have hc := fun W => qCheck_any b C W
  simp only [if_pos h] at hc
  have HC := hide hc
  clear hc
  have HQ := hide (qm_two w 75 (.cells #[.int .i64 b, .int .i64 C] 47) b C)
  unfold qAgg at HC ⊢
  go_enter Try.func13, Try.ntmps13
  go_wp2_with (go_at_call 29; refine (HC.out _).mono ?_; rintro e w2 ⟨rfl, hb2⟩)
  go_ret2
  exact ⟨rfl, below_on HQ.out.bel hb2⟩
set_option maxRecDepth 100000 in
set_option maxHeartbeats 2000000 in
theorem open_ok (b C i : Int) (w : World) (h : OkR b C) (hi : 0 ≤ i) :
    Calls Try.prog 13 #[qAgg b C, .int .i64 i] w fun e w' => ∃ H, e = .returned (.tuple #[.pointer (some ⟨H, 0, none⟩), .int .i64 0]) ∧ w.heap.size ≤ H ∧ HAt w' H b C ∧ Below w.heap.size w w' := by
  have hc := fun W => qCheck_any b C W
  simp only [if_pos h] at hc
  have HC := hide hc
  clear hc
  have HQ := hide (qm_two w 75 (.cells #[.int .i64 b, .int .i64 C] 47) b C)
  unfold qAgg at HC ⊢
  go_enter Try.func13, Try.ntmps13
  go_wp2_with (go_at_call 29; refine (HC.out _).mono ?_; rintro e w2 ⟨rfl, hb2⟩; have HM := hide (HQ.out.below hb2); clear hb2; obtain ⟨s0, s1⟩ := HM.out.two)
  have hs := HM.out.bel.size
  go_ret2
  refine ⟨_, rfl, hs, ⟨cell_of (heap_new _ _) rfl, cell_of (heap_new _ _) rfl, cell_of (heap_new _ _) rfl⟩, below_alloc HM.out.bel _⟩
end Go.Proofs.Ytajcoimeeohnoaa
