/- Over and Tell of new nodes. -/
import Derived.Test.YtdjkidgkeekenaaK9
namespace Go.Proofs.Ytdjkidgkeekenaa
open Go.RowKit Go.Lib
set_option linter.unusedVariables false
set_option linter.unusedSimpArgs false
def told (a : Bool) : Value := .agg #[.int .i64 0, .bool a, .bool false, .int .i64 0, .bool false]
set_option maxRecDepth 100000 in
set_option maxHeartbeats 2000000 in
theorem over_any (B : Nat) (a : Bool) (w : World) (h : NodeT w B a) : Calls Try.prog 35 #[.pointer (some ⟨B, 0, none⟩)] w fun e w' => e = .returned (.bool false) ∧ Below w.heap.size w w' := by
  obtain ⟨k, i, n, b, v, x1, x2, x3, hb⟩ := h
  have c9 := cell_of hb (i := 9) rfl
  have hnf : ∀ w, (binOp .eql 91 (.func (.func 31) #[] #[]) .nilFunc).run Try.prog w = .ok (.bool false) w := fun w => by kernel_rfl
  clear hb
  go_enter Try.func35, Try.ntmps35
  go_wp2_with fail
  go_ret
  exact ⟨rfl, Below.refl _ _⟩
theorem Try.results18' : Try.f18.results = #[.cell 2 61] := by kernel_rfl
theorem told_end {w W : World} {B : Nat} {q0 q1 q2 q3 q4 : Value} (hbW : Below w.heap.size w W) (hz : W.heap[w.heap.size]? = some (.cells #[q0, q1, q2, q3, q4] 61 (0, 0))) (v0 v1 v2 v3 v4 : Value) :
    (((((W.setCell ⟨w.heap.size, 0, none⟩ v0).setCell ⟨w.heap.size, 1, none⟩ v1).setCell ⟨w.heap.size, 2, none⟩ v2).setCell ⟨w.heap.size, 3, none⟩ v3).setCell ⟨w.heap.size, 4, none⟩ v4).heap[w.heap.size]? = some (.cells #[v0, v1, v2, v3, v4] 61 (0, 0)) ∧
    Below w.heap.size w (((((W.setCell ⟨w.heap.size, 0, none⟩ v0).setCell ⟨w.heap.size, 1, none⟩ v1).setCell ⟨w.heap.size, 2, none⟩ v2).setCell ⟨w.heap.size, 3, none⟩ v3).setCell ⟨w.heap.size, 4, none⟩ v4) := by
  refine ⟨by rw [heap_set (heap_set (heap_set (heap_set (heap_set hz _) _) _) _) _]; rfl, ?_⟩
  have hS : w.heap.size ≤ w.heap.size := Nat.le_refl _
  exact ((((hbW.setCell (p := ⟨w.heap.size, 0, none⟩) hS _).setCell (p := ⟨w.heap.size, 1, none⟩) hS _).setCell (p := ⟨w.heap.size, 2, none⟩) hS _).setCell (p := ⟨w.heap.size, 3, none⟩) hS _).setCell (p := ⟨w.heap.size, 4, none⟩) hS _
end Go.Proofs.Ytdjkidgkeekenaa
