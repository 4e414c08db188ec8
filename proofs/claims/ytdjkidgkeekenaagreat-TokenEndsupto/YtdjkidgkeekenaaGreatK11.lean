/- Over and Tell of new nodes. -/
import Derived.Test.YtdjkidgkeekenaaGreatK9
namespace Go.Proofs.YtdjkidgkeekenaaGreat
open Go.RowKit Go.Lib
set_option linter.unusedVariables false
set_option linter.unusedSimpArgs false
/-- The document's node, as far as Tell sees it (RefT of K10). -/
def RefT' (w : World) (B : Nat) (a : Bool) : Prop := ∃ (p0 p1 p2 p3 k y1 y2 y3 : Value), w.heap[B]? = some (.cells #[p0, p1, p2, p3, .int .i64 1, .bool a, k, .int .i64 0, .int .i64 0, .bool false, y1, y2, y3] 124 (0, 0))
def told (a : Bool) : Value := .agg #[.int .i64 0, .bool a, .bool false, .int .i64 0, .bool false]
set_option maxRecDepth 100000 in
set_option maxHeartbeats 2000000 in
theorem over_any (B : Nat) (a : Bool) (w : World) (h : NodeT w B a) : Calls Tryz.prog 33 #[.pointer (some ⟨B, 0, none⟩)] w fun e w' => e = .returned (.bool false) ∧ Below w.heap.size w w' := by
  obtain ⟨k, i, n, b, v, x1, x2, x3, hb⟩ := h
  have c9 := cell_of hb (i := 9) rfl
  have hnf : ∀ w, (binOp .eql 117 (.func (.func 55) #[] #[]) .nilFunc).run Tryz.prog w = .ok (.bool false) w := fun w => by kernel_rfl
  clear hb
  go_enter Tryz.func33, Tryz.ntmps33
  go_wp2_with fail
  go_ret
  exact ⟨rfl, Below.refl _ _⟩
theorem Tryz.results32' : Tryz.f32.results = #[.cell 2 51] := by kernel_rfl
theorem Tryz.results16' : Tryz.f16.results = #[.cell 2 51] := by kernel_rfl
theorem told_end {w W : World} {B : Nat} {q0 q1 q2 q3 q4 : Value} (hbW : Below w.heap.size w W) (hz : W.heap[w.heap.size]? = some (.cells #[q0, q1, q2, q3, q4] 51 (0, 0))) (v0 v1 v2 v3 v4 : Value) :
    (((((W.setCell ⟨w.heap.size, 0, none⟩ v0).setCell ⟨w.heap.size, 1, none⟩ v1).setCell ⟨w.heap.size, 2, none⟩ v2).setCell ⟨w.heap.size, 3, none⟩ v3).setCell ⟨w.heap.size, 4, none⟩ v4).heap[w.heap.size]? = some (.cells #[v0, v1, v2, v3, v4] 51 (0, 0)) ∧
    Below w.heap.size w (((((W.setCell ⟨w.heap.size, 0, none⟩ v0).setCell ⟨w.heap.size, 1, none⟩ v1).setCell ⟨w.heap.size, 2, none⟩ v2).setCell ⟨w.heap.size, 3, none⟩ v3).setCell ⟨w.heap.size, 4, none⟩ v4) := by
  refine ⟨by rw [heap_set (heap_set (heap_set (heap_set (heap_set hz _) _) _) _) _]; rfl, ?_⟩
  have hS : w.heap.size ≤ w.heap.size := Nat.le_refl _
  exact ((((hbW.setCell (p := ⟨w.heap.size, 0, none⟩) hS _).setCell (p := ⟨w.heap.size, 1, none⟩) hS _).setCell (p := ⟨w.heap.size, 2, none⟩) hS _).setCell (p := ⟨w.heap.size, 3, none⟩) hS _).setCell (p := ⟨w.heap.size, 4, none⟩) hS _
set_option maxRecDepth 100000 in
set_option maxHeartbeats 4000000 in
theorem refTell_any (B : Nat) (a : Bool) (w : World) (h : RefT' w B a) : Calls Tryz.prog 32 #[.pointer (some ⟨B, 0, none⟩)] w fun e w' => e = .returned (told a) ∧ Below w.heap.size w w' := by
  obtain ⟨p0, p1, p2, p3, k, y1, y2, y3, hb⟩ := h
  obtain ⟨W, hW⟩ : ∃ W, W = w.alloc (.cells #[.int .i64 0, .bool false, .bool false, .int .i64 0, .bool false] 51) := ⟨_, rfl⟩
  have hbW : Below w.heap.size w W := by rw [hW]; exact below_alloc (Below.refl _ _) _
  have hz : W.heap[w.heap.size]? = some (.cells #[.int .i64 0, .bool false, .bool false, .int .i64 0, .bool false] 51 (0, 0)) := by rw [hW]; exact heap_new w _
  have hB := (hbW.block _ (lt_of_heap hb)).trans hb
  have c4 := cell_of hB (i := 4) rfl
  have c5 := cell_of hB (i := 5) rfl
  have c7 := cell_of hB (i := 7) rfl
  have c8 := cell_of hB (i := 8) rfl
  have c9 := cell_of hB (i := 9) rfl
  have e0 := cell_of hz (i := 0) rfl
  have e1 := cell_of hz (i := 1) rfl
  have e2 := cell_of hz (i := 2) rfl
  have e3 := cell_of hz (i := 3) rfl
  have e4 := cell_of hz (i := 4) rfl
  have f0 := free_of hz 0
  have f1 := free_of hz 1
  have f2 := free_of hz 2
  have f3 := free_of hz 3
  have f4 := free_of hz 4
  have hne : ¬ B = w.heap.size := by have := lt_of_heap hb; omega
  have hne2 : ¬ w.heap.size = B := by omega
  have HBW := hide hbW
  have HZ := hide hz
  clear hbW hz hB hb
  go_enter Tryz.func32, Tryz.ntmps32
  go_wp2_with fail
  rw [← hW]
  clear hW
  refine wp_region_noPanic ?_
  go_region_held3 (fun x => x.cell? ⟨B, 4, none⟩ = some (.int .i64 1) ∧ x.cell? ⟨B, 5, none⟩ = some (.bool a) ∧ x.cell? ⟨B, 7, none⟩ = some (.int .i64 0) ∧ x.cell? ⟨B, 8, none⟩ = some (.int .i64 0) ∧ x.cell? ⟨B, 9, none⟩ = some (.bool false)) (first | go_keep) (fail)
  all_goals
    refine NoPanic.normal ?_
    obtain ⟨hwf, hL⟩ := told_end (B := B) HBW.out HZ.out (.int .i64 0) (.bool a) (.bool false) (.int .i64 0) (.bool false)
    have HWF : Hid ((((((W.setCell ⟨w.heap.size, 0, none⟩ (.int .i64 0)).setCell ⟨w.heap.size, 1, none⟩ (.bool a)).setCell ⟨w.heap.size, 2, none⟩ (.bool false)).setCell ⟨w.heap.size, 3, none⟩ (.int .i64 0)).setCell ⟨w.heap.size, 4, none⟩ (.bool false)).drew.heap[w.heap.size]? = some (.cells #[.int .i64 0, .bool a, .bool false, .int .i64 0, .bool false] 51 (0, 0))) := hwf
    have HLL := hide (below_drew hL)
    generalize (((((W.setCell ⟨w.heap.size, 0, none⟩ (.int .i64 0)).setCell ⟨w.heap.size, 1, none⟩ (.bool a)).setCell ⟨w.heap.size, 2, none⟩ (.bool false)).setCell ⟨w.heap.size, 3, none⟩ (.int .i64 0)).setCell ⟨w.heap.size, 4, none⟩ (.bool false)).drew = wf at HWF HLL ⊢
    clear hL hwf
    go_wp2
    exact bodyPost_ret (results_cell_row Tryz.results32' _ wf w.heap.size 51 _ (0, 0) _ rfl HWF.out Tryz.underlying51 rfl (by kernel_rfl)) rfl ⟨rfl, HLL.out⟩
end Go.Proofs.YtdjkidgkeekenaaGreat
