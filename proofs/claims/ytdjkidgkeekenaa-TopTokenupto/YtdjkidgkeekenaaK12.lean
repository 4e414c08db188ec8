/- Tell of a new node. -/
import Derived.Test.YtdjkidgkeekenaaK11
namespace Go.Proofs.Ytdjkidgkeekenaa
open Go.RowKit Go.Lib
set_option linter.unusedVariables false
set_option linter.unusedSimpArgs false
set_option maxRecDepth 100000 in
set_option maxHeartbeats 4000000 in
theorem tell_any (B : Nat) (a : Bool) (w : World) (h : NodeT w B a) : Calls Try.prog 18 #[.pointer (some ⟨B, 0, none⟩)] w fun e w' => e = .returned (told a) ∧ Below w.heap.size w w' := by
  obtain ⟨k, i, n, b, v, y1, y2, y3, hb⟩ := h
  have hpn : ∀ w, (binOp .eql 54 (.pointer (some ⟨B, 0, none⟩)) (.pointer none)).run Try.prog w = .ok (.bool false) w := fun w => rfl
  obtain ⟨W, hW⟩ : ∃ W, W = w.alloc (.cells #[.int .i64 0, .bool false, .bool false, .int .i64 0, .bool false] 61) := ⟨_, rfl⟩
  have hbW : Below w.heap.size w W := by rw [hW]; exact below_alloc (Below.refl _ _) _
  have hz : W.heap[w.heap.size]? = some (.cells #[.int .i64 0, .bool false, .bool false, .int .i64 0, .bool false] 61 (0, 0)) := by rw [hW]; exact heap_new w _
  have hB := (hbW.block _ (lt_of_heap hb)).trans hb
  have hkp : ∀ X, Below W.heap.size W X → (X.cell? ⟨B, 0, none⟩ = some (.bool a) ∧ X.cell? ⟨B, 2, none⟩ = some (.int .i64 0) ∧ X.cell? ⟨B, 3, none⟩ = some (.int .u64 0) ∧ X.cell? ⟨B, 4, none⟩ = some (.bool false)) ∧ X.heap[w.heap.size]? = some (.cells #[.int .i64 0, .bool false, .bool false, .int .i64 0, .bool false] 61 (0, 0)) ∧ NodeT X B a := fun X hX => by
    have q := (hX.block _ (lt_of_heap hB)).trans hB
    exact ⟨⟨cell_of q rfl, cell_of q rfl, cell_of q rfl, cell_of q rfl⟩, (hX.block _ (lt_of_heap hz)).trans hz, _, _, _, _, _, _, _, _, q⟩
  have HKP := hide hkp
  have hne : ¬ B = w.heap.size := by have := lt_of_heap hb; omega
  have hne2 : ¬ w.heap.size = B := by omega
  obtain ⟨c0, c2, c3, c4⟩ := (hkp W (Below.refl _ _)).1
  have HBW := hide hbW
  have HRR := hide (Below.refl W.heap.size W)
  clear hbW hz hB hb hkp
  go_enter Try.func18, Try.ntmps18
  go_wp2_with fail
  rw [← hW]
  clear hW
  refine wp_region_noPanic ?_
  go_region_held3 (fun x => x.cell? ⟨B, 0, none⟩ = some (.bool a) ∧ x.cell? ⟨B, 2, none⟩ = some (.int .i64 0) ∧ x.cell? ⟨B, 3, none⟩ = some (.int .u64 0) ∧ x.cell? ⟨B, 4, none⟩ = some (.bool false)) (first | with_reducible exact ⟨z0, z2, z3, z4⟩ | go_keep)
    (first
      | (go_at_call 35; refine (over_any B a _ (HKP.out _ (below_drew HRR.out)).2.2).mono ?_; rintro e w4 ⟨rfl, hbel⟩; have hB4 := below_on (a := W) (below_drew HRR.out) hbel; obtain ⟨z0, z2, z3, z4⟩ := (HKP.out w4 hB4).1; have hz := (HKP.out w4 hB4).2.1; have HB4 := hide hB4; have e0 := cell_of hz (i := 0) rfl; have e1 := cell_of hz (i := 1) rfl; have e2 := cell_of hz (i := 2) rfl; have e3 := cell_of hz (i := 3) rfl; have e4 := cell_of hz (i := 4) rfl; have f0 := free_of hz 0; have f1 := free_of hz 1; have f2 := free_of hz 2; have f3 := free_of hz 3; have f4 := free_of hz 4; have HZ := hide hz; clear hbel hB4 hz)
      | fail)
  all_goals
    refine NoPanic.normal ?_
    have hw0 : IntKind.i64.wrap 0 = 0 := by decide
    rw [hw0]
    clear hw0
    obtain ⟨hwf, hL⟩ := told_end (B := B) (below_on HBW.out HB4.out) HZ.out (.int .i64 0) (.bool a) (.bool false) (.int .i64 0) (.bool false)
    have HWF := hide hwf
    have HLL := hide hL
    generalize (((((w4.setCell ⟨w.heap.size, 0, none⟩ (.int .i64 0)).setCell ⟨w.heap.size, 1, none⟩ (.bool a)).setCell ⟨w.heap.size, 2, none⟩ (.bool false)).setCell ⟨w.heap.size, 3, none⟩ (.int .i64 0)).setCell ⟨w.heap.size, 4, none⟩ (.bool false)) = wf at HWF HLL ⊢
    clear hL hwf
    go_wp2
    exact bodyPost_ret (results_cell_row Try.results18' _ wf w.heap.size 61 _ (0, 0) _ rfl HWF.out Try.underlying61 rfl (by kernel_rfl)) rfl ⟨rfl, HLL.out⟩
end Go.Proofs.Ytdjkidgkeekenaa
