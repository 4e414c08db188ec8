/- The document's node: Over, Tell, a step that is over. -/
import Derived.Test.YtlncjbjdjciphaaRA
import Derived.Test.YtlncjbjdjciphaaN5
namespace Go.Proofs.Ytlncjbjdjciphaa
open Go.RowKit Go.Lib
set_option linter.unusedVariables false
set_option linter.unusedSimpArgs false
section
variable {w : World} {r ra : Nat} {d : Nd} {sv : Value} {x wi : Int} {P : World → Prop}

set_option maxRecDepth 100000 in
theorem rover_nd (h : w.heap[r]? = some (d.robj sv)) : Calls Try.prog 16 #[.pointer (some ⟨r, 0, none⟩)] w fun e w' => e = .returned (.bool (decide (d.ph = 0))) ∧ w' = w := by
  unfold Nd.robj at h
  have c4 : w.cell? ⟨r, 4, none⟩ = some (.int .i64 (d.ph : Int)) := cell_of h rfl
  by_cases h0 : d.ph = 0
  · rw [show decide (d.ph = 0) = true by simpa using h0]
    have h1 : ((d.ph : Int) == 0) = true := by simp [h0]
    clear h h0
    go_enter Try.func16, Try.ntmps16
    go_wp2
    go_ret
    exact ⟨rfl, rfl⟩
  · rw [show decide (d.ph = 0) = false by simpa using h0]
    have h1 : ((d.ph : Int) == 0) = false := by simp; omega
    clear h h0
    go_enter Try.func16, Try.ntmps16
    go_wp2
    go_ret
    exact ⟨rfl, rfl⟩
set_option maxRecDepth 100000 in
set_option maxHeartbeats 4000000 in
theorem rtell_nd (h : w.heap[r]? = some (d.robj sv)) : Calls Try.prog 18 #[.pointer (some ⟨r, 0, none⟩)] w fun e w' => e = .returned d.told ∧ Below w.heap.size w w' := by
  obtain ⟨W, hW⟩ : ∃ W, W = w.alloc (.cells #[.int .i64 0, .bool false, .bool false, .int .i64 0, .bool false] 45) := ⟨_, rfl⟩
  have hbW : Below w.heap.size w W := by rw [hW]; exact below_alloc (Below.refl _ _) _
  have hz : W.heap[w.heap.size]? = some (.cells #[.int .i64 0, .bool false, .bool false, .int .i64 0, .bool false] 45 (0, 0)) := by rw [hW]; exact heap_new w _
  have hB := (hbW.block _ (lt_of_heap h)).trans h
  unfold Nd.robj at hB
  have c4 : W.cell? ⟨r, 4, none⟩ = some (.int .i64 (d.ph : Int)) := cell_of hB rfl
  have c5 : W.cell? ⟨r, 5, none⟩ = some (.bool d.active) := cell_of hB rfl
  have c7 : W.cell? ⟨r, 7, none⟩ = some (.int .i64 d.sent) := cell_of hB rfl
  have c8 : W.cell? ⟨r, 8, none⟩ = some (.int .i64 d.bal) := cell_of hB rfl
  have c9 : W.cell? ⟨r, 9, none⟩ = some (.bool d.black) := cell_of hB rfl
  have HBW := hide hbW
  have HZ := hide hz
  unfold Nd.told
  have h1 : ∃ bo, ((d.ph : Int) == 0) = bo ∧ decide (d.ph = 0) = bo := ⟨decide (d.ph = 0), by rw [Bool.eq_iff_iff]; simp, rfl⟩
  obtain ⟨over, h1, h2⟩ := h1
  rw [h2]
  have e0 := cell_of hz (i := 0) rfl; have e1 := cell_of hz (i := 1) rfl; have e2 := cell_of hz (i := 2) rfl; have e3 := cell_of hz (i := 3) rfl; have e4 := cell_of hz (i := 4) rfl
  have f0 := free_of hz 0; have f1 := free_of hz 1; have f2 := free_of hz 2; have f3 := free_of hz 3; have f4 := free_of hz 4
  have hne : ¬ r = w.heap.size := by have := lt_of_heap h; omega
  have hne2 : ¬ w.heap.size = r := by omega
  clear hbW hz hB h h2
  go_enter Try.func18, Try.ntmps18
  go_wp2_with fail
  rw [← hW]
  clear hW
  refine wp_region_noPanic ?_
  go_region_held3 (fun x => x.cell? ⟨r, 8, none⟩ = some (.int .i64 d.bal) ∧ x.cell? ⟨r, 5, none⟩ = some (.bool d.active) ∧ x.cell? ⟨r, 9, none⟩ = some (.bool d.black) ∧ x.cell? ⟨r, 7, none⟩ = some (.int .i64 d.sent) ∧ x.cell? ⟨r, 4, none⟩ = some (.int .i64 (d.ph : Int))) (first | with_reducible exact ⟨c8, c5, c9, c7, c4⟩ | go_keep)
    (fail)
  all_goals
    refine NoPanic.normal ?_
    first | rw [h1] | skip
    obtain ⟨hwf, hL⟩ := told_end (B := 0) HBW.out HZ.out (.int .i64 d.bal) (.bool d.active) (.bool d.black) (.int .i64 d.sent) (.bool over)
    have HWF := hide (show ((((((W.setCell ⟨w.heap.size, 0, none⟩ (.int .i64 d.bal)).setCell ⟨w.heap.size, 1, none⟩ (.bool d.active)).setCell ⟨w.heap.size, 2, none⟩ (.bool d.black)).setCell ⟨w.heap.size, 3, none⟩ (.int .i64 d.sent)).setCell ⟨w.heap.size, 4, none⟩ (.bool over)).drew).heap[w.heap.size]? = some (.cells #[.int .i64 d.bal, .bool d.active, .bool d.black, .int .i64 d.sent, .bool over] 45 (0, 0)) by rw [heap_drew]; exact hwf)
    have HLL := hide hL.drew
    generalize ((((((W.setCell ⟨w.heap.size, 0, none⟩ (.int .i64 d.bal)).setCell ⟨w.heap.size, 1, none⟩ (.bool d.active)).setCell ⟨w.heap.size, 2, none⟩ (.bool d.black)).setCell ⟨w.heap.size, 3, none⟩ (.int .i64 d.sent)).setCell ⟨w.heap.size, 4, none⟩ (.bool over)).drew) = wf at HWF HLL ⊢
    clear hL hwf
    go_wp2
    exact bodyPost_ret (results_cell_row Try.results18' _ wf w.heap.size 45 _ (0, 0) _ rfl HWF.out Try.underlying45 rfl (by kernel_rfl)) rfl ⟨rfl, HLL.out⟩
set_option maxRecDepth 100000 in
set_option maxHeartbeats 4000000 in
theorem rph0 (hd : d.ph = 0) (hwh : d.who < 64) (h0 : w.heap[r]? = some (d.robj sv)) : Calls Try.prog 17 #[.pointer (some ⟨r, 0, none⟩), .pointer (some ⟨ra, 0, none⟩), .int .i64 wi] w fun e w' => e = .returned (.tuple #[]) ∧ w' = w := by
  have hq := h0
  unfold Nd.robj at hq
  rw [hd] at hq
  have b0 := cell_of hq (i := 0) rfl; have b4 := cell_of hq (i := 4) rfl
  have hw0 : IntKind.i64.wrap (4 + (d.who : Int)) = 4 + (d.who : Int) := IntWalk.i64_in _ (by omega)
  clear hq h0 hd
  go_enter Try.func17, Try.ntmps17
  go_wp2_with fail
  first | go_end0 | refine bodyPost_ret (results_none rfl _ _ _) rfl ?_
  exact ⟨rfl, rfl⟩

end
end Go.Proofs.Ytlncjbjdjciphaa
