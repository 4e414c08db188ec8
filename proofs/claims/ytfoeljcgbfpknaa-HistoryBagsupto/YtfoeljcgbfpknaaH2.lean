/- The events of a span; the events laid out. -/
import Derived.Test.YtfoeljcgbfpknaaH1
import Derived.Deep.RegionHeld3
import Derived.Deep.Cut
import Derived.Deep.OwnRows
namespace Go.Proofs.Ytfoeljcgbfpknaa
open Go.RowKit Go.Lib
set_option linter.unusedVariables false
set_option linter.unusedSimpArgs false
theorem hn_new (x : World) (o : Obj) (k : Nat) (hk : k = x.heap.size) : (x.alloc o).heap[k]? = some o := by subst hk; exact heap_new _ _
set_option maxRecDepth 100000 in
set_option maxHeartbeats 2000000 in
theorem beginOf_any (s : Sp) (w : World) : Calls Try.prog 93 #[.agg s.arr] w fun x w' => x = .returned (.agg (begE s).arr) ∧ Below w.heap.size w w' := by
  obtain ⟨who, ins, key, load, beg, en, kind⟩ := s
  cases ins with
  | true =>
    show Calls Try.prog 93 #[.agg #[.int .i64 who, .bool true, .int .u64 key, .int .u64 load, .int .i64 beg, .int .i64 en, .int .i64 kind]] w fun x w' => x = .returned (.agg #[.int .i64 0, .int .i64 who, .int .i64 1, .int .u64 key, .int .u64 load]) ∧ Below w.heap.size w w'
    go_enter Try.func93, Try.ntmps93
    go_wp2_with fail
    exact bodyPost_ret (results_cell_row Try.results93 _ _ (w.heap.size + 1) 87 _ (0, 0) _ rfl (hn_new _ _ _ (by simp)) Try.underlying87 rfl (by kernel_rfl)) rfl ⟨rfl, below_alloc (below_alloc (Below.refl _ _) _) _⟩
  | false =>
    show Calls Try.prog 93 #[.agg #[.int .i64 who, .bool false, .int .u64 key, .int .u64 load, .int .i64 beg, .int .i64 en, .int .i64 kind]] w fun x w' => x = .returned (.agg #[.int .i64 0, .int .i64 who, .int .i64 3, .int .u64 0, .int .u64 0]) ∧ Below w.heap.size w w'
    go_enter Try.func93, Try.ntmps93
    go_wp2_with fail
    exact bodyPost_ret (results_cell_row Try.results93 _ _ (w.heap.size + 1) 87 _ (0, 0) _ rfl (hn_new _ _ _ (by simp)) Try.underlying87 rfl (by kernel_rfl)) rfl ⟨rfl, below_alloc (below_alloc (Below.refl _ _) _) _⟩
set_option maxRecDepth 100000 in
set_option maxHeartbeats 2000000 in
theorem endOf_any (s : Sp) (w : World) : Calls Try.prog 94 #[.agg s.arr] w fun x w' => x = .returned (.agg (endE s).arr) ∧ Below w.heap.size w w' := by
  obtain ⟨who, ins, key, load, beg, en, kind⟩ := s
  by_cases hk : kind = 4
  · subst hk
    show Calls Try.prog 94 #[.agg #[.int .i64 who, .bool ins, .int .u64 key, .int .u64 load, .int .i64 beg, .int .i64 en, .int .i64 4]] w fun x w' => x = .returned (.agg #[.int .i64 0, .int .i64 who, .int .i64 4, .int .u64 key, .int .u64 load]) ∧ Below w.heap.size w w'
    go_enter Try.func94, Try.ntmps94
    go_wp2_with fail
    exact bodyPost_ret (results_cell_row Try.results94 _ _ (w.heap.size + 1) 87 _ (0, 0) _ rfl ((Below.heap_alloc _ _ _ (by simp)).trans (hn_new _ _ _ (by simp))) Try.underlying87 rfl (by kernel_rfl)) rfl ⟨rfl, below_alloc (below_alloc (below_alloc (Below.refl _ _) _) _) _⟩
  · have e : (endE ⟨who, ins, key, load, beg, en, kind⟩).arr = #[.int .i64 0, .int .i64 who, .int .i64 kind, .int .u64 0, .int .u64 0] := by unfold endE Ev.arr; simp [hk]
    rw [e]
    have hk2 : (kind == 4) = false := by simp [hk]
    show Calls Try.prog 94 #[.agg #[.int .i64 who, .bool ins, .int .u64 key, .int .u64 load, .int .i64 beg, .int .i64 en, .int .i64 kind]] w fun x w' => x = .returned (.agg #[.int .i64 0, .int .i64 who, .int .i64 kind, .int .u64 0, .int .u64 0]) ∧ Below w.heap.size w w'
    clear e hk
    go_enter Try.func94, Try.ntmps94
    go_wp2_with fail
    exact bodyPost_ret (results_cell_row Try.results94 _ _ (w.heap.size + 1) 87 _ (0, 0) _ rfl ((Below.heap_alloc _ _ _ (by simp)).trans (hn_new _ _ _ (by simp))) Try.underlying87 rfl (by kernel_rfl)) rfl ⟨rfl, below_alloc (below_alloc (below_alloc (Below.refl _ _) _) _) _⟩
end Go.Proofs.Ytfoeljcgbfpknaa
