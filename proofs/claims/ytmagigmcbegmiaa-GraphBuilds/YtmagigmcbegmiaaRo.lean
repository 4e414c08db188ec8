/- graph.Relabel's change of an edge. -/
import Derived.Test.YtmagigmcbegmiaaRn
namespace Go.Proofs.Ytmagigmcbegmiaa
open Go.RowKit Go.Lib Go.Shelf
set_option linter.unusedVariables false
theorem Try.results64 : Try.f64.results = #[.cell 3 50] := by kernel_rfl
set_option maxRecDepth 100000 in
set_option maxHeartbeats 4000000 in
theorem ren_any (n a b Bn A : Nat) (c : Int) (P : Nat → Nat) (w : World) (hn : w.heap[Bn]? = some (.cells #[.slice (some ⟨A, 0, none⟩) n n] 22 (0, 0))) (ha : Arr w A (tab n (fun v => (P v : Int)))) (h1 : a < n) (h2 : b < n) :
    Calls Try.prog 64 #[.agg #[.int .i64 (a : Int), .int .i64 (b : Int), .int .u64 c], .pointer (some ⟨Bn, 0, none⟩)] w fun e w' => e = .returned (.agg #[.int .i64 (P a : Int), .int .i64 (P b : Int), .int .u64 c]) ∧ Below w.heap.size w w' := by
  have hs : (w.alloc (.cells #[.int .i64 (a : Int), .int .i64 (b : Int), .int .u64 c] 50)).heap.size = w.heap.size + 1 := by simp
  obtain ⟨V, hV⟩ : ∃ V, V = (w.alloc (.cells #[.int .i64 (a : Int), .int .i64 (b : Int), .int .u64 c] 50)).alloc (.cells #[.int .i64 0, .int .i64 0, .int .u64 0] 50) := ⟨_, rfl⟩
  have hb : Below w.heap.size w V := by rw [hV]; exact below_alloc (below_alloc (Below.refl _ _) _) _
  have hx : V.heap[w.heap.size]? = some (.cells #[.int .i64 (a : Int), .int .i64 (b : Int), .int .u64 c] 50 (0, 0)) := by rw [hV]; exact (Below.heap_alloc _ _ _ (by rw [hs]; omega)).trans (heap_new _ _)
  have hr : V.heap[w.heap.size + 1]? = some (.cells #[.int .i64 0, .int .i64 0, .int .u64 0] 50 (0, 0)) := by
    have := heap_new (w.alloc (.cells #[.int .i64 (a : Int), .int .i64 (b : Int), .int .u64 c] 50)) (.cells #[.int .i64 0, .int .i64 0, .int .u64 0] 50)
    rw [hs] at this; rw [hV]; exact this
  have q0 := cell_of hx (i := 0) rfl
  have q1 := cell_of hx (i := 1) rfl
  have q2 := cell_of hx (i := 2) rfl
  have p0 : V.cell? ⟨Bn, 0, none⟩ = some (.slice (some ⟨A, 0, none⟩) n n) := cell_of ((hb.block _ (lt_of_heap hn)).trans hn) (i := 0) rfl
  have hA : Arr V A (tab n (fun v => (P v : Int))) := (hb.block _ (lt_of_heap ha)).trans ha
  have e1 := hA.cell a (by rw [tab_length]; exact h1)
  have e2 := hA.cell b (by rw [tab_length]; exact h2)
  rw [tab_at n _ a h1] at e1
  rw [tab_at n _ b h2] at e2
  have r0 := cell_of hr (i := 0) rfl
  have r1 := cell_of hr (i := 1) rfl
  have r2 := cell_of hr (i := 2) rfl
  have f0 := free_of hr 0
  have f1 := free_of hr 1
  have f2 := free_of hr 2
  have HR := hide hr
  have HB := hide hb
  have hai : (a : Int) < (n : Int) := by omega
  have hbi : (b : Int) < (n : Int) := by omega
  clear hx hr hA ha hn hb hs
  go_enter Try.func64, Try.ntmps64
  go_upto_region 1 with fail
  rw [← hV]
  clear hV
  go_region
  all_goals
    have hh : (((V.setCell ⟨w.heap.size + 1, 0, none⟩ (.int .i64 (P a : Int))).setCell ⟨w.heap.size + 1, 1, none⟩ (.int .i64 (P b : Int))).setCell ⟨w.heap.size + 1, 2, none⟩ (.int .u64 c)).drew.heap[w.heap.size + 1]? = some (.cells #[.int .i64 (P a : Int), .int .i64 (P b : Int), .int .u64 c] 50 (0, 0)) := by
      show (((V.setCell ⟨w.heap.size + 1, 0, none⟩ (.int .i64 (P a : Int))).setCell ⟨w.heap.size + 1, 1, none⟩ (.int .i64 (P b : Int))).setCell ⟨w.heap.size + 1, 2, none⟩ (.int .u64 c)).heap[w.heap.size + 1]? = _
      rw [heap_set (heap_set (heap_set HR.out _) _) _]; rfl
    have hbb := below_drew (((HB.out.setCell (p := ⟨w.heap.size + 1, 0, none⟩) (by simp) (.int .i64 (P a : Int))).setCell (p := ⟨w.heap.size + 1, 1, none⟩) (by simp) (.int .i64 (P b : Int))).setCell (p := ⟨w.heap.size + 1, 2, none⟩) (by simp) (.int .u64 c))
    go_wp2
    exact bodyPost_ret (results_cell_row Try.results64 _ _ (w.heap.size + 1) 50 _ (0, 0) _ rfl hh Try.underlying50 rfl (by kernel_rfl)) rfl ⟨rfl, hbb⟩
end Go.Proofs.Ytmagigmcbegmiaa
