/- The reference's arena in memory: May, New, Stop, there, Peek, Poke. -/
import Derived.Test.YtgjdjdgondpjeaaGreatAccHelp
namespace Go.Proofs.YtgjdjdgondpjeaaGreat
open Go.RowKit Go.Lib Go.MuLone

def RObj (gc : Nat) (lv : Value) (s : Ast) : Obj :=
  .cells #[.slice (some ⟨gc, 0, none⟩) s.cells.length s.cells.length, lv, .bool s.keep, .bool s.stopped, .int .i64 s.fw, .int .i64 s.fk, .int .i64 s.fc, .int .i64 s.count] 52 (0, 0)

/-- The reference's arena in memory: its own block b, its cells' block gc, its log owned from Y on. -/
structure RIs (w : World) (Y b gc : Nat) (lv : Value) (s : Ast) : Prop where
  hb : w.heap[b]? = some (RObj gc lv s)
  hc : w.heap[gc]? = some (wordsObj s.cells)
  hl : w.ownsRow Y 55 8 lv s.log.length (logCells s.log)
  bY : b < Y
  gY : gc < Y
  ne : b ≠ gc
  len : s.cells.length ≤ 16777216
  yw : Y ≤ w.heap.size
theorem RIs.own_ne {w : World} {Y b gc : Nat} {lv : Value} {s : Ast} (h : RIs w Y b gc lv s) {j : Nat} (hj : lv.ownBlock = some j) : j ≠ b ∧ j ≠ gc ∧ j < w.heap.size := by
  have := owns_lt h.hl hj
  have := h.bY
  have := h.gY
  omega
theorem RIs.kept {S : Nat → Prop} {w w' : World} {Y b gc : Nat} {lv : Value} {s : Ast} (h : RIs w Y b gc lv s) (k : Chg S w w') (h1 : ¬ S b) (h2 : ¬ S gc) (h3 : ∀ i, lv.ownBlock = some i → ¬ S i) : RIs w' Y b gc lv s :=
  ⟨k.heap h.hb h1, k.heap h.hc h2, ownsRow_block h.hl (fun i hi => k.block i (owns_lt h.hl hi).2 (h3 i hi)), h.bY, h.gY, h.ne, h.len, Nat.le_trans h.yw k.size⟩
theorem RIs.below {w w' : World} {Y b gc : Nat} {lv : Value} {s : Ast} (h : RIs w Y b gc lv s) (k : Below w.heap.size w w') : RIs w' Y b gc lv s :=
  h.kept (S := fun _ => False) (Chg.of_below k) id id (fun _ _ => id)

theorem refNew_any (n : Nat) (keep : Bool) (w : World) (hn : n ≤ 16777216) :
    Calls Tryz.prog 37 #[.int .i64 n, .bool keep] w fun r w' => r = .returned (.pointer (some ⟨w.heap.size + 1, 0, none⟩)) ∧
      RIs w' (w.heap.size + 2) (w.heap.size + 1) w.heap.size (.slice none 0 0) (Ast.new n keep) ∧ w'.heap.size = w.heap.size + 2 ∧ Below w.heap.size w w' := by
  have HN := hide hn
  have hm := run_makeWords n (by omega)
  clear hn
  go_enter Tryz.func37, Tryz.ntmps37
  go_wp2
  go_ret
  refine ⟨rfl, ⟨?_, ?_, World.ownsRow_nil _ _ _ _, by omega, by omega, by omega, by simpa [Ast.new] using HN.out, by simp⟩, by simp, ((Below.refl _ _).alloc (Nat.le_refl _) _).alloc (by simp) _⟩
  · have h := heap_new (w.alloc (wordsObj (List.replicate n 0))) (RObj w.heap.size (.slice none 0 0) (Ast.new n keep))
    rw [show (w.alloc (wordsObj (List.replicate n 0))).heap.size = w.heap.size + 1 by simp] at h
    have e : (Ast.new n keep).cells.length = n := by simp [Ast.new]
    unfold RObj at h
    rw [e] at h
    unfold RObj
    rw [e]
    exact h
  · exact heap_old (heap_new w _) _

theorem refStop_any (b gc : Nat) (lv : Value) (s : Ast) (x y z : Int) (w : World) (hb : w.heap[b]? = some (RObj gc lv s)) :
    Calls Tryz.prog 117 #[.pointer (some ⟨b, 0, none⟩), faultVal x y z] w fun r w' => r = .returned (.tuple #[]) ∧
      w'.heap[b]? = some (RObj gc lv (s.stop x y z)) ∧ Chg (fun k => k = b) w w' := by
  have c3 : w.cell? ⟨b, 3, none⟩ = some (.bool s.stopped) := cell_of hb rfl
  have c4 : w.cell? ⟨b, 4, none⟩ = some (.int .i64 s.fw) := cell_of hb rfl
  have c5 : w.cell? ⟨b, 5, none⟩ = some (.int .i64 s.fk) := cell_of hb rfl
  have c6 : w.cell? ⟨b, 6, none⟩ = some (.int .i64 s.fc) := cell_of hb rfl
  have f3 := free_of hb 3
  have f4 := free_of hb 4
  have f5 := free_of hb 5
  have f6 := free_of hb 6
  have hlt := lt_of_heap hb
  have HB := hide hb
  clear hb
  unfold faultVal
  cases hs : s.stopped with
  | true =>
    rw [hs] at c3
    go_enter Tryz.func117, Tryz.ntmps117
    go_wp2
    first | go_end0 | refine bodyPost_ret (results_none rfl _ _ _) rfl ?_
    refine ⟨rfl, ?_, (Chg.refl _ _).alloc _⟩
    simp only [Ast.stop, hs, if_true]
    exact heap_old HB.out _
  | false =>
    rw [hs] at c3
    go_enter Tryz.func117, Tryz.ntmps117
    go_wp2
    first | go_end0 | refine bodyPost_ret (results_none rfl _ _ _) rfl ?_
    refine ⟨rfl, ?_, ?_⟩
    · simp only [Ast.stop, hs, Bool.false_eq_true, if_false]
      exact heap_old (heap_set (heap_set (heap_set (heap_set HB.out _) _) _) _) _
    · exact (((((Chg.refl (fun k => k = b) w).setCell (p := ⟨b, 3, none⟩) rfl _).setCell (p := ⟨b, 4, none⟩) rfl _).setCell (p := ⟨b, 5, none⟩) rfl _).setCell (p := ⟨b, 6, none⟩) rfl _).alloc _

theorem Ast.stop_cells (s : Ast) (x y z : Int) : (s.stop x y z).cells = s.cells := by unfold Ast.stop; split <;> rfl
theorem Ast.stop_log (s : Ast) (x y z : Int) : (s.stop x y z).log = s.log := by unfold Ast.stop; split <;> rfl
theorem RIs.stop {w w' : World} {Y b gc : Nat} {lv : Value} {s : Ast} {x y z : Int} (h : RIs w Y b gc lv s) (hb : w'.heap[b]? = some (RObj gc lv (s.stop x y z))) (k : Chg (fun k => k = b) w w') : RIs w' Y b gc lv (s.stop x y z) := by
  refine ⟨hb, ?_, ?_, h.bY, h.gY, h.ne, ?_, Nat.le_trans h.yw k.size⟩
  · rw [Ast.stop_cells]; exact k.heap h.hc (fun e => h.ne e.symm)
  · rw [Ast.stop_log]; exact ownsRow_block h.hl (fun i hi => k.block i (owns_lt h.hl hi).2 (h.own_ne hi).1)
  · rw [Ast.stop_cells]; exact h.len

theorem there_in (Y b gc : Nat) (lv : Value) (s : Ast) (who : Int) (i : Nat) (w : World) (h : RIs w Y b gc lv s) (hs : s.stopped = false) (hi : i < s.cells.length) :
    Calls Tryz.prog 101 #[.pointer (some ⟨b, 0, none⟩), .int .i64 who, .int .i64 i] w fun r w' => r = .returned (.bool true) ∧ w' = w := by
  have c0 : w.cell? ⟨b, 0, none⟩ = some (.slice (some ⟨gc, 0, none⟩) s.cells.length s.cells.length) := cell_of h.hb rfl
  have c3 : w.cell? ⟨b, 3, none⟩ = some (.bool s.stopped) := cell_of h.hb rfl
  rw [hs] at c3
  have h1 : (i : Int) < s.cells.length := by omega
  clear h
  go_enter Tryz.func101, Tryz.ntmps101
  go_wp2
  go_ret
  exact ⟨rfl, rfl⟩
theorem there_stopped (Y b gc : Nat) (lv : Value) (s : Ast) (who i : Int) (w : World) (h : RIs w Y b gc lv s) (hs : s.stopped = true) :
    Calls Tryz.prog 101 #[.pointer (some ⟨b, 0, none⟩), .int .i64 who, .int .i64 i] w fun r w' => r = .returned (.bool false) ∧ w' = w := by
  have c3 : w.cell? ⟨b, 3, none⟩ = some (.bool s.stopped) := cell_of h.hb rfl
  rw [hs] at c3
  clear h
  go_enter Tryz.func101, Tryz.ntmps101
  go_wp2
  go_ret
  exact ⟨rfl, rfl⟩
theorem there_out (Y b gc : Nat) (lv : Value) (s : Ast) (who i : Int) (w : World) (h : RIs w Y b gc lv s) (hs : s.stopped = false) (hi : i < 0 ∨ (s.cells.length : Int) ≤ i) :
    Calls Tryz.prog 101 #[.pointer (some ⟨b, 0, none⟩), .int .i64 who, .int .i64 i] w fun r w' => r = .returned (.bool false) ∧ RIs w' Y b gc lv (s.stop who 1 i) ∧ Chg (fun k => k = b) w w' := by
  have c0 : w.cell? ⟨b, 0, none⟩ = some (.slice (some ⟨gc, 0, none⟩) s.cells.length s.cells.length) := cell_of h.hb rfl
  have c3 : w.cell? ⟨b, 3, none⟩ = some (.bool s.stopped) := cell_of h.hb rfl
  rw [hs] at c3
  have H := hide h
  have HS := hide (refStop_any b gc lv s who 1 i w h.hb)
  clear h
  by_cases h : i < 0
  · clear hi
    go_enter Tryz.func101, Tryz.ntmps101
    go_wp2_with fail
    refine HS.out.mono ?_
    rintro e w1 ⟨rfl, hb1, k1⟩
    have HB := hide (And.intro hb1 k1)
    clear hb1 k1
    go_wp2_with fail
    go_ret
    exact ⟨rfl, H.out.stop HB.out.1 HB.out.2, HB.out.2⟩
  · have h2 : (s.cells.length : Int) ≤ i := by omega
    clear hi
    go_enter Tryz.func101, Tryz.ntmps101
    go_wp2_with fail
    refine HS.out.mono ?_
    rintro e w1 ⟨rfl, hb1, k1⟩
    have HB := hide (And.intro hb1 k1)
    clear hb1 k1
    go_wp2_with fail
    go_ret
    exact ⟨rfl, H.out.stop HB.out.1 HB.out.2, HB.out.2⟩

end Go.Proofs.YtgjdjdgondpjeaaGreat
