/- The small calls: hasCell, leadsNowhere, stop, no, index, New, Port. -/
import Derived.Test.YtgjdjdgondpjeaaGreatBase
namespace Go.Proofs.YtgjdjdgondpjeaaGreat
open Go.RowKit Go.Lib

theorem hasCell_any (ao : Option Addr) (n c : Nat) (i : Int) (w : World) :
    Calls Tryz.prog 72 #[.slice ao n c, .int .i64 i] w fun r w' => r = .returned (.bool (decide (0 ≤ i ∧ i < n))) ∧ w' = w := by
  by_cases h : 0 ≤ i
  · by_cases h2 : i < n
    · go_enter Tryz.func72, Tryz.ntmps72
      go_wp2
      go_ret
      simp [h2, h]
    · go_enter Tryz.func72, Tryz.ntmps72
      go_wp2
      go_ret
      simp [h2]
  · go_enter Tryz.func72, Tryz.ntmps72
    go_wp2
    go_ret
    simp
    omega

theorem leads_any (p b : Nat) (who : Int) (g : Bool) (w : World) (hp : w.heap[p]? = some (PObj b who g)) :
    Calls Tryz.prog 75 #[.pointer (some ⟨p, 0, none⟩)] w fun r w' => r = .returned (.bool false) ∧ w' = w := by
  have c0 : w.cell? ⟨p, 0, none⟩ = some (.pointer (some ⟨b, 0, none⟩)) := cell_of hp rfl
  clear hp
  go_enter Tryz.func75, Tryz.ntmps75
  go_wp2
  go_ret
  exact ⟨rfl, rfl⟩

def Ast.stop (s : Ast) (a b c : Int) : Ast := if s.stopped then s else { s with stopped := true, fw := a, fk := b, fc := c }
def faultVal (a b c : Int) : Value := .agg #[.int .i64 a, .int .i64 b, .int .i64 c]

theorem stop_any (b gc : Nat) (lv : Value) (s : Ast) (x y z : Int) (w : World) (lk : Int) (hb : w.heap[b]? = some (AObjL lk gc lv s)) :
    Calls Tryz.prog 135 #[.pointer (some ⟨b, 0, none⟩), faultVal x y z] w fun r w' => r = .returned (.tuple #[]) ∧
      w'.heap[b]? = some (AObjL lk gc lv (s.stop x y z)) ∧ Chg (fun k => k = b) w w' := by
  have c6 : w.cell? ⟨b, 6, none⟩ = some (.bool s.stopped) := cell_of hb rfl
  have c7 : w.cell? ⟨b, 7, none⟩ = some (.int .i64 s.fw) := cell_of hb rfl
  have c8 : w.cell? ⟨b, 8, none⟩ = some (.int .i64 s.fk) := cell_of hb rfl
  have c9 : w.cell? ⟨b, 9, none⟩ = some (.int .i64 s.fc) := cell_of hb rfl
  have f6 := free_of hb 6
  have f7 := free_of hb 7
  have f8 := free_of hb 8
  have f9 := free_of hb 9
  have hlt := lt_of_heap hb
  have HB := hide hb
  clear hb
  unfold faultVal
  cases hs : s.stopped with
  | true =>
    rw [hs] at c6
    go_enter Tryz.func135, Tryz.ntmps135
    go_wp2
    first | go_end0 | refine bodyPost_ret (results_none rfl _ _ _) rfl ?_
    refine ⟨rfl, ?_, (Chg.refl _ _).alloc _⟩
    simp only [Ast.stop, hs, if_true]
    exact heap_old HB.out _
  | false =>
    rw [hs] at c6
    go_enter Tryz.func135, Tryz.ntmps135
    go_wp2
    first | go_end0 | refine bodyPost_ret (results_none rfl _ _ _) rfl ?_
    refine ⟨rfl, ?_, ?_⟩
    · simp only [Ast.stop, hs, Bool.false_eq_true, if_false]
      exact heap_old (heap_set (heap_set (heap_set (heap_set HB.out _) _) _) _) _
    · exact (((((Chg.refl (fun k => k = b) w).setCell (p := ⟨b, 7, none⟩) rfl _).setCell (p := ⟨b, 8, none⟩) rfl _).setCell (p := ⟨b, 9, none⟩) rfl _).setCell (p := ⟨b, 6, none⟩) rfl _).alloc _

theorem emod_of_tmod (i n : Int) (hn : 0 < n) : i % n = if i.tmod n < 0 then i.tmod n + n else i.tmod n := by
  have h := Int.tmod_add_mul_tdiv i n
  have hb := Int.tmod_lt_of_pos i hn
  have hb2 : -n < i.tmod n := by
    have := Int.tmod_lt_of_pos (-i) hn
    rw [Int.neg_tmod] at this
    omega
  have e : i % n = i.tmod n % n := by
    conv => lhs; rw [← h]
    rw [Int.add_mul_emod_self_left]
  rw [e]
  split
  · have : i.tmod n % n = (i.tmod n + n) % n := by simp
    rw [this]
    exact Int.emod_eq_of_lt (by omega) (by omega)
  · exact Int.emod_eq_of_lt (by omega) hb

theorem port_any (b : Nat) (who : Int) (w : World) (hw : 0 ≤ who) :
    Calls Tryz.prog 30 #[.pointer (some ⟨b, 0, none⟩), .int .i64 who] w fun r w' => r = .returned (.tuple #[.pointer (some ⟨w.heap.size, 0, none⟩), .int .i64 0]) ∧ w' = w.alloc (PObj b who false) := by
  go_enter Tryz.func30, Tryz.ntmps30
  go_wp2
  go_ret2
  exact ⟨rfl, rfl⟩

theorem port_bad (b : Nat) (who : Int) (w : World) (hw : who < 0) :
    Calls Tryz.prog 30 #[.pointer (some ⟨b, 0, none⟩), .int .i64 who] w fun r w' => r = .returned (.tuple #[.pointer none, .int .i64 12]) ∧ w' = w := by
  go_enter Tryz.func30, Tryz.ntmps30
  go_wp2
  go_ret2
  exact ⟨rfl, rfl⟩

def Ast.new (n : Nat) (keep : Bool) : Ast := ⟨List.replicate n 0, keep, [], 0, false, 0, 0, 0⟩
theorem made_words (n : Nat) : Obj.cells (madeCells (Value.int .u64 0).cells (n * 1)) 40 = wordsObj (List.replicate n 0) := by
  unfold wordsObj
  congr 1
  apply Array.ext
  · simp [madeCells]
  · intro i h1 h2
    simp [madeCells, Value.cells, Nat.mod_one]
theorem Tryz.info40 : (Tryz.prog.info? 40).map (fun i => (i.zero, i.size, i.bytes)) = some (some (.int .u64 0), 1, 8) := by kernel_rfl
theorem run_makeWords (n : Nat) (hn : n ≤ 17592186044416) (w : World) :
    (Instr.makeSlice 47 (.int .i64 n) (.int .i64 n)).run Tryz.prog w = .ok (.slice (some ⟨w.heap.size, 0, none⟩) n n) (w.alloc (wordsObj (List.replicate n 0))) := by
  obtain ⟨i0, hi, hz0, hz1, hz2⟩ := info_parts Tryz.info40
  have h := run_make (P := Tryz.prog) w 47 40 i0 (.int .u64 0) Tryz.underlying47 hi hz0 .i64 .i64 n n (by omega) (Int.le_refl _) (by rw [hz2]; omega) (by omega)
  rw [hz1] at h
  simp only [Int.toNat_natCast] at h
  rw [made_words] at h
  exact h

theorem new_any (n : Nat) (keep : Bool) (w : World) (hn : n ≤ 16777216) :
    Calls Tryz.prog 26 #[.int .i64 n, .bool keep] w fun r w' => r = .returned (.tuple #[.pointer (some ⟨w.heap.size + 1, 0, none⟩), .int .i64 0]) ∧
      AIs w' (w.heap.size + 2) (w.heap.size + 1) w.heap.size (.slice none 0 0) (Ast.new n keep) ∧ w'.heap.size = w.heap.size + 2 ∧ Below w.heap.size w w' := by
  have h1 : (n : Int) ≤ 16777216 := by omega
  have HN := hide hn
  have hm := run_makeWords n (by omega)
  clear hn
  go_enter Tryz.func26, Tryz.ntmps26
  go_wp2
  go_ret2
  refine ⟨rfl, ⟨?_, ?_, World.ownsRow_nil _ _ _ _, by omega, by omega, by omega, by simpa [Ast.new] using HN.out, by simp⟩, by simp, ((Below.refl _ _).alloc (Nat.le_refl _) _).alloc (by simp) _⟩
  · have h := heap_new (w.alloc (wordsObj (List.replicate n 0))) (AObj w.heap.size (.slice none 0 0) (Ast.new n keep))
    rw [show (w.alloc (wordsObj (List.replicate n 0))).heap.size = w.heap.size + 1 by simp] at h
    have e : (Ast.new n keep).cells.length = n := by simp [Ast.new]
    unfold AObj AObjL at h
    rw [e] at h
    unfold AObj AObjL
    rw [e]
    exact h
  · exact heap_old (heap_new w _) _

theorem new_bad (n : Int) (keep : Bool) (w : World) (hn : n < 0 ∨ 16777216 < n) :
    Calls Tryz.prog 26 #[.int .i64 n, .bool keep] w fun r w' => r = .returned (.tuple #[.pointer none, .int .i64 10]) ∧ w' = w := by
  by_cases h : n < 0
  · clear hn
    go_enter Tryz.func26, Tryz.ntmps26
    go_wp2
    go_ret2
    exact ⟨rfl, rfl⟩
  · have h2 : 16777216 < n := by omega
    clear hn
    go_enter Tryz.func26, Tryz.ntmps26
    go_wp2
    go_ret2
    exact ⟨rfl, rfl⟩
end Go.Proofs.YtgjdjdgondpjeaaGreat
