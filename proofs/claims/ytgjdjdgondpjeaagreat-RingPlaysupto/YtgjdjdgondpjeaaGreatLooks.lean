/- Stop, Len, Peek, Poke. -/
import Derived.Test.YtgjdjdgondpjeaaGreatLocked
namespace Go.Proofs.YtgjdjdgondpjeaaGreat
open Go.RowKit Go.Lib Go.MuLone

/-- The number at a place. -/
def nth (xs : List Int) (i : Nat) : Int := xs.getD i 0
theorem words_cell {w : World} {g : Nat} {xs : List Int} (h : w.heap[g]? = some (wordsObj xs)) (i : Nat) (hi : i < xs.length) : w.cell? ⟨g, i, none⟩ = some (.int .u64 (nth xs i)) := by
  refine cell_of h ?_
  simp [nth, List.getD, List.getElem?_eq_getElem hi]
theorem words_set {w : World} {g : Nat} {xs : List Int} (h : w.heap[g]? = some (wordsObj xs)) (i : Nat) (x : Int) : (w.setCell ⟨g, i, none⟩ (.int .u64 x)).heap[g]? = some (wordsObj (xs.set i x)) := by
  unfold wordsObj at *
  rw [heap_set h]
  simp

set_option maxRecDepth 100000 in
theorem poke_in (Y b gc : Nat) (lv : Value) (s : Ast) (i : Nat) (x : Int) (w : World) (h : AIs w Y b gc lv s) (hi : i < s.cells.length) :
    Calls Tryz.prog 28 #[.pointer (some ⟨b, 0, none⟩), .int .i64 i, .int .u64 x] w fun r w' => r = .returned (.int .i64 0) ∧ AIs w' Y b gc lv { s with cells := s.cells.set i x } ∧ Chg (fun k => k = b ∨ k = gc) w w' := by
  have c0 : w.cell? ⟨b, 0, none⟩ = some (.int .i32 0) := cell_of h.hb rfl
  have c2 : w.cell? ⟨b, 2, none⟩ = some (.slice (some ⟨gc, 0, none⟩) s.cells.length s.cells.length) := cell_of h.hb rfl
  have e1 := words_cell h.hc i hi
  have f0 := free_of h.hb 0
  have fi := free_of h.hc i
  have hne : ¬ gc = b := fun e => h.ne e.symm
  have hne' : ¬ b = gc := h.ne
  have hii : (i : Int) < s.cells.length := by omega
  have H := hide h
  clear h
  go_enter_defers Tryz.func28, Tryz.ntmps28
  go_wp2_with (go_at_call 51; refine (lock_free Tryz.muLib ⟨b, 0, none⟩ _ c0 f0).mono ?_; rintro e w' ⟨rfl, rfl⟩)
  refine (hasCell_any _ _ _ _ _).mono ?_
  rintro e w1 ⟨rfl, rfl⟩
  rw [decide_eq_true (show (0 : Int) ≤ i ∧ (i : Int) < s.cells.length by omega)]
  go_wp2_with fail
  refine leaves_cons (f := 52) (args := #[.pointer (some ⟨b, 0, none⟩)]) (by simp) (by simp [go_sem]) ?_
  have hb1 : ((w.setCell ⟨b, 0, none⟩ (.int .i32 1)).setCell ⟨gc, i, none⟩ (.int .u64 x)).heap[b]? = some (AObjL 1 gc lv s) := heap_else (heap_set H.out.hb _) hne' _
  refine (unlock_deferred Tryz.muLib ⟨b, 0, none⟩ .returning _ (cell_of hb1 rfl) (free_of hb1 0)).mono ?_
  rintro e u' w'' ⟨rfl, rfl, rfl⟩
  refine ⟨_, results_tmp rfl _ _ _, rfl, ?_⟩
  have h := H.out
  have k : Chg (fun k => k = b ∨ k = gc) w (((w.setCell ⟨b, 0, none⟩ (.int .i32 1)).setCell ⟨gc, i, none⟩ (.int .u64 x)).setCell ⟨b, 0, none⟩ (.int .i32 0)) :=
    (((Chg.refl (fun k => k = b ∨ k = gc) _).put b 0 _ (.inl rfl)).put gc i _ (.inr rfl)).put b 0 _ (.inl rfl)
  have e2 : (s.cells.set i x).length = s.cells.length := by simp
  refine ⟨⟨?_, ?_, ownsRow_block h.hl (fun j hj => k.block j (owns_lt h.hl hj).2 ?_), h.bY, h.gY, h.ne, by rw [e2]; exact h.len, Nat.le_trans h.yw k.size⟩, k⟩
  · have := heap_set (i := 0) hb1 (.int .i32 0)
    unfold AObj AObjL at *
    simp only [e2]
    exact this
  · exact heap_else (words_set (heap_else h.hc hne _) i x) hne _
  · have := h.own_ne hj
    intro e; rcases e with e | e <;> omega

set_option maxRecDepth 100000 in
theorem poke_out (Y b gc : Nat) (lv : Value) (s : Ast) (i : Int) (x : Int) (w : World) (h : AIs w Y b gc lv s) (hi : ¬ (0 ≤ i ∧ i < s.cells.length)) :
    Calls Tryz.prog 28 #[.pointer (some ⟨b, 0, none⟩), .int .i64 i, .int .u64 x] w fun r w' => r = .returned (.int .i64 11) ∧ AIs w' Y b gc lv s ∧ Chg (fun k => k = b) w w' := by
  have c0 : w.cell? ⟨b, 0, none⟩ = some (.int .i32 0) := cell_of h.hb rfl
  have c2 : w.cell? ⟨b, 2, none⟩ = some (.slice (some ⟨gc, 0, none⟩) s.cells.length s.cells.length) := cell_of h.hb rfl
  have f0 := free_of h.hb 0
  have hne : ¬ gc = b := fun e => h.ne e.symm
  have HI := hide hi
  have H := hide h
  clear h hi
  go_enter_defers Tryz.func28, Tryz.ntmps28
  go_wp2_with (go_at_call 51; refine (lock_free Tryz.muLib ⟨b, 0, none⟩ _ c0 f0).mono ?_; rintro e w' ⟨rfl, rfl⟩)
  refine (hasCell_any _ _ _ _ _).mono ?_
  rintro e w1 ⟨rfl, rfl⟩
  rw [decide_eq_false HI.out]
  go_wp2_with fail
  refine leaves_cons (f := 52) (args := #[.pointer (some ⟨b, 0, none⟩)]) (by simp) (by simp [go_sem]) ?_
  refine (unlock_deferred Tryz.muLib ⟨b, 0, none⟩ .returning _ (cell_of (heap_set H.out.hb _) rfl) (free_of (heap_set H.out.hb _) 0)).mono ?_
  rintro e u' w'' ⟨rfl, rfl, rfl⟩
  refine ⟨_, results_tmp rfl _ _ _, rfl, ?_⟩
  have k : Chg (fun k => k = b) w ((w.setCell ⟨b, 0, none⟩ (.int .i32 1)).setCell ⟨b, 0, none⟩ (.int .i32 0)) := ((Chg.refl (fun k => k = b) _).put b 0 _ rfl).put b 0 _ rfl
  exact ⟨H.out.relock (heap_set (heap_set H.out.hb _) _) k hne (fun i hi => (H.out.own_ne hi).1), k⟩
end Go.Proofs.YtgjdjdgondpjeaaGreat
