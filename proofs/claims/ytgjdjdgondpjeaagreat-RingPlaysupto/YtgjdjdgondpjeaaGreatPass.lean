/- pass, under the lock. -/
import Derived.Test.YtgjdjdgondpjeaaGreatCarry
namespace Go.Proofs.YtgjdjdgondpjeaaGreat
open Go.RowKit Go.Lib Go.MuLone

theorem pass_stopped (p b gc : Nat) (lv : Value) (s : Ast) (who : Int) (g : Bool) (i lk : Int) (w : World) (hb : w.heap[b]? = some (AObjL lk gc lv s)) (hp : w.heap[p]? = some (PObj b who g)) (hs : s.stopped = true) :
    Calls Tryz.prog 115 #[.pointer (some ⟨p, 0, none⟩), .int .i64 i] w fun r w' => r = .returned (.bool false) ∧ w' = w := by
  have c6 : w.cell? ⟨b, 6, none⟩ = some (.bool true) := by rw [← hs]; exact cell_of hb rfl
  have d0 : w.cell? ⟨p, 0, none⟩ = some (.pointer (some ⟨b, 0, none⟩)) := cell_of hp rfl
  clear hb hp hs
  go_enter Tryz.func115, Tryz.ntmps115
  go_wp2
  go_ret
  exact ⟨rfl, rfl⟩

set_option maxRecDepth 100000 in
theorem pass_none (p b gc : Nat) (lv : Value) (s : Ast) (who : Int) (i lk : Int) (w : World) (hb : w.heap[b]? = some (AObjL lk gc lv s)) (hp : w.heap[p]? = some (PObj b who false)) (hs : s.stopped = false) :
    Calls Tryz.prog 115 #[.pointer (some ⟨p, 0, none⟩), .int .i64 i] w fun r w' => r = .returned (.bool false) ∧ w'.heap[b]? = some (AObjL lk gc lv (s.stop who 2 i)) ∧ Chg (fun k => k = b) w w' := by
  have c6 : w.cell? ⟨b, 6, none⟩ = some (.bool false) := by rw [← hs]; exact cell_of hb rfl
  have d0 : w.cell? ⟨p, 0, none⟩ = some (.pointer (some ⟨b, 0, none⟩)) := cell_of hp rfl
  have d1 : w.cell? ⟨p, 1, none⟩ = some (.int .i64 who) := cell_of hp rfl
  have d2 : w.cell? ⟨p, 2, none⟩ = some (.bool false) := cell_of hp rfl
  have HB := hide hb
  clear hb hp hs
  go_enter Tryz.func115, Tryz.ntmps115
  go_wp2
  go_region_with (go_at_call 135; refine (stop_any b gc lv s who 2 i _ lk ?_).mono ?_; exact HB.out; rintro e w1 ⟨rfl, hb1, k1⟩; have HB1 := hide hb1; have HK := hide k1; clear hb1 k1)
  all_goals
    go_wp2
    go_ret
    first | exact ⟨rfl, HB1.out, HK.out.drew⟩ | exact ⟨rfl, HB1.out, ((Chg.refl (fun k => k = b) w).drew).trans HK.out⟩

set_option maxRecDepth 100000 in
theorem pass_out (p b gc : Nat) (lv : Value) (s : Ast) (who : Int) (i lk : Int) (w : World) (hb : w.heap[b]? = some (AObjL lk gc lv s)) (hp : w.heap[p]? = some (PObj b who true)) (hs : s.stopped = false) (hpb : p ≠ b) (hi : ¬ (0 ≤ i ∧ i < s.cells.length)) :
    Calls Tryz.prog 115 #[.pointer (some ⟨p, 0, none⟩), .int .i64 i] w fun r w' => r = .returned (.bool false) ∧ w'.heap[b]? = some (AObjL lk gc lv (s.stop who 1 i)) ∧ w'.heap[p]? = some (PObj b who false) ∧ Chg (fun k => k = b ∨ k = p) w w' := by
  have c6 : w.cell? ⟨b, 6, none⟩ = some (.bool false) := by rw [← hs]; exact cell_of hb rfl
  have c2 : w.cell? ⟨b, 2, none⟩ = some (.slice (some ⟨gc, 0, none⟩) s.cells.length s.cells.length) := cell_of hb rfl
  have d0 : w.cell? ⟨p, 0, none⟩ = some (.pointer (some ⟨b, 0, none⟩)) := cell_of hp rfl
  have d1 : w.cell? ⟨p, 1, none⟩ = some (.int .i64 who) := cell_of hp rfl
  have d2 : w.cell? ⟨p, 2, none⟩ = some (.bool true) := cell_of hp rfl
  have f2 := free_of hp 2
  have HB := hide hb
  have HP := hide hp
  have HI := hide hi
  have hpb' : ¬ b = p := fun e => hpb e.symm
  clear hb hp hs hi
  go_enter Tryz.func115, Tryz.ntmps115
  go_wp2_with fail
  refine (hasCell_any _ _ _ _ _).mono ?_
  rintro e w1 ⟨rfl, rfl⟩
  rw [decide_eq_false HI.out]
  go_wp2_with fail
  go_region_with (go_at_call 135; refine (stop_any b gc lv s who 1 i _ lk ?_).mono ?_; exact heap_else HB.out hpb' _; rintro e w1 ⟨rfl, hb1, k1⟩; have HB1 := hide hb1; have HK := hide k1; clear hb1 k1)
  all_goals
    go_wp2
    go_ret
    have hp1 : w1.heap[p]? = some (PObj b who false) := HK.out.heap (heap_set HP.out _) (fun e => hpb e)
    have k0 : Chg (fun k => k = b ∨ k = p) w (w.setCell ⟨p, 2, none⟩ (.bool false)) := (Chg.refl (fun k => k = b ∨ k = p) w).put p 2 _ (.inr rfl)
    first | exact ⟨rfl, HB1.out, hp1, (k0.trans (HK.out.mono fun _ h => .inl h)).drew⟩ | exact ⟨rfl, HB1.out, hp1, k0.drew.trans (HK.out.mono fun _ h => .inl h)⟩

theorem pass_in (p b gc : Nat) (lv : Value) (s : Ast) (who : Int) (i : Nat) (lk : Int) (w : World) (hb : w.heap[b]? = some (AObjL lk gc lv s)) (hp : w.heap[p]? = some (PObj b who true)) (hs : s.stopped = false) (hpb : p ≠ b) (hi : i < s.cells.length) :
    Calls Tryz.prog 115 #[.pointer (some ⟨p, 0, none⟩), .int .i64 i] w fun r w' => r = .returned (.bool true) ∧ w' = w.setCell ⟨p, 2, none⟩ (.bool false) := by
  have c6 : w.cell? ⟨b, 6, none⟩ = some (.bool false) := by rw [← hs]; exact cell_of hb rfl
  have c2 : w.cell? ⟨b, 2, none⟩ = some (.slice (some ⟨gc, 0, none⟩) s.cells.length s.cells.length) := cell_of hb rfl
  have d0 : w.cell? ⟨p, 0, none⟩ = some (.pointer (some ⟨b, 0, none⟩)) := cell_of hp rfl
  have d2 : w.cell? ⟨p, 2, none⟩ = some (.bool true) := cell_of hp rfl
  have f2 := free_of hp 2
  have hpb' : ¬ b = p := fun e => hpb e.symm
  clear hb hp hs
  go_enter Tryz.func115, Tryz.ntmps115
  go_wp2_with fail
  refine (hasCell_any _ _ _ _ _).mono ?_
  rintro e w1 ⟨rfl, rfl⟩
  rw [decide_eq_true (show (0 : Int) ≤ i ∧ (i : Int) < s.cells.length by omega)]
  go_wp2_with fail
  go_ret
  exact ⟨rfl, rfl⟩
end Go.Proofs.YtgjdjdgondpjeaaGreat
