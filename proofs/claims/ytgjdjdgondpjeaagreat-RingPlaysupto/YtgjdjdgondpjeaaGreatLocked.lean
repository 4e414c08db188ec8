/- The calls under the lock: Grant, Granted, Count, Fault, Stop, Peek, Poke. -/
import Derived.Test.YtgjdjdgondpjeaaGreatSmall
namespace Go.Proofs.YtgjdjdgondpjeaaGreat
open Go.RowKit Go.Lib Go.MuLone

/-- Locked and freed again the block is as it was. -/
theorem AIs.relock {w w' : World} {Y b gc : Nat} {lv : Value} {s : Ast} {S : Nat → Prop} (h : AIs w Y b gc lv s) (hb : w'.heap[b]? = some (AObj gc lv s)) (k : Chg S w w')
    (h2 : ¬ S gc) (h3 : ∀ i, lv.ownBlock = some i → ¬ S i) : AIs w' Y b gc lv s :=
  ⟨hb, k.heap h.hc h2, ownsRow_block h.hl (fun i hi => k.block i (owns_lt h.hl hi).2 (h3 i hi)), h.bY, h.gY, h.ne, h.len, Nat.le_trans h.yw k.size⟩
theorem AIs.own_ne {w : World} {Y b gc : Nat} {lv : Value} {s : Ast} (h : AIs w Y b gc lv s) {i : Nat} (hi : lv.ownBlock = some i) : i ≠ b ∧ i ≠ gc ∧ i < w.heap.size := by
  have := owns_lt h.hl hi
  have := h.bY; have := h.gY
  omega

theorem Chg.put {S : Nat → Prop} {a w : World} (h : Chg S a w) (b i : Nat) (u : Value) (hp : S b) : Chg S a (w.setCell ⟨b, i, none⟩ u) := h.setCell (p := ⟨b, i, none⟩) hp u

set_option maxRecDepth 100000 in
theorem count_any (Y b gc : Nat) (lv : Value) (s : Ast) (w : World) (h : AIs w Y b gc lv s) :
    Calls Tryz.prog 48 #[.pointer (some ⟨b, 0, none⟩)] w fun r w' => r = .returned (.int .i64 s.count) ∧ AIs w' Y b gc lv s ∧ Chg (fun k => k = b) w w' ∧ w'.heap.size = w.heap.size := by
  have c0 : w.cell? ⟨b, 0, none⟩ = some (.int .i32 0) := cell_of h.hb rfl
  have c5 : w.cell? ⟨b, 5, none⟩ = some (.int .i64 s.count) := cell_of h.hb rfl
  have f0 := free_of h.hb 0
  have H := hide h
  clear h
  go_enter_defers Tryz.func48, Tryz.ntmps48
  go_wp2_with (go_at_call 51; refine (lock_free Tryz.muLib ⟨b, 0, none⟩ _ c0 f0).mono ?_; rintro e w' ⟨rfl, rfl⟩)
  refine leaves_cons (f := 52) (args := #[.pointer (some ⟨b, 0, none⟩)]) (by simp) (by simp [go_sem]) ?_
  refine (unlock_deferred Tryz.muLib ⟨b, 0, none⟩ .returning _ ?_ ?_).mono ?_
  · exact World.cell?_setCell_same w ⟨b, 0, none⟩ (.int .i32 1) c0
  · simp [f0]
  rintro e u' w'' ⟨rfl, rfl, rfl⟩
  refine ⟨_, results_tmp rfl _ _ _, rfl, ?_⟩
  have k : Chg (fun k => k = b) w ((w.setCell ⟨b, 0, none⟩ (.int .i32 1)).setCell ⟨b, 0, none⟩ (.int .i32 0)) := ((Chg.refl (fun k => k = b) _).put b 0 _ rfl).put b 0 _ rfl
  exact ⟨H.out.relock (heap_set (heap_set H.out.hb _) _) k (fun e => H.out.ne e.symm) (fun i hi => (H.out.own_ne hi).1), k, by simp [World.setCell]⟩

set_option maxRecDepth 100000 in
theorem grant_any (p Y b gc : Nat) (lv : Value) (s : Ast) (who : Int) (g : Bool) (w : World) (h : AIs w Y b gc lv s) (hp : w.heap[p]? = some (PObj b who g)) (hpb : p ≠ b) (hpg : p ≠ gc) (hpl : lv.ownBlock ≠ some p) :
    Calls Tryz.prog 45 #[.pointer (some ⟨p, 0, none⟩)] w fun r w' => r = .returned (.tuple #[]) ∧ AIs w' Y b gc lv s ∧ w'.heap[p]? = some (PObj b who true) ∧ Chg (fun k => k = b ∨ k = p) w w' ∧ w'.heap.size = w.heap.size := by
  have c0 : w.cell? ⟨b, 0, none⟩ = some (.int .i32 0) := cell_of h.hb rfl
  have d0 : w.cell? ⟨p, 0, none⟩ = some (.pointer (some ⟨b, 0, none⟩)) := cell_of hp rfl
  have d2 : w.cell? ⟨p, 2, none⟩ = some (.bool g) := cell_of hp rfl
  have f0 := free_of h.hb 0
  have f2 := free_of hp 2
  have H := hide h
  have HP := hide hp
  have hpb' : ¬ b = p := fun e => hpb e.symm
  have HL := hide (leads_any p b who g w hp)
  clear h hp
  go_enter_defers Tryz.func45, Tryz.ntmps45
  go_wp2_with fail
  refine HL.out.mono ?_
  rintro e w' ⟨rfl, rfl⟩
  go_wp2_with (go_at_call 51; refine (lock_free Tryz.muLib ⟨b, 0, none⟩ _ c0 f0).mono ?_; rintro e w' ⟨rfl, rfl⟩)
  refine leaves_cons (f := 52) (args := #[.pointer (some ⟨b, 0, none⟩)]) (by simp) (by simp [go_sem]) ?_
  refine (unlock_deferred Tryz.muLib ⟨b, 0, none⟩ .returning _ ?_ ?_).mono ?_
  · exact (World.cell?_setCell_other _ ⟨p, 2, none⟩ ⟨b, 0, none⟩ _ (by simp)).trans (World.cell?_setCell_same w' ⟨b, 0, none⟩ (.int .i32 1) c0)
  · simp [f0]
  rintro e u' w'' ⟨rfl, rfl, rfl⟩
  refine ⟨_, results_none rfl _ _ _, rfl, ?_⟩
  have k : Chg (fun k => k = b ∨ k = p) w' (((w'.setCell ⟨b, 0, none⟩ (.int .i32 1)).setCell ⟨p, 2, none⟩ (.bool true)).setCell ⟨b, 0, none⟩ (.int .i32 0)) := (((Chg.refl _ _).put b 0 _ (.inl rfl)).put p 2 _ (.inr rfl)).put b 0 _ (.inl rfl)
  refine ⟨H.out.relock (heap_set (heap_else (heap_set H.out.hb _) (show b ≠ p from hpb') _) _) k ?_ ?_, heap_else (heap_set (heap_else HP.out (show p ≠ b from hpb) _) _) (show p ≠ b from hpb) _, k, by simp [World.setCell]⟩
  · intro e; rcases e with e | e
    · exact H.out.ne e.symm
    · exact hpg e.symm
  · intro i hi e; rcases e with e | e
    · exact (H.out.own_ne hi).1 e
    · exact hpl (e ▸ hi)

end Go.Proofs.YtgjdjdgondpjeaaGreat
