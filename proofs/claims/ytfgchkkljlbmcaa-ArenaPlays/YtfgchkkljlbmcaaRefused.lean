/- access, where the port has no grant or there is no such cell. -/
import Derived.Test.YtfgchkkljlbmcaaRefArena
namespace Go.Proofs.Ytfgchkkljlbmcaa
open Go.RowKit Go.Lib Go.MuLone

/-- The answer of zeros is laid, and the lock is let go. -/
theorem refused_end {w w1 F : World} {Y b gc R : Nat} {lv : Value} {s : Ast} {x y z : Int} {S : Nat → Prop} (h : AIs w Y b gc lv s) (hb1 : w1.heap[b]? = some (AObjL 1 gc lv (s.stop x y z))) (fk : Chg S w w1) (yr : w1.heap[R]? = some (.cells Acc.zero.arr 31 (0, 0)))
    (hR : R = w.heap.size + 1) (hSb : S b) (hSg : ¬ S gc) (hSl : ∀ j, lv.ownBlock = some j → ¬ S j)
    (hF : F = ((((((((w1.setCell ⟨R, 0, none⟩ (.int .i64 0)).setCell ⟨R, 1, none⟩ (.int .i64 0)).setCell ⟨R, 2, none⟩ (.int .i64 0)).setCell ⟨R, 3, none⟩ (.int .u64 0)).setCell ⟨R, 4, none⟩ (.int .u64 0)).setCell ⟨R, 5, none⟩ (.int .u64 0)).setCell ⟨R, 6, none⟩ (.int .u64 0)).setCell ⟨R, 7, none⟩ (.bool false))) :
    F.heap[b]? = some (AObjL 1 gc lv (s.stop x y z)) ∧ F.heap[R]? = some (.cells Acc.zero.arr 31 (0, 0)) ∧ AIs (F.setCell ⟨b, 0, none⟩ (.int .i32 0)) Y b gc lv (s.stop x y z) ∧ Chg S w (F.setCell ⟨b, 0, none⟩ (.int .i32 0)) ∧ Chg (fun j => j = b ∨ j = R) w1 (F.setCell ⟨b, 0, none⟩ (.int .i32 0)) := by
  have hbl := lt_of_heap h.hb
  have gb : F.heap[b]? = some (AObjL 1 gc lv (s.stop x y z)) := by rw [hF]; exact set8_else (R := R) hb1 (by omega) _ _ _ _ _ _ _ _
  have gk : Chg S w F := by rw [hF]; exact set8_chg fk (by omega) _ _ _ _ _ _ _ _
  have gr : F.heap[R]? = some (.cells Acc.zero.arr 31 (0, 0)) := by
    have r3 := heap_set (i := 7) (heap_set (i := 6) (heap_set (i := 5) (heap_set (i := 4) (heap_set (i := 3) (heap_set (i := 2) (heap_set (i := 1) (heap_set (i := 0) yr (.int .i64 0)) (.int .i64 0)) (.int .i64 0)) (.int .u64 0)) (.int .u64 0)) (.int .u64 0)) (.int .u64 0)) (.bool false)
    rw [hF, r3]
    simp [Acc.zero, Acc.arr]
  have k2 : Chg S w (F.setCell ⟨b, 0, none⟩ (.int .i32 0)) := gk.setCell (p := ⟨b, 0, none⟩) hSb _
  have k3 : Chg (fun j => j = b ∨ j = R) w1 (F.setCell ⟨b, 0, none⟩ (.int .i32 0)) := by
    rw [hF]
    exact (((((((((Chg.refl (fun j => j = b ∨ j = R) w1).put R 0 _ (.inr rfl)).put R 1 _ (.inr rfl)).put R 2 _ (.inr rfl)).put R 3 _ (.inr rfl)).put R 4 _ (.inr rfl)).put R 5 _ (.inr rfl)).put R 6 _ (.inr rfl)).put R 7 _ (.inr rfl)).put b 0 _ (.inl rfl)
  refine ⟨gb, gr, ⟨heap_set gb _, ?_, ?_, h.bY, h.gY, h.ne, ?_, Nat.le_trans h.yw k2.size⟩, k2, k3⟩
  · rw [Ast.stop_cells]; exact k2.heap h.hc hSg
  · rw [Ast.stop_log]; exact ownsRow_block h.hl (fun i hi => k2.block i (owns_lt h.hl hi).2 (hSl i hi))
  · rw [Ast.stop_cells]; exact h.len

set_option maxRecDepth 100000 in
set_option maxHeartbeats 1000000 in
theorem access_none (p Y b gc : Nat) (lv : Value) (s : Ast) (who : Int) (k want put i : Int) (w : World) (h : AIs w Y b gc lv s) (hp : w.heap[p]? = some (PObj b who false)) (hpb : p ≠ b) (hs : s.stopped = false) :
    Calls Try.prog 52 #[.pointer (some ⟨p, 0, none⟩), .agg #[.int .i64 0, .int .i64 k, .int .i64 i, .int .u64 want, .int .u64 put, .int .u64 0, .int .u64 0, .bool false]] w fun r w' => r = .returned (.agg #[.int .i64 0, .int .i64 0, .int .i64 0, .int .u64 0, .int .u64 0, .int .u64 0, .int .u64 0, .bool false]) ∧ AIs w' Y b gc lv (s.stop who 2 i) ∧ Chg (fun k => k = b) w w' := by
  have hbl := lt_of_heap h.hb
  have hpw := lt_of_heap hp
  have H := hide h
  have HP := hide hp
  have d0 : w.cell? ⟨p, 0, none⟩ = some (.pointer (some ⟨b, 0, none⟩)) := cell_of hp rfl
  have hbp : ¬ b = p := fun e => hpb e.symm
  have HS := hide hs
  clear h hp hs
  go_enter_defers Try.func52, Try.ntmps52
  go_wp2_with fail
  refine (leads_any p b who false _ (heap_old (heap_old HP.out _) _)).mono ?_
  rintro e w' ⟨rfl, rfl⟩
  go_wp2_with fail
  refine (lock_free Try.muLib ⟨b, 0, none⟩ _ (cell_of (heap_old (heap_old H.out.hb _) _) rfl) (free_of (heap_old (heap_old H.out.hb _) _) 0)).mono ?_
  rintro e w' ⟨rfl, rfl⟩
  go_wp2_with fail
  refine (pass_none p b gc lv s who i 1 _ (heap_old (heap_old (heap_set H.out.hb _) _) _) (heap_old (heap_old (heap_else HP.out hpb _) _) _) HS.out).mono ?_
  rintro e w1 ⟨rfl, hb1, k1⟩
  have yr : w1.heap[w.heap.size + 1]? = some (.cells Acc.zero.arr 31 (0, 0)) := by
    refine k1.heap ?_ (by omega)
    have h := heap_new ((w.setCell ⟨b, 0, none⟩ (.int .i32 1)).alloc (.cells #[.int .i64 0, .int .i64 k, .int .i64 i, .int .u64 want, .int .u64 put, .int .u64 0, .int .u64 0, .bool false] 31)) (.cells Acc.zero.arr 31)
    simpa [World.setCell, Acc.zero, Acc.arr] using h
  have fk : Chg (fun k => k = b) w w1 := ((((Chg.refl (fun k => k = b) w).put b 0 _ rfl).alloc _).alloc _).trans k1
  obtain ⟨r0, r1, r2, r3, r4, r5, r6, r7⟩ := block8 yr
  have rf := fun j => free_of yr j
  have G := hide (And.intro hb1 (And.intro fk yr))
  clear hb1 k1 fk yr
  go_wp2_with fail
  refine leaves_cons (f := 47) (args := #[.pointer (some ⟨b, 0, none⟩)]) (by simp) (by simp [go_sem]) ?_
  generalize hF : World.setCell _ _ _ = F
  obtain ⟨fb, fr, fa, fk, _⟩ := refused_end (S := fun k => k = b) H.out G.out.1 G.out.2.1 G.out.2.2 rfl rfl (fun e => H.out.ne e.symm) (fun j hj => (H.out.own_ne hj).1) hF.symm
  refine (unlock_deferred Try.muLib ⟨b, 0, none⟩ .returning _ (cell_of fb rfl) (free_of fb 0)).mono ?_
  rintro e u' w'' ⟨rfl, rfl, rfl⟩
  refine ⟨Acc.zero.val, ?_, rfl, fa, fk⟩
  obtain ⟨q0, q1, q2, q3, q4, q5, q6, q7⟩ := block8 fr
  simp [results, Try.results52, go_sem, Acc.val, Acc.zero, Acc.arr, q0, q1, q2, q3, q4, q5, q6, q7]

set_option maxRecDepth 100000 in
set_option maxHeartbeats 1000000 in
theorem access_out (p Y b gc : Nat) (lv : Value) (s : Ast) (who : Int) (k want put i : Int) (w : World) (h : AIs w Y b gc lv s) (hp : w.heap[p]? = some (PObj b who true)) (hpb : p ≠ b) (hpg : p ≠ gc) (hpl : lv.ownBlock ≠ some p) (hs : s.stopped = false) (hi : ¬ (0 ≤ i ∧ i < s.cells.length)) :
    Calls Try.prog 52 #[.pointer (some ⟨p, 0, none⟩), .agg #[.int .i64 0, .int .i64 k, .int .i64 i, .int .u64 want, .int .u64 put, .int .u64 0, .int .u64 0, .bool false]] w fun r w' => r = .returned (.agg #[.int .i64 0, .int .i64 0, .int .i64 0, .int .u64 0, .int .u64 0, .int .u64 0, .int .u64 0, .bool false]) ∧ AIs w' Y b gc lv (s.stop who 1 i) ∧ w'.heap[p]? = some (PObj b who false) ∧ Chg (fun k => k = b ∨ k = p) w w' := by
  have hbl := lt_of_heap h.hb
  have hpw := lt_of_heap hp
  have H := hide h
  have HP := hide hp
  have d0 : w.cell? ⟨p, 0, none⟩ = some (.pointer (some ⟨b, 0, none⟩)) := cell_of hp rfl
  have hbp : ¬ b = p := fun e => hpb e.symm
  have HS := hide hs
  have HI := hide hi
  clear h hp hs hi
  go_enter_defers Try.func52, Try.ntmps52
  go_wp2_with fail
  refine (leads_any p b who true _ (heap_old (heap_old HP.out _) _)).mono ?_
  rintro e w' ⟨rfl, rfl⟩
  go_wp2_with fail
  refine (lock_free Try.muLib ⟨b, 0, none⟩ _ (cell_of (heap_old (heap_old H.out.hb _) _) rfl) (free_of (heap_old (heap_old H.out.hb _) _) 0)).mono ?_
  rintro e w' ⟨rfl, rfl⟩
  go_wp2_with fail
  refine (pass_out p b gc lv s who i 1 _ (heap_old (heap_old (heap_set H.out.hb _) _) _) (heap_old (heap_old (heap_else HP.out hpb _) _) _) HS.out hpb HI.out).mono ?_
  rintro e w1 ⟨rfl, hb1, hp1, k1⟩
  have yr : w1.heap[w.heap.size + 1]? = some (.cells Acc.zero.arr 31 (0, 0)) := by
    refine k1.heap ?_ (by omega)
    have h := heap_new ((w.setCell ⟨b, 0, none⟩ (.int .i32 1)).alloc (.cells #[.int .i64 0, .int .i64 k, .int .i64 i, .int .u64 want, .int .u64 put, .int .u64 0, .int .u64 0, .bool false] 31)) (.cells Acc.zero.arr 31)
    simpa [World.setCell, Acc.zero, Acc.arr] using h
  have fk : Chg (fun k => k = b ∨ k = p) w w1 := ((((Chg.refl (fun k => k = b ∨ k = p) w).put b 0 _ (.inl rfl)).alloc _).alloc _).trans k1
  obtain ⟨r0, r1, r2, r3, r4, r5, r6, r7⟩ := block8 yr
  have rf := fun j => free_of yr j
  have G := hide (And.intro hb1 (And.intro fk (And.intro yr hp1)))
  clear hb1 k1 fk yr hp1
  go_wp2_with fail
  refine leaves_cons (f := 47) (args := #[.pointer (some ⟨b, 0, none⟩)]) (by simp) (by simp [go_sem]) ?_
  generalize hF : World.setCell _ _ _ = F
  obtain ⟨fb, fr, fa, fk, fd⟩ := refused_end (S := fun k => k = b ∨ k = p) H.out G.out.1 G.out.2.1 G.out.2.2.1 rfl (.inl rfl) (fun e => by rcases e with e | e; exact H.out.ne e.symm; exact hpg e.symm) (fun j hj e => by rcases e with e | e; exact (H.out.own_ne hj).1 e; exact hpl (e ▸ hj)) hF.symm
  refine (unlock_deferred Try.muLib ⟨b, 0, none⟩ .returning _ (cell_of fb rfl) (free_of fb 0)).mono ?_
  rintro e u' w'' ⟨rfl, rfl, rfl⟩
  refine ⟨Acc.zero.val, ?_, rfl, fa, fd.heap G.out.2.2.2 (by omega), fk⟩
  obtain ⟨q0, q1, q2, q3, q4, q5, q6, q7⟩ := block8 fr
  simp [results, Try.results52, go_sem, Acc.val, Acc.zero, Acc.arr, q0, q1, q2, q3, q4, q5, q6, q7]
end Go.Proofs.Ytfgchkkljlbmcaa
