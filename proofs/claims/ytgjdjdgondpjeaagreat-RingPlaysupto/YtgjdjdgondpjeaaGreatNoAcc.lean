/- access, where it is not made. -/
import Derived.Test.YtgjdjdgondpjeaaGreatPass
namespace Go.Proofs.YtgjdjdgondpjeaaGreat
open Go.RowKit Go.Lib Go.MuLone

set_option maxRecDepth 100000 in
theorem access_stopped (p Y b gc : Nat) (lv : Value) (s : Ast) (who : Int) (g : Bool) (k want put i : Int) (w : World) (h : AIs w Y b gc lv s) (hp : w.heap[p]? = some (PObj b who g)) (hpb : p ≠ b) (hs : s.stopped = true) :
    Calls Tryz.prog 100 #[.pointer (some ⟨p, 0, none⟩), .agg #[.int .i64 0, .int .i64 k, .int .i64 i, .int .u64 want, .int .u64 put, .int .u64 0, .int .u64 0, .bool false]] w fun r w' => r = .returned (.agg #[.int .i64 0, .int .i64 0, .int .i64 0, .int .u64 0, .int .u64 0, .int .u64 0, .int .u64 0, .bool false]) ∧ AIs w' Y b gc lv s ∧ Chg (fun k => k = b) w w' := by
  have hbl := lt_of_heap h.hb
  have hpw := lt_of_heap hp
  have H := hide h
  have HP := hide hp
  have d0 : w.cell? ⟨p, 0, none⟩ = some (.pointer (some ⟨b, 0, none⟩)) := cell_of hp rfl
  have hbp : ¬ b = p := fun e => hpb e.symm
  have HS := hide hs
  clear h hp hs
  go_enter_defers Tryz.func100, Tryz.ntmps100
  go_wp2_with fail
  refine (leads_any p b who g _ (heap_old (heap_old HP.out _) _)).mono ?_
  rintro e w' ⟨rfl, rfl⟩
  go_wp2_with fail
  refine (lock_free Tryz.muLib ⟨b, 0, none⟩ _ (cell_of (heap_old (heap_old H.out.hb _) _) rfl) (free_of (heap_old (heap_old H.out.hb _) _) 0)).mono ?_
  rintro e w' ⟨rfl, rfl⟩
  go_wp2_with fail
  refine (pass_stopped p b gc lv s who g i 1 _ (heap_old (heap_old (heap_set H.out.hb _) _) _) (heap_old (heap_old (heap_else HP.out hpb _) _) _) HS.out).mono ?_
  rintro e w' ⟨rfl, rfl⟩
  go_wp2_with fail
  refine leaves_cons (f := 52) (args := #[.pointer (some ⟨b, 0, none⟩)]) (by simp) (by simp [go_sem]) ?_
  generalize hF : World.alloc _ _ = F
  have fb : F.heap[b]? = some (AObjL 1 gc lv s) := by rw [← hF]; exact heap_old (heap_old (heap_set H.out.hb _) _) _
  have fk : Chg (fun k => k = b) w F := by rw [← hF]; exact (((Chg.refl (fun k => k = b) w).put b 0 _ rfl).alloc _).alloc _
  have fr : F.heap[w.heap.size + 1]? = some (.cells #[.int .i64 0, .int .i64 0, .int .i64 0, .int .u64 0, .int .u64 0, .int .u64 0, .int .u64 0, .bool false] 55 (0, 0)) := by
    rw [← hF]
    have h := heap_new ((w.setCell ⟨b, 0, none⟩ (.int .i32 1)).alloc (.cells #[.int .i64 0, .int .i64 k, .int .i64 i, .int .u64 want, .int .u64 put, .int .u64 0, .int .u64 0, .bool false] 55)) (.cells #[.int .i64 0, .int .i64 0, .int .i64 0, .int .u64 0, .int .u64 0, .int .u64 0, .int .u64 0, .bool false] 55)
    simpa [World.setCell] using h
  refine (unlock_deferred Tryz.muLib ⟨b, 0, none⟩ .returning _ (cell_of fb rfl) (free_of fb 0)).mono ?_
  rintro e u' w'' ⟨rfl, rfl, rfl⟩
  refine ⟨.agg #[.int .i64 0, .int .i64 0, .int .i64 0, .int .u64 0, .int .u64 0, .int .u64 0, .int .u64 0, .bool false], ?_, rfl, ?_⟩
  · have q0 := cell_of (i := 0) fr rfl
    have q1 := cell_of (i := 1) fr rfl
    have q2 := cell_of (i := 2) fr rfl
    have q3 := cell_of (i := 3) fr rfl
    have q4 := cell_of (i := 4) fr rfl
    have q5 := cell_of (i := 5) fr rfl
    have q6 := cell_of (i := 6) fr rfl
    have q7 := cell_of (i := 7) fr rfl
    simp [results, Tryz.results100, go_sem, q0, q1, q2, q3, q4, q5, q6, q7]
  · have k2 := fk.put b 0 (.int .i32 0) rfl
    exact ⟨H.out.relock (heap_set fb _) k2 (fun e => H.out.ne e.symm) (fun j hj => (H.out.own_ne hj).1), k2⟩
end Go.Proofs.YtgjdjdgondpjeaaGreat
