import Derived.Test.YtlncjbjdjciphaaRefArena
import Derived.Test.YtlncjbjdjciphaaN5
import Derived.Test.YtlncjbjdjciphaaNoAcc
import Derived.Test.YtlncjbjdjciphaaRA
import Derived.Test.YtlncjbjdjciphaaRefAccess
/- access, where the port has no grant or there is no such cell. -/
namespace Go.Proofs.Ytlncjbjdjciphaa
open Go.RowKit Go.Lib Go.MuLone

/-- The answer of zeros is laid, and the lock is let go. -/
theorem refused_end {w w1 F : World} {Y b gc R : Nat} {lv : Value} {s : Ast} {x y z : Int} {S : Nat → Prop} (h : AIs w Y b gc lv s) (hb1 : w1.heap[b]? = some (AObjL 1 gc lv (s.stop x y z))) (fk : Chg S w w1) (yr : w1.heap[R]? = some (.cells Acc.zero.arr 59 (0, 0)))
    (hR : R = w.heap.size + 1) (hSb : S b) (hSg : ¬ S gc) (hSl : ∀ j, lv.ownBlock = some j → ¬ S j)
    (hF : F = ((((((((w1.setCell ⟨R, 0, none⟩ (.int .i64 0)).setCell ⟨R, 1, none⟩ (.int .i64 0)).setCell ⟨R, 2, none⟩ (.int .i64 0)).setCell ⟨R, 3, none⟩ (.int .u64 0)).setCell ⟨R, 4, none⟩ (.int .u64 0)).setCell ⟨R, 5, none⟩ (.int .u64 0)).setCell ⟨R, 6, none⟩ (.int .u64 0)).setCell ⟨R, 7, none⟩ (.bool false))) :
    F.heap[b]? = some (AObjL 1 gc lv (s.stop x y z)) ∧ F.heap[R]? = some (.cells Acc.zero.arr 59 (0, 0)) ∧ AIs (F.setCell ⟨b, 0, none⟩ (.int .i32 0)) Y b gc lv (s.stop x y z) ∧ Chg S w (F.setCell ⟨b, 0, none⟩ (.int .i32 0)) ∧ Chg (fun j => j = b ∨ j = R) w1 (F.setCell ⟨b, 0, none⟩ (.int .i32 0)) := by
  have hbl := lt_of_heap h.hb
  have gb : F.heap[b]? = some (AObjL 1 gc lv (s.stop x y z)) := by rw [hF]; exact set8_else (R := R) hb1 (by omega) _ _ _ _ _ _ _ _
  have gk : Chg S w F := by rw [hF]; exact set8_chg fk (by omega) _ _ _ _ _ _ _ _
  have gr : F.heap[R]? = some (.cells Acc.zero.arr 59 (0, 0)) := by
    have r3 := heap_set (i := 7) (heap_set (i := 6) (heap_set (i := 5) (heap_set (i := 4) (heap_set (i := 3) (heap_set (i := 2) (heap_set (i := 1) (heap_set (i := 0) yr (.int .i64 0)) (.int .i64 0)) (.int .i64 0)) (.int .u64 0)) (.int .u64 0)) (.int .u64 0)) (.int .u64 0)) (.bool false)
    rw [hF, r3]
    simp [Acc.zero, Acc.arr]
  have k2 : Chg S w (F.setCell ⟨b, 0, none⟩ (.int .i32 0)) := gk.setCell (p := ⟨b, 0, none⟩) hSb _
  have k3 : Chg (fun j => j = b ∨ j = R) w1 (F.setCell ⟨b, 0, none⟩ (.int .i32 0)) := by
    rw [hF]
    exact (((((((((Chg.refl (fun j => j = b ∨ j = R) w1).put R 0 _ (.inr rfl)).put R 1 _ (.inr rfl)).put R 2 _ (.inr rfl)).put R 3 _ (.inr rfl)).put R 4 _ (.inr rfl)).put R 5 _ (.inr rfl)).put R 6 _ (.inr rfl)).put R 7 _ (.inr rfl)).put b 0 _ (.inl rfl)
  refine ⟨gb, gr, ⟨heap_set gb _, ?_, ?_, h.bY, h.gY, h.ne, ?_, Nat.le_trans h.yw k2.size⟩, k2, k3⟩
  · rw [Ast.stop_cells]; exact k2.heap h.hc hSg
  · rw [Ast.stop_log]; exact ownsRow_block h.hl (fun i hi => k2.block i (owns_lt h.hl hi).2 (hSl i hi))
  · rw [Ast.stop_cells]; exact h.len

set_option maxRecDepth 100000 in
set_option maxHeartbeats 1000000 in
theorem access_none (p Y b gc : Nat) (lv : Value) (s : Ast) (who : Int) (k want put i : Int) (w : World) (h : AIs w Y b gc lv s) (hp : w.heap[p]? = some (PObj b who false)) (hpb : p ≠ b) (hs : s.stopped = false) :
    Calls Try.prog 71 #[.pointer (some ⟨p, 0, none⟩), .agg #[.int .i64 0, .int .i64 k, .int .i64 i, .int .u64 want, .int .u64 put, .int .u64 0, .int .u64 0, .bool false]] w fun r w' => r = .returned (.agg #[.int .i64 0, .int .i64 0, .int .i64 0, .int .u64 0, .int .u64 0, .int .u64 0, .int .u64 0, .bool false]) ∧ AIs w' Y b gc lv (s.stop who 2 i) ∧ Chg (fun k => k = b) w w' := by
  have hbl := lt_of_heap h.hb
  have hpw := lt_of_heap hp
  have H := hide h
  have HP := hide hp
  have d0 : w.cell? ⟨p, 0, none⟩ = some (.pointer (some ⟨b, 0, none⟩)) := cell_of hp rfl
  have hbp : ¬ b = p := fun e => hpb e.symm
  have HS := hide hs
  clear h hp hs
  go_enter_defers Try.func71, Try.ntmps71
  go_wp2_with fail
  refine (leads_any p b who false _ (heap_old (heap_old HP.out _) _)).mono ?_
  rintro e w' ⟨rfl, rfl⟩
  go_wp2_with fail
  refine (lock_free Try.muLib ⟨b, 0, none⟩ _ (cell_of (heap_old (heap_old H.out.hb _) _) rfl) (free_of (heap_old (heap_old H.out.hb _) _) 0)).mono ?_
  rintro e w' ⟨rfl, rfl⟩
  go_wp2_with fail
  refine (pass_none p b gc lv s who i 1 _ (heap_old (heap_old (heap_set H.out.hb _) _) _) (heap_old (heap_old (heap_else HP.out hpb _) _) _) HS.out).mono ?_
  rintro e w1 ⟨rfl, hb1, k1⟩
  have yr : w1.heap[w.heap.size + 1]? = some (.cells Acc.zero.arr 59 (0, 0)) := by
    refine k1.heap ?_ (by omega)
    have h := heap_new ((w.setCell ⟨b, 0, none⟩ (.int .i32 1)).alloc (.cells #[.int .i64 0, .int .i64 k, .int .i64 i, .int .u64 want, .int .u64 put, .int .u64 0, .int .u64 0, .bool false] 59)) (.cells Acc.zero.arr 59)
    simpa [World.setCell, Acc.zero, Acc.arr] using h
  have fk : Chg (fun k => k = b) w w1 := ((((Chg.refl (fun k => k = b) w).put b 0 _ rfl).alloc _).alloc _).trans k1
  obtain ⟨r0, r1, r2, r3, r4, r5, r6, r7⟩ := block8 yr
  have rf := fun j => free_of yr j
  have G := hide (And.intro hb1 (And.intro fk yr))
  clear hb1 k1 fk yr
  go_wp2_with fail
  refine leaves_cons (f := 37) (args := #[.pointer (some ⟨b, 0, none⟩)]) (by simp) (by simp [go_sem]) ?_
  generalize hF : World.setCell _ _ _ = F
  obtain ⟨fb, fr, fa, fk, _⟩ := refused_end (S := fun k => k = b) H.out G.out.1 G.out.2.1 G.out.2.2 rfl rfl (fun e => H.out.ne e.symm) (fun j hj => (H.out.own_ne hj).1) hF.symm
  refine (unlock_deferred Try.muLib ⟨b, 0, none⟩ .returning _ (cell_of fb rfl) (free_of fb 0)).mono ?_
  rintro e u' w'' ⟨rfl, rfl, rfl⟩
  refine ⟨Acc.zero.val, ?_, rfl, fa, fk⟩
  obtain ⟨q0, q1, q2, q3, q4, q5, q6, q7⟩ := block8 fr
  simp [results, Try.results71, go_sem, Acc.val, Acc.zero, Acc.arr, q0, q1, q2, q3, q4, q5, q6, q7]

set_option maxRecDepth 100000 in
set_option maxHeartbeats 1000000 in
theorem access_out (p Y b gc : Nat) (lv : Value) (s : Ast) (who : Int) (k want put i : Int) (w : World) (h : AIs w Y b gc lv s) (hp : w.heap[p]? = some (PObj b who true)) (hpb : p ≠ b) (hpg : p ≠ gc) (hpl : lv.ownBlock ≠ some p) (hs : s.stopped = false) (hi : ¬ (0 ≤ i ∧ i < s.cells.length)) :
    Calls Try.prog 71 #[.pointer (some ⟨p, 0, none⟩), .agg #[.int .i64 0, .int .i64 k, .int .i64 i, .int .u64 want, .int .u64 put, .int .u64 0, .int .u64 0, .bool false]] w fun r w' => r = .returned (.agg #[.int .i64 0, .int .i64 0, .int .i64 0, .int .u64 0, .int .u64 0, .int .u64 0, .int .u64 0, .bool false]) ∧ AIs w' Y b gc lv (s.stop who 1 i) ∧ w'.heap[p]? = some (PObj b who false) ∧ Chg (fun k => k = b ∨ k = p) w w' := by
  have hbl := lt_of_heap h.hb
  have hpw := lt_of_heap hp
  have H := hide h
  have HP := hide hp
  have d0 : w.cell? ⟨p, 0, none⟩ = some (.pointer (some ⟨b, 0, none⟩)) := cell_of hp rfl
  have hbp : ¬ b = p := fun e => hpb e.symm
  have HS := hide hs
  have HI := hide hi
  clear h hp hs hi
  go_enter_defers Try.func71, Try.ntmps71
  go_wp2_with fail
  refine (leads_any p b who true _ (heap_old (heap_old HP.out _) _)).mono ?_
  rintro e w' ⟨rfl, rfl⟩
  go_wp2_with fail
  refine (lock_free Try.muLib ⟨b, 0, none⟩ _ (cell_of (heap_old (heap_old H.out.hb _) _) rfl) (free_of (heap_old (heap_old H.out.hb _) _) 0)).mono ?_
  rintro e w' ⟨rfl, rfl⟩
  go_wp2_with fail
  refine (pass_out p b gc lv s who i 1 _ (heap_old (heap_old (heap_set H.out.hb _) _) _) (heap_old (heap_old (heap_else HP.out hpb _) _) _) HS.out hpb HI.out).mono ?_
  rintro e w1 ⟨rfl, hb1, hp1, k1⟩
  have yr : w1.heap[w.heap.size + 1]? = some (.cells Acc.zero.arr 59 (0, 0)) := by
    refine k1.heap ?_ (by omega)
    have h := heap_new ((w.setCell ⟨b, 0, none⟩ (.int .i32 1)).alloc (.cells #[.int .i64 0, .int .i64 k, .int .i64 i, .int .u64 want, .int .u64 put, .int .u64 0, .int .u64 0, .bool false] 59)) (.cells Acc.zero.arr 59)
    simpa [World.setCell, Acc.zero, Acc.arr] using h
  have fk : Chg (fun k => k = b ∨ k = p) w w1 := ((((Chg.refl (fun k => k = b ∨ k = p) w).put b 0 _ (.inl rfl)).alloc _).alloc _).trans k1
  obtain ⟨r0, r1, r2, r3, r4, r5, r6, r7⟩ := block8 yr
  have rf := fun j => free_of yr j
  have G := hide (And.intro hb1 (And.intro fk (And.intro yr hp1)))
  clear hb1 k1 fk yr hp1
  go_wp2_with fail
  refine leaves_cons (f := 37) (args := #[.pointer (some ⟨b, 0, none⟩)]) (by simp) (by simp [go_sem]) ?_
  generalize hF : World.setCell _ _ _ = F
  obtain ⟨fb, fr, fa, fk, fd⟩ := refused_end (S := fun k => k = b ∨ k = p) H.out G.out.1 G.out.2.1 G.out.2.2.1 rfl (.inl rfl) (fun e => by rcases e with e | e; exact H.out.ne e.symm; exact hpg e.symm) (fun j hj e => by rcases e with e | e; exact (H.out.own_ne hj).1 e; exact hpl (e ▸ hj)) hF.symm
  refine (unlock_deferred Try.muLib ⟨b, 0, none⟩ .returning _ (cell_of fb rfl) (free_of fb 0)).mono ?_
  rintro e u' w'' ⟨rfl, rfl, rfl⟩
  refine ⟨Acc.zero.val, ?_, rfl, fa, fd.heap G.out.2.2.2 (by omega), fk⟩
  obtain ⟨q0, q1, q2, q3, q4, q5, q6, q7⟩ := block8 fr
  simp [results, Try.results71, go_sem, Acc.val, Acc.zero, Acc.arr, q0, q1, q2, q3, q4, q5, q6, q7]
end Go.Proofs.Ytlncjbjdjciphaa

/- A node's step where no access is made. -/
namespace Go.Proofs.Ytlncjbjdjciphaa
open Go.RowKit Go.Lib Go.MuLone
set_option linter.unusedVariables false
set_option linter.unusedSimpArgs false
section
/-- access of that port at that cell answers zeros, whatever else is asked, and leaves Post. -/
def Zeros (w : World) (p : Nat) (i : Int) (Post : World → Prop) : Prop := ∀ k want put : Int,
    Calls Try.prog 71 #[.pointer (some ⟨p, 0, none⟩), .agg #[.int .i64 0, .int .i64 k, .int .i64 i, .int .u64 want, .int .u64 put, .int .u64 0, .int .u64 0, .bool false]] w fun r w' =>
      r = .returned (.agg #[.int .i64 0, .int .i64 0, .int .i64 0, .int .u64 0, .int .u64 0, .int .u64 0, .int .u64 0, .bool false]) ∧ Post w'
variable {w : World} {p : Nat} {Post : World → Prop}

set_option maxRecDepth 100000 in
theorem load_zero (i : Int) (R : Zeros w p i Post) :
    Calls Try.prog 58 #[.pointer (some ⟨p, 0, none⟩), .int .i64 i] w fun r w' => r = .returned (.int .u64 0) ∧ Post w' := by
  have HC := hide (R 1 0 0)
  clear R
  have hf5 := field5
  go_enter Try.func58, Try.ntmps58
  go_wp2_with fail
  refine HC.out.mono ?_
  rintro e w' ⟨rfl, hp⟩
  have H := hide hp
  clear hp
  go_wp2_with fail
  go_ret
  exact ⟨rfl, H.out⟩
set_option maxRecDepth 100000 in
theorem store_zero (i x : Int) (R : Zeros w p i Post) :
    Calls Try.prog 92 #[.pointer (some ⟨p, 0, none⟩), .int .i64 i, .int .u64 x] w fun r w' => r = .returned (.tuple #[]) ∧ Post w' := by
  have HC := hide (R 2 0 x)
  clear R
  go_enter Try.func92, Try.ntmps92
  go_wp2_with fail
  refine HC.out.mono ?_
  rintro e w' ⟨rfl, hp⟩
  have H := hide hp
  clear hp
  go_wp2_with fail
  first | go_end0 | refine bodyPost_ret (results_none rfl _ _ _) rfl ?_
  exact ⟨rfl, H.out⟩
set_option maxRecDepth 100000 in
theorem cas_zero (i x y : Int) (R : Zeros w p i Post) :
    Calls Try.prog 85 #[.pointer (some ⟨p, 0, none⟩), .int .i64 i, .int .u64 x, .int .u64 y] w fun r w' => r = .returned (.bool false) ∧ Post w' := by
  have HC := hide (R 3 x y)
  clear R
  have hf7 := field7
  go_enter Try.func85, Try.ntmps85
  go_wp2_with fail
  refine HC.out.mono ?_
  rintro e w' ⟨rfl, hp⟩
  have H := hide hp
  clear hp
  go_wp2_with fail
  go_ret
  exact ⟨rfl, H.out⟩
set_option maxRecDepth 100000 in
theorem add_zero (i x : Int) (R : Zeros w p i Post) :
    Calls Try.prog 72 #[.pointer (some ⟨p, 0, none⟩), .int .i64 i, .int .u64 x] w fun r w' => r = .returned (.int .u64 0) ∧ Post w' := by
  have HC := hide (R 4 0 x)
  clear R
  have hf5 := field5
  go_enter Try.func72, Try.ntmps72
  go_wp2_with fail
  refine HC.out.mono ?_
  rintro e w' ⟨rfl, hp⟩
  have H := hide hp
  clear hp
  go_wp2_with fail
  go_ret
  exact ⟨rfl, H.out⟩
end
/-- The same arena, stopped. -/
structure Stp (s t : Ast) : Prop where
  cells : t.cells = s.cells
  log : t.log = s.log
  count : t.count = s.count
  keep : t.keep = s.keep
  stop : t.stopped = true
/-- What an access that is not made leaves. -/
def ZP (w : World) (Y b gc : Nat) (lv : Value) (s : Ast) (w2 : World) : Prop := ∃ t, Stp s t ∧ AIs w2 Y b gc lv t ∧ Chg (fun k => k = b) w w2
structure NZ (w : World) (Y b gc p : Nat) (lv : Value) (s : Ast) (q : Nat) (d : Nd) (sv : Value) (lo n K : Nat) (g : Bool) : Prop where
  ar : AIs w Y b gc lv s
  po : w.heap[p]? = some (PObj b d.who g)
  nd : w.heap[q]? = some (d.obj sv)
  ql : lv.ownBlock ≠ some q
  sd : Snd w lo sv d.sends
  no : s.stopped = true ∨ (s.stopped = false ∧ g = false)
  wf : ∃ j, Wf n j K d
def NZPost (w w' : World) (Y b gc p : Nat) (lv : Value) (s : Ast) (q : Nat) (d : Nd) (sv : Value) : Prop :=
  ∃ t, Stp s t ∧ AIs w' Y b gc lv t ∧ w'.heap[q]? = some ((d.next 0).obj sv) ∧ Chg (fun k => k = b ∨ k = q) w w'
section
variable {w : World} {Y b gc p q lo n K : Nat} {lv sv : Value} {s : Ast} {d : Nd} {g : Bool}
theorem Stp.refl (h : s.stopped = true) : Stp s s := ⟨rfl, rfl, rfl, rfl, h⟩
theorem Stp.of (h : s.stopped = false) (x y z : Int) : Stp s (s.stop x y z) := by
  unfold Ast.stop
  rw [if_neg (by simp [h])]
  exact ⟨rfl, rfl, rfl, rfl, rfl⟩
theorem NZ.qb (h : NZ w Y b gc p lv s q d sv lo n K g) : q ≠ b := ne_ty h.nd h.ar.hb (by decide)
theorem NZ.zeros (h : NZ w Y b gc p lv s q d sv lo n K g) {X : World} (hb : Below w.heap.size w X) (i : Int) : Zeros X p i (ZP w Y b gc lv s) := by
  intro k want put
  have hA := h.ar.below hb
  have hP := (hb.block _ (lt_of_heap h.po)).trans h.po
  have hpb : p ≠ b := ne_ty h.po h.ar.hb (by decide)
  rcases h.no with e | ⟨e, rfl⟩
  · refine (access_stopped p Y b gc lv s d.who g k want put i X hA hP hpb e).mono ?_
    rintro r w' ⟨rfl, ha, hk⟩
    exact ⟨rfl, s, Stp.refl e, ha, (Chg.of_below hb).trans hk⟩
  · refine (access_none p Y b gc lv s d.who k want put i X hA hP hpb e).mono ?_
    rintro r w' ⟨rfl, ha, hk⟩
    exact ⟨rfl, _, Stp.of e _ _ _, ha, (Chg.of_below hb).trans hk⟩
theorem NZ.keepq (h : NZ w Y b gc p lv s q d sv lo n K g) {w2 : World} (hp : ZP w Y b gc lv s w2) : w2.heap[q]? = some (d.obj sv) := by
  obtain ⟨t, h1, h2, h3⟩ := hp
  exact h3.heap h.nd h.qb
theorem NZ.keeps (h : NZ w Y b gc p lv s q d sv lo n K g) {w2 : World} (hp : ZP w Y b gc lv s w2) : RowAt .i64 w2 sv d.sends := by
  obtain ⟨t, h1, h2, h3⟩ := hp
  refine (h.sd.stay fun i hi => ?_).row
  obtain ⟨cs, ht⟩ := h.sd.typ hi
  exact h3.block i (lt_of_heap ht) (ne_ty ht h.ar.hb (by decide))
theorem StN.zpost {w' : World} (h : StN (ZP w Y b gc lv s) q ((d.next 0).obj sv) w') (hr : NZ w Y b gc p lv s q d sv lo n K g) : NZPost w w' Y b gc p lv s q d sv := by
  obtain ⟨w2, ⟨t, h1, h2, h3⟩, h5, h6⟩ := h
  have hc : gc ≠ q := fun e => ne_ty hr.nd hr.ar.hc (by decide) e.symm
  exact ⟨t, h1, h2.kept h6 (fun e => hr.qb e.symm) hc (fun k hk e => hr.ql (by rw [hk, e])), h5, (h3.mono fun k hk => .inl hk).trans (h6.mono fun k hk => .inr hk)⟩
set_option maxRecDepth 100000 in
theorem step_zero (h : NZ w Y b gc p lv s q d sv lo n K g) (h0 : d.ph ≠ 0) : Calls Try.prog 11 #[.pointer (some ⟨q, 0, none⟩), .pointer (some ⟨p, 0, none⟩)] w fun e w' => e = .returned (.tuple #[]) ∧ NZPost w w' Y b gc p lv s q d sv := by
  obtain ⟨j, hw⟩ := h.wf
  have hlen := hw.len
  have HOV := hide (over_nd (w := w) (q := q) (d := d) (sv := sv) h.nd hw.ph)
  rw [show decide (d.ph = 0) = false by simpa using h0] at HOV
  obtain ⟨so, sc, hsv⟩ := h.sd.row.shape
  have c9 : ∀ f, nxF d.ph = f → w.cell? ⟨q, 9, none⟩ = some f := fun f hf => by
    have hq := h.nd
    unfold Nd.obj NObj at hq
    rw [hf] at hq
    exact cell_of hq rfl
  have rd := fun X (k : Below w.heap.size w X) => h.zeros k
  have FIN : ∀ e w', e = Ending.returned (.tuple #[]) ∧ StN (ZP w Y b gc lv s) q ((d.next 0).obj sv) w' → e = .returned (.tuple #[]) ∧ NZPost w w' Y b gc p lv s q d sv := fun e w' hh => ⟨hh.1, hh.2.zpost h⟩
  have hp := hw.ph
  have hwl := hw.lt
  have hww := hw.who
  have hn64 := hw.n64
  rcases (show d.ph = 1 ∨ d.ph = 2 ∨ d.ph = 3 ∨ d.ph = 4 ∨ d.ph = 5 ∨ d.ph = 6 ∨ d.ph = 7 ∨ d.ph = 8 ∨ d.ph = 9 ∨ d.ph = 10 ∨ d.ph = 11 by omega) with e | e | e | e | e | e | e | e | e | e | e
  · refine step_by50 (c9 _ (by rw [e]; rfl)) HOV (hide ((ph1N (x := 0) (P := ZP w Y b gc lv s) so _ sc hsv rfl (by omega) hw.se.1 (by have := hw.se; omega) (hd := e) (HA := fun X k => ?_) (hP := fun w2 hp => h.keepq hp)).mono FIN))
    exact load_zero _ (rd X k _)
  · refine step_by59 (c9 _ (by rw [e]; rfl)) HOV (hide ((ph2N (x := 0) (P := ZP w Y b gc lv s) (y := .int .u64 0) so _ sc hsv rfl (by omega) hw.se.1 (hw.p2 e).1 ⟨(hw.p2 e).2, by have := hw.le; omega⟩ (by have := hw.tg d.sent.toNat (by have := hw.se; have := hw.p2 e; omega); omega) h.sd.row (fun w2 hp => h.keeps hp) h.nd (hd := e) (HA := fun X k => ?_) (hP := fun w2 hp => h.keepq hp)).mono FIN))
    exact add_zero _ _ (rd X k _)
  · refine step_by60 (c9 _ (by rw [e]; rfl)) HOV (hide ((ph3N (x := 0) (P := ZP w Y b gc lv s) (by omega) h.nd (hd := e) (HA := fun X k => ?_) (hP := fun w2 hp => h.keepq hp)).mono FIN))
    exact load_zero _ (rd X k _)
  · refine step_by74 (c9 _ (by rw [e]; rfl)) HOV (hide ((ph4N (x := 0) (P := ZP w Y b gc lv s) so _ sc hsv rfl (by omega) (by omega) ⟨hw.p4 e, hw.m.2⟩ hw.le hw.bu h.nd (hd := e) (HA := fun X k => ?_) (hP := fun w2 hp => h.keepq hp)).mono FIN))
    rw [show decide ((0 : Int) = d.m) = false from by have := hw.p4 e; simp; omega]
    exact cas_zero _ _ _ (rd X k _)
  · refine step_by73 (c9 _ (by rw [e]; rfl)) HOV (hide ((ph5N (x := 0) (P := ZP w Y b gc lv s) (by omega) h.nd (hd := e) (HA := fun X k => ?_) (hP := fun w2 hp => h.keepq hp)).mono FIN))
    exact load_zero _ (rd X k _)
  · refine step_by84 (c9 _ (by rw [e]; rfl)) HOV (hide ((ph6N (x := 0) (P := ZP w Y b gc lv s) (hd := e) (HA := fun X k => ?_) (hP := fun w2 hp => h.keepq hp)).mono FIN))
    exact load_zero _ (rd X k _)
  · refine step_by87 (c9 _ (by rw [e]; rfl)) HOV (hide ((ph7N (x := 0) (P := ZP w Y b gc lv s) (hw.p3 (by omega)) (hd := e) (HA := fun X k => ?_) (hP := fun w2 hp => h.keepq hp)).mono FIN))
    exact load_zero _ (rd X k _)
  · refine step_by91 (c9 _ (by rw [e]; rfl)) HOV (hide ((ph8N (x := 0) (P := ZP w Y b gc lv s) h.nd (hd := e) (HA := fun X k => ?_) (hP := fun w2 hp => h.keepq hp)).mono FIN))
    exact store_zero _ _ (rd X k _)
  · refine step_by93 (c9 _ (by rw [e]; rfl)) HOV (hide ((ph9N (x := 0) (P := ZP w Y b gc lv s) h.nd (hd := e) (HA := fun X k => ?_) (hP := fun w2 hp => h.keepq hp)).mono FIN))
    exact store_zero _ _ (rd X k _)
  · refine step_by94 (c9 _ (by rw [e]; rfl)) HOV (hide ((ph10N (x := 0) (P := ZP w Y b gc lv s) (by omega) (by have := hw.nn; omega) h.nd (hd := e) (HA := fun X k => ?_) (hP := fun w2 hp => h.keepq hp)).mono FIN))
    exact store_zero _ _ (rd X k _)
  · refine step_by90 (c9 _ (by rw [e]; rfl)) HOV (hide ((ph11N (x := 0) (P := ZP w Y b gc lv s) (hd := e) (HA := fun X k => ?_) (hP := fun w2 hp => h.keepq hp)).mono FIN))
    exact store_zero _ _ (rd X k _)
end
end Go.Proofs.Ytlncjbjdjciphaa

/- The document's node: Step, where the access is made and where the arena is stopped. -/
namespace Go.Proofs.Ytlncjbjdjciphaa
open Go.RowKit Go.Lib Go.MuLone
set_option linter.unusedVariables false
set_option linter.unusedSimpArgs false
section
variable {w : World} {Y b gc : Nat} {lv : Value} {s : Ast}

set_option maxRecDepth 100000 in
theorem refLoad_stop (who i : Int) (h : RIs w Y b gc lv s) (hs : s.stopped = true) :
    Calls Try.prog 39 #[.pointer (some ⟨b, 0, none⟩), .int .i64 who, .int .i64 i] w fun r w' => r = .returned (.int .u64 0) ∧ Below w.heap.size w w' := by
  have HT := hide (fun X (k : Below w.heap.size w X) => there_stopped Y b gc lv s who i X (h.below k) hs)
  have HB := hide (fun X (k : Below w.heap.size w X) => k)
  have HB0 := hide (Below.refl w.heap.size w)
  have HA := hide (fun ob => below_alloc (Below.refl w.heap.size w) ob)
  clear h hs
  go_enter Try.func39, Try.ntmps39
  go_wp2_with fail
  first
    | (refine (HT.out _ HB0.out).mono ?_; rintro e w' ⟨rfl, rfl⟩; go_wp2_with fail; go_ret; exact ⟨rfl, HB0.out⟩)
    | (refine (HT.out _ (HA.out _)).mono ?_; rintro e w' ⟨rfl, rfl⟩; go_wp2_with fail; go_ret; exact ⟨rfl, HA.out _⟩)

set_option maxRecDepth 100000 in
theorem refAdd_stop (who i v : Int) (h : RIs w Y b gc lv s) (hs : s.stopped = true) :
    Calls Try.prog 40 #[.pointer (some ⟨b, 0, none⟩), .int .i64 who, .int .i64 i, .int .u64 v] w fun r w' => r = .returned (.int .u64 0) ∧ Below w.heap.size w w' := by
  have HT := hide (fun X (k : Below w.heap.size w X) => there_stopped Y b gc lv s who i X (h.below k) hs)
  have HB := hide (fun X (k : Below w.heap.size w X) => k)
  have HB0 := hide (Below.refl w.heap.size w)
  have HA := hide (fun ob => below_alloc (Below.refl w.heap.size w) ob)
  clear h hs
  go_enter Try.func40, Try.ntmps40
  go_wp2_with fail
  first
    | (refine (HT.out _ HB0.out).mono ?_; rintro e w' ⟨rfl, rfl⟩; go_wp2_with fail; go_ret; exact ⟨rfl, HB0.out⟩)
    | (refine (HT.out _ (HA.out _)).mono ?_; rintro e w' ⟨rfl, rfl⟩; go_wp2_with fail; go_ret; exact ⟨rfl, HA.out _⟩)

set_option maxRecDepth 100000 in
theorem refCas_stop (who i want put : Int) (h : RIs w Y b gc lv s) (hs : s.stopped = true) :
    Calls Try.prog 41 #[.pointer (some ⟨b, 0, none⟩), .int .i64 who, .int .i64 i, .int .u64 want, .int .u64 put] w fun r w' => r = .returned (.bool false) ∧ Below w.heap.size w w' := by
  have HT := hide (fun X (k : Below w.heap.size w X) => there_stopped Y b gc lv s who i X (h.below k) hs)
  have HB := hide (fun X (k : Below w.heap.size w X) => k)
  have HB0 := hide (Below.refl w.heap.size w)
  have HA := hide (fun ob => below_alloc (Below.refl w.heap.size w) ob)
  clear h hs
  go_enter Try.func41, Try.ntmps41
  go_wp2_with fail
  first
    | (refine (HT.out _ HB0.out).mono ?_; rintro e w' ⟨rfl, rfl⟩; go_wp2_with fail; go_ret; exact ⟨rfl, HB0.out⟩)
    | (refine (HT.out _ (HA.out _)).mono ?_; rintro e w' ⟨rfl, rfl⟩; go_wp2_with fail; go_ret; exact ⟨rfl, HA.out _⟩)

set_option maxRecDepth 100000 in
theorem refStore_stop (who i v : Int) (h : RIs w Y b gc lv s) (hs : s.stopped = true) :
    Calls Try.prog 44 #[.pointer (some ⟨b, 0, none⟩), .int .i64 who, .int .i64 i, .int .u64 v] w fun r w' => r = .returned (.tuple #[]) ∧ Below w.heap.size w w' := by
  have HT := hide (fun X (k : Below w.heap.size w X) => there_stopped Y b gc lv s who i X (h.below k) hs)
  have HB := hide (fun X (k : Below w.heap.size w X) => k)
  have HB0 := hide (Below.refl w.heap.size w)
  have HA := hide (fun ob => below_alloc (Below.refl w.heap.size w) ob)
  clear h hs
  go_enter Try.func44, Try.ntmps44
  go_wp2_with fail
  first
    | (refine (HT.out _ HB0.out).mono ?_; rintro e w' ⟨rfl, rfl⟩; go_wp2_with fail; (first | go_end0 | refine bodyPost_ret (results_none rfl _ _ _) rfl ?_); exact ⟨rfl, HB0.out⟩)
    | (refine (HT.out _ (HA.out _)).mono ?_; rintro e w' ⟨rfl, rfl⟩; go_wp2_with fail; (first | go_end0 | refine bodyPost_ret (results_none rfl _ _ _) rfl ?_); exact ⟨rfl, HA.out _⟩)

end
/-- The document's node, ready for a step. -/
structure RN (w : World) (Y b gc : Nat) (lv : Value) (s : Ast) (r : Nat) (d : Nd) (sv : Value) (lo n K : Nat) : Prop where
  ar : RIs w Y b gc lv s
  nd : w.heap[r]? = some (d.robj sv)
  rl : lv.ownBlock ≠ some r
  sd : Snd w lo sv d.sends
  sl : ∀ g, sv.ownBlock = some g → lv.ownBlock ≠ some g
  len : s.cells.length = 4 + n
  c0 : 0 ≤ s.count
  c1 : s.count < 9223372036854775807
  big : (s.log.length + 1) * 64 ≤ 140737488355328
  wf : ∃ j, Wf n j K d
  hK : K ≤ 4611686018427387904
def RP (w : World) (Y b gc : Nat) (lv : Value) (s : Ast) (r i : Nat) (m : Acc) (w2 : World) : Prop :=
  ∃ lv', RIs w2 Y b gc lv' (s.made i m) ∧ (lv'.ownBlock = lv.ownBlock ∨ ∃ g, lv'.ownBlock = some g ∧ w.heap.size ≤ g) ∧ Chg (fun k => refSet b gc lv k ∨ k = r) w w2
def RNPost (w w' : World) (Y b gc : Nat) (lv : Value) (s : Ast) (r : Nat) (d : Nd) (sv : Value) : Prop :=
  ∃ lv', RIs w' Y b gc lv' (s.made d.cell (d.acc (nth s.cells d.cell))) ∧ (lv'.ownBlock = lv.ownBlock ∨ ∃ g, lv'.ownBlock = some g ∧ w.heap.size ≤ g) ∧ w'.heap[r]? = some ((d.next (nth s.cells d.cell)).robj sv) ∧ Chg (fun k => refSet b gc lv k ∨ k = r) w w'
section
variable {w : World} {Y b gc r lo n K : Nat} {lv sv : Value} {s : Ast} {d : Nd}
theorem RN.ne (h : RN w Y b gc lv s r d sv lo n K) : r ≠ b ∧ r ≠ gc := ⟨ne_ty h.nd h.ar.hb (by decide), ne_ty h.nd h.ar.hc (by decide)⟩
theorem RN.ris (h : RN w Y b gc lv s r d sv lo n K) {X : World} (hc : Chg (fun k => k = r) w X) : RIs X Y b gc lv s :=
  h.ar.kept hc (fun e => h.ne.1 e.symm) (fun e => h.ne.2 e.symm) (fun k hk e => h.rl (by rw [hk, e]))
theorem RN.ready (h : RN w Y b gc lv s r d sv lo n K) (hs : s.stopped = false) {X : World} (hc : Chg (fun k => k = r) w X) : RReady X Y b gc lv s d.cell := by
  obtain ⟨j, hw⟩ := h.wf
  exact ⟨h.ris hc, hs, by rw [h.len]; exact hw.cell, h.c0, h.c1, h.big⟩
theorem RN.post (h : RN w Y b gc lv s r d sv lo n K) {X w2 : World} {ob : Obj} {i : Nat} {m : Acc} (hX : X.heap[r]? = some ob) (hc : Chg (fun k => k = r) w X) (hp : RPost X w2 Y b gc lv s i m) : RP w Y b gc lv s r i m w2 ∧ w2.heap[r]? = some ob := by
  obtain ⟨lv', h1, h2, h4⟩ := hp
  refine ⟨⟨lv', h1, h2.imp id (fun ⟨g, e, hg⟩ => ⟨g, e, Nat.le_trans hc.size hg⟩), (hc.mono fun k hk => .inr hk).trans (h4.mono fun k hk => .inl hk)⟩, h4.heap hX (fun e => ?_)⟩
  rcases e with e | e | e
  · exact h.ne.1 e
  · exact h.ne.2 e
  · exact h.rl e
theorem RN.keeps (h : RN w Y b gc lv s r d sv lo n K) {w2 : World} (hc : Chg (fun k => refSet b gc lv k ∨ k = r) w w2) : RowAt .i64 w2 sv d.sends := by
  refine (h.sd.stay fun g hg => ?_).row
  obtain ⟨cs, ht⟩ := h.sd.typ hg
  refine hc.block g (lt_of_heap ht) (fun hS => ?_)
  rcases hS with (e | e | e) | e
  · exact ne_ty ht h.ar.hb (by decide) e
  · exact ne_ty ht h.ar.hc (by decide) e
  · exact h.sl g hg e
  · exact ne_ty ht h.nd (by decide) e
theorem StN.rpost {w' : World} {m : Acc} (hm : m = d.acc (nth s.cells d.cell)) (h : StN (RP w Y b gc lv s r d.cell m) r ((d.next (nth s.cells d.cell)).robj sv) w') (hr : RN w Y b gc lv s r d sv lo n K) : RNPost w w' Y b gc lv s r d sv := by
  subst hm
  obtain ⟨w2, ⟨lv', h1, h2, h4⟩, h5, h6⟩ := h
  refine ⟨lv', h1.kept h6 (fun e => hr.ne.1 e.symm) (fun e => hr.ne.2 e.symm) (fun k hk e => ?_), h2, h5, h4.trans (h6.mono fun k hk => .inr hk)⟩
  rcases h2 with g | ⟨g, hg, hl⟩
  · exact hr.rl (by rw [← g, hk, e])
  · rw [hg] at hk
    cases hk
    have := lt_of_heap hr.nd
    omega

set_option maxRecDepth 100000 in
theorem rstep_go (h : RN w Y b gc lv s r d sv lo n K) (hs : s.stopped = false) (h0 : d.ph ≠ 0) : Calls Try.prog 17 #[.pointer (some ⟨r, 0, none⟩), .pointer (some ⟨b, 0, none⟩), .int .i64 (d.who : Int)] w fun e w' => e = .returned (.tuple #[]) ∧ RNPost w w' Y b gc lv s r d sv := by
  obtain ⟨j, hw⟩ := h.wf
  have hlen := hw.len
  obtain ⟨so, sc, hsv⟩ := h.sd.row.shape
  have hp := hw.ph
  have hwl := hw.lt
  have hww := hw.who
  have hn64 := hw.n64
  have HROW : ∀ {m : Acc} w2, RP w Y b gc lv s r d.cell m w2 → RowAt .i64 w2 sv d.sends := fun w2 hp => by obtain ⟨_, _, _, hc⟩ := hp; exact h.keeps hc
  have FIN : ∀ (m : Acc), m = d.acc (nth s.cells d.cell) → ∀ e w', e = Ending.returned (.tuple #[]) ∧ StN (RP w Y b gc lv s r d.cell m) r ((d.next (nth s.cells d.cell)).robj sv) w' → e = .returned (.tuple #[]) ∧ RNPost w w' Y b gc lv s r d sv := fun m hm e w' hh => ⟨hh.1, hh.2.rpost hm h⟩
  rcases (show d.ph = 1 ∨ d.ph = 2 ∨ d.ph = 3 ∨ d.ph = 4 ∨ d.ph = 5 ∨ d.ph = 6 ∨ d.ph = 7 ∨ d.ph = 8 ∨ d.ph = 9 ∨ d.ph = 10 ∨ d.ph = 11 by omega) with e | e | e | e | e | e | e | e | e | e | e
  · refine (rph1 (ra := b) (wi := (d.who : Int)) so _ sc hsv rfl (by omega) hw.se.1 (by have := hw.se; omega) (hd := e) (hwh := by omega) (h0 := h.nd) (HA := fun X ob hX hc => ?_)).mono (FIN _ rfl)
    have hcl : d.cell = 0 := by simp only [Nd.cell, e]
    have r := h.ready hs hc
    rw [hcl] at r ⊢
    simp only [Nd.acc, e]
    exact (refLoad_in (d.who : Int) r).mono fun e w' hh => ⟨hh.1, h.post hX hc hh.2⟩
  · refine (rph2 (ra := b) (wi := (d.who : Int)) (y := .int .u64 (nth s.cells d.cell)) so _ sc hsv rfl (by omega) hw.se.1 (hw.p2 e).1 ⟨(hw.p2 e).2, by have := hw.le; omega⟩ ⟨by have := hw.ba; have := h.hK; omega, by have := hw.ba; have := h.hK; omega⟩ (by have := hw.tg d.sent.toNat (by have := hw.se; have := hw.p2 e; omega); omega) h.sd.row (fun w2 hp => HROW w2 hp) (hd := e) (hwh := by omega) (h0 := h.nd) (HA := fun X ob hX hc => ?_)).mono (FIN _ rfl)
    have hcl : d.cell = d.tgt := by simp only [Nd.cell, e]
    have r := h.ready hs hc
    rw [hcl] at r ⊢
    simp only [Nd.acc, e]
    have hct : ((d.tgt : Nat) : Int) = 4 + at_ d.sends d.sent.toNat := by
      have := hw.tg d.sent.toNat (by have := hw.se; have := hw.p2 e; omega)
      unfold Nd.tgt; omega
    rw [← hct]
    exact (refAdd_in (d.who : Int) 1 r).mono fun e w' hh => ⟨hh.1, h.post hX hc hh.2⟩
  · refine (rph3 (ra := b) (wi := (d.who : Int)) (hd := e) (hwh := by omega) (h0 := h.nd) (HA := fun X ob hX hc => ?_)).mono (FIN _ rfl)
    have hcl : d.cell = 4 + d.who := by simp only [Nd.cell, e]
    have r := h.ready hs hc
    rw [hcl] at r ⊢
    simp only [Nd.acc, e]
    have hct : (((4 + d.who : Nat)) : Int) = 4 + (d.who : Int) := by omega
    rw [← hct]
    exact (refLoad_in (d.who : Int) r).mono fun e w' hh => ⟨hh.1, h.post hX hc hh.2⟩
  · refine (rph4 (ra := b) (wi := (d.who : Int)) so _ sc hsv rfl (by omega) ⟨hw.p4 e, hw.m.2⟩ hw.le hw.bu ⟨by have := hw.ba; have := h.hK; omega, by have := hw.ba; have := h.hK; omega⟩ (hd := e) (hwh := by omega) (h0 := h.nd) (HA := fun X ob hX hc => ?_)).mono (FIN _ rfl)
    have hcl : d.cell = 4 + d.who := by simp only [Nd.cell, e]
    have r := h.ready hs hc
    rw [hcl] at r ⊢
    simp only [Nd.acc, e]
    have hct : (((4 + d.who : Nat)) : Int) = 4 + (d.who : Int) := by omega
    rw [← hct]
    exact (refCas_in (d.who : Int) d.m (d.m - 1) r).mono fun e w' hh => ⟨hh.1, h.post hX hc hh.2⟩
  · refine (rph5 (ra := b) (wi := (d.who : Int)) (hd := e) (hwh := by omega) (h0 := h.nd) (HA := fun X ob hX hc => ?_)).mono (FIN _ rfl)
    have hcl : d.cell = 1 := by simp only [Nd.cell, e]
    have r := h.ready hs hc
    rw [hcl] at r ⊢
    simp only [Nd.acc, e]
    exact (refLoad_in (d.who : Int) r).mono fun e w' hh => ⟨hh.1, h.post hX hc hh.2⟩
  · refine (rph6 (ra := b) (wi := (d.who : Int)) (hd := e) (hwh := by omega) (h0 := h.nd) (HA := fun X ob hX hc => ?_)).mono (FIN _ rfl)
    have hcl : d.cell = 2 := by simp only [Nd.cell, e]
    have r := h.ready hs hc
    rw [hcl] at r ⊢
    simp only [Nd.acc, e]
    exact (refLoad_in (d.who : Int) r).mono fun e w' hh => ⟨hh.1, h.post hX hc hh.2⟩
  · refine (rph7 (ra := b) (wi := (d.who : Int)) (hd := e) (hwh := by omega) (h0 := h.nd) (HA := fun X ob hX hc => ?_)).mono (FIN _ rfl)
    have hcl : d.cell = 3 := by simp only [Nd.cell, e]
    have r := h.ready hs hc
    rw [hcl] at r ⊢
    simp only [Nd.acc, e]
    exact (refLoad_in (d.who : Int) r).mono fun e w' hh => ⟨hh.1, h.post hX hc hh.2⟩
  · refine (rph8 (ra := b) (wi := (d.who : Int)) (hd := e) (hwh := by omega) (h0 := h.nd) (HA := fun X ob hX hc => ?_)).mono (FIN _ rfl)
    have hcl : d.cell = 2 := by simp only [Nd.cell, e]
    have r := h.ready hs hc
    rw [hcl] at r ⊢
    simp only [Nd.acc, e]
    exact (refStore_in (d.who : Int) d.put8 r).mono fun e w' hh => ⟨hh.1, h.post hX hc hh.2⟩
  · refine (rph9 (ra := b) (wi := (d.who : Int)) (hd := e) (hwh := by omega) (h0 := h.nd) (HA := fun X ob hX hc => ?_)).mono (FIN _ rfl)
    have hcl : d.cell = 3 := by simp only [Nd.cell, e]
    have r := h.ready hs hc
    rw [hcl] at r ⊢
    simp only [Nd.acc, e]
    exact (refStore_in (d.who : Int) d.put9 r).mono fun e w' hh => ⟨hh.1, h.post hX hc hh.2⟩
  · refine (rph10 (ra := b) (wi := (d.who : Int)) (by have := hw.nn; omega) (hd := e) (hwh := by omega) (h0 := h.nd) (HA := fun X ob hX hc => ?_)).mono (FIN _ rfl)
    have hcl : d.cell = 1 := by simp only [Nd.cell, e]
    have r := h.ready hs hc
    rw [hcl] at r ⊢
    simp only [Nd.acc, e]
    exact (refStore_in (d.who : Int) d.put10 r).mono fun e w' hh => ⟨hh.1, h.post hX hc hh.2⟩
  · refine (rph11 (ra := b) (wi := (d.who : Int)) (hd := e) (hwh := by omega) (h0 := h.nd) (HA := fun X ob hX hc => ?_)).mono (FIN _ rfl)
    have hcl : d.cell = 0 := by simp only [Nd.cell, e]
    have r := h.ready hs hc
    rw [hcl] at r ⊢
    simp only [Nd.acc, e]
    exact (refStore_in (d.who : Int) 1 r).mono fun e w' hh => ⟨hh.1, h.post hX hc hh.2⟩

/-- What a step over a stopped arena leaves. -/
def RZ (w : World) (r : Nat) (w2 : World) : Prop := Chg (fun k => k = r) w w2

set_option maxRecDepth 100000 in
theorem rstep_zero (h : RN w Y b gc lv s r d sv lo n K) (hs : s.stopped = true) (h0 : d.ph ≠ 0) : Calls Try.prog 17 #[.pointer (some ⟨r, 0, none⟩), .pointer (some ⟨b, 0, none⟩), .int .i64 (d.who : Int)] w fun e w' => e = .returned (.tuple #[]) ∧ RIs w' Y b gc lv s ∧ w'.heap[r]? = some ((d.next 0).robj sv) ∧ Chg (fun k => k = r) w w' := by
  obtain ⟨j, hw⟩ := h.wf
  have hlen := hw.len
  obtain ⟨so, sc, hsv⟩ := h.sd.row.shape
  have hp := hw.ph
  have hwl := hw.lt
  have hww := hw.who
  have hn64 := hw.n64
  have HROW : ∀ w2, RZ w r w2 → RowAt .i64 w2 sv d.sends := fun w2 hp => h.keeps (Chg.mono hp fun k hk => .inr hk)
  have FIN : ∀ e w', e = Ending.returned (.tuple #[]) ∧ StN (RZ w r) r ((d.next 0).robj sv) w' → e = .returned (.tuple #[]) ∧ RIs w' Y b gc lv s ∧ w'.heap[r]? = some ((d.next 0).robj sv) ∧ Chg (fun k => k = r) w w' := fun e w' hh => by
    obtain ⟨h1, w2, h2, h3, h4⟩ := hh
    have hc : Chg (fun k => k = r) w w' := Chg.trans h2 h4
    exact ⟨h1, h.ris hc, h3, hc⟩
  have POST : ∀ {X w2 : World} {ob : Obj}, X.heap[r]? = some ob → Chg (fun k => k = r) w X → Below X.heap.size X w2 → RZ w r w2 ∧ w2.heap[r]? = some ob := fun hX hc hb => ⟨hc.trans (Chg.of_below hb), (hb.block _ (lt_of_heap hX)).trans hX⟩
  rcases (show d.ph = 1 ∨ d.ph = 2 ∨ d.ph = 3 ∨ d.ph = 4 ∨ d.ph = 5 ∨ d.ph = 6 ∨ d.ph = 7 ∨ d.ph = 8 ∨ d.ph = 9 ∨ d.ph = 10 ∨ d.ph = 11 by omega) with e | e | e | e | e | e | e | e | e | e | e
  · refine (rph1 (ra := b) (wi := (d.who : Int)) (x := 0) (P := RZ w r) so _ sc hsv rfl (by omega) hw.se.1 (by have := hw.se; omega) (hd := e) (hwh := by omega) (h0 := h.nd) (HA := fun X ob hX hc => ?_)).mono FIN
    exact (refLoad_stop _ _ (h.ris hc) hs).mono fun e w' hh => ⟨hh.1, POST hX hc hh.2⟩
  · refine (rph2 (ra := b) (wi := (d.who : Int)) (x := 0) (P := RZ w r) (y := .int .u64 0) so _ sc hsv rfl (by omega) hw.se.1 (hw.p2 e).1 ⟨(hw.p2 e).2, by have := hw.le; omega⟩ ⟨by have := hw.ba; have := h.hK; omega, by have := hw.ba; have := h.hK; omega⟩ (by have := hw.tg d.sent.toNat (by have := hw.se; have := hw.p2 e; omega); omega) h.sd.row (fun w2 hp => HROW w2 hp) (hd := e) (hwh := by omega) (h0 := h.nd) (HA := fun X ob hX hc => ?_)).mono FIN
    exact (refAdd_stop _ _ _ (h.ris hc) hs).mono fun e w' hh => ⟨hh.1, POST hX hc hh.2⟩
  · refine (rph3 (ra := b) (wi := (d.who : Int)) (x := 0) (P := RZ w r) (hd := e) (hwh := by omega) (h0 := h.nd) (HA := fun X ob hX hc => ?_)).mono FIN
    exact (refLoad_stop _ _ (h.ris hc) hs).mono fun e w' hh => ⟨hh.1, POST hX hc hh.2⟩
  · refine (rph4 (ra := b) (wi := (d.who : Int)) (x := 0) (P := RZ w r) so _ sc hsv rfl (by omega) ⟨hw.p4 e, hw.m.2⟩ hw.le hw.bu ⟨by have := hw.ba; have := h.hK; omega, by have := hw.ba; have := h.hK; omega⟩ (hd := e) (hwh := by omega) (h0 := h.nd) (HA := fun X ob hX hc => ?_)).mono FIN
    rw [show decide ((0 : Int) = d.m) = false from by have := hw.p4 e; simp; omega]
    exact (refCas_stop _ _ _ _ (h.ris hc) hs).mono fun e w' hh => ⟨hh.1, POST hX hc hh.2⟩
  · refine (rph5 (ra := b) (wi := (d.who : Int)) (x := 0) (P := RZ w r) (hd := e) (hwh := by omega) (h0 := h.nd) (HA := fun X ob hX hc => ?_)).mono FIN
    exact (refLoad_stop _ _ (h.ris hc) hs).mono fun e w' hh => ⟨hh.1, POST hX hc hh.2⟩
  · refine (rph6 (ra := b) (wi := (d.who : Int)) (x := 0) (P := RZ w r) (hd := e) (hwh := by omega) (h0 := h.nd) (HA := fun X ob hX hc => ?_)).mono FIN
    exact (refLoad_stop _ _ (h.ris hc) hs).mono fun e w' hh => ⟨hh.1, POST hX hc hh.2⟩
  · refine (rph7 (ra := b) (wi := (d.who : Int)) (x := 0) (P := RZ w r) (hd := e) (hwh := by omega) (h0 := h.nd) (HA := fun X ob hX hc => ?_)).mono FIN
    exact (refLoad_stop _ _ (h.ris hc) hs).mono fun e w' hh => ⟨hh.1, POST hX hc hh.2⟩
  · refine (rph8 (ra := b) (wi := (d.who : Int)) (x := 0) (P := RZ w r) (hd := e) (hwh := by omega) (h0 := h.nd) (HA := fun X ob hX hc => ?_)).mono FIN
    exact (refStore_stop _ _ _ (h.ris hc) hs).mono fun e w' hh => ⟨hh.1, POST hX hc hh.2⟩
  · refine (rph9 (ra := b) (wi := (d.who : Int)) (x := 0) (P := RZ w r) (hd := e) (hwh := by omega) (h0 := h.nd) (HA := fun X ob hX hc => ?_)).mono FIN
    exact (refStore_stop _ _ _ (h.ris hc) hs).mono fun e w' hh => ⟨hh.1, POST hX hc hh.2⟩
  · refine (rph10 (ra := b) (wi := (d.who : Int)) (x := 0) (P := RZ w r) (by have := hw.nn; omega) (hd := e) (hwh := by omega) (h0 := h.nd) (HA := fun X ob hX hc => ?_)).mono FIN
    exact (refStore_stop _ _ _ (h.ris hc) hs).mono fun e w' hh => ⟨hh.1, POST hX hc hh.2⟩
  · refine (rph11 (ra := b) (wi := (d.who : Int)) (x := 0) (P := RZ w r) (hd := e) (hwh := by omega) (h0 := h.nd) (HA := fun X ob hX hc => ?_)).mono FIN
    exact (refStore_stop _ _ _ (h.ris hc) hs).mono fun e w' hh => ⟨hh.1, POST hX hc hh.2⟩

end
end Go.Proofs.Ytlncjbjdjciphaa
