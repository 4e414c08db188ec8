/- access, where it is made. -/
import Derived.Test.YtgjdjdgondpjeaaGreatAccHelp
namespace Go.Proofs.YtgjdjdgondpjeaaGreat
open Go.RowKit Go.Lib Go.MuLone

set_option maxRecDepth 100000 in
set_option maxHeartbeats 2000000 in
theorem access_made (p Y b gc : Nat) (lv : Value) (s : Ast) (who : Int) (k want put : Int) (i : Nat) (w : World) (h : AIs w Y b gc lv s) (hp : w.heap[p]? = some (PObj b who true))
    (hpb : p ≠ b) (hpg : p ≠ gc) (hpl : lv.ownBlock ≠ some p) (hs : s.stopped = false) (hi : i < s.cells.length) (m : Acc) (hm : m = carry ⟨who, k, i, want, put, 0, 0, false⟩ (nth s.cells i)) (hmc : m.cell = i) (hc0 : 0 ≤ s.count) (hc1 : s.count < 9223372036854775807)  (hbig : (s.log.length + 1) * 64 ≤ 140737488355328) :
    Calls Tryz.prog 100 #[.pointer (some ⟨p, 0, none⟩), asked k i want put] w fun r w' => r = .returned m.val ∧ ∃ lv', AIs w' Y b gc lv' (s.made i m) ∧ (lv'.ownBlock = lv.ownBlock ∨ ∃ g, lv'.ownBlock = some g ∧ w.heap.size ≤ g) ∧
      w'.heap[p]? = some (PObj b who false) ∧ Chg (accSet b gc p lv) w w' := by
  have hbl := lt_of_heap h.hb
  have hgl := lt_of_heap h.hc
  have hpl' := lt_of_heap hp
  have H := hide h
  have HP := hide hp
  have hgb : ¬ gc = b := fun e => h.ne e.symm
  have hbg : ¬ b = gc := h.ne
  have hbp : ¬ b = p := fun e => hpb e.symm
  have hgp : ¬ gc = p := fun e => hpg e.symm
  have d0 : w.cell? ⟨p, 0, none⟩ = some (.pointer (some ⟨b, 0, none⟩)) := cell_of hp rfl
  have d1 : w.cell? ⟨p, 1, none⟩ = some (.int .i64 who) := cell_of hp rfl
  have c2 : w.cell? ⟨b, 2, none⟩ = some (.slice (some ⟨gc, 0, none⟩) s.cells.length s.cells.length) := cell_of h.hb rfl
  have e1 := words_cell h.hc i hi
  have hii : (i : Int) < s.cells.length := by omega
  have HM := hide hm
  clear h hp hm
  unfold asked
  go_enter_defers Tryz.func100, Tryz.ntmps100
  go_wp2_with fail
  refine (leads_any p b who true _ (heap_old (heap_old HP.out _) _)).mono ?_
  rintro e w' ⟨rfl, rfl⟩
  go_wp2_with fail
  refine (lock_free Tryz.muLib ⟨b, 0, none⟩ _ (cell_of (heap_old (heap_old H.out.hb _) _) rfl) (free_of (heap_old (heap_old H.out.hb _) _) 0)).mono ?_
  rintro e w' ⟨rfl, rfl⟩
  go_wp2_with fail
  refine (pass_in p b gc lv s who i 1 _ (heap_old (heap_old (heap_set H.out.hb _) _) _) (heap_old (heap_old (heap_else HP.out hpb _) _) _) hs hpb hi).mono ?_
  rintro e w' ⟨rfl, rfl⟩
  go_wp2_with fail
  generalize hW : World.alloc _ _ = W
  have wb : W.heap[b]? = some (AObjL 1 gc lv s) := by rw [← hW]; exact heap_old (heap_old (heap_else (heap_set H.out.hb _) hbp _) _) _
  have wg : W.heap[gc]? = some (wordsObj s.cells) := by rw [← hW]; exact heap_old (heap_old (heap_else (heap_else H.out.hc hgb _) hgp _) _) _
  have wa : W.heap[w.heap.size]? = some (.cells #[.int .i64 who, .int .i64 k, .int .i64 i, .int .u64 want, .int .u64 put, .int .u64 0, .int .u64 0, .bool false] 55 (0, 0)) := by
    rw [← hW]
    refine heap_old ?_ _
    have h := heap_new ((w.setCell ⟨b, 0, none⟩ (.int .i32 1)).setCell ⟨p, 2, none⟩ (.bool false)) (.cells #[.int .i64 who, .int .i64 k, .int .i64 i, .int .u64 want, .int .u64 put, .int .u64 0, .int .u64 0, .bool false] 55 (0, 0))
    simpa [World.setCell] using h
  have wr : W.heap[w.heap.size + 1]? = some (.cells Acc.zero.arr 55 (0, 0)) := by
    rw [← hW]
    have h := heap_new (((w.setCell ⟨b, 0, none⟩ (.int .i32 1)).setCell ⟨p, 2, none⟩ (.bool false)).alloc (.cells #[.int .i64 who, .int .i64 k, .int .i64 i, .int .u64 want, .int .u64 put, .int .u64 0, .int .u64 0, .bool false] 55 (0, 0))) (.cells Acc.zero.arr 55 (0, 0))
    simpa [World.setCell, Acc.zero, Acc.arr] using h
  have ws : W.heap.size = w.heap.size + 2 := by rw [← hW]; simp
  have wk : Chg (fun j => j = b ∨ j = p) w W := by rw [← hW]; exact ((((Chg.refl _ _).put b 0 _ (.inl rfl)).put p 2 _ (.inr rfl)).alloc _).alloc _
  have wp : W.heap[p]? = some (PObj b who false) := by rw [← hW]; exact heap_old (heap_old (heap_set (heap_else HP.out hpb _) _) _) _
  clear hW d0 d1 c2 e1
  have G := hide (And.intro wb (And.intro wg (And.intro wa (And.intro wr (And.intro wk wp)))))
  have c2 : W.cell? ⟨b, 2, none⟩ = some (.slice (some ⟨gc, 0, none⟩) s.cells.length s.cells.length) := cell_of wb rfl
  have e1 := words_cell wg i hi
  have a0 : W.cell? ⟨w.heap.size, 0, none⟩ = some (.int .i64 who) := cell_of wa rfl
  have a1 : W.cell? ⟨w.heap.size, 1, none⟩ = some (.int .i64 k) := cell_of wa rfl
  have a2 : W.cell? ⟨w.heap.size, 2, none⟩ = some (.int .i64 i) := cell_of wa rfl
  have a3 : W.cell? ⟨w.heap.size, 3, none⟩ = some (.int .u64 want) := cell_of wa rfl
  have a4 : W.cell? ⟨w.heap.size, 4, none⟩ = some (.int .u64 put) := cell_of wa rfl
  have a5 : W.cell? ⟨w.heap.size, 5, none⟩ = some (.int .u64 0) := cell_of wa rfl
  have a6 : W.cell? ⟨w.heap.size, 6, none⟩ = some (.int .u64 0) := cell_of wa rfl
  have a7 : W.cell? ⟨w.heap.size, 7, none⟩ = some (.bool false) := cell_of wa rfl
  clear wb wg wa wr wk wp
  have hn1 : ¬ w.heap.size + 2 = b := by omega
  have hn2 : ¬ w.heap.size + 2 = gc := by omega
  have hn3 : ¬ b = w.heap.size + 2 := by omega
  have hn4 : ¬ gc = w.heap.size + 2 := by omega
  go_cut [6, 7] from 33 to 45 (fun t u wx => ∃ M, t = .pointer (some ⟨M, 0, none⟩) ∧ u = .bool (known k) ∧ w.heap.size + 2 ≤ M ∧ wx.heap[M]? = some (.cells (madeArr m i) 55 (0, 0)) ∧ Below (w.heap.size + 2) W wx)
  case first =>
    go_region_held3 (fun x => x.cell? ⟨b, 2, none⟩ = some (.slice (some ⟨gc, 0, none⟩) s.cells.length s.cells.length) ∧ x.cell? ⟨gc, i, none⟩ = some (.int .u64 (nth s.cells i)) ∧
        x.cell? ⟨w.heap.size, 0, none⟩ = some (.int .i64 who) ∧ x.cell? ⟨w.heap.size, 1, none⟩ = some (.int .i64 k) ∧ x.cell? ⟨w.heap.size, 2, none⟩ = some (.int .i64 i) ∧ x.cell? ⟨w.heap.size, 3, none⟩ = some (.int .u64 want) ∧
        x.cell? ⟨w.heap.size, 4, none⟩ = some (.int .u64 put) ∧ x.cell? ⟨w.heap.size, 5, none⟩ = some (.int .u64 0) ∧ x.cell? ⟨w.heap.size, 6, none⟩ = some (.int .u64 0) ∧ x.cell? ⟨w.heap.size, 7, none⟩ = some (.bool false)) (first | go_keep | (refine acc_keep hbel (by simp; omega) (by simp; omega) (by simp; omega) ?_; refine ⟨?_, ?_, ?_, ?_, ?_, ?_, ?_, ?_, ?_, ?_⟩ <;> simp [*]) | (refine acc_keep (hbel.alloc hbel.size _) (by simp; omega) (by simp; omega) (by simp; omega) ?_; refine ⟨?_, ?_, ?_, ?_, ?_, ?_, ?_, ?_, ?_, ?_⟩ <;> simp [*]))
      ((go_at_call 116; refine (carry_m m who k i want put (nth s.cells i) _ HM.out).mono ?_; rintro e w1 ⟨rfl, hbel⟩; try (obtain ⟨n0, n1, n2, n3, n4, n5, n6, n7, nf, hz⟩ := zero_cells hbel (heap_at W (.cells Acc.zero.arr 55 (0, 0)) ws); have HZ := hide hz; clear hz)))
    · go_wp2_with fail
      go_meet
      case rel => exact ⟨_, rfl, rfl, made_one ws hbel⟩
    · go_wp2_with fail
      go_meet
      case rel => exact ⟨_, rfl, rfl, Nat.le_refl _, made_two ws hbel HZ.out⟩
  case rest =>
    clear a0 a1 a2 a3 a4 a5 a6 a7 c2 e1 hn1 hn2 hn3 hn4
    obtain ⟨M, rfl, rfl, hM, xm, xb⟩ := hcut
    obtain ⟨wb, wg, wa, wr, wk, wp⟩ := G.out
    have yb : wc.heap[b]? = some (AObjL 1 gc lv s) := (xb.block b (by omega)).trans wb
    have yg : wc.heap[gc]? = some (wordsObj s.cells) := (xb.block gc (by omega)).trans wg
    have yr : wc.heap[w.heap.size + 1]? = some (.cells Acc.zero.arr 55 (0, 0)) := (xb.block _ (by omega)).trans wr
    have c2 : wc.cell? ⟨b, 2, none⟩ = some (.slice (some ⟨gc, 0, none⟩) s.cells.length s.cells.length) := cell_of yb rfl
    have c3 : wc.cell? ⟨b, 3, none⟩ = some (.bool s.keep) := cell_of yb rfl
    have c4 : wc.cell? ⟨b, 4, none⟩ = some lv := cell_of yb rfl
    have c5 : wc.cell? ⟨b, 5, none⟩ = some (.int .i64 s.count) := cell_of yb rfl
    have f5 := free_of yb 5
    have e1 := words_cell yg i hi
    have fe := free_of yg i
    have m0 : wc.cell? ⟨M, 0, none⟩ = some (.int .i64 m.who) := cell_of xm rfl
    have m1 : wc.cell? ⟨M, 1, none⟩ = some (.int .i64 m.kind) := cell_of xm rfl
    have m2 : wc.cell? ⟨M, 2, none⟩ = some (.int .i64 i) := cell_of xm rfl
    have m3 : wc.cell? ⟨M, 3, none⟩ = some (.int .u64 m.want) := cell_of xm rfl
    have m4 : wc.cell? ⟨M, 4, none⟩ = some (.int .u64 m.put) := cell_of xm rfl
    have m5 : wc.cell? ⟨M, 5, none⟩ = some (.int .u64 m.seen) := cell_of xm rfl
    have m6 : wc.cell? ⟨M, 6, none⟩ = some (.int .u64 m.left) := cell_of xm rfl
    have m7 : wc.cell? ⟨M, 7, none⟩ = some (.bool m.ok) := cell_of xm rfl
    have r0 : wc.cell? ⟨w.heap.size + 1, 0, none⟩ = some (.int .i64 0) := cell_of yr rfl
    have r1 : wc.cell? ⟨w.heap.size + 1, 1, none⟩ = some (.int .i64 0) := cell_of yr rfl
    have r2 : wc.cell? ⟨w.heap.size + 1, 2, none⟩ = some (.int .i64 0) := cell_of yr rfl
    have r3 : wc.cell? ⟨w.heap.size + 1, 3, none⟩ = some (.int .u64 0) := cell_of yr rfl
    have r4 : wc.cell? ⟨w.heap.size + 1, 4, none⟩ = some (.int .u64 0) := cell_of yr rfl
    have r5 : wc.cell? ⟨w.heap.size + 1, 5, none⟩ = some (.int .u64 0) := cell_of yr rfl
    have r6 : wc.cell? ⟨w.heap.size + 1, 6, none⟩ = some (.int .u64 0) := cell_of yr rfl
    have r7 : wc.cell? ⟨w.heap.size + 1, 7, none⟩ = some (.bool false) := cell_of yr rfl
    have rf := fun j => free_of yr j
    have Z := hide (And.intro yb (And.intro yg (And.intro yr (And.intro xm xb))))
    have hg1 : ¬ gc = M := by omega
    have hg2 : ¬ M = gc := by omega
    have hg3 : ¬ gc = w.heap.size + 1 := by omega
    have hg4 : ¬ w.heap.size + 1 = gc := by omega
    have hg5 : ¬ b = M := by omega
    have hg6 : ¬ M = b := by omega
    have hg7 : ¬ b = w.heap.size + 1 := by omega
    have hg8 : ¬ w.heap.size + 1 = b := by omega
    have hg9 : ¬ M = w.heap.size + 1 := by omega
    have hg10 : ¬ w.heap.size + 1 = M := by omega
    clear yb yg yr xm xb wb wg wa wr wk wp
    go_wp2_with fail
    go_region
    cases hk : s.keep with
    | false =>
      rw [hk] at c3
      go_wp2_with fail
      refine leaves_cons (f := 52) (args := #[.pointer (some ⟨b, 0, none⟩)]) (by simp) (by simp [go_sem]) ?_
      obtain ⟨wb, wg, wa, wr, wk, wp⟩ := G.out
      obtain ⟨yb, yg, yr, xm, xb⟩ := Z.out
      generalize hF : World.drew _ = F
      have yp : wc.heap[p]? = some (PObj b who false) := (xb.block p (by omega)).trans wp
      obtain ⟨fb, fg, fp, fe, o1, o2, o3, hws, fr⟩ := acc_false m yb yg yp yr hbg hpb hpg hg7 hg3 (show p ≠ w.heap.size + 1 by omega) _ _ _ _ _ _ _ _ F hF.symm
      have fk : Chg (accSet b gc p lv) w F := by
        have k1 : Chg (accSet b gc p lv) w wc := (wk.mono (fun j h => by rcases h with h | h; exact .inl h; exact .inr (.inr (.inl h)))).trans (Chg.of_below (by rw [ws]; exact xb))
        refine ⟨o1.trans k1.os, o2.trans k1.tape, o3.trans k1.output, Nat.le_trans k1.size hws, fun j hj hn => ?_⟩
        rw [fe j (fun e => hn (.inl e)) (fun e => hn (.inr (.inl e))) (by omega)]
        exact k1.block j hj hn
      have fl : F.ownsRow Y 55 8 lv (s.made i m).log.length (logCells (s.made i m).log) := by
        have e : (s.made i m).log = s.log := by simp [Ast.made, hk]
        rw [e]
        refine ownsRow_block H.out.hl (fun j hj => ?_)
        have q := H.out.own_ne hj
        have hjp : j ≠ p := fun e => hpl (e ▸ hj)
        rw [fe j q.1 q.2.1 (by omega), xb.block j (by omega)]
        exact wk.block j q.2.2 (fun e => by rcases e with e | e; exact q.1 e; exact hjp e)
      refine (unlock_deferred Tryz.muLib ⟨b, 0, none⟩ .returning _ (cell_of fb rfl) (free_of fb 0)).mono ?_
      rintro e u' w'' ⟨rfl, rfl, rfl⟩
      refine ⟨m.val, ?_, rfl, lv, ?_⟩
      · obtain ⟨q0, q1, q2, q3, q4, q5, q6, q7⟩ := block8 fr
        simp [results, Tryz.results100, go_sem, Acc.val, Acc.arr, hmc, q0, q1, q2, q3, q4, q5, q6, q7]
      · obtain ⟨q1, q2, q3⟩ := acc_unlock H.out hpb fb fg fl fp fk
        exact ⟨q1, .inl rfl, q2, q3⟩
    | true =>
      rw [hk] at c3
      go_wp2_with fail
      obtain ⟨wb, wg, wa, wr, wk, wp⟩ := G.out
      obtain ⟨yb, yg, yr, xm, xb⟩ := Z.out
      generalize hX : World.drew _ = X
      have yp : wc.heap[p]? = some (PObj b who false) := (xb.block p (by omega)).trans wp
      obtain ⟨Xb, Xg, Xe, o1, o2, o3, hXs⟩ := acc_true m yb yg hbg X hX.symm
      have Xm : X.heap[M]? = some (.cells (madeArr m i) 55 (0, 0)) := (Xe M hg6 hg2).trans xm
      have Xr : X.heap[w.heap.size + 1]? = some (.cells Acc.zero.arr 55 (0, 0)) := (Xe _ hg8 hg4).trans yr
      have Xp : X.heap[p]? = some (PObj b who false) := (Xe p hpb hpg).trans yp
      have hown0 : ∀ j, lv.ownBlock = some j → j ≠ b ∧ j ≠ gc ∧ j < w.heap.size := fun j hj => H.out.own_ne hj
      have Xl : X.ownsRow Y 55 8 lv s.log.length (logCells s.log) := by
        refine ownsRow_block H.out.hl (fun j hj => ?_)
        have q := hown0 j hj
        have hjp : j ≠ p := fun e => hpl (e ▸ hj)
        rw [Xe j q.1 q.2.1, xb.block j (by omega)]
        exact wk.block j q.2.2 (fun e => by rcases e with e | e; exact q.1 e; exact hjp e)
      have k1 : Chg (accSet b gc p lv) w wc := (wk.mono (fun j h => by rcases h with h | h; exact .inl h; exact .inr (.inr (.inl h)))).trans (Chg.of_below (by rw [ws]; exact xb))
      have Xk : Chg (accSet b gc p lv) w X := by
        refine ⟨o1.trans k1.os, o2.trans k1.tape, o3.trans k1.output, by rw [hXs]; exact k1.size, fun j hj hn => ?_⟩
        rw [Xe j (fun e => hn (.inl e)) (fun e => hn (.inr (.inl e)))]
        exact k1.block j hj hn
      have hYX : Y ≤ X.heap.size := by have := H.out.yw; have := Xk.size; omega
      have hMX := lt_of_heap Xm
      have V := hide (And.intro Xb (And.intro Xg (And.intro Xm (And.intro Xr (And.intro Xp (And.intro Xl (And.intro Xk (And.intro hown0 hYX))))))))
      have hob : lv.ownBlock ≠ some b := fun e => (hown0 b e).1 rfl
      have hoM : lv.ownBlock ≠ some M := fun e => by have := (hown0 M e).2.2; omega
      have XB := hide (show ∃ cs, X.heap[b]? = some (.cells cs 116 (0, 0)) ∧ cs[4]? = some lv from ⟨_, Xb, rfl⟩)
      clear c2 c3 c4 c5 f5 e1 fe m0 m1 m2 m3 m4 m5 m6 m7 r0 r1 r2 r3 r4 r5 r6 r7 rf hX
      have c4 : X.cell? ⟨b, 4, none⟩ = some lv := cell_of Xb rfl
      have m0 : X.cell? ⟨M, 0, none⟩ = some (.int .i64 m.who) := cell_of Xm rfl
      have m1 : X.cell? ⟨M, 1, none⟩ = some (.int .i64 m.kind) := cell_of Xm rfl
      have m2 : X.cell? ⟨M, 2, none⟩ = some (.int .i64 i) := cell_of Xm rfl
      have m3 : X.cell? ⟨M, 3, none⟩ = some (.int .u64 m.want) := cell_of Xm rfl
      have m4 : X.cell? ⟨M, 4, none⟩ = some (.int .u64 m.put) := cell_of Xm rfl
      have m5 : X.cell? ⟨M, 5, none⟩ = some (.int .u64 m.seen) := cell_of Xm rfl
      have m6 : X.cell? ⟨M, 6, none⟩ = some (.int .u64 m.left) := cell_of Xm rfl
      have m7 : X.cell? ⟨M, 7, none⟩ = some (.bool m.ok) := cell_of Xm rfl
      clear hXs Xb Xg Xm Xr Xp Xl Xk hown0 yb yg yr xm xb wb wg wa wr wk wp k1 o1 o2 o3 Xe yp
      obtain ⟨i0, hi0, hz0, hz1, hz2⟩ := info_parts Tryz.info55
      have hbX := lt_of_heap V.out.1
      have hn5 : ¬ X.heap.size = b := by omega
      have hn6 : ¬ X.heap.size = M := by omega
      have hbY := H.out.bY
      have f4 : X.frozen? ⟨b, 4, none⟩ = false := free_of V.out.1 4
      go_cut [] from 66 to 75 (fun wx => AppLeft w wx Y b gc p (w.heap.size + 1) M i lv s who m)
      case first =>
        refine wp_region_noPanic ?_
        go_region_law ((refine step_append_lies _ (by rfl) _ _ _ (by rfl) Y 55 i0 Acc.zero.val 8 64 Tryz.underlying45 hi0 hz0 hz1 hz2 rfl (by omega) lv s.log.length (logCells s.log) (by rfl) (((V.out.2.2.2.2.2.1).alloc _).drew) ⟨X.heap.size, 0, none⟩ 1 1 (madeArr m i).toList (by rfl) (by rfl) (made_news X m i) (made_ones m i) (by omega) (by unfold maxLen; omega) (by omega) (by simp; omega) (X.heap.size + 1) (by simp) ?_; intro g cap w2 hown hgrow hat hlt; have z4 := (app_keep hgrow XB.out V.out.2.2.1 hob hoM).2; have c4' := (app_keep hgrow XB.out V.out.2.2.1 hob hoM).1.1))
        all_goals
          refine NoPanic.normal ?_
          go_wp2_with fail
          go_meet
          case rel => exact app_left hgrow hown hat V.out hbY hgb hpb hM rfl hg6 hg8 hpl
      case rest =>
        clear c4 m0 m1 m2 m3 m4 m5 m6 m7
        obtain ⟨q0, q1, q2, q3, q4, q5, q6, q7⟩ := block8 hcut.hm
        obtain ⟨r0, r1, r2, r3, r4, r5, r6, r7⟩ := block8 hcut.hr
        have rf := fun j => free_of hcut.hr j
        have Z2 := hide hcut
        clear hcut
        go_wp2_with fail
        refine leaves_cons (f := 52) (args := #[.pointer (some ⟨b, 0, none⟩)]) (by simp) (by simp [go_sem]) ?_
        generalize hF : World.setCell _ _ _ = F
        obtain ⟨⟨lv', fb, fa, fo⟩, fp, fk, fr⟩ := app_end Z2.out H.out hpb rfl (show p ≠ w.heap.size + 1 by omega) hk hmc _ _ _ _ _ _ _ _ hF.symm
        refine (unlock_deferred Tryz.muLib ⟨b, 0, none⟩ .returning _ (cell_of fb rfl) (free_of fb 0)).mono ?_
        rintro e u' w'' ⟨rfl, rfl, rfl⟩
        refine ⟨m.val, ?_, rfl, lv', fa, fo, fp, fk⟩
        obtain ⟨q0, q1, q2, q3, q4, q5, q6, q7⟩ := block8 fr
        simp [results, Tryz.results100, go_sem, Acc.val, Acc.arr, hmc, q0, q1, q2, q3, q4, q5, q6, q7]
end Go.Proofs.YtgjdjdgondpjeaaGreat
