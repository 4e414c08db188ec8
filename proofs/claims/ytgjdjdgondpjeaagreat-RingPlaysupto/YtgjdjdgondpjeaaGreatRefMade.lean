/- The reference's made. -/
import Derived.Test.YtgjdjdgondpjeaaGreatRefArena
namespace Go.Proofs.YtgjdjdgondpjeaaGreat
open Go.RowKit Go.Lib Go.MuLone

def refSet (b gc : Nat) (lv : Value) (j : Nat) : Prop := j = b ∨ j = gc ∨ lv.ownBlock = some j

def RMid (gc : Nat) (lv : Value) (s : Ast) : Obj :=
  .cells #[.slice (some ⟨gc, 0, none⟩) s.cells.length s.cells.length, lv, .bool s.keep, .bool s.stopped, .int .i64 s.fw, .int .i64 s.fk, .int .i64 s.fc, .int .i64 (s.count + 1)] 52 (0, 0)
structure RefMid (w X : World) (Y b gc i : Nat) (lv : Value) (s : Ast) (m : Acc) : Prop where
  hb : X.heap[b]? = some (RMid gc lv s)
  hc : X.heap[gc]? = some (wordsObj (s.cells.set i m.left))
  hm : X.heap[w.heap.size]? = some (.cells (madeArr m i) 55 (0, 0))
  hl : X.ownsRow Y 55 8 lv s.log.length (logCells s.log)
  hk : Chg (refSet b gc lv) w X
  hs : X.heap.size = w.heap.size + 1
theorem ref_mid {w X : World} {Y b gc i : Nat} {lv : Value} {s : Ast} (m : Acc) (h : RIs w Y b gc lv s)
    (hX : X = (((w.setCell ⟨gc, i, none⟩ (.int .u64 m.left)).setCell ⟨b, 7, none⟩ (.int .i64 (s.count + 1))).alloc (.cells (madeArr m i) 55)).drew) : RefMid w X Y b gc i lv s m := by
  subst hX
  have hgb : gc ≠ b := fun e => h.ne e.symm
  have hb := h.hb
  unfold RObj at hb
  have k : Chg (fun j => j = b ∨ j = gc) w ((((w.setCell ⟨gc, i, none⟩ (.int .u64 m.left)).setCell ⟨b, 7, none⟩ (.int .i64 (s.count + 1))).alloc (.cells (madeArr m i) 55)).drew) :=
    ((((Chg.refl _ _).put gc i _ (.inr rfl)).put b 7 _ (.inl rfl)).alloc _).drew
  refine ⟨?_, ?_, ?_, ownsRow_block h.hl (fun j hj => k.block j (owns_lt h.hl hj).2 (fun e => ?_)), k.mono (fun j hj => ?_), ?_⟩
  · rw [heap_drew]
    refine heap_old ?_ _
    have z := heap_set (i := 7) (heap_else (a := ⟨gc, i, none⟩) hb h.ne (.int .u64 m.left)) (.int .i64 (s.count + 1))
    rw [z]
    simp [RMid]
  · rw [heap_drew]
    exact heap_old (heap_else (a := ⟨b, 7, none⟩) (words_set h.hc i m.left) hgb _) _
  · rw [heap_drew]
    have z := heap_new ((w.setCell ⟨gc, i, none⟩ (.int .u64 m.left)).setCell ⟨b, 7, none⟩ (.int .i64 (s.count + 1))) (.cells (madeArr m i) 55)
    simpa [World.setCell] using z
  · have := h.own_ne hj
    rcases e with e | e <;> simp_all
  · rcases hj with e | e
    · exact .inl e
    · exact .inr (.inl e)
  · rw [show ∀ x : World, x.drew.heap.size = x.heap.size from fun _ => rfl]
    simp [World.setCell]
theorem ref_false {w X : World} {Y b gc i : Nat} {lv : Value} {s : Ast} {m : Acc} (h : RIs w Y b gc lv s) (x : RefMid w X Y b gc i lv s m) (hk : s.keep = false) : RIs X Y b gc lv (s.made i m) := by
  have e : (s.made i m).log = s.log := by simp [Ast.made, hk]
  refine ⟨?_, x.hc, by rw [e]; exact x.hl, h.bY, h.gY, h.ne, by simpa [Ast.made] using h.len, by have := h.yw; have := x.hs; omega⟩
  rw [x.hb]
  simp [RMid, RObj, Ast.made]
theorem ref_true {w X w2 : World} {Y b gc i g cap : Nat} {lv : Value} {s : Ast} {m : Acc} (h : RIs w Y b gc lv s) (x : RefMid w X Y b gc i lv s m) (hk : s.keep = true) (hmc : m.cell = i)
    (hgrow : (X.alloc (.cells (madeArr m i) 55)).drew.grownBy w2 lv.ownBlock)
    (hown : w2.ownsRow Y 55 8 (.slice (some ⟨g, 0, none⟩) (s.log.length + 1) cap) (s.log.length + 1) (logCells s.log ++ (madeArr m i).toList)) (hat : lv.ownBlock = some g ∨ g = X.heap.size + 1) :
    ∃ lv', RIs (w2.setCell ⟨b, 1, none⟩ (.slice (some ⟨g, 0, none⟩) (s.log.length + 1) cap)) Y b gc lv' (s.made i m) ∧ (lv'.ownBlock = lv.ownBlock ∨ ∃ g, lv'.ownBlock = some g ∧ w.heap.size ≤ g) ∧
      Chg (refSet b gc lv) w (w2.setCell ⟨b, 1, none⟩ (.slice (some ⟨g, 0, none⟩) (s.log.length + 1) cap)) := by
  have hblk : ∀ {j : Nat} {o : Obj}, X.heap[j]? = some o → lv.ownBlock ≠ some j → w2.heap[j]? = some o := fun {j o} hj hn =>
    (hgrow.block j (by have := lt_of_heap hj; simp; omega) (fun e => hn e.symm)).trans (heap_old hj _)
  have b2 := hblk x.hb (fun e => (h.own_ne e).1 rfl)
  have g2 := hblk x.hc (fun e => (h.own_ne e).2.1 rfl)
  have hgg : g ≠ b := by have := (owns_lt hown (k := g) rfl).1; have := h.bY; omega
  have k : Chg (refSet b gc lv) w (w2.setCell ⟨b, 1, none⟩ (.slice (some ⟨g, 0, none⟩) (s.log.length + 1) cap)) :=
    (((x.hk.alloc _).drew).grown hgrow (fun j hj => .inl (.inr (.inr hj)))).put b 1 _ (.inl rfl)
  have e : (s.made i m).log = s.log ++ [m] := by simp [Ast.made, hk]
  have e2 : logCells (s.log ++ [m]) = logCells s.log ++ (madeArr m i).toList := by
    rw [logCells_append]
    simp [logCells, madeArr, Acc.arr, hmc]
  refine ⟨.slice (some ⟨g, 0, none⟩) (s.log.length + 1) cap, ⟨?_, ?_, ?_, h.bY, h.gY, h.ne, by simpa [Ast.made] using h.len, Nat.le_trans h.yw k.size⟩, ?_, k⟩
  · unfold RMid at b2
    have := heap_set (i := 1) b2 (.slice (some ⟨g, 0, none⟩) (s.log.length + 1) cap)
    rw [this]
    simp [RObj, Ast.made]
  · exact heap_else g2 (fun e => h.ne e.symm) _
  · rw [e, e2, List.length_append]
    exact ownsRow_block hown (fun j hj => Below.heap_setCell _ _ _ _ (by cases hj; exact hgg))
  · rcases hat with h | h
    · exact .inl h.symm
    · exact .inr ⟨g, rfl, by have := x.hs; omega⟩
/-- What the append leaves of the arena's block. -/
theorem ref_cell {X w2 : World} {b gc : Nat} {lv : Value} {s : Ast} {o : Obj} (hg : (X.alloc o).drew.grownBy w2 lv.ownBlock) (xb : X.heap[b]? = some (RMid gc lv s)) (hb : lv.ownBlock ≠ some b) :
    w2.cell? ⟨b, 1, none⟩ = some lv ∧ w2.frozen? ⟨b, 1, none⟩ = false := by
  have b2 : w2.heap[b]? = some (RMid gc lv s) := (hg.block b (by have := lt_of_heap xb; simp; omega) (fun e => hb e.symm)).trans (heap_old xb o)
  exact ⟨cell_of b2 rfl, free_of b2 1⟩

set_option maxRecDepth 100000 in
set_option maxHeartbeats 2000000 in
theorem refMade_any (Y b gc : Nat) (lv : Value) (s : Ast) (i : Nat) (m : Acc) (w : World) (h : RIs w Y b gc lv s) (hi : i < s.cells.length) (hmc : m.cell = i) (hc0 : 0 ≤ s.count) (hc1 : s.count < 9223372036854775807) (hbig : (s.log.length + 1) * 64 ≤ 140737488355328) :
    Calls Tryz.prog 102 #[.pointer (some ⟨b, 0, none⟩), .agg (madeArr m i)] w fun r w' => r = .returned (.tuple #[]) ∧ ∃ lv', RIs w' Y b gc lv' (s.made i m) ∧ (lv'.ownBlock = lv.ownBlock ∨ ∃ g, lv'.ownBlock = some g ∧ w.heap.size ≤ g) ∧ Chg (refSet b gc lv) w w' := by
  have hbl := lt_of_heap h.hb
  have hgl := lt_of_heap h.hc
  have H := hide h
  have hgb : ¬ gc = b := fun e => h.ne e.symm
  have hbg : ¬ b = gc := h.ne
  have c0 : w.cell? ⟨b, 0, none⟩ = some (.slice (some ⟨gc, 0, none⟩) s.cells.length s.cells.length) := cell_of h.hb rfl
  have c2 : w.cell? ⟨b, 2, none⟩ = some (.bool s.keep) := cell_of h.hb rfl
  have c7 : w.cell? ⟨b, 7, none⟩ = some (.int .i64 s.count) := cell_of h.hb rfl
  have f7 := free_of h.hb 7
  have e1 := words_cell h.hc i hi
  have fe := free_of h.hc i
  have hii : (i : Int) < s.cells.length := by omega
  clear h
  unfold madeArr
  go_enter Tryz.func102, Tryz.ntmps102
  go_wp2_with fail
  go_region
  cases hk : s.keep with
  | false =>
    rw [hk] at c2
    go_wp2_with fail
    first | go_end0 | refine bodyPost_ret (results_none rfl _ _ _) rfl ?_
    have x := ref_mid (i := i) m H.out rfl
    exact ⟨rfl, lv, ref_false H.out x hk, .inl rfl, x.hk⟩
  | true =>
    rw [hk] at c2
    go_wp2_with fail
    generalize hX : World.drew _ = X
    have V := hide (ref_mid (i := i) m H.out hX.symm)
    have hob : lv.ownBlock ≠ some b := fun e => (H.out.own_ne e).1 rfl
    have hXs := V.out.hs
    clear hX c0 c2 c7 f7 e1 fe
    have c1 : X.cell? ⟨b, 1, none⟩ = some lv := cell_of V.out.hb rfl
    have f1 : X.frozen? ⟨b, 1, none⟩ = false := free_of V.out.hb 1
    obtain ⟨m0, m1, m2, m3, m4, m5, m6, m7⟩ := block8 V.out.hm
    obtain ⟨M, hM⟩ : ∃ M, w.heap.size = M := ⟨_, rfl⟩
    rw [hM] at m0 m1 m2 m3 m4 m5 m6 m7 ⊢
    have hbX0 : b < X.heap.size := by omega
    have hMX0 : M < X.heap.size := by omega
    have hbX : ¬ X.heap.size = b := by omega
    have hMX : ¬ X.heap.size = M := by omega
    have hYX : Y ≤ X.heap.size := by have := H.out.yw; omega
    clear hXs
    obtain ⟨i0, hi0, hz0, hz1, hz2⟩ := info_parts Tryz.info55
    refine wp_region_noPanic ?_
    go_region_law ((refine step_append_lies _ (by rfl) _ _ _ (by rfl) Y 55 i0 Acc.zero.val 8 64 Tryz.underlying45 hi0 hz0 hz1 hz2 rfl (by omega) lv s.log.length (logCells s.log) (by rfl) (((V.out.hl).alloc _).drew) ⟨X.heap.size, 0, none⟩ 1 1 (madeArr m i).toList (by rfl) (by rfl) (made_news X m i) (made_ones m i) (by omega) (by unfold maxLen; omega) (by omega) (by simp; omega) (X.heap.size + 1) (by simp) ?_; intro g cap w2 hown hgrow hat hlt; have z4 := (ref_cell hgrow V.out.hb hob).2; have c4' := (ref_cell hgrow V.out.hb hob).1))
    all_goals
      refine NoPanic.normal ?_
      go_wp2_with fail
      first | go_end0 | refine bodyPost_ret (results_none rfl _ _ _) rfl ?_
      subst hM
      exact ⟨rfl, ref_true H.out V.out hk hmc hgrow hown hat⟩
end Go.Proofs.YtgjdjdgondpjeaaGreat
