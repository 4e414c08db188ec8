/- slices.Clone at []uint64 and at []api.Access; Image and Log. -/
import Derived.Test.YtgjdjdgondpjeaaGreatLooks
namespace Go.Proofs.YtgjdjdgondpjeaaGreat
open Go.RowKit Go.Lib Go.MuLone

theorem Tryz.info55 : (Tryz.prog.info? 55).map (fun i => (i.zero, i.size, i.bytes)) = some (some Acc.zero.val, 8, 64) := by kernel_rfl

/-- A slice that reads as these words. -/
def WordsAt (w : World) (v : Value) (xs : List Int) : Prop :=
  (v = .slice none 0 0 ∧ xs = []) ∨ ∃ g o c, v = .slice (some ⟨g, o, none⟩) xs.length c ∧ g < w.heap.size ∧ xs.length ≤ c ∧ c ≤ 9223372036854775807 ∧
    ∀ i, i < xs.length → w.cell? ⟨g, o + i, none⟩ = some (.int .u64 (nth xs i))
/-- A slice that reads as these accesses. -/
def AccsAt (w : World) (v : Value) (l : List Acc) : Prop :=
  (v = .slice none 0 0 ∧ l = []) ∨ ∃ g o c, v = .slice (some ⟨g, o, none⟩) l.length c ∧ g < w.heap.size ∧ l.length ≤ c ∧ c ≤ 9223372036854775807 ∧
    ∀ i x, (logCells l)[i]? = some x → w.cell? ⟨g, o + i, none⟩ = some x

theorem WordsAt.of_owns {w : World} {B : Nat} {v : Value} {xs : List Int} (h : w.ownsRow B 40 1 v xs.length (xs.map (Value.int .u64))) : WordsAt w v xs := by
  obtain ⟨_, ⟨rfl, hn⟩ | ⟨g, cap, cur, rfl, hg, hh, hnc, hcm, hcur, htake⟩⟩ := h
  · exact .inl ⟨rfl, List.eq_nil_of_length_eq_zero hn⟩
  · refine .inr ⟨g, 0, cap, rfl, lt_of_heap hh, hnc, hcm, fun i hi => ?_⟩
    refine cell_of hh ?_
    have e1 : (cur.toList.take (xs.length * 1))[i]? = (xs.map (Value.int .u64))[i]? := by rw [htake]
    rw [List.getElem?_take_of_lt (by omega)] at e1
    have e2 : cur[i]? = cur.toList[i]? := by simp
    rw [Nat.zero_add, e2, e1]
    simp [nth, List.getD, List.getElem?_eq_getElem hi]
theorem AccsAt.of_owns {w : World} {B : Nat} {v : Value} {l : List Acc} (h : w.ownsRow B 55 8 v l.length (logCells l)) : AccsAt w v l := by
  obtain ⟨hlen, ⟨rfl, hn⟩ | ⟨g, cap, cur, rfl, hg, hh, hnc, hcm, hcur, htake⟩⟩ := h
  · exact .inl ⟨rfl, List.eq_nil_of_length_eq_zero hn⟩
  · refine .inr ⟨g, 0, cap, rfl, lt_of_heap hh, hnc, hcm, fun i x hi => ?_⟩
    refine cell_of hh ?_
    have hlt := (List.getElem?_eq_some_iff.1 hi).1
    rw [← htake, List.getElem?_take_of_lt (by omega)] at hi
    rw [Nat.zero_add]
    simpa using hi

set_option maxHeartbeats 2000000 in
set_option maxRecDepth 100000 in
theorem cloneW_at (g o c : Nat) (xs : List Int) (w : World) (hbig : xs.length * 8 ≤ 140737488355328)
    (hc : ∀ i, i < xs.length → w.cell? ⟨g, o + i, none⟩ = some (.int .u64 (nth xs i))) :
    Calls Tryz.prog 54 #[.slice (some ⟨g, o, none⟩) xs.length c] w fun e w' => ∃ v', e = .returned v' ∧ w'.ownsRow w.heap.size 40 1 v' xs.length (xs.map (Value.int .u64)) ∧ Below w.heap.size w w' := by
  obtain ⟨i0, hi, hz0, hz1, hz2⟩ := info_parts Tryz.info40
  have q22 : ∀ (w : World) (a : Option Addr) (n c n' c' : Nat), (binOp .eql 47 (.slice a n c) (.slice none n' c')).run Tryz.prog w = .ok (.bool a.isNone) w := fun w a n c n' c' => Lib.run_eql_slice_nil w _ _ a n c n' c' Tryz.underlying47
  have u22 : ∀ w, Sem.run Tryz.prog (underlying 47) w = .ok (TypeDesc.slice 40) w := run_underlying Tryz.underlying47
  have A := hide hc
  clear hc
  go_enter Tryz.func54, Tryz.ntmps54
  go_wp2_with (at_builtin; refine wpList_append_own _ rfl _ _ 47 rfl w.heap.size 40 i0 (.int .u64 0) 1 8 Tryz.underlying47 hi hz0 hz1 hz2 rfl (by decide) _ _ _ rfl (World.ownsRow_made w #[] 0 (Nat.le_refl _) (Nat.zero_le _) rfl) ⟨g, o, none⟩ xs.length c (xs.map (Value.int .u64)) rfl ?qc1 ?qc2 ?qc3 ?qc4 ?qc5 ?qc6 ?_)
  case qc1 => simp
  case qc2 =>
    intro j u hj
    have hjn : j < xs.length := by
      have := (List.getElem?_eq_some_iff.1 hj).1
      simpa using this
    refine Lib.cell?_alloc_some _ ?_
    rw [Addr.add_lit]
    rw [A.out j hjn]
    have e : (xs.map (Value.int .u64))[j]? = some (Value.int .u64 (nth xs j)) := by simp [nth, List.getD, List.getElem?_eq_getElem hjn]
    rw [e] at hj
    exact hj
  case qc3 => intro u hu; obtain ⟨x, _, rfl⟩ := List.mem_map.1 hu; rfl
  case qc4 => unfold maxLen; omega
  case qc5 => omega
  case qc6 => simp
  intro v' w1 hown hgrow hnil
  go_wp2
  go_ret
  refine ⟨v', rfl, by simpa using hown, ?_⟩
  exact ((Below.refl _ w).alloc (Nat.le_refl _) _).grown hgrow (by simp) (by intro k hk; simp [Value.ownBlock] at hk; omega)

set_option maxHeartbeats 1000000 in
theorem cloneW_nil (n c : Nat) (w : World) :
    Calls Tryz.prog 54 #[.slice none n c] w fun e w' => e = .returned (.slice none 0 0) ∧ w' = w := by
  have q22 : ∀ (w : World) (a : Option Addr) (n c n' c' : Nat), (binOp .eql 47 (.slice a n c) (.slice none n' c')).run Tryz.prog w = .ok (.bool a.isNone) w := fun w a n c n' c' => Lib.run_eql_slice_nil w _ _ a n c n' c' Tryz.underlying47
  go_enter Tryz.func54, Tryz.ntmps54
  go_wp2
  go_ret
  exact ⟨rfl, rfl⟩

theorem cloneW_any (v : Value) (xs : List Int) (w : World) (h : WordsAt w v xs) (hbig : xs.length * 8 ≤ 140737488355328) :
    Calls Tryz.prog 54 #[v] w fun e w' => ∃ v', e = .returned v' ∧ w'.ownsRow w.heap.size 40 1 v' xs.length (xs.map (Value.int .u64)) ∧ Below w.heap.size w w' := by
  rcases h with ⟨rfl, rfl⟩ | ⟨g, o, c, rfl, hg, hl, hm, hc⟩
  · refine (cloneW_nil _ _ _).mono ?_
    rintro e w' ⟨rfl, rfl⟩
    exact ⟨_, rfl, World.ownsRow_nil _ _ _ _, Below.refl _ _⟩
  · exact cloneW_at g o c xs w hbig hc

set_option maxHeartbeats 2000000 in
set_option maxRecDepth 100000 in
theorem cloneA_at (g o c : Nat) (l : List Acc) (w : World) (hbig : l.length * 64 ≤ 140737488355328)
    (hc : ∀ i x, (logCells l)[i]? = some x → w.cell? ⟨g, o + i, none⟩ = some x) :
    Calls Tryz.prog 53 #[.slice (some ⟨g, o, none⟩) l.length c] w fun e w' => ∃ v', e = .returned v' ∧ w'.ownsRow w.heap.size 55 8 v' l.length (logCells l) ∧ Below w.heap.size w w' := by
  obtain ⟨i0, hi, hz0, hz1, hz2⟩ := info_parts Tryz.info55
  have q22 : ∀ (w : World) (a : Option Addr) (n c n' c' : Nat), (binOp .eql 45 (.slice a n c) (.slice none n' c')).run Tryz.prog w = .ok (.bool a.isNone) w := fun w a n c n' c' => Lib.run_eql_slice_nil w _ _ a n c n' c' Tryz.underlying45
  have u22 : ∀ w, Sem.run Tryz.prog (underlying 45) w = .ok (TypeDesc.slice 55) w := run_underlying Tryz.underlying45
  have A := hide hc
  clear hc
  go_enter Tryz.func53, Tryz.ntmps53
  go_wp2_with (at_builtin; refine wpList_append_own _ rfl _ _ 45 rfl w.heap.size 55 i0 Acc.zero.val 8 64 Tryz.underlying45 hi hz0 hz1 hz2 rfl (by decide) _ _ _ rfl (World.ownsRow_made w #[] 0 (Nat.le_refl _) (Nat.zero_le _) rfl) ⟨g, o, none⟩ l.length c (logCells l) rfl ?qc1 ?qc2 ?qc3 ?qc4 ?qc5 ?qc6 ?_)
  case qc1 => exact logCells_length l
  case qc2 =>
    intro j u hj
    refine Lib.cell?_alloc_some _ ?_
    rw [Addr.add_lit]
    exact A.out j u hj
  case qc3 =>
    intro u hu
    obtain ⟨x, _, hx⟩ := List.mem_flatMap.1 hu
    simp [Acc.arr] at hx
    rcases hx with rfl | rfl | rfl | rfl | rfl | rfl | rfl | rfl <;> rfl
  case qc4 => unfold maxLen; omega
  case qc5 => omega
  case qc6 => simp
  intro v' w1 hown hgrow hnil
  go_wp2
  go_ret
  refine ⟨v', rfl, by simpa using hown, ?_⟩
  exact ((Below.refl _ w).alloc (Nat.le_refl _) _).grown hgrow (by simp) (by intro k hk; simp [Value.ownBlock] at hk; omega)

set_option maxHeartbeats 1000000 in
theorem cloneA_nil (n c : Nat) (w : World) :
    Calls Tryz.prog 53 #[.slice none n c] w fun e w' => e = .returned (.slice none 0 0) ∧ w' = w := by
  have q22 : ∀ (w : World) (a : Option Addr) (n c n' c' : Nat), (binOp .eql 45 (.slice a n c) (.slice none n' c')).run Tryz.prog w = .ok (.bool a.isNone) w := fun w a n c n' c' => Lib.run_eql_slice_nil w _ _ a n c n' c' Tryz.underlying45
  go_enter Tryz.func53, Tryz.ntmps53
  go_wp2
  go_ret
  exact ⟨rfl, rfl⟩

theorem cloneA_any (v : Value) (l : List Acc) (w : World) (h : AccsAt w v l) (hbig : l.length * 64 ≤ 140737488355328) :
    Calls Tryz.prog 53 #[v] w fun e w' => ∃ v', e = .returned v' ∧ w'.ownsRow w.heap.size 55 8 v' l.length (logCells l) ∧ Below w.heap.size w w' := by
  rcases h with ⟨rfl, rfl⟩ | ⟨g, o, c, rfl, hg, hl, hm, hc⟩
  · refine (cloneA_nil _ _ _).mono ?_
    rintro e w' ⟨rfl, rfl⟩
    exact ⟨_, rfl, World.ownsRow_nil _ _ _ _, Below.refl _ _⟩
  · exact cloneA_at g o c l w hbig hc

set_option maxRecDepth 100000 in
theorem log_any (Y b gc : Nat) (lv : Value) (s : Ast) (w : World) (h : AIs w Y b gc lv s) (hbig : s.log.length * 64 ≤ 140737488355328) :
    Calls Tryz.prog 14 #[.pointer (some ⟨b, 0, none⟩)] w fun r w' => ∃ v', r = .returned v' ∧ w'.ownsRow w.heap.size 55 8 v' s.log.length (logCells s.log) ∧ AIs w' Y b gc lv s ∧ Chg (fun k => k = b) w w' := by
  have c0 : w.cell? ⟨b, 0, none⟩ = some (.int .i32 0) := cell_of h.hb rfl
  have c4 : w.cell? ⟨b, 4, none⟩ = some lv := cell_of h.hb rfl
  have f0 := free_of h.hb 0
  have H := hide h
  have hlt := lt_of_heap h.hb
  have k0 : Chg (fun k => k = b) w (w.setCell ⟨b, 0, none⟩ (.int .i32 1)) := (Chg.refl (fun k => k = b) _).put b 0 _ rfl
  have ho : (w.setCell ⟨b, 0, none⟩ (.int .i32 1)).ownsRow Y 55 8 lv s.log.length (logCells s.log) := ownsRow_block h.hl (fun i hi => k0.block i (owns_lt h.hl hi).2 (h.own_ne hi).1)
  have HC := hide (cloneA_any lv s.log _ (AccsAt.of_owns ho) hbig)
  clear h k0 ho
  go_enter_defers Tryz.func14, Tryz.ntmps14
  go_wp2_with (go_at_call 51; refine (lock_free Tryz.muLib ⟨b, 0, none⟩ _ c0 f0).mono ?_; rintro e w' ⟨rfl, rfl⟩)
  refine HC.out.mono ?_
  rintro e w1 ⟨v', rfl, hown, hbel⟩
  have HO := hide hown
  have HB := hide hbel
  clear hown hbel
  go_wp2_with fail
  refine leaves_cons (f := 52) (args := #[.pointer (some ⟨b, 0, none⟩)]) (by simp) (by simp [go_sem]) ?_
  have hb1 : w1.heap[b]? = some (AObjL 1 gc lv s) := (HB.out.block b (by simpa [World.setCell] using hlt)).trans (heap_set H.out.hb _)
  refine (unlock_deferred Tryz.muLib ⟨b, 0, none⟩ .returning _ (cell_of hb1 rfl) (free_of hb1 0)).mono ?_
  rintro e u' w'' ⟨rfl, rfl, rfl⟩
  refine ⟨_, results_tmp rfl _ _ _, ?_⟩
  have k : Chg (fun k => k = b) w (w1.setCell ⟨b, 0, none⟩ (.int .i32 0)) := (((Chg.refl (fun k => k = b) _).put b 0 _ rfl).trans (Chg.of_below HB.out)).put b 0 _ rfl
  refine ⟨v', rfl, ?_, H.out.relock (heap_set hb1 _) k (fun e => H.out.ne e.symm) (fun i hi => (H.out.own_ne hi).1), k⟩
  have ho := HO.out
  rw [show (w.setCell ⟨b, 0, none⟩ (.int .i32 1)).heap.size = w.heap.size by simp [World.setCell]] at ho
  exact ownsRow_block ho (fun i hi => Below.heap_setCell _ _ _ _ (by have := (owns_lt ho hi).1; show i ≠ b; omega))

set_option maxRecDepth 100000 in
theorem image_any (Y b gc : Nat) (lv : Value) (s : Ast) (w : World) (h : AIs w Y b gc lv s) :
    Calls Tryz.prog 15 #[.pointer (some ⟨b, 0, none⟩)] w fun r w' => ∃ v', r = .returned v' ∧ w'.ownsRow w.heap.size 40 1 v' s.cells.length (s.cells.map (Value.int .u64)) ∧ AIs w' Y b gc lv s ∧ Chg (fun k => k = b) w w' := by
  have c0 : w.cell? ⟨b, 0, none⟩ = some (.int .i32 0) := cell_of h.hb rfl
  have c2 : w.cell? ⟨b, 2, none⟩ = some (.slice (some ⟨gc, 0, none⟩) s.cells.length s.cells.length) := cell_of h.hb rfl
  have f0 := free_of h.hb 0
  have H := hide h
  have hlt := lt_of_heap h.hb
  have HC := hide (cloneW_at gc 0 s.cells.length s.cells (w.setCell ⟨b, 0, none⟩ (.int .i32 1)) (by have := h.len; omega) (fun i hi => by
    rw [Nat.zero_add]; exact words_cell (heap_else h.hc (fun e => h.ne e.symm) _) i hi))
  clear h
  go_enter_defers Tryz.func15, Tryz.ntmps15
  go_wp2_with (go_at_call 51; refine (lock_free Tryz.muLib ⟨b, 0, none⟩ _ c0 f0).mono ?_; rintro e w' ⟨rfl, rfl⟩)
  refine HC.out.mono ?_
  rintro e w1 ⟨v', rfl, hown, hbel⟩
  have HO := hide hown
  have HB := hide hbel
  clear hown hbel
  go_wp2_with fail
  refine leaves_cons (f := 52) (args := #[.pointer (some ⟨b, 0, none⟩)]) (by simp) (by simp [go_sem]) ?_
  have hb1 : w1.heap[b]? = some (AObjL 1 gc lv s) := (HB.out.block b (by simpa [World.setCell] using hlt)).trans (heap_set H.out.hb _)
  refine (unlock_deferred Tryz.muLib ⟨b, 0, none⟩ .returning _ (cell_of hb1 rfl) (free_of hb1 0)).mono ?_
  rintro e u' w'' ⟨rfl, rfl, rfl⟩
  refine ⟨_, results_tmp rfl _ _ _, ?_⟩
  have k : Chg (fun k => k = b) w (w1.setCell ⟨b, 0, none⟩ (.int .i32 0)) := (((Chg.refl (fun k => k = b) _).put b 0 _ rfl).trans (Chg.of_below HB.out)).put b 0 _ rfl
  refine ⟨v', rfl, ?_, H.out.relock (heap_set hb1 _) k (fun e => H.out.ne e.symm) (fun i hi => (H.out.own_ne hi).1), k⟩
  have ho := HO.out
  rw [show (w.setCell ⟨b, 0, none⟩ (.int .i32 1)).heap.size = w.heap.size by simp [World.setCell]] at ho
  exact ownsRow_block ho (fun i hi => Below.heap_setCell _ _ _ _ (by have := (owns_lt ho hi).1; show i ≠ b; omega))
end Go.Proofs.YtgjdjdgondpjeaaGreat
