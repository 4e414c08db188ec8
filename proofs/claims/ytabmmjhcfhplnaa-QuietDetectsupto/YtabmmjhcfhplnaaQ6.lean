/- An arena and operations over it, in memory. -/
import Derived.Test.YtabmmjhcfhplnaaQ5
namespace Go.Proofs.Ytabmmjhcfhplnaa
open Go.RowKit Go.Lib Go.MuLone
set_option linter.unusedVariables false
def gd (l : List Nat) (k : Nat) : Nat := l.getD k 0
def qd (l : List QOp) (k : Nat) : QOp := l.getD k ⟨0, 0, 0, 0⟩
theorem qd_set (l : List QOp) (i j : Nat) (x : QOp) (hi : i < l.length) : qd (l.set i x) j = if j = i then x else qd l j := by
  unfold qd
  by_cases h : j = i
  · subst h; simp [List.getD, hi]
  · simp only [List.getD, List.getElem?_set]
    rw [if_neg (fun e => h e.symm), if_neg h]
theorem qd_self (l : List QOp) (i : Nat) (hi : i < l.length) : l.set i (qd l i) = l := by
  apply List.ext_getElem (by simp)
  intro j h1 h2
  rw [List.getElem_set]
  split
  · rename_i e; subst e; simp [qd, List.getD, hi]
  · rfl
structure QM (w : World) (Y b gc n : Nat) (s : Ast) (bl : List Nat) (qs : List QOp) : Prop where
  ex : ∃ lv, AIs w Y b gc lv s
  len : bl.length = qs.length
  op : ∀ k, k < qs.length → w.heap[gd bl k]? = some (qd qs k).obj
  ph : ∀ k, k < qs.length → (qd qs k).ph ≤ 6 ∧ (qd qs k).base = n
  inj : ∀ i j, i < j → j < qs.length → gd bl i ≠ gd bl j
  lt : ∀ k, k < qs.length → gd bl k < Y ∧ gd bl k ≠ b ∧ gd bl k ≠ gc
  go : s.stopped = false
  kp : s.keep = true
  at_ : n + 2 < s.cells.length
  cnt : s.count = s.log.length
section
variable {w w' : World} {Y b gc n p : Nat} {lv : Value} {s : Ast} {bl : List Nat} {qs : List QOp} {who : Int}
theorem QM.look (h : QM w Y b gc n s bl qs) (ha : AIs w' Y b gc lv s) (k : Chg (fun j => j = b) w w') : QM w' Y b gc n s bl qs :=
  ⟨⟨lv, ha⟩, h.len, fun j hj => k.heap (h.op j hj) (h.lt j hj).2.1, h.ph, h.inj, h.lt, h.go, h.kp, h.at_, h.cnt⟩
theorem QM.below (h : QM w Y b gc n s bl qs) (k : Below w.heap.size w w') : QM w' Y b gc n s bl qs := by
  obtain ⟨lv, ha⟩ := h.ex
  exact ⟨⟨lv, ha.below k⟩, h.len, fun j hj => (k.block _ (lt_of_heap (h.op j hj))).trans (h.op j hj), h.ph, h.inj, h.lt, h.go, h.kp, h.at_, h.cnt⟩
/-- A store elsewhere. -/
theorem QM.other {S : Nat → Prop} (h : QM w Y b gc n s bl qs) (k : Chg S w w') (h1 : ¬ S b) (h2 : ¬ S gc) (h3 : ∀ j, Y ≤ j → ¬ S j) (h4 : ∀ j, j < qs.length → ¬ S (gd bl j)) : QM w' Y b gc n s bl qs := by
  obtain ⟨lv, ha⟩ := h.ex
  exact ⟨⟨lv, ha.kept k h1 h2 (fun i hi => h3 i (owns_lt ha.hl hi).1)⟩, h.len, fun j hj => k.heap (h.op j hj) (h4 j hj), h.ph, h.inj, h.lt, h.go, h.kp, h.at_, h.cnt⟩
/-- .. and a port with a grant. -/
structure QG (w : World) (Y b gc n : Nat) (s : Ast) (bl : List Nat) (qs : List QOp) (who : Int) (p : Nat) : Prop where
  q : QM w Y b gc n s bl qs
  ex : ∃ lv, AIs w Y b gc lv s ∧ lv.ownBlock ≠ some p
  po : w.heap[p]? = some (PObj b who true)
  pY : Y ≤ p
theorem qm_granted (h : QM w Y b gc n s bl qs) (hw : 0 ≤ who) : Calls Try.prog 10 #[.pointer (some ⟨b, 0, none⟩), .int .i64 who] w fun e w' => ∃ p, e = .returned (.pointer (some ⟨p, 0, none⟩)) ∧ QG w' Y b gc n s bl qs who p ∧ Chg (fun k => k = b) w w' := by
  obtain ⟨lv, ha⟩ := h.ex
  refine (granted_any w Y b gc lv s who ha hw).mono ?_
  rintro e w' ⟨p, rfl, h1, h2, h3, h4, h5⟩
  exact ⟨p, rfl, ⟨h.look h1 h5, ⟨lv, h1, h4⟩, h2, by have := ha.yw; omega⟩, h5⟩
theorem qm_peek (h : QM w Y b gc n s bl qs) {i : Nat} (hi : i < s.cells.length) : Calls Try.prog 14 #[.pointer (some ⟨b, 0, none⟩), .int .i64 i] w fun r w' => r = .returned (.tuple #[.int .u64 (nth s.cells i), .int .i64 0]) ∧ QM w' Y b gc n s bl qs ∧ Chg (fun k => k = b) w w' := by
  obtain ⟨lv, ha⟩ := h.ex
  refine (peek_in Y b gc lv s i w ha hi).mono ?_
  rintro r w' ⟨rfl, h1, h2⟩
  exact ⟨rfl, h.look h1 h2, h2⟩
theorem qm_count (h : QM w Y b gc n s bl qs) : Calls Try.prog 28 #[.pointer (some ⟨b, 0, none⟩)] w fun r w' => r = .returned (.int .i64 s.count) ∧ QM w' Y b gc n s bl qs ∧ Chg (fun k => k = b) w w' := by
  obtain ⟨lv, ha⟩ := h.ex
  refine (count_any Y b gc lv s w ha).mono ?_
  rintro r w' ⟨rfl, h1, h2, _⟩
  exact ⟨rfl, h.look h1 h2, h2⟩
theorem qm_image (h : QM w Y b gc n s bl qs) : Calls Try.prog 16 #[.pointer (some ⟨b, 0, none⟩)] w fun r w' => ∃ v', r = .returned v' ∧ w'.ownsRow w.heap.size 27 1 v' s.cells.length (s.cells.map (Value.int .u64)) ∧ QM w' Y b gc n s bl qs ∧ Chg (fun k => k = b) w w' := by
  obtain ⟨lv, ha⟩ := h.ex
  refine (image_any Y b gc lv s w ha).mono ?_
  rintro r w' ⟨v, rfl, h0, h1, h2⟩
  exact ⟨v, rfl, h0, h.look h1 h2, h2⟩
/-- What a step makes of the arena, and of the operation. -/
def stS (who : Int) (n : Nat) (s : Ast) (o : QOp) : Ast := if o.ph = 0 then s else s.made (o.cell n) (o.acc who n (nth s.cells (o.cell n)))
def stO (n : Nat) (s : Ast) (o : QOp) : QOp := if o.ph = 0 then o else o.next (nth s.cells (o.cell n))
theorem next_ph (o : QOp) (x : Int) : (o.next x).ph ≤ 6 ∧ (o.next x).base = o.base := by
  unfold QOp.next
  split
  · exact ⟨by simp, rfl⟩
  · split <;> exact ⟨by simp, rfl⟩
  · split <;> exact ⟨by simp, rfl⟩
  · exact ⟨by simp, rfl⟩
  · exact ⟨by simp, rfl⟩
  · exact ⟨by simp, rfl⟩
theorem cell_le (o : QOp) (n : Nat) : o.cell n ≤ n + 2 := by
  unfold QOp.cell; split; omega; split <;> omega
theorem qm_step {k : Nat} (h : QG w Y b gc n s bl qs who p) (hk : k < qs.length) (big : (s.log.length + 1) * 64 ≤ 140737488355328) :
    Calls Try.prog 11 #[.pointer (some ⟨gd bl k, 0, none⟩), .pointer (some ⟨p, 0, none⟩)] w fun e w' => e = .returned (.tuple #[]) ∧ QM w' Y b gc n (stS who n s (qd qs k)) bl (qs.set k (stO n s (qd qs k))) ∧ Chg (SQ b gc (gd bl k) Y) w w' := by
  have hq := h.q
  have ho := hq.op k hk
  have hl := hq.lt k hk
  have hp := hq.ph k hk
  unfold stS stO
  by_cases h0 : (qd qs k).ph = 0
  · rw [if_pos h0, if_pos h0, qd_self qs k hk]
    have ho' : w.heap[gd bl k]? = some (QObjV (qd qs k).base (qd qs k).code .nilFunc (qd qs k).st) := by
      rw [ho]; unfold QOp.obj; rw [h0]; rfl
    refine (step_over _ ho').mono ?_
    rintro e w' ⟨rfl, rfl⟩
    exact ⟨rfl, hq, Chg.refl _ _⟩
  · rw [if_neg h0, if_neg h0]
    obtain ⟨lv, ha, hlv⟩ := h.ex
    have hR : Rdy w Y b gc p lv s who (gd bl k) n (qd qs k).obj := ⟨ha, h.po, h.pY, hlv, ho, hl.1, hl.2.1, hl.2.2, hq.go, hq.at_, by rw [hq.cnt]; omega, by rw [hq.cnt]; omega, big⟩
    refine (step_any (qd qs k) hp.2 (by omega) hp.1 hR).mono ?_
    rintro e w' ⟨rfl, lv', a1, a2, a3⟩
    refine ⟨rfl, ⟨⟨lv', a1⟩, by rw [List.length_set]; exact hq.len, fun j hj => ?_, fun j hj => ?_, fun i j hij hj => hq.inj i j hij (by simpa using hj), fun j hj => hq.lt j (by simpa using hj), hq.go, hq.kp, by show n + 2 < (s.cells.set _ _).length; rw [List.length_set]; exact hq.at_, ?_⟩, a3⟩
    · rw [List.length_set] at hj
      rw [qd_set qs k j _ hk]
      by_cases hjk : j = k
      · rw [if_pos hjk, hjk]; exact a2
      · rw [if_neg hjk]
        refine a3.heap (hq.op j hj) (fun hS => ?_)
        rcases hS with e | e | e | e
        · exact (hq.lt j hj).2.1 e
        · exact (hq.lt j hj).2.2 e
        · rcases Nat.lt_or_gt_of_ne hjk with hlt | hgt
          · exact hq.inj j k hlt hk e
          · exact hq.inj k j hgt hj e.symm
        · have := (hq.lt j hj).1; omega
    · rw [List.length_set] at hj
      rw [qd_set qs k j _ hk]
      by_cases hjk : j = k
      · rw [if_pos hjk]; have := next_ph (qd qs k) (nth s.cells ((qd qs k).cell n)); exact ⟨this.1, this.2.trans hp.2⟩
      · rw [if_neg hjk]; exact hq.ph j hj
    · show s.count + 1 = ((if s.keep then s.log ++ [_] else s.log).length : Int)
      rw [hq.kp, hq.cnt]; simp
end
end Go.Proofs.Ytabmmjhcfhplnaa
