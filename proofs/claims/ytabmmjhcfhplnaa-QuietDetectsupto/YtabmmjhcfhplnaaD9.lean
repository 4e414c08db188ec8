/- QuietDetects: one round, behind the access. -/
import Derived.Test.YtabmmjhcfhplnaaD8
namespace Go.Proofs.Ytabmmjhcfhplnaa
open Go.RowKit Go.Lib Go.MuLone
set_option linter.unusedVariables false
set_option linter.unusedSimpArgs false
theorem wrap_up (P : Nat) (h : P ≤ 1048576 * 400) : IntKind.u64.wrap ((P : Int) + 1) = ((P + 1 : Nat) : Int) := by
  have e : ∀ y, IntKind.u64.wrap y = y % 18446744073709551616 := fun y => by simp [IntKind.wrap, IntKind.bits, IntKind.signed]
  rw [e]; omega
theorem wrap_dn (P : Nat) (h1 : 1 ≤ P) (h : P ≤ 1048576 * 400) : IntKind.u64.wrap ((P : Int) + 18446744073709551615) = ((P - 1 : Nat) : Int) := by
  have e : ∀ y, IntKind.u64.wrap y = y % 18446744073709551616 := fun y => by simp [IntKind.wrap, IntKind.bits, IntKind.signed]
  rw [e]; omega
theorem mcOf_le (L : List Nat) (t : Nat) : mcOf L t ≤ L.sum := by
  unfold mcOf
  induction L generalizing t with
  | nil => simp
  | cons a l ih =>
    cases t with
    | zero => simp [List.getD]
    | succ t => have := ih t; simp [List.getD] at this ⊢; omega
/-- An access was made. P, d: ahead of it; P', d': behind it. -/
structure AI (w0 w : World) (Y b gc : Nat) (lv : Value) (G n B F Yb gm : Nat) (mcur : Array Value) (L : List Nat) (s : Ast) (P d P' d' : Nat) (bv : Value) (bag : List Nat) (fresh : Nat) (ws : List Wk) (q5 M0 k t q ph : Nat) (st : Int) (lo : Bool) : Prop where
  m : DM w0 w Y b gc lv G n B F Yb gm mcur L s P' d' bv bag fresh (upd (FW q5 ws) k ⟨.int .i64 (t : Int), .int .i64 ((wkd ws k).child : Int), .pointer (some ⟨q, 0, none⟩), .bool lo⟩)
  i : DI (mcOf L) L.length n P d ws bag fresh
  lg : s.log.length + mt (mcOf L) L.length ws bag fresh ≤ M0 + 1
  op : w.heap[q]? = some (QOp.obj ⟨0, 0, ph, st⟩)
  q0 : w0.heap.size ≤ q
  hk : k < n
  at_ : (wkd ws k).at_ = some t
  p6 : ph ≤ 6
  kind : (ph = 0 ∧ lo = false ∧ (wkd ws k).busy = false ∧ (wkd ws k).child < mcOf L t ∧ P' = P + 1 ∧ d' = d) ∨ (ph = 0 ∧ lo = true ∧ (wkd ws k).busy = false ∧ mcOf L t ≤ (wkd ws k).child ∧ P ≠ 1 ∧ P' = P - 1 ∧ d' = d) ∨ (ph = 5 ∧ lo = true ∧ (wkd ws k).busy = false ∧ mcOf L t ≤ (wkd ws k).child ∧ P = 1 ∧ P' = 0 ∧ d' = d ∧ st = 0) ∨ (ph = 0 ∧ lo = true ∧ (wkd ws k).busy = true ∧ P' = 0 ∧ d' = 1)
section
variable {w0 w w' : World} {Y b gc G n B F Yb gm P d P' d' fresh k t q q5 p M0 ph cm : Nat} {lv bv : Value} {mcur : Array Value} {L bag : List Nat} {s : Ast} {ws : List Wk} {who st : Int} {lo : Bool}
theorem mi_step (h : MI w0 w Y b gc lv G n B F Yb gm mcur L s P d bv bag fresh ws q5 M0 k t q ph lo) (hM : M0 ≤ 1048576 * 400) (hp : w.heap[p]? = some (PObj b who true)) (hpY : Y ≤ p) (hpl : lv.ownBlock ≠ some p) :
    Calls Try.prog 11 #[.pointer (some ⟨q, 0, none⟩), .pointer (some ⟨p, 0, none⟩)] w fun e w' => e = .returned (.tuple #[]) ∧ ∃ lv' s' P' d' ph' st', AI w0 w' Y b gc lv' G n B F Yb gm mcur L s' P d P' d' bv bag fresh ws q5 M0 k t q ph' st' lo := by
  have hPl := h.i.P_le
  have hlg := h.lg
  have hcl := h.m.cl
  have big : (s.log.length + 1) * 64 ≤ 140737488355328 := by omega
  have hkl : k < ws.length := by rw [h.i.len]; exact h.hk
  rcases h.kind with ⟨rfl, rfl, k3, k4⟩ | ⟨rfl, rfl, k3, k4⟩ | ⟨rfl, rfl, k3⟩
  · refine (dm_step (P' := P + 1) (d' := d) h.m ⟨0, 0, 1, 0⟩ rfl (.inl rfl) hp hpY hpl h.op h.q0 big ?_).mono ?_
    · simp only [QOp.cell, QOp.acc, hcl]
      simp [nth, List.getD]
      exact wrap_up P (by omega)
    · rintro e w' ⟨rfl, lv', s', a1, a2, a3⟩
      exact ⟨rfl, lv', s', P + 1, d, 0, 1, ⟨a1, h.i, by omega, a3, h.q0, h.hk, h.at_, by omega, .inl ⟨rfl, rfl, k3, k4, rfl, rfl⟩⟩⟩
  · have hP1 : 1 ≤ P := by
      by_cases h1 : P = 1
      · omega
      · have := (h.i.lower h.hk h.at_ k3 k4 h1 0 false).1; omega
    refine (dm_step (P' := P - 1) (d' := d) h.m ⟨0, 0, 2, 0⟩ rfl (.inr (.inl rfl)) hp hpY hpl h.op h.q0 big ?_).mono ?_
    · simp only [QOp.cell, QOp.acc, hcl]
      simp [nth, List.getD]
      exact wrap_dn P hP1 (by omega)
    · rintro e w' ⟨rfl, lv', s', a1, a2, a3⟩
      have hn : nth s.cells (QOp.cell ⟨0, 0, 2, 0⟩ 0) = (P : Int) := by rw [hcl]; simp [QOp.cell, nth, List.getD]
      rw [hn] at a3
      by_cases h1 : P = 1
      · subst h1
        exact ⟨rfl, lv', s', 0, d, 5, 0, ⟨a1, h.i, by omega, a3, h.q0, h.hk, h.at_, by omega, .inr (.inr (.inl ⟨rfl, rfl, k3, k4, rfl, rfl, rfl, rfl⟩))⟩⟩
      · have e1 : QOp.next ⟨0, 0, 2, 0⟩ (P : Int) = ⟨0, 0, 0, 1⟩ := by
          have : ¬ (P : Int) = 1 := by omega
          simp [QOp.next, this]
        rw [e1] at a3
        exact ⟨rfl, lv', s', P - 1, d, 0, 1, ⟨a1, h.i, by omega, a3, h.q0, h.hk, h.at_, by omega, .inr (.inl ⟨rfl, rfl, k3, k4, h1, rfl, rfl⟩)⟩⟩
  · obtain ⟨f1, f2, f3, _, _⟩ := h.i.finish h.hk k3 0 false
    refine (dm_step (P' := 0) (d' := 1) h.m ⟨0, 0, 5, 0⟩ rfl (.inr (.inr rfl)) hp hpY hpl h.op h.q0 big ?_).mono ?_
    · simp only [QOp.cell, QOp.acc, hcl]
      simp [nth, List.getD, f1]
    · rintro e w' ⟨rfl, lv', s', a1, a2, a3⟩
      exact ⟨rfl, lv', s', 0, 1, 0, 1, ⟨a1, h.i, by omega, a3, h.q0, h.hk, h.at_, by omega, .inr (.inr (.inr ⟨rfl, rfl, k3, rfl, rfl⟩))⟩⟩
theorem no_b5 {q5 : Nat} {w0 w : World} (h : sm Wk.bf ws = 0) : ∀ k, k < n → (wkd ws k).busy = true → w.heap[q5]? = some (QOp.obj ⟨0, 0, 5, 0⟩) ∧ w0.heap.size ≤ q5 := fun k hk hb => by
  rw [no_busy h k] at hb; cases hb
theorem DI.up_free (h : DI (mcOf L) L.length n P d ws bag fresh) (hP : 1 ≤ P ∨ d = 1) : sm Wk.bf ws = 0 := by
  rcases h.mode with ⟨_, _, _, h4⟩ | ⟨h1, h2, _⟩ | ⟨_, _, _, _, h5⟩
  · exact h4
  · omega
  · exact h5
theorem ai_over (h : AI w0 w Y b gc lv G n B F Yb gm mcur L s P d P' d' bv bag fresh ws q5 M0 k t q 0 st lo) (hM : M0 ≤ 1048576 * 400) (hL : L.length ≤ 1048576) (hs : L.sum ≤ 1048576) (hbag : bag.length ≤ 419430400) :
    Calls Try.prog 13 #[.pointer (some ⟨G, k * 4, none⟩), .pointer (some ⟨B, 0, none⟩), .pointer (some ⟨F, 0, none⟩)] w fun e w' => e = .returned (.tuple #[]) ∧ d = 0 ∧ ∃ bv' bag' fresh' ws', RI w0 w' Y b gc lv G n B F Yb gm mcur L s P' d' bv' bag' fresh' ws' q5 M0 ∧ mt (mcOf L) L.length ws' bag' fresh' + 1 ≤ mt (mcOf L) L.length ws bag fresh := by
  have hkl : k < ws.length := by rw [h.i.len]; exact h.hk
  have hlg := h.lg
  have hml := mcOf_le L t
  have hfr := h.i.lim
  rcases h.kind with ⟨_, rfl, k3, k4, rfl, rfl⟩ | ⟨_, rfl, k3, k4, k5, rfl, rfl⟩ | ⟨k0, _⟩ | ⟨_, rfl, k3, rfl, rfl⟩
  · obtain ⟨e1, e2, e3, e4⟩ := h.i.raise h.hk h.at_ k3 k4 false
    refine (dm_up (ch := (wkd ws k).child) h.m h.hk (by rw [upd_same]) (by rw [upd_same]) (by omega) (by omega) hbag).mono ?_
    rintro e w' ⟨rfl, bv', a1⟩
    rw [upd_upd, upd_same] at a1
    have ef : upd (FW q5 ws) k ⟨.int .i64 (t : Int), .int .i64 (((wkd ws k).child + 1 : Nat) : Int), .pointer none, .bool false⟩ = FW q5 (ws.set k ⟨some t, (wkd ws k).child + 1, false, false⟩) := by rw [← fw_set hkl]; rfl
    rw [ef] at a1
    exact ⟨rfl, e2, bv', _, _, _, ⟨a1, e3, by omega, no_b5 (e3.up_free (.inl (by omega)))⟩, by omega⟩
  · obtain ⟨e1, e2, e3, e4⟩ := h.i.lower h.hk h.at_ k3 k4 k5 (wkd ws k).child true
    refine (dm_low h.m h.hk (by rw [upd_same]) _ _).mono ?_
    rintro e w' ⟨rfl, a1⟩
    rw [upd_upd, upd_same] at a1
    have ef : upd (FW q5 ws) k ⟨.int .i64 (-1), .int .i64 ((wkd ws k).child : Int), .pointer none, .bool true⟩ = FW q5 (ws.set k ⟨none, (wkd ws k).child, true, false⟩) := by rw [← fw_set hkl]; rfl
    rw [ef] at a1
    exact ⟨rfl, e2, bv, _, _, _, ⟨a1, e3, by omega, no_b5 (e3.up_free (.inl (by omega)))⟩, e4⟩
  · omega
  · obtain ⟨e1, e2, e3, e4, e5⟩ := h.i.finish h.hk k3 (wkd ws k).child true
    refine (dm_low h.m h.hk (by rw [upd_same]) _ _).mono ?_
    rintro e w' ⟨rfl, a1⟩
    rw [upd_upd, upd_same] at a1
    have ef : upd (FW q5 ws) k ⟨.int .i64 (-1), .int .i64 ((wkd ws k).child : Int), .pointer none, .bool true⟩ = FW q5 (ws.set k ⟨none, (wkd ws k).child, true, false⟩) := by rw [← fw_set hkl]; rfl
    rw [ef] at a1
    exact ⟨rfl, e2, bv, _, _, _, ⟨a1, e4, by omega, no_b5 (e4.up_free (.inr rfl))⟩, e5⟩
theorem ai_stay (h : AI w0 w Y b gc lv G n B F Yb gm mcur L s P d P' d' bv bag fresh ws q5 M0 k t q ph st lo) (hph : ph ≠ 0) : d = 0 ∧ ∃ ws', RI w0 w Y b gc lv G n B F Yb gm mcur L s P' d' bv bag fresh ws' q M0 ∧ mt (mcOf L) L.length ws' bag fresh + 1 ≤ mt (mcOf L) L.length ws bag fresh := by
  have hkl : k < ws.length := by rw [h.i.len]; exact h.hk
  have hlg := h.lg
  rcases h.kind with ⟨k0, _⟩ | ⟨k0, _⟩ | ⟨rfl, rfl, k3, k4, rfl, rfl, rfl, rfl⟩ | ⟨k0, _⟩
  · omega
  · omega
  · obtain ⟨e1, e2, e3⟩ := h.i.last h.hk h.at_ k3 k4
    have hnb := no_busy (h.i.up_free (.inl (Nat.le_refl _)))
    have ef : upd (FW q5 ws) k ⟨.int .i64 (t : Int), .int .i64 ((wkd ws k).child : Int), .pointer (some ⟨q, 0, none⟩), .bool true⟩ = FW q (ws.set k ⟨some t, (wkd ws k).child, true, true⟩) := by rw [fw_free (q' := q) hnb, ← fw_set hkl]; rfl
    have a1 := h.m
    rw [ef] at a1
    exact ⟨e1, _, ⟨a1, e2, by omega, fun j hj hb => ⟨h.op, h.q0⟩⟩, e3⟩
  · omega
end
end Go.Proofs.Ytabmmjhcfhplnaa
