/- QuietCounts, plain: what holds behind each pick. -/
import Derived.Test.YtabmmjhcfhplnaaQ8
namespace Go.Proofs.Ytabmmjhcfhplnaa
open Go.RowKit Go.Lib
set_option linter.unusedVariables false
abbrev Mk := Int × Int
def mAt (l : List Mk) (i : Nat) : Mk := l[i]?.getD (0, 0)
def bgt (l : List Bool) (i : Nat) : Bool := l[i]?.getD false
theorem bgt_set (l : List Bool) (i j : Nat) (x : Bool) (hi : i < l.length) : bgt (l.set i x) j = if j = i then x else bgt l j := by
  unfold bgt
  by_cases h : j = i
  · subst h; simp [hi]
  · simp only [List.getElem?_set]
    rw [if_neg (fun e => h e.symm), if_neg h]
/-- The operation that is made. -/
def mkOp (m : Mk) : QOp := ⟨0, mkCode m.1 m.2, mkPh m.1, 0⟩
structure Inv (ms : List Mk) (s : Ast) (qs : List QOp) (bg : List Bool) (want first : Int) (zero : Bool) : Prop where
  c0 : nth s.cells 0 = want
  c2 : nth s.cells 2 = first
  c1 : nth s.cells 1 = 0 ∨ zero = true
  clen : s.cells.length = 3
  ql : qs.length = ms.length
  bl : bg.length = ms.length
  new : ∀ k, k < ms.length → bgt bg k = false → qd qs k = mkOp (mAt ms k)
  old : ∀ k, k < ms.length → bgt bg k = true → (qd qs k).ph = 0 ∨ ((qd qs k).ph = 5 ∧ zero = true) ∨ (qd qs k).ph = 6
section
variable {ms : List Mk} {s s' : Ast} {qs : List QOp} {bg : List Bool} {want first : Int} {zero : Bool} {who : Int} {k : Nat}
theorem Inv.mkx (h : Inv ms s qs bg want first zero) (hk : k < ms.length) {o' : QOp} {want' first' : Int} {zero' : Bool} (hz : zero = true → zero' = true)
    (h0 : nth s'.cells 0 = want') (h2 : nth s'.cells 2 = first') (h1 : nth s'.cells 1 = 0 ∨ zero' = true) (hl : s'.cells.length = 3) (ho : o'.ph = 0 ∨ (o'.ph = 5 ∧ zero' = true) ∨ o'.ph = 6) {bg' : List Bool} (hb : bg' = bg.set k true) : Inv ms s' (qs.set k o') bg' want' first' zero' := by
  subst hb
  refine ⟨h0, h2, h1, hl, by rw [List.length_set]; exact h.ql, by rw [List.length_set]; exact h.bl, fun j hj hf => ?_, fun j hj hf => ?_⟩
  · rw [bgt_set bg k j true (by rw [h.bl]; exact hk)] at hf
    by_cases e : j = k
    · rw [if_pos e] at hf; cases hf
    · rw [if_neg e] at hf
      rw [qd_set qs k j o' (by rw [h.ql]; exact hk), if_neg e]
      exact h.new j hj hf
  · rw [bgt_set bg k j true (by rw [h.bl]; exact hk)] at hf
    rw [qd_set qs k j o' (by rw [h.ql]; exact hk)]
    by_cases e : j = k
    · rw [if_pos e]; exact ho
    · rw [if_neg e] at hf ⊢
      rcases h.old j hj hf with a | a | a
      · exact .inl a
      · exact .inr (.inl ⟨a.1, hz a.2⟩)
      · exact .inr (.inr a)
theorem bg_same (h : Inv ms s qs bg want first zero) (hk : k < ms.length) (hb : bgt bg k = true) : bg = bg.set k true := by
  apply List.ext_getElem (by simp)
  intro j h1 h2
  rw [List.getElem_set]
  split
  · rename_i e; subst e; simpa [bgt, h1] using hb
  · rfl
theorem stS_zero (o : QOp) (n : Nat) (h : o.ph = 0) : stS who n s o = s ∧ stO n s o = o := by unfold stS stO; rw [if_pos h, if_pos h]; exact ⟨rfl, rfl⟩
theorem stS_some (o : QOp) (n : Nat) (h : ¬ o.ph = 0) : (stS who n s o).cells = s.cells.set (o.cell n) (o.acc who n (nth s.cells (o.cell n))).left ∧ stO n s o = o.next (nth s.cells (o.cell n)) := by unfold stS stO; rw [if_neg h, if_neg h]; exact ⟨rfl, rfl⟩
/-- A pick of one that has begun. -/
theorem Inv.again (h : Inv ms s qs bg want first zero) (hk : k < ms.length) (hb : bgt bg k = true) : Inv ms (stS who 0 s (qd qs k)) (qs.set k (stO 0 s (qd qs k))) bg want first zero := by
  have hbg := bg_same h hk hb
  rcases h.old k hk hb with h0 | ⟨h5, hz⟩ | h6
  · obtain ⟨e1, e2⟩ := stS_zero (who := who) (s := s) (qd qs k) 0 h0
    rw [e1, e2]
    exact h.mkx hk id h.c0 h.c2 h.c1 h.clen (.inl h0) hbg
  · obtain ⟨e1, e2⟩ := stS_some (who := who) (s := s) (qd qs k) 0 (by omega)
    have hc : (qd qs k).cell 0 = 1 := by simp [QOp.cell, h5]
    have ha : ((qd qs k).acc who 0 (nth s.cells 1)).left = 1 := by simp [QOp.acc, h5]
    have hn : ((qd qs k).next (nth s.cells 1)).ph = 0 := by simp [QOp.next, h5]
    rw [hc] at e1 e2
    rw [ha] at e1
    rw [e2]
    refine h.mkx hk id ?_ ?_ (.inr hz) (by rw [e1, List.length_set]; exact h.clen) (.inl hn) hbg
    · rw [e1, nth_set _ _ _ _ (by rw [h.clen]; decide), if_neg (by decide)]; exact h.c0
    · rw [e1, nth_set _ _ _ _ (by rw [h.clen]; decide), if_neg (by decide)]; exact h.c2
  · obtain ⟨e1, e2⟩ := stS_some (who := who) (s := s) (qd qs k) 0 (by omega)
    have hc : (qd qs k).cell 0 = 1 := by simp [QOp.cell, h6]
    have ha : ((qd qs k).acc who 0 (nth s.cells 1)).left = nth s.cells 1 := by simp [QOp.acc, h6]
    have hn : ((qd qs k).next (nth s.cells 1)).ph = 0 := by simp [QOp.next, h6]
    rw [hc] at e1 e2
    rw [ha] at e1
    rw [e2]
    refine h.mkx hk id ?_ ?_ ?_ (by rw [e1, List.length_set]; exact h.clen) (.inl hn) hbg
    · rw [e1, nth_set _ _ _ _ (by rw [h.clen]; decide), if_neg (by decide)]; exact h.c0
    · rw [e1, nth_set _ _ _ _ (by rw [h.clen]; decide), if_neg (by decide)]; exact h.c2
    · rw [e1, nth_set _ _ _ _ (by rw [h.clen]; decide), if_pos rfl]; exact h.c1
/-- A first pick. -/
theorem Inv.begin1 (h : Inv ms s qs bg want first zero) (hk : k < ms.length) (hb : bgt bg k = false) (hm : (mAt ms k).1 = 1) : Inv ms (stS who 0 s (qd qs k)) (qs.set k (stO 0 s (qd qs k))) (bg.set k true) (IntKind.u64.wrap (want + 1)) first zero := by
  have ho := h.new k hk hb
  have hp : (qd qs k).ph = 1 := by rw [ho]; simp [mkOp, mkPh, hm]
  obtain ⟨e1, e2⟩ := stS_some (who := who) (s := s) (qd qs k) 0 (by omega)
  have hc : (qd qs k).cell 0 = 0 := by simp [QOp.cell, hp]
  have ha : ((qd qs k).acc who 0 (nth s.cells 0)).left = IntKind.u64.wrap (nth s.cells 0 + 1) := by simp [QOp.acc, hp]
  have hn : ((qd qs k).next (nth s.cells 0)).ph = 0 := by simp [QOp.next, hp]
  rw [hc] at e1 e2
  rw [ha, h.c0] at e1
  rw [e2]
  refine h.mkx hk id ?_ ?_ ?_ (by rw [e1, List.length_set]; exact h.clen) (.inl hn) rfl
  · rw [e1, nth_set _ _ _ _ (by rw [h.clen]; decide), if_pos rfl]
  · rw [e1, nth_set _ _ _ _ (by rw [h.clen]; decide), if_neg (by decide)]; exact h.c2
  · rw [e1, nth_set _ _ _ _ (by rw [h.clen]; decide), if_neg (by decide)]; exact h.c1
theorem Inv.begin2 (h : Inv ms s qs bg want first zero) (hk : k < ms.length) (hb : bgt bg k = false) (hm : (mAt ms k).1 = 2) : Inv ms (stS who 0 s (qd qs k)) (qs.set k (stO 0 s (qd qs k))) (bg.set k true) (IntKind.u64.wrap (want + 18446744073709551615)) first (zero || want == 1) := by
  have ho := h.new k hk hb
  have hp : (qd qs k).ph = 2 := by rw [ho]; simp [mkOp, mkPh, hm]
  obtain ⟨e1, e2⟩ := stS_some (who := who) (s := s) (qd qs k) 0 (by omega)
  have hc : (qd qs k).cell 0 = 0 := by simp [QOp.cell, hp]
  have ha : ((qd qs k).acc who 0 (nth s.cells 0)).left = IntKind.u64.wrap (nth s.cells 0 + 18446744073709551615) := by simp [QOp.acc, hp]
  rw [hc] at e1 e2
  rw [ha, h.c0] at e1
  rw [e2, h.c0]
  refine h.mkx hk (fun e => by simp [e]) ?_ ?_ ?_ (by rw [e1, List.length_set]; exact h.clen) ?_ rfl
  · rw [e1, nth_set _ _ _ _ (by rw [h.clen]; decide), if_pos rfl]
  · rw [e1, nth_set _ _ _ _ (by rw [h.clen]; decide), if_neg (by decide)]; exact h.c2
  · rw [e1, nth_set _ _ _ _ (by rw [h.clen]; decide), if_neg (by decide)]
    rcases h.c1 with a | a
    · exact .inl a
    · exact .inr (by simp [a])
  · by_cases hw : want = 1
    · exact .inr (.inl ⟨by simp [QOp.next, hp, hw], by simp [hw]⟩)
    · exact .inl (by simp [QOp.next, hp, hw])
theorem Inv.begin3 (h : Inv ms s qs bg want first zero) (hk : k < ms.length) (hb : bgt bg k = false) (hm : (mAt ms k).1 = 3) : Inv ms (stS who 0 s (qd qs k)) (qs.set k (stO 0 s (qd qs k))) (bg.set k true) want first zero := by
  have ho := h.new k hk hb
  have hp : (qd qs k).ph = 3 := by rw [ho]; simp [mkOp, mkPh, hm]
  obtain ⟨e1, e2⟩ := stS_some (who := who) (s := s) (qd qs k) 0 (by omega)
  have hc : (qd qs k).cell 0 = 2 := by simp [QOp.cell, hp]
  have ha : ((qd qs k).acc who 0 (nth s.cells 2)).left = nth s.cells 2 := by simp [QOp.acc, hp]
  rw [hc] at e1 e2
  rw [ha] at e1
  rw [e2]
  refine h.mkx hk id ?_ ?_ ?_ (by rw [e1, List.length_set]; exact h.clen) ?_ rfl
  · rw [e1, nth_set _ _ _ _ (by rw [h.clen]; decide), if_neg (by decide)]; exact h.c0
  · rw [e1, nth_set _ _ _ _ (by rw [h.clen]; decide), if_pos rfl]; exact h.c2
  · rw [e1, nth_set _ _ _ _ (by rw [h.clen]; decide), if_neg (by decide)]; exact h.c1
  · by_cases hw : nth s.cells 2 = 0
    · exact .inr (.inr (by simp [QOp.next, hp, hw]))
    · exact .inl (by simp [QOp.next, hp, hw])
theorem Inv.begin4 (h : Inv ms s qs bg want first zero) (hk : k < ms.length) (hb : bgt bg k = false) (h1 : ¬ (mAt ms k).1 = 1) (h2 : ¬ (mAt ms k).1 = 2) (h3 : ¬ (mAt ms k).1 = 3) : Inv ms (stS who 0 s (qd qs k)) (qs.set k (stO 0 s (qd qs k))) (bg.set k true) want (if first = 0 then (mAt ms k).2 else first) zero := by
  have ho := h.new k hk hb
  have hp : (qd qs k).ph = 4 := by rw [ho]; simp [mkOp, mkPh, h1, h2, h3]
  have hcd : (qd qs k).code = (mAt ms k).2 := by rw [ho]; simp [mkOp, mkCode, h1, h2, h3]
  obtain ⟨e1, e2⟩ := stS_some (who := who) (s := s) (qd qs k) 0 (by omega)
  have hc : (qd qs k).cell 0 = 2 := by simp [QOp.cell, hp]
  have ha : ((qd qs k).acc who 0 (nth s.cells 2)).left = if nth s.cells 2 = 0 then (mAt ms k).2 else nth s.cells 2 := by simp [QOp.acc, hp, hcd]
  have hn : ((qd qs k).next (nth s.cells 2)).ph = 0 := by simp [QOp.next, hp]
  rw [hc] at e1 e2
  rw [ha, h.c2] at e1
  rw [e2]
  refine h.mkx hk id ?_ ?_ ?_ (by rw [e1, List.length_set]; exact h.clen) (.inl hn) rfl
  · rw [e1, nth_set _ _ _ _ (by rw [h.clen]; decide), if_neg (by decide)]; exact h.c0
  · rw [e1, nth_set _ _ _ _ (by rw [h.clen]; decide), if_pos rfl]
  · rw [e1, nth_set _ _ _ _ (by rw [h.clen]; decide), if_neg (by decide)]; exact h.c1
end
end Go.Proofs.Ytabmmjhcfhplnaa
