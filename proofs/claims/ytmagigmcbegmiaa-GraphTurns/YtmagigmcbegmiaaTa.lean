/- Edges, Turn, Sort, Merge: one answer of the program and of the document. -/
import Derived.Test.YtmagigmcbegmiaaKb
import Derived.Test.YtmagigmcbegmiaaOd
namespace Go.Proofs.Ytmagigmcbegmiaa
open Go.RowKit Go.Lib
set_option linter.unusedVariables false
set_option linter.unusedSimpArgs false
/-- A graph that is laid of edges, or what is wrong. -/
def GrA (N : Int) (st tl wt : List Int) (M : Nat → Nat) (F T : Nat → Nat → Nat) (W : Nat → Nat → Int) (N' : Int) (a b c : List Int) (r : Int) : Prop :=
  ((chk N st tl wt).1 ≠ 0 ∧ r = (chk N st tl wt).1 ∧ N' = 0 ∧ a = [] ∧ b = [] ∧ c = []) ∨
  (∃ (n : Nat) (nx : List Int), N = n ∧ Good n st tl wt ∧ r = 0 ∧ N' = n ∧ Summed n (M n) (F n) n a ∧ Laying n (M n) (F n) (T n) (W n) (M n) nx b c)
theorem GrA.one {N : Int} {st tl wt : List Int} {M : Nat → Nat} {F T : Nat → Nat → Nat} {W : Nat → Nat → Int} {N1 N2 r1 r2 : Int} {a b c a' b' c' : List Int} (h : GrA N st tl wt M F T W N1 a b c r1) (k : GrA N st tl wt M F T W N2 a' b' c' r2) : N1 = N2 ∧ a = a' ∧ b = b' ∧ c = c' ∧ r1 = r2 := by
  rcases h with ⟨h1, rfl, rfl, rfl, rfl, rfl⟩ | ⟨n, nx, rfl, h1, rfl, rfl, h3, h4⟩ <;> rcases k with ⟨k1, rfl, rfl, rfl, rfl, rfl⟩ | ⟨m, mx, km, k1, rfl, rfl, k3, k4⟩
  · exact ⟨rfl, rfl, rfl, rfl, rfl⟩
  · subst km; exact (h1 (good_chk' k1)).elim
  · exact (k1 (good_chk' h1)).elim
  · obtain rfl : n = m := by omega
    obtain ⟨q1, q2⟩ := layingA_one h4 k4
    exact ⟨rfl, summedA_one h3 k3, q1, q2, rfl⟩
/-- Turn's answer. -/
def TuA (N : Int) (st tl wt : List Int) : Int → List Int → List Int → List Int → Int → Prop := GrA N st tl wt (fun _ => tl.length) (fun _ => tov tl) (fun n => src st n) (fun _ e => at_ wt e)
/-- The edges in order. -/
def srL (st tl wt : List Int) (n : Nat) : List Ed3 := e3s (gEdges n st tl wt tl.length)
/-- Sort's answer. -/
def SrA (N : Int) (st tl wt : List Int) : Int → List Int → List Int → List Int → Int → Prop := GrA N st tl wt (fun n => (srL st tl wt n).length) (fun n => eFrom (srL st tl wt n)) (fun n => eTo (srL st tl wt n)) (fun n => eWt (srL st tl wt n))
/-- Merge's answer. -/
def MeA (N : Int) (st tl wt : List Int) : Int → List Int → List Int → List Int → Int → Prop := GrA N st tl wt (fun n => (cpt (srL st tl wt n)).length) (fun n => eFrom (cpt (srL st tl wt n))) (fun n => eTo (cpt (srL st tl wt n))) (fun n => eWt (cpt (srL st tl wt n)))
theorem turn_ans (N : Int) (va vb vc : Value) (st tl wt : List Int) (w : World) (hg : GIs w N va vb vc st tl wt) (hst : st.length ≤ 17592186044416) (hto : tl.length ≤ 17592186044416) (hwt : wt.length ≤ 17592186044416) (hw : ∀ e, 0 ≤ at_ wt e) :
    Calls Try.prog 33 #[gAgg N va vb vc] w (GAns w (TuA N st tl wt)) := by
  by_cases hc : (chk N st tl wt).1 = 0
  · obtain ⟨n, rfl, hgd⟩ := chk_good hc
    exact (turnX_good n va vb vc st tl wt w hg hgd hw).mono fun e w' h => h.ans hgd.n_le hgd.m_le fun st' tl' wt' nx hs hy => .inr ⟨n, nx, rfl, hgd, rfl, rfl, hs, hy⟩
  · exact (turn_bad N va vb vc st tl wt w hg hst hto hwt hc).mono fun e w' h => h.ans (.inl ⟨hc, rfl, rfl, rfl, rfl, rfl⟩)
theorem sw_is {n : Nat} {st tl wt : List Int} {i : Nat} (hi : i < tl.length) : eAt (swL (gEdges n st tl wt tl.length) tl.length) i = (at_ tl i, (src st n i : Int), at_ wt i) := by
  rw [swL_at (by rw [gEdges_length]; exact hi), if_pos hi, gEdges_at hi]; rfl
theorem turnR_ans (N : Int) (va vb vc : Value) (st tl wt : List Int) (w : World) (hg : GIs w N va vb vc st tl wt) (hst : st.length ≤ 17592186044416) (hto : tl.length ≤ 17592186044416) (hwt : wt.length ≤ 17592186044416) (hw : ∀ e, 0 ≤ at_ wt e) :
    Calls Try.prog 79 #[gAgg N va vb vc] w (GAnR w (TuA N st tl wt)) := by
  by_cases hc : (chk N st tl wt).1 = 0
  · obtain ⟨n, rfl, hgd⟩ := chk_good hc
    refine (turnR_any n va vb vc st tl wt w hg hgd hw).mono fun e w' h => ?_
    obtain ⟨va', vb', vc', st', tl', wt', nx, L, rfl, hgi, rfl, hs, hy, hb⟩ := h
    have e1 : ∀ i, i < tl.length → eFrom (swL (gEdges n st tl wt tl.length) tl.length) i = tov tl i := fun i hi => by unfold eFrom tov; rw [sw_is hi]
    have e2 : ∀ i, i < tl.length → eTo (swL (gEdges n st tl wt tl.length) tl.length) i = src st n i := fun i hi => by unfold eTo; rw [sw_is hi]; simp
    have e3 : ∀ i, i < tl.length → eWt (swL (gEdges n st tl wt tl.length) tl.length) i = at_ wt i := fun i hi => by unfold eWt; rw [sw_is hi]
    exact ⟨n, _, _, _, st', tl', wt', 0, rfl, .inr ⟨n, nx, rfl, hgd, rfl, rfl, hs.congr e1, hy.congr e1 e2 e3⟩, hgi, hb⟩
  · exact (turnR_bad N va vb vc st tl wt w hg hst hto hwt hc).mono fun e w' h => h.anR (.inl ⟨hc, rfl, rfl, rfl, rfl, rfl⟩)
theorem srL_len {n : Nat} {st tl wt : List Int} : (srL st tl wt n).length = tl.length := by unfold srL; rw [e3s_length, gEdges_length]
theorem sort_ans (N : Int) (va vb vc : Value) (st tl wt : List Int) (w : World) (hg : GIs w N va vb vc st tl wt) (hst : st.length ≤ 17592186044416) (hto : tl.length ≤ 17592186044416) (hwt : wt.length ≤ 17592186044416) (hw : ∀ e, 0 ≤ at_ wt e) :
    Calls Try.prog 35 #[gAgg N va vb vc] w (GAns w (SrA N st tl wt)) := by
  by_cases hc : (chk N st tl wt).1 = 0
  · obtain ⟨n, rfl, hgd⟩ := chk_good hc
    refine (sortX_good n va vb vc st tl wt w hg hgd (fun e _ => hw e)).mono fun e w' h => ?_
    rw [sort_same hgd] at h
    exact h.ans hgd.n_le (by rw [show e3s (gEdges n st tl wt tl.length) = srL st tl wt n from rfl, srL_len]; exact hgd.m_le) fun st' tl' wt' nx hs hy => .inr ⟨n, nx, rfl, hgd, rfl, rfl, hs, hy⟩
  · exact (sort_bad N va vb vc st tl wt w hg hst hto hwt hc).mono fun e w' h => h.ans (.inl ⟨hc, rfl, rfl, rfl, rfl, rfl⟩)
theorem sortR_ans (N : Int) (va vb vc : Value) (st tl wt : List Int) (w : World) (hg : GIs w N va vb vc st tl wt) (hst : st.length ≤ 17592186044416) (hto : tl.length ≤ 17592186044416) (hwt : wt.length ≤ 17592186044416) (hw : ∀ e, 0 ≤ at_ wt e) :
    Calls Try.prog 80 #[gAgg N va vb vc] w (GAnR w (SrA N st tl wt)) := by
  by_cases hc : (chk N st tl wt).1 = 0
  · obtain ⟨n, rfl, hgd⟩ := chk_good hc
    refine (sortR_good n va vb vc st tl wt w hg hgd hw).mono fun e w' h => ?_
    obtain ⟨va', vb', vc', st', tl', wt', nx, rfl, hgi, hs, hy, hb⟩ := h
    exact ⟨n, _, _, _, st', tl', wt', 0, rfl, .inr ⟨n, nx, rfl, hgd, rfl, rfl, hs, hy⟩, hgi, hb⟩
  · exact (sortR_bad N va vb vc st tl wt w hg hst hto hwt hc).mono fun e w' h => h.anR (.inl ⟨hc, rfl, rfl, rfl, rfl, rfl⟩)
theorem cpt_le (l : List Ed3) : (cpt l).length ≤ l.length := cpt_len_le l
theorem merge_ans (N : Int) (va vb vc : Value) (st tl wt : List Int) (w : World) (hg : GIs w N va vb vc st tl wt) (hst : st.length ≤ 17592186044416) (hto : tl.length ≤ 17592186044416) (hwt : wt.length ≤ 17592186044416) (hw : ∀ e, 0 ≤ at_ wt e) :
    Calls Try.prog 36 #[gAgg N va vb vc] w (GAns w (MeA N st tl wt)) := by
  by_cases hc : (chk N st tl wt).1 = 0
  · obtain ⟨n, rfl, hgd⟩ := chk_good hc
    refine (mergeX_good n va vb vc st tl wt w hg hgd (fun e _ => hw e)).mono fun e w' h => ?_
    rw [sort_same hgd] at h
    exact h.ans hgd.n_le (by have h1 := cpt_le (srL st tl wt n); rw [srL_len] at h1; have := hgd.m_le; exact Nat.le_trans h1 this) fun st' tl' wt' nx hs hy => .inr ⟨n, nx, rfl, hgd, rfl, rfl, hs, hy⟩
  · exact (merge_bad N va vb vc st tl wt w hg hst hto hwt hc).mono fun e w' h => h.ans (.inl ⟨hc, rfl, rfl, rfl, rfl, rfl⟩)
theorem mergeR_ans (N : Int) (va vb vc : Value) (st tl wt : List Int) (w : World) (hg : GIs w N va vb vc st tl wt) (hst : st.length ≤ 17592186044416) (hto : tl.length ≤ 17592186044416) (hwt : wt.length ≤ 17592186044416) (hw : ∀ e, 0 ≤ at_ wt e) :
    Calls Try.prog 81 #[gAgg N va vb vc] w (GAnR w (MeA N st tl wt)) := by
  by_cases hc : (chk N st tl wt).1 = 0
  · obtain ⟨n, rfl, hgd⟩ := chk_good hc
    refine (mergeR_good n va vb vc st tl wt w hg hgd hw).mono fun e w' h => ?_
    obtain ⟨va', vb', vc', st', tl', wt', nx, rfl, hgi, hs, hy, hb⟩ := h
    exact ⟨n, _, _, _, st', tl', wt', 0, rfl, .inr ⟨n, nx, rfl, hgd, rfl, rfl, hs, hy⟩, hgi, hb⟩
  · exact (mergeR_bad N va vb vc st tl wt w hg hst hto hwt hc).mono fun e w' h => h.anR (.inl ⟨hc, rfl, rfl, rfl, rfl, rfl⟩)
/-- Edges' answer. -/
def EdA (N : Int) (st tl wt : List Int) (N' : Int) (l : List Ed3) (r : Int) : Prop :=
  ((chk N st tl wt).1 ≠ 0 ∧ r = (chk N st tl wt).1 ∧ N' = 0 ∧ l = []) ∨ (∃ n : Nat, N = n ∧ Good n st tl wt ∧ r = 0 ∧ N' = n ∧ l = gEdges n st tl wt tl.length)
theorem EdA.one {N : Int} {st tl wt : List Int} {N1 N2 r1 r2 : Int} {l l' : List Ed3} (h : EdA N st tl wt N1 l r1) (k : EdA N st tl wt N2 l' r2) : N1 = N2 ∧ l = l' ∧ r1 = r2 := by
  rcases h with ⟨h1, rfl, rfl, rfl⟩ | ⟨n, rfl, h1, rfl, rfl, rfl⟩ <;> rcases k with ⟨k1, rfl, rfl, rfl⟩ | ⟨m, km, k1, rfl, rfl, rfl⟩
  · exact ⟨rfl, rfl, rfl⟩
  · subst km; exact (h1 (good_chk' k1)).elim
  · exact (k1 (good_chk' h1)).elim
  · obtain rfl : n = m := by omega
    exact ⟨rfl, rfl, rfl⟩
/-- Edges in a new block, and a number. -/
def EAns (w : World) (A : Int → List Ed3 → Int → Prop) (e : Ending) (w' : World) : Prop :=
  ∃ N v l r, e = .returned (.tuple #[.agg #[.int .i64 N, v], .int .i64 r]) ∧ A N l r ∧ w'.ownsRow w.heap.size 50 3 v l.length (eCells l) ∧ l.length ≤ 1099511627776 ∧ Below w.heap.size w w'
/-- Edges, and a number. -/
def EAnR (w : World) (A : Int → List Ed3 → Int → Prop) (e : Ending) (w' : World) : Prop :=
  ∃ N v l r, e = .returned (.tuple #[.agg #[.int .i64 N, v], .int .i64 r]) ∧ A N l r ∧ EAt w' v l ∧ Below w.heap.size w w'
theorem own_earr {w : World} {H R : Nat} {l : List Ed3} (h : EArr w R l) (hR : H ≤ R) (hl : l.length ≤ 1099511627776) : w.ownsRow H 50 3 (.slice (some ⟨R, 0, none⟩) l.length l.length) l.length (eCells l) :=
  ⟨by rw [eCells_length], .inr ⟨R, l.length, _, rfl, hR, h, Nat.le_refl _, by unfold maxLen; omega, by simp [eCells_length], by simp [← eCells_length]⟩⟩
theorem eat_nil (w : World) : EAt w (.slice none 0 0) [] := ⟨none, 0, rfl, by simp, by simp, fun i hi => by simp at hi⟩
theorem edges_ans (N : Int) (va vb vc : Value) (st tl wt : List Int) (w : World) (hg : GIs w N va vb vc st tl wt) (hst : st.length ≤ 17592186044416) (hto : tl.length ≤ 17592186044416) (hwt : wt.length ≤ 17592186044416) :
    Calls Try.prog 29 #[gAgg N va vb vc] w (EAns w (EdA N st tl wt)) := by
  by_cases hc : (chk N st tl wt).1 = 0
  · obtain ⟨n, rfl, hgd⟩ := chk_good hc
    refine (edgesX_good n va vb vc st tl wt w hg hgd).mono fun e w' h => ?_
    obtain ⟨R, rfl, hE, hb, hR⟩ := h
    have hl : (gEdges n st tl wt tl.length).length = tl.length := gEdges_length _ _ _ _ _
    have := hgd.m_le
    have ho := own_earr (l := gEdges n st tl wt tl.length) (w := w') (H := w.heap.size) (R := R) hE hR (by rw [hl]; omega)
    refine ⟨n, _, gEdges n st tl wt tl.length, 0, rfl, .inr ⟨n, rfl, hgd, rfl, rfl, rfl⟩, ?_, by rw [hl]; omega, hb⟩
    rw [hl] at ho ⊢
    exact ho
  · refine (edges_bad N va vb vc st tl wt w hg hst hto hwt hc).mono fun e w' h => ⟨0, _, [], _, h.1, .inl ⟨hc, rfl, rfl, rfl⟩, ?_, by simp, h.2⟩
    exact World.ownsRow_nil _ _ _ _
theorem edgesR_ans (N : Int) (va vb vc : Value) (st tl wt : List Int) (w : World) (hg : GIs w N va vb vc st tl wt) (hst : st.length ≤ 17592186044416) (hto : tl.length ≤ 17592186044416) (hwt : wt.length ≤ 17592186044416) :
    Calls Try.prog 78 #[gAgg N va vb vc] w (EAnR w (EdA N st tl wt)) := by
  by_cases hc : (chk N st tl wt).1 = 0
  · obtain ⟨n, rfl, hgd⟩ := chk_good hc
    refine (edgesR_good n va vb vc st tl wt w hg hgd).mono fun e w' h => ?_
    obtain ⟨cv, rfl, hE, hb⟩ := h
    exact ⟨n, cv, _, 0, rfl, .inr ⟨n, rfl, hgd, rfl, rfl, rfl⟩, hE, hb⟩
  · exact (edgesR_bad N va vb vc st tl wt w hg hst hto hwt hc).mono fun e w' h => ⟨0, _, [], _, h.1, .inl ⟨hc, rfl, rfl, rfl⟩, eat_nil _, h.2⟩
end Go.Proofs.Ytmagigmcbegmiaa
