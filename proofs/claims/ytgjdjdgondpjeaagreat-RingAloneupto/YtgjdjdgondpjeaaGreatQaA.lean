/- A row of tasks that grows behind and is cut in front. -/
import Derived.Test.YtgjdjdgondpjeaaGreatFiB
import Derived.ArgAppend
namespace Go.Proofs.YtgjdjdgondpjeaaGreat
open Go.RowKit Go.Lib
set_option linter.unusedVariables false
set_option linter.unusedSimpArgs false
theorem heap_setCells {g : Nat} {t : TypeId} {fr : Nat × Nat} : ∀ (vs : List Value) (o : Nat) (w : World) (cs : Array Value), w.heap[g]? = some (.cells cs t fr) → o + vs.length ≤ cs.size → ∃ cs', (w.setCells g o vs).heap[g]? = some (.cells cs' t fr) ∧ cs'.toList = cs.toList.take o ++ vs ++ cs.toList.drop (o + vs.length)
  | [], o, w, cs, h, _ => ⟨cs, h, by simp⟩
  | v :: r, o, w, cs, h, hl => by
    simp only [List.length_cons] at hl
    obtain ⟨cs', h1, h2⟩ := heap_setCells r (o + 1) (w.setCell ⟨g, o, none⟩ v) _ (heap_set (i := o) h v) (by simp; omega)
    refine ⟨cs', h1, ?_⟩
    have e1 : (cs.toList.set o v).take (o + 1) = cs.toList.take o ++ [v] := by
      rw [List.take_set, List.take_add_one, List.getElem?_eq_getElem (by simp; omega), List.set_append_right _ _ (by simp; omega)]
      simp [List.length_take, Nat.min_eq_left (by omega : o ≤ cs.size)]
    rw [h2, Array.toList_setIfInBounds, e1, List.drop_set_of_lt (by omega), List.length_cons, show o + 1 + r.length = o + (r.length + 1) by omega]
    simp
theorem chg_setCells {S : Nat → Prop} {R : Nat} (hR : S R) : ∀ (vs : List Value) (o : Nat) (a w : World), Chg S a w → Chg S a (w.setCells R o vs)
  | [], _, _, _, h => h
  | v :: r, o, a, w, h => chg_setCells hR r (o + 1) a _ (h.setCell (p := ⟨R, o, none⟩) hR v)
def TQ (lo : Nat) (W : World) (v : Value) (l : List Tk) : Prop :=
  (v = .slice none 0 0 ∧ l = []) ∨ ∃ g o cap cur, v = .slice (some ⟨g, o, none⟩) l.length cap ∧ lo ≤ g ∧ W.heap[g]? = some (.cells cur 42 (0, 0)) ∧ l.length ≤ cap ∧ cap ≤ 9223372036854775807 ∧ o + cap * 2 ≤ cur.size ∧ ∀ k u, (rCells tkA l)[k]? = some u → cur[o + k]? = some u
/-- The block that a row lies in. -/
def tqb (v : Value) (q : Nat) : Prop := ∃ o n c, v = .slice (some ⟨q, o, none⟩) n c
theorem TQ.kp {lo : Nat} {W W' : World} {v : Value} {l : List Tk} (h : TQ lo W v l) (hb : Kp W W') : TQ lo W' v l :=
  h.imp id fun ⟨g, o, cap, cur, h1, h2, h3, r⟩ => ⟨g, o, cap, cur, h1, h2, hb.2 _ _ _ h3 (by unfold pT; decide), r⟩
theorem TQ.low {lo lo' : Nat} {W : World} {v : Value} {l : List Tk} (h : TQ lo W v l) (hl : lo' ≤ lo) : TQ lo' W v l :=
  h.imp id fun ⟨g, o, cap, cur, h1, h2, h3, r⟩ => ⟨g, o, cap, cur, h1, Nat.le_trans hl h2, h3, r⟩
theorem TQ.shape {lo : Nat} {W : World} {v : Value} {l : List Tk} (h : TQ lo W v l) : ∃ ao cap, v = .slice ao l.length cap ∧ l.length ≤ cap := by
  rcases h with ⟨rfl, rfl⟩ | ⟨g, o, cap, cur, rfl, _, _, h1, _⟩
  · exact ⟨none, 0, rfl, Nat.le_refl _⟩
  · exact ⟨_, _, rfl, h1⟩
theorem TQ.blk {lo : Nat} {W : World} {v : Value} {l : List Tk} (h : TQ lo W v l) {q : Nat} (hq : tqb v q) : lo ≤ q ∧ ∃ cs, W.heap[q]? = some (.cells cs 42 (0, 0)) := by
  obtain ⟨o', n', c', e⟩ := hq
  rcases h with ⟨rfl, rfl⟩ | ⟨g, o, cap, cur, rfl, h1, h2, _⟩
  · cases e
  · cases e; exact ⟨h1, _, h2⟩
theorem tk_cells_at {l : List Tk} {i : Nat} (hi : i < l.length) : (rCells tkA l)[i * 2]? = some (.int .u64 (tAt l i).1) ∧ (rCells tkA l)[i * 2 + 1]? = some (.int .u64 (tAt l i).2) := tCells_at l i hi
theorem TQ.tat {lo : Nat} {W : World} {v : Value} {l : List Tk} (h : TQ lo W v l) : TAt W v l := by
  rcases h with ⟨rfl, rfl⟩ | ⟨g, o, cap, cur, rfl, h1, h2, h3, h4, h5, h6⟩
  · exact ⟨none, 0, rfl, Nat.le_refl _, by omega, fun i hi => by simp at hi⟩
  · refine ⟨_, cap, rfl, h3, h4, fun i hi => ⟨g, o, rfl, ?_, ?_⟩⟩
    · exact cell_of h2 (h6 _ _ (tk_cells_at hi).1)
    · rw [Nat.add_assoc]; exact cell_of h2 (h6 _ _ (tk_cells_at hi).2)
/-- The first one, and the list without it. -/
theorem TQ.cons {lo : Nat} {W : World} {v : Value} {t : Tk} {l : List Tk} (h : TQ lo W v (t :: l)) : ∃ g o cap, v = .slice (some ⟨g, o, none⟩) (l.length + 1) cap ∧ l.length + 1 ≤ cap ∧ cap ≤ 9223372036854775807 ∧ W.cell? ⟨g, o, none⟩ = some (.int .u64 t.1) ∧ W.cell? ⟨g, o + 1, none⟩ = some (.int .u64 t.2) ∧
    TQ lo W (.slice (if cap = 1 then some ⟨g, o, none⟩ else some ⟨g, o + 2, none⟩) l.length (cap - 1)) l ∧ ∀ q, tqb (.slice (if cap = 1 then some ⟨g, o, none⟩ else some ⟨g, o + 2, none⟩) l.length (cap - 1)) q → q = g := by
  rcases h with ⟨_, h2⟩ | ⟨g, o, cap, cur, rfl, h1, h2, h3, h4, h5, h6⟩
  · cases h2
  refine ⟨g, o, cap, rfl, by simpa using h3, h4, cell_of h2 (h6 0 _ rfl), cell_of h2 (h6 1 _ rfl), .inr ?_, fun q ⟨o', n', c', e⟩ => ?_⟩
  · simp only [List.length_cons] at h3
    by_cases hc : cap = 1
    · obtain rfl : l = [] := List.eq_nil_of_length_eq_zero (by omega)
      exact ⟨g, o, cap - 1, cur, by simp [hc], h1, h2, by simp, by omega, by omega, fun k u hk => by simp [rCells] at hk⟩
    · refine ⟨g, o + 2, cap - 1, cur, by simp [hc], h1, h2, by omega, by omega, by omega, fun k u hk => ?_⟩
      have := h6 (2 + k) u (by rw [rCells_cons, List.getElem?_append_right (by simp [tkA])]; simpa [tkA] using hk)
      rw [← Nat.add_assoc] at this
      exact this
  · by_cases hc : cap = 1
    · rw [if_pos hc] at e; cases e; rfl
    · rw [if_neg hc] at e; cases e; rfl
theorem TQ.of_own {lo : Nat} {W : World} {v : Value} {l : List Tk} (h : ROwn tkA 2 42 W lo v l) : TQ lo W v l := by
  rcases h.cut with ⟨rfl, rfl⟩ | ⟨g, cap, cur, rfl, h1, h2, h3, h4, h5, h6⟩
  · exact .inl ⟨rfl, rfl⟩
  · refine .inr ⟨g, 0, cap, cur, rfl, h1, h2, h3, h4, by omega, fun k u hk => ?_⟩
    have hlt : k < l.length * 2 := by have := (List.getElem?_eq_some_iff.1 hk).1; rwa [rCells_length tkA_size] at this
    rw [← h6, List.getElem?_take_of_lt hlt] at hk
    simpa using hk
theorem TQ.room {lo : Nat} {W : World} {g o n cap : Nat} {l : List Tk} {t : Tk} (h : TQ lo W (.slice (some ⟨g, o, none⟩) n cap) l) (hn : l.length = n) (hr : n + 1 ≤ cap) : TQ lo (W.setCells g (o + n * 2) (tkA t).toList) (.slice (some ⟨g, o, none⟩) (n + 1) cap) (l ++ [t]) ∧ Chg (fun k => k = g) W (W.setCells g (o + n * 2) (tkA t).toList) := by
  rcases h with ⟨he, _⟩ | ⟨g', o', cap', cur, he, h1, h2, h3, h4, h5, h6⟩
  · cases he
  simp only [Value.slice.injEq, Option.some.injEq, Addr.mk.injEq, and_true] at he
  obtain ⟨⟨rfl, rfl⟩, he2, rfl⟩ := he
  clear he2
  obtain ⟨cs, f1, f2⟩ := heap_setCells (tkA t).toList (o + n * 2) W cur h2 (by simp [tkA]; omega)
  have hbs : Chg (fun k => k = g) W (W.setCells g (o + n * 2) (tkA t).toList) := chg_setCells (S := fun k => k = g) rfl _ _ _ _ (Chg.refl _ _)
  refine ⟨.inr ⟨g, o, cap, cs, by simp [hn], h1, f1, by simp; omega, h4, ?_, fun k u hk => ?_⟩, hbs⟩
  · rw [← Array.length_toList, f2]; simp [tkA]; omega
  · rw [rCells_snoc] at hk
    have hl2 : (rCells tkA l).length = n * 2 := by rw [rCells_length tkA_size, hn]
    have hkl : k < n * 2 + 2 := by have := (List.getElem?_eq_some_iff.1 hk).1; simp [hl2, tkA] at this; omega
    rw [← Array.getElem?_toList, f2]
    have htl : (cur.toList.take (o + n * 2)).length = o + n * 2 := by simp; omega
    by_cases hk2 : k < n * 2
    · rw [List.getElem?_append_left (by omega)] at hk
      have := h6 k u hk
      rw [List.append_assoc, List.getElem?_append_left (by omega), List.getElem?_take_of_lt (by omega)]
      simpa using this
    · rw [List.getElem?_append_right (by omega), hl2] at hk
      rw [List.append_assoc, List.getElem?_append_right (by omega), htl, List.getElem?_append_left (by simp [tkA]; omega), show o + k - (o + n * 2) = k - n * 2 by omega]
      exact hk
theorem oneT (t : Tk) : ∀ u ∈ (tkA t).toList, u.oneCell' = true := by
  intro u hu
  simp only [tkA, List.mem_cons, List.not_mem_nil, or_false] at hu
  rcases hu with rfl | rfl <;> rfl
/-- 'q = append(q, t)'. -/
theorem wpList_append_tq {lo : Nat} {W : World} {ops : Array Oper} {rest : List Oper} {o : Oper} {a : Act} {Q : Exit → Act → World → Prop} (hgd : o.guard = none) (s x : Operand)
    (hop : o.op = .call { callee := .builtin .append, args := #[s, x], argTypes := #[24, 24] }) (v : Value) (l : List Tk) (h : TQ lo W v l) (hlo : lo ≤ W.heap.size) (hs : a.eval s = v) (ad : Addr) (c : Nat) (t : Tk) (hx : a.eval x = .slice (some ad) 1 c)
    (hc : ∀ j u, (tkA t).toList[j]? = some u → W.cell? (ad.add j) = some u) (hl : l.length ≤ 1759218604440)
    (hK : ∀ v' W', TQ lo W' v' (l ++ [t]) → Chg (tqb v) W W' → (∀ q, tqb v' q → tqb v q ∨ W.heap.size ≤ q) → wpList Tryz.prog ops Q rest (a.put o.dst v') W') : wpList Tryz.prog ops Q (o :: rest) a W := by
  obtain ⟨i0, hi0, hz0, hz1, hz2⟩ := info_parts Tryz.info42
  have hgr : ∀ v' W', W'.ownsRow W.heap.size 42 2 v' (l.length + 1) (rCells tkA l ++ (tkA t).toList) → W.grownBy W' none → wpList Tryz.prog ops Q rest (a.put o.dst v') W' := fun v' W' ho hg => by
    have hb : Below W.heap.size W W' := (Below.refl _ _).grown hg (Nat.le_refl _) (by intro j hj; cases hj)
    have ho2 := ROwn.grown (w := W) (v := v) (A := tkA) (x := t) rfl ho
    refine hK v' W' (TQ.of_own (ho2.base hlo)) (Chg.of_below hb) (fun q hq => .inr ?_)
    have h3 := TQ.of_own ho2
    exact (h3.blk hq).1
  have hlen := rCells_length tkA_size l
  rcases h with ⟨rfl, rfl⟩ | ⟨g, p, cap, cur, rfl, h1, h2, h3, h4, h5, h6⟩
  · exact wpList_append_grows W hgd s x 24 hop 42 i0 _ 2 16 Tryz.underlying24 hi0 hz0 hz1 hz2 rfl (by decide) none 0 0 [] hs (fun _ => ⟨rfl, rfl⟩) rfl (fun b hb => by cases hb) ad 1 c (tkA t).toList hx rfl hc (oneT t) (by decide) (by unfold maxLen; omega) (by omega) hgr
  · refine wpList_append_arg W hgd s x 24 hop 42 i0 _ 2 16 Tryz.underlying24 hi0 hz0 hz1 hz2 rfl (by decide) g p l.length cap (rCells tkA l) hs hlen (fun j u hj => cell_of h2 (h6 j u hj)) ad 1 c (tkA t).toList hx rfl hc (oneT t) (fun hr j hj => ?_) (by unfold maxLen; omega) (by omega) (fun hr => ?_) (fun _ => hgr)
    · have hj2 : j < 2 := by simpa [tkA] using hj
      have hks : p + l.length * 2 + j < cur.size := by omega
      have : cur[p + l.length * 2 + j]? = some cur[p + l.length * 2 + j] := by simp [hks]
      exact ⟨by rw [cell_of h2 this]; rfl, free_of h2 _⟩
    · obtain ⟨r1, r2⟩ := TQ.room (lo := lo) (t := t) (.inr ⟨g, p, cap, cur, rfl, h1, h2, h3, h4, h5, h6⟩) rfl hr
      exact hK _ _ r1 (r2.mono fun i e => ⟨p, l.length, cap, by rw [e]⟩) (fun q ⟨o', n', c', e⟩ => .inl ⟨p, l.length, cap, by cases e; rfl⟩)
end Go.Proofs.YtgjdjdgondpjeaaGreat
