/- A queue of tasks: a list that grows behind and is cut in front. -/
import Derived.Test.YtfoeljcgbfpknaaH20
namespace Go.Proofs.Ytfoeljcgbfpknaa
open Go.RowKit Go.Lib
set_option linter.unusedVariables false
set_option linter.unusedSimpArgs false
structure QO (w W : World) (v : Value) (l : List Tk) : Prop where
  bel : Below w.heap.size w W
  own : (v = .slice none 0 0 ∧ l = []) ∨ ∃ g o cap cur, v = .slice (some ⟨g, o, none⟩) l.length cap ∧ w.heap.size ≤ g ∧ W.heap[g]? = some (.cells cur 67 (0, 0)) ∧ l.length ≤ cap ∧ cap ≤ 9223372036854775807 ∧ o + cap * 2 ≤ cur.size ∧ ∀ k u, (rCells Tk.arr l)[k]? = some u → cur[o + k]? = some u
theorem QO.on {w W W' : World} {v : Value} {l : List Tk} (h : QO w W v l) (hb : Below W.heap.size W W') : QO w W' v l :=
  ⟨below_on h.bel hb, h.own.imp id fun ⟨g, o, cap, cur, h1, h2, h3, r⟩ => ⟨g, o, cap, cur, h1, h2, (hb.block g (lt_of_heap h3)).trans h3, r⟩⟩
theorem QO.nil (w W : World) (h : Below w.heap.size w W) : QO w W (.slice none 0 0) [] := ⟨h, .inl ⟨rfl, rfl⟩⟩
theorem QO.shape {w W : World} {v : Value} {l : List Tk} (h : QO w W v l) : ∃ ao cap, v = .slice ao l.length cap ∧ l.length ≤ cap := by
  rcases h.own with ⟨rfl, rfl⟩ | ⟨g, o, cap, cur, rfl, _, _, h1, _⟩
  · exact ⟨none, 0, rfl, Nat.le_refl _⟩
  · exact ⟨_, _, rfl, h1⟩
/-- The first one, and the list without it. -/
theorem QO.cons {w W : World} {v : Value} {t : Tk} {l : List Tk} (h : QO w W v (t :: l)) : ∃ g o cap, v = .slice (some ⟨g, o, none⟩) (l.length + 1) cap ∧ l.length + 1 ≤ cap ∧ cap ≤ 9223372036854775807 ∧ W.cell? ⟨g, o, none⟩ = some (.int .u64 t.key) ∧ W.cell? ⟨g, o + 1, none⟩ = some (.int .u64 t.load) ∧
    QO w W (.slice (if cap = 1 then some ⟨g, o, none⟩ else some ⟨g, o + 2, none⟩) l.length (cap - 1)) l := by
  rcases h.own with ⟨_, h2⟩ | ⟨g, o, cap, cur, rfl, h1, h2, h3, h4, h5, h6⟩
  · cases h2
  refine ⟨g, o, cap, rfl, by simpa using h3, h4, cell_of h2 (h6 0 _ rfl), cell_of h2 (h6 1 _ rfl), h.bel, .inr ?_⟩
  simp only [List.length_cons] at h3
  by_cases hc : cap = 1
  · obtain rfl : l = [] := List.eq_nil_of_length_eq_zero (by omega)
    exact ⟨g, o, cap - 1, cur, by simp [hc], h1, h2, by simp, by omega, by omega, fun k u hk => by simp [rCells] at hk⟩
  · refine ⟨g, o + 2, cap - 1, cur, by simp [hc], h1, h2, by omega, by omega, by omega, fun k u hk => ?_⟩
    have := h6 (2 + k) u (by rw [rCells_cons, List.getElem?_append_right (by simp [Tk.arr])]; simpa [Tk.arr] using hk)
    rw [← Nat.add_assoc] at this
    exact this
theorem QO.of_own {w W : World} {v : Value} {l : List Tk} (hb : Below w.heap.size w W) (h : ROwn Tk.arr 2 67 W w.heap.size v l) : QO w W v l := by
  refine ⟨hb, ?_⟩
  rcases h.cut with ⟨rfl, rfl⟩ | ⟨g, cap, cur, rfl, h1, h2, h3, h4, h5, h6⟩
  · exact .inl ⟨rfl, rfl⟩
  · refine .inr ⟨g, 0, cap, cur, rfl, h1, h2, h3, h4, by omega, fun k u hk => ?_⟩
    have hlt : k < l.length * 2 := by have := (List.getElem?_eq_some_iff.1 hk).1; rwa [rCells_length Tk.size] at this
    rw [← h6, List.getElem?_take_of_lt hlt] at hk
    simpa using hk
theorem QO.room {w W : World} {g o n cap : Nat} {l : List Tk} {t : Tk} (h : QO w W (.slice (some ⟨g, o, none⟩) n cap) l) (hn : l.length = n) (hr : n + 1 ≤ cap) : QO w (W.setCells g (o + n * 2) t.arr.toList) (.slice (some ⟨g, o, none⟩) (n + 1) cap) (l ++ [t]) := by
  rcases h.own with ⟨he, _⟩ | ⟨g', o', cap', cur, he, h1, h2, h3, h4, h5, h6⟩
  · cases he
  simp only [Value.slice.injEq, Option.some.injEq, Addr.mk.injEq, and_true] at he
  obtain ⟨⟨rfl, rfl⟩, he2, rfl⟩ := he
  clear he2
  obtain ⟨cs, f1, f2⟩ := heap_setCells t.arr.toList (o + n * 2) W cur h2 (by simp [Tk.arr]; omega)
  have hbs : Chg (fun k => k = g) W (W.setCells g (o + n * 2) t.arr.toList) := chg_setCells (S := fun k => k = g) rfl _ _ _ _ (Chg.refl _ _)
  refine ⟨Chg.below h.bel hbs (fun i hi => by omega) h.bel.size, .inr ⟨g, o, cap, cs, by simp [hn], h1, f1, by simp; omega, h4, ?_, fun k u hk => ?_⟩⟩
  · rw [← Array.length_toList, f2]; simp [Tk.arr]; omega
  · rw [rCells_snoc] at hk
    have hl2 : (rCells Tk.arr l).length = n * 2 := by rw [rCells_length Tk.size, hn]
    have hkl : k < n * 2 + 2 := by have := (List.getElem?_eq_some_iff.1 hk).1; simp [hl2, Tk.arr] at this; omega
    rw [← Array.getElem?_toList, f2]
    have htl : (cur.toList.take (o + n * 2)).length = o + n * 2 := by simp; omega
    by_cases hk2 : k < n * 2
    · rw [List.getElem?_append_left (by omega)] at hk
      have := h6 k u hk
      rw [List.append_assoc, List.getElem?_append_left (by omega), List.getElem?_take_of_lt (by omega)]
      simpa using this
    · rw [List.getElem?_append_right (by omega), hl2] at hk
      rw [List.append_assoc, List.getElem?_append_right (by omega), htl, List.getElem?_append_left (by simp [Tk.arr]; omega), show o + k - (o + n * 2) = k - n * 2 by omega]
      exact hk
theorem oneT (t : Tk) : ∀ u ∈ t.arr.toList, u.oneCell' = true := by
  intro u hu
  simp only [Tk.arr, List.mem_cons, List.not_mem_nil, or_false] at hu
  rcases hu with rfl | rfl <;> rfl
/-- 'q = append(q, t)'. -/
theorem wpList_append_q {w W : World} {ops : Array Oper} {rest : List Oper} {o : Oper} {a : Act} {Q : Exit → Act → World → Prop} (hgd : o.guard = none) (s x : Operand)
    (hop : o.op = .call { callee := .builtin .append, args := #[s, x], argTypes := #[71, 71] }) (v : Value) (l : List Tk) (h : QO w W v l) (hs : a.eval s = v) (ad : Addr) (c : Nat) (t : Tk) (hx : a.eval x = .slice (some ad) 1 c)
    (hc : ∀ j u, t.arr.toList[j]? = some u → W.cell? (ad.add j) = some u) (hl : l.length ≤ 1759218604440)
    (hK : ∀ v' W', QO w W' v' (l ++ [t]) → wpList Try.prog ops Q rest (a.put o.dst v') W') : wpList Try.prog ops Q (o :: rest) a W := by
  obtain ⟨i0, hi0, hz0, hz1, hz2⟩ := info_parts info67
  have hgr : ∀ v' W', W'.ownsRow W.heap.size 67 2 v' (l.length + 1) (rCells Tk.arr l ++ t.arr.toList) → W.grownBy W' none → wpList Try.prog ops Q rest (a.put o.dst v') W' := fun v' W' ho hg => by
    have hb : Below w.heap.size w W' := below_on h.bel ((Below.refl _ _).grown hg (Nat.le_refl _) (by intro j hj; cases hj))
    refine hK v' W' (QO.of_own hb ?_)
    have := ROwn.grown (w := W) (v := v) (A := Tk.arr) (x := t) rfl ho
    exact this.base h.bel.size
  have hlen := rCells_length Tk.size l
  rcases h.own with ⟨rfl, rfl⟩ | ⟨g, p, cap, cur, rfl, h1, h2, h3, h4, h5, h6⟩
  · exact wpList_append_grows W hgd s x 71 hop 67 i0 _ 2 16 Try.underlying71 hi0 hz0 hz1 hz2 rfl (by decide) none 0 0 [] hs (fun _ => ⟨rfl, rfl⟩) rfl (fun b hb => by cases hb) ad 1 c t.arr.toList hx rfl hc (oneT t) (by decide) (by unfold maxLen; omega) (by omega) hgr
  · refine wpList_append_arg W hgd s x 71 hop 67 i0 _ 2 16 Try.underlying71 hi0 hz0 hz1 hz2 rfl (by decide) g p l.length cap (rCells Tk.arr l) hs hlen (fun j u hj => cell_of h2 (h6 j u hj)) ad 1 c t.arr.toList hx rfl hc (oneT t) (fun hr j hj => ?_) (by unfold maxLen; omega) (by omega) (fun hr => hK _ _ (h.room rfl hr)) (fun _ => hgr)
    have hj2 : j < 2 := by simpa [Tk.arr] using hj
    have hks : p + l.length * 2 + j < cur.size := by omega
    have : cur[p + l.length * 2 + j]? = some cur[p + l.length * 2 + j] := by simp [hks]
    exact ⟨by rw [cell_of h2 this]; rfl, free_of h2 _⟩
end Go.Proofs.Ytfoeljcgbfpknaa
