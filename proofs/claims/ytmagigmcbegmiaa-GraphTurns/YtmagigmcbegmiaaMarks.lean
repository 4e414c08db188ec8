/- A list with two marks behind it, in new memory: the two appends. -/
import Derived.Test.YtmagigmcbegmiaaFresh
namespace Go.Proofs.Ytmagigmcbegmiaa
open Go.RowKit Go.Lib

/-- 'append([]T{}, xs...)' in a region that goes in the text's order. -/
theorem wpList_fresh {P : Program} {w : World} {ops : Array Oper} {rest : List Oper} {o : Oper} {a : Act} {Q : Exit → Act → World → Prop} (hgd : o.guard = none) (s x : Operand) (t : TypeId)
    (hop : o.op = .call { callee := .builtin .append, args := #[s, x], argTypes := #[t, t] })
    (k : IntKind) (e : TypeId) (i : TypeInfo) (z : Value) (bytes : Nat) (ht : P.underlying t = some (.slice e)) (hi : P.info? e = some i) (hz : i.zero = some z)
    (hsize : i.size = 1) (hby : i.bytes = bytes) (hzs : z.cells.size = 1) (B : Nat) (fr : Nat) (hB : w.ownsRow fr e 1 (.slice (some ⟨B, 0, none⟩) 0 0) 0 []) (hfr : fr ≤ w.heap.size) (xv : Value) (xs : List Int) (hs : a.eval s = .slice (some ⟨B, 0, none⟩) 0 0) (hx : a.eval x = xv) (hrow : RowAt k w xv xs) (hb : xs.length * bytes ≤ 140737488355328) (h63 : xs.length ≤ maxLen)
    (h : ∀ v' w', w'.ownsRow fr e 1 v' xs.length (xs.map (Value.int k)) → Below w.heap.size w w' → wpList P ops Q rest (a.put o.dst v') w') : wpList P ops Q (o :: rest) a w := by
  refine wpList_plain hgd fun K hK => ?_
  obtain ⟨xo, c, rfl, h1, h2, h3, h4⟩ := hrow
  rcases Nat.eq_zero_or_pos xs.length with h0 | h0
  · obtain rfl : xs = [] := List.eq_nil_of_length_eq_zero h0
    have hsrc : Src P i.size t (.slice xo 0 c) 0 [] w := by
      cases xo with
      | none => exact Src.ofNil w ht c
      | some a => exact Src.ofSlice w ht a 0 c [] (by simp) (fun j u h => by simp at h) (by simp)
    have hrun := run_append_nothing w t t o.type e i ht hi (some ⟨B, 0, none⟩) 0 0 (Nat.le_refl _) _ hsrc
    have hx' : a.eval x = .slice xo 0 c := hx
    unfold Oper.wp
    simp [execOp, hop, resolve, invoke, builtin, hs, hx', hrun, Result.andThen]
    exact hK _ _ (h _ _ (by simpa using hB) (Below.refl _ _))
  · cases xo with
    | none => have := h3 rfl; omega
    | some ad =>
      obtain ⟨v', w', hrun, hown, hgrow⟩ := run_append_arg_grows (P := P) (w := w) t o.type e i z 1 bytes ht hi hz hsize hby hzs (by decide) ⟨B, 0, none⟩ 0 0 [] rfl (fun j u h => by simp at h) ad xs.length c (xs.map (Value.int k)) (by simp) (cells_of_row h4) (by omega) (by omega) (by rw [Nat.zero_add]; exact hb)
      simp only [Nat.zero_add, List.nil_append] at hown
      have hbel : Below w.heap.size w w' := (Below.refl _ _).grown hgrow (Nat.le_refl _) (by intro j hj; cases hj)
      unfold Oper.wp
      simp [execOp, hop, resolve, invoke, builtin, hs, hx, hrun, Result.andThen]
      refine hK _ _ (h _ _ ?_ hbel)
      obtain ⟨hl, hh⟩ := hown
      exact ⟨hl, hh.imp id fun ⟨g, cap, cur, he, hg, r⟩ => ⟨g, cap, cur, he, Nat.le_trans hfr hg, r⟩⟩

theorem two_at (w : World) (x y : Value) (t : TypeId) : ∀ j u, [x, y][j]? = some u → (w.alloc (.cells #[x, y] t)).cell? ((⟨w.heap.size, 0, none⟩ : Addr).add j) = some u := by
  intro j u hj
  have hh : (w.alloc (.cells #[x, y] t)).heap[w.heap.size]? = some (.cells #[x, y] t (0, 0)) := heap_new _ _
  rw [Addr.add_lit]
  match j, hj with
  | 0, hj => simp at hj; subst hj; exact cell_of hh rfl
  | 1, hj => simp at hj; subst hj; exact cell_of hh rfl

/-- What the full list is behind both appends. -/
theorem marks_made {k : IntKind} {e : TypeId} {m1 m2 : Int} {w w1 w2 : World} {v1 v2 : Value} {ws : List Int} {p : Obj} (h1 : w1.ownsRow w.heap.size e 1 v1 ws.length (ws.map (Value.int k))) (hb1 : Below w.heap.size w w1)
    (hown : w2.ownsRow w.heap.size e 1 v2 (ws.length + 2) (ws.map (Value.int k) ++ [.int k m1, .int k m2])) (hgrow : (w1.alloc p).grownBy w2 v1.ownBlock) :
    ∃ g c, v2 = .slice (some ⟨g, 0, none⟩) (ws.length + 2) c ∧ ws.length + 2 ≤ c ∧ c ≤ 9223372036854775807 ∧ w.heap.size ≤ g ∧ RowAt k w2 (.slice (some ⟨g, 0, none⟩) (ws.length + 2) c) (ws ++ [m1, m2]) ∧ Below w.heap.size w w2 := by
  have hL : Below w.heap.size w w2 := by
    refine (hb1.alloc hb1.size _).grown hgrow (by have := hb1.size; simp; omega) ?_
    intro j hj
    obtain ⟨_, ⟨rfl, _⟩ | ⟨g', cap, cur', rfl, hg', _⟩⟩ := h1
    · simp [Value.ownBlock] at hj
    · simp [Value.ownBlock] at hj; omega
  have hl2 : (ws ++ [m1, m2]).length = ws.length + 2 := by simp
  have hr : RowAt k w2 v2 (ws ++ [m1, m2]) := RowAt.of_owns (base := w.heap.size) (e := e) (by rw [hl2]; simpa using hown)
  obtain ⟨_, ⟨rfl, h0⟩ | ⟨g, cap, cur, rfl, hg, hh, hnc, hcm, hcur, htake⟩⟩ := hown
  · omega
  · exact ⟨g, cap, rfl, hnc, hcm, hg, hr, hL⟩
/-- The list without its marks. -/
theorem RowAt.front {k : IntKind} {w : World} {g c n : Nat} {ws ms : List Int} (h : RowAt k w (.slice (some ⟨g, 0, none⟩) n c) (ws ++ ms)) : RowAt k w (.slice (some ⟨g, 0, none⟩) ws.length c) ws := by
  obtain ⟨ao, c', he, k1, k2, k3, k4⟩ := h
  simp only [Value.slice.injEq] at he
  obtain ⟨rfl, rfl, rfl⟩ := he
  simp only [List.length_append] at k1 k4
  refine ⟨_, c, rfl, by omega, k2, (fun e => by cases e), fun a ha i hi => ?_⟩
  have := k4 a ha i (by omega)
  rw [this]
  simp [List.getD, List.getElem?_append_left hi]
end Go.Proofs.Ytmagigmcbegmiaa
