/- starts: a copy of a list of starts in new memory with one mark behind it. -/
import Derived.Test.YtdbphlafbehklaaFits
namespace Go.Proofs.Ytdbphlafbehklaa
open Go.RowKit Go.Lib
set_option linter.unusedVariables false

theorem sCells_at_all {w : World} {g o : Nat} {l : List Pr} (h : ∀ i, i < l.length → w.cell? ⟨g, o + i * 2, none⟩ = some (.int .i64 (sAt l i).1) ∧ w.cell? ⟨g, o + i * 2 + 1, none⟩ = some (.int .u64 (sAt l i).2)) :
    ∀ j u, (sCells l)[j]? = some u → w.cell? ((⟨g, o, none⟩ : Addr).add j) = some u := by
  intro j u hj
  have hjn : j < l.length * 2 := by
    have := (List.getElem?_eq_some_iff.1 hj).1
    rwa [sCells_length] at this
  obtain ⟨p, q⟩ := sCells_at l (j / 2) (by omega)
  obtain ⟨p', q'⟩ := h (j / 2) (by omega)
  rw [Addr.add_lit]
  rcases Nat.mod_two_eq_zero_or_one j with hm | hm
  · have e : j = j / 2 * 2 := by omega
    rw [← e] at p p'
    rw [p] at hj
    rw [p', ← hj]
  · have e : j = j / 2 * 2 + 1 := by omega
    have e2 : o + j / 2 * 2 + 1 = o + j := by omega
    rw [← e] at q
    rw [e2] at q'
    rw [q] at hj
    rw [q', ← hj]

/-- 'append([]Start{}, xs...)' in a region that goes in the text's order. -/
theorem wpList_freshS {P : Program} {w : World} {ops : Array Oper} {rest : List Oper} {o : Oper} {a : Act} {Q : Exit → Act → World → Prop} (hgd : o.guard = none) (s x : Operand) (t : TypeId)
    (hop : o.op = .call { callee := .builtin .append, args := #[s, x], argTypes := #[t, t] })
    (e : TypeId) (i : TypeInfo) (z : Value) (ht : P.underlying t = some (.slice e)) (hi : P.info? e = some i) (hz : i.zero = some z)
    (hsize : i.size = 2) (hby : i.bytes = 16) (hzs : z.cells.size = 2) (B : Nat) (fr : Nat) (hB : w.ownsRow fr e 2 (.slice (some ⟨B, 0, none⟩) 0 0) 0 []) (hfr : fr ≤ w.heap.size) (xv : Value) (xs : List Pr) (hs : a.eval s = .slice (some ⟨B, 0, none⟩) 0 0) (hx : a.eval x = xv) (hrow : SAt w xv xs) (hb : xs.length * 16 ≤ 140737488355328) (h63 : xs.length ≤ maxLen)
    (h : ∀ v' w', w'.ownsRow fr e 2 v' xs.length (sCells xs) → Below w.heap.size w w' → wpList P ops Q rest (a.put o.dst v') w') : wpList P ops Q (o :: rest) a w := by
  refine wpList_plain hgd fun K hK => ?_
  obtain ⟨xo, c, rfl, h1, h2, h4⟩ := hrow
  rcases Nat.eq_zero_or_pos xs.length with h0 | h0
  · obtain rfl : xs = [] := List.eq_nil_of_length_eq_zero h0
    have hsrc : Src P i.size t (.slice xo 0 c) 0 [] w := by
      cases xo with
      | none => exact Src.ofNil w ht c
      | some a => exact Src.ofSlice w ht a 0 c [] (by simp) (fun j u h => by simp at h) (by simp)
    have hrun := run_append_nothing w t t o.type e i ht hi (some ⟨B, 0, none⟩) 0 0 (Nat.le_refl _) _ hsrc
    have hx' : a.eval x = .slice xo 0 c := hx
    unfold Oper.wp
    simp [execOp, hop, resolve, invoke, builtin, hs, hx', hrun, Result.andThen]
    exact hK _ _ (h _ _ (by simpa [sCells] using hB) (Below.refl _ _))
  · obtain ⟨g, q, rfl, _, _⟩ := h4 0 h0
    have h5 : ∀ i, i < xs.length → w.cell? ⟨g, q + i * 2, none⟩ = some (.int .i64 (sAt xs i).1) ∧ w.cell? ⟨g, q + i * 2 + 1, none⟩ = some (.int .u64 (sAt xs i).2) := by
      intro i hi
      obtain ⟨g', q', he, p1, p2⟩ := h4 i hi
      simp only [Option.some.injEq, Addr.mk.injEq] at he
      obtain ⟨rfl, rfl, _⟩ := he
      exact ⟨p1, p2⟩
    obtain ⟨v', w', hrun, hown, hgrow⟩ := run_append_arg_grows (P := P) (w := w) t o.type e i z 2 16 ht hi hz hsize hby hzs (by decide) ⟨B, 0, none⟩ 0 0 [] rfl (fun j u h => by simp at h) ⟨g, q, none⟩ xs.length c (sCells xs) (by rw [sCells_length]) (sCells_at_all h5) (by omega) (by omega) (by rw [Nat.zero_add]; exact hb)
    simp only [Nat.zero_add, List.nil_append] at hown
    have hbel : Below w.heap.size w w' := (Below.refl _ _).grown hgrow (Nat.le_refl _) (by intro j hj; cases hj)
    unfold Oper.wp
    simp [execOp, hop, resolve, invoke, builtin, hs, hx, hrun, Result.andThen]
    refine hK _ _ (h _ _ ?_ hbel)
    obtain ⟨hl, hh⟩ := hown
    exact ⟨hl, hh.imp id fun ⟨g, cap, cur, he, hg, r⟩ => ⟨g, cap, cur, he, Nat.le_trans hfr hg, r⟩⟩

theorem own_new2 (X : World) (e : TypeId) (B : Nat) (hB : B = X.heap.size) : (X.alloc (.cells #[] e)).ownsRow X.heap.size e 2 (.slice (some ⟨B, 0, none⟩) 0 0) 0 [] := by
  subst hB
  exact World.ownsRow_made X #[] 0 (Nat.le_refl _) (Nat.zero_le _) rfl

theorem markS_made {m : Pr} {w w1 w2 : World} {v1 v2 : Value} {ws : List Pr} {p : Obj} (h1 : w1.ownsRow w.heap.size 41 2 v1 ws.length (sCells ws)) (hb1 : Below w.heap.size w w1)
    (hown : w2.ownsRow w.heap.size 41 2 v2 (ws.length + 1) (sCells ws ++ [.int .i64 m.1, .int .u64 m.2])) (hgrow : (w1.alloc p).grownBy w2 v1.ownBlock) :
    ∃ g c, v2 = .slice (some ⟨g, 0, none⟩) (ws.length + 1) c ∧ ws.length + 1 ≤ c ∧ c ≤ 9223372036854775807 ∧ w.heap.size ≤ g ∧ SAt w2 (.slice (some ⟨g, 0, none⟩) (ws.length + 1) c) (ws ++ [m]) ∧ SAt w2 (.slice (some ⟨g, 0, none⟩) ws.length c) ws ∧ Below w.heap.size w w2 := by
  have hL : Below w.heap.size w w2 := by
    refine (hb1.alloc hb1.size _).grown hgrow (by have := hb1.size; simp; omega) ?_
    intro j hj
    obtain ⟨_, ⟨rfl, _⟩ | ⟨g', cap, cur', rfl, hg', _⟩⟩ := h1
    · simp [Value.ownBlock] at hj
    · simp [Value.ownBlock] at hj; omega
  have hl2 : (ws ++ [m]).length = ws.length + 1 := by simp
  have hr : SRow w2 v2 (ws ++ [m]) := SRow.of_owns (base := w.heap.size) (by rw [hl2, sCells_snoc]; exact hown)
  obtain ⟨_, ⟨rfl, h0⟩ | ⟨g, cap, cur, rfl, hg, hh, hnc, hcm, hcur, htake⟩⟩ := hown
  · omega
  · rcases hr with ⟨he, _⟩ | ⟨g', c', he, k1, k2, k3⟩
    · cases he
    · simp only [Value.slice.injEq, Option.some.injEq, Addr.mk.injEq] at he
      obtain ⟨⟨rfl, _⟩, _, rfl⟩ := he
      refine ⟨g, cap, rfl, hnc, hcm, hg, ⟨_, _, by rw [hl2], by rw [hl2]; exact hnc, hcm, fun i hi => ⟨g, 0, rfl, ?_⟩⟩, ⟨_, _, rfl, by omega, hcm, fun i hi => ⟨g, 0, rfl, ?_⟩⟩, hL⟩
      · simpa using k3 i hi
      · have := k3 i (by omega)
        have e : sAt (ws ++ [m]) i = sAt ws i := by simp [sAt, List.getElem?_append_left hi]
        rw [e] at this
        simpa using this

set_option maxRecDepth 100000 in
set_option maxHeartbeats 2000000 in
theorem startsC_any (xv : Value) (xs : List Pr) (w : World) (hx : SAt w xv xs) (hb : xs.length * 16 ≤ 140737488353280) :
    Calls Try.prog 34 #[xv] w fun e w' => ∃ g c, e = .returned (.slice (some ⟨g, 0, none⟩) xs.length c) ∧ w.heap.size ≤ g ∧ SAt w' (.slice (some ⟨g, 0, none⟩) xs.length c) xs ∧ Below w.heap.size w w' := by
  obtain ⟨i0, hi, hz0, hz1, hz2⟩ := info_parts Try.info41
  obtain ⟨ao, ca, rfl⟩ : ∃ ao c, xv = .slice ao xs.length c := by obtain ⟨ao, c, h, _⟩ := hx; exact ⟨ao, c, h⟩
  have HX := hide hx
  clear hx
  go_enter Try.func34, Try.ntmps34
  go_wp2_with (first
    | (at_builtin; refine wpList_freshS rfl (.tmp 4) (.tmp 5) 33 rfl 41 i0 (.agg #[.int .i64 0, .int .u64 0]) Try.underlying33 hi hz0 hz1 hz2 rfl w.heap.size _ (own_new2 _ 41 w.heap.size rfl) (by simp) _ xs rfl rfl (HX.out.below (below_alloc (Below.refl _ _) _)) (by omega) (by unfold maxLen; omega) ?_; intro v1 w1a hownA1 hbelA1)
    | (at_builtin; refine wpList_append_own _ rfl (.tmp 6) (.tmp 8) 33 rfl _ 41 i0 (.agg #[.int .i64 0, .int .u64 0]) 2 16 Try.underlying33 hi hz0 hz1 hz2 rfl (by decide) _ _ _ rfl (hownA1.alloc _) ⟨w1a.heap.size, 0, none⟩ 1 1 [.int .i64 71, .int .u64 72] rfl rfl (two_at w1a _ _ _) (by simp [Value.oneCell']) (by unfold maxLen; omega) (by omega) (by have hq := hbelA1.size; simp at hq; simp; omega) ?_; intro u1 w1b hownB1 hgrowB1 hqB1; obtain ⟨g1, e1, rfl, ka1, kb1, kc1, hrow1, hrow2, hbel1⟩ := markS_made (m := (71, 72)) hownA1 (below_on (below_alloc (Below.refl _ _) _) hbelA1) hownB1 hgrowB1; have HROW1 := hide hrow2; have HBEL1 := hide hbel1; clear hownA1 hbelA1 hownB1 hgrowB1 hqB1 hrow1 hrow2 hbel1)
    | fail)
  go_wp2
  go_ret
  exact ⟨g1, e1, rfl, kc1, HROW1.out, HBEL1.out⟩
end Go.Proofs.Ytdbphlafbehklaa
