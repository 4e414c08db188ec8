/- append of tasks to a new list; lists of one's own. -/
import Derived.Test.YtgjdjdgondpjeaaGreatTa
import Derived.Deep.Slices
import Derived.SizedLaws
import Derived.ProofKit
import Derived.OpenShut
namespace Go.Proofs.YtgjdjdgondpjeaaGreat
open Go.RowKit Go.Lib
set_option linter.unusedVariables false
/-- The tasks' cells. -/
def tCells (l : List Tk) : List Value := l.flatMap fun p => [.int .u64 p.1, .int .u64 p.2]
theorem tCells_length (l : List Tk) : (tCells l).length = l.length * 2 := by
  induction l with
  | nil => rfl
  | cons a l ih => simp [tCells] at ih ⊢; omega
theorem tCells_at (l : List Tk) (i : Nat) (h : i < l.length) : (tCells l)[i * 2]? = some (.int .u64 (tAt l i).1) ∧ (tCells l)[i * 2 + 1]? = some (.int .u64 (tAt l i).2) := by
  induction l generalizing i with
  | nil => simp at h
  | cons a l ih =>
    cases i with
    | zero => simp [tCells, tAt]
    | succ i =>
      have := ih i (by simpa using h)
      have e : tCells (a :: l) = [.int .u64 a.1, .int .u64 a.2] ++ tCells l := by simp [tCells]
      rw [e, show (i + 1) * 2 = i * 2 + 2 by omega]
      simp only [tAt, List.getElem?_cons_succ] at this ⊢
      constructor
      · rw [List.getElem?_append_right (by simp)]; simpa using this.1
      · rw [List.getElem?_append_right (by simp)]; simpa using this.2
theorem tCells_snoc (l : List Tk) (p : Tk) : tCells (l ++ [p]) = tCells l ++ [.int .u64 p.1, .int .u64 p.2] := by simp [tCells]

theorem tCells_at_all {w : World} {g o : Nat} {l : List Tk} (h : ∀ i, i < l.length → w.cell? ⟨g, o + i * 2, none⟩ = some (.int .u64 (tAt l i).1) ∧ w.cell? ⟨g, o + i * 2 + 1, none⟩ = some (.int .u64 (tAt l i).2)) :
    ∀ j u, (tCells l)[j]? = some u → w.cell? ((⟨g, o, none⟩ : Addr).add j) = some u := by
  intro j u hj
  have hjn : j < l.length * 2 := by
    have := (List.getElem?_eq_some_iff.1 hj).1
    rwa [tCells_length] at this
  obtain ⟨p, q⟩ := tCells_at l (j / 2) (by omega)
  obtain ⟨p', q'⟩ := h (j / 2) (by omega)
  rw [Addr.add_lit]
  rcases Nat.mod_two_eq_zero_or_one j with hm | hm
  · have e : j = j / 2 * 2 := by omega
    rw [← e] at p p'
    rw [p] at hj
    rw [p', ← hj]
  · have e : j = j / 2 * 2 + 1 := by omega
    have e2 : o + j / 2 * 2 + 1 = o + j := by omega
    rw [← e] at q
    rw [e2] at q'
    rw [q] at hj
    rw [q', ← hj]

/-- 'append([]Task{}, xs...)' in a region that goes in the text's order. -/
theorem wpList_freshT {P : Program} {w : World} {ops : Array Oper} {rest : List Oper} {o : Oper} {a : Act} {Q : Exit → Act → World → Prop} (hgd : o.guard = none) (s x : Operand) (t : TypeId)
    (hop : o.op = .call { callee := .builtin .append, args := #[s, x], argTypes := #[t, t] })
    (e : TypeId) (i : TypeInfo) (z : Value) (ht : P.underlying t = some (.slice e)) (hi : P.info? e = some i) (hz : i.zero = some z)
    (hsize : i.size = 2) (hby : i.bytes = 16) (hzs : z.cells.size = 2) (B : Nat) (fr : Nat) (hB : w.ownsRow fr e 2 (.slice (some ⟨B, 0, none⟩) 0 0) 0 []) (hfr : fr ≤ w.heap.size) (xv : Value) (xs : List Tk) (hs : a.eval s = .slice (some ⟨B, 0, none⟩) 0 0) (hx : a.eval x = xv) (hrow : TAt w xv xs) (hb : xs.length * 16 ≤ 140737488355328) (h63 : xs.length ≤ maxLen)
    (h : ∀ v' w', w'.ownsRow fr e 2 v' xs.length (tCells xs) → Below w.heap.size w w' → wpList P ops Q rest (a.put o.dst v') w') : wpList P ops Q (o :: rest) a w := by
  refine wpList_plain hgd fun K hK => ?_
  obtain ⟨xo, c, rfl, h1, h2, h4⟩ := hrow
  rcases Nat.eq_zero_or_pos xs.length with h0 | h0
  · obtain rfl : xs = [] := List.eq_nil_of_length_eq_zero h0
    have hsrc : Src P i.size t (.slice xo 0 c) 0 [] w := by
      cases xo with
      | none => exact Src.ofNil w ht c
      | some a => exact Src.ofSlice w ht a 0 c [] (by simp) (fun j u h => by simp at h) (by simp)
    have hrun := run_append_nothing w t t o.type e i ht hi (some ⟨B, 0, none⟩) 0 0 (Nat.le_refl _) _ hsrc
    have hx' : a.eval x = .slice xo 0 c := hx
    unfold Oper.wp
    simp [execOp, hop, resolve, invoke, builtin, hs, hx', hrun, Result.andThen]
    exact hK _ _ (h _ _ (by simpa [tCells] using hB) (Below.refl _ _))
  · obtain ⟨g, q, rfl, _, _⟩ := h4 0 h0
    have h5 : ∀ i, i < xs.length → w.cell? ⟨g, q + i * 2, none⟩ = some (.int .u64 (tAt xs i).1) ∧ w.cell? ⟨g, q + i * 2 + 1, none⟩ = some (.int .u64 (tAt xs i).2) := by
      intro i hi
      obtain ⟨g', q', he, p1, p2⟩ := h4 i hi
      simp only [Option.some.injEq, Addr.mk.injEq] at he
      obtain ⟨rfl, rfl, _⟩ := he
      exact ⟨p1, p2⟩
    obtain ⟨v', w', hrun, hown, hgrow⟩ := run_append_arg_grows (P := P) (w := w) t o.type e i z 2 16 ht hi hz hsize hby hzs (by decide) ⟨B, 0, none⟩ 0 0 [] rfl (fun j u h => by simp at h) ⟨g, q, none⟩ xs.length c (tCells xs) (by rw [tCells_length]) (tCells_at_all h5) (by omega) (by omega) (by rw [Nat.zero_add]; exact hb)
    simp only [Nat.zero_add, List.nil_append] at hown
    have hbel : Below w.heap.size w w' := (Below.refl _ _).grown hgrow (Nat.le_refl _) (by intro j hj; cases hj)
    unfold Oper.wp
    simp [execOp, hop, resolve, invoke, builtin, hs, hx, hrun, Result.andThen]
    refine hK _ _ (h _ _ ?_ hbel)
    obtain ⟨hl, hh⟩ := hown
    exact ⟨hl, hh.imp id fun ⟨g, cap, cur, he, hg, r⟩ => ⟨g, cap, cur, he, Nat.le_trans hfr hg, r⟩⟩

theorem own_new2 (X : World) (e : TypeId) (B : Nat) (hB : B = X.heap.size) : (X.alloc (.cells #[] e)).ownsRow X.heap.size e 2 (.slice (some ⟨B, 0, none⟩) 0 0) 0 [] := by
  subst hB
  exact World.ownsRow_made X #[] 0 (Nat.le_refl _) (Nat.zero_le _) rfl


/-- A list of tasks of one's own, in a block from fr on. -/
def TOwn (w : World) (fr : Nat) (v : Value) (l : List Tk) : Prop := w.ownsRow fr 42 2 v l.length (tCells l)
theorem TOwn.nil (w : World) (fr : Nat) : TOwn w fr (.slice none 0 0) [] := ⟨rfl, Or.inl ⟨rfl, rfl⟩⟩
theorem TOwn.tat {w : World} {fr : Nat} {v : Value} {l : List Tk} (h : TOwn w fr v l) : TAt w v l := by
  obtain ⟨h0, ⟨rfl, hn⟩ | ⟨g, cap, cur, rfl, hg, hb, h1, h2, h3, h4⟩⟩ := h
  · obtain rfl : l = [] := List.eq_nil_of_length_eq_zero hn
    exact TAt.nil w
  · refine ⟨_, cap, rfl, h1, h2, fun i hi => ⟨g, 0, rfl, ?_⟩⟩
    obtain ⟨p, q⟩ := tCells_at l i hi
    rw [← h4, List.getElem?_take] at p q
    rw [if_pos (by omega)] at p q
    have p' : cur[i * 2]? = some (.int .u64 (tAt l i).1) := by simpa using p
    have q' : cur[i * 2 + 1]? = some (.int .u64 (tAt l i).2) := by simpa using q
    rw [Nat.zero_add]
    exact ⟨cell_of hb p', cell_of hb q'⟩
theorem TOwn.below {w w' : World} {fr : Nat} {v : Value} {l : List Tk} (h : TOwn w fr v l) (hb : Below w.heap.size w w') : TOwn w' fr v l := by
  obtain ⟨h0, hn | ⟨g, cap, cur, rfl, hg, hc, r⟩⟩ := h
  · exact ⟨h0, Or.inl hn⟩
  · exact ⟨h0, Or.inr ⟨g, cap, cur, rfl, hg, (hb.block g (lt_of_heap hc)).trans hc, r⟩⟩
end Go.Proofs.YtgjdjdgondpjeaaGreat
