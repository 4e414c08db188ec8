import Derived.Test.YtgjdjdgondpjeaaGreatTK
import Derived.Deep.Slices
import Derived.SizedLaws
import Derived.ProofKit
import Derived.OpenShut
import Derived.OwnWalk
import Derived.ArgAppend
/- Rows of records: lists whose elements take c cells each, at any address, or in a row of one's own. -/
namespace Go.Proofs.YtgjdjdgondpjeaaGreat
open Go.RowKit Go.Lib
set_option linter.unusedVariables false
set_option linter.unusedSimpArgs false
section
variable {α : Type} {A : α → Array Value} {c : Nat} {t : TypeId}
/-- The records' cells. -/
def rCells (A : α → Array Value) (l : List α) : List Value := l.flatMap fun x => (A x).toList
theorem rCells_nil : rCells A [] = [] := rfl
theorem rCells_cons (x : α) (l : List α) : rCells A (x :: l) = (A x).toList ++ rCells A l := by simp [rCells]
theorem rCells_append (l m : List α) : rCells A (l ++ m) = rCells A l ++ rCells A m := by simp [rCells]
theorem rCells_snoc (l : List α) (x : α) : rCells A (l ++ [x]) = rCells A l ++ (A x).toList := by simp [rCells]
theorem rCells_length (hA : ∀ x, (A x).size = c) (l : List α) : (rCells A l).length = l.length * c := by
  induction l with
  | nil => simp [rCells]
  | cons a l ih => rw [rCells_cons, List.length_append, ih, Array.length_toList, hA, List.length_cons, Nat.succ_mul]; omega
theorem rCells_at (hA : ∀ x, (A x).size = c) : ∀ (l : List α) (i j : Nat) (x : α) (u : Value), l[i]? = some x → (A x)[j]? = some u → (rCells A l)[i * c + j]? = some u
  | [], i, j, x, u, h, _ => by simp at h
  | b :: l, 0, j, x, u, h, hu => by
    simp at h
    subst h
    have hj : j < (A b).size := (Array.getElem?_eq_some_iff.1 hu).1
    rw [rCells_cons, Nat.zero_mul, Nat.zero_add, List.getElem?_append_left (by simpa using hj)]
    simpa using hu
  | b :: l, i + 1, j, x, u, h, hu => by
    have ih := rCells_at hA l i j x u (by simpa using h) hu
    have e : (i + 1) * c + j - (A b).toList.length = i * c + j := by rw [Array.length_toList, hA, Nat.succ_mul]; omega
    rw [rCells_cons, List.getElem?_append_right (by rw [Array.length_toList, hA, Nat.succ_mul]; omega), e]
    exact ih
theorem rCells_set (hA : ∀ x, (A x).size = c) : ∀ (l : List α) (k j : Nat) (x y : α) (u : Value), l[k]? = some x → j < c → A y = (A x).setIfInBounds j u → (rCells A l).set (k * c + j) u = rCells A (l.set k y)
  | [], k, j, x, y, u, h, _, _ => by simp at h
  | b :: l, 0, j, x, y, u, h, hj, hy => by
    simp at h
    subst h
    rw [List.set_cons_zero, rCells_cons, rCells_cons, hy, Nat.zero_mul, Nat.zero_add, List.set_append, if_pos (by rw [Array.length_toList, hA]; exact hj)]
    simp
  | b :: l, k + 1, j, x, y, u, h, hj, hy => by
    have ih := rCells_set hA l k j x y u (by simpa using h) hj hy
    have e : (k + 1) * c + j - (A b).toList.length = k * c + j := by rw [Array.length_toList, hA, Nat.succ_mul]; omega
    rw [List.set_cons_succ, rCells_cons, rCells_cons, List.set_append, if_neg (by rw [Array.length_toList, hA, Nat.succ_mul]; omega), e, ih]
theorem rCells_get (hA : ∀ x, (A x).size = c) (hc : 0 < c) (l : List α) (k : Nat) (u : Value) (h : (rCells A l)[k]? = some u) : ∃ x, l[k / c]? = some x ∧ (A x)[k % c]? = some u := by
  have hk : k < l.length * c := by
    have := (List.getElem?_eq_some_iff.1 h).1
    rwa [rCells_length hA] at this
  have h1 : k / c < l.length := (Nat.div_lt_iff_lt_mul hc).2 hk
  refine ⟨l[k / c], List.getElem?_eq_getElem h1, ?_⟩
  have h2 : k % c < (A l[k / c]).size := by rw [hA]; exact Nat.mod_lt _ hc
  have h3 := rCells_at hA l (k / c) (k % c) l[k / c] _ (List.getElem?_eq_getElem h1) (Array.getElem?_eq_getElem h2)
  rw [Nat.mul_comm, Nat.div_add_mod, h] at h3
  rw [h3]
  exact Array.getElem?_eq_getElem h2

/-- Records that lie anywhere. -/
def RAt (A : α → Array Value) (c : Nat) (w : World) (v : Value) (l : List α) : Prop :=
  ∃ ao cap, v = .slice ao l.length cap ∧ l.length ≤ cap ∧ cap ≤ 9223372036854775807 ∧
    ∀ i x, l[i]? = some x → ∃ g o, ao = some ⟨g, o, none⟩ ∧ g < w.heap.size ∧ ∀ j u, (A x)[j]? = some u → w.cell? ⟨g, o + i * c + j, none⟩ = some u
theorem RAt.nil (w : World) : RAt A c w (.slice none 0 0) [] := ⟨none, 0, rfl, Nat.le_refl _, by omega, fun i x hi => by simp at hi⟩
theorem RAt.shape {w : World} {v : Value} {l : List α} (h : RAt A c w v l) : ∃ ao cap, v = .slice ao l.length cap ∧ l.length ≤ cap ∧ cap ≤ 9223372036854775807 := by
  obtain ⟨ao, cap, rfl, h1, h2, _⟩ := h; exact ⟨ao, cap, rfl, h1, h2⟩
theorem RAt.at {w : World} {ao : Option Addr} {n cap : Nat} {l : List α} (h : RAt A c w (.slice ao n cap) l) (i : Nat) (hi : i < l.length) :
    ∃ g o, ao = some ⟨g, o, none⟩ ∧ g < w.heap.size ∧ ∀ j u, (A l[i])[j]? = some u → w.cell? ⟨g, o + i * c + j, none⟩ = some u := by
  obtain ⟨ao', c', he, h1, h2, h3⟩ := h
  simp only [Value.slice.injEq] at he
  obtain ⟨rfl, _, _⟩ := he
  exact h3 i _ (List.getElem?_eq_getElem hi)
theorem RAt.below {w w' : World} {v : Value} {l : List α} (h : RAt A c w v l) (hb : Below w.heap.size w w') : RAt A c w' v l := by
  obtain ⟨ao, cap, rfl, h1, h2, h3⟩ := h
  refine ⟨ao, cap, rfl, h1, h2, fun i x hi => ?_⟩
  obtain ⟨g, o, e, hg, p⟩ := h3 i x hi
  exact ⟨g, o, e, Nat.lt_of_lt_of_le hg hb.size, fun j u hu => (below_cell hb hg).trans (p j u hu)⟩
/-- A row of records of one's own, in a block from fr on. -/
def ROwn (A : α → Array Value) (c : Nat) (t : TypeId) (w : World) (fr : Nat) (v : Value) (l : List α) : Prop := w.ownsRow fr t c v l.length (rCells A l)
theorem ROwn.nil (w : World) (fr : Nat) : ROwn A c t w fr (.slice none 0 0) [] := ⟨by simp [rCells], Or.inl ⟨rfl, rfl⟩⟩
theorem ROwn.cut {w : World} {fr : Nat} {v : Value} {l : List α} (h : ROwn A c t w fr v l) : (v = .slice none 0 0 ∧ l = []) ∨ ∃ g cap cur, v = .slice (some ⟨g, 0, none⟩) l.length cap ∧ fr ≤ g ∧ w.heap[g]? = some (.cells cur t (0, 0)) ∧ l.length ≤ cap ∧ cap ≤ 9223372036854775807 ∧ cur.size = cap * c ∧ cur.toList.take (l.length * c) = rCells A l := by
  obtain ⟨h0, ⟨rfl, hn⟩ | ⟨g, cap, cur, rfl, hg, hb, h1, h2, h3, h4⟩⟩ := h
  · exact .inl ⟨rfl, List.eq_nil_of_length_eq_zero hn⟩
  · exact .inr ⟨g, cap, cur, rfl, hg, hb, h1, h2, by first | exact h3 | omega, h4⟩
theorem ROwn.rat (hA : ∀ x, (A x).size = c) {w : World} {fr : Nat} {v : Value} {l : List α} (h : ROwn A c t w fr v l) : RAt A c w v l := by
  rcases h.cut with ⟨rfl, rfl⟩ | ⟨g, cap, cur, rfl, hg, hb, h1, h2, h3, h4⟩
  · exact RAt.nil w
  · refine ⟨_, cap, rfl, h1, h2, fun i x hi => ⟨g, 0, rfl, lt_of_heap hb, fun j u hu => ?_⟩⟩
    have p := rCells_at hA l i j x u hi hu
    have hlt : i * c + j < l.length * c := by
      have := (List.getElem?_eq_some_iff.1 p).1
      rwa [rCells_length hA] at this
    rw [← h4, List.getElem?_take_of_lt hlt] at p
    rw [Nat.zero_add]
    exact cell_of hb (by simpa using p)
theorem ROwn.stay {w w' : World} {fr : Nat} {v : Value} {l : List α} (h : ROwn A c t w fr v l) (hk : ∀ g, v.ownBlock = some g → w'.heap[g]? = w.heap[g]?) : ROwn A c t w' fr v l := by
  obtain ⟨h0, hn | ⟨g, cap, cur, rfl, hg, hc, r⟩⟩ := h
  · exact ⟨h0, Or.inl hn⟩
  · exact ⟨h0, Or.inr ⟨g, cap, cur, rfl, hg, (hk g rfl).trans hc, r⟩⟩
theorem ROwn.lt {w : World} {fr : Nat} {v : Value} {l : List α} (h : ROwn A c t w fr v l) : ∀ g, v.ownBlock = some g → fr ≤ g ∧ g < w.heap.size := fun g e => World.ownsRow.lt h g e
theorem ROwn.below {w w' : World} {fr : Nat} {v : Value} {l : List α} (h : ROwn A c t w fr v l) (hb : Below w.heap.size w w') : ROwn A c t w' fr v l :=
  h.stay fun g e => hb.block g (h.lt g e).2
theorem ROwn.base {w : World} {fr fr' : Nat} {v : Value} {l : List α} (h : ROwn A c t w fr v l) (hs : fr' ≤ fr) : ROwn A c t w fr' v l :=
  ⟨h.1, h.2.imp id fun ⟨g, cap, cur, he, hg, r⟩ => ⟨g, cap, cur, he, Nat.le_trans hs hg, r⟩⟩
/-- One cell of one record written. -/
theorem ROwn.set (hA : ∀ x, (A x).size = c) {w : World} {fr g n cap : Nat} {l : List α} (h : ROwn A c t w fr (.slice (some ⟨g, 0, none⟩) n cap) l) {k j : Nat} {x y : α} {u : Value} (hk : l[k]? = some x) (hj : j < c) (hy : A y = (A x).setIfInBounds j u) :
    ROwn A c t (w.setCell ⟨g, k * c + j, none⟩ u) fr (.slice (some ⟨g, 0, none⟩) n cap) (l.set k y) := by
  obtain ⟨h0, ⟨he, hn⟩ | ⟨g', cap', cur, he, hg, hb, h1, h2, h3, h4⟩⟩ := h
  · simp at he
  · simp only [Value.slice.injEq, Option.some.injEq, Addr.mk.injEq, true_and, and_true] at he
    obtain ⟨rfl, rfl, rfl⟩ := he
    refine ⟨?_, .inr ⟨g, cap, _, by simp, hg, heap_set hb u, by simpa using h1, h2, by simpa using h3, ?_⟩⟩
    · rw [rCells_length hA]
    · rw [Array.toList_setIfInBounds, List.take_set, List.length_set, h4]
      exact rCells_set hA l k j x y u hk hj hy
theorem ROwn.free {w : World} {fr g n cap : Nat} {l : List α} (h : ROwn A c t w fr (.slice (some ⟨g, 0, none⟩) n cap) l) (i : Nat) : w.frozen? ⟨g, i, none⟩ = false := by
  rcases h.cut with ⟨he, _⟩ | ⟨g', cap', cur, he, hg, hb, _⟩
  · simp at he
  · simp only [Value.slice.injEq, Option.some.injEq, Addr.mk.injEq, true_and, and_true] at he
    obtain ⟨rfl, _⟩ := he
    exact free_of hb i
theorem ROwn.cell (hA : ∀ x, (A x).size = c) {w : World} {fr g n cap : Nat} {l : List α} (h : ROwn A c t w fr (.slice (some ⟨g, 0, none⟩) n cap) l) {k : Nat} {x : α} (hk : l[k]? = some x) : ∀ j u, (A x)[j]? = some u → w.cell? ⟨g, k * c + j, none⟩ = some u := by
  obtain ⟨ao, cap', he, _, _, h3⟩ := h.rat hA
  simp only [Value.slice.injEq] at he
  obtain ⟨rfl, _, _⟩ := he
  obtain ⟨g', o, e, hg, p⟩ := h3 k x hk
  simp only [Option.some.injEq, Addr.mk.injEq, and_true] at e
  obtain ⟨rfl, rfl⟩ := e
  intro j u hu
  have := p j u hu
  rwa [Nat.zero_add] at this
/-- Where it lies, if it is not empty. -/
theorem ROwn.spot {w : World} {fr : Nat} {v : Value} {l : List α} (h : ROwn A c t w fr v l) (hl : 0 < l.length) : ∃ g cap, v = .slice (some ⟨g, 0, none⟩) l.length cap ∧ l.length ≤ cap ∧ cap ≤ 9223372036854775807 ∧ fr ≤ g ∧ g < w.heap.size := by
  rcases h.cut with ⟨_, rfl⟩ | ⟨g, cap, cur, rfl, hg, hb, h1, h2, _⟩
  · simp at hl
  · exact ⟨g, cap, rfl, h1, h2, hg, lt_of_heap hb⟩
theorem ROwn.grown {w w2 : World} {fr : Nat} {v v2 : Value} {l : List α} {x : α} {n : Nat} (hn : l.length = n) (hown : w2.ownsRow fr t c v2 (n + 1) (rCells A l ++ (A x).toList)) : ROwn A c t w2 fr v2 (l ++ [x]) := by
  subst hn
  unfold ROwn
  rw [rCells_snoc, List.length_append]
  exact hown
theorem rcells_at_all (hA : ∀ x, (A x).size = c) (hc : 0 < c) {w : World} {g o : Nat} {l : List α} (h : ∀ i x, l[i]? = some x → ∀ j u, (A x)[j]? = some u → w.cell? ⟨g, o + i * c + j, none⟩ = some u) :
    ∀ j u, (rCells A l)[j]? = some u → w.cell? ((⟨g, o, none⟩ : Addr).add j) = some u := by
  intro k u hk
  obtain ⟨x, h1, h2⟩ := rCells_get hA hc l k u hk
  have h3 := h _ x h1 _ u h2
  rw [Nat.add_assoc, Nat.mul_comm, Nat.div_add_mod] at h3
  rw [Addr.add_lit]
  exact h3
theorem own_newr (X : World) (e : TypeId) (B : Nat) (c : Nat) (hB : B = X.heap.size) : (X.alloc (.cells #[] e)).ownsRow X.heap.size e c (.slice (some ⟨B, 0, none⟩) 0 0) 0 [] := by
  subst hB
  exact World.ownsRow_made X #[] 0 (Nat.le_refl _) (Nat.zero_le _) (by simp)
/-- 'append([]T{}, xs...)' of records in a region that goes in the text's order. -/
theorem wpList_freshR (hA : ∀ x, (A x).size = c) (hc : 0 < c) {P : Program} {w : World} {ops : Array Oper} {rest : List Oper} {o : Oper} {a : Act} {Q : Exit → Act → World → Prop} (hgd : o.guard = none) (s x : Operand) (t : TypeId)
    (hop : o.op = .call { callee := .builtin .append, args := #[s, x], argTypes := #[t, t] })
    (e : TypeId) (i : TypeInfo) (z : Value) (by_ : Nat) (ht : P.underlying t = some (.slice e)) (hi : P.info? e = some i) (hz : i.zero = some z)
    (hsize : i.size = c) (hby : i.bytes = by_) (hzs : z.cells.size = c) (B : Nat) (fr : Nat) (hB : w.ownsRow fr e c (.slice (some ⟨B, 0, none⟩) 0 0) 0 []) (hfr : fr ≤ w.heap.size) (xv : Value) (xs : List α) (hs : a.eval s = .slice (some ⟨B, 0, none⟩) 0 0) (hx : a.eval x = xv) (hrow : RAt A c w xv xs) (hb : xs.length * by_ ≤ 140737488355328) (h63 : xs.length ≤ maxLen)
    (h : ∀ v' w', w'.ownsRow fr e c v' xs.length (rCells A xs) → Below w.heap.size w w' → wpList P ops Q rest (a.put o.dst v') w') : wpList P ops Q (o :: rest) a w := by
  refine wpList_plain hgd fun K hK => ?_
  obtain ⟨xo, cap, rfl, h1, h2, h4⟩ := hrow
  rcases Nat.eq_zero_or_pos xs.length with h0 | h0
  · obtain rfl : xs = [] := List.eq_nil_of_length_eq_zero h0
    have hsrc : Src P i.size t (.slice xo 0 cap) 0 [] w := by
      cases xo with
      | none => exact Src.ofNil w ht cap
      | some a => exact Src.ofSlice w ht a 0 cap [] (by simp) (fun j u h => by simp at h) (by simp)
    have hrun := run_append_nothing w t t o.type e i ht hi (some ⟨B, 0, none⟩) 0 0 (Nat.le_refl _) _ hsrc
    have hx' : a.eval x = .slice xo 0 cap := hx
    unfold Oper.wp
    simp [execOp, hop, resolve, invoke, builtin, hs, hx', hrun, Result.andThen]
    exact hK _ _ (h _ _ (by simpa [rCells] using hB) (Below.refl _ _))
  · obtain ⟨g, q, rfl, _, _⟩ := h4 0 _ (List.getElem?_eq_getElem h0)
    have h5 : ∀ i x, xs[i]? = some x → ∀ j u, (A x)[j]? = some u → w.cell? ⟨g, q + i * c + j, none⟩ = some u := by
      intro i x hi
      obtain ⟨g', q', he, _, p1⟩ := h4 i x hi
      simp only [Option.some.injEq, Addr.mk.injEq] at he
      obtain ⟨rfl, rfl, _⟩ := he
      exact p1
    obtain ⟨v', w', hrun, hown, hgrow⟩ := run_append_arg_grows (P := P) (w := w) t o.type e i z c by_ ht hi hz hsize hby hzs hc ⟨B, 0, none⟩ 0 0 [] (by simp) (fun j u h => by simp at h) ⟨g, q, none⟩ xs.length cap (rCells A xs) (by rw [rCells_length hA]) (rcells_at_all hA hc h5) (by omega) (by omega) (by rw [Nat.zero_add]; exact hb)
    simp only [Nat.zero_add, List.nil_append] at hown
    have hbel : Below w.heap.size w w' := (Below.refl _ _).grown hgrow (Nat.le_refl _) (by intro j hj; cases hj)
    unfold Oper.wp
    simp [execOp, hop, resolve, invoke, builtin, hs, hx, hrun, Result.andThen]
    refine hK _ _ (h _ _ ?_ hbel)
    obtain ⟨hl, hh⟩ := hown
    exact ⟨hl, hh.imp id fun ⟨g, cap, cur, he, hg, r⟩ => ⟨g, cap, cur, he, Nat.le_trans hfr hg, r⟩⟩
end
end Go.Proofs.YtgjdjdgondpjeaaGreat

/- Lists of lists, copies with marks behind them, and what Check answers, plainly. -/
namespace Go.Proofs.YtgjdjdgondpjeaaGreat
open Go.RowKit Go.Lib
set_option linter.unusedVariables false
set_option linter.unusedSimpArgs false
theorem arr_at (w : World) (A : Array Value) (t : TypeId) : ∀ j u, A.toList[j]? = some u → (w.alloc (.cells A t)).cell? ((⟨w.heap.size, 0, none⟩ : Addr).add j) = some u := by
  intro j u hj
  have hh : (w.alloc (.cells A t)).heap[w.heap.size]? = some (.cells A t (0, 0)) := heap_new _ _
  rw [Addr.add_lit, Nat.zero_add]
  exact cell_of hh (by simpa using hj)
def iA (x : Int) : Array Value := #[.int .i64 x]
theorem iA_size (x : Int) : (iA x).size = 1 := rfl
theorem info3i : (Tryz.prog.info? 3).map (fun i => (i.zero, i.size, i.bytes)) = some (some (.int .i64 0), 1, 8) := by kernel_rfl
theorem info42i : (Tryz.prog.info? 40).map (fun i => (i.zero, i.size, i.bytes)) = some (some (.int .u64 0), 1, 8) := by kernel_rfl
theorem RowAt.iat {w : World} {v : Value} {l : List Int} (h : RowAt .i64 w v l) : RAt iA 1 w v l := by
  have h0 := h
  obtain ⟨ao, cap, rfl, h1, h2, h3, h4⟩ := h
  refine ⟨ao, cap, rfl, h1, h2, fun i x hi => ?_⟩
  have hlt := (List.getElem?_eq_some_iff.1 hi).1
  obtain ⟨g, o, c, he, hc, hq⟩ := h0.cellAt i hlt
  simp only [Value.slice.injEq, true_and] at he
  obtain ⟨rfl, _⟩ := he
  refine ⟨g, o, rfl, block_of_cell hq, fun j u hu => ?_⟩
  have hj : j = 0 := by have := (Array.getElem?_eq_some_iff.1 hu).1; simp [iA] at this; omega
  subst hj
  simp [iA] at hu
  subst hu
  rw [Nat.mul_one, Nat.add_zero, hq]
  simp [at_, hi]
theorem iA_cells : ∀ R : List Int, rCells iA R = R.map (Value.int .i64)
  | [] => rfl
  | a :: l => by rw [rCells_cons, iA_cells l]; rfl
/-- A copy of ints in a row of its own, three marks behind it. -/
def M3 (w : World) (g c : Nat) (l : List Int) : Prop := ∃ fr, ROwn iA 1 3 w fr (.slice (some ⟨g, 0, none⟩) (l.length + 3) c) (l ++ [71, 72, 73])
theorem M3.lt {w : World} {g c : Nat} {l : List Int} (h : M3 w g c l) : g < w.heap.size := by
  obtain ⟨fr, h⟩ := h
  exact (h.lt g rfl).2
theorem M3.stay {w w' : World} {g c : Nat} {l : List Int} (h : M3 w g c l) (hb : w'.heap[g]? = w.heap[g]?) : M3 w' g c l := by
  obtain ⟨fr, h⟩ := h
  exact ⟨fr, h.stay fun k e => by cases e; exact hb⟩
theorem M3.below {w w' : World} {g c : Nat} {l : List Int} (h : M3 w g c l) (hb : Below w.heap.size w w') : M3 w' g c l := h.stay (hb.block g h.lt)
theorem M3.typ {w : World} {g c : Nat} {l : List Int} (h : M3 w g c l) : ∃ cs, w.heap[g]? = some (.cells cs 3 (0, 0)) := by
  obtain ⟨fr, h⟩ := h
  rcases h.cut with ⟨he, _⟩ | ⟨g', cap, cur, he, hg, hb, _⟩
  · cases he
  · simp only [Value.slice.injEq, Option.some.injEq, Addr.mk.injEq] at he
    obtain ⟨⟨rfl, _⟩, _⟩ := he
    exact ⟨cur, hb⟩
theorem M3.cap {w : World} {g c : Nat} {l : List Int} (h : M3 w g c l) : l.length + 3 ≤ c ∧ c ≤ 9223372036854775807 := by
  obtain ⟨fr, h⟩ := h
  obtain ⟨g', cap', he, h1, h2, h3, h4⟩ := ROwn.spot h (by simp)
  simp only [Value.slice.injEq, Option.some.injEq, Addr.mk.injEq] at he
  obtain ⟨⟨rfl, _⟩, _, rfl⟩ := he
  exact ⟨by simpa using h1, h2⟩
theorem M3.at {w : World} {g c : Nat} {l : List Int} (h : M3 w g c l) (i : Nat) (hi : i < l.length + 3) : w.cell? ⟨g, i, none⟩ = some (.int .i64 (at_ (l ++ [71, 72, 73]) i)) := by
  obtain ⟨fr, h⟩ := h
  have hk : (l ++ [71, 72, 73])[i]? = some (at_ (l ++ [71, 72, 73]) i) := by
    have : i < (l ++ [71, 72, 73]).length := by simp; omega
    simp only [at_, List.getElem?_eq_getElem this, Option.getD_some]
  have := ROwn.cell iA_size h hk 0 _ rfl
  rw [Nat.mul_one, Nat.add_zero] at this
  exact this
theorem M3.row {w : World} {g c : Nat} {l : List Int} (h : M3 w g c l) : RowAt .i64 w (.slice (some ⟨g, 0, none⟩) l.length c) l := by
  refine ⟨_, c, rfl, by have := h.cap; omega, h.cap.2, fun e => (by cases e), fun a ha i hi => ?_⟩
  cases ha
  rw [Addr.add_lit, Nat.zero_add, h.at i (by omega)]
  simp [at_, List.getElem?_append_left hi, hi]
theorem m3_made {w w1 w2 : World} {v1 v2 : Value} {l : List Int} {p : Obj} (h1 : w1.ownsRow w.heap.size 3 1 v1 l.length (rCells iA l)) (hb1 : Below w.heap.size w w1)
    (hown : w2.ownsRow w.heap.size 3 1 v2 (l.length + 3) (rCells iA l ++ [.int .i64 71, .int .i64 72, .int .i64 73])) (hgrow : (w1.alloc p).grownBy w2 v1.ownBlock) :
    ∃ g c, v2 = .slice (some ⟨g, 0, none⟩) (l.length + 3) c ∧ w.heap.size ≤ g ∧ M3 w2 g c l ∧ Below w.heap.size w w2 := by
  have hL : Below w.heap.size w w2 := (hb1.alloc hb1.size _).grown hgrow (by have := hb1.size; simp; omega) (fun j hj => (World.ownsRow.lt h1 j hj).1)
  have h3 : ROwn iA 1 3 w2 w.heap.size v2 (l ++ [71, 72, 73]) := by
    unfold ROwn
    rw [rCells_append, List.length_append]
    exact hown
  obtain ⟨g, cap, rfl, _, _, hge, _⟩ := h3.spot (by simp)
  have e : (l ++ [71, 72, 73]).length = l.length + 3 := by simp
  rw [e] at h3 ⊢
  exact ⟨g, cap, rfl, hge, ⟨_, h3⟩, hL⟩
/-- The i-th list. -/
def rowL (ls : List (List Int)) (i : Nat) : List Int := ls[i]?.getD []
/-- Lists of ints that lie at any address. -/
def RwsI (w : World) (v : Value) (ls : List (List Int)) : Prop := ∃ ao c, v = .slice ao ls.length c ∧ ls.length ≤ c ∧ c ≤ 9223372036854775807 ∧ ∀ i, i < ls.length → ∃ g o vi, ao = some ⟨g, o, none⟩ ∧ g < w.heap.size ∧ w.cell? ⟨g, o + i, none⟩ = some vi ∧ RowAt .i64 w vi (rowL ls i)
theorem RwsI.below {w w' : World} {v : Value} {ls : List (List Int)} (h : RwsI w v ls) (hb : Below w.heap.size w w') : RwsI w' v ls := by
  obtain ⟨ao, c, rfl, h1, h2, h3⟩ := h
  refine ⟨ao, c, rfl, h1, h2, fun i hi => ?_⟩
  obtain ⟨g, o, vi, e1, e2, e3, e4⟩ := h3 i hi
  exact ⟨g, o, vi, e1, Nat.lt_of_lt_of_le e2 hb.size, (below_cell hb e2).trans e3, e4.below hb⟩
theorem RwsI.shape {w : World} {v : Value} {ls : List (List Int)} (h : RwsI w v ls) : ∃ ao c, v = .slice ao ls.length c ∧ ls.length ≤ c := by
  obtain ⟨ao, c, h, h1, _⟩ := h; exact ⟨ao, c, h, h1⟩
theorem RwsI.at {w : World} {ao : Option Addr} {n c : Nat} {ls : List (List Int)} (h : RwsI w (.slice ao n c) ls) (i : Nat) (hi : i < ls.length) : ∃ g o io ic, ao = some ⟨g, o, none⟩ ∧ g < w.heap.size ∧ w.cell? ⟨g, o + i, none⟩ = some (.slice io (rowL ls i).length ic) ∧ RowAt .i64 w (.slice io (rowL ls i).length ic) (rowL ls i) := by
  obtain ⟨ao', c', he, h1, h2, h3⟩ := h
  simp only [Value.slice.injEq] at he
  obtain ⟨rfl, _, _⟩ := he
  obtain ⟨g, o, vi, e1, e2, e3, e4⟩ := h3 i hi
  obtain ⟨io, ic, rfl⟩ := e4.shape
  exact ⟨g, o, io, ic, e1, e2, e3, e4⟩
end Go.Proofs.YtgjdjdgondpjeaaGreat
