import Derived.Test.YtmagigmcbegmiaaBeI
import Derived.Test.YtmagigmcbegmiaaGOf
import Derived.Test.YtmagigmcbegmiaaTe
/- 'append([]api.Edge{}, l...)'. -/
namespace Go.Proofs.Ytmagigmcbegmiaa
open Go.RowKit Go.Lib
set_option linter.unusedVariables false
set_option linter.unusedSimpArgs false
theorem EAt.cells {w : World} {ad : Addr} {c : Nat} {l : List Ed3} (h : EAt w (.slice (some ad) l.length c) l) : ∀ j u, (eCells l)[j]? = some u → w.cell? (ad.add j) = some u := by
  intro j u hu
  have hj : j < l.length * 3 := by rw [← eCells_length]; exact (List.getElem?_eq_some_iff.mp hu).1
  obtain ⟨ao, c', he, _, _, h3⟩ := h
  simp only [Value.slice.injEq] at he
  obtain ⟨rfl, _, _⟩ := he
  obtain ⟨g, o, hg, p, q, r⟩ := h3 (j / 3) (by omega)
  cases hg
  obtain ⟨e0, e1, e2⟩ := eCells_at l (j / 3) (by omega)
  rw [Addr.add_lit]
  have hm : j % 3 = 0 ∨ j % 3 = 1 ∨ j % 3 = 2 := by omega
  rcases hm with hm | hm | hm
  · have : j = j / 3 * 3 := by omega
    rw [this] at hu ⊢
    rw [e0] at hu; cases hu; exact p
  · have : j = j / 3 * 3 + 1 := by omega
    rw [this] at hu ⊢
    rw [e1] at hu; cases hu; rw [← Nat.add_assoc]; exact q
  · have : j = j / 3 * 3 + 2 := by omega
    rw [this] at hu ⊢
    rw [e2] at hu; cases hu; rw [← Nat.add_assoc]; exact r
theorem wpList_freshE {w : World} {ops : Array Oper} {rest : List Oper} {o : Oper} {a : Act} {Q : Exit → Act → World → Prop} (hgd : o.guard = none) (s x : Operand)
    (hop : o.op = .call { callee := .builtin .append, args := #[s, x], argTypes := #[45, 45] })
    (B fr : Nat) (hB : w.ownsRow fr 50 3 (.slice (some ⟨B, 0, none⟩) 0 0) 0 []) (hfr : fr ≤ w.heap.size) (xv : Value) (l : List Ed3) (hs : a.eval s = .slice (some ⟨B, 0, none⟩) 0 0) (hx : a.eval x = xv) (hrow : EAt w xv l) (hb : l.length * 24 ≤ 140737488355328)
    (h : ∀ v' w', w'.ownsRow fr 50 3 v' l.length (eCells l) → Below w.heap.size w w' → wpList Try.prog ops Q rest (a.put o.dst v') w') : wpList Try.prog ops Q (o :: rest) a w := by
  obtain ⟨i, hi, hz, hsize, hby⟩ := info_parts3 Try.info50'
  refine wpList_plain hgd fun K hK => ?_
  obtain ⟨xo, c, rfl, h1, h2, h3⟩ := id hrow
  rcases Nat.eq_zero_or_pos l.length with h0 | h0
  · obtain rfl : l = [] := List.eq_nil_of_length_eq_zero h0
    have hsrc : Src Try.prog i.size 45 (.slice xo 0 c) 0 [] w := by
      cases xo with
      | none => exact Src.ofNil w Try.underlying45 c
      | some a => exact Src.ofSlice w Try.underlying45 a 0 c [] (by simp) (fun j u h => by simp at h) (by simp)
    have hrun := run_append_nothing w 45 45 o.type 50 i Try.underlying45 hi (some ⟨B, 0, none⟩) 0 0 (Nat.le_refl _) _ hsrc
    have hx' : a.eval x = .slice xo 0 c := hx
    unfold Oper.wp
    simp [execOp, hop, resolve, invoke, builtin, hs, hx', hrun, Result.andThen]
    exact hK _ _ (h _ _ (by simpa [eCells] using hB) (Below.refl _ _))
  · obtain ⟨g, o', rfl, _⟩ := h3 0 h0
    obtain ⟨v', w', hrun, hown, hgrow⟩ := run_append_arg_grows (P := Try.prog) (w := w) 45 o.type 50 i (.agg #[.int .i64 0, .int .i64 0, .int .u64 0]) 3 24 Try.underlying45 hi hz hsize hby rfl (by decide) ⟨B, 0, none⟩ 0 0 [] rfl (fun j u h => by simp at h) ⟨g, o', none⟩ l.length c (eCells l) (eCells_length l) hrow.cells (by omega) (by unfold maxLen; omega) (by rw [Nat.zero_add]; exact hb)
    simp only [Nat.zero_add, List.nil_append] at hown
    have hbel : Below w.heap.size w w' := (Below.refl _ _).grown hgrow (Nat.le_refl _) (by intro j hj; cases hj)
    unfold Oper.wp
    simp [execOp, hop, resolve, invoke, builtin, hs, hx, hrun, Result.andThen]
    refine hK _ _ (h _ _ ?_ hbel)
    exact ownA_base hown hfr
end Go.Proofs.Ytmagigmcbegmiaa

/- GraphBuilds: one call after the other. -/
namespace Go.Proofs.Ytmagigmcbegmiaa
open Go.RowKit Go.Lib
set_option linter.unusedVariables false
set_option linter.unusedSimpArgs false
/-- A book with nothing in it. -/
theorem bk_new (x : World) : Bk x.heap.size x.heap.size (x.alloc (.cells #[.slice none 0 0, .slice none 0 0, .slice none 0 0] 56)) [] [] [] [] := by
  refine ⟨⟨⟨.slice none 0 0, .slice none 0 0, heap_new _ _, World.ownsRow_nil _ _ _ _, World.ownsRow_nil _ _ _ _, fun g q => (by cases q), fun g q => (by cases q)⟩, Nat.le_refl _, by simp⟩, ⟨rfl, fun i v l h => (by simp at h), fun i j u v b h => (by simp at h)⟩, ⟨rfl, fun i v l h => (by simp at h), fun i j u v b h => (by simp at h)⟩⟩
/-- The book behind k calls; all below it is as it was. -/
structure BS (B : Nat) (X0 y : World) (k : Nat) : Prop where
  ex : ∃ L1 L2 ls1 ls2, Bk B B y L1 L2 ls1 ls2 ∧ L1.length = 2 * k ∧ L2.length = k ∧ (∀ l ∈ ls1, l.length ≤ 1099511627776) ∧ (∀ l ∈ ls2, l.length ≤ 1099511627776)
  bel : Below B X0 y
theorem BS.start (x : World) : BS x.heap.size x (x.alloc (.cells #[.slice none 0 0, .slice none 0 0, .slice none 0 0] 56)) 0 :=
  ⟨⟨[], [], [], [], bk_new x, rfl, rfl, by simp, by simp⟩, below_alloc (Below.refl _ _) _⟩
theorem nsL_all {ls : List (List Int)} {K : Nat} (h : ∀ l ∈ ls, l.length ≤ K) (p : Nat) : nsL ls p ≤ K := by
  unfold nsL
  cases q : ls[p]? with
  | none => simp
  | some l => simpa using h l (List.mem_of_getElem? q)
theorem BS.step {B k : Nat} {X0 y : World} {N : Int} {ev ev' : Value} {l : List Ed3} (h : BS B X0 y k) (hk : k ≤ 400) (hB : B = X0.heap.size) (h1 : EAt X0 ev l) (h2 : EAt X0 ev' l) (hlu : ∀ i, i < l.length → 0 ≤ (eAt l i).2.2) :
    Calls Try.prog 21 #[.pointer (some ⟨B, 0, none⟩), .agg #[.int .i64 N, ev], .agg #[.int .i64 N, ev']] y fun e y' => e = .returned (.bool true) ∧ BS B X0 y' (k + 1) := by
  obtain ⟨L1, L2, ls1, ls2, hb, e1, e2, q1, q2⟩ := h.ex
  have hbel : Below X0.heap.size X0 y := by rw [← hB]; exact h.bel
  refine (builds_any B B N ev ev' l L1 L2 y hb.h (h1.below hbel) (h2.below hbel) hlu (by omega) (by omega)).mono ?_
  rintro e w' ⟨rfl, hd, va, vb, vc, st, tl, wt, _, hbk, n1, n2, n3⟩
  refine ⟨rfl, ⟨L1 ++ [va, vb], L2 ++ [vc], ls1 ++ [st, tl], ls2 ++ [wt], hbk ls1 ls2 hb.l1 hb.l2, by simp; omega, by simp; omega, fun m hm => ?_, fun m hm => ?_⟩, h.bel.trans hd.low_below⟩
  · simp only [List.mem_append, List.mem_cons, List.not_mem_nil, or_false] at hm
    rcases hm with hm | rfl | rfl
    · exact q1 m hm
    · exact n1
    · exact n2
  · simp only [List.mem_append, List.mem_cons, List.not_mem_nil, or_false] at hm
    rcases hm with hm | rfl
    · exact q2 m hm
    · exact n3
/-- The book behind apart. -/
structure BT (B : Nat) (X0 y : World) (k : Nat) : Prop where
  ex : ∃ L1 L2, BkH B y.heap.size B y L1 L2 ∧ L1.length = 2 * k ∧ L2.length = k
  bel : Below B X0 y
theorem BS.apart {B k : Nat} {X0 y : World} (h : BS B X0 y k) (hk : k ≤ 400) : Calls Try.prog 22 #[.pointer (some ⟨B, 0, none⟩)] y fun e y' => e = .returned (.bool true) ∧ BT B X0 y' k := by
  obtain ⟨L1, L2, ls1, ls2, hb, e1, e2, q1, q2⟩ := h.ex
  refine (apart_any B y.heap.size B L1 L2 ls1 ls2 y hb.h hb.l1 hb.l2 (by omega) (by omega) (nsL_all q1) (nsL_all q2)).mono ?_
  rintro e w' ⟨rfl, hf⟩
  obtain ⟨p1, p2⟩ := hb.apart hf
  exact ⟨rfl, ⟨L1, L2, p1, e1, e2⟩, h.bel.trans p2⟩
/-- A last call, behind apart: whatever lies there now. -/
theorem BkH.step {B : Nat} {y : World} {L1 L2 : List Value} {N : Int} {ev ev' : Value} {l : List Ed3} (h : BkH B y.heap.size B y L1 L2) (hl1 : L1.length ≤ 900) (hl2 : L2.length ≤ 900) (h1 : EAt y ev l) (h2 : EAt y ev' l) (hlu : ∀ i, i < l.length → 0 ≤ (eAt l i).2.2) :
    Calls Try.prog 21 #[.pointer (some ⟨B, 0, none⟩), .agg #[.int .i64 N, ev], .agg #[.int .i64 N, ev']] y fun e y' => e = .returned (.bool true) ∧ Below B y y' ∧ ∀ (b : Nat) (cur : Array Value), y.heap[b]? = some (.cells cur 50 (0, 0)) → y'.heap[b]? = y.heap[b]? := by
  refine (builds_any B B N ev ev' l L1 L2 y h h1 h2 hlu hl1 hl2).mono ?_
  rintro e w' ⟨rfl, hd, _⟩
  exact ⟨rfl, hd.low_below, fun b cur hc => hd.keep b cur 50 hc (by decide) (by decide) (by decide)⟩
theorem own_full {w : World} {base g n cap : Nat} {l : List Ed3} (h : w.ownsRow base 50 3 (.slice (some ⟨g, 0, none⟩) (n + 2) cap) (n + 2) (eCells l ++ [.int .i64 (-71), .int .i64 0, .int .u64 0, .int .i64 (-72), .int .i64 0, .int .u64 0])) (hn : n = l.length) : EAt w (.slice (some ⟨g, 0, none⟩) (n + 2) cap) (l ++ [(-71, 0, 0), (-72, 0, 0)]) := by
  have e : (l ++ [((-71 : Int), (0 : Int), (0 : Int)), (-72, 0, 0)]).length = n + 2 := by simp [hn]
  have := EAt.of_owns (w := w) (B := base) (v := .slice (some ⟨g, 0, none⟩) (n + 2) cap) (l := l ++ [(-71, 0, 0), (-72, 0, 0)]) (by rw [e]; simpa [eCells] using h)
  exact this
end Go.Proofs.Ytmagigmcbegmiaa

/- GraphBuilds: the list whose weights are halved in place. -/
namespace Go.Proofs.Ytmagigmcbegmiaa
open Go.RowKit Go.Lib
set_option linter.unusedVariables false
set_option linter.unusedSimpArgs false
/-- An edge with half its weight. -/
def hf1 (x : Ed3) : Ed3 := (x.1, x.2.1, x.2.2 / 2)
/-- The first k halved. -/
def hvL (l : List Ed3) (k : Nat) : List Ed3 := (l.take k).map hf1 ++ l.drop k
theorem hvL_zero (l : List Ed3) : hvL l 0 = l := by simp [hvL]
theorem hvL_length (l : List Ed3) (k : Nat) : (hvL l k).length = l.length := by simp [hvL]; omega
theorem hvL_get (l : List Ed3) (k i : Nat) : (hvL l k)[i]? = if i < k then l[i]?.map hf1 else l[i]? := by
  unfold hvL
  by_cases hi : i < k
  · rw [if_pos hi]
    by_cases hl : i < l.length
    · rw [List.getElem?_append_left (by simp; omega), List.getElem?_map, List.getElem?_take_of_lt hi]
    · rw [List.getElem?_eq_none (by simp; omega), List.getElem?_eq_none (by omega)]; rfl
  · rw [if_neg hi]
    by_cases hk : k ≤ l.length
    · rw [List.getElem?_append_right (by simp; omega), List.getElem?_drop]
      congr 1
      simp; omega
    · rw [List.getElem?_eq_none (by simp; omega), List.getElem?_eq_none (by omega)]
theorem hvL_step (l : List Ed3) (k : Nat) (hk : k < l.length) (m : List Ed3) : (hvL l k ++ m).set k (hf1 (eAt l k)) = hvL l (k + 1) ++ m := by
  rw [List.set_append_left _ _ (by rw [hvL_length]; exact hk)]
  congr 1
  apply List.ext_getElem?
  intro i
  rw [hvL_get, List.getElem?_set, hvL_get, hvL_length]
  by_cases e : k = i
  · subst e
    rw [if_pos rfl, if_pos hk, if_pos (by omega)]
    unfold eAt
    rw [List.getElem?_eq_getElem hk]
    rfl
  · rw [if_neg e]
    by_cases h1 : i < k
    · rw [if_pos h1, if_pos (by omega)]
    · rw [if_neg h1, if_neg (by omega)]
theorem hvL_at (l : List Ed3) (k : Nat) (hk : k < l.length) (m : List Ed3) : eAt (hvL l k ++ m) k = eAt l k := by
  unfold eAt
  rw [List.getElem?_append_left (by rw [hvL_length]; exact hk), hvL_get, if_neg (by omega)]
theorem hvL_nn (l : List Ed3) (k : Nat) (h : ∀ i, i < l.length → 0 ≤ (eAt l i).2.2) : ∀ i, i < (hvL l k).length → 0 ≤ (eAt (hvL l k) i).2.2 := by
  intro i hi
  rw [hvL_length] at hi
  have hq := h i hi
  unfold eAt at hq ⊢
  rw [hvL_get]
  rw [List.getElem?_eq_getElem hi] at hq ⊢
  split
  · simp [hf1] at hq ⊢; omega
  · exact hq
/-- Edges at the head of a block. -/
def FA (w : World) (g : Nat) (L : List Ed3) : Prop := ∃ T : List Value, w.heap[g]? = some (.cells (eCells L ++ T).toArray 50 (0, 0))
theorem FA.of_owns {w : World} {base g m cap : Nat} {L : List Ed3} (h : w.ownsRow base 50 3 (.slice (some ⟨g, 0, none⟩) m cap) m (eCells L)) : FA w g L ∧ base ≤ g := by
  obtain ⟨h0, ⟨hv, _⟩ | ⟨g', cap', cur, hv, hg, hb, h1, h2, h3, h4⟩⟩ := h
  · cases hv
  · simp only [Value.slice.injEq, Option.some.injEq, Addr.mk.injEq] at hv
    obtain ⟨⟨rfl, _, _⟩, _, rfl⟩ := hv
    refine ⟨⟨cur.toList.drop (m * 3), ?_⟩, hg⟩
    rw [hb, ← h4, List.take_append_drop]
theorem FA.get {L : List Ed3} {T : List Value} {i : Nat} (hi : i < L.length) : (eCells L ++ T)[i * 3]? = some (.int .i64 (eAt L i).1) ∧ (eCells L ++ T)[i * 3 + 1]? = some (.int .i64 (eAt L i).2.1) ∧ (eCells L ++ T)[i * 3 + 2]? = some (.int .u64 (eAt L i).2.2) := by
  obtain ⟨p, q, r⟩ := eCells_at L i hi
  have hl := eCells_length L
  refine ⟨?_, ?_, ?_⟩
  · rw [List.getElem?_append_left (by rw [hl]; omega)]; exact p
  · rw [List.getElem?_append_left (by rw [hl]; omega)]; exact q
  · rw [List.getElem?_append_left (by rw [hl]; omega)]; exact r
theorem FA.cell {w : World} {g : Nat} {L : List Ed3} (h : FA w g L) {i : Nat} (hi : i < L.length) : w.cell? ⟨g, i * 3, none⟩ = some (.int .i64 (eAt L i).1) ∧ w.cell? ⟨g, i * 3 + 1, none⟩ = some (.int .i64 (eAt L i).2.1) ∧ w.cell? ⟨g, i * 3 + 2, none⟩ = some (.int .u64 (eAt L i).2.2) := by
  obtain ⟨T, h⟩ := h
  obtain ⟨p, q, r⟩ := FA.get (T := T) hi
  exact ⟨cell_of h (by simpa using p), cell_of h (by simpa using q), cell_of h (by simpa using r)⟩
theorem FA.free {w : World} {g : Nat} {L : List Ed3} (h : FA w g L) (i : Nat) : w.frozen? ⟨g, i, none⟩ = false := by
  obtain ⟨T, h⟩ := h
  exact free_of h i
theorem FA.lt {w : World} {g : Nat} {L : List Ed3} (h : FA w g L) : g < w.heap.size := by
  obtain ⟨T, h⟩ := h
  exact lt_of_heap h
theorem FA.below {w w' : World} {g : Nat} {L : List Ed3} (h : FA w g L) (k : Below w.heap.size w w') : FA w' g L := by
  have hl := h.lt
  obtain ⟨T, h⟩ := h
  exact ⟨T, (k.block g hl).trans h⟩
theorem FA.eat {w : World} {g m c : Nat} {L l : List Ed3} (h : FA w g (l ++ L)) (hm : l.length = m) (hc : m ≤ c) (h63 : c ≤ 9223372036854775807) : EAt w (.slice (some ⟨g, 0, none⟩) m c) l := by
  refine ⟨some ⟨g, 0, none⟩, c, by rw [hm], by omega, h63, fun i hi => ⟨g, 0, rfl, ?_⟩⟩
  have he : eAt (l ++ L) i = eAt l i := by
    unfold eAt; rw [List.getElem?_append_left hi]
  have := h.cell (i := i) (by simp; omega)
  rw [he] at this
  rw [Nat.zero_add]
  exact this
theorem FA.half {w : World} {g : Nat} {L : List Ed3} (h : FA w g L) {i : Nat} (hi : i < L.length) (c : Int) : FA (w.setCell ⟨g, i * 3 + 2, none⟩ (.int .u64 c)) g (L.set i ((eAt L i).1, (eAt L i).2.1, c)) := by
  obtain ⟨T, h⟩ := h
  refine ⟨T, ?_⟩
  obtain ⟨p, q, _⟩ := eCells_at L i hi
  have hl := eCells_length L
  have e1 : (eCells L).set (i * 3) (.int .i64 (eAt L i).1) = eCells L := by
    apply List.ext_getElem?
    intro j
    rw [List.getElem?_set]
    split
    · rename_i e; subst e; rw [if_pos (by rw [hl]; omega), p]
    · rfl
  have e2 : (eCells L).set (i * 3 + 1) (.int .i64 (eAt L i).2.1) = eCells L := by
    apply List.ext_getElem?
    intro j
    rw [List.getElem?_set]
    split
    · rename_i e; subst e; rw [if_pos (by rw [hl]; omega), q]
    · rfl
  rw [heap_set h _, ← eCells_set L i hi]
  simp only [e1, e2]
  rw [List.setIfInBounds_toArray, List.set_append_left _ _ (by rw [hl]; omega)]
theorem BkH.chg {base top B g : Nat} {w w' : World} {L1 L2 : List Value} {L : List Ed3} (h : BkH base top B w L1 L2) (hf : FA w g L) (hc : Chg (fun b => b = g) w w') : BkH base top B w' L1 L2 := by
  obtain ⟨v1, v2, h1, h2, h3, h4⟩ := h.ex
  obtain ⟨T, hT⟩ := hf
  have key : ∀ (b : Nat) (cur : Array Value) (t : TypeId), w.heap[b]? = some (.cells cur t (0, 0)) → t ≠ 50 → w'.heap[b]? = w.heap[b]? := fun b cur t hb ht => by
    rw [hb]
    exact hc.heap hb (by rintro rfl; rw [hT] at hb; cases hb; exact ht rfl)
  exact ⟨⟨v1, v2, (key _ _ _ h1 (by decide)).trans h1, ownA_stay h2 (fun b hb => let ⟨c, hc⟩ := ownA_type h2 hb; key b c _ hc (by decide)), ownA_stay h3 (fun b hb => let ⟨c, hc⟩ := ownA_type h3 hb; key b c _ hc (by decide)), h4⟩, h.le, h.lt⟩
end Go.Proofs.Ytmagigmcbegmiaa
