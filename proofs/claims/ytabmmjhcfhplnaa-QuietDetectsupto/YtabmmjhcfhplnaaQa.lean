/- QuietCounts: its memory. -/
import Derived.Test.YtabmmjhcfhplnaaQ9
namespace Go.Proofs.Ytabmmjhcfhplnaa
open Go.RowKit Go.Lib
set_option linter.unusedVariables false
theorem block_of_cell {w : World} {a : Addr} {v : Value} (h : w.cell? a = some v) : a.block < w.heap.size := by
  rcases Nat.lt_or_ge a.block w.heap.size with hl | hl
  · exact hl
  · unfold World.cell? at h
    rw [Array.getElem?_eq_none hl] at h
    simp at h
theorem ne_type {w : World} {g h : Nat} {cs cs' : Array Value} {t t' : TypeId} {fr fr' : Nat × Nat} (h1 : w.heap[g]? = some (.cells cs t fr)) (h2 : w.heap[h]? = some (.cells cs' t' fr')) (ht : t ≠ t') : g ≠ h := by
  rintro rfl
  rw [h1] at h2
  simp at h2
  exact ht h2.2.1
/-- Makes that come in. -/
def MAt (w : World) (v : Value) (l : List Mk) : Prop :=
  ∃ ao c, v = .slice ao l.length c ∧ l.length ≤ c ∧ c ≤ 9223372036854775807 ∧
    ∀ i, i < l.length → ∃ g o, ao = some ⟨g, o, none⟩ ∧ w.cell? ⟨g, o + i * 2, none⟩ = some (.int .i64 (mAt l i).1) ∧ w.cell? ⟨g, o + i * 2 + 1, none⟩ = some (.int .u64 (mAt l i).2)
theorem MAt.below {w w' : World} {v : Value} {l : List Mk} (h : MAt w v l) (hb : Below w.heap.size w w') : MAt w' v l := by
  obtain ⟨ao, c, rfl, h1, h2, h3⟩ := h
  refine ⟨ao, c, rfl, h1, h2, fun i hi => ?_⟩
  obtain ⟨g, o, he, p, q⟩ := h3 i hi
  have hl : g < w.heap.size := block_of_cell p
  exact ⟨g, o, he, (below_cell hb hl).trans p, (below_cell hb hl).trans q⟩
/-- Picks that come in. -/
def IAt (w : World) (v : Value) (l : List Int) : Prop :=
  ∃ ao c, v = .slice ao l.length c ∧ l.length ≤ c ∧ c ≤ 9223372036854775807 ∧
    ∀ i, i < l.length → ∃ g o, ao = some ⟨g, o, none⟩ ∧ w.cell? ⟨g, o + i, none⟩ = some (.int .i64 (nth l i))
theorem IAt.below {w w' : World} {v : Value} {l : List Int} (h : IAt w v l) (hb : Below w.heap.size w w') : IAt w' v l := by
  obtain ⟨ao, c, rfl, h1, h2, h3⟩ := h
  refine ⟨ao, c, rfl, h1, h2, fun i hi => ?_⟩
  obtain ⟨g, o, he, p⟩ := h3 i hi
  have hl : g < w.heap.size := block_of_cell p
  exact ⟨g, o, he, (below_cell hb hl).trans p⟩
def okM (m : Mk) : Bool := !(mkPh m.1 == 4 && m.2 == 0)
def flt (l : List Mk) (i : Nat) : List Mk := (l.take i).filter okM
theorem mAt_get {l : List Mk} {i : Nat} (hi : i < l.length) : mAt l i = l[i] := by simp [mAt, hi]
theorem flt_pos {l : List Mk} {i : Nat} (hi : i < l.length) (h : ¬ (mkPh (mAt l i).1 = 4 ∧ (mAt l i).2 = 0)) : flt l (i + 1) = flt l i ++ [mAt l i] := by
  rw [mAt_get hi] at h ⊢
  have hk : okM l[i] = true := by
    unfold okM
    by_cases h4 : mkPh l[i].1 = 4
    · have : ¬ l[i].2 = 0 := fun e => h ⟨h4, e⟩
      simp [h4, this]
    · simp [h4]
  unfold flt
  rw [List.take_succ_eq_append_getElem hi, List.filter_append, List.filter_cons_of_pos hk, List.filter_nil]
theorem flt_neg {l : List Mk} {i : Nat} (hi : i < l.length) (h : mkPh (mAt l i).1 = 4 ∧ (mAt l i).2 = 0) : flt l (i + 1) = flt l i := by
  rw [mAt_get hi] at h
  unfold flt
  rw [List.take_succ_eq_append_getElem hi, List.filter_append, List.filter_cons_of_neg (show ¬ okM l[i] = true by unfold okM; simp [h.1, h.2]), List.filter_nil, List.append_nil]
theorem flt_len (l : List Mk) (i : Nat) : (flt l i).length ≤ i := by
  have := List.length_filter_le okM (l.take i)
  have h2 := List.length_take_le i l
  unfold flt
  omega
def ptrs (bl : List Nat) : List Value := bl.map fun q => .pointer (some ⟨q, 0, none⟩)
structure PM (w0 w : World) (Y0 b gc : Nat) (xs : List Int) (ov : Value) (bl : List Nat) (ms : List Mk) : Prop where
  ar : AIs w Y0 b gc (.slice none 0 0) (Ast.laid xs)
  row : w.ownsRow Y0 30 1 ov ms.length (ptrs bl)
  len : bl.length = ms.length
  op : ∀ k, k < ms.length → w.heap[gd bl k]? = some (mkOp (mAt ms k)).obj
  inj : ∀ i j, i < j → j < ms.length → gd bl i ≠ gd bl j
  lo : ∀ k, k < ms.length → Y0 ≤ gd bl k
  bel : Below w0.heap.size w0 w
  y0 : w0.heap.size ≤ Y0
  b0 : w0.heap.size ≤ b
  g0 : w0.heap.size ≤ gc
section
variable {w0 w w2 w3 w4 : World} {Y0 b gc q : Nat} {xs : List Int} {ov ov' : Value} {bl : List Nat} {ms : List Mk} {m : Mk}
theorem PM.below (h : PM w0 w Y0 b gc xs ov bl ms) (hb : Below w.heap.size w w2) : PM w0 w2 Y0 b gc xs ov bl ms :=
  ⟨h.ar.below hb, ownsRow_block h.row (fun i hi => hb.block i (owns_lt h.row hi).2), h.len, fun k hk => (hb.block _ (lt_of_heap (h.op k hk))).trans (h.op k hk), h.inj, h.lo, below_on h.bel hb, h.y0, h.b0, h.g0⟩
theorem gd_snoc (bl : List Nat) (q k : Nat) : gd (bl ++ [q]) k = if k < bl.length then gd bl k else if k = bl.length then q else 0 := by
  unfold gd
  simp only [List.getD, List.getElem?_append]
  split
  · rfl
  · rename_i h
    split
    · rename_i e; subst e; simp
    · rename_i e; rw [List.getElem?_eq_none (by simp; omega)]; rfl
theorem mAt_snoc (ms : List Mk) (m : Mk) (k : Nat) : mAt (ms ++ [m]) k = if k < ms.length then mAt ms k else if k = ms.length then m else (0, 0) := by
  unfold mAt
  simp only [List.getElem?_append]
  split
  · rfl
  · rename_i h
    split
    · rename_i e; subst e; simp
    · rename_i e; rw [List.getElem?_eq_none (by simp; omega)]; rfl
theorem PM.push (h : PM w0 w Y0 b gc xs ov bl ms) (hb : Below w.heap.size w w3) (hq : w3.heap[q]? = some (mkOp m).obj) (hql : w.heap.size ≤ q) (h1 : w4.ownsRow Y0 30 1 ov' (ms.length + 1) (ptrs bl ++ [.pointer (some ⟨q, 0, none⟩)])) (h2 : w3.grownBy w4 ov.ownBlock) : PM w0 w4 Y0 b gc xs ov' (bl ++ [q]) (ms ++ [m]) := by
  have h3 := h.below hb
  have hne : ∀ k, k < w3.heap.size → (∀ g, ov.ownBlock = some g → k ≠ g) → w4.heap[k]? = w3.heap[k]? := fun k hk hg => h2.block k hk (fun e => hg k e.symm rfl)
  have hrow : ∀ g, ov.ownBlock = some g → ∃ cur fr, w3.heap[g]? = some (.cells cur 30 fr) := fun g hg => by
    obtain ⟨_, ⟨rfl, _⟩ | ⟨g', cap, cur, rfl, hg', hc, _⟩⟩ := h3.row
    · cases hg
    · cases hg; exact ⟨cur, _, hc⟩
  have hop : ∀ k, k < ms.length → w4.heap[gd bl k]? = some (mkOp (mAt ms k)).obj := fun k hk => by
    rw [hne _ (lt_of_heap (h3.op k hk)) (fun g hg e => by obtain ⟨cur, fr, hc⟩ := hrow g hg; exact ne_type (h3.op k hk) hc (by decide) e)]
    exact h3.op k hk
  have hq4 : w4.heap[q]? = some (mkOp m).obj := by
    rw [hne q (lt_of_heap hq) (fun g hg e => by obtain ⟨cur, fr, hc⟩ := hrow g hg; exact ne_type hq hc (by decide) e)]
    exact hq
  have hlt : ∀ k, k < ms.length → gd bl k < w.heap.size := fun k hk => lt_of_heap (h.op k hk)
  have hyw := h.ar.yw
  refine ⟨?_, by rw [List.length_append]; simpa [ptrs] using h1, by simp [h.len], fun k hk => ?_, fun i j hij hj => ?_, fun k hk => ?_, ?_, h.y0, h.b0, h.g0⟩
  · refine ⟨?_, ?_, ?_, h.ar.bY, h.ar.gY, h.ar.ne, h.ar.len, Nat.le_trans h3.ar.yw h2.size⟩
    · rw [hne b (lt_of_heap h3.ar.hb) (fun g hg e => by have := (owns_lt h3.row hg).1; have := h.ar.bY; omega)]; exact h3.ar.hb
    · rw [hne gc (lt_of_heap h3.ar.hc) (fun g hg e => by have := (owns_lt h3.row hg).1; have := h.ar.gY; omega)]; exact h3.ar.hc
    · obtain ⟨a, r⟩ := h3.ar.hl
      rcases r with r | ⟨g, cap, cur, hv, _⟩
      · exact ⟨a, .inl r⟩
      · cases hv
  · rw [List.length_append] at hk
    simp only [List.length_cons, List.length_nil] at hk
    rw [gd_snoc, mAt_snoc, h.len]
    by_cases hl : k < ms.length
    · rw [if_pos hl, if_pos hl]; exact hop k hl
    · rw [if_neg hl, if_neg hl, if_pos (by omega), if_pos (by omega)]; exact hq4
  · rw [List.length_append] at hj
    simp only [List.length_cons, List.length_nil] at hj
    rw [gd_snoc, gd_snoc, h.len, if_pos (show i < ms.length by omega)]
    by_cases hl : j < ms.length
    · rw [if_pos hl]; exact h.inj i j hij hl
    · rw [if_neg hl, if_pos (by omega)]
      have := hlt i (by omega)
      omega
  · rw [List.length_append] at hk
    simp only [List.length_cons, List.length_nil] at hk
    rw [gd_snoc, h.len]
    by_cases hl : k < ms.length
    · rw [if_pos hl]; exact h.lo k hl
    · rw [if_neg hl, if_pos (by omega)]; omega
  · exact h3.bel.grown h2 h3.bel.size (fun j hj => by have := (owns_lt h3.row hj).1; have := h.y0; omega)
end
/-- Two lists of one's own, from w3 on: numbers and words. -/
structure KM (w3 w : World) (kv cv : Value) (ks cs : List Int) : Prop where
  k : w.ownsRow w3.heap.size 3 1 kv ks.length (ks.map (Value.int .i64))
  c : w.ownsRow w3.heap.size 27 1 cv cs.length (cs.map (Value.int .u64))
  bel : Below w3.heap.size w3 w
section
variable {w3 w x y : World} {kv cv kv' cv' : Value} {ks cs : List Int} {a : Int}
theorem KM.start (w3 : World) : KM w3 w3 (.slice none 0 0) (.slice none 0 0) [] [] := ⟨World.ownsRow_nil _ _ _ _, World.ownsRow_nil _ _ _ _, Below.refl _ _⟩
theorem KM.below (h : KM w3 w kv cv ks cs) (hb : Below w.heap.size w x) : KM w3 x kv cv ks cs :=
  ⟨ownsRow_block h.k (fun i hi => hb.block i (owns_lt h.k hi).2), ownsRow_block h.c (fun i hi => hb.block i (owns_lt h.c hi).2), below_on h.bel hb⟩
theorem KM.apart (h : KM w3 w kv cv ks cs) : ∀ g, kv.ownBlock = some g → cv.ownBlock ≠ some g := fun g hg hc => by
  obtain ⟨_, ⟨rfl, _⟩ | ⟨g1, c1, u1, rfl, _, hh1, _⟩⟩ := h.k
  · cases hg
  obtain ⟨_, ⟨rfl, _⟩ | ⟨g2, c2, u2, rfl, _, hh2, _⟩⟩ := h.c
  · cases hc
  cases hg; cases hc
  exact ne_type hh1 hh2 (by decide) rfl
theorem KM.pushK (h : KM w3 w kv cv ks cs) (hb : Below w.heap.size w x) (h1 : y.ownsRow w3.heap.size 3 1 kv' (ks.length + 1) (ks.map (Value.int .i64) ++ [.int .i64 a])) (h2 : x.grownBy y kv.ownBlock) : KM w3 y kv' cv (ks ++ [a]) cs := by
  have hx := h.below hb
  exact ⟨by simpa using h1, ownsRow_block hx.c (fun i hi => h2.block i (owns_lt hx.c hi).2 (fun e => hx.apart i e.symm hi)), hx.bel.grown h2 hx.bel.size (fun j hj => (owns_lt hx.k hj).1)⟩
theorem KM.pushC (h : KM w3 w kv cv ks cs) (hb : Below w.heap.size w x) (h1 : y.ownsRow w3.heap.size 27 1 cv' (cs.length + 1) (cs.map (Value.int .u64) ++ [.int .u64 a])) (h2 : x.grownBy y cv.ownBlock) : KM w3 y kv cv' ks (cs ++ [a]) := by
  have hx := h.below hb
  exact ⟨ownsRow_block hx.k (fun i hi => h2.block i (owns_lt hx.k hi).2 (fun e => hx.apart i hi e.symm)), by simpa using h1, hx.bel.grown h2 hx.bel.size (fun j hj => (owns_lt hx.c hj).1)⟩
end
end Go.Proofs.Ytabmmjhcfhplnaa
