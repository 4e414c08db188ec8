/- OctetBack: the walk. -/
import Derived.Test.YtpfpelhhebafeaaDoorBack
import Derived.Laws.Rows
import Derived.Laws.Tables
import Derived.Laws.CopyOwn
import Derived.Deep.CutRange
namespace Go.Proofs.YtpfpelhhebafeaaDoor
open Go.RowKit Go.Lib
set_option linter.unusedVariables false

/-- A list of calls in memory. -/
def OpsAt (w : World) (v : Value) (ops : List OpR) : Prop :=
  ∃ ao c, v = .slice ao ops.length c ∧ ops.length ≤ c ∧ c ≤ 9223372036854775807 ∧ ∀ i o, ops[i]? = some o → ∃ g q, ao = some ⟨g, q, none⟩ ∧
    w.cell? ⟨g, q + i * 5, none⟩ = some (.int .i64 o.kind) ∧ w.cell? ⟨g, q + i * 5 + 1, none⟩ = some (.bool o.sec) ∧ w.cell? ⟨g, q + i * 5 + 2, none⟩ = some (.int .u64 (o.v : Int)) ∧ w.cell? ⟨g, q + i * 5 + 3, none⟩ = some (.int .i64 o.n) ∧ w.cell? ⟨g, q + i * 5 + 4, none⟩ = some o.bv
theorem OpsAt.below {w w' : World} {v : Value} {ops : List OpR} (h : OpsAt w v ops) (hb : Below w.heap.size w w') : OpsAt w' v ops := by
  obtain ⟨ao, c, he, h1, h2, h3⟩ := h
  refine ⟨ao, c, he, h1, h2, fun i o ho => ?_⟩
  obtain ⟨g, q, e, c0, c1, c2, c3, c4⟩ := h3 i o ho
  have hg := block_of_cell c0
  exact ⟨g, q, e, (below_cell hb hg).trans c0, (below_cell hb hg).trans c1, (below_cell hb hg).trans c2, (below_cell hb hg).trans c3, (below_cell hb hg).trans c4⟩
def opCells (D : List OpR) : List Value := D.flatMap OpR.cells
theorem opCells_len (D : List OpR) : (opCells D).length = D.length * 5 := by
  induction D with
  | nil => rfl
  | cons o D ih =>
    have : opCells (o :: D) = o.cells ++ opCells D := rfl
    rw [this, List.length_append, ih, List.length_cons]
    simp [OpR.cells]
    omega
/-- The calls that were done, in a row of one's own. -/
def DoneAt (w : World) (B : Nat) (v : Value) (D : List OpR) : Prop := w.ownsRow B 42 5 v D.length (opCells D)
theorem DoneAt.far {w w' : World} {B b : Nat} {v : Value} {D : List OpR} (h : DoneAt w B v D) (hf : ∀ k cs t fr, w.heap[k]? = some (.cells cs t fr) → t ≠ 5 → k ≠ b → w'.heap[k]? = some (.cells cs t fr)) (hb : ∀ cs fr, w.heap[b]? ≠ some (.cells cs 42 fr)) : DoneAt w' B v D := by
  obtain ⟨h1, h2 | ⟨g, cap, cur, he, hg, hh, hr⟩⟩ := h
  · exact ⟨h1, .inl h2⟩
  · refine ⟨h1, .inr ⟨g, cap, cur, he, hg, hf g _ _ _ hh (by decide) ?_, hr⟩⟩
    rintro rfl
    exact hb _ _ hh
theorem DoneAt.below {w w' : World} {B : Nat} {v : Value} {D : List OpR} (h : DoneAt w B v D) (hb : Below w.heap.size w w') : DoneAt w' B v D := by
  obtain ⟨h1, h2 | ⟨g, cap, cur, he, hg, hh, hr⟩⟩ := h
  · exact ⟨h1, .inl h2⟩
  · exact ⟨h1, .inr ⟨g, cap, cur, he, hg, (hb.block g (lt_of_heap hh)).trans hh, hr⟩⟩
theorem WOwn.below {w w' : World} {B b : Nat} {v : Value} {bs : List Int} (h : WOwn w B b v bs) (hb : Below w.heap.size w w') : WOwn w' B b v bs := by
  obtain ⟨h1, ⟨h2, h3 | ⟨g, cap, cur, he, hg, hh, hr⟩⟩, h4⟩ := h
  · exact ⟨(hb.block b (lt_of_heap h1)).trans h1, ⟨h2, .inl h3⟩, h4⟩
  · exact ⟨(hb.block b (lt_of_heap h1)).trans h1, ⟨h2, .inr ⟨g, cap, cur, he, hg, (hb.block g (lt_of_heap hh)).trans hh, hr⟩⟩, h4⟩
/-- A writer under an append to the calls that were done. -/
theorem WOwn.grown {w w' : World} {B b : Nat} {v d : Value} {bs : List Int} {D : List OpR} (h : WOwn w B b v bs) (hd : DoneAt w B d D) (hg : w.grownBy w' d.ownBlock) : WOwn w' B b v bs := by
  have hvo : ∀ k, d.ownBlock = some k → ∃ cs, w.heap[k]? = some (.cells cs 42 (0, 0)) := by
    intro k hk
    obtain ⟨_, ⟨rfl, _⟩ | ⟨g', cap', cur', rfl, hg', hh', _⟩⟩ := hd
    · cases hk
    · cases hk; exact ⟨cur', hh'⟩
  have keep : ∀ (k : Nat) (cs : Array Value) (t : TypeId), w.heap[k]? = some (.cells cs t (0, 0)) → t ≠ 42 → w'.heap[k]? = some (.cells cs t (0, 0)) := by
    intro k cs t hk ht
    rw [hg.block k (lt_of_heap hk) (fun e => by
      obtain ⟨cs', h5⟩ := hvo k e.symm
      rw [hk] at h5
      cases h5
      exact ht rfl)]
    exact hk
  obtain ⟨h1, ⟨h2, h3 | ⟨g, cap, cur, he, hgB, hh, hr⟩⟩, h4⟩ := h
  · exact ⟨keep _ _ _ h1 (by decide), ⟨h2, .inl h3⟩, h4⟩
  · exact ⟨keep _ _ _ h1 (by decide), ⟨h2, .inr ⟨g, cap, cur, he, hgB, keep _ _ _ hh (by decide), hr⟩⟩, h4⟩
theorem DoneAt.grown {w w' : World} {B : Nat} {d : Value} {D : List OpR} (hd : DoneAt w B d D) : ∀ k, d.ownBlock = some k → B ≤ k := by
  intro k hk
  obtain ⟨_, ⟨rfl, _⟩ | ⟨g', cap', cur', rfl, hg', hh', _⟩⟩ := hd
  · cases hk
  · cases hk; exact hg'

/-- The calls that were done, and what each wrote. -/
structure Wrote (D : List OpR) (S : List (List Int)) : Prop where
  len : S.length = D.length
  seg : ∀ j o s, D[j]? = some o → S[j]? = some s → Seg o (S.take j).flatten s
theorem Wrote.nil : Wrote [] [] := ⟨rfl, fun j o s h => by simp at h⟩
theorem Wrote.snoc {D : List OpR} {S : List (List Int)} {o : OpR} {s : List Int} (h : Wrote D S) (hs : Seg o S.flatten s) : Wrote (D ++ [o]) (S ++ [s]) := by
  refine ⟨by simp [h.len], fun j o' s' hj hs' => ?_⟩
  rcases Nat.lt_or_ge j D.length with hl | hl
  · rw [List.getElem?_append_left hl] at hj
    rw [List.getElem?_append_left (by rw [h.len]; exact hl)] at hs'
    rw [List.take_append_of_le_length (by rw [h.len]; omega)]
    exact h.seg j o' s' hj hs'
  · have hl2 : j < (D ++ [o]).length := (List.getElem?_eq_some_iff.1 hj).1
    simp at hl2
    obtain rfl : j = D.length := by omega
    rw [List.getElem?_concat_length] at hj
    have hsl : S.length = D.length := h.len
    rw [← hsl, List.getElem?_concat_length] at hs'
    cases hj
    cases hs'
    rw [← hsl, List.take_left]
    exact hs
theorem seg_bytes {o : OpR} {pre seg : List Int} (h : Seg o pre seg) (hb : ∀ x ∈ o.b, 0 ≤ x ∧ x < 256) : ∀ x ∈ seg, 0 ≤ x ∧ x < 256 := by
  rcases h with ⟨_, _, _, rfl⟩ | ⟨_, rfl⟩ | ⟨_, rfl⟩ | ⟨_, _, rfl⟩
  · exact le_bytes _ _
  · exact enc_bytes _
  · exact hb
  · exact le_bytes _ _
theorem seg_len {o : OpR} {pre seg : List Int} (h : Seg o pre seg) (hv : o.v < 18446744073709551616) : seg.length ≤ 10 + o.b.length := by
  rcases h with ⟨_, h1, _, rfl⟩ | ⟨_, rfl⟩ | ⟨_, rfl⟩ | ⟨_, _, rfl⟩
  · rw [le_length]; omega
  · have := (enc_ten hv).2; omega
  · omega
  · rw [le_length]; omega
end Go.Proofs.YtpfpelhhebafeaaDoor
