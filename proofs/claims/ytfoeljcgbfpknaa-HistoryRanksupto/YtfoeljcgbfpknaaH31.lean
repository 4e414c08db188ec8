/- The document's Ranks: what it reckons with. -/
import Derived.Test.YtfoeljcgbfpknaaH30
namespace Go.Proofs.Ytfoeljcgbfpknaa
open Go.RowKit Go.Lib
set_option linter.unusedVariables false
set_option linter.unusedSimpArgs false
theorem rkO_take (l : List Tk) (ky : Int) : ∀ i, i ≤ l.length → rkO l ky i = (l.take i).countP (fun t => decide (t.key < ky))
  | 0, _ => by simp [rkO]
  | i + 1, hi => by
    have ih := rkO_take l ky i (by omega)
    have e : tkAt l i = l[i] := by simp [tkAt, show i < l.length by omega]
    unfold rkO
    rw [List.take_add_one, List.getElem?_eq_getElem (by omega), Option.toList_some, List.countP_append, ← ih, e]
    by_cases h : l[i].key < ky
    · rw [if_pos h]; simp [h]
    · rw [if_neg h]; simp [h]
theorem rkO_all (l : List Tk) (ky : Int) : rkO l ky l.length = l.countP (fun t => decide (t.key < ky)) := by rw [rkO_take l ky _ (Nat.le_refl _), List.take_length]
/-- One that is no more urgent than itself is taken out. -/
theorem rk_erase {l : List Tk} {ky ld : Int} {j : Nat} (hj : j < l.length) (he : tkAt l j = ⟨ky, ld⟩) : rkO (l.eraseIdx j) ky (l.eraseIdx j).length = rkO l ky l.length := by
  have e : tkAt l j = l[j] := by simp [tkAt, hj]
  rw [rkO_all, rkO_all, List.eraseIdx_eq_take_drop_succ]
  conv => rhs; rw [← List.take_append_drop j l, List.drop_eq_getElem_cons hj]
  rw [List.countP_append, List.countP_append, List.countP_cons, ← e, he]
  simp
theorem sm_front (R : List Int) (x : Int) : ∀ i, i ≤ R.length → sm (R ++ [x]) i = sm R i
  | 0, _ => rfl
  | i + 1, hi => by
    unfold sm
    rw [sm_front R x i (by omega)]
    congr 1
    simp [at_, List.getElem?_append_left (show i < R.length by omega)]
theorem mx_front (R : List Int) (x : Int) : ∀ i, i ≤ R.length → mx (R ++ [x]) i = mx R i
  | 0, _ => rfl
  | i + 1, hi => by
    unfold mx
    rw [mx_front R x i (by omega)]
    congr 1
    simp [at_, List.getElem?_append_left (show i < R.length by omega)]
theorem sm_snoc (R : List Int) (x : Int) : sm (R ++ [x]) (R ++ [x]).length = sm R R.length + x := by
  rw [List.length_append]
  show sm (R ++ [x]) R.length + at_ (R ++ [x]) R.length = _
  rw [sm_front R x _ (Nat.le_refl _)]
  simp [at_]
theorem mx_snoc (R : List Int) (x : Int) : mx (R ++ [x]) (R ++ [x]).length = max (mx R R.length) x := by
  rw [List.length_append]
  show max (mx (R ++ [x]) R.length) (at_ (R ++ [x]) R.length) = _
  rw [mx_front R x _ (Nat.le_refl _)]
  simp [at_]
/-- What is told of ranks so far, without the mean. -/
def rk0 (R : List Int) : Array Value := #[.int .i64 R.length, .int .i64 (mx R R.length), .int .i64 (sm R R.length), .float .f64 0, .float .f64 0]
/-- The bag, the ranks, and two boxes. -/
structure DR (w W : World) (A B : Nat) (cs : Array Value) (vb : Value) (c : List Tk) (vr : Value) (R : List Int) : Prop where
  pb : PB w W vb c vr R
  su : SU w W A B cs
section
variable {w W W' W5 : World} {A B : Nat} {cs : Array Value} {vb vr v5 : Value} {c : List Tk} {R : List Int}
theorem SU.stay (h : SU w W A B cs) (hb : Below w.heap.size w W') (hk : ∀ k : Nat, (∃ x : Array Value, W.heap[k]? = some (Obj.cells x 36 (0, 0))) → W'.heap[k]? = W.heap[k]?) : SU w W' A B cs :=
  ⟨hb, h.geA, h.geB, h.ne, (hk A ⟨_, h.res⟩).trans h.res, (hk B ⟨_, h.out⟩).trans h.out⟩
theorem DR.on (h : DR w W A B cs vb c vr R) (hb : Below W.heap.size W W') : DR w W' A B cs vb c vr R := ⟨h.pb.on hb, h.su.on hb⟩
theorem DR.push {t : Tk} {p : Obj} {n : Nat} (h : DR w W A B cs vb c vr R) (hn : c.length = n) (hown : W5.ownsRow w.heap.size 67 2 v5 (n + 1) (rCells Tk.arr c ++ t.arr.toList)) (hgrow : (W.alloc p).grownBy W5 vb.ownBlock) : DR w W5 A B cs v5 (c ++ [t]) vr R := by
  have hp := h.pb.push hn hown hgrow
  refine ⟨hp, h.su.stay hp.bag.bel fun k ⟨x, hx⟩ => ?_⟩
  have hlt := lt_of_heap hx
  rw [hgrow.block k (by simp; omega) (fun q => by
    obtain ⟨y, hy⟩ := own_typed h.pb.bag.own q.symm
    rw [hx] at hy; simp at hy)]
  exact Below.heap_alloc _ _ _ hlt
theorem DR.rank {x : Int} {p : Obj} {n : Nat} (h : DR w W A B cs vb c vr R) (hn : R.length = n) (hown : W5.ownsRow w.heap.size 3 1 v5 (n + 1) (rCells iA R ++ (iA x).toList)) (hgrow : (W.alloc p).grownBy W5 vr.ownBlock) : DR w W5 A B cs vb c v5 (R ++ [x]) := by
  have hp := h.pb.rank hn hown hgrow
  refine ⟨hp, h.su.stay hp.bag.bel fun k ⟨x, hx⟩ => ?_⟩
  have hlt := lt_of_heap hx
  rw [hgrow.block k (by simp; omega) (fun q => by
    obtain ⟨y, hy⟩ := own_typed h.pb.rk q.symm
    rw [hx] at hy; simp at hy)]
  exact Below.heap_alloc _ _ _ hlt
theorem DR.wo {L : List Tk} (h : DR w W A B cs vb c vr R) (ht : TO W W' v5 L) : DR w W' A B cs v5 L vr R :=
  ⟨⟨⟨below_on h.pb.bag.bel ht.bel, ht.own.base h.pb.bag.bel.size⟩, h.pb.rk.below ht.bel⟩, h.su.on ht.bel⟩
theorem DR.set (h : DR w W A B cs vb c vr R) (k : Nat) (u : Value) : DR w (W.setCell ⟨B, k, none⟩ u) A B (cs.setIfInBounds k u) vb c vr R := by
  have hne : ∀ {g : Nat}, (∃ (t : TypeId) (x : Array Value), t ≠ 36 ∧ W.heap[g]? = some (Obj.cells x t (0, 0))) → (W.setCell ⟨B, k, none⟩ u).heap[g]? = W.heap[g]? := fun {g} ⟨t, x, ht, hx⟩ =>
    Below.heap_setCell _ _ _ _ (fun e => by
      have h1 := h.su.out
      simp only at e
      rw [← e, hx] at h1
      simp only [Option.some.injEq, Obj.cells.injEq] at h1
      exact ht h1.2.1)
  exact ⟨⟨⟨h.pb.bag.bel.setCell (p := ⟨B, k, none⟩) h.su.geB u, h.pb.bag.own.stay fun g e => hne (by obtain ⟨x, hx⟩ := own_typed h.pb.bag.own e; exact ⟨67, x, by decide, hx⟩)⟩,
    h.pb.rk.stay fun g e => hne (by obtain ⟨x, hx⟩ := own_typed h.pb.rk e; exact ⟨3, x, by decide, hx⟩)⟩, h.su.set k u⟩
end
end Go.Proofs.Ytfoeljcgbfpknaa
