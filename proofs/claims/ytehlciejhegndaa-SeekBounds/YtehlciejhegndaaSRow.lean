/- Starts in memory; what a graph is that Check lets by. -/
import Derived.Test.YtehlciejhegndaaTerms
import Derived.Laws.StructEq
import Derived.ChangeKeysEq
namespace Go.Proofs.Ytehlciejhegndaa
open Go.RowKit Go.Lib
set_option linter.unusedVariables false

theorem first_none_of {p : Nat → Bool} {n : Nat} (h : first p n = none) : ∀ j, j < n → p j = false := by
  intro j hj
  unfold first at h
  have := List.find?_eq_none.1 h j (List.mem_range.2 hj)
  simpa using this
theorem first_of_some {p : Nat → Bool} {n i : Nat} (h : first p n = some i) : i < n ∧ p i = true := by
  unfold first at h
  rw [List.find?_range_eq_some] at h
  exact ⟨List.mem_range.1 h.2.1, h.1⟩

/-- What a graph is that Check lets by. -/
structure Good (n : Nat) (st to wt : List Int) : Prop where
  n_le : n ≤ 1048576
  m_le : to.length ≤ 4194304
  s_len : st.length = n + 1
  w_len : wt.length = to.length
  rows : ∀ i, i < n + 1 → ¬ BadRow n to.length st i
  edges : ∀ e, e < to.length → edgeNo n (at_ to e) (at_ wt e) = 0
theorem chk_good {N : Int} {st to wt : List Int} (h : (chk N st to wt).1 = 0) : ∃ n : Nat, N = n ∧ Good n st to wt := by
  unfold chk at h
  by_cases hf : Fits N to.length
  · rw [if_pos hf] at h
    by_cases hl : (st.length : Int) = N + 1 ∧ wt.length = to.length
    · rw [if_pos hl] at h
      obtain ⟨f1, f2, f3⟩ := hf
      refine ⟨N.toNat, by omega, by omega, f3, by omega, hl.2, ?_, ?_⟩
      · cases hr : chkRows N.toNat to.length st with
        | some i => rw [hr] at h; simp at h
        | none =>
          intro i hi hb
          have := first_none_of hr i hi
          simp [badRow] at this
          exact this hb
      · cases hr : chkRows N.toNat to.length st with
        | some i => rw [hr] at h; simp at h
        | none =>
          rw [hr] at h
          simp only [chkEdges] at h
          cases he : first (badEdge N.toNat to wt) to.length with
          | some e =>
            rw [he] at h
            have hp := (first_of_some he).2
            simp only [badEdge, decide_eq_true_eq] at hp
            exact absurd h hp
          | none =>
            intro e hE
            have := first_none_of he e hE
            simp only [badEdge, decide_eq_false_iff_not, ne_eq, Decidable.not_not] at this
            exact this
    · rw [if_neg hl] at h; simp at h
  · rw [if_neg hf] at h; simp at h
theorem fst_good {N : Int} {st to wt : List Int} {k : Int} (h : fstNo N st to wt k = 0) : (1 ≤ k ∧ k ≤ 4) ∧ ∃ n : Nat, N = n ∧ Good n st to wt := by
  unfold fstNo at h
  by_cases hc : (chk N st to wt).1 = 0
  · rw [if_pos hc] at h
    refine ⟨?_, chk_good hc⟩
    by_cases hk : 1 ≤ k ∧ k ≤ 4
    · exact hk
    · rw [kindNo_bad hk] at h; omega
  · rw [if_neg hc] at h; exact absurd h hc

def sAt (l : List (Int × Int)) (i : Nat) : Int × Int := l[i]?.getD (0, 0)
/-- Starts in memory: nil, or at the head of a block. -/
def SRow (w : World) (v : Value) (l : List (Int × Int)) : Prop :=
  (v = .slice none 0 0 ∧ l = []) ∨ ∃ g c, v = .slice (some ⟨g, 0, none⟩) l.length c ∧ l.length ≤ c ∧ c ≤ 9223372036854775807 ∧
    ∀ i, i < l.length → w.cell? ⟨g, i * 2, none⟩ = some (.int .i64 (sAt l i).1) ∧ w.cell? ⟨g, i * 2 + 1, none⟩ = some (.int .u64 (sAt l i).2)
theorem SRow.below {w w' : World} {v : Value} {l : List (Int × Int)} (h : SRow w v l) (hb : Below w.heap.size w w') : SRow w' v l := by
  rcases h with h | ⟨g, c, rfl, h1, h2, h3⟩
  · exact .inl h
  · refine .inr ⟨g, c, rfl, h1, h2, fun i hi => ?_⟩
    obtain ⟨p, q⟩ := h3 i hi
    have hl : g < w.heap.size := block_of_cell p
    exact ⟨(below_cell hb hl).trans p, (below_cell hb hl).trans q⟩
theorem SRow.nil (w : World) : SRow w (.slice none 0 0) [] := .inl ⟨rfl, rfl⟩

/-- The starts' cells. -/
def sCells (l : List (Int × Int)) : List Value := l.flatMap fun p => [.int .i64 p.1, .int .u64 p.2]
theorem sCells_length (l : List (Int × Int)) : (sCells l).length = l.length * 2 := by
  induction l with
  | nil => rfl
  | cons a l ih => simp [sCells] at ih ⊢; omega
theorem sCells_at (l : List (Int × Int)) (i : Nat) (h : i < l.length) : (sCells l)[i * 2]? = some (.int .i64 (sAt l i).1) ∧ (sCells l)[i * 2 + 1]? = some (.int .u64 (sAt l i).2) := by
  induction l generalizing i with
  | nil => simp at h
  | cons a l ih =>
    cases i with
    | zero => simp [sCells, sAt]
    | succ i =>
      have := ih i (by simpa using h)
      have e : sCells (a :: l) = [.int .i64 a.1, .int .u64 a.2] ++ sCells l := by simp [sCells]
      rw [e, show (i + 1) * 2 = i * 2 + 2 by omega]
      simp only [sAt, List.getElem?_cons_succ] at this ⊢
      constructor
      · rw [List.getElem?_append_right (by simp)]; simpa using this.1
      · rw [List.getElem?_append_right (by simp)]; simpa using this.2
theorem sCells_snoc (l : List (Int × Int)) (p : Int × Int) : sCells (l ++ [p]) = sCells l ++ [.int .i64 p.1, .int .u64 p.2] := by simp [sCells]

theorem SRow.of_owns {w : World} {base : Nat} {v : Value} {l : List (Int × Int)} (h : w.ownsRow base 47 2 v l.length (sCells l)) : SRow w v l := by
  obtain ⟨h1, h2⟩ := h
  rcases h2 with ⟨rfl, hn⟩ | ⟨g, cap, cur, rfl, hg, hh, hnc, hcm, hcur, htake⟩
  · exact .inl ⟨rfl, List.eq_nil_of_length_eq_zero hn⟩
  · refine .inr ⟨g, cap, rfl, hnc, hcm, fun i hi => ?_⟩
    obtain ⟨p, q⟩ := sCells_at l i hi
    rw [← htake] at p q
    rw [List.getElem?_take_of_lt (by omega)] at p q
    simp only [World.cell?, hh]
    exact ⟨by simpa using p, by simpa using q⟩

def upTo (n : Nat) : List (Int × Int) := (List.range n).map fun (v : Nat) => ((v : Int), (v : Int))
theorem upTo_length (n : Nat) : (upTo n).length = n := by simp [upTo]
theorem upTo_at {n i : Nat} (h : i < n) : sAt (upTo n) i = ((i : Int), (i : Int)) := by simp [sAt, upTo, h]
theorem upTo_succ (n : Nat) : upTo (n + 1) = upTo n ++ [((n : Int), (n : Int))] := by simp [upTo, List.range_succ]
/-- What Starts answers. -/
def startsL (k : Int) (n : Nat) (f : Int) : List (Int × Int) := if k = 4 then upTo n else [(f, 0)]

/-- A block of n starts, of which the first i are i, i. -/
def Filled (w : World) (g n i : Nat) : Prop := ∃ cs, w.heap[g]? = some (.cells cs 47 (0, 0)) ∧ cs.size = n * 2 ∧ ∀ j, j < i → cs[j * 2]? = some (.int .i64 (j : Int)) ∧ cs[j * 2 + 1]? = some (.int .u64 (j : Int))
theorem Filled.at_ {w : World} {g n i k : Nat} (h : Filled w g n i) (hk : k < n * 2) : (∃ u, w.cell? ⟨g, k, none⟩ = some u) ∧ w.frozen? ⟨g, k, none⟩ = false := by
  obtain ⟨cs, h1, h2, h3⟩ := h
  exact ⟨⟨cs[k], cell_of h1 (by simp [h2, hk])⟩, free_of h1 k⟩
theorem Filled.next {w : World} {g n i : Nat} (h : Filled w g n i) (hi : i < n) : Filled ((w.setCell ⟨g, i * 2, none⟩ (.int .i64 (i : Int))).setCell ⟨g, i * 2 + 1, none⟩ (.int .u64 (i : Int))) g n (i + 1) := by
  obtain ⟨cs, h1, h2, h3⟩ := h
  refine ⟨_, heap_set (heap_set h1 _) _, by simp [h2], fun j hj => ?_⟩
  rcases Nat.lt_or_ge j i with h | h
  · obtain ⟨p, q⟩ := h3 j h
    constructor
    · rw [Array.getElem?_setIfInBounds_ne (by omega), Array.getElem?_setIfInBounds_ne (by omega)]; exact p
    · rw [Array.getElem?_setIfInBounds_ne (by omega), Array.getElem?_setIfInBounds_ne (by omega)]; exact q
  · obtain rfl : j = i := by omega
    constructor
    · rw [Array.getElem?_setIfInBounds_ne (by omega), Array.getElem?_setIfInBounds_self_of_lt (by omega)]
    · rw [Array.getElem?_setIfInBounds_self_of_lt (by simp; omega)]
theorem Filled.srow {w : World} {g n : Nat} (h : Filled w g n n) (hn : n ≤ 9223372036854775807) : SRow w (.slice (some ⟨g, 0, none⟩) n n) (upTo n) := by
  obtain ⟨cs, h1, h2, h3⟩ := h
  refine .inr ⟨g, n, by rw [upTo_length], by rw [upTo_length]; omega, hn, fun i hi => ?_⟩
  rw [upTo_length] at hi
  obtain ⟨p, q⟩ := h3 i hi
  rw [upTo_at hi]
  exact ⟨cell_of h1 p, cell_of h1 q⟩
theorem filled_made {w : World} {base g n : Nat} {l : List Value} (h : w.ownsRow base 47 2 (.slice (some ⟨g, 0, none⟩) n n) n l) : Filled w g n 0 := by
  obtain ⟨h1, ⟨he, _⟩ | ⟨g', cap, cur, he, hg, hh, hnc, hcm, hcur, htake⟩⟩ := h
  · simp at he
  · simp only [Value.slice.injEq, Option.some.injEq, Addr.mk.injEq, true_and, and_true] at he
    obtain ⟨rfl, rfl⟩ := he
    exact ⟨cur, hh, hcur, fun j hj => absurd hj (Nat.not_lt_zero _)⟩
end Go.Proofs.Ytehlciejhegndaa
