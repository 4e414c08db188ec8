/- What a graph is that Check lets by; numbers in a block; which blocks have turned. -/
import Derived.Test.YtmagigmcbegmiaaCheck
import Derived.Test.YtmagigmcbegmiaaFresh
namespace Go.Proofs.Ytmagigmcbegmiaa
open Go.RowKit Go.Lib
set_option linter.unusedVariables false
theorem first_none_of {p : Nat → Bool} {n : Nat} (h : first p n = none) : ∀ j, j < n → p j = false := by
  intro j hj
  unfold first at h
  have := List.find?_eq_none.1 h j (List.mem_range.2 hj)
  simpa using this
theorem first_of_some {p : Nat → Bool} {n i : Nat} (h : first p n = some i) : i < n ∧ p i = true := by
  unfold first at h
  rw [List.find?_range_eq_some] at h
  exact ⟨List.mem_range.1 h.2.1, h.1⟩

/-- What a graph is that Check lets by. -/
structure Good (n : Nat) (st tl wt : List Int) : Prop where
  n_le : n ≤ 1048576
  m_le : tl.length ≤ 4194304
  s_len : st.length = n + 1
  w_len : wt.length = tl.length
  rows : ∀ i, i < n + 1 → ¬ BadRow n tl.length st i
  edges : ∀ e, e < tl.length → edgeNo n (at_ tl e) (at_ wt e) = 0
theorem chk_good {N : Int} {st tl wt : List Int} (h : (chk N st tl wt).1 = 0) : ∃ n : Nat, N = n ∧ Good n st tl wt := by
  unfold chk at h
  by_cases hf : Fits N tl.length
  · rw [if_pos hf] at h
    by_cases hl : (st.length : Int) = N + 1 ∧ wt.length = tl.length
    · rw [if_pos hl] at h
      obtain ⟨f1, f2, f3⟩ := hf
      refine ⟨N.toNat, by omega, by omega, f3, by omega, hl.2, ?_, ?_⟩
      · cases hr : chkRows N.toNat tl.length st with
        | some i => rw [hr] at h; simp at h
        | none =>
          intro i hi hb
          have := first_none_of hr i hi
          simp [badRow] at this
          exact this hb
      · cases hr : chkRows N.toNat tl.length st with
        | some i => rw [hr] at h; simp at h
        | none =>
          rw [hr] at h
          simp only [chkEdges] at h
          cases he : first (badEdge N.toNat tl wt) tl.length with
          | some e =>
            rw [he] at h
            have hp := (first_of_some he).2
            simp only [badEdge, decide_eq_true_eq] at hp
            exact absurd h hp
          | none =>
            intro e hE
            have := first_none_of he e hE
            simp only [badEdge, decide_eq_false_iff_not, ne_eq, Decidable.not_not] at this
            exact this
    · rw [if_neg hl] at h; simp at h
  · rw [if_neg hf] at h; simp at h
theorem Good.step {n : Nat} {st tl wt : List Int} (h : Good n st tl wt) (i : Nat) (hi : i < n) : at_ st i ≤ at_ st (i + 1) := by
  have := h.rows (i + 1) (by omega)
  unfold BadRow at this
  have e : ahead st (i + 1) = at_ st i := by unfold ahead; rw [if_neg (by omega)]; rfl
  omega
theorem Good.mono {n : Nat} {st tl wt : List Int} (h : Good n st tl wt) (i j : Nat) (hij : i ≤ j) (hj : j ≤ n) : at_ st i ≤ at_ st j := by
  induction j with
  | zero => have : i = 0 := by omega
            subst this; omega
  | succ j ih =>
    rcases Nat.lt_or_ge i (j + 1) with h1 | h1
    · have := ih (by omega) (by omega)
      have := h.step j (by omega)
      omega
    · have : i = j + 1 := by omega
      subst this; omega
theorem Good.zero {n : Nat} {st tl wt : List Int} (h : Good n st tl wt) : at_ st 0 = 0 := by
  have := h.rows 0 (by omega)
  unfold BadRow at this
  have e : ahead st 0 = 0 := rfl
  omega
theorem Good.last {n : Nat} {st tl wt : List Int} (h : Good n st tl wt) : at_ st n = (tl.length : Int) := by
  have := h.rows n (by omega)
  unfold BadRow at this
  omega
theorem Good.range {n : Nat} {st tl wt : List Int} (h : Good n st tl wt) (i : Nat) (hi : i ≤ n) : 0 ≤ at_ st i ∧ at_ st i ≤ (tl.length : Int) := by
  have h1 := h.mono 0 i (by omega) hi
  have h2 := h.mono i n hi (Nat.le_refl _)
  rw [h.zero] at h1
  rw [h.last] at h2
  exact ⟨h1, h2⟩
theorem Good.vtx {n : Nat} {st tl wt : List Int} (h : Good n st tl wt) (e : Nat) (he : e < tl.length) : 0 ≤ at_ tl e ∧ at_ tl e < (n : Int) ∧ at_ wt e ≤ 4294967295 := by
  have := h.edges e he
  unfold edgeNo at this
  by_cases hv : IsV n (at_ tl e)
  · rw [if_pos hv] at this
    by_cases hw : 4294967295 < at_ wt e
    · rw [if_pos hw] at this; omega
    · exact ⟨hv.1, hv.2, by omega⟩
  · rw [if_neg hv] at this; omega

/-- The vertex in whose row the edge p stands. -/
def src (st : List Int) (n p : Nat) : Nat := (first (fun v => decide ((p : Int) < at_ st (v + 1))) n).getD 0
theorem src_eq {n : Nat} {st tl wt : List Int} (h : Good n st tl wt) {v p : Nat} (hv : v < n) (h1 : at_ st v ≤ (p : Int)) (h2 : (p : Int) < at_ st (v + 1)) : src st n p = v := by
  unfold src
  rw [first_some (p := fun v => decide ((p : Int) < at_ st (v + 1))) hv (decide_eq_true h2) (fun j hj => decide_eq_false (by have := h.mono (j + 1) v (by omega) (by omega); omega))]
  rfl
theorem src_lt {n : Nat} {st tl wt : List Int} (h : Good n st tl wt) {p : Nat} (hp : p < tl.length) : src st n p < n := by
  unfold src
  cases he : first (fun v => decide ((p : Int) < at_ st (v + 1))) n with
  | some v => exact (first_of_some he).1
  | none =>
    exfalso
    have h0 := first_none_of he
    have hl := h.last
    have hz := h.zero
    rcases Nat.eq_zero_or_pos n with hn | hn
    · subst hn; rw [hz] at hl; omega
    · have := h0 (n - 1) (by omega)
      simp only [decide_eq_false_iff_not] at this
      rw [show n - 1 + 1 = n by omega, hl] at this
      omega

def tab (n : Nat) (g : Nat → Int) : List Int := (List.range n).map g
theorem tab_length (n : Nat) (g : Nat → Int) : (tab n g).length = n := by simp [tab]
theorem tab_at (n : Nat) (g : Nat → Int) (i : Nat) (h : i < n) : at_ (tab n g) i = g i := by simp [tab, at_, h]
theorem tab_set (n : Nat) (g : Nat → Int) (a : Nat) (x : Int) : (tab n g).set a x = tab n (fun v => if v = a then x else g v) := by
  apply List.ext_getElem
  · simp [tab]
  · intro i h1 h2
    simp only [List.getElem_set, tab, List.getElem_map, List.getElem_range]
    by_cases h : a = i
    · subst h; simp
    · rw [if_neg h, if_neg (fun e => h e.symm)]
theorem tab_congr {n : Nat} {g h : Nat → Int} (e : ∀ v, v < n → g v = h v) : tab n g = tab n h := by
  apply List.ext_getElem
  · simp [tab]
  · intro i h1 h2
    simp only [tab, List.getElem_map, List.getElem_range]
    exact e i (by simpa [tab] using h1)

/-- A block of plain numbers. -/
def iCells (l : List Int) : Array Value := (l.map (Value.int .i64)).toArray
def Arr (w : World) (g : Nat) (l : List Int) : Prop := w.heap[g]? = some (.cells (iCells l) 3 (0, 0))
theorem Arr.cell {w : World} {g : Nat} {l : List Int} (h : Arr w g l) (i : Nat) (hi : i < l.length) : w.cell? ⟨g, i, none⟩ = some (.int .i64 (at_ l i)) := by
  refine cell_of h ?_
  simp [iCells, at_, hi]
theorem Arr.free {w : World} {g : Nat} {l : List Int} (h : Arr w g l) (i : Nat) : w.frozen? ⟨g, i, none⟩ = false := free_of h i
theorem Arr.put {w : World} {g : Nat} {l : List Int} (h : Arr w g l) (i : Nat) (x : Int) : Arr (w.setCell ⟨g, i, none⟩ (.int .i64 x)) g (l.set i x) := by
  have := heap_set (i := i) h (.int .i64 x)
  unfold Arr
  rw [this]
  simp [iCells]
theorem Arr.row {w : World} {g n : Nat} {l : List Int} (h : Arr w g l) (hn : l.length = n) (h63 : n ≤ 9223372036854775807) : RowAt .i64 w (.slice (some ⟨g, 0, none⟩) n n) l := by
  subst hn
  refine ⟨_, _, rfl, Nat.le_refl _, h63, (fun e => by cases e), fun a ha i hi => ?_⟩
  cases ha
  rw [Addr.add_lit, Nat.zero_add, h.cell i hi]
  rfl
theorem arr_made {w : World} {base g n : Nat} (h : w.ownsRow base 3 1 (.slice (some ⟨g, 0, none⟩) n n) n (madeCells (Value.int .i64 0).cells (n * 1)).toList) : Arr w g (tab n (fun _ => 0)) := by
  obtain ⟨h1, ⟨he, _⟩ | ⟨g', cap, cur, he, hg, hh, hnc, hcm, hcur, htake⟩⟩ := h
  · simp at he
  · simp only [Value.slice.injEq, Option.some.injEq, Addr.mk.injEq, true_and, and_true] at he
    obtain ⟨rfl, rfl⟩ := he
    rw [List.take_of_length_le (by simp; omega)] at htake
    unfold Arr
    rw [hh]
    have e : cur = iCells (tab n (fun _ => 0)) := by
      apply Array.ext'
      rw [htake]
      apply List.ext_getElem
      · simp [madeCells, iCells, tab]
      · intro i h1 h2
        simp [madeCells, iCells, Value.cells, Nat.mod_one, tab]
    rw [e]
theorem Arr.below {w w' : World} {g B : Nat} {l : List Int} (h : Arr w g l) (k : Below B w w') (hb : g < B) : Arr w' g l := (k.block g hb).trans h
/-- Only the blocks of S have turned. -/
structure Chg (S : Nat → Prop) (w w' : World) : Prop where
  os : w'.os = w.os
  tape : w'.tape = w.tape
  output : w'.output = w.output
  size : w.heap.size ≤ w'.heap.size
  block : ∀ k, k < w.heap.size → ¬ S k → w'.heap[k]? = w.heap[k]?
theorem Chg.refl (S : Nat → Prop) (w : World) : Chg S w w := ⟨rfl, rfl, rfl, Nat.le_refl _, fun _ _ _ => rfl⟩
theorem Chg.trans {S : Nat → Prop} {x y z : World} (h : Chg S x y) (k : Chg S y z) : Chg S x z :=
  ⟨k.os.trans h.os, k.tape.trans h.tape, k.output.trans h.output, Nat.le_trans h.size k.size,
    fun i hi hb => (k.block i (Nat.lt_of_lt_of_le hi h.size) hb).trans (h.block i hi hb)⟩
theorem Chg.mono {S T : Nat → Prop} {x y : World} (h : Chg S x y) (k : ∀ i, S i → T i) : Chg T x y :=
  ⟨h.os, h.tape, h.output, h.size, fun i hi hb => h.block i hi (fun hs => hb (k i hs))⟩
/-- What S has beyond the old blocks is no matter. -/
theorem Chg.old {S T : Nat → Prop} {x y : World} (h : Chg S x y) (k : ∀ i, i < x.heap.size → S i → T i) : Chg T x y :=
  ⟨h.os, h.tape, h.output, h.size, fun i hi hb => h.block i hi (fun hs => hb (k i hi hs))⟩
theorem Chg.setCell {S : Nat → Prop} {a w : World} (h : Chg S a w) {p : Addr} (hp : S p.block) (u : Value) : Chg S a (w.setCell p u) :=
  h.trans ⟨rfl, rfl, rfl, by simp [World.setCell], fun k _ hb => Below.heap_setCell _ _ _ _ (fun e => hb (e ▸ hp))⟩
theorem Chg.setNew {S : Nat → Prop} {a w : World} (h : Chg S a w) {p : Addr} (hp : a.heap.size ≤ p.block) (u : Value) : Chg S a (w.setCell p u) :=
  ⟨h.os, h.tape, h.output, by simpa [World.setCell] using h.size, fun k hk hb => (Below.heap_setCell _ _ _ _ (by omega)).trans (h.block k hk hb)⟩
theorem Chg.alloc {S : Nat → Prop} {a w : World} (h : Chg S a w) (o : Obj) : Chg S a (w.alloc o) :=
  ⟨h.os, h.tape, h.output, by have := h.size; simp; omega, fun k hk hb => (Below.heap_alloc _ _ _ (by have := h.size; omega)).trans (h.block k hk hb)⟩
theorem Chg.drew {S : Nat → Prop} {a w : World} (h : Chg S a w) : Chg S a w.drew := ⟨h.os, h.tape, h.output, h.size, h.block⟩
theorem Chg.of_below {S : Nat → Prop} {w w' : World} (h : Below w.heap.size w w') : Chg S w w' :=
  ⟨h.os, h.tape, h.output, h.size, fun k hk _ => h.block k hk⟩
theorem Chg.grown {S : Nat → Prop} {a w w' : World} {row : Option Nat} (h : Chg S a w) (hg : w.grownBy w' row) (hr : ∀ k, row = some k → S k ∨ a.heap.size ≤ k) : Chg S a w' :=
  ⟨hg.os.trans h.os, hg.tape.trans h.tape, hg.output.trans h.output, Nat.le_trans h.size hg.size,
    fun k hk hb => (hg.block k (Nat.lt_of_lt_of_le hk h.size) (fun e => by rcases hr k e.symm with h | h; exact hb h; omega)).trans (h.block k hk hb)⟩
theorem Chg.below {S : Nat → Prop} {B : Nat} {a w w' : World} (h : Below B a w) (k : Chg S w w') (hb : ∀ i, S i → B ≤ i) (hs : B ≤ w.heap.size) : Below B a w' :=
  h.trans ⟨k.os, k.tape, k.output, k.size, fun i hi => k.block i (by omega) (fun h => by have := hb i h; omega)⟩
theorem Chg.heap {S : Nat → Prop} {w w' : World} (h : Chg S w w') {k : Nat} {o : Obj} (hk : w.heap[k]? = some o) (hb : ¬ S k) : w'.heap[k]? = some o := by
  rw [h.block k (lt_of_heap hk) hb]; exact hk
end Go.Proofs.Ytmagigmcbegmiaa
