/- A list of edges in a block of its own. -/
import Derived.Test.YtmagigmcbegmiaaGKp
import Derived.Test.YtmagigmcbegmiaaGU
import Derived.Test.YtmagigmcbegmiaaKept
namespace Go.Proofs.Ytmagigmcbegmiaa
open Go.RowKit Go.Lib
set_option linter.unusedVariables false
set_option linter.unusedSimpArgs false
theorem eCells_append (a b : List Ed3) : eCells (a ++ b) = eCells a ++ eCells b := by simp [eCells]
/-- Edges in a block of their own, whole. -/
def EArr (w : World) (R : Nat) (l : List Ed3) : Prop := w.heap[R]? = some (.cells (eCells l).toArray 50 (0, 0))
theorem EArr.of_owns {w : World} {base R m : Nat} {l : List Ed3} (h : w.ownsRow base 50 3 (.slice (some ⟨R, 0, none⟩) m m) m (eCells l)) : EArr w R l ∧ base ≤ R := by
  obtain ⟨h0, ⟨hv, _⟩ | ⟨g, cap, cur, hv, hg, hb, h1, h2, h3, h4⟩⟩ := h
  · cases hv
  · simp only [Value.slice.injEq, Option.some.injEq, Addr.mk.injEq] at hv
    obtain ⟨⟨rfl, _, _⟩, _, rfl⟩ := hv
    refine ⟨?_, hg⟩
    unfold EArr
    rw [hb, ← h4, List.take_of_length_le (by simp [h3])]
theorem EArr.cell {w : World} {R : Nat} {l : List Ed3} (h : EArr w R l) {i : Nat} (hi : i < l.length) : w.cell? ⟨R, i * 3, none⟩ = some (.int .i64 (eAt l i).1) ∧ w.cell? ⟨R, i * 3 + 1, none⟩ = some (.int .i64 (eAt l i).2.1) ∧ w.cell? ⟨R, i * 3 + 2, none⟩ = some (.int .u64 (eAt l i).2.2) := by
  obtain ⟨p, q, r⟩ := eCells_at l i hi
  exact ⟨cell_of h (by simpa using p), cell_of h (by simpa using q), cell_of h (by simpa using r)⟩
theorem EArr.free {w : World} {R : Nat} {l : List Ed3} (h : EArr w R l) (i : Nat) : w.frozen? ⟨R, i, none⟩ = false := free_of h i
theorem EArr.eat {w : World} {R m c : Nat} {l : List Ed3} (h : EArr w R l) (hm : m ≤ l.length) (hc : m ≤ c) (h63 : c ≤ 9223372036854775807) : EAt w (.slice (some ⟨R, 0, none⟩) m c) (l.take m) := by
  have hl : (l.take m).length = m := by rw [List.length_take]; omega
  refine ⟨some ⟨R, 0, none⟩, c, by rw [hl], by omega, h63, fun i hi => ⟨R, 0, rfl, ?_⟩⟩
  have he : eAt (l.take m) i = eAt l i := by
    unfold eAt; rw [List.getElem?_take_of_lt (by omega)]
  rw [he, Nat.zero_add]
  exact h.cell (by omega)
theorem EArr.whole {w : World} {R m : Nat} {l : List Ed3} (h : EArr w R l) (hm : l.length = m) (h63 : m ≤ 9223372036854775807) : EAt w (.slice (some ⟨R, 0, none⟩) m m) l := by
  have := h.eat (m := m) (c := m) (by omega) (Nat.le_refl _) h63
  rwa [← hm, List.take_length, hm] at this
theorem EArr.below {w w' : World} {R B : Nat} {l : List Ed3} (h : EArr w R l) (k : Below B w w') (hb : R < B) : EArr w' R l := (k.block R hb).trans h
theorem eCells_set (l : List Ed3) (i : Nat) (hi : i < l.length) (x : Ed3) : (((eCells l).set (i * 3) (.int .i64 x.1)).set (i * 3 + 1) (.int .i64 x.2.1)).set (i * 3 + 2) (.int .u64 x.2.2) = eCells (l.set i x) := by
  induction l generalizing i with
  | nil => simp at hi
  | cons a l ih =>
    have e : ∀ (b : Ed3) (t : List Ed3), eCells (b :: t) = .int .i64 b.1 :: .int .i64 b.2.1 :: .int .u64 b.2.2 :: eCells t := fun b t => by simp [eCells]
    cases i with
    | zero => simp [e]
    | succ i =>
      have := ih i (by simpa using hi)
      rw [List.set_cons_succ, e, e, ← this, show (i + 1) * 3 = i * 3 + 3 by omega]
      simp [List.set_cons_succ]
theorem EArr.put {w : World} {R : Nat} {l : List Ed3} (h : EArr w R l) {i : Nat} (hi : i < l.length) (a b c : Int) : EArr (((w.setCell ⟨R, i * 3, none⟩ (.int .i64 a)).setCell ⟨R, i * 3 + 1, none⟩ (.int .i64 b)).setCell ⟨R, i * 3 + 2, none⟩ (.int .u64 c)) R (l.set i (a, b, c)) := by
  unfold EArr
  rw [heap_set (heap_set (heap_set h _) _) _, ← eCells_set l i hi (a, b, c)]
  simp
theorem Chg.three {S : Nat → Prop} {w : World} {R i j k : Nat} (hR : S R) (a b c : Value) : Chg S w (((w.setCell ⟨R, i, none⟩ a).setCell ⟨R, j, none⟩ b).setCell ⟨R, k, none⟩ c) :=
  (((Chg.refl S w).setCell (p := ⟨R, i, none⟩) hR a).setCell (p := ⟨R, j, none⟩) hR b).setCell (p := ⟨R, k, none⟩) hR c
end Go.Proofs.Ytmagigmcbegmiaa
