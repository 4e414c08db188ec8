/- slices.BinarySearch over a list of numbers that never falls; source. -/
import Derived.Test.YtehlciejhegndaaSrc
namespace Go.Proofs.Ytehlciejhegndaa
open Go.RowKit Go.Lib
set_option linter.unusedVariables false

/-- source: of an edge's place. -/
theorem src_found {n : Nat} {st to wt : List Int} (h : Good n st to wt) {p i : Nat} (hp : p < to.length) (hi : i ≤ st.length) (h1 : ∀ j, j < i → at_ st j < (p : Int) + 1) (h2 : ∀ j, i ≤ j → j < st.length → (p : Int) + 1 ≤ at_ st j) : 1 ≤ i ∧ (i : Int) - 1 = (src st n p : Int) := by
  have hz := h.zero
  have hl := h.last
  have hs := h.s_len
  have i1 : 1 ≤ i := by
    rcases Nat.lt_or_ge 0 i with g | g
    · exact g
    · have := h2 0 (by omega) (by omega); omega
  have i2 : i ≤ n := by
    rcases Nat.lt_or_ge n i with g | g
    · have := h1 n g; omega
    · exact g
  refine ⟨i1, ?_⟩
  have a := h1 (i - 1) (by omega)
  have b := h2 i (Nat.le_refl _) (by omega)
  have e := src_eq h (v := i - 1) (p := p) (by omega) (by omega) (by rw [show i - 1 + 1 = i by omega]; omega)
  rw [e]; omega

end Go.Proofs.Ytehlciejhegndaa
