/- GraphParts: what the cuts promise, plain; the law's memory. -/
import Derived.Test.YtmagigmcbegmiaaGU
import Derived.Test.YtmagigmcbegmiaaGP
import Derived.Test.YtmagigmcbegmiaaGV
namespace Go.Proofs.Ytmagigmcbegmiaa
open Go.RowKit Go.Lib
set_option linter.unusedVariables false
set_option linter.unusedSimpArgs false
theorem cuts_step {n k m : Nat} {st tl wt cs : List Int} (h : Cuts n k st m cs) (hg : Good n st tl wt) (hm : m = tl.length) (j : Nat) (hj : j < k) :
    ∃ a b : Nat, at_ cs j = a ∧ at_ cs (j + 1) = b ∧ a ≤ b ∧ b ≤ n ∧ ∀ L : Int, 0 ≤ L → (∀ u, u < n → at_ st (u + 1) - at_ st u ≤ L) → (at_ st b - at_ st a - L) * k ≤ m := by
  have hz := hg.zero
  have hl := hg.last
  rw [← hm] at hl
  -- the cut at j, from 0 on
  have hA : ∃ a : Nat, at_ cs j = a ∧ a ≤ n ∧ (j : Int) * m ≤ at_ st a * k ∧ ∀ u, u < a → at_ st u * k < (j : Int) * m := by
    rcases Nat.eq_zero_or_pos j with e | e
    · subst e
      refine ⟨0, h.upT.zero, Nat.zero_le _, by rw [hz]; simp, fun u hu => by omega⟩
    · exact h.upT.cut j e hj
  obtain ⟨a, ea, han, hja, hlow⟩ := hA
  have hr0 := (hg.range a han).1
  have hk0 : (0 : Int) ≤ (k : Int) := by omega
  have expand : ∀ (x L : Int), (x - at_ st a - L) * (k : Int) = x * k - at_ st a * k - L * k := fun x L => by rw [Int.sub_mul, Int.sub_mul]
  have hj1 : (((j + 1 : Nat) : Int)) * (m : Int) = (j : Int) * m + m := by rw [Int.natCast_add, Int.add_mul]; simp
  by_cases hk : j + 1 = k
  · refine ⟨a, n, ea, by rw [hk]; exact h.last, han, Nat.le_refl _, fun L hL _ => ?_⟩
    rw [expand, hl]
    have e1 : (m : Int) * (k : Int) = (j : Int) * m + m := by rw [← hj1, hk, Int.mul_comm]
    have e2 : 0 ≤ L * (k : Int) := Int.mul_nonneg hL hk0
    omega
  · obtain ⟨b, eb, hbn, hjb, hlb⟩ := h.upT.cut (j + 1) (by omega) (by omega)
    rw [hj1] at hjb hlb
    have hab : a ≤ b := by
      rcases Nat.lt_or_ge b a with hlt | hge
      · have := hlow b hlt; omega
      · exact hge
    refine ⟨a, b, ea, eb, hab, hbn, fun L hL hall => ?_⟩
    rw [expand]
    have e2 : 0 ≤ L * (k : Int) := Int.mul_nonneg hL hk0
    have e3 : 0 ≤ at_ st a * (k : Int) := Int.mul_nonneg hr0 hk0
    rcases Nat.eq_zero_or_pos b with e | e
    · subst e
      rw [hz, Int.zero_mul]
      omega
    · have h1 := hlb (b - 1) (by omega)
      have h2 := hall (b - 1) (by omega)
      rw [show b - 1 + 1 = b by omega] at h2
      have h3 : at_ st b * (k : Int) ≤ (at_ st (b - 1) + L) * k := Int.mul_le_mul_of_nonneg_right (by omega) hk0
      rw [Int.add_mul] at h3
      omega
/-- The law's memory: the graph's box. -/
structure PBm (w1 : World) (n : Nat) (va vb vc : Value) (X : World) : Prop where
  bx : X.heap[w1.heap.size]? = some (.cells #[.int .i64 n, va, vb, vc] 25 (0, 0))
  bel : Below w1.heap.size w1 X
theorem PBm.below {w1 X Y : World} {n : Nat} {va vb vc : Value} (h : PBm w1 n va vb vc X) (hb : Below X.heap.size X Y) : PBm w1 n va vb vc Y := ⟨(hb.block _ (lt_of_heap h.bx)).trans h.bx, below_on h.bel hb⟩
theorem PBm.start (w1 : World) (n : Nat) (va vb vc : Value) : PBm w1 n va vb vc (w1.alloc (.cells #[.int .i64 n, va, vb, vc] 25)) := ⟨heap_new _ _, below_alloc (Below.refl _ _) _⟩
theorem PBm.cells {w1 X : World} {n : Nat} {va vb vc : Value} (h : PBm w1 n va vb vc X) : X.cell? ⟨w1.heap.size, 0, none⟩ = some (.int .i64 n) ∧ X.cell? ⟨w1.heap.size, 1, none⟩ = some va ∧ X.cell? ⟨w1.heap.size, 2, none⟩ = some vb ∧ X.cell? ⟨w1.heap.size, 3, none⟩ = some vc :=
  ⟨cell_of h.bx (i := 0) rfl, cell_of h.bx (i := 1) rfl, cell_of h.bx (i := 2) rfl, cell_of h.bx (i := 3) rfl⟩
/-- .. and the cuts. -/
structure PCm (w1 : World) (n : Nat) (va vb vc : Value) (G : Nat) (cs : List Int) (X : World) : Prop where
  b : PBm w1 n va vb vc X
  ar : Arr X G cs
theorem PCm.below {w1 X Y : World} {n : Nat} {va vb vc : Value} {G : Nat} {cs : List Int} (h : PCm w1 n va vb vc G cs X) (hb : Below X.heap.size X Y) : PCm w1 n va vb vc G cs Y := ⟨h.b.below hb, h.ar.below hb (lt_of_heap h.ar)⟩
end Go.Proofs.Ytmagigmcbegmiaa
