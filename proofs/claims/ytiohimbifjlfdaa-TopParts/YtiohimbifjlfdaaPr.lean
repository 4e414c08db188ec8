/- The document's Parts. -/
import Derived.Test.YtiohimbifjlfdaaTrFl
import Derived.Test.YtiohimbifjlfdaaOfRh
import Derived.Test.YtiohimbifjlfdaaNb
import Derived.Test.YtiohimbifjlfdaaLgOd
namespace Go.Proofs.Ytiohimbifjlfdaa
open Go.RowKit Go.Lib
set_option linter.unusedVariables false
set_option linter.unusedSimpArgs false
/-- Each from the other, in a graph. -/
def BG (n : Nat) (st tl : List Int) : Nat → Nat → Prop := Bo (EE n (sN st) (tN tl))
noncomputable def rpF (B : Nat → Nat → Prop) (k j u : Nat) : Int := if lea B u < k ∨ (u < j ∧ lea B u = k) then (numb B u : Int) else -1
structure QP (w6 wr : World) (A : Nat) (L : List Int) : Prop where
  bel : Below w6.heap.size w6 wr
  arr : Arr wr A L
  wA : w6.heap.size ≤ A
theorem QP.set {w6 wr : World} {A : Nat} {L : List Int} (h : QP w6 wr A L) (i : Nat) (x : Int) : QP w6 (wr.setCell ⟨A, i, none⟩ (.int .i64 x)) A (L.set i x) :=
  ⟨h.bel.setCell (p := ⟨A, i, none⟩) h.wA _, h.arr.put i x, h.wA⟩
theorem QP.on {w6 wr w' : World} {A : Nat} {L : List Int} (h : QP w6 wr A L) (hb : Below wr.heap.size wr w') : QP w6 w' A L := ⟨below_on h.bel hb, (hb.block _ (lt_of_heap h.arr)).trans h.arr, h.wA⟩
theorem rp_set {B : Nat → Nat → Prop} {n k j : Nat} (hl : lea B j = k) : (tab n (rpF B k j)).set j (numb B j : Int) = tab n (rpF B k (j + 1)) := by
  rw [tab_set]
  refine tab_congr fun u _ => ?_
  unfold rpF
  by_cases e : u = j
  · subst e; rw [if_pos rfl, if_pos (.inr ⟨by omega, hl⟩)]
  · rw [if_neg e]
    by_cases h : lea B u < k ∨ (u < j ∧ lea B u = k)
    · rw [if_pos h, if_pos (by omega)]
    · rw [if_neg h, if_neg (by omega)]
theorem rp_skip {B : Nat → Nat → Prop} {n k j : Nat} (hl : ¬ lea B j = k) : tab n (rpF B k j) = tab n (rpF B k (j + 1)) := tab_congr fun u _ => by
  unfold rpF
  by_cases e : u = j
  · subst e
    by_cases h : lea B u < k
    · rw [if_pos (.inl h), if_pos (.inl h)]
    · rw [if_neg (by omega), if_neg (by omega)]
  · by_cases h : lea B u < k ∨ (u < j ∧ lea B u = k)
    · rw [if_pos h, if_pos (by omega)]
    · rw [if_neg h, if_neg (by omega)]
theorem rp_next {B : Nat → Nat → Prop} {n k : Nat} : tab n (rpF B k n) = tab n (rpF B (k + 1) 0) := tab_congr fun u hu => by
  unfold rpF
  by_cases h : lea B u < k ∨ (u < n ∧ lea B u = k)
  · rw [if_pos h, if_pos (by omega)]
  · rw [if_neg h, if_neg (by omega)]
theorem rp_old {B : Nat → Nat → Prop} (hE : Eqv B) {n k : Nat} (hl : ¬ lea B k = k) : tab n (rpF B k 0) = tab n (rpF B (k + 1) 0) := tab_congr fun u _ => by
  unfold rpF
  have hne : ¬ lea B u = k := fun h => hl (by rw [← h]; exact lea_lea hE u)
  by_cases h : lea B u < k
  · rw [if_pos (.inl h), if_pos (by omega)]
  · rw [if_neg (by omega), if_neg (by omega)]
end Go.Proofs.Ytiohimbifjlfdaa
