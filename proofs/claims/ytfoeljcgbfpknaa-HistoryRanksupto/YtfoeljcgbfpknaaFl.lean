/- Floats: words that are no NaN. -/
import GoSem.Core.Float
namespace Go.Proofs.Ytfoeljcgbfpknaa
open Ieee
set_option linter.unusedVariables false
set_option linter.unusedSimpArgs false
/-- What a word stands for is a number or an infinity of that sign. -/
def Fin1 (s : Bool) (x : Nat) : Prop := (∃ m e, double.read x = .number s m e) ∨ double.read x = .infinity s
theorem inf_lt : double.infRung < double.signWeight := by decide +kernel
theorem read_word (s : Bool) (r : Nat) (h : r ≤ double.infRung) : Fin1 s (double.word s r) := by
  have hs := inf_lt
  have h0 : 0 < double.signWeight := by omega
  have e1 : double.word s r % double.signWeight = r := by
    unfold Format.word
    split
    · rw [Nat.add_mod_left, Nat.mod_eq_of_lt (by omega)]
    · rw [Nat.mod_eq_of_lt (by omega)]
  have e2 : (double.word s r / double.signWeight % 2 == 1) = s := by
    unfold Format.word
    cases s with
    | true => rw [if_pos rfl, Nat.add_div_left _ h0, Nat.div_eq_of_lt (by omega)]; rfl
    | false => rw [if_neg (by decide), Nat.div_eq_of_lt (by omega)]; rfl
  unfold Fin1 Format.read
  rw [e1, e2]
  simp only
  split
  · exact .inl ⟨_, _, rfl⟩
  · split
    · exact .inl ⟨_, _, rfl⟩
    · rw [if_pos (by omega)]; exact .inr rfl
theorem write_number (s : Bool) (m : Nat) (e : Int) : Fin1 s (double.write (.number s m e)) := by
  unfold Format.write Format.nearest
  simp only
  split
  · exact read_word s 0 (Nat.zero_le _)
  · exact read_word s _ (Nat.min_le_right _ _)
theorem write_inf (s : Bool) : Fin1 s (double.write (.infinity s)) := read_word s _ (Nat.le_refl _)
def NoN (x : Nat) : Prop := ∃ s, Fin1 s x
theorem order_self {x : Nat} (h : NoN x) : double.order x x = some .eq := by
  obtain ⟨s, ⟨m, e, h⟩ | h⟩ := h
  · unfold Format.order; rw [h]; simp [Datum.order]
  · unfold Format.order; rw [h]; simp [Datum.order]
/-- The word of an integer. -/
def fI (n : Int) : Nat := FloatKind.f64.nearest n
theorem fI_fin (n : Int) : Fin1 (decide (n < 0)) (fI n) := write_number _ _ _
theorem fI_no (n : Int) : NoN (fI n) := ⟨_, fI_fin n⟩
/-- A finite word that is not 0. -/
def pos1 (x : Nat) : Bool := match double.read x with | .number _ m _ => m != 0 | _ => false
def fin1 (x : Nat) : Bool := match double.read x with | .number _ _ _ => true | _ => false
theorem fI_pos : ∀ n : Nat, n < 2001 → n ≠ 0 → pos1 (fI n) = true := by decide +kernel
theorem fI_fin1 : ∀ n : Nat, n < 2001 → fin1 (fI n) = true := by decide +kernel
def divF (x y : Nat) : Nat := (double.div x y).getD 0
def subF (x y : Nat) : Nat := (double.sub x y).getD 0
def mulF (x y : Nat) : Nat := (double.mul x y).getD 0
def addF (x y : Nat) : Nat := (double.add x y).getD 0
theorem div_some {s : Bool} {x y : Nat} (hx : Fin1 s x) (hy : pos1 y = true) : double.div x y = some (divF x y) ∧ NoN (divF x y) := by
  have key : ∃ z, double.div x y = some z ∧ NoN z := by
    unfold Format.div
    unfold pos1 at hy
    cases hq : double.read y with
    | number t n j =>
      rw [hq] at hy
      have hn : n ≠ 0 := by simpa using hy
      rcases hx with ⟨m, e, hx⟩ | hx
      · rw [hx]
        simp only [Datum.quotient, if_neg hn, Option.map_some]
        exact ⟨_, rfl, _, write_number _ _ _⟩
      · rw [hx]
        exact ⟨_, rfl, _, write_inf _⟩
    | infinity t => rw [hq] at hy; cases hy
    | nan t f => rw [hq] at hy; cases hy
  obtain ⟨z, h1, h2⟩ := key
  unfold divF
  rw [h1]
  exact ⟨rfl, h2⟩
theorem sub_some {x y : Nat} (hx : fin1 x = true) (hy : NoN y) : double.sub x y = some (subF x y) ∧ NoN (subF x y) := by
  have key : ∃ z, double.sub x y = some z ∧ NoN z := by
    unfold Format.sub
    unfold fin1 at hx
    cases hq : double.read x with
    | number t n j =>
      obtain ⟨s, ⟨m, e, h⟩ | h⟩ := hy
      · rw [h]
        simp only [Datum.opposite, Datum.sum, Option.map_some]
        exact ⟨_, rfl, _, write_number _ _ _⟩
      · rw [h]
        simp only [Datum.opposite, Datum.sum, Option.map_some]
        exact ⟨_, rfl, _, write_inf _⟩
    | infinity t => rw [hq] at hx; cases hx
    | nan t f => rw [hq] at hx; cases hx
  obtain ⟨z, h1, h2⟩ := key
  unfold subF
  rw [h1]
  exact ⟨rfl, h2⟩
theorem mul_some {x : Nat} (hx : NoN x) : double.mul x x = some (mulF x x) ∧ Fin1 false (mulF x x) := by
  have key : ∃ z, double.mul x x = some z ∧ Fin1 false z := by
    unfold Format.mul
    obtain ⟨s, ⟨m, e, h⟩ | h⟩ := hx
    · rw [h]
      simp only [Datum.product, Option.map_some, Bool.xor_self]
      exact ⟨_, rfl, write_number _ _ _⟩
    · rw [h]
      simp only [Datum.product, Option.map_some, Bool.xor_self]
      exact ⟨_, rfl, write_inf _⟩
  obtain ⟨z, h1, h2⟩ := key
  unfold mulF
  rw [h1]
  exact ⟨rfl, h2⟩
theorem signed_pos (m u : Nat) : 0 ≤ signed false m u := by unfold signed; simp only [Bool.false_eq_true, if_false]; exact Int.natCast_nonneg _
theorem add_some {x y : Nat} (hx : Fin1 false x) (hy : Fin1 false y) : double.add x y = some (addF x y) ∧ Fin1 false (addF x y) := by
  have key : ∃ z, double.add x y = some z ∧ Fin1 false z := by
    unfold Format.add
    rcases hx with ⟨m, e, hx⟩ | hx
    · rcases hy with ⟨n, f, hy⟩ | hy
      · rw [hx, hy]
        simp only [Datum.sum, Option.map_some]
        refine ⟨_, rfl, ?_⟩
        have hge : 0 ≤ signed false m (e - min e f).toNat + signed false n (f - min e f).toNat := Int.add_nonneg (signed_pos _ _) (signed_pos _ _)
        have e1 : (if signed false m (e - min e f).toNat + signed false n (f - min e f).toNat = 0 then (false && false) else decide (signed false m (e - min e f).toNat + signed false n (f - min e f).toNat < 0)) = false := by
          split
          · rfl
          · exact decide_eq_false (by omega)
        rw [e1]
        exact write_number _ _ _
      · rw [hx, hy]
        exact ⟨_, rfl, write_inf _⟩
    · rcases hy with ⟨n, f, hy⟩ | hy
      · rw [hx, hy]
        exact ⟨_, rfl, write_inf _⟩
      · rw [hx, hy]
        exact ⟨_, rfl, write_inf _⟩
  obtain ⟨z, h1, h2⟩ := key
  unfold addF
  rw [h1]
  exact ⟨rfl, h2⟩
theorem zero_fin : Fin1 false 0 := read_word false 0 (Nat.zero_le _)
end Go.Proofs.Ytfoeljcgbfpknaa
