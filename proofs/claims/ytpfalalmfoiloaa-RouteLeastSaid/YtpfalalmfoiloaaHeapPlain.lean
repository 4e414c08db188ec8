/- A heap of pairs, the lesser first number ahead, in plain words. -/
import Derived.Test.YtpfalalmfoiloaaSRow
namespace Go.Proofs.Ytpfalalmfoiloaa
set_option linter.unusedVariables false

abbrev Pr := Int × Int
def lb (l : List Pr) (i : Nat) : Int := (sAt l i).1
/-- The heap's order. -/
def Hp (l : List Pr) : Prop := ∀ i, 1 ≤ i → i < l.length → lb l ((i - 1) / 2) ≤ lb l i
theorem Hp.root {l : List Pr} (h : Hp l) (i : Nat) (hi : i < l.length) : lb l 0 ≤ lb l i := by
  induction i using Nat.strongRecOn with
  | _ i ih =>
    rcases Nat.eq_zero_or_pos i with h0 | h0
    · subst h0; omega
    · have h1 := h i h0 hi
      have h2 := ih ((i - 1) / 2) (by omega) (by omega)
      omega
theorem sAt_mem {l : List Pr} {i : Nat} (hi : i < l.length) : sAt l i ∈ l := by
  unfold sAt; rw [List.getElem?_eq_getElem hi]; exact List.getElem_mem hi
theorem mem_sAt {l : List Pr} {e : Pr} (h : e ∈ l) : ∃ i, i < l.length ∧ sAt l i = e := by
  obtain ⟨i, hi, rfl⟩ := List.getElem_of_mem h
  exact ⟨i, hi, by unfold sAt; rw [List.getElem?_eq_getElem hi]; rfl⟩
theorem Hp.least {l : List Pr} (h : Hp l) {e : Pr} (he : e ∈ l) : lb l 0 ≤ e.1 := by
  obtain ⟨i, hi, rfl⟩ := mem_sAt he
  exact h.root i hi
theorem sAt_set (l : List Pr) (i j : Nat) (x : Pr) (hi : i < l.length) : sAt (l.set i x) j = if j = i then x else sAt l j := by
  unfold sAt
  by_cases e : j = i
  · subst e; rw [if_pos rfl, List.getElem?_set_self hi]; rfl
  · rw [if_neg e, List.getElem?_set_ne (fun h => e h.symm)]
theorem sAt_append (l : List Pr) (x : Pr) (j : Nat) : sAt (l ++ [x]) j = if j < l.length then sAt l j else if j = l.length then x else (0, 0) := by
  unfold sAt
  by_cases h : j < l.length
  · rw [if_pos h, List.getElem?_append_left h]
  · rw [if_neg h, List.getElem?_append_right (by omega)]
    by_cases e : j = l.length
    · subst e; simp
    · rw [if_neg e]
      rw [List.getElem?_eq_none (by simp; omega)]; rfl
/-- Two places exchanged: the same members. -/
theorem swap_mem (l : List Pr) (i j : Nat) (hi : i < l.length) (hj : j < l.length) (e : Pr) : e ∈ (l.set i (sAt l j)).set j (sAt l i) ↔ e ∈ l := by
  have h1 : sAt l i = l[i] := by unfold sAt; rw [List.getElem?_eq_getElem hi]; rfl
  have h2 : sAt l j = l[j] := by unfold sAt; rw [List.getElem?_eq_getElem hj]; rfl
  rw [h1, h2]
  exact (List.set_set_perm hi hj).mem_iff

/-- On the way up: x is to stand at the place a; all else is in order. -/
structure Up (m : List Pr) (a : Nat) (x : Pr) (l : List Pr) : Prop where
  lt : a < m.length
  len : m.length = l.length + 1
  mem : ∀ e, e ∈ m.set a x ↔ e ∈ l ∨ e = x
  ord : ∀ i, 1 ≤ i → i < m.length → i ≠ a → lb (m.set a x) ((i - 1) / 2) ≤ lb (m.set a x) i
  kid : ∀ c, 1 ≤ a → c < m.length → 1 ≤ c → (c - 1) / 2 = a → lb (m.set a x) ((a - 1) / 2) ≤ lb (m.set a x) c
theorem up_start (l : List Pr) (x : Pr) (h : Hp l) : Up (l ++ [x]) l.length x l := by
  have e : (l ++ [x]).set l.length x = l ++ [x] := by
    apply List.ext_getElem
    · simp
    · intro i h1 h2
      by_cases hh : i = l.length
      · subst hh; simp
      · rw [List.getElem_set_ne (fun h => hh h.symm)]
  refine ⟨by simp, by simp, fun y => by rw [e]; simp, ?_, ?_⟩
  · intro i h1 h2 h3
    rw [e]
    simp at h2
    have := h i h1 (by omega)
    unfold lb at this ⊢
    rw [sAt_append, sAt_append, if_pos (by omega), if_pos (by omega)]
    exact this
  · intro c h1 h2 h3 h4
    simp at h2
    omega
theorem up_step {m : List Pr} {a : Nat} {x : Pr} {l : List Pr} (h : Up m a x l) (ha : 0 < a) (hx : x.1 < lb m ((a - 1) / 2)) : Up (m.set a (sAt m ((a - 1) / 2))) ((a - 1) / 2) x l := by
  have hp : (a - 1) / 2 < m.length := by have := h.lt; omega
  have hne : (a - 1) / 2 ≠ a := by omega
  have hlt := h.lt
  obtain ⟨p, hpe⟩ : ∃ p, p = (a - 1) / 2 := ⟨_, rfl⟩
  rw [← hpe] at hp hne hx ⊢
  have A : ∀ j, sAt ((m.set a (sAt m p)).set p x) j = if j = p then x else if j = a then sAt m p else sAt m j := fun j => by
    rw [sAt_set _ _ _ _ (by simpa using hp), sAt_set _ _ _ _ hlt]
  have B : ∀ j, sAt (m.set a x) j = if j = a then x else sAt m j := fun j => sAt_set _ _ _ _ hlt
  have es : (m.set a (sAt m p)).set p x = ((m.set a x).set a (sAt (m.set a x) p)).set p (sAt (m.set a x) a) := by
    rw [B, B, if_neg hne, if_pos rfl, List.set_set]
  refine ⟨by simpa using hp, by simpa using h.len, fun e => ?_, ?_, ?_⟩
  · rw [es, swap_mem _ _ _ (by simpa using hlt) (by simpa using hp)]
    exact h.mem e
  · intro i h1 h2 h3
    simp at h2
    have o := h.ord i h1 h2
    have k := h.kid i ha h2 h1
    unfold lb at o k hx ⊢
    rw [A, A, if_neg h3]
    rw [B, B] at o
    rw [B, B] at k
    rw [← hpe, if_neg hne] at k
    by_cases e1 : (i - 1) / 2 = p
    · rw [if_pos e1]
      by_cases e2 : i = a
      · rw [if_pos e2]; omega
      · rw [if_neg e2]
        have o2 := o e2
        rw [e1, if_neg hne, if_neg e2] at o2
        omega
    · rw [if_neg e1]
      by_cases e2 : i = a
      · exact absurd (by rw [e2]; exact hpe.symm) e1
      · rw [if_neg e2]
        by_cases e3 : (i - 1) / 2 = a
        · rw [if_pos e3]
          have k2 := k e3
          rw [if_neg e2] at k2
          exact k2
        · rw [if_neg e3]
          have o2 := o e2
          rw [if_neg e3, if_neg e2] at o2
          exact o2
  · intro c hp1 h2 h3 h4
    simp at h2
    have o1 := h.ord p hp1 hp hne
    have o2 := h.ord c h3 h2
    unfold lb at o1 o2 hx ⊢
    rw [A, A, if_neg (by omega), if_neg (by omega)]
    rw [B, B, if_neg (by omega), if_neg hne] at o1
    by_cases e2 : c = a
    · rw [if_neg (by omega), if_pos e2]; exact o1
    · rw [if_neg (by omega), if_neg e2]
      have o3 := o2 e2
      rw [B, B, h4, if_neg hne, if_neg e2] at o3
      omega
theorem up_end {m : List Pr} {a : Nat} {x : Pr} {l : List Pr} (h : Up m a x l) (hx : 0 < a → ¬ x.1 < lb m ((a - 1) / 2)) : Hp (m.set a x) ∧ (m.set a x).length = l.length + 1 ∧ ∀ e, e ∈ m.set a x ↔ e ∈ l ∨ e = x := by
  refine ⟨fun i h1 h2 => ?_, by simpa using h.len, h.mem⟩
  simp at h2
  by_cases e : i = a
  · subst e
    have := hx h1
    unfold lb at this ⊢
    rw [sAt_set _ _ _ _ h.lt, sAt_set _ _ _ _ h.lt, if_neg (by omega), if_pos rfl]
    omega
  · exact h.ord i h1 h2 e
end Go.Proofs.Ytpfalalmfoiloaa
