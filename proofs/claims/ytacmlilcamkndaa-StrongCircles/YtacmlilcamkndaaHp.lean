/- A heap of numbers, the least first, plainly. -/
import Derived.Test.YtacmlilcamkndaaOr
namespace Go.Proofs.Ytacmlilcamkndaa
set_option linter.unusedVariables false
def lb (l : List Int) (i : Nat) : Int := at_ l i
/-- The heap's order. -/
def Hp (l : List Int) : Prop := ∀ i, 1 ≤ i → i < l.length → lb l ((i - 1) / 2) ≤ lb l i
theorem Hp.root {l : List Int} (h : Hp l) (i : Nat) (hi : i < l.length) : lb l 0 ≤ lb l i := by
  induction i using Nat.strongRecOn with
  | _ i ih =>
    rcases Nat.eq_zero_or_pos i with h0 | h0
    · subst h0; omega
    · have h1 := h i h0 hi
      have h2 := ih ((i - 1) / 2) (by omega) (by omega)
      omega
theorem at_mem {l : List Int} {i : Nat} (hi : i < l.length) : at_ l i ∈ l := by
  unfold at_; rw [List.getElem?_eq_getElem hi]; exact List.getElem_mem hi
theorem mem_at_ {l : List Int} {e : Int} (h : e ∈ l) : ∃ i, i < l.length ∧ at_ l i = e := by
  obtain ⟨i, hi, rfl⟩ := List.getElem_of_mem h
  exact ⟨i, hi, by unfold at_; rw [List.getElem?_eq_getElem hi]; rfl⟩
theorem Hp.least {l : List Int} (h : Hp l) {e : Int} (he : e ∈ l) : lb l 0 ≤ e := by
  obtain ⟨i, hi, rfl⟩ := mem_at_ he
  exact h.root i hi
theorem at_set (l : List Int) (i j : Nat) (x : Int) (hi : i < l.length) : at_ (l.set i x) j = if j = i then x else at_ l j := by
  unfold at_
  by_cases e : j = i
  · subst e; rw [if_pos rfl, List.getElem?_set_self hi]; rfl
  · rw [if_neg e, List.getElem?_set_ne (fun h => e h.symm)]
theorem at_append (l : List Int) (x : Int) (j : Nat) : at_ (l ++ [x]) j = if j < l.length then at_ l j else if j = l.length then x else 0 := by
  unfold at_
  by_cases h : j < l.length
  · rw [if_pos h, List.getElem?_append_left h]
  · rw [if_neg h, List.getElem?_append_right (by omega)]
    by_cases e : j = l.length
    · subst e; simp
    · rw [if_neg e]
      rw [List.getElem?_eq_none (by simp; omega)]; rfl
/-- Two places exchanged: the same members. -/
theorem swap_perm (l : List Int) (i j : Nat) (hi : i < l.length) (hj : j < l.length) : ((l.set i (at_ l j)).set j (at_ l i)).Perm l := by
  have h1 : at_ l i = l[i] := by unfold at_; rw [List.getElem?_eq_getElem hi]; rfl
  have h2 : at_ l j = l[j] := by unfold at_; rw [List.getElem?_eq_getElem hj]; rfl
  rw [h1, h2]
  exact List.set_set_perm hi hj

/-- On the way up: x is to stand at the place a; all else is in order. -/
structure Up (m : List Int) (a : Nat) (x : Int) (l : List Int) : Prop where
  lt : a < m.length
  len : m.length = l.length + 1
  perm : (m.set a x).Perm (x :: l)
  ord : ∀ i, 1 ≤ i → i < m.length → i ≠ a → lb (m.set a x) ((i - 1) / 2) ≤ lb (m.set a x) i
  kid : ∀ c, 1 ≤ a → c < m.length → 1 ≤ c → (c - 1) / 2 = a → lb (m.set a x) ((a - 1) / 2) ≤ lb (m.set a x) c
theorem up_start (l : List Int) (x : Int) (h : Hp l) : Up (l ++ [x]) l.length x l := by
  have e : (l ++ [x]).set l.length x = l ++ [x] := by
    apply List.ext_getElem
    · simp
    · intro i h1 h2
      by_cases hh : i = l.length
      · subst hh; simp
      · rw [List.getElem_set_ne (fun h => hh h.symm)]
  refine ⟨by simp, by simp, by rw [e]; exact List.perm_append_singleton x l, ?_, ?_⟩
  · intro i h1 h2 h3
    rw [e]
    simp at h2
    have := h i h1 (by omega)
    unfold lb at this ⊢
    rw [at_append, at_append, if_pos (by omega), if_pos (by omega)]
    exact this
  · intro c h1 h2 h3 h4
    simp at h2
    omega
theorem up_step {m : List Int} {a : Nat} {x : Int} {l : List Int} (h : Up m a x l) (ha : 0 < a) (hx : x < lb m ((a - 1) / 2)) : Up (m.set a (at_ m ((a - 1) / 2))) ((a - 1) / 2) x l := by
  have hp : (a - 1) / 2 < m.length := by have := h.lt; omega
  have hne : (a - 1) / 2 ≠ a := by omega
  have hlt := h.lt
  obtain ⟨p, hpe⟩ : ∃ p, p = (a - 1) / 2 := ⟨_, rfl⟩
  rw [← hpe] at hp hne hx ⊢
  have A : ∀ j, at_ ((m.set a (at_ m p)).set p x) j = if j = p then x else if j = a then at_ m p else at_ m j := fun j => by
    rw [at_set _ _ _ _ (by simpa using hp), at_set _ _ _ _ hlt]
  have B : ∀ j, at_ (m.set a x) j = if j = a then x else at_ m j := fun j => at_set _ _ _ _ hlt
  have es : (m.set a (at_ m p)).set p x = ((m.set a x).set a (at_ (m.set a x) p)).set p (at_ (m.set a x) a) := by
    rw [B, B, if_neg hne, if_pos rfl, List.set_set]
  refine ⟨by simpa using hp, by simpa using h.len, ?_, ?_, ?_⟩
  · rw [es]
    exact (swap_perm _ _ _ (by simpa using hlt) (by simpa using hp)).trans h.perm
  · intro i h1 h2 h3
    simp at h2
    have o := h.ord i h1 h2
    have k := h.kid i ha h2 h1
    unfold lb at o k hx ⊢
    rw [A, A, if_neg h3]
    rw [B, B] at o
    rw [B, B] at k
    rw [← hpe, if_neg hne] at k
    by_cases e1 : (i - 1) / 2 = p
    · rw [if_pos e1]
      by_cases e2 : i = a
      · rw [if_pos e2]; omega
      · rw [if_neg e2]
        have o2 := o e2
        rw [e1, if_neg hne, if_neg e2] at o2
        omega
    · rw [if_neg e1]
      by_cases e2 : i = a
      · exact absurd (by rw [e2]; exact hpe.symm) e1
      · rw [if_neg e2]
        by_cases e3 : (i - 1) / 2 = a
        · rw [if_pos e3]
          have k2 := k e3
          rw [if_neg e2] at k2
          exact k2
        · rw [if_neg e3]
          have o2 := o e2
          rw [if_neg e3, if_neg e2] at o2
          exact o2
  · intro c hp1 h2 h3 h4
    simp at h2
    have o1 := h.ord p hp1 hp hne
    have o2 := h.ord c h3 h2
    unfold lb at o1 o2 hx ⊢
    rw [A, A, if_neg (by omega), if_neg (by omega)]
    rw [B, B, if_neg (by omega), if_neg hne] at o1
    by_cases e2 : c = a
    · rw [if_neg (by omega), if_pos e2]; exact o1
    · rw [if_neg (by omega), if_neg e2]
      have o3 := o2 e2
      rw [B, B, h4, if_neg hne, if_neg e2] at o3
      omega
theorem up_end {m : List Int} {a : Nat} {x : Int} {l : List Int} (h : Up m a x l) (hx : 0 < a → ¬ x < lb m ((a - 1) / 2)) : Hp (m.set a x) ∧ (m.set a x).length = l.length + 1 ∧ (m.set a x).Perm (x :: l) := by
  refine ⟨fun i h1 h2 => ?_, by simpa using h.len, h.perm⟩
  simp at h2
  by_cases e : i = a
  · subst e
    have := hx h1
    unfold lb at this ⊢
    rw [at_set _ _ _ _ h.lt, at_set _ _ _ _ h.lt, if_neg (by omega), if_pos rfl]
    omega
  · exact h.ord i h1 h2 e

/-- On the way down: x is to stand at the place a; all else is in order. -/
structure Down (m : List Int) (a : Nat) (x : Int) (l : List Int) : Prop where
  lt : a < m.length
  len : l.length = m.length + 1
  perm : l.Perm (at_ l 0 :: m.set a x)
  ord : ∀ i, 1 ≤ i → i < m.length → (i - 1) / 2 ≠ a → lb (m.set a x) ((i - 1) / 2) ≤ lb (m.set a x) i
  kid : ∀ c, 1 ≤ a → c < m.length → 1 ≤ c → (c - 1) / 2 = a → lb (m.set a x) ((a - 1) / 2) ≤ lb (m.set a x) c

theorem at_take (l : List Int) (n j : Nat) (h : j < n) : at_ (l.take n) j = at_ l j := by
  unfold at_; rw [List.getElem?_take_of_lt h]
theorem down_start (l : List Int) (n : Nat) (hl : l.length = n + 1) (hn : 0 < n) (h : Hp l) : Down (l.take n) 0 (at_ l n) l := by
  have hlen : (l.take n).length = n := by rw [List.length_take]; omega
  have A : ∀ j, j < n → at_ ((l.take n).set 0 (at_ l n)) j = if j = 0 then at_ l n else at_ l j := fun j hj => by
    rw [at_set _ _ _ _ (by omega), at_take _ _ _ hj]
  refine ⟨by omega, by omega, ?_, ?_, ?_⟩
  · obtain ⟨y, t, rfl⟩ : ∃ y t, l = y :: t := by cases l with | nil => simp at hl | cons y t => exact ⟨y, t, rfl⟩
    have e1 : at_ (y :: t) 0 = y := rfl
    rw [e1]
    refine List.Perm.cons y ?_
    have ht : t.length = n := by simpa using hl
    have e2 : (y :: t).take n = y :: t.take (n - 1) := by
      obtain ⟨k, rfl⟩ : ∃ k, n = k + 1 := ⟨n - 1, by omega⟩
      simp
    rw [e2, List.set_cons_zero]
    have e3 : t = t.take (n - 1) ++ [at_ (y :: t) n] := by
      apply List.ext_getElem?
      intro i
      by_cases hi : i < n - 1
      · rw [List.getElem?_append_left (by rw [List.length_take]; omega), List.getElem?_take_of_lt hi]
      · rw [List.getElem?_append_right (by rw [List.length_take]; omega), List.length_take, show min (n - 1) t.length = n - 1 by omega]
        by_cases hi2 : i = n - 1
        · subst hi2
          obtain ⟨k, rfl⟩ : ∃ k, n = k + 1 := ⟨n - 1, by omega⟩
          simp [at_, ht]
        · rw [List.getElem?_eq_none (by omega), List.getElem?_eq_none (by simp; omega)]
    conv => lhs; rw [e3]
    exact List.perm_append_singleton _ _
  · intro i h1 h2 h3
    have := h i h1 (by omega)
    unfold lb at this ⊢
    rw [A _ (by omega), A _ (by omega), if_neg h3, if_neg (by omega)]
    exact this
  · intro c h1; omega
theorem down_step {m : List Int} {a c : Nat} {x : Int} {l : List Int} (h : Down m a x l) (hc : c < m.length) (hc1 : 1 ≤ c) (hca : (c - 1) / 2 = a) (hs : ∀ s, 1 ≤ s → s < m.length → (s - 1) / 2 = a → lb m c ≤ lb m s) (hx : lb m c < x) : Down (m.set a (at_ m c)) c x l := by
  have hlt := h.lt
  have hne : c ≠ a := by omega
  have A : ∀ j, at_ ((m.set a (at_ m c)).set c x) j = if j = c then x else if j = a then at_ m c else at_ m j := fun j => by
    rw [at_set _ _ _ _ (by simpa using hc), at_set _ _ _ _ hlt]
  have B : ∀ j, at_ (m.set a x) j = if j = a then x else at_ m j := fun j => at_set _ _ _ _ hlt
  have es : (m.set a (at_ m c)).set c x = ((m.set a x).set a (at_ (m.set a x) c)).set c (at_ (m.set a x) a) := by
    rw [B, B, if_neg hne, if_pos rfl, List.set_set]
  refine ⟨by simpa using hc, by simpa using h.len, ?_, ?_, ?_⟩
  · rw [es]
    exact h.perm.trans (List.Perm.cons _ (swap_perm _ _ _ (by simpa using hlt) (by simpa using hc)).symm)
  · intro i h1 h2 h3
    simp at h2
    have o := h.ord i h1 h2
    have k := h.kid c
    have s := hs i h1 h2
    unfold lb at o k s hx ⊢
    rw [A, A, if_neg h3]
    rw [B, B] at o
    rw [B, B] at k
    by_cases e1 : (i - 1) / 2 = a
    · rw [if_pos e1]
      by_cases e2 : i = c
      · rw [if_pos e2]; omega
      · rw [if_neg e2, if_neg (by omega)]
        exact s e1
    · rw [if_neg e1]
      have o2 := o e1
      rw [if_neg e1] at o2
      by_cases e2 : i = c
      · exact absurd (by rw [e2]; exact hca) e1
      · rw [if_neg e2]
        by_cases e3 : i = a
        · rw [if_pos e3]
          have k2 := k (by omega) hc hc1 hca
          rw [if_neg (by omega), if_neg hne] at k2
          rw [e3]; exact k2
        · rw [if_neg e3]
          rw [if_neg e3] at o2
          exact o2
  · intro d h1 h2 h3 h4
    simp at h2
    have o := h.ord d h3 h2 (by omega)
    unfold lb at o ⊢
    rw [A, A, hca, if_neg (by omega), if_pos rfl, if_neg (by omega), if_neg (by omega)]
    rw [B, B, h4, if_neg hne, if_neg (by omega)] at o
    exact o
theorem down_end {m : List Int} {a : Nat} {x : Int} {l : List Int} (h : Down m a x l) (hx : ∀ s, 1 ≤ s → s < m.length → (s - 1) / 2 = a → x ≤ lb m s) : Hp (m.set a x) ∧ l.length = (m.set a x).length + 1 ∧ l.Perm (at_ l 0 :: m.set a x) := by
  refine ⟨fun i h1 h2 => ?_, by simpa using h.len, h.perm⟩
  simp at h2
  by_cases e : (i - 1) / 2 = a
  · have := hx i h1 h2 e
    unfold lb at this ⊢
    rw [at_set _ _ _ _ h.lt, at_set _ _ _ _ h.lt, if_pos e, if_neg (by omega)]
    exact this
  · exact h.ord i h1 h2 e
end Go.Proofs.Ytacmlilcamkndaa
