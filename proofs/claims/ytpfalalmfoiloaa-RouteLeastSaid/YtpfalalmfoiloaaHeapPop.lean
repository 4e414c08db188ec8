/- A heap of pairs: the first taken out, in plain words. -/
import Derived.Test.YtpfalalmfoiloaaHeapPlain
namespace Go.Proofs.Ytpfalalmfoiloaa
set_option linter.unusedVariables false

/-- On the way down: x is to stand at the place a; all else is in order. -/
structure Down (m : List Pr) (a : Nat) (x : Pr) (l : List Pr) : Prop where
  lt : a < m.length
  len : l.length = m.length + 1
  mem : ∀ e, e ∈ l ↔ e = sAt l 0 ∨ e ∈ m.set a x
  ord : ∀ i, 1 ≤ i → i < m.length → (i - 1) / 2 ≠ a → lb (m.set a x) ((i - 1) / 2) ≤ lb (m.set a x) i
  kid : ∀ c, 1 ≤ a → c < m.length → 1 ≤ c → (c - 1) / 2 = a → lb (m.set a x) ((a - 1) / 2) ≤ lb (m.set a x) c

theorem sAt_take (l : List Pr) (n j : Nat) (h : j < n) : sAt (l.take n) j = sAt l j := by
  unfold sAt; rw [List.getElem?_take_of_lt h]
theorem down_start (l : List Pr) (n : Nat) (hl : l.length = n + 1) (hn : 0 < n) (h : Hp l) : Down (l.take n) 0 (sAt l n) l := by
  have hlen : (l.take n).length = n := by rw [List.length_take]; omega
  have A : ∀ j, j < n → sAt ((l.take n).set 0 (sAt l n)) j = if j = 0 then sAt l n else sAt l j := fun j hj => by
    rw [sAt_set _ _ _ _ (by omega), sAt_take _ _ _ hj]
  refine ⟨by omega, by omega, fun e => ⟨fun he => ?_, fun he => ?_⟩, ?_, ?_⟩
  · obtain ⟨i, hi, rfl⟩ := mem_sAt he
    rcases Nat.eq_zero_or_pos i with h0 | h0
    · subst h0; exact .inl rfl
    · right
      rcases Nat.lt_or_ge i n with h1 | h1
      · have := sAt_mem (l := (l.take n).set 0 (sAt l n)) (i := i) (by rw [List.length_set]; omega)
        rw [A i h1, if_neg (by omega)] at this
        exact this
      · obtain rfl : i = n := by omega
        have := sAt_mem (l := (l.take i).set 0 (sAt l i)) (i := 0) (by rw [List.length_set]; omega)
        rw [A 0 (by omega), if_pos rfl] at this
        exact this
  · rcases he with rfl | he
    · exact sAt_mem (by omega)
    · obtain ⟨i, hi, rfl⟩ := mem_sAt he
      rw [List.length_set] at hi
      rw [A i (by omega)]
      by_cases e : i = 0
      · rw [if_pos e]; exact sAt_mem (by omega)
      · rw [if_neg e]; exact sAt_mem (by omega)
  · intro i h1 h2 h3
    have := h i h1 (by omega)
    unfold lb at this ⊢
    rw [A _ (by omega), A _ (by omega), if_neg h3, if_neg (by omega)]
    exact this
  · intro c h1; omega
theorem down_step {m : List Pr} {a c : Nat} {x : Pr} {l : List Pr} (h : Down m a x l) (hc : c < m.length) (hc1 : 1 ≤ c) (hca : (c - 1) / 2 = a) (hs : ∀ s, 1 ≤ s → s < m.length → (s - 1) / 2 = a → lb m c ≤ lb m s) (hx : lb m c < x.1) : Down (m.set a (sAt m c)) c x l := by
  have hlt := h.lt
  have hne : c ≠ a := by omega
  have A : ∀ j, sAt ((m.set a (sAt m c)).set c x) j = if j = c then x else if j = a then sAt m c else sAt m j := fun j => by
    rw [sAt_set _ _ _ _ (by simpa using hc), sAt_set _ _ _ _ hlt]
  have B : ∀ j, sAt (m.set a x) j = if j = a then x else sAt m j := fun j => sAt_set _ _ _ _ hlt
  have es : (m.set a (sAt m c)).set c x = ((m.set a x).set a (sAt (m.set a x) c)).set c (sAt (m.set a x) a) := by
    rw [B, B, if_neg hne, if_pos rfl, List.set_set]
  refine ⟨by simpa using hc, by simpa using h.len, fun e => ?_, ?_, ?_⟩
  · rw [es, swap_mem _ _ _ (by simpa using hlt) (by simpa using hc)]
    exact h.mem e
  · intro i h1 h2 h3
    simp at h2
    have o := h.ord i h1 h2
    have k := h.kid c
    have s := hs i h1 h2
    unfold lb at o k s hx ⊢
    rw [A, A, if_neg h3]
    rw [B, B] at o
    rw [B, B] at k
    by_cases e1 : (i - 1) / 2 = a
    · rw [if_pos e1]
      by_cases e2 : i = c
      · rw [if_pos e2]; omega
      · rw [if_neg e2, if_neg (by omega)]
        exact s e1
    · rw [if_neg e1]
      have o2 := o e1
      rw [if_neg e1] at o2
      by_cases e2 : i = c
      · exact absurd (by rw [e2]; exact hca) e1
      · rw [if_neg e2]
        by_cases e3 : i = a
        · rw [if_pos e3]
          have k2 := k (by omega) hc hc1 hca
          rw [if_neg (by omega), if_neg hne] at k2
          rw [e3]; exact k2
        · rw [if_neg e3]
          rw [if_neg e3] at o2
          exact o2
  · intro d h1 h2 h3 h4
    simp at h2
    have o := h.ord d h3 h2 (by omega)
    unfold lb at o ⊢
    rw [A, A, hca, if_neg (by omega), if_pos rfl, if_neg (by omega), if_neg (by omega)]
    rw [B, B, h4, if_neg hne, if_neg (by omega)] at o
    exact o
theorem down_end {m : List Pr} {a : Nat} {x : Pr} {l : List Pr} (h : Down m a x l) (hx : ∀ s, 1 ≤ s → s < m.length → (s - 1) / 2 = a → x.1 ≤ lb m s) : Hp (m.set a x) ∧ l.length = (m.set a x).length + 1 ∧ ∀ e, e ∈ l ↔ e = sAt l 0 ∨ e ∈ m.set a x := by
  refine ⟨fun i h1 h2 => ?_, by simpa using h.len, h.mem⟩
  simp at h2
  by_cases e : (i - 1) / 2 = a
  · have := hx i h1 h2 e
    unfold lb at this ⊢
    rw [sAt_set _ _ _ _ h.lt, sAt_set _ _ _ _ h.lt, if_pos e, if_neg (by omega)]
    exact this
  · exact h.ord i h1 h2 e
end Go.Proofs.Ytpfalalmfoiloaa
