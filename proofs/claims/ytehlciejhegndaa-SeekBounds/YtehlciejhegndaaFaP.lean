/- Far, plainly: landmarks, each the first of the farthest from those ahead of it. -/
import Derived.Test.YtehlciejhegndaaRefS
namespace Go.Proofs.Ytehlciejhegndaa
open Go.RowKit Go.Lib
set_option linter.unusedVariables false
/-- The first place of the greatest of the first n. -/
def amx (L : List Int) : Nat → Nat
  | 0 => 0
  | k + 1 => if at_ L (amx L k) < at_ L k then k else amx L k
theorem amx_lt (L : List Int) : ∀ {n : Nat}, 0 < n → amx L n < n
  | 0, h => by omega
  | k + 1, _ => by
    unfold amx
    split
    · omega
    · rcases Nat.eq_zero_or_pos k with rfl | hk
      · simp [amx]
      · have := amx_lt L hk; omega
theorem amx_le (L : List Int) : ∀ (n j : Nat), j < n → at_ L j ≤ at_ L (amx L n)
  | 0, j, h => by omega
  | k + 1, j, h => by
    unfold amx
    split
    · rename_i hlt
      by_cases e : j = k
      · subst e; exact Int.le_refl _
      · have := amx_le L k j (by omega); omega
    · rename_i hlt
      by_cases e : j = k
      · subst e; omega
      · exact amx_le L k j (by omega)
theorem amx_first (L : List Int) : ∀ (n j : Nat), j < amx L n → at_ L j < at_ L (amx L n)
  | 0, j, h => by simp [amx] at h
  | k + 1, j, h => by
    unfold amx at h ⊢
    split
    · rename_i hlt
      rw [if_pos hlt] at h
      have := amx_le L k j (by omega)
      omega
    · rename_i hlt
      rw [if_neg hlt] at h
      exact amx_first L k j h
/-- The starts: each landmark, with 0. -/
def S0 (l : List Int) : List Pr := l.map fun v => (v, 0)
theorem S0_len (l : List Int) : (S0 l).length = l.length := by simp [S0]
theorem S0_at (l : List Int) (j : Nat) (h : j < l.length) : sAt (S0 l) j = (at_ l j, 0) := by simp [sAt, S0, at_, h]
theorem S0_snoc (l : List Int) (v : Int) : S0 (l ++ [v]) = S0 l ++ [(v, 0)] := by simp [S0]
def Vs (n : Nat) (l : List Int) : Prop := ∀ j, j < l.length → 0 ≤ at_ l j ∧ at_ l j < (n : Int)
theorem Vs.sok {n : Nat} {l : List Int} (h : Vs n l) : Sok n (S0 l) := fun j hj => by
  rw [S0_len] at hj
  rw [S0_at l j hj]
  exact ⟨h j hj, Int.le_refl _, (by decide : (0 : Int) ≤ 4611686018427387904)⟩
section
variable (n : Nat) (st tl wt : List Int)
open Classical in
noncomputable def labF (l : List Int) : List Int := if h : ∃ L, Found n st tl wt 1 (S0 l) L then h.choose else []
noncomputable def nxt (l : List Int) : Option Nat := if at_ (labF n st tl wt l) (amx (labF n st tl wt l) n) = 0 then none else some (amx (labF n st tl wt l) n)
noncomputable def far : Nat → List Int → List Int
  | 0, l => l
  | f + 1, l => match nxt n st tl wt l with | none => l | some v => far f (l ++ [(v : Int)])
end
section
variable {n : Nat} {st tl wt : List Int}
theorem lab_is (hw : ∀ e, 0 ≤ at_ wt e ∧ at_ wt e ≤ 18446744073709551615) {l L : List Int} (hf : Found n st tl wt 1 (S0 l) L) : labF n st tl wt l = L := by
  have hex : ∃ L, Found n st tl wt 1 (S0 l) L := ⟨L, hf⟩
  unfold labF
  rw [dif_pos hex]
  exact hex.choose_spec.only hf hw fun j hj => by
    rw [S0_len] at hj
    rw [S0_at l j hj]
    exact ⟨Int.le_refl _, (by decide : (0 : Int) ≤ 18446744073709551615)⟩
theorem far_stop {l L : List Int} (hw : ∀ e, 0 ≤ at_ wt e ∧ at_ wt e ≤ 18446744073709551615) (hf : Found n st tl wt 1 (S0 l) L) (h0 : at_ L (amx L n) = 0) (f : Nat) : far n st tl wt f l = l := by
  cases f with
  | zero => rfl
  | succ f =>
    have : nxt n st tl wt l = none := by unfold nxt; rw [lab_is hw hf, if_pos h0]
    show (match nxt n st tl wt l with | none => l | some v => far n st tl wt f (l ++ [(v : Int)])) = l
    rw [this]
theorem far_step {l L : List Int} (hw : ∀ e, 0 ≤ at_ wt e ∧ at_ wt e ≤ 18446744073709551615) (hf : Found n st tl wt 1 (S0 l) L) (h0 : at_ L (amx L n) ≠ 0) (f : Nat) : far n st tl wt (f + 1) l = far n st tl wt f (l ++ [(amx L n : Int)]) := by
  have : nxt n st tl wt l = some (amx L n) := by unfold nxt; rw [lab_is hw hf, if_neg h0]
  show (match nxt n st tl wt l with | none => l | some v => far n st tl wt f (l ++ [(v : Int)])) = _
  rw [this]
/-- A landmark is at 0. -/
theorem found_zero {l L : List Int} (hf : Found n st tl wt 1 (S0 l) L) {j v : Nat} (hj : j < l.length) (hv : at_ l j = (v : Int)) : v < n ∧ at_ L v = 0 := by
  obtain ⟨u, h1, h2, h3⟩ := hf.sts j (by rw [S0_len]; exact hj)
  rw [S0_at l j hj] at h2 h3
  have e : u = v := by simp only at h2; omega
  subst e
  have := (hf.rng u h1).1
  simp only at h3
  exact ⟨h1, by omega⟩
/-- All of them are told apart. -/
def Apart (l : List Int) : Prop := ∀ i j, i < j → j < l.length → at_ l i ≠ at_ l j
theorem at_snoc (l : List Int) (v : Int) (j : Nat) : at_ (l ++ [v]) j = if j < l.length then at_ l j else if j = l.length then v else 0 := by
  unfold at_
  by_cases h : j < l.length
  · rw [if_pos h, List.getElem?_append_left h]
  · rw [if_neg h, List.getElem?_append_right (by omega)]
    by_cases e : j = l.length
    · subst e; simp
    · rw [if_neg e, List.getElem?_eq_none (by simp; omega)]; rfl
theorem Vs.snoc {l : List Int} (h : Vs n l) {v : Nat} (hv : v < n) : Vs n (l ++ [(v : Int)]) := fun j hj => by
  rw [at_snoc]
  split
  · exact h j (by assumption)
  · rw [if_pos (by simp at hj; omega)]; omega
theorem Apart.snoc {l L : List Int} (h : Apart l) (hv : Vs n l) (hf : Found n st tl wt 1 (S0 l) L) {v : Nat} (h0 : at_ L v ≠ 0) : Apart (l ++ [(v : Int)]) := fun i j hij hj => by
  simp only [List.length_append, List.length_singleton] at hj
  rw [at_snoc, at_snoc, if_pos (by omega)]
  by_cases e : j < l.length
  · rw [if_pos e]; exact h i j hij e
  · rw [if_neg e, if_pos (by omega)]
    intro e2
    exact h0 (found_zero hf (j := i) (by omega) e2).2
/-- Where all vertices are landmarks, all is at 0. -/
theorem all_zero {l L : List Int} (h : Apart l) (hv : Vs n l) (hf : Found n st tl wt 1 (S0 l) L) (hl : n ≤ l.length) (hn : 0 < n) : at_ L (amx L n) = 0 := by
  have hall : ∀ v, v < n → ∃ j, j < l.length ∧ at_ l j = (v : Int) := by
    intro v hvn
    -- the landmarks as numbers below n, told apart: n of them are all
    have inj : ∀ (m : Nat) (f : Nat → Nat), (∀ i, i < m → f i < m) → (∀ i j, i < j → j < m → f i ≠ f j) → ∀ v, v < m → ∃ i, i < m ∧ f i = v := by
      intro m
      induction m with
      | zero => intro f _ _ v hv; omega
      | succ m ih =>
        intro f hr hi v hv
        -- swap the value m away
        by_cases hm : ∃ k, k < m ∧ f k = m
        · obtain ⟨k, hk, hfk⟩ := hm
          have hlast : f m < m := by
            have h1 := hr m (by omega)
            have h2 := hi k m hk (by omega)
            omega
          by_cases hvm : v = m
          · exact ⟨k, by omega, by omega⟩
          · obtain ⟨i, h1, h2⟩ := ih (fun i => if i = k then f m else f i) (by
              intro i hi2
              split
              · exact hlast
              · have h1 := hr i (by omega)
                rename_i hne
                have h2 : f i ≠ m := by
                  intro e
                  rcases Nat.lt_or_ge i k with h3 | h3
                  · exact hi i k h3 (by omega) (by omega)
                  · exact hi k i (by omega) (by omega) (by omega)
                omega) (by
              intro i j hij hj
              split
              · rename_i e
                subst e
                rw [if_neg (by omega)]
                exact fun e => hi j m hj (by omega) e.symm
              · split
                · exact hi i m (by omega) (by omega)
                · exact hi i j hij (by omega)) v (by omega)
            by_cases hik : i = k
            · rw [if_pos hik] at h2; exact ⟨m, by omega, h2⟩
            · rw [if_neg hik] at h2; exact ⟨i, by omega, h2⟩
        · have hbl : ∀ i, i < m → f i < m := fun i h1 => by
            have h2 := hr i (by omega)
            have h3 : f i ≠ m := fun e => hm ⟨i, h1, e⟩
            omega
          by_cases hvm : v = m
          · -- then f m = m
            have h1 := hr m (by omega)
            by_cases e : f m = m
            · exact ⟨m, by omega, by omega⟩
            · exfalso
              obtain ⟨i, h2, h3⟩ := ih f hbl (fun i j a b => hi i j a (by omega)) (f m) (by omega)
              exact hi i m h2 (by omega) h3
          · obtain ⟨i, h2, h3⟩ := ih f hbl (fun i j a b => hi i j a (by omega)) v (by omega)
            exact ⟨i, by omega, h3⟩
    obtain ⟨i, h1, h2⟩ := inj n (fun i => (at_ l i).toNat) (fun i hi => by have := hv i (by omega); show (at_ l i).toNat < n; omega) (fun i j hij hj e => by
      have a := hv i (by omega)
      have b := hv j (by omega)
      have c := h i j hij (by omega)
      have e' : (at_ l i).toNat = (at_ l j).toNat := e
      exact c (by omega)) v hvn
    have a := hv i (by omega)
    have h2' : (at_ l i).toNat = v := h2
    exact ⟨i, by omega, by omega⟩
  obtain ⟨j, h1, h2⟩ := hall (amx L n) (amx_lt L hn)
  exact (found_zero hf h1 h2).2
end
end Go.Proofs.Ytehlciejhegndaa
