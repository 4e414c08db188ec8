/- The answers of Order and Longest, plainly. -/
import Derived.Test.YtacmlilcamkndaaTw
namespace Go.Proofs.Ytacmlilcamkndaa
set_option linter.unusedVariables false
theorem least_ex (P : Int → Prop) (n : Nat) (h : ∀ v, P v → 0 ≤ v ∧ v < (n : Int)) (hex : ∃ v, P v) : ∃ u, P u ∧ ∀ v, P v → u ≤ v := by
  have key : ∀ k : Nat, (∃ v, P v ∧ v < (k : Int)) → ∃ u, P u ∧ ∀ v, P v → u ≤ v := by
    intro k
    induction k with
    | zero => rintro ⟨v, hv, h1⟩; have := h v hv; omega
    | succ k ih =>
      rintro ⟨v, hv, h1⟩
      by_cases hk : ∃ v, P v ∧ v < (k : Int)
      · exact ih hk
      · refine ⟨v, hv, fun x hx => ?_⟩
        rcases Int.lt_or_le x v with h2 | h2
        · exact absurd ⟨x, hx, by omega⟩ hk
        · exact h2
  obtain ⟨v, hv⟩ := hex
  exact key n ⟨v, hv, (h v hv).2⟩
theorem fin_ex (n : Nat) (st tl : List Int) : ∃ l, Fin n st tl l := by
  have key : ∀ k l, Sq n st tl l → n - l.length ≤ k → ∃ l', Fin n st tl l' := by
    intro k
    induction k with
    | zero =>
      intro l hl hk
      refine ⟨l, hl, fun v hv => ?_⟩
      obtain ⟨u, hu, hm⟩ := least_ex (Rdy n tl (dn n st l) l) n (fun v hv => hv.1) ⟨v, hv⟩
      have := Sq.len n st tl (.snoc hl hu hm)
      simp at this
      omega
    | succ k ih =>
      intro l hl hk
      by_cases hex : ∃ v, Rdy n tl (dn n st l) l v
      · obtain ⟨u, hu, hm⟩ := least_ex (Rdy n tl (dn n st l) l) n (fun v hv => hv.1) hex
        have h1 := Sq.snoc hl hu hm
        refine ih _ h1 ?_
        have := Sq.len n st tl h1
        simp at this ⊢
        omega
      · exact ⟨l, hl, fun v hv => hex ⟨v, hv⟩⟩
  exact key _ [] .nil (Nat.le_refl _)
noncomputable def ordL (n : Nat) (st tl : List Int) : List Int := (fin_ex n st tl).choose
theorem ordL_fin (n : Nat) (st tl : List Int) : Fin n st tl (ordL n st tl) := (fin_ex n st tl).choose_spec
theorem ordL_eq {n : Nat} {st tl l : List Int} (h : Fin n st tl l) : l = ordL n st tl := fin_one n st tl h (ordL_fin n st tl)
/-- What Order answers. -/
noncomputable def ordA (N : Int) (st tl wt : List Int) : List Int × Int :=
  if (chk N st tl wt).1 = 0 then (if (ordL N.toNat st tl).length < N.toNat then ([], 33) else (ordL N.toNat st tl, 0)) else ([], (chk N st tl wt).1)
theorem ordA_bad {N : Int} {st tl wt : List Int} (h : ¬ (chk N st tl wt).1 = 0) : ordA N st tl wt = ([], (chk N st tl wt).1) := by unfold ordA; rw [if_neg h]
theorem ordA_few {n : Nat} {st tl wt l : List Int} (h : (chk (n : Int) st tl wt).1 = 0) (hf : Fin n st tl l) (hl : l.length < n) : ordA n st tl wt = ([], 33) := by
  unfold ordA; rw [if_pos h, Int.toNat_natCast, if_pos (by rw [← ordL_eq hf]; exact hl)]
theorem ordA_all {n : Nat} {st tl wt l : List Int} (h : (chk (n : Int) st tl wt).1 = 0) (hf : Fin n st tl l) (hl : ¬ l.length < n) : ordA n st tl wt = (l, 0) := by
  unfold ordA; rw [if_pos h, Int.toNat_natCast, if_neg (by rw [← ordL_eq hf]; exact hl), ← ordL_eq hf]
/-- One edge of u. -/
def stepL (L : List Int) (u a : Nat) : List Int := L.set a (max (at_ L a) (at_ L u + 1))
def rowL (tl : List Int) (L : List Int) (u p : Nat) : Nat → List Int
  | 0 => L
  | j + 1 => stepL (rowL tl L u p j) u (at_ tl (p + j)).toNat
def allL (n : Nat) (st tl l : List Int) : Nat → List Int
  | 0 => tab n (fun _ => 0)
  | i + 1 => rowL tl (allL n st tl l i) (at_ l i).toNat (at_ st (at_ l i).toNat).toNat ((at_ st ((at_ l i).toNat + 1)).toNat - (at_ st (at_ l i).toNat).toNat)
noncomputable def lngA (N : Int) (st tl wt : List Int) : List Int × Int :=
  if (ordA N st tl wt).2 = 0 then (allL N.toNat st tl (ordA N st tl wt).1 (ordA N st tl wt).1.length, 0) else ([], (ordA N st tl wt).2)
def Bd (n : Nat) (b : Int) (L : List Int) : Prop := L.length = n ∧ ∀ v, v < n → 0 ≤ at_ L v ∧ at_ L v ≤ b
theorem bd_zero (n : Nat) : Bd n 0 (tab n (fun _ => 0)) := ⟨tab_length _ _, fun v hv => by rw [tab_at _ _ _ hv]; omega⟩
theorem Bd.mono {n : Nat} {b c : Int} {L : List Int} (h : Bd n b L) (hc : b ≤ c) : Bd n c L := ⟨h.1, fun v hv => by have := h.2 v hv; omega⟩
theorem bd_step {n : Nat} {b : Int} {L : List Int} {u a : Nat} (h : Bd n b L) (hu : u < n) (ha : a < n) : Bd n (b + 1) (stepL L u a) := by
  refine ⟨by unfold stepL; rw [List.length_set]; exact h.1, fun v hv => ?_⟩
  unfold stepL
  rw [at_set _ _ _ _ (by rw [h.1]; exact ha)]
  have h1 := h.2 v hv; have h2 := h.2 u hu; have h3 := h.2 a ha
  by_cases e : v = a
  · rw [if_pos e]; omega
  · rw [if_neg e]; omega
end Go.Proofs.Ytacmlilcamkndaa
