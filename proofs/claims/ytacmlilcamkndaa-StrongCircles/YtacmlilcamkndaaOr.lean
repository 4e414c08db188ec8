/- The order of a graph's vertices, plainly: again and again the least one to which no edge goes from one that has not come. -/
import Derived.Test.YtacmlilcamkndaaRB
namespace Go.Proofs.Ytacmlilcamkndaa
set_option linter.unusedVariables false
theorem src_spec {n : Nat} {st tl wt : List Int} (h : Good n st tl wt) {p : Nat} (hp : p < tl.length) : at_ st (src st n p) ≤ (p : Int) ∧ (p : Int) < at_ st (src st n p + 1) := by
  have hl := src_lt h hp
  unfold src at hl ⊢
  cases he : first (fun v => decide ((p : Int) < at_ st (v + 1))) n with
  | none =>
    exfalso
    have h0 := first_none_of he
    have hn : 0 < n := by rw [he] at hl; simpa using hl
    have := h0 (n - 1) (by omega)
    simp only [decide_eq_false_iff_not] at this
    rw [show n - 1 + 1 = n by omega, h.last] at this
    omega
  | some v =>
    have h1 := first_of_some he
    simp only [decide_eq_true_eq] at h1
    refine ⟨?_, h1.2⟩
    show at_ st v ≤ _
    rcases Nat.eq_zero_or_pos v with h2 | h2
    · subst h2; rw [h.zero]; omega
    · have hb : ∀ j, j < v → ¬ ((p : Int) < at_ st (j + 1)) := by
        intro j hj hlt
        unfold first at he
        rw [List.find?_range_eq_some] at he
        have := he.2.2 j hj
        simp [hlt] at this
      have := hb (v - 1) (by omega)
      rw [show v - 1 + 1 = v by omega] at this
      omega
section
variable (n : Nat) (st tl : List Int)
/-- How many edges go to u that are not done. -/
def cn (D : Nat → Bool) (u : Int) : Nat := (List.range tl.length).countP fun e => decide (at_ tl e = u) && !D e
/-- Done: the edges of those that have come. -/
def dn (l : List Int) (e : Nat) : Bool := decide ((src st n e : Int) ∈ l)
/-- Done: these, and the edges of u below p. -/
def dp (l : List Int) (u p : Nat) (e : Nat) : Bool := decide ((src st n e : Int) ∈ l) || (decide (src st n e = u) && decide (e < p))
theorem countP_point (f g : Nat → Bool) (p : Nat) (h1 : f p = true) (h2 : g p = false) (h3 : ∀ e, e ≠ p → g e = f e) : ∀ m, (List.range m).countP f = (List.range m).countP g + (if p < m then 1 else 0)
  | 0 => by simp
  | m + 1 => by
    rw [List.range_succ, List.countP_append, List.countP_append, countP_point f g p h1 h2 h3 m]
    simp only [List.countP_cons, List.countP_nil, Nat.zero_add]
    by_cases e : m = p
    · subst e; rw [h1, h2]; simp
    · rw [h3 m e]
      by_cases hl : p < m
      · rw [if_pos hl, if_pos (show p < m + 1 by omega)]; omega
      · rw [if_neg hl, if_neg (show ¬ p < m + 1 by omega)]; omega
theorem countP_le (f g : Nat → Bool) (h : ∀ e, f e = true → g e = true) : ∀ m, (List.range m).countP f ≤ (List.range m).countP g := fun m => List.countP_mono_left (fun e _ => h e)
theorem cn_congr {D E : Nat → Bool} (u : Int) (h : ∀ e, e < tl.length → D e = E e) : cn tl D u = cn tl E u := by
  unfold cn
  refine List.countP_congr fun e he => ?_
  rw [h e (List.mem_range.1 he)]
theorem cn_le (D E : Nat → Bool) (u : Int) (h : ∀ e, D e = true → E e = true) : cn tl E u ≤ cn tl D u := by
  unfold cn
  refine countP_le _ _ (fun e he => ?_) _
  simp only [Bool.and_eq_true, Bool.not_eq_true'] at he ⊢
  refine ⟨he.1, ?_⟩
  cases hd : D e with
  | false => rfl
  | true => rw [h e hd] at he; cases he.2
theorem cn_max (D : Nat → Bool) (u : Int) : cn tl D u ≤ tl.length := by
  unfold cn
  refine Nat.le_trans List.countP_le_length ?_
  simp
theorem dp_start (l : List Int) (u : Nat) {wt : List Int} (hg : Good n st tl wt) (p : Nat) (hp : at_ st u = (p : Int)) : ∀ e, e < tl.length → dp n st l u p e = dn n st l e := fun e he => by
  unfold dp dn
  by_cases h : src st n e = u
  · have h2 := (src_spec hg he).1
    rw [h, hp] at h2
    have hlt : ¬ e < p := by omega
    simp [h, hlt]
  · simp [h]
theorem dp_end (l : List Int) (u : Nat) {wt : List Int} (hg : Good n st tl wt) (p : Nat) (hp : at_ st (u + 1) = (p : Int)) : ∀ e, e < tl.length → dp n st l u p e = dn n st (l ++ [(u : Int)]) e := fun e he => by
  unfold dp dn
  by_cases h : src st n e = u
  · have h2 := (src_spec hg he).2
    rw [h, hp] at h2
    have hlt : e < p := by omega
    simp [h, hlt]
  · have h3 : ¬ (src st n e : Int) = (u : Int) := by omega
    simp [h, h3]
/-- One more edge done. -/
theorem cn_step (l : List Int) (u p : Nat) {wt : List Int} (hg : Good n st tl wt) (hp : p < tl.length) (hs : src st n p = u) (hu : ¬ (u : Int) ∈ l) (v : Int) :
    cn tl (dp n st l u p) v = cn tl (dp n st l u (p + 1)) v + (if at_ tl p = v then 1 else 0) := by
  by_cases hv : at_ tl p = v
  · rw [if_pos hv]
    unfold cn
    rw [countP_point (fun e => decide (at_ tl e = v) && !dp n st l u p e) (fun e => decide (at_ tl e = v) && !dp n st l u (p + 1) e) p ?_ ?_ ?_ tl.length, if_pos hp]
    · simp [dp, hv, hs, hu]
    · simp [dp, hs]
    · intro e he
      simp only [dp]
      have : decide (e < p + 1) = decide (e < p) := decide_eq_decide.2 (by omega)
      rw [this]
  · rw [if_neg hv]
    unfold cn
    refine List.countP_congr fun e he => ?_
    by_cases h : e = p
    · subst h; simp [hv]
    · have : decide (e < p + 1) = decide (e < p) := decide_eq_decide.2 (by omega)
      simp only [dp, this]
theorem dp_mono (l : List Int) (u p : Nat) (e : Nat) (h : dp n st l u p e = true) : dp n st l u (p + 1) e = true := by
  simp only [dp, Bool.or_eq_true, Bool.and_eq_true, decide_eq_true_eq] at h ⊢
  rcases h with h | h
  · exact .inl h
  · exact .inr ⟨h.1, by omega⟩
/-- v can come next. -/
def Rdy (D : Nat → Bool) (l : List Int) (v : Int) : Prop := (0 ≤ v ∧ v < (n : Int)) ∧ ¬ v ∈ l ∧ cn tl D v = 0
/-- These have come, one behind the other. -/
inductive Sq : List Int → Prop
  | nil : Sq []
  | snoc {l : List Int} {u : Int} (h : Sq l) (hr : Rdy n tl (dn n st l) l u) (hm : ∀ v, Rdy n tl (dn n st l) l v → u ≤ v) : Sq (l ++ [u])
def Fin (l : List Int) : Prop := Sq n st tl l ∧ ∀ v, ¬ Rdy n tl (dn n st l) l v
theorem Sq.front {l m : List Int} (h : Sq n st tl (l ++ m)) : Sq n st tl l := by
  obtain ⟨k, hk⟩ : ∃ k, k = l ++ m := ⟨_, rfl⟩
  rw [← hk] at h
  induction h generalizing m with
  | nil =>
    have := List.append_eq_nil_iff.1 hk.symm
    rw [this.1]; exact .nil
  | @snoc l' u h hr hm ih =>
    rcases List.eq_nil_or_concat m with rfl | ⟨m', x, rfl⟩
    · rw [List.append_nil] at hk
      rw [← hk]; exact .snoc h hr hm
    · rw [List.concat_eq_append, ← List.append_assoc] at hk
      exact ih (List.append_inj' hk rfl).1
theorem Sq.last {l : List Int} {u : Int} (h : Sq n st tl (l ++ [u])) : Rdy n tl (dn n st l) l u ∧ ∀ v, Rdy n tl (dn n st l) l v → u ≤ v := by
  obtain ⟨k, hk⟩ : ∃ k, k = l ++ [u] := ⟨_, rfl⟩
  rw [← hk] at h
  cases h with
  | nil => simp at hk
  | @snoc l' u' h hr hm =>
    obtain ⟨h1, h2⟩ := List.append_inj' hk rfl
    simp at h2
    subst h1 h2
    exact ⟨hr, hm⟩
theorem fin_prefix {a b : List Int} (ha : Sq n st tl a) (hb : Fin n st tl b) : ∃ c, b = a ++ c := by
  induction ha with
  | nil => exact ⟨b, rfl⟩
  | @snoc l u h hr hm ih =>
    obtain ⟨c, hc⟩ := ih
    cases c with
    | nil =>
      rw [List.append_nil] at hc
      exact absurd hr (hc ▸ hb.2 u)
    | cons x c =>
      have hq : b = (l ++ [x]) ++ c := by rw [hc]; simp
      have h1 := Sq.last n st tl (Sq.front n st tl (m := c) (hq ▸ hb.1))
      have hx : x = u := by
        have := h1.2 u hr
        have := hm x h1.1
        omega
      exact ⟨c, by rw [hq, hx]⟩
/-- There is one such order. -/
theorem fin_one {a b : List Int} (ha : Fin n st tl a) (hb : Fin n st tl b) : a = b := by
  obtain ⟨c, hc⟩ := fin_prefix n st tl ha.1 hb
  obtain ⟨d, hd⟩ := fin_prefix n st tl hb.1 ha
  have h1 := congrArg List.length hc
  have h2 := congrArg List.length hd
  simp only [List.length_append] at h1 h2
  have : c = [] := List.eq_nil_of_length_eq_zero (by omega)
  rw [hc, this, List.append_nil]
theorem Sq.rng {l : List Int} (h : Sq n st tl l) : (∀ v, v ∈ l → 0 ≤ v ∧ v < (n : Int)) ∧ l.Nodup := by
  induction h with
  | nil => exact ⟨fun v h => by simp at h, List.nodup_nil⟩
  | @snoc l u h hr hm ih =>
    refine ⟨fun v hv => ?_, ?_⟩
    · rcases List.mem_append.1 hv with h1 | h1
      · exact ih.1 v h1
      · rw [List.mem_singleton.1 h1]; exact hr.1
    · refine List.nodup_append.2 ⟨ih.2, by simp, fun a ha b hb => ?_⟩
      rw [List.mem_singleton.1 hb]
      intro e; subst e; exact hr.2.1 ha
/-- Distinct numbers below n are at most n. -/
theorem few {l : List Int} (h : ∀ v, v ∈ l → 0 ≤ v ∧ v < (n : Int)) (hn : l.Nodup) : l.length ≤ n := by
  have h2 : l ⊆ (List.range n).map (fun (i : Nat) => (i : Int)) := fun x hx => List.mem_map.2 ⟨x.toNat, List.mem_range.2 (by have := h x hx; omega), by have := h x hx; show ((x.toNat : Nat) : Int) = x; omega⟩
  have h3 := hn.length_le_of_subset h2
  simpa using h3
theorem Sq.len {l : List Int} (h : Sq n st tl l) : l.length ≤ n := few n (Sq.rng n st tl h).1 (Sq.rng n st tl h).2
/-- Those that have come have no edges left. -/
theorem Sq.zero {l : List Int} (h : Sq n st tl l) : ∀ v, v ∈ l → cn tl (dn n st l) v = 0 := by
  induction h with
  | nil => intro v h; simp at h
  | @snoc l u h hr hm ih =>
    intro v hv
    have hle := cn_le tl (dn n st l) (dn n st (l ++ [u])) v (fun e he => by simp only [dn, decide_eq_true_eq, List.mem_append] at he ⊢; exact .inl he)
    rcases List.mem_append.1 hv with h1 | h1
    · have := ih v h1; omega
    · have h2 := hr.2.2; rw [← List.mem_singleton.1 h1] at h2; omega
end
end Go.Proofs.Ytacmlilcamkndaa
