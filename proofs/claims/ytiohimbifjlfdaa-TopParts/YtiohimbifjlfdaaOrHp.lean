import Derived.Test.YtiohimbifjlfdaaRB
/- The order of a graph's vertices, plainly: again and again the least one to which no edge goes from one that has not come. -/
namespace Go.Proofs.Ytiohimbifjlfdaa
set_option linter.unusedVariables false
theorem src_spec {n : Nat} {st tl wt : List Int} (h : Good n st tl wt) {p : Nat} (hp : p < tl.length) : at_ st (src st n p) ≤ (p : Int) ∧ (p : Int) < at_ st (src st n p + 1) := by
  have hl := src_lt h hp
  unfold src at hl ⊢
  cases he : first (fun v => decide ((p : Int) < at_ st (v + 1))) n with
  | none =>
    exfalso
    have h0 := first_none_of he
    have hn : 0 < n := by rw [he] at hl; simpa using hl
    have := h0 (n - 1) (by omega)
    simp only [decide_eq_false_iff_not] at this
    rw [show n - 1 + 1 = n by omega, h.last] at this
    omega
  | some v =>
    have h1 := first_of_some he
    simp only [decide_eq_true_eq] at h1
    refine ⟨?_, h1.2⟩
    show at_ st v ≤ _
    rcases Nat.eq_zero_or_pos v with h2 | h2
    · subst h2; rw [h.zero]; omega
    · have hb : ∀ j, j < v → ¬ ((p : Int) < at_ st (j + 1)) := by
        intro j hj hlt
        unfold first at he
        rw [List.find?_range_eq_some] at he
        have := he.2.2 j hj
        simp [hlt] at this
      have := hb (v - 1) (by omega)
      rw [show v - 1 + 1 = v by omega] at this
      omega
section
variable (n : Nat) (st tl : List Int)
/-- How many edges go to u that are not done. -/
def cn (D : Nat → Bool) (u : Int) : Nat := (List.range tl.length).countP fun e => decide (at_ tl e = u) && !D e
/-- Done: the edges of those that have come. -/
def dn (l : List Int) (e : Nat) : Bool := decide ((src st n e : Int) ∈ l)
/-- Done: these, and the edges of u below p. -/
def dp (l : List Int) (u p : Nat) (e : Nat) : Bool := decide ((src st n e : Int) ∈ l) || (decide (src st n e = u) && decide (e < p))
theorem countP_point (f g : Nat → Bool) (p : Nat) (h1 : f p = true) (h2 : g p = false) (h3 : ∀ e, e ≠ p → g e = f e) : ∀ m, (List.range m).countP f = (List.range m).countP g + (if p < m then 1 else 0)
  | 0 => by simp
  | m + 1 => by
    rw [List.range_succ, List.countP_append, List.countP_append, countP_point f g p h1 h2 h3 m]
    simp only [List.countP_cons, List.countP_nil, Nat.zero_add]
    by_cases e : m = p
    · subst e; rw [h1, h2]; simp
    · rw [h3 m e]
      by_cases hl : p < m
      · rw [if_pos hl, if_pos (show p < m + 1 by omega)]; omega
      · rw [if_neg hl, if_neg (show ¬ p < m + 1 by omega)]; omega
theorem countP_le (f g : Nat → Bool) (h : ∀ e, f e = true → g e = true) : ∀ m, (List.range m).countP f ≤ (List.range m).countP g := fun m => List.countP_mono_left (fun e _ => h e)
theorem cn_congr {D E : Nat → Bool} (u : Int) (h : ∀ e, e < tl.length → D e = E e) : cn tl D u = cn tl E u := by
  unfold cn
  refine List.countP_congr fun e he => ?_
  rw [h e (List.mem_range.1 he)]
theorem cn_le (D E : Nat → Bool) (u : Int) (h : ∀ e, D e = true → E e = true) : cn tl E u ≤ cn tl D u := by
  unfold cn
  refine countP_le _ _ (fun e he => ?_) _
  simp only [Bool.and_eq_true, Bool.not_eq_true'] at he ⊢
  refine ⟨he.1, ?_⟩
  cases hd : D e with
  | false => rfl
  | true => rw [h e hd] at he; cases he.2
theorem cn_max (D : Nat → Bool) (u : Int) : cn tl D u ≤ tl.length := by
  unfold cn
  refine Nat.le_trans List.countP_le_length ?_
  simp
theorem dp_start (l : List Int) (u : Nat) {wt : List Int} (hg : Good n st tl wt) (p : Nat) (hp : at_ st u = (p : Int)) : ∀ e, e < tl.length → dp n st l u p e = dn n st l e := fun e he => by
  unfold dp dn
  by_cases h : src st n e = u
  · have h2 := (src_spec hg he).1
    rw [h, hp] at h2
    have hlt : ¬ e < p := by omega
    simp [h, hlt]
  · simp [h]
theorem dp_end (l : List Int) (u : Nat) {wt : List Int} (hg : Good n st tl wt) (p : Nat) (hp : at_ st (u + 1) = (p : Int)) : ∀ e, e < tl.length → dp n st l u p e = dn n st (l ++ [(u : Int)]) e := fun e he => by
  unfold dp dn
  by_cases h : src st n e = u
  · have h2 := (src_spec hg he).2
    rw [h, hp] at h2
    have hlt : e < p := by omega
    simp [h, hlt]
  · have h3 : ¬ (src st n e : Int) = (u : Int) := by omega
    simp [h, h3]
/-- One more edge done. -/
theorem cn_step (l : List Int) (u p : Nat) {wt : List Int} (hg : Good n st tl wt) (hp : p < tl.length) (hs : src st n p = u) (hu : ¬ (u : Int) ∈ l) (v : Int) :
    cn tl (dp n st l u p) v = cn tl (dp n st l u (p + 1)) v + (if at_ tl p = v then 1 else 0) := by
  by_cases hv : at_ tl p = v
  · rw [if_pos hv]
    unfold cn
    rw [countP_point (fun e => decide (at_ tl e = v) && !dp n st l u p e) (fun e => decide (at_ tl e = v) && !dp n st l u (p + 1) e) p ?_ ?_ ?_ tl.length, if_pos hp]
    · simp [dp, hv, hs, hu]
    · simp [dp, hs]
    · intro e he
      simp only [dp]
      have : decide (e < p + 1) = decide (e < p) := decide_eq_decide.2 (by omega)
      rw [this]
  · rw [if_neg hv]
    unfold cn
    refine List.countP_congr fun e he => ?_
    by_cases h : e = p
    · subst h; simp [hv]
    · have : decide (e < p + 1) = decide (e < p) := decide_eq_decide.2 (by omega)
      simp only [dp, this]
theorem dp_mono (l : List Int) (u p : Nat) (e : Nat) (h : dp n st l u p e = true) : dp n st l u (p + 1) e = true := by
  simp only [dp, Bool.or_eq_true, Bool.and_eq_true, decide_eq_true_eq] at h ⊢
  rcases h with h | h
  · exact .inl h
  · exact .inr ⟨h.1, by omega⟩
/-- v can come next. -/
def Rdy (D : Nat → Bool) (l : List Int) (v : Int) : Prop := (0 ≤ v ∧ v < (n : Int)) ∧ ¬ v ∈ l ∧ cn tl D v = 0
/-- These have come, one behind the other. -/
inductive Sq : List Int → Prop
  | nil : Sq []
  | snoc {l : List Int} {u : Int} (h : Sq l) (hr : Rdy n tl (dn n st l) l u) (hm : ∀ v, Rdy n tl (dn n st l) l v → u ≤ v) : Sq (l ++ [u])
def Fin (l : List Int) : Prop := Sq n st tl l ∧ ∀ v, ¬ Rdy n tl (dn n st l) l v
theorem Sq.front {l m : List Int} (h : Sq n st tl (l ++ m)) : Sq n st tl l := by
  obtain ⟨k, hk⟩ : ∃ k, k = l ++ m := ⟨_, rfl⟩
  rw [← hk] at h
  induction h generalizing m with
  | nil =>
    have := List.append_eq_nil_iff.1 hk.symm
    rw [this.1]; exact .nil
  | @snoc l' u h hr hm ih =>
    rcases List.eq_nil_or_concat m with rfl | ⟨m', x, rfl⟩
    · rw [List.append_nil] at hk
      rw [← hk]; exact .snoc h hr hm
    · rw [List.concat_eq_append, ← List.append_assoc] at hk
      exact ih (List.append_inj' hk rfl).1
theorem Sq.last {l : List Int} {u : Int} (h : Sq n st tl (l ++ [u])) : Rdy n tl (dn n st l) l u ∧ ∀ v, Rdy n tl (dn n st l) l v → u ≤ v := by
  obtain ⟨k, hk⟩ : ∃ k, k = l ++ [u] := ⟨_, rfl⟩
  rw [← hk] at h
  cases h with
  | nil => simp at hk
  | @snoc l' u' h hr hm =>
    obtain ⟨h1, h2⟩ := List.append_inj' hk rfl
    simp at h2
    subst h1 h2
    exact ⟨hr, hm⟩
theorem fin_prefix {a b : List Int} (ha : Sq n st tl a) (hb : Fin n st tl b) : ∃ c, b = a ++ c := by
  induction ha with
  | nil => exact ⟨b, rfl⟩
  | @snoc l u h hr hm ih =>
    obtain ⟨c, hc⟩ := ih
    cases c with
    | nil =>
      rw [List.append_nil] at hc
      exact absurd hr (hc ▸ hb.2 u)
    | cons x c =>
      have hq : b = (l ++ [x]) ++ c := by rw [hc]; simp
      have h1 := Sq.last n st tl (Sq.front n st tl (m := c) (hq ▸ hb.1))
      have hx : x = u := by
        have := h1.2 u hr
        have := hm x h1.1
        omega
      exact ⟨c, by rw [hq, hx]⟩
/-- There is one such order. -/
theorem fin_one {a b : List Int} (ha : Fin n st tl a) (hb : Fin n st tl b) : a = b := by
  obtain ⟨c, hc⟩ := fin_prefix n st tl ha.1 hb
  obtain ⟨d, hd⟩ := fin_prefix n st tl hb.1 ha
  have h1 := congrArg List.length hc
  have h2 := congrArg List.length hd
  simp only [List.length_append] at h1 h2
  have : c = [] := List.eq_nil_of_length_eq_zero (by omega)
  rw [hc, this, List.append_nil]
theorem Sq.rng {l : List Int} (h : Sq n st tl l) : (∀ v, v ∈ l → 0 ≤ v ∧ v < (n : Int)) ∧ l.Nodup := by
  induction h with
  | nil => exact ⟨fun v h => by simp at h, List.nodup_nil⟩
  | @snoc l u h hr hm ih =>
    refine ⟨fun v hv => ?_, ?_⟩
    · rcases List.mem_append.1 hv with h1 | h1
      · exact ih.1 v h1
      · rw [List.mem_singleton.1 h1]; exact hr.1
    · refine List.nodup_append.2 ⟨ih.2, by simp, fun a ha b hb => ?_⟩
      rw [List.mem_singleton.1 hb]
      intro e; subst e; exact hr.2.1 ha
/-- Distinct numbers below n are at most n. -/
theorem few {l : List Int} (h : ∀ v, v ∈ l → 0 ≤ v ∧ v < (n : Int)) (hn : l.Nodup) : l.length ≤ n := by
  have h2 : l ⊆ (List.range n).map (fun (i : Nat) => (i : Int)) := fun x hx => List.mem_map.2 ⟨x.toNat, List.mem_range.2 (by have := h x hx; omega), by have := h x hx; show ((x.toNat : Nat) : Int) = x; omega⟩
  have h3 := hn.length_le_of_subset h2
  simpa using h3
theorem Sq.len {l : List Int} (h : Sq n st tl l) : l.length ≤ n := few n (Sq.rng n st tl h).1 (Sq.rng n st tl h).2
/-- Those that have come have no edges left. -/
theorem Sq.zero {l : List Int} (h : Sq n st tl l) : ∀ v, v ∈ l → cn tl (dn n st l) v = 0 := by
  induction h with
  | nil => intro v h; simp at h
  | @snoc l u h hr hm ih =>
    intro v hv
    have hle := cn_le tl (dn n st l) (dn n st (l ++ [u])) v (fun e he => by simp only [dn, decide_eq_true_eq, List.mem_append] at he ⊢; exact .inl he)
    rcases List.mem_append.1 hv with h1 | h1
    · have := ih v h1; omega
    · have h2 := hr.2.2; rw [← List.mem_singleton.1 h1] at h2; omega
end
end Go.Proofs.Ytiohimbifjlfdaa

/- A heap of numbers, the least first, plainly. -/
namespace Go.Proofs.Ytiohimbifjlfdaa
set_option linter.unusedVariables false
def lb (l : List Int) (i : Nat) : Int := at_ l i
/-- The heap's order. -/
def Hp (l : List Int) : Prop := ∀ i, 1 ≤ i → i < l.length → lb l ((i - 1) / 2) ≤ lb l i
theorem Hp.root {l : List Int} (h : Hp l) (i : Nat) (hi : i < l.length) : lb l 0 ≤ lb l i := by
  induction i using Nat.strongRecOn with
  | _ i ih =>
    rcases Nat.eq_zero_or_pos i with h0 | h0
    · subst h0; omega
    · have h1 := h i h0 hi
      have h2 := ih ((i - 1) / 2) (by omega) (by omega)
      omega
theorem at_mem {l : List Int} {i : Nat} (hi : i < l.length) : at_ l i ∈ l := by
  unfold at_; rw [List.getElem?_eq_getElem hi]; exact List.getElem_mem hi
theorem mem_at_ {l : List Int} {e : Int} (h : e ∈ l) : ∃ i, i < l.length ∧ at_ l i = e := by
  obtain ⟨i, hi, rfl⟩ := List.getElem_of_mem h
  exact ⟨i, hi, by unfold at_; rw [List.getElem?_eq_getElem hi]; rfl⟩
theorem Hp.least {l : List Int} (h : Hp l) {e : Int} (he : e ∈ l) : lb l 0 ≤ e := by
  obtain ⟨i, hi, rfl⟩ := mem_at_ he
  exact h.root i hi
theorem at_set (l : List Int) (i j : Nat) (x : Int) (hi : i < l.length) : at_ (l.set i x) j = if j = i then x else at_ l j := by
  unfold at_
  by_cases e : j = i
  · subst e; rw [if_pos rfl, List.getElem?_set_self hi]; rfl
  · rw [if_neg e, List.getElem?_set_ne (fun h => e h.symm)]
theorem at_append (l : List Int) (x : Int) (j : Nat) : at_ (l ++ [x]) j = if j < l.length then at_ l j else if j = l.length then x else 0 := by
  unfold at_
  by_cases h : j < l.length
  · rw [if_pos h, List.getElem?_append_left h]
  · rw [if_neg h, List.getElem?_append_right (by omega)]
    by_cases e : j = l.length
    · subst e; simp
    · rw [if_neg e]
      rw [List.getElem?_eq_none (by simp; omega)]; rfl
/-- Two places exchanged: the same members. -/
theorem swap_perm (l : List Int) (i j : Nat) (hi : i < l.length) (hj : j < l.length) : ((l.set i (at_ l j)).set j (at_ l i)).Perm l := by
  have h1 : at_ l i = l[i] := by unfold at_; rw [List.getElem?_eq_getElem hi]; rfl
  have h2 : at_ l j = l[j] := by unfold at_; rw [List.getElem?_eq_getElem hj]; rfl
  rw [h1, h2]
  exact List.set_set_perm hi hj

/-- On the way up: x is to stand at the place a; all else is in order. -/
structure Up (m : List Int) (a : Nat) (x : Int) (l : List Int) : Prop where
  lt : a < m.length
  len : m.length = l.length + 1
  perm : (m.set a x).Perm (x :: l)
  ord : ∀ i, 1 ≤ i → i < m.length → i ≠ a → lb (m.set a x) ((i - 1) / 2) ≤ lb (m.set a x) i
  kid : ∀ c, 1 ≤ a → c < m.length → 1 ≤ c → (c - 1) / 2 = a → lb (m.set a x) ((a - 1) / 2) ≤ lb (m.set a x) c
theorem up_start (l : List Int) (x : Int) (h : Hp l) : Up (l ++ [x]) l.length x l := by
  have e : (l ++ [x]).set l.length x = l ++ [x] := by
    apply List.ext_getElem
    · simp
    · intro i h1 h2
      by_cases hh : i = l.length
      · subst hh; simp
      · rw [List.getElem_set_ne (fun h => hh h.symm)]
  refine ⟨by simp, by simp, by rw [e]; exact List.perm_append_singleton x l, ?_, ?_⟩
  · intro i h1 h2 h3
    rw [e]
    simp at h2
    have := h i h1 (by omega)
    unfold lb at this ⊢
    rw [at_append, at_append, if_pos (by omega), if_pos (by omega)]
    exact this
  · intro c h1 h2 h3 h4
    simp at h2
    omega
theorem up_step {m : List Int} {a : Nat} {x : Int} {l : List Int} (h : Up m a x l) (ha : 0 < a) (hx : x < lb m ((a - 1) / 2)) : Up (m.set a (at_ m ((a - 1) / 2))) ((a - 1) / 2) x l := by
  have hp : (a - 1) / 2 < m.length := by have := h.lt; omega
  have hne : (a - 1) / 2 ≠ a := by omega
  have hlt := h.lt
  obtain ⟨p, hpe⟩ : ∃ p, p = (a - 1) / 2 := ⟨_, rfl⟩
  rw [← hpe] at hp hne hx ⊢
  have A : ∀ j, at_ ((m.set a (at_ m p)).set p x) j = if j = p then x else if j = a then at_ m p else at_ m j := fun j => by
    rw [at_set _ _ _ _ (by simpa using hp), at_set _ _ _ _ hlt]
  have B : ∀ j, at_ (m.set a x) j = if j = a then x else at_ m j := fun j => at_set _ _ _ _ hlt
  have es : (m.set a (at_ m p)).set p x = ((m.set a x).set a (at_ (m.set a x) p)).set p (at_ (m.set a x) a) := by
    rw [B, B, if_neg hne, if_pos rfl, List.set_set]
  refine ⟨by simpa using hp, by simpa using h.len, ?_, ?_, ?_⟩
  · rw [es]
    exact (swap_perm _ _ _ (by simpa using hlt) (by simpa using hp)).trans h.perm
  · intro i h1 h2 h3
    simp at h2
    have o := h.ord i h1 h2
    have k := h.kid i ha h2 h1
    unfold lb at o k hx ⊢
    rw [A, A, if_neg h3]
    rw [B, B] at o
    rw [B, B] at k
    rw [← hpe, if_neg hne] at k
    by_cases e1 : (i - 1) / 2 = p
    · rw [if_pos e1]
      by_cases e2 : i = a
      · rw [if_pos e2]; omega
      · rw [if_neg e2]
        have o2 := o e2
        rw [e1, if_neg hne, if_neg e2] at o2
        omega
    · rw [if_neg e1]
      by_cases e2 : i = a
      · exact absurd (by rw [e2]; exact hpe.symm) e1
      · rw [if_neg e2]
        by_cases e3 : (i - 1) / 2 = a
        · rw [if_pos e3]
          have k2 := k e3
          rw [if_neg e2] at k2
          exact k2
        · rw [if_neg e3]
          have o2 := o e2
          rw [if_neg e3, if_neg e2] at o2
          exact o2
  · intro c hp1 h2 h3 h4
    simp at h2
    have o1 := h.ord p hp1 hp hne
    have o2 := h.ord c h3 h2
    unfold lb at o1 o2 hx ⊢
    rw [A, A, if_neg (by omega), if_neg (by omega)]
    rw [B, B, if_neg (by omega), if_neg hne] at o1
    by_cases e2 : c = a
    · rw [if_neg (by omega), if_pos e2]; exact o1
    · rw [if_neg (by omega), if_neg e2]
      have o3 := o2 e2
      rw [B, B, h4, if_neg hne, if_neg e2] at o3
      omega
theorem up_end {m : List Int} {a : Nat} {x : Int} {l : List Int} (h : Up m a x l) (hx : 0 < a → ¬ x < lb m ((a - 1) / 2)) : Hp (m.set a x) ∧ (m.set a x).length = l.length + 1 ∧ (m.set a x).Perm (x :: l) := by
  refine ⟨fun i h1 h2 => ?_, by simpa using h.len, h.perm⟩
  simp at h2
  by_cases e : i = a
  · subst e
    have := hx h1
    unfold lb at this ⊢
    rw [at_set _ _ _ _ h.lt, at_set _ _ _ _ h.lt, if_neg (by omega), if_pos rfl]
    omega
  · exact h.ord i h1 h2 e

/-- On the way down: x is to stand at the place a; all else is in order. -/
structure Down (m : List Int) (a : Nat) (x : Int) (l : List Int) : Prop where
  lt : a < m.length
  len : l.length = m.length + 1
  perm : l.Perm (at_ l 0 :: m.set a x)
  ord : ∀ i, 1 ≤ i → i < m.length → (i - 1) / 2 ≠ a → lb (m.set a x) ((i - 1) / 2) ≤ lb (m.set a x) i
  kid : ∀ c, 1 ≤ a → c < m.length → 1 ≤ c → (c - 1) / 2 = a → lb (m.set a x) ((a - 1) / 2) ≤ lb (m.set a x) c

theorem at_take (l : List Int) (n j : Nat) (h : j < n) : at_ (l.take n) j = at_ l j := by
  unfold at_; rw [List.getElem?_take_of_lt h]
theorem down_start (l : List Int) (n : Nat) (hl : l.length = n + 1) (hn : 0 < n) (h : Hp l) : Down (l.take n) 0 (at_ l n) l := by
  have hlen : (l.take n).length = n := by rw [List.length_take]; omega
  have A : ∀ j, j < n → at_ ((l.take n).set 0 (at_ l n)) j = if j = 0 then at_ l n else at_ l j := fun j hj => by
    rw [at_set _ _ _ _ (by omega), at_take _ _ _ hj]
  refine ⟨by omega, by omega, ?_, ?_, ?_⟩
  · obtain ⟨y, t, rfl⟩ : ∃ y t, l = y :: t := by cases l with | nil => simp at hl | cons y t => exact ⟨y, t, rfl⟩
    have e1 : at_ (y :: t) 0 = y := rfl
    rw [e1]
    refine List.Perm.cons y ?_
    have ht : t.length = n := by simpa using hl
    have e2 : (y :: t).take n = y :: t.take (n - 1) := by
      obtain ⟨k, rfl⟩ : ∃ k, n = k + 1 := ⟨n - 1, by omega⟩
      simp
    rw [e2, List.set_cons_zero]
    have e3 : t = t.take (n - 1) ++ [at_ (y :: t) n] := by
      apply List.ext_getElem?
      intro i
      by_cases hi : i < n - 1
      · rw [List.getElem?_append_left (by rw [List.length_take]; omega), List.getElem?_take_of_lt hi]
      · rw [List.getElem?_append_right (by rw [List.length_take]; omega), List.length_take, show min (n - 1) t.length = n - 1 by omega]
        by_cases hi2 : i = n - 1
        · subst hi2
          obtain ⟨k, rfl⟩ : ∃ k, n = k + 1 := ⟨n - 1, by omega⟩
          simp [at_, ht]
        · rw [List.getElem?_eq_none (by omega), List.getElem?_eq_none (by simp; omega)]
    conv => lhs; rw [e3]
    exact List.perm_append_singleton _ _
  · intro i h1 h2 h3
    have := h i h1 (by omega)
    unfold lb at this ⊢
    rw [A _ (by omega), A _ (by omega), if_neg h3, if_neg (by omega)]
    exact this
  · intro c h1; omega
theorem down_step {m : List Int} {a c : Nat} {x : Int} {l : List Int} (h : Down m a x l) (hc : c < m.length) (hc1 : 1 ≤ c) (hca : (c - 1) / 2 = a) (hs : ∀ s, 1 ≤ s → s < m.length → (s - 1) / 2 = a → lb m c ≤ lb m s) (hx : lb m c < x) : Down (m.set a (at_ m c)) c x l := by
  have hlt := h.lt
  have hne : c ≠ a := by omega
  have A : ∀ j, at_ ((m.set a (at_ m c)).set c x) j = if j = c then x else if j = a then at_ m c else at_ m j := fun j => by
    rw [at_set _ _ _ _ (by simpa using hc), at_set _ _ _ _ hlt]
  have B : ∀ j, at_ (m.set a x) j = if j = a then x else at_ m j := fun j => at_set _ _ _ _ hlt
  have es : (m.set a (at_ m c)).set c x = ((m.set a x).set a (at_ (m.set a x) c)).set c (at_ (m.set a x) a) := by
    rw [B, B, if_neg hne, if_pos rfl, List.set_set]
  refine ⟨by simpa using hc, by simpa using h.len, ?_, ?_, ?_⟩
  · rw [es]
    exact h.perm.trans (List.Perm.cons _ (swap_perm _ _ _ (by simpa using hlt) (by simpa using hc)).symm)
  · intro i h1 h2 h3
    simp at h2
    have o := h.ord i h1 h2
    have k := h.kid c
    have s := hs i h1 h2
    unfold lb at o k s hx ⊢
    rw [A, A, if_neg h3]
    rw [B, B] at o
    rw [B, B] at k
    by_cases e1 : (i - 1) / 2 = a
    · rw [if_pos e1]
      by_cases e2 : i = c
      · rw [if_pos e2]; omega
      · rw [if_neg e2, if_neg (by omega)]
        exact s e1
    · rw [if_neg e1]
      have o2 := o e1
      rw [if_neg e1] at o2
      by_cases e2 : i = c
      · exact absurd (by rw [e2]; exact hca) e1
      · rw [if_neg e2]
        by_cases e3 : i = a
        · rw [if_pos e3]
          have k2 := k (by omega) hc hc1 hca
          rw [if_neg (by omega), if_neg hne] at k2
          rw [e3]; exact k2
        · rw [if_neg e3]
          rw [if_neg e3] at o2
          exact o2
  · intro d h1 h2 h3 h4
    simp at h2
    have o := h.ord d h3 h2 (by omega)
    unfold lb at o ⊢
    rw [A, A, hca, if_neg (by omega), if_pos rfl, if_neg (by omega), if_neg (by omega)]
    rw [B, B, h4, if_neg hne, if_neg (by omega)] at o
    exact o
theorem down_end {m : List Int} {a : Nat} {x : Int} {l : List Int} (h : Down m a x l) (hx : ∀ s, 1 ≤ s → s < m.length → (s - 1) / 2 = a → x ≤ lb m s) : Hp (m.set a x) ∧ l.length = (m.set a x).length + 1 ∧ l.Perm (at_ l 0 :: m.set a x) := by
  refine ⟨fun i h1 h2 => ?_, by simpa using h.len, h.perm⟩
  simp at h2
  by_cases e : (i - 1) / 2 = a
  · have := hx i h1 h2 e
    unfold lb at this ⊢
    rw [at_set _ _ _ _ h.lt, at_set _ _ _ _ h.lt, if_pos e, if_neg (by omega)]
    exact this
  · exact h.ord i h1 h2 e
end Go.Proofs.Ytiohimbifjlfdaa
