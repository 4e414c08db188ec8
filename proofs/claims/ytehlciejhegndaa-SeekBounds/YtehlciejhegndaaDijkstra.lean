/- The search, the least label first, in plain words. -/
import Derived.Test.YtehlciejhegndaaHeaps
import Derived.Test.YtehlciejhegndaaExtWalk
import Derived.Test.YtehlciejhegndaaSrc
namespace Go.Proofs.Ytehlciejhegndaa
set_option linter.unusedVariables false

theorem src_spec {n : Nat} {st tl wt : List Int} (h : Good n st tl wt) {p : Nat} (hp : p < tl.length) : at_ st (src st n p) ≤ (p : Int) ∧ (p : Int) < at_ st (src st n p + 1) := by
  have hl := src_lt h hp
  unfold src at hl ⊢
  cases he : first (fun v => decide ((p : Int) < at_ st (v + 1))) n with
  | none =>
    exfalso
    have h0 := first_none_of he
    have hn : 0 < n := by rw [he] at hl; simpa using hl
    have := h0 (n - 1) (by omega)
    simp only [decide_eq_false_iff_not] at this
    rw [show n - 1 + 1 = n by omega, h.last] at this
    omega
  | some v =>
    have h1 := first_of_some he
    simp only [decide_eq_true_eq] at h1
    refine ⟨?_, h1.2⟩
    show at_ st v ≤ _
    rcases Nat.eq_zero_or_pos v with h2 | h2
    · subst h2; rw [h.zero]; omega
    · have hb : ∀ j, j < v → ¬ ((p : Int) < at_ st (j + 1)) := by
        intro j hj hlt
        unfold first at he
        rw [List.find?_range_eq_some] at he
        have := he.2.2 j hj
        simp [hlt] at this
      have := hb (v - 1) (by omega)
      rw [show v - 1 + 1 = v by omega] at this
      omega

/-- The end of the edge e. -/
def tov (tl : List Int) (e : Nat) : Nat := (at_ tl e).toNat
theorem tov_lt {n : Nat} {st tl wt : List Int} (h : Good n st tl wt) {e : Nat} (he : e < tl.length) : tov tl e < n ∧ at_ tl e = (tov tl e : Int) := by
  have := h.vtx e he
  unfold tov
  omega
/-- The edges of the rows of D. -/
def cntD (st : List Int) (D : Nat → Bool) : Nat → Nat
  | 0 => 0
  | v + 1 => cntD st D v + (if D v then (at_ st (v + 1) - at_ st v).toNat else 0)
theorem cntD_le {n : Nat} {st tl wt : List Int} (h : Good n st tl wt) (D : Nat → Bool) (v : Nat) (hv : v ≤ n) : (cntD st D v : Int) ≤ at_ st v := by
  induction v with
  | zero => simp [cntD, h.zero]
  | succ v ih =>
    have := ih (by omega)
    have := h.step v (by omega)
    simp only [cntD]
    split <;> omega
theorem cntD_add (st : List Int) (D : Nat → Bool) (u : Nat) (hu : D u = false) (v : Nat) : cntD st (fun x => if x = u then true else D x) v = cntD st D v + (if u < v then (at_ st (u + 1) - at_ st u).toNat else 0) := by
  induction v with
  | zero => simp [cntD]
  | succ v ih =>
    simp only [cntD, ih]
    by_cases e : v = u
    · subst e; simp [hu]
    · by_cases h1 : u < v
      · simp [e, h1, show u < v + 1 by omega]; omega
      · simp [e, h1, show ¬ u < v + 1 by omega]

def Nev : Int := 18446744073709551615
/-- A label that comes along a way from a start. -/
inductive Came (n : Nat) (st tl wt : List Int) (k : Int) (S : List Pr) : Nat → Int → Prop where
  | start (j v : Nat) (x : Int) (hj : j < S.length) (hv : v < n) (hs : sAt S j = ((v : Int), x)) : Came n st tl wt k S v x
  | edge (e : Nat) (x : Int) (he : e < tl.length) (hx : x ≠ Nev) (h : Came n st tl wt k S (src st n e) x) : Came n st tl wt k S (tov tl e) (ext k x (at_ wt e))
/-- The search under way: labels, what waits, whose rows are done, the least label that waits, the row that is gone over (v, up tl the place i). -/
structure DJ (n : Nat) (st tl wt : List Int) (k : Int) (S : List Pr) (L : List Int) (q : List Pr) (D : Nat → Bool) (b : Int) (P : Nat) (row : Option (Nat × Nat)) : Prop where
  len : L.length = n
  rng : ∀ v, v < n → 0 ≤ at_ L v ∧ at_ L v ≤ Nev
  q1 : ∀ e, e ∈ q → ∃ v : Nat, v < n ∧ e.2 = (v : Int) ∧ at_ L v ≤ e.1 ∧ e.1 < Nev ∧ b ≤ e.1
  q2 : ∀ v, v < n → at_ L v ≠ Nev → D v = false → (∀ i, row ≠ some (v, i)) → (at_ L v, (v : Int)) ∈ q
  d1 : ∀ v, v < n → (D v = true ∨ ∃ i, row = some (v, i)) → at_ L v ≤ b ∧ at_ L v ≠ Nev
  rel : ∀ e, e < tl.length → (D (src st n e) = true ∨ ∃ v i, row = some (v, i) ∧ src st n e = v ∧ e < i) → at_ L (tov tl e) ≤ ext k (at_ L (src st n e)) (at_ wt e)
  att : ∀ v, v < n → at_ L v ≠ Nev → (∃ j, j < S.length ∧ sAt S j = ((v : Int), at_ L v)) ∨ ∃ e, e < tl.length ∧ tov tl e = v ∧ (D (src st n e) = true ∨ ∃ i, row = some (src st n e, i)) ∧ ext k (at_ L (src st n e)) (at_ wt e) = at_ L v
  sts : ∀ j, j < S.length → ∃ v : Nat, v < n ∧ (sAt S j).1 = (v : Int) ∧ at_ L v ≤ (sAt S j).2
  plen : q.length ≤ P
  pcnt : P ≤ n + cntD st D n + (match row with | some (v, i) => (if D v then 0 else ((i : Int) - at_ st v).toNat) | none => 0)
  came : ∀ v, v < n → at_ L v ≠ Nev → Came n st tl wt k S v (at_ L v)

variable {n : Nat} {st tl wt : List Int} {k : Int} {S : List Pr} {L : List Int} {q q' : List Pr} {D : Nat → Bool} {b : Int} {P : Nat}

/-- One that was lowered since is taken out. -/
theorem dj_stale (h : DJ n st tl wt k S L q D b P none) {a : Int} {v : Nat} (hmem : ∀ e, e ∈ q ↔ e = (a, (v : Int)) ∨ e ∈ q') (hlen : q.length = q'.length + 1) (hne : a ≠ at_ L v) : DJ n st tl wt k S L q' D b P none where
  len := h.len
  rng := h.rng
  q1 := fun e he => h.q1 e ((hmem e).2 (.inr he))
  q2 := fun u h1 h2 h3 h4 => by
    rcases (hmem _).1 (h.q2 u h1 h2 h3 h4) with e | e
    · exfalso
      simp only [Prod.mk.injEq] at e
      obtain ⟨e1, e2⟩ := e
      have : u = v := by omega
      subst this
      exact hne e1.symm
    · exact e
  d1 := h.d1
  rel := h.rel
  att := h.att
  sts := h.sts
  plen := by have := h.plen; omega
  pcnt := h.pcnt
  came := h.came
/-- One whose label stands is taken out: its row begins. -/
theorem dj_begin (hg : Good n st tl wt) (h : DJ n st tl wt k S L q D b P none) {a : Int} {v i : Nat} (hv : v < n) (hi : (i : Int) = at_ st v) (hin : (a, (v : Int)) ∈ q) (hmem : ∀ e, e ∈ q ↔ e = (a, (v : Int)) ∨ e ∈ q') (hlen : q.length = q'.length + 1) (hle : ∀ e, e ∈ q' → a ≤ e.1) (he : a = at_ L v) : DJ n st tl wt k S L q' D a P (some (v, i)) := by
  obtain ⟨v0, h0, e0, l0, r0, b0⟩ := h.q1 _ hin
  refine ⟨h.len, h.rng, ?_, ?_, ?_, ?_, ?_, h.sts, ?_, ?_, h.came⟩
  · intro e hh
    obtain ⟨u, h1, h2, h3, h4, h5⟩ := h.q1 e ((hmem e).2 (.inr hh))
    exact ⟨u, h1, h2, h3, h4, hle e hh⟩
  · intro u h1 h2 h3 h4
    rcases (hmem _).1 (h.q2 u h1 h2 h3 (fun _ => by simp)) with e | e
    · exfalso
      simp only [Prod.mk.injEq] at e
      have : u = v := by omega
      subst this
      exact h4 i rfl
    · exact e
  · intro u h1 h2
    rcases h2 with h2 | ⟨j, h2⟩
    · have := h.d1 u h1 (.inl h2)
      exact ⟨Int.le_trans this.1 b0, this.2⟩
    · simp only [Option.some.injEq, Prod.mk.injEq] at h2
      obtain ⟨rfl, _⟩ := h2
      exact ⟨by omega, by rw [← he]; exact fun h => by simp only at r0; omega⟩
  · intro e h1 h2
    rcases h2 with h2 | ⟨u, j, h2, h3, h4⟩
    · exact h.rel e h1 (.inl h2)
    · simp only [Option.some.injEq, Prod.mk.injEq] at h2
      obtain ⟨rfl, rfl⟩ := h2
      have := (src_spec hg h1).1
      rw [h3, ← hi] at this
      omega
  · intro u h1 h2
    rcases h.att u h1 h2 with h3 | ⟨e, h3, h4, h5, h6⟩
    · exact .inl h3
    · right
      rcases h5 with h5 | ⟨_, h5⟩
      · exact ⟨e, h3, h4, .inl h5, h6⟩
      · cases h5
  · have := h.plen; omega
  · have := h.pcnt
    simp only at this ⊢
    split <;> omega
/-- An edge that lowers nothing. -/
theorem dj_skip {v i : Nat} (h : DJ n st tl wt k S L q D b P (some (v, i))) (hi : i < tl.length) (hs : src st n i = v) (hx : ¬ ext k (at_ L v) (at_ wt i) < at_ L (tov tl i)) : DJ n st tl wt k S L q D b P (some (v, i + 1)) := by
  refine ⟨h.len, h.rng, h.q1, ?_, ?_, ?_, ?_, h.sts, h.plen, ?_, h.came⟩
  · intro u h1 h2 h3 h4
    exact h.q2 u h1 h2 h3 (fun j e => by
      simp only [Option.some.injEq, Prod.mk.injEq] at e
      exact h4 (i + 1) (by rw [e.1]))
  · intro u h1 h2
    refine h.d1 u h1 (h2.imp id (fun ⟨j, e⟩ => ?_))
    simp only [Option.some.injEq, Prod.mk.injEq] at e
    exact ⟨i, by rw [e.1]⟩
  · intro e h1 h2
    rcases h2 with h2 | ⟨u, j, h2, h3, h4⟩
    · exact h.rel e h1 (.inl h2)
    · simp only [Option.some.injEq, Prod.mk.injEq] at h2
      obtain ⟨rfl, rfl⟩ := h2
      rcases Nat.lt_or_ge e i with h5 | h5
      · exact h.rel e h1 (.inr ⟨v, i, rfl, h3, h5⟩)
      · obtain rfl : e = i := by omega
        rw [h3]; omega
  · intro u h1 h2
    rcases h.att u h1 h2 with h3 | ⟨e, h3, h4, h5, h6⟩
    · exact .inl h3
    · right
      refine ⟨e, h3, h4, h5.imp id (fun ⟨j, e'⟩ => ?_), h6⟩
      simp only [Option.some.injEq, Prod.mk.injEq] at e'
      exact ⟨i + 1, by rw [e'.1]⟩
  · have := h.pcnt
    simp only at this ⊢
    split at this <;> simp_all <;> omega

theorem at_set (l : List Int) (i j : Nat) (x : Int) (hi : i < l.length) : at_ (l.set i x) j = if j = i then x else at_ l j := by
  unfold at_
  by_cases e : j = i
  · subst e; rw [if_pos rfl, List.getElem?_set_self hi]; rfl
  · rw [if_neg e, List.getElem?_set_ne (fun h => e h.symm)]
/-- An edge that lowers its end's label. -/
theorem dj_lower (hg : Good n st tl wt) (hw : ∀ e, 0 ≤ at_ wt e) {v i u : Nat} {x : Int} (h : DJ n st tl wt k S L q D b P (some (v, i))) (hv : v < n) (hi : i < tl.length) (hs : src st n i = v) (hu : u = tov tl i) (hx : x = ext k (at_ L v) (at_ wt i)) (hlt : x < at_ L u) (hb : b = at_ L v)
    (hmem : ∀ e, e ∈ q' ↔ e ∈ q ∨ e = (x, (u : Int))) (hlen : q'.length = q.length + 1) :
    DJ n st tl wt k S (L.set u x) q' D b (P + 1) (some (v, i + 1)) ∧ at_ (L.set u x) v = at_ L v ∧ u < n := by
  have hun : u < n := by rw [hu]; exact (tov_lt hg hi).1
  have hLu := h.rng u hun
  have hge : at_ L v ≤ x := by rw [hx]; exact ext_ge (by have := h.rng v hv; unfold Nev at this; omega) (hw i)
  have huv : u ≠ v := by intro e; subst e; omega
  have hDu : D u = false := by
    cases hd : D u with
    | false => rfl
    | true => exact absurd (h.d1 u hun (.inl hd)).1 (by omega)
  have hDv : D v = false := by
    cases hd : D v with
    | false => rfl
    | true =>
      have := h.rel i hi (.inl (by rw [hs]; exact hd))
      rw [hs, ← hx, ← hu] at this
      omega
  have A : ∀ j, at_ (L.set u x) j = if j = u then x else at_ L j := fun j => at_set L u j x (by rw [h.len]; exact hun)
  have Av : at_ (L.set u x) v = at_ L v := by rw [A, if_neg (fun e => huv e.symm)]
  have hsrc : ∀ e, e < tl.length → (D (src st n e) = true ∨ ∃ j, (some (v, i) : Option (Nat × Nat)) = some (src st n e, j)) → at_ (L.set u x) (src st n e) = at_ L (src st n e) := fun e he hd => by
    rw [A, if_neg]
    intro e2
    rcases hd with hd | ⟨j, hd⟩
    · rw [e2, hDu] at hd; cases hd
    · simp only [Option.some.injEq, Prod.mk.injEq] at hd
      exact huv (by rw [← e2, ← hd.1])
  have hcm : ∀ w, w < n → at_ (L.set u x) w ≠ Nev → Came n st tl wt k S w (at_ (L.set u x) w) := fun w hw2 hne => by
    rw [A] at hne ⊢
    by_cases e : w = u
    · rw [if_pos e]
      have hnv := (h.d1 v hv (.inr ⟨i, rfl⟩)).2
      have h1 := Came.edge (n := n) (st := st) (tl := tl) (wt := wt) (k := k) (S := S) i (at_ L v) hi hnv (by rw [hs]; exact h.came v hv hnv)
      rw [e, hu, hx]
      exact h1
    · rw [if_neg e] at hne ⊢
      exact h.came w hw2 hne
  refine ⟨⟨by rw [List.length_set]; exact h.len, ?_, ?_, ?_, ?_, ?_, ?_, ?_, ?_, ?_, hcm⟩, Av, hun⟩
  · intro w hw2
    rw [A]
    by_cases e : w = u
    · rw [if_pos e]
      have := h.rng v hv
      exact ⟨by omega, by omega⟩
    · rw [if_neg e]; exact h.rng w hw2
  · intro e he
    rcases (hmem e).1 he with he | rfl
    · obtain ⟨w, h1, h2, h3, h4, h5⟩ := h.q1 e he
      refine ⟨w, h1, h2, ?_, h4, h5⟩
      rw [A]
      by_cases e2 : w = u
      · rw [if_pos e2]; rw [e2] at h3; omega
      · rw [if_neg e2]; exact h3
    · exact ⟨u, hun, rfl, by rw [A, if_pos rfl]; exact Int.le_refl _, by show x < Nev; omega, by show b ≤ x; omega⟩
  · intro w h1 h2 h3 h4
    rw [A] at h2 ⊢
    by_cases e : w = u
    · subst e
      rw [if_pos rfl]
      exact (hmem _).2 (.inr rfl)
    · rw [if_neg e] at h2 ⊢
      exact (hmem _).2 (.inl (h.q2 w h1 h2 h3 (fun j e2 => by
        simp only [Option.some.injEq, Prod.mk.injEq] at e2
        exact h4 (i + 1) (by rw [e2.1]))))
  · intro w h1 h2
    have h3 : D w = true ∨ ∃ j, (some (v, i) : Option (Nat × Nat)) = some (w, j) := h2.imp id (fun ⟨j, e⟩ => by
      simp only [Option.some.injEq, Prod.mk.injEq] at e
      exact ⟨i, by rw [e.1]⟩)
    have h4 := h.d1 w h1 h3
    rw [A, if_neg]
    · exact h4
    · intro e
      rcases h3 with h3 | ⟨j, h3⟩
      · rw [e, hDu] at h3; cases h3
      · simp only [Option.some.injEq, Prod.mk.injEq] at h3
        exact huv (by rw [← e, ← h3.1])
  · intro e h1 h2
    have h5 : D (src st n e) = true ∨ ∃ j, (some (v, i) : Option (Nat × Nat)) = some (src st n e, j) := by
      rcases h2 with h2 | ⟨w, j, h2, h3, h4⟩
      · exact .inl h2
      · simp only [Option.some.injEq, Prod.mk.injEq] at h2
        exact .inr ⟨i, by rw [h3, h2.1]⟩
    rw [hsrc e h1 h5]
    have low : at_ (L.set u x) (tov tl e) ≤ at_ L (tov tl e) := by
      rw [A]
      by_cases e2 : tov tl e = u
      · rw [if_pos e2, e2]; omega
      · rw [if_neg e2]; exact Int.le_refl _
    rcases h2 with h2 | ⟨w, j, h2, h3, h4⟩
    · exact Int.le_trans low (h.rel e h1 (.inl h2))
    · simp only [Option.some.injEq, Prod.mk.injEq] at h2
      obtain ⟨rfl, rfl⟩ := h2
      rcases Nat.lt_or_ge e i with h6 | h6
      · exact Int.le_trans low (h.rel e h1 (.inr ⟨v, i, rfl, h3, h6⟩))
      · obtain rfl : e = i := by omega
        rw [A, ← hu, if_pos rfl, h3, hx]
        exact Int.le_refl _
  · intro w h1 h2
    rw [A] at h2
    rw [A]
    by_cases e : w = u
    · right
      refine ⟨i, hi, by rw [e, hu], .inr ⟨i + 1, by rw [hs]⟩, ?_⟩
      rw [hs, Av, if_pos e, hx]
    · rw [if_neg e] at h2
      rw [if_neg e]
      rcases h.att w h1 h2 with h3 | ⟨e', h3, h4, h5, h6⟩
      · exact .inl h3
      · right
        refine ⟨e', h3, h4, h5.imp id (fun ⟨j, e2⟩ => ?_), by rw [hsrc e' h3 h5]; exact h6⟩
        simp only [Option.some.injEq, Prod.mk.injEq] at e2
        exact ⟨i + 1, by rw [e2.1]⟩
  · intro j hj
    obtain ⟨w, h1, h2, h3⟩ := h.sts j hj
    refine ⟨w, h1, h2, ?_⟩
    rw [A]
    by_cases e : w = u
    · rw [if_pos e]; rw [e] at h3; omega
    · rw [if_neg e]; exact h3
  · have := h.plen; omega
  · have h1 := h.pcnt
    have h2 := (src_spec hg hi).1
    rw [hs] at h2
    simp only [hDv] at h1 ⊢
    simp only [Bool.false_eq_true, if_false] at h1 ⊢
    omega
/-- A row is gone over. -/
theorem dj_finish (hg : Good n st tl wt) {v i : Nat} (h : DJ n st tl wt k S L q D b P (some (v, i))) (hv : v < n) (hi : (i : Int) = at_ st (v + 1)) : DJ n st tl wt k S L q (fun x => if x = v then true else D x) b P none := by
  refine ⟨h.len, h.rng, h.q1, ?_, ?_, ?_, ?_, h.sts, h.plen, ?_, h.came⟩
  · intro u h1 h2 h3 _
    by_cases e : u = v
    · simp [e] at h3
    · simp only [e, if_false] at h3
      exact h.q2 u h1 h2 h3 (fun j e2 => by
        simp only [Option.some.injEq, Prod.mk.injEq] at e2
        exact e e2.1.symm)
  · intro u h1 h2
    rcases h2 with h2 | ⟨j, h2⟩
    · by_cases e : u = v
      · exact h.d1 u h1 (.inr ⟨i, by rw [e]⟩)
      · simp only [e, if_false] at h2
        exact h.d1 u h1 (.inl h2)
    · cases h2
  · intro e h1 h2
    rcases h2 with h2 | ⟨_, _, h2, _⟩
    · by_cases e2 : src st n e = v
      · have := (src_spec hg h1).2
        rw [e2, ← hi] at this
        exact h.rel e h1 (.inr ⟨v, i, rfl, e2, by omega⟩)
      · simp only [e2, if_false] at h2
        exact h.rel e h1 (.inl h2)
    · cases h2
  · intro u h1 h2
    rcases h.att u h1 h2 with h3 | ⟨e, h3, h4, h5, h6⟩
    · exact .inl h3
    · right
      refine ⟨e, h3, h4, .inl ?_, h6⟩
      rcases h5 with h5 | ⟨j, h5⟩
      · by_cases e2 : src st n e = v
        · simp [e2]
        · simp only [e2, if_false]; exact h5
      · simp only [Option.some.injEq, Prod.mk.injEq] at h5
        simp [h5.1]
  · have h1 := h.pcnt
    simp only at h1 ⊢
    cases hd : D v with
    | true =>
      have e : (fun x => if x = v then true else D x) = D := by
        funext x
        by_cases e : x = v
        · subst e; simp [hd]
        · simp [e]
      rw [e]
      simp only [hd, if_true] at h1
      omega
    | false =>
      rw [cntD_add st D v hd n, if_pos hv]
      simp only [hd, Bool.false_eq_true, if_false] at h1
      omega
/-- Nothing waits. -/
theorem dj_end (hg : Good n st tl wt) (h : DJ n st tl wt k S L [] D b P none) :
    (∀ e, e < tl.length → at_ L (tov tl e) ≤ ext k (at_ L (src st n e)) (at_ wt e)) ∧
    (∀ v, v < n → at_ L v ≠ Nev → (∃ j, j < S.length ∧ sAt S j = ((v : Int), at_ L v)) ∨ ∃ e, e < tl.length ∧ tov tl e = v ∧ ext k (at_ L (src st n e)) (at_ wt e) = at_ L v) := by
  have hD : ∀ v, v < n → at_ L v ≠ Nev → D v = true := fun v h1 h2 => by
    cases hd : D v with
    | true => rfl
    | false => exact absurd (h.q2 v h1 h2 hd (fun _ => by simp)) (by simp)
  refine ⟨fun e he => ?_, fun v h1 h2 => ?_⟩
  · have hs := src_lt hg he
    by_cases hn : at_ L (src st n e) = Nev
    · have : ext k (at_ L (src st n e)) (at_ wt e) = Nev := by rw [hn]; unfold ext Nev; rw [if_pos rfl]
      rw [this]
      exact (h.rng _ (tov_lt hg he).1).2
    · exact h.rel e he (.inl (hD _ hs hn))
  · rcases h.att v h1 h2 with h3 | ⟨e, h3, h4, _, h6⟩
    · exact .inl h3
    · exact .inr ⟨e, h3, h4, h6⟩
/-- How many may ever wait. -/
theorem dj_bound (hg : Good n st tl wt) {row : Option (Nat × Nat)} (h : DJ n st tl wt k S L q D b P row) (hr : ∀ v i, row = some (v, i) → v < n ∧ (i : Int) ≤ at_ st (v + 1) ∧ at_ st v ≤ (i : Int)) : P ≤ n + tl.length := by
  have h1 := h.pcnt
  cases row with
  | none =>
    have h2 := cntD_le hg D n (Nat.le_refl _)
    rw [hg.last] at h2
    simp only at h1
    omega
  | some r =>
    obtain ⟨v, i⟩ := r
    obtain ⟨hv, hi, hi2⟩ := hr v i rfl
    simp only at h1
    cases hd : D v with
    | true =>
      have h2 := cntD_le hg D n (Nat.le_refl _)
      rw [hg.last] at h2
      simp only [hd, if_true] at h1
      omega
    | false =>
      have h2 := cntD_le hg (fun x => if x = v then true else D x) n (Nat.le_refl _)
      rw [cntD_add st D v hd n, if_pos hv, hg.last] at h2
      simp only [hd, Bool.false_eq_true, if_false] at h1
      omega
end Go.Proofs.Ytehlciejhegndaa
