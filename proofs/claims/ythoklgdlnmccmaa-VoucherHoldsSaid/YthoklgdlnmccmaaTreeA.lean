import Derived.Test.YthoklgdlnmccmaaRnd
/- The tree of a search: depth by depth. Plain. -/
namespace Go.Proofs.Ythoklgdlnmccmaa
set_option linter.unusedVariables false

/-- A vertex of the depth 0: not reached, or with a start's label. -/
def Root (S : List Pr) (L : List Int) (v : Nat) : Prop := at_ L v = Nev ∨ ∃ j, j < S.length ∧ sAt S j = ((v : Int), at_ L v)
def rootB (S : List Pr) (L : List Int) (v : Nat) : Bool := decide (at_ L v = Nev) || (first (fun j => decide (sAt S j = ((v : Int), at_ L v))) S.length).isSome
theorem rootB_iff {S : List Pr} {L : List Int} {v : Nat} : rootB S L v = true ↔ Root S L v := by
  unfold rootB Root
  rw [Bool.or_eq_true, decide_eq_true_iff]
  constructor
  · rintro (h | h)
    · exact .inl h
    · obtain ⟨j, hj⟩ := Option.isSome_iff_exists.1 h
      obtain ⟨a, b⟩ := first_of_some hj
      exact .inr ⟨j, a, by simpa using b⟩
  · rintro (h | ⟨j, hj, h⟩)
    · exact .inl h
    · right
      cases hf : first (fun j => decide (sAt S j = ((v : Int), at_ L v))) S.length with
      | some i => rfl
      | none => have := first_none_of hf j hj; simp [h] at this
/-- An edge that carries its beginning's label to its end's. -/
def Tg (n : Nat) (st tl wt : List Int) (k : Int) (L : List Int) (e : Nat) : Prop := at_ L (src st n e) ≠ Nev ∧ ext k (at_ L (src st n e)) (at_ wt e) = at_ L (tov tl e)
instance (n : Nat) (st tl wt : List Int) (k : Int) (L : List Int) (e : Nat) : Decidable (Tg n st tl wt k L e) := by unfold Tg; infer_instance
/-- The least edge that leads from the depth d to v. -/
def pk (n : Nat) (st tl wt : List Int) (k : Int) (L : List Int) (D : Nat → Int) (d v : Nat) : Option Nat := first (fun e => decide (tov tl e = v ∧ Tg n st tl wt k L e ∧ D (src st n e) = (d : Int))) tl.length
/-- The depths behind d layers. -/
def dep (n : Nat) (st tl wt : List Int) (k : Int) (S : List Pr) (L : List Int) : Nat → Nat → Int
  | 0, v => if rootB S L v then 0 else -1
  | d + 1, v => if dep n st tl wt k S L d v ≠ -1 then dep n st tl wt k S L d v else if (pk n st tl wt k L (dep n st tl wt k S L d) d v).isSome then ((d + 1 : Nat) : Int) else -1
/-- The edges behind d layers. -/
def byE (n : Nat) (st tl wt : List Int) (k : Int) (S : List Pr) (L : List Int) : Nat → Nat → Int
  | 0, v => -1
  | d + 1, v => if dep n st tl wt k S L d v ≠ -1 then byE n st tl wt k S L d v else match pk n st tl wt k L (dep n st tl wt k S L d) d v with
    | some e => (e : Int)
    | none => -1
section
variable {n : Nat} {st tl wt : List Int} {k : Int} {S : List Pr} {L D Y D2 Y2 : List Int} {d e v p : Nat}
/-- The edge e leads from the depth d to v. -/
def Qe (n : Nat) (st tl wt : List Int) (k : Int) (S : List Pr) (L : List Int) (d e v : Nat) : Prop := tov tl e = v ∧ Tg n st tl wt k L e ∧ dep n st tl wt k S L d (src st n e) = (d : Int)
theorem pk_none (h : pk n st tl wt k L (dep n st tl wt k S L d) d v = none) (he : e < tl.length) : ¬ Qe n st tl wt k S L d e v := by
  intro hq
  have := first_none_of h e he
  rw [decide_eq_false_iff_not] at this
  exact this hq
theorem pk_some (h : pk n st tl wt k L (dep n st tl wt k S L d) d v = some e) : e < tl.length ∧ Qe n st tl wt k S L d e v := by
  obtain ⟨a, b⟩ := first_of_some h
  exact ⟨a, by simpa [Qe] using b⟩
theorem pk_is (he : e < tl.length) (hq : Qe n st tl wt k S L d e v) (hm : ∀ e', e' < e → ¬ Qe n st tl wt k S L d e' v) : pk n st tl wt k L (dep n st tl wt k S L d) d v = some e :=
  first_some he (decide_eq_true hq) fun j hj => decide_eq_false (hm j hj)
theorem pk_no (hm : ∀ e', e' < tl.length → ¬ Qe n st tl wt k S L d e' v) : pk n st tl wt k L (dep n st tl wt k S L d) d v = none :=
  first_none fun j hj => decide_eq_false (hm j hj)
/-- Depths lie between -1 and the number of layers. -/
theorem dep_range (d v : Nat) : dep n st tl wt k S L d v = -1 ∨ (0 ≤ dep n st tl wt k S L d v ∧ dep n st tl wt k S L d v ≤ (d : Int)) := by
  induction d with
  | zero => rw [dep]; split <;> simp
  | succ d ih =>
    rw [dep]
    split
    · rename_i h; right; rcases ih with h1 | h1
      · exact absurd h1 h
      · omega
    · split
      · right; omega
      · left; rfl
theorem dep_old (h : dep n st tl wt k S L d v ≠ -1) : dep n st tl wt k S L (d + 1) v = dep n st tl wt k S L d v ∧ byE n st tl wt k S L (d + 1) v = byE n st tl wt k S L d v := by
  rw [dep, byE, if_pos h, if_pos h]; exact ⟨rfl, rfl⟩
theorem dep_new (h : dep n st tl wt k S L d v = -1) (he : e < tl.length) (hq : Qe n st tl wt k S L d e v) (hm : ∀ e', e' < e → ¬ Qe n st tl wt k S L d e' v) : dep n st tl wt k S L (d + 1) v = ((d + 1 : Nat) : Int) ∧ byE n st tl wt k S L (d + 1) v = (e : Int) := by
  have hn : ¬ (dep n st tl wt k S L d v ≠ -1) := fun h2 => h2 h
  rw [dep, byE, if_neg hn, if_neg hn, pk_is he hq hm]; exact ⟨rfl, rfl⟩
theorem dep_none (h : dep n st tl wt k S L d v = -1) (hm : ∀ e', e' < tl.length → ¬ Qe n st tl wt k S L d e' v) : dep n st tl wt k S L (d + 1) v = -1 ∧ byE n st tl wt k S L (d + 1) v = -1 := by
  have hn : ¬ (dep n st tl wt k S L d v ≠ -1) := fun h2 => h2 h
  rw [dep, byE, if_neg hn, if_neg hn, pk_no hm]; exact ⟨rfl, rfl⟩
theorem by_none (h : dep n st tl wt k S L d v = -1) : byE n st tl wt k S L d v = -1 := by
  induction d with
  | zero => rfl
  | succ d ih =>
    have h0 := h
    rw [dep] at h
    split at h
    · rename_i h1; exact absurd h h1
    · rename_i h1
      have h2 : dep n st tl wt k S L d v = -1 := Decidable.byContradiction h1
      rw [byE, if_neg h1]
      cases hp : pk n st tl wt k L (dep n st tl wt k S L d) d v with
      | none => rfl
      | some e => rw [hp] at h; simp at h; omega
/-- The lists that a tree is told by. -/
structure TD (n : Nat) (st tl wt : List Int) (k : Int) (S : List Pr) (L D Y : List Int) (d : Nat) : Prop where
  dl : D.length = n
  yl : Y.length = n
  de : ∀ v, v < n → at_ D v = dep n st tl wt k S L d v
  ye : ∀ v, v < n → at_ Y v = byE n st tl wt k S L d v
/-- No more to come. -/
def Still (n : Nat) (st tl wt : List Int) (k : Int) (S : List Pr) (L : List Int) (d : Nat) : Prop := ∀ v, v < n → dep n st tl wt k S L (d + 1) v = dep n st tl wt k S L d v
theorem Still.by_ (h : Still n st tl wt k S L d) (hv : v < n) : byE n st tl wt k S L (d + 1) v = byE n st tl wt k S L d v := by
  by_cases h1 : dep n st tl wt k S L d v = -1
  · have h2 := h v hv
    rw [h1] at h2
    rw [by_none h1, by_none h2]
  · exact (dep_old h1).2
theorem Still.next (hg : Good n st tl wt) (h : Still n st tl wt k S L d) : Still n st tl wt k S L (d + 1) := by
  intro v hv
  by_cases h1 : dep n st tl wt k S L (d + 1) v = -1
  · rw [h1]
    refine (dep_none h1 fun e he hq => ?_).1
    have h2 := h _ (src_lt hg he)
    have h3 := hq.2.2
    rw [h2] at h3
    have h4 := dep_range (n := n) (st := st) (tl := tl) (wt := wt) (k := k) (S := S) (L := L) d (src st n e)
    rcases h4 with h4 | h4 <;> omega
  · exact (dep_old h1).1
theorem Still.on (hg : Good n st tl wt) (h : Still n st tl wt k S L d) (j : Nat) : Still n st tl wt k S L (d + j) ∧ ∀ v, v < n → dep n st tl wt k S L (d + j) v = dep n st tl wt k S L d v ∧ byE n st tl wt k S L (d + j) v = byE n st tl wt k S L d v := by
  induction j with
  | zero => exact ⟨h, fun v hv => ⟨rfl, rfl⟩⟩
  | succ j ih =>
    refine ⟨ih.1.next hg, fun v hv => ?_⟩
    have h1 := ih.1 v hv
    have h2 := ih.1.by_ hv
    have h3 := ih.2 v hv
    rw [show d + (j + 1) = d + j + 1 by omega]
    exact ⟨h1.trans h3.1, h2.trans h3.2⟩
/-- A tree that is whole. -/
def Whole (n : Nat) (st tl wt : List Int) (k : Int) (S : List Pr) (L D Y : List Int) : Prop := ∃ d, TD n st tl wt k S L D Y d ∧ Still n st tl wt k S L d
theorem list_same {A B : List Int} (ha : A.length = n) (hb : B.length = n) (h : ∀ v, v < n → at_ A v = at_ B v) : A = B := by
  apply List.ext_getElem?
  intro j
  rcases Nat.lt_or_ge j n with hj | hj
  · have h3 := h j hj
    unfold at_ at h3
    rw [List.getElem?_eq_getElem (by omega), List.getElem?_eq_getElem (by omega)] at h3 ⊢
    simp only [Option.getD_some] at h3
    rw [h3]
  · rw [List.getElem?_eq_none (by omega), List.getElem?_eq_none (by omega)]
theorem Whole.only (hg : Good n st tl wt) (h : Whole n st tl wt k S L D Y) (g : Whole n st tl wt k S L D2 Y2) : D = D2 ∧ Y = Y2 := by
  obtain ⟨a, h1, h2⟩ := h
  obtain ⟨b, g1, g2⟩ := g
  have key : ∀ v, v < n → dep n st tl wt k S L a v = dep n st tl wt k S L b v ∧ byE n st tl wt k S L a v = byE n st tl wt k S L b v := fun v hv => by
    rcases Nat.le_total a b with h3 | h3
    · have := (h2.on hg (b - a)).2 v hv
      rw [show a + (b - a) = b by omega] at this
      exact ⟨this.1.symm, this.2.symm⟩
    · have := (g2.on hg (a - b)).2 v hv
      rw [show b + (a - b) = a by omega] at this
      exact this
  exact ⟨list_same h1.dl g1.dl fun v hv => by rw [h1.de v hv, g1.de v hv, (key v hv).1], list_same h1.yl g1.yl fun v hv => by rw [h1.ye v hv, g1.ye v hv, (key v hv).2]⟩
/-- How many of the first m have no depth. -/
def nd (D : List Int) : Nat → Nat
  | 0 => 0
  | v + 1 => nd D v + (if at_ D v = -1 then 1 else 0)
theorem nd_le (D : List Int) (m : Nat) : nd D m ≤ m := by
  induction m with
  | zero => exact Nat.le_refl _
  | succ m ih => rw [nd]; split <;> omega
theorem nd_same {m : Nat} (h : ∀ v, v < m → (at_ D v = -1 ↔ at_ D2 v = -1)) : nd D m = nd D2 m := by
  induction m with
  | zero => rfl
  | succ m ih =>
    rw [nd, nd, ih (fun v hv => h v (by omega))]
    have := h m (by omega)
    by_cases h1 : at_ D m = -1
    · rw [if_pos h1, if_pos (this.1 h1)]
    · rw [if_neg h1, if_neg (fun h2 => h1 (this.2 h2))]
theorem nd_set {m i : Nat} {x : Int} (hi : i < m) (hl : i < D.length) (h0 : at_ D i = -1) (hx : x ≠ -1) : nd D m = nd (D.set i x) m + 1 := by
  have A : ∀ j, at_ (D.set i x) j = if j = i then x else at_ D j := fun j => at_set _ _ _ _ hl
  induction m with
  | zero => omega
  | succ m ih =>
    rw [nd, nd]
    rcases Nat.lt_or_ge i m with h1 | h1
    · have h2 := ih h1
      rw [A m, if_neg (show m ≠ i by omega)]; omega
    · obtain rfl : i = m := by omega
      have : nd D i = nd (D.set i x) i := nd_same fun v hv => by rw [A, if_neg (by omega)]
      rw [this, h0, if_pos rfl, A, if_pos rfl, if_neg hx]
theorem nd_zero {m : Nat} (h : nd D m = 0) (hv : v < m) : at_ D v ≠ -1 := by
  induction m with
  | zero => omega
  | succ m ih =>
    rw [nd] at h
    rcases Nat.lt_or_ge v m with h1 | h1
    · exact ih (by omega) h1
    · obtain rfl : v = m := by omega
      intro h2
      rw [if_pos h2] at h
      omega
/-- A layer under way: the edges of E are gone over; nx: how many have got the depth d + 1. -/
structure GI (n : Nat) (st tl wt : List Int) (k : Int) (S : List Pr) (L : List Int) (d : Nat) (E : Nat → Prop) (D Y : List Int) : Prop where
  dl : D.length = n
  yl : Y.length = n
  old : ∀ v, v < n → dep n st tl wt k S L d v ≠ -1 → at_ D v = dep n st tl wt k S L d v ∧ at_ Y v = byE n st tl wt k S L d v
  new : ∀ v, v < n → dep n st tl wt k S L d v = -1 → (at_ D v = -1 ∧ at_ Y v = -1 ∧ ∀ e, e < tl.length → E e → ¬ Qe n st tl wt k S L d e v) ∨ (at_ D v = ((d + 1 : Nat) : Int) ∧ ∃ e, e < tl.length ∧ E e ∧ Qe n st tl wt k S L d e v ∧ at_ Y v = (e : Int) ∧ ∀ e', e' < e → E e' → ¬ Qe n st tl wt k S L d e' v)
variable {E E2 : Nat → Prop}
theorem GI.start (h : TD n st tl wt k S L D Y d) (hE : ∀ e, e < tl.length → ¬ E e) : GI n st tl wt k S L d E D Y := by
  refine ⟨h.dl, h.yl, fun v hv _ => ⟨h.de v hv, h.ye v hv⟩, fun v hv h0 => .inl ⟨by rw [h.de v hv, h0], by rw [h.ye v hv, by_none h0], fun e he hE2 => absurd hE2 (hE e he)⟩⟩
theorem GI.finish (h : GI n st tl wt k S L d E D Y) (hE : ∀ e v, e < tl.length → Qe n st tl wt k S L d e v → E e) : TD n st tl wt k S L D Y (d + 1) := by
  have key : ∀ v, v < n → at_ D v = dep n st tl wt k S L (d + 1) v ∧ at_ Y v = byE n st tl wt k S L (d + 1) v := fun v hv => by
    by_cases h0 : dep n st tl wt k S L d v = -1
    · rcases h.new v hv h0 with ⟨a, b, c⟩ | ⟨a, e, he, b, c, f, g⟩
      · have := dep_none h0 fun e' he' hq => c e' he' (hE e' v he' hq) hq
        exact ⟨by rw [a, this.1], by rw [b, this.2]⟩
      · have := dep_new h0 he c fun e' he' hq => g e' he' (hE e' v (by omega) hq) hq
        exact ⟨by rw [a, this.1], by rw [f, this.2]⟩
    · have := dep_old h0
      have h1 := h.old v hv h0
      exact ⟨by rw [h1.1, this.1], by rw [h1.2, this.2]⟩
  exact ⟨h.dl, h.yl, fun v hv => (key v hv).1, fun v hv => (key v hv).2⟩
/-- What a depth says while a layer is under way. -/
theorem GI.is_d (h : GI n st tl wt k S L d E D Y) (hv : v < n) : at_ D v = (d : Int) ↔ dep n st tl wt k S L d v = (d : Int) := by
  by_cases h0 : dep n st tl wt k S L d v = -1
  · rcases h.new v hv h0 with ⟨a, _⟩ | ⟨a, _⟩
    · rw [a, h0]
    · rw [a, h0]; constructor <;> intro h <;> omega
  · rw [(h.old v hv h0).1]
theorem GI.is_none (h : GI n st tl wt k S L d E D Y) (hv : v < n) : (at_ D v = -1 ∨ at_ D v = ((d + 1 : Nat) : Int)) ↔ dep n st tl wt k S L d v = -1 := by
  by_cases h0 : dep n st tl wt k S L d v = -1
  · rcases h.new v hv h0 with ⟨a, _⟩ | ⟨a, _⟩
    · exact ⟨fun _ => h0, fun _ => .inl a⟩
    · exact ⟨fun _ => h0, fun _ => .inr a⟩
  · rw [(h.old v hv h0).1]
    have := dep_range (n := n) (st := st) (tl := tl) (wt := wt) (k := k) (S := S) (L := L) d v
    constructor
    · rintro (h1 | h1)
      · exact h1
      · omega
    · intro h1; exact absurd h1 h0
/-- An edge that leads nowhere new. -/
theorem GI.pass (h : GI n st tl wt k S L d E D Y) (hv : v < n) (hno : dep n st tl wt k S L d v ≠ -1 ∨ ¬ Qe n st tl wt k S L d e v) (htv : tov tl e = v) (hE : ∀ e', E2 e' → E e' ∨ e' = e) (hE2 : ∀ e', E e' → E2 e') : GI n st tl wt k S L d E2 D Y := by
  refine ⟨h.dl, h.yl, h.old, fun u hu h0 => ?_⟩
  have hne : ∀ e', E2 e' → Qe n st tl wt k S L d e' u → E e' := fun e' he' hq => by
    rcases hE e' he' with h1 | h1
    · exact h1
    · subst h1
      have huv : u = v := by rw [← htv]; exact hq.1.symm
      subst huv
      rcases hno with h2 | h2
      · exact absurd h0 h2
      · exact absurd hq h2
  rcases h.new u hu h0 with ⟨a, b, c⟩ | ⟨a, e', he', b, c, f, g⟩
  · exact .inl ⟨a, b, fun x hx hx2 hq => c x hx (hne x hx2 hq) hq⟩
  · exact .inr ⟨a, e', he', hE2 e' b, c, f, fun x hx hx2 hq => g x hx (hne x hx2 hq) hq⟩
/-- An edge that leads to a vertex without a depth, or to one that has its depth from a greater place. -/
theorem GI.take (h : GI n st tl wt k S L d E D Y) (he : e < tl.length) (hv : v < n) (h0 : dep n st tl wt k S L d v = -1) (hq : Qe n st tl wt k S L d e v) (hmin : ∀ e', e' < e → E e' → ¬ Qe n st tl wt k S L d e' v) (hE : ∀ e', E2 e' → E e' ∨ e' = e) (hE2 : ∀ e', E e' → E2 e') (hEe : E2 e) :
    GI n st tl wt k S L d E2 (D.set v ((d + 1 : Nat) : Int)) (Y.set v (e : Int)) := by
  have A : ∀ j, at_ (D.set v ((d + 1 : Nat) : Int)) j = if j = v then ((d + 1 : Nat) : Int) else at_ D j := fun j => at_set _ _ _ _ (by rw [h.dl]; exact hv)
  have B : ∀ j, at_ (Y.set v (e : Int)) j = if j = v then (e : Int) else at_ Y j := fun j => at_set _ _ _ _ (by rw [h.yl]; exact hv)
  refine ⟨by rw [List.length_set]; exact h.dl, by rw [List.length_set]; exact h.yl, fun u hu hu0 => ?_, fun u hu hu0 => ?_⟩
  · have huv : u ≠ v := fun e2 => by subst e2; exact hu0 h0
    rw [A, B, if_neg huv, if_neg huv]
    exact h.old u hu hu0
  · by_cases huv : u = v
    · subst huv
      rw [A, B, if_pos rfl, if_pos rfl]
      refine .inr ⟨rfl, e, he, hEe, hq, rfl, fun x hx hx2 hq2 => ?_⟩
      rcases hE x hx2 with h1 | h1
      · exact hmin x hx h1 hq2
      · omega
    · rw [A, B, if_neg huv, if_neg huv]
      have hne : ∀ x, E2 x → Qe n st tl wt k S L d x u → E x := fun x hx hq2 => by
        rcases hE x hx with h1 | h1
        · exact h1
        · subst h1; exact absurd (hq2.1.symm.trans hq.1) huv
      rcases h.new u hu hu0 with ⟨a, b, c⟩ | ⟨a, e', he', b, c, f, g⟩
      · exact .inl ⟨a, b, fun x hx hx2 hq => c x hx (hne x hx2 hq) hq⟩
      · exact .inr ⟨a, e', he', hE2 e' b, c, f, fun x hx hx2 hq => g x hx (hne x hx2 hq) hq⟩
/-- An edge to a vertex that has its depth from an earlier place. -/
theorem GI.keep (h : GI n st tl wt k S L d E D Y) (hv : v < n) (htv : tov tl e = v) (h0 : dep n st tl wt k S L d v = -1) (hle : at_ D v = ((d + 1 : Nat) : Int)) (hy : at_ Y v ≤ (e : Int)) (hE : ∀ e', E2 e' → E e' ∨ e' = e) (hE2 : ∀ e', E e' → E2 e') : GI n st tl wt k S L d E2 D Y := by
  refine ⟨h.dl, h.yl, h.old, fun u hu hu0 => ?_⟩
  rcases h.new u hu hu0 with ⟨a, b, c⟩ | ⟨a, e', he', b, c, f, g⟩
  · refine .inl ⟨a, b, fun x hx hx2 hq => ?_⟩
    rcases hE x hx2 with h1 | h1
    · exact c x hx h1 hq
    · subst h1
      have huv : u = v := by rw [← htv]; exact hq.1.symm
      subst huv
      rw [a] at hle
      omega
  · refine .inr ⟨a, e', he', hE2 e' b, c, f, fun x hx hx2 hq => ?_⟩
    rcases hE x hx2 with h1 | h1
    · exact g x hx h1 hq
    · subst h1
      have huv : u = v := by rw [← htv]; exact hq.1.symm
      subst huv
      rw [f] at hy
      omega
/-- What stands at a vertex that has got the depth of the layer. -/
theorem GI.got (h : GI n st tl wt k S L d E D Y) (hv : v < n) (h0 : dep n st tl wt k S L d v = -1) (h1 : at_ D v = ((d + 1 : Nat) : Int)) : ∃ e, e < tl.length ∧ E e ∧ Qe n st tl wt k S L d e v ∧ at_ Y v = (e : Int) ∧ ∀ e', e' < e → E e' → ¬ Qe n st tl wt k S L d e' v := by
  rcases h.new v hv h0 with ⟨a, _⟩ | ⟨_, r⟩
  · rw [a] at h1; omega
  · exact r
theorem GI.lacks (h : GI n st tl wt k S L d E D Y) (hv : v < n) (h1 : at_ D v = -1) : dep n st tl wt k S L d v = -1 ∧ ∀ e, e < tl.length → E e → ¬ Qe n st tl wt k S L d e v := by
  have h0 := (h.is_none hv).1 (.inl h1)
  rcases h.new v hv h0 with ⟨_, _, c⟩ | ⟨a, _⟩
  · exact ⟨h0, c⟩
  · rw [h1] at a; omega
end
section
variable {n : Nat} {st tl wt : List Int} {k : Int} {S : List Pr} {L : List Int}
theorem nd_le_of {D D2 : List Int} {m : Nat} (h : ∀ v, v < m → at_ D2 v = -1 → at_ D v = -1) : nd D2 m ≤ nd D m := by
  induction m with
  | zero => exact Nat.le_refl _
  | succ m ih =>
    have h1 := ih (fun v hv => h v (by omega))
    rw [nd, nd]
    by_cases h2 : at_ D2 m = -1
    · rw [if_pos h2, if_pos (h m (by omega) h2)]; omega
    · rw [if_neg h2]; split <;> omega
theorem nd_lt {D D2 : List Int} {m i : Nat} (h : ∀ v, v < m → at_ D2 v = -1 → at_ D v = -1) (hi : i < m) (h0 : at_ D i = -1) (h1 : at_ D2 i ≠ -1) : nd D2 m < nd D m := by
  induction m with
  | zero => omega
  | succ m ih =>
    rw [nd, nd]
    rcases Nat.lt_or_ge i m with h3 | h3
    · have h4 := ih (fun v hv => h v (by omega)) h3
      by_cases h2 : at_ D2 m = -1
      · rw [if_pos h2, if_pos (h m (by omega) h2)]; omega
      · rw [if_neg h2]; split <;> omega
    · obtain rfl : i = m := by omega
      have h4 := nd_le_of (D := D) (D2 := D2) (m := i) (fun v hv => h v (by omega))
      rw [if_neg h1, if_pos h0]; omega
/-- Behind as many layers as there are vertices nothing is to come. -/
theorem still_at (hg : Good n st tl wt) : Still n st tl wt k S L n := by
  have A : ∀ d v, v < n → at_ (tab n (dep n st tl wt k S L d)) v = dep n st tl wt k S L d v := fun d v hv => tab_at _ _ _ hv
  have key : ∀ d, (∃ d', d' ≤ d ∧ Still n st tl wt k S L d') ∨ nd (tab n (dep n st tl wt k S L d)) n + d ≤ n := by
    intro d
    induction d with
    | zero => exact .inr (nd_le _ _)
    | succ d ih =>
      rcases ih with ⟨d', h1, h2⟩ | h1
      · exact .inl ⟨d', by omega, h2⟩
      · by_cases h2 : ∃ v, v < n ∧ dep n st tl wt k S L (d + 1) v ≠ dep n st tl wt k S L d v
        · obtain ⟨v, hv, hne⟩ := h2
          right
          have h0 : dep n st tl wt k S L d v = -1 := Decidable.byContradiction fun h => hne (dep_old h).1
          have := nd_lt (D := tab n (dep n st tl wt k S L d)) (D2 := tab n (dep n st tl wt k S L (d + 1))) (m := n) (i := v) (fun u hu h3 => by
            rw [A _ _ hu] at h3 ⊢
            refine Decidable.byContradiction fun h4 => ?_
            rw [(dep_old h4).1] at h3
            exact h4 h3) hv (by rw [A _ _ hv]; exact h0) (by rw [A _ _ hv, ← h0]; exact hne)
          omega
        · exact .inl ⟨d, by omega, fun v hv => Decidable.byContradiction fun h => h2 ⟨v, hv, h⟩⟩
  rcases key n with ⟨d', h1, h2⟩ | h1
  · have := (h2.on hg (n - d')).1
    rwa [show d' + (n - d') = n by omega] at this
  · have h2 : nd (tab n (dep n st tl wt k S L n)) n = 0 := by omega
    intro v hv
    have := nd_zero h2 hv
    rw [A _ _ hv] at this
    exact (dep_old this).1
theorem whole_is (hg : Good n st tl wt) : ∃ D Y, Whole n st tl wt k S L D Y :=
  ⟨tab n (dep n st tl wt k S L n), tab n (byE n st tl wt k S L n), n, ⟨tab_length _ _, tab_length _ _, fun v hv => tab_at _ _ _ hv, fun v hv => tab_at _ _ _ hv⟩, still_at hg⟩
end
end Go.Proofs.Ythoklgdlnmccmaa

/- Small things of both Trees: equal lists, a start's label. -/
namespace Go.Proofs.Ythoklgdlnmccmaa
open Go.RowKit Go.Lib
set_option linter.unusedVariables false

theorem lists_eq {A B : List Int} {n : Nat} (ha : A.length = n) (hb : B.length = n) : A = B ↔ ∀ v, v < n → at_ A v = at_ B v :=
  ⟨fun h v _ => by rw [h], fun h => list_same ha hb h⟩
set_option maxRecDepth 100000 in
set_option maxHeartbeats 2000000 in
/-- The reference's same, of lists as long as one another. -/
theorem refSame_any (v1 v2 : Value) (A B : List Int) (n : Nat) (w : World) (h1 : RowAt .u64 w v1 A) (h2 : RowAt .u64 w v2 B) (ha : A.length = n) (hb : B.length = n) (hn : n ≤ 1048576) :
    Calls Try.prog 96 #[v1, v2] w fun e w' => e = .returned (.bool (decide (A = B))) ∧ Below w.heap.size w w' := by
  obtain ⟨a1, c1, rfl⟩ := h1.shape
  obtain ⟨a2, c2, rfl⟩ := h2.shape
  rw [ha, hb]
  have H1 := hide (fun (i : Nat) (hi : i < n) => h1.cellAt i (by rw [ha]; exact hi))
  have H2 := hide (fun (i : Nat) (hi : i < n) => h2.cellAt i (by rw [hb]; exact hi))
  rw [ha] at H1
  rw [hb] at H2
  have HE := hide (lists_eq ha hb)
  clear h1 h2 ha hb
  go_enter Try.func96, Try.ntmps96
  go_wp2
  go_loopw [5] (fun t wr => ∃ k : Nat, k ≤ n ∧ t = .int .i64 k ∧ (∀ v, v < k → at_ A v = at_ B v) ∧ ∃ m, wr = w.drewN m) (fun t _ => n - (RowKit.intOf t).toNat)
  case atStart => exact ⟨0, by omega, rfl, fun v hv => by omega, 0, rfl⟩
  case round =>
    obtain ⟨k, hk, rfl, hall, m, rfl⟩ := hrel
    have HALL := hide hall
    clear hall
    by_cases hlt : k < n
    · obtain ⟨gb, ob, cb', hsb, hcb, d1⟩ := H1.out k hlt
      obtain ⟨gc, oc, cc', hsc, hcc, d2⟩ := H2.out k hlt
      simp only [Value.slice.injEq, true_and] at hsb hsc
      obtain ⟨rfl, rfl⟩ := hsb
      obtain ⟨rfl, rfl⟩ := hsc
      obtain ⟨x, hx⟩ : ∃ x, x = at_ A k := ⟨_, rfl⟩
      obtain ⟨y, hy⟩ : ∃ y, y = at_ B k := ⟨_, rfl⟩
      rw [← hx] at d1
      rw [← hy] at d2
      have HX := hide hx; have HY := hide hy
      clear hx hy
      have hki : (k : Int) < (n : Int) := by omega
      by_cases hxy : x = y
      · have hb : (x != y) = false := by simp [hxy]
        have HXY := hide hxy
        clear hxy
        go_wp2_with fail
        go_quiet (fail)
        go_wp2
        refine ⟨⟨k + 1, by omega, by simp, fun v hv => ?_, _, rfl⟩, by simp [RowKit.intOf]; omega⟩
        rcases Nat.lt_or_ge v k with h3 | h3
        · exact HALL.out v h3
        · obtain rfl : v = k := by omega
          rw [← HX.out, ← HY.out, HXY.out]
      · have hb : (x != y) = true := by simp [hxy]
        have HXY := hide hxy
        clear hxy
        go_wp2_with fail
        go_quiet (fail)
        go_wp2
        go_ret
        refine ⟨?_, below_drewN (below_drewN (Below.refl _ _) _) _⟩
        have hne : ¬ A = B := fun h => HXY.out (by rw [HX.out, HY.out]; exact HE.out.1 h k hlt)
        rw [decide_eq_false hne]
        rfl
    · obtain rfl : k = n := by omega
      have hki : ¬ (k : Int) < (k : Int) := by omega
      go_wp2
      go_ret
      refine ⟨?_, below_drewN (Below.refl _ _) _⟩
      rw [decide_eq_true (HE.out.2 HALL.out)]
      simp
set_option maxRecDepth 100000 in
set_option maxHeartbeats 2000000 in
/-- slices.Equal of words, of lists as long as one another. -/
theorem equalU_any (v1 v2 : Value) (A B : List Int) (n : Nat) (w : World) (h1 : RowAt .u64 w v1 A) (h2 : RowAt .u64 w v2 B) (ha : A.length = n) (hb : B.length = n) (hn : n ≤ 1048576) :
    Calls Try.prog 98 #[v1, v2] w fun e w' => e = .returned (.bool (decide (A = B))) ∧ Below w.heap.size w w' := by
  obtain ⟨a1, c1, rfl⟩ := h1.shape
  obtain ⟨a2, c2, rfl⟩ := h2.shape
  rw [ha, hb]
  have H1 := hide (fun (i : Nat) (hi : i < n) => h1.cellAt i (by rw [ha]; exact hi))
  have H2 := hide (fun (i : Nat) (hi : i < n) => h2.cellAt i (by rw [hb]; exact hi))
  rw [ha] at H1
  rw [hb] at H2
  have HE := hide (lists_eq ha hb)
  clear h1 h2 ha hb
  have hnn : ((n : Int) != (n : Int)) = false := by simp
  go_enter Try.func98, Try.ntmps98
  go_wp2
  go_loopw [13] (fun t wr => ∃ k : Nat, k ≤ n ∧ t = .int .i64 k ∧ (∀ v, v < k → at_ A v = at_ B v) ∧ ∃ m, wr = w.drewN m) (fun t _ => n - (RowKit.intOf t).toNat)
  case atStart => exact ⟨0, by omega, rfl, fun v hv => by omega, 0, rfl⟩
  case round =>
    obtain ⟨k, hk, rfl, hall, m, rfl⟩ := hrel
    have HALL := hide hall
    clear hall
    by_cases hlt : k < n
    · obtain ⟨gb, ob, cb', hsb, hcb, d1⟩ := H1.out k hlt
      obtain ⟨gc, oc, cc', hsc, hcc, d2⟩ := H2.out k hlt
      simp only [Value.slice.injEq, true_and] at hsb hsc
      obtain ⟨rfl, rfl⟩ := hsb
      obtain ⟨rfl, rfl⟩ := hsc
      obtain ⟨x, hx⟩ : ∃ x, x = at_ A k := ⟨_, rfl⟩
      obtain ⟨y, hy⟩ : ∃ y, y = at_ B k := ⟨_, rfl⟩
      rw [← hx] at d1
      rw [← hy] at d2
      have HX := hide hx; have HY := hide hy
      clear hx hy
      have hki : (k : Int) < (n : Int) := by omega
      by_cases hxy : x = y
      · have hb : (x != y) = false := by simp [hxy]
        have HXY := hide hxy
        clear hxy
        go_wp2_with fail
        go_quiet (fail)
        go_wp2
        refine ⟨⟨k + 1, by omega, by simp, fun v hv => ?_, _, rfl⟩, by simp [RowKit.intOf]; omega⟩
        rcases Nat.lt_or_ge v k with h3 | h3
        · exact HALL.out v h3
        · obtain rfl : v = k := by omega
          rw [← HX.out, ← HY.out, HXY.out]
      · have hb : (x != y) = true := by simp [hxy]
        have HXY := hide hxy
        clear hxy
        go_wp2_with fail
        go_quiet (fail)
        go_wp2
        go_ret
        refine ⟨?_, below_drewN (below_drewN (Below.refl _ _) _) _⟩
        have hne : ¬ A = B := fun h => HXY.out (by rw [HX.out, HY.out]; exact HE.out.1 h k hlt)
        rw [decide_eq_false hne]
        rfl
    · obtain rfl : k = n := by omega
      have hki : ¬ (k : Int) < (k : Int) := by omega
      go_wp2
      go_ret
      refine ⟨?_, below_drewN (Below.refl _ _) _⟩
      rw [decide_eq_true (HE.out.2 HALL.out)]
      rfl
/-- Has a start at v just this label? -/
def hasS (S : List Pr) (v : Nat) (x : Int) : Bool := (first (fun j => decide (sAt S j = ((v : Int), x))) S.length).isSome
theorem hasS_yes {S : List Pr} {v j : Nat} {x : Int} (hj : j < S.length) (h : sAt S j = ((v : Int), x)) : hasS S v x = true := by
  unfold hasS
  cases hf : first (fun j => decide (sAt S j = ((v : Int), x))) S.length with
  | some i => rfl
  | none => have := first_none_of hf j hj; simp [h] at this
theorem hasS_no {S : List Pr} {v : Nat} {x : Int} (h : ∀ j, j < S.length → sAt S j ≠ ((v : Int), x)) : hasS S v x = false := by
  unfold hasS
  rw [first_none fun j hj => decide_eq_false (h j hj)]
  rfl
set_option maxRecDepth 100000 in
set_option maxHeartbeats 2000000 in
/-- The reference's started. -/
theorem startedS_any (sv : Value) (S : List Pr) (v : Nat) (x : Int) (w : World) (hs : SAt w sv S) (hS : S.length * 16 ≤ 140737488353280) :
    Calls Try.prog 97 #[sv, .int .i64 (v : Int), .int .u64 x] w fun e w' => e = .returned (.bool (hasS S v x)) ∧ w' = w := by
  obtain ⟨so, sc, rfl, hsc, hscm⟩ := hs.shape
  have HC := hide (fun (i : Nat) (hi : i < S.length) => hs.cellAt i hi)
  have HY := hide (fun j hj h => hasS_yes (S := S) (v := v) (x := x) (j := j) hj h)
  have HN := hide (fun h => hasS_no (S := S) (v := v) (x := x) h)
  obtain ⟨r, hr⟩ : ∃ r, r = hasS S v x := ⟨_, rfl⟩
  rw [← hr] at HY HN ⊢
  obtain ⟨M, hM⟩ : ∃ M, M = S.length := ⟨_, rfl⟩
  rw [← hM] at HC HY HN hsc hS ⊢
  clear hr hM hs
  go_enter Try.func97, Try.ntmps97
  go_wp2
  go_loopw [7] (fun t wr => ∃ i : Nat, i ≤ M ∧ t = .int .i64 i ∧ (∀ j, j < i → sAt S j ≠ ((v : Int), x)) ∧ wr = w) (fun t _ => M - (RowKit.intOf t).toNat)
  case atStart => exact ⟨0, by omega, rfl, fun j hj => by omega, rfl⟩
  case round =>
    obtain ⟨i, hi, rfl, hno, rfl⟩ := hrel
    have HNO := hide hno
    clear hno
    by_cases hlt : i < M
    · obtain ⟨gb, ob, hsb, b0, b1⟩ := HC.out i hlt
      subst hsb
      have hiM : (i : Int) < (M : Int) := by omega
      obtain ⟨p, hp⟩ : ∃ p, p = (sAt S i).1 := ⟨_, rfl⟩
      obtain ⟨q, hq⟩ : ∃ q, q = (sAt S i).2 := ⟨_, rfl⟩
      rw [← hp] at b0
      rw [← hq] at b1
      have HPQ : Hid (sAt S i = (p, q)) := by show _ = _; rw [hp, hq]
      clear hp hq
      have HNX : Hid (¬ (p = (v : Int) ∧ q = x) → ∀ j, j < i + 1 → sAt S j ≠ ((v : Int), x)) := fun h j hj => by
        rcases Nat.lt_or_ge j i with h3 | h3
        · exact HNO.out j h3
        · obtain rfl : j = i := by omega
          rw [HPQ.out]
          intro h4
          simp only [Prod.mk.injEq] at h4
          exact h h4
      by_cases h1 : p = (v : Int)
      · have hb1 : (p == (v : Int)) = true := by simp [h1]
        by_cases h2 : q = x
        · have hb2 : (q == x) = true := by simp [h2]
          have HR := hide (HY.out i hlt (by rw [HPQ.out, h1, h2]))
          clear h1 h2
          go_wp2
          go_ret
          rw [HR.out]
          exact ⟨rfl, rfl⟩
        · have hb2 : (q == x) = false := by simp [h2]
          have HN2 := hide (HNX.out fun h => h2 h.2)
          clear h1 h2
          go_wp2
          exact ⟨⟨i + 1, by omega, by simp, HN2.out, by simp⟩, by simp [RowKit.intOf]; omega⟩
      · have hb1 : (p == (v : Int)) = false := by simp [h1]
        have HN2 := hide (HNX.out fun h => h1 h.1)
        clear h1
        go_wp2
        exact ⟨⟨i + 1, by omega, by simp, HN2.out, by simp⟩, by simp [RowKit.intOf]; omega⟩
    · obtain rfl : i = M := by omega
      have hki : ¬ (i : Int) < (i : Int) := by omega
      have HR := hide (HN.out HNO.out)
      go_wp2
      go_ret
      rw [HR.out]
      exact ⟨rfl, rfl⟩
end Go.Proofs.Ythoklgdlnmccmaa

/- The reference's Tree. -/
namespace Go.Proofs.Ythoklgdlnmccmaa
open Go.RowKit Go.Lib
set_option linter.unusedVariables false

def TreeW (w : World) (n : Nat) (st tl wt : List Int) (k : Int) (S : List Pr) (L : List Int) (e : Ending) (w' : World) : Prop :=
  ∃ (GY GD : Nat) (Y D : List Int), e = .returned (.tuple #[.slice (some ⟨GY, 0, none⟩) n n, .slice (some ⟨GD, 0, none⟩) n n, .int .i64 0]) ∧ Arr w' GY Y ∧ Arr w' GD D ∧ Whole n st tl wt k S L D Y ∧ Below w.heap.size w w'
/-- Both lists in memory. -/
structure TM (w5 wr : World) (GY GD : Nat) (Y D : List Int) : Prop where
  ay : Arr wr GY Y
  ad : Arr wr GD D
  bel : Below w5.heap.size w5 wr
theorem arr_new {w : World} {g n : Nat} (h : w.heap[g]? = some (.cells (madeCells #[.int .i64 0] n) 3 (0, 0))) : Arr w g (tab n (fun _ => 0)) := by
  unfold Arr
  rw [h]
  have e : madeCells #[Value.int .i64 0] n = iCells (tab n (fun _ => 0)) := by
    apply Array.ext'
    apply List.ext_getElem
    · simp [madeCells, iCells, tab]
    · intro i h1 h2
      simp [madeCells, iCells, tab, Nat.mod_one]
  rw [e]
theorem tm_new (w5 : World) (n : Nat) : TM w5 ((w5.alloc (.cells (madeCells #[.int .i64 0] n) 3)).alloc (.cells (madeCells #[.int .i64 0] n) 3)) w5.heap.size (w5.heap.size + 1) (tab n (fun _ => 0)) (tab n (fun _ => 0)) := by
  refine ⟨arr_new ?_, arr_new ?_, below_alloc (below_alloc (Below.refl _ _) _) _⟩
  · rw [Below.heap_alloc _ _ _ (by simp)]; exact heap_new w5 _
  · have := heap_new (w5.alloc (.cells (madeCells #[.int .i64 0] n) 3)) (.cells (madeCells #[.int .i64 0] n) 3)
    rw [show (w5.alloc (.cells (madeCells #[.int .i64 0] n) 3)).heap.size = w5.heap.size + 1 by simp] at this
    exact this
section
variable {w5 wr : World} {GY GD : Nat} {Y D : List Int}
theorem TM.drew (h : TM w5 wr GY GD Y D) (m : Nat) : TM w5 (wr.drewN m) GY GD Y D := by
  have hb : Below wr.heap.size wr (wr.drewN m) := below_drewN (Below.refl _ _) m
  exact ⟨h.ay.below hb (lt_of_heap h.ay), h.ad.below hb (lt_of_heap h.ad), below_drewN h.bel m⟩
theorem TM.puty (h : TM w5 wr GY GD Y D) (hne : GD ≠ GY) (hy : w5.heap.size ≤ GY) (i : Nat) (x : Int) : TM w5 (wr.setCell ⟨GY, i, none⟩ (.int .i64 x)) GY GD (Y.set i x) D :=
  ⟨h.ay.put i x, (Below.heap_setCell _ _ _ _ hne).trans h.ad, h.bel.setCell (p := ⟨GY, i, none⟩) hy _⟩
theorem TM.putd (h : TM w5 wr GY GD Y D) (hne : GD ≠ GY) (hd : w5.heap.size ≤ GD) (i : Nat) (x : Int) : TM w5 (wr.setCell ⟨GD, i, none⟩ (.int .i64 x)) GY GD Y (D.set i x) :=
  ⟨(Below.heap_setCell _ _ _ _ (fun e => hne e.symm)).trans h.ay, h.ad.put i x, h.bel.setCell (p := ⟨GD, i, none⟩) hd _⟩
end
/-- The depths while the roots are set: the first i vertices are. -/
def rootsD (n : Nat) (S : List Pr) (L : List Int) (i : Nat) : List Int := tab n (fun u => if u < i then (if rootB S L u then 0 else -1) else 0)
def rootsY (n i : Nat) : List Int := tab n (fun u => if u < i then -1 else 0)
theorem rootB_of {S : List Pr} {L : List Int} {v : Nat} : rootB S L v = (decide (at_ L v = Nev) || hasS S v (at_ L v)) := rfl
theorem roots_set {n i : Nat} {S : List Pr} {L : List Int} (h : rootB S L i = false) : (rootsD n S L i).set i (-1) = rootsD n S L (i + 1) := by
  unfold rootsD
  rw [tab_set]
  refine tab_congr fun v _ => ?_
  by_cases e : v = i
  · subst e; rw [if_pos rfl, if_pos (by omega), h]; rfl
  · rw [if_neg e]
    by_cases h1 : v < i
    · have h2 : v < i + 1 := by omega
      rw [if_pos h1, if_pos h2]
    · have h2 : ¬ v < i + 1 := by omega
      rw [if_neg h1, if_neg h2]
theorem roots_set2 {n i : Nat} {S : List Pr} {L : List Int} (h : rootB S L i = true) : ((rootsD n S L i).set i (-1)).set i 0 = rootsD n S L (i + 1) := by
  unfold rootsD
  rw [tab_set, tab_set]
  refine tab_congr fun v _ => ?_
  by_cases e : v = i
  · subst e; rw [if_pos rfl, if_pos (by omega), h]; rfl
  · rw [if_neg e, if_neg e]
    by_cases h1 : v < i
    · have h2 : v < i + 1 := by omega
      rw [if_pos h1, if_pos h2]
    · have h2 : ¬ v < i + 1 := by omega
      rw [if_neg h1, if_neg h2]
theorem rootsY_set {n i : Nat} : (rootsY n i).set i (-1) = rootsY n (i + 1) := by
  unfold rootsY
  rw [tab_set]
  refine tab_congr fun v _ => ?_
  by_cases e : v = i
  · subst e; rw [if_pos rfl, if_pos (by omega)]
  · rw [if_neg e]
    by_cases h1 : v < i
    · have h2 : v < i + 1 := by omega
      rw [if_pos h1, if_pos h2]
    · have h2 : ¬ v < i + 1 := by omega
      rw [if_neg h1, if_neg h2]
theorem roots_td {n : Nat} {st tl wt : List Int} {k : Int} {S : List Pr} {L : List Int} : TD n st tl wt k S L (rootsD n S L n) (rootsY n n) 0 := by
  refine ⟨tab_length _ _, tab_length _ _, fun v hv => ?_, fun v hv => ?_⟩
  · unfold rootsD; rw [tab_at _ _ _ hv, if_pos hv]; rfl
  · unfold rootsY; rw [tab_at _ _ _ hv, if_pos hv]; rfl
section
variable {n : Nat} {st tl wt : List Int} {k : Int} {S : List Pr} {L D Y D0 Y0 : List Int} {d p : Nat} {fnd : Bool}
/-- A layer of the reference's under way: the edges from p on are gone over. -/
structure RL (n : Nat) (st tl wt : List Int) (k : Int) (S : List Pr) (L : List Int) (d : Nat) (D0 Y0 D Y : List Int) (p : Nat) (fnd : Bool) : Prop where
  gi : GI n st tl wt k S L d (fun e => p ≤ e) D Y
  no : fnd = false → D = D0 ∧ Y = Y0
  pm : p ≤ tl.length
theorem RL.start (h : TD n st tl wt k S L D Y d) : RL n st tl wt k S L d D Y D Y tl.length false :=
  ⟨GI.start h fun e he => by omega, fun _ => ⟨rfl, rfl⟩, Nat.le_refl _⟩
theorem RL.pass (hg : Good n st tl wt) (h : RL n st tl wt k S L d D0 Y0 D Y (p + 1) fnd) (hno : at_ D (src st n p) ≠ (d : Int) ∨ at_ L (src st n p) = Nev ∨ (at_ D (tov tl p) ≠ -1 ∧ at_ D (tov tl p) ≠ ((d + 1 : Nat) : Int)) ∨ ext k (at_ L (src st n p)) (at_ wt p) ≠ at_ L (tov tl p)) : RL n st tl wt k S L d D0 Y0 D Y p fnd := by
  have he : p < tl.length := by have := h.pm; omega
  have hv := (tov_lt hg he).1
  refine ⟨h.gi.pass (e := p) hv ?_ rfl (fun e' h1 => by omega) (fun e' h1 => by omega), h.no, by omega⟩
  rcases hno with h1 | h1 | h1 | h1
  · right; intro hq; exact h1 ((h.gi.is_d (src_lt hg he)).2 hq.2.2)
  · right; intro hq; exact hq.2.1.1 h1
  · left; intro h2
    rcases (h.gi.is_none hv).2 h2 with h3 | h3
    · exact h1.1 h3
    · exact h1.2 h3
  · right; intro hq; exact h1 hq.2.1.2
theorem RL.take (hg : Good n st tl wt) (h : RL n st tl wt k S L d D0 Y0 D Y (p + 1) fnd) (h1 : at_ D (src st n p) = (d : Int)) (h2 : at_ L (src st n p) ≠ Nev) (h3 : at_ D (tov tl p) = -1 ∨ at_ D (tov tl p) = ((d + 1 : Nat) : Int)) (h4 : ext k (at_ L (src st n p)) (at_ wt p) = at_ L (tov tl p)) :
    RL n st tl wt k S L d D0 Y0 (D.set (tov tl p) ((d + 1 : Nat) : Int)) (Y.set (tov tl p) (p : Int)) p true := by
  have he : p < tl.length := by have := h.pm; omega
  have hv := (tov_lt hg he).1
  exact ⟨h.gi.take he hv ((h.gi.is_none hv).1 h3) ⟨rfl, ⟨h2, h4⟩, (h.gi.is_d (src_lt hg he)).1 h1⟩ (fun e' a b => by omega) (fun e' h1 => by omega) (fun e' h1 => by omega) (Nat.le_refl _), (fun h => by cases h), by omega⟩
theorem RL.finish (h : RL n st tl wt k S L d D0 Y0 D Y 0 fnd) : TD n st tl wt k S L D Y (d + 1) := h.gi.finish fun e v he hq => Nat.zero_le _
theorem RL.whole (h0 : TD n st tl wt k S L D0 Y0 d) (h : RL n st tl wt k S L d D0 Y0 D Y 0 false) : Whole n st tl wt k S L D Y := by
  obtain ⟨rfl, rfl⟩ := h.no rfl
  exact ⟨d, h0, fun v hv => by rw [← h.finish.de v hv, ← h0.de v hv]⟩
end
set_option maxRecDepth 100000 in
set_option maxHeartbeats 8000000 in
theorem refTree_good (n : Nat) (va vb vc : Value) (st tl wt : List Int) (k : Int) (sv : Value) (S : List Pr) (lv : Value) (L : List Int) (w : World) (hg : GIs w n va vb vc st tl wt) (h0 : srchNo n st tl wt k S = 0) (hwb : ∀ e, 0 ≤ at_ wt e ∧ at_ wt e ≤ 18446744073709551615) (hs : SAt w sv S) (hw : ∀ j, j < S.length → 0 ≤ (sAt S j).2 ∧ (sAt S j).2 ≤ 18446744073709551615) (hS : S.length * 16 ≤ 140737488353280) (hl : RowAt .u64 w lv L) (hF : Found n st tl wt k S L) :
    Calls Try.prog 43 #[gAgg n va vb vc, .int .i64 k, sv, lv] w (TreeW w n st tl wt k S L) := by
  obtain ⟨m0, hmn, hgd, hsn⟩ := srch_good h0
  obtain rfl : n = m0 := by omega
  have hok := sok_of hsn (fun j hj => (hw j hj).1)
  obtain ⟨i0, hi, hz0, hz1, hz2⟩ := info_parts Try.info3
  have hst : st.length ≤ 17592186044416 := by have := hgd.s_len; have := hgd.n_le; omega
  have htl : tl.length ≤ 17592186044416 := by have := hgd.m_le; omega
  have hwt : wt.length ≤ 17592186044416 := by have := hgd.w_len; omega
  obtain ⟨ao, ca, rfl⟩ := hg.s.shape
  obtain ⟨bo, cb, rfl⟩ := hg.t.shape
  obtain ⟨co, cc, rfl⟩ := hg.u.shape
  obtain ⟨so, sc, rfl, hsc, hscm⟩ := hs.shape
  obtain ⟨lo, lc, rfl⟩ := hl.shape
  obtain ⟨c0, c1, c2, c3, hb1, hs1⟩ := boxed w (.int .i64 n) (.slice ao st.length ca) (.slice bo tl.length cb) (.slice co wt.length cc)
  have HF := hide (firstS_any n _ _ _ st tl wt k _ S _ (hg.below hb1) hst htl hwt (hs.below hb1) hS)
  have HB1 := hide hb1
  have HG1 := hide (hg.below hb1)
  have HS1 := hide (hs.below hb1)
  have HL1 := hide (hl.below hb1)
  have hn := hgd.n_le
  have hm := hgd.m_le
  have hLl := hF.len
  have HFR := hide (fun W a => from_any n (.slice ao st.length ca) (.slice bo tl.length cb) (.slice co wt.length cc) st tl wt W a hgd)
  have HLE := hide (fun W a b => least_any n (.slice ao st.length ca) (.slice bo tl.length cb) (.slice co wt.length cc) st tl wt k (.slice so S.length sc) S W a hgd hwb b hok hS)
  have HON := hide (fun M (h : Found n st tl wt k S M) => h.only hF hwb hw)
  have HD := hide hgd; have HWB := hide hwb; have HFD := hide hF
  have HSTA := hide (fun (v : Nat) (x : Int) W h => startedS_any (.slice so S.length sc) S v x W h hS)
  rw [h0] at HF
  unfold gAgg at HF HFR HLE ⊢
  rw [hLl] at HL1 ⊢
  clear hb1 hg hs h0 hgd hsn hw hwb hl hF hok hmn hst htl hwt
  have hnn : ((n : Int) != (n : Int)) = false := by simp
  go_enter Try.func43, Try.ntmps43
  go_wp2_with fail
  generalize (w.alloc (.cells #[.int .i64 n, .slice ao st.length ca, .slice bo tl.length cb, .slice co wt.length cc] 32)) = w1 at c0 c1 c2 c3 hs1 HB1 HS1 HG1 HL1 HF ⊢
  refine HF.out.mono ?_
  rintro e w2 ⟨rfl, hb2⟩
  have HX2 := hide (box_keep hs1 hb2 ⟨c0, c1, c2, c3⟩)
  clear c0 c1 c2 c3
  obtain ⟨x0, x1, x2, x3⟩ := HX2.out
  have hs2 : w.heap.size < w2.heap.size := by have := hb2.size; omega
  have HB2 := hide (below_on HB1.out hb2)
  have HS2 := hide (HS1.out.below hb2)
  have HG2 := hide (HG1.out.below hb2)
  have HL2 := hide (HL1.out.below hb2)
  clear hb2 HF HS1 HB1 HG1 HL1
  go_wp2_with fail
  refine (HLE.out w2 HG2.out HS2.out).mono ?_
  rintro e w3 ⟨G, M, rfl, hG, hA, hFo, hb3⟩
  obtain rfl := HON.out M hFo
  have HX3 := hide (box_keep hs2 hb3 HX2.out)
  have hs3 : w.heap.size < w3.heap.size := by have := hb3.size; omega
  have HB3 := hide (below_on HB2.out hb3)
  have HS3 := hide (HS2.out.below hb3)
  have HG3 := hide (HG2.out.below hb3)
  have HL3 := hide (HL2.out.below hb3)
  have HSM := hide (refSame_any _ _ M M n w3 HL3.out (hA.row hLl (by omega)) hLl hLl hn)
  rw [decide_eq_true rfl] at HSM
  clear hb3 hA hFo hG HS2 HB2 HG2 HL2 HX2 HLE HON x0 x1 x2 x3
  go_wp2_with fail
  refine HSM.out.mono ?_
  rintro e w4 ⟨rfl, hb4⟩
  have HX4 := hide (box_keep hs3 hb4 HX3.out)
  obtain ⟨x0, x1, x2, x3⟩ := HX4.out
  have hs4 : w.heap.size < w4.heap.size := by have := hb4.size; omega
  have HB4 := hide (below_on HB3.out hb4)
  have HS4 := hide (HS3.out.below hb4)
  have HG4 := hide (HG3.out.below hb4)
  have HL4 := hide (HL3.out.below hb4)
  clear hb4 HSM HS3 HB3 HG3 HL3 HX3
  go_wp2_with fail
  refine (HFR.out w4 HG4.out).mono ?_
  rintro e w5 ⟨gf, rfl, hF5, hb5⟩
  have HX5 := hide (box_keep hs4 hb5 HX4.out)
  clear x0 x1 x2 x3
  obtain ⟨x0, x1, x2, x3⟩ := HX5.out
  have hs5 : w.heap.size < w5.heap.size := by have := hb5.size; omega
  have HB5 := hide (below_on HB4.out hb5)
  have HS5 := hide (HS4.out.below hb5)
  have HG5 := hide (HG4.out.below hb5)
  have HL5 := hide (HL4.out.below hb5)
  have HF5 := hide hF5
  clear hb5 hF5 HFR HS4 HB4 HG4 HL4 HX4
  have x0a : (w5.alloc (.cells (madeCells #[.int .i64 0] n) 3)).cell? ⟨w.heap.size, 0, none⟩ = some (.int .i64 n) := (below_cell (below_alloc (Below.refl _ _) _) hs5).trans x0
  go_wp2_with (at_make; refine wpList_make_row _ rfl _ _ 29 rfl 3 i0 (.int .i64 0) Try.underlying29 hi hz0 hz1 rfl _ _ n rfl rfl (by rw [hz2]; omega) (by omega) ?_)
  have HTM : Hid (TM w5 ((w5.alloc (.cells (madeCells #[.int .i64 0] n) 3)).alloc (.cells (madeCells #[.int .i64 0] n) 3)) w5.heap.size (w5.heap.size + 1) (rootsY n 0) (rootsD n S M 0)) := by
    have h1 : rootsY n 0 = tab n (fun _ => 0) := tab_congr fun v _ => by rw [if_neg (by omega)]
    have h2 : rootsD n S M 0 = tab n (fun _ => 0) := tab_congr fun v _ => by rw [if_neg (by omega)]
    rw [h1, h2]
    exact tm_new w5 n
  generalize ((w5.alloc (.cells (madeCells #[.int .i64 0] n) 3)).alloc (.cells (madeCells #[.int .i64 0] n) 3)) = w7 at HTM ⊢
  obtain ⟨GY, hGY⟩ : ∃ GY, GY = w5.heap.size := ⟨_, rfl⟩
  obtain ⟨GD, hGD⟩ : ∃ GD, GD = w5.heap.size + 1 := ⟨_, rfl⟩
  rw [← hGD, ← hGY] at HTM ⊢
  have hy5 : w5.heap.size ≤ GY := by omega
  have hd5 : w5.heap.size ≤ GD := by omega
  have hne : GD ≠ GY := by omega
  have HLC := hide (fun W (h : Below w5.heap.size w5 W) i (hi : i < n) => (HL5.out.below h).cellAt i (by rw [hLl]; exact hi))
  rw [hLl] at HLC
  clear hGY hGD x0 x1 x2 x3 x0a hi hz0 hz1 hz2 hs2 hs3 hs4 hs1 hnn
  go_loopw [15] (fun t wr => ∃ i : Nat, i ≤ n ∧ t = .int .i64 i ∧ TM w5 wr GY GD (rootsY n i) (rootsD n S M i)) (fun t _ => n - (RowKit.intOf t).toNat)
  case atStart => exact ⟨0, by omega, rfl, HTM.out⟩
  case round =>
    clear HTM
    obtain ⟨i, hin, rfl, ht⟩ := hrel
    obtain ⟨x0, x1, x2, x3⟩ := box_keep hs5 ht.bel HX5.out
    clear x1 x2 x3
    by_cases hlt : i < n
    · have hli : (i : Int) < (n : Int) := by omega
      have y0 := ht.ay.cell i (by unfold rootsY; rw [tab_length]; exact hlt)
      have yf := ht.ay.free i
      have t1 := ht.puty hne hy5 i (-1)
      have d0 := t1.ad.cell i (by unfold rootsD; rw [tab_length]; exact hlt)
      have df := t1.ad.free i
      have t2 := t1.putd hne hd5 i (-1)
      have e0 := t2.ad.cell i (by unfold rootsD; rw [List.length_set, tab_length]; exact hlt)
      have ef := t2.ad.free i
      have t3 := t2.putd hne hd5 i 0
      obtain ⟨gl, ol, cl', hsl, hcl, l0⟩ := HLC.out _ t2.bel i hlt
      simp only [Value.slice.injEq, true_and] at hsl
      obtain ⟨rfl, rfl⟩ := hsl
      have HST := hide (HSTA.out i (at_ M i) _ (HS5.out.below t2.bel))
      have HT2 := hide t2; have HT3 := hide t3
      obtain ⟨y, hy⟩ : ∃ y, y = at_ M i := ⟨_, rfl⟩
      rw [← hy] at l0 HST
      have HRB : Hid (rootB S M i = (decide (y = Nev) || hasS S i y)) := by show _ = _; rw [rootB_of, hy]
      clear ht t1 t2 t3 hy
      have key2 : Hid (rootB S M i = false → TM w5 ((wr.setCell ⟨GY, i, none⟩ (.int .i64 (-1))).setCell ⟨GD, i, none⟩ (.int .i64 (-1))) GY GD (rootsY n (i + 1)) (rootsD n S M (i + 1))) := fun h => by
        have := HT2.out; rwa [roots_set h, rootsY_set] at this
      have key3 : Hid (rootB S M i = true → TM w5 (((wr.setCell ⟨GY, i, none⟩ (.int .i64 (-1))).setCell ⟨GD, i, none⟩ (.int .i64 (-1))).setCell ⟨GD, i, none⟩ (.int .i64 0)) GY GD (rootsY n (i + 1)) (rootsD n S M (i + 1))) := fun h => by
        have := HT3.out; rwa [roots_set2 h, rootsY_set] at this
      clear HT2 HT3
      by_cases hnv : y = 18446744073709551615
      · have hb : (y == 18446744073709551615) = true := by simp [hnv]
        have HN := hide (key3.out (by rw [HRB.out, decide_eq_true (show y = Nev from hnv)]; rfl))
        clear hnv key2 key3 HRB HST
        go_wp2_with fail
        exact ⟨⟨i + 1, by omega, by simp, HN.out⟩, by simp [RowKit.intOf]; omega⟩
      · have hb : (y == 18446744073709551615) = false := by simp [hnv]
        have HRB2 : Hid (rootB S M i = hasS S i y) := by show _ = _; rw [HRB.out, decide_eq_false (show ¬ y = Nev from hnv)]; rfl
        clear hnv HRB
        cases hh : hasS S i y with
        | true =>
          rw [hh] at HST
          have HN := hide (key3.out (by rw [HRB2.out, hh]))
          clear hh key2 key3 HRB2
          go_wp2_with fail
          refine HST.out.mono ?_
          rintro e w8 ⟨rfl, rfl⟩
          go_wp2_with fail
          exact ⟨⟨i + 1, by omega, by simp, HN.out⟩, by simp [RowKit.intOf]; omega⟩
        | false =>
          rw [hh] at HST
          have HN := hide (key2.out (by rw [HRB2.out, hh]))
          clear hh key2 key3 HRB2
          go_wp2_with fail
          refine HST.out.mono ?_
          rintro e w8 ⟨rfl, rfl⟩
          go_wp2_with fail
          exact ⟨⟨i + 1, by omega, by simp, HN.out⟩, by simp [RowKit.intOf]; omega⟩
    · obtain rfl : i = n := by omega
      have hki : ¬ (i : Int) < (i : Int) := by omega
      have HTM := hide ht
      have HTD := hide (roots_td (n := i) (st := st) (tl := tl) (wt := wt) (k := k) (S := S) (L := M))
      clear ht
      go_wp2
      go_loopw [16] (fun t wr => ∃ (d : Nat) (Y D : List Int), d ≤ i ∧ t = .int .i64 d ∧ TM w5 wr GY GD Y D ∧ TD i st tl wt k S M D Y d) (fun t _ => i - (RowKit.intOf t).toNat)
      case atStart => exact ⟨0, _, _, by omega, rfl, HTM.out, HTD.out⟩
      case round =>
        clear HTM HTD
        obtain ⟨d, Y0, D0, hdn, rfl, ht, htd⟩ := hrel
        obtain ⟨x0, x1, x2, x3⟩ := box_keep hs5 ht.bel HX5.out
        have HTM := hide ht
        have HTD := hide htd
        by_cases hlt2 : d < i
        · have hli : (d : Int) < (i : Int) := by omega
          have HRL := hide (RL.start htd)
          obtain ⟨wq, hwq⟩ : ∃ wq, wq = wr := ⟨_, rfl⟩
          subst hwq
          clear ht htd x1 x3
          go_wp2_with fail
          clear x0 x2
          go_loopw [17, 18] (fun x t wr => ∃ (p : Nat) (Y D : List Int) (fnd : Bool) (q : Int), q = (p : Int) - 1 ∧ x = .bool fnd ∧ t = .int .i64 q ∧ TM w5 wr GY GD Y D ∧ RL i st tl wt k S M d D0 Y0 D Y p fnd) (fun _ t _ => (RowKit.intOf t + 1).toNat)
          case atStart => exact ⟨tl.length, Y0, D0, false, _, rfl, rfl, rfl, HTM.out, HRL.out⟩
          case round =>
            clear HTM HRL
            obtain ⟨p, Y, D, fnd, q, hq, rfl, rfl, ht, hrl⟩ := hrel
            cases p with
            | zero =>
              obtain rfl : q = -1 := by omega
              have HTM := hide ht
              cases fnd with
              | false =>
                have HW := hide (hrl.whole HTD.out)
                clear hrl ht hq
                go_wp2
                go_ret3
                exact ⟨GY, GD, Y, D, rfl, HTM.out.ay, HTM.out.ad, HW.out, below_on HB5.out HTM.out.bel⟩
              | true =>
                have HFI := hide hrl.finish
                clear hrl ht hq
                go_wp2
                exact ⟨⟨d + 1, Y, D, by omega, by simp, HTM.out, HFI.out⟩, by simp [RowKit.intOf]; omega⟩
            | succ p =>
              obtain rfl : q = (p : Int) := by omega
              have hpm : p < tl.length := by have := hrl.pm; omega
              clear hq
              obtain ⟨x0, x1, x2, x3⟩ := box_keep hs5 ht.bel HX5.out
              clear x0 x1
              have hGI := HG5.out.below ht.bel
              obtain ⟨gb, ob, cb', heb, hcb, t0⟩ := hGI.t.cellAt p hpm
              obtain ⟨gc, oc, cc', hec, hcc, z0⟩ := hGI.u.cellAt p (by have := HD.out.w_len; omega)
              simp only [Value.slice.injEq, true_and] at heb hec
              obtain ⟨rfl, rfl⟩ := heb
              obtain ⟨rfl, rfl⟩ := hec
              obtain ⟨gF, oF, cF, heF, hcF, s0⟩ := (HF5.out.below ht.bel).cellAt p (by rw [tab_length]; exact hpm)
              simp only [Value.slice.injEq, Option.some.injEq, Addr.mk.injEq, and_true] at heF
              obtain ⟨⟨rfl, rfl⟩, hcF3, hcF2⟩ := heF
              rw [tab_at _ _ _ hpm, Nat.zero_add] at s0
              clear hcF hcF2 hcF3
              have hun := src_lt HD.out hpm
              obtain ⟨htn, htv⟩ := tov_lt HD.out hpm
              rw [htv] at t0
              have hDl := hrl.gi.dl
              have hYl := hrl.gi.yl
              have du := ht.ad.cell (src st i p) (by omega)
              have dv := ht.ad.cell (tov tl p) (by omega)
              obtain ⟨gl, ol, cl', hsl, hcl, lu⟩ := HLC.out _ ht.bel (src st i p) hun
              obtain ⟨gl2, ol2, cl2, hsl2, hcl2, lw⟩ := HLC.out _ ht.bel (tov tl p) htn
              simp only [Value.slice.injEq, true_and] at hsl
              obtain ⟨rfl, rfl⟩ := hsl
              simp only [Value.slice.injEq, Option.some.injEq, Addr.mk.injEq, and_true, true_and] at hsl2
              obtain ⟨⟨rfl, rfl⟩, hcl3⟩ := hsl2
              clear hcl2 hcl3
              have hru := HFD.out.rng _ hun
              have hwe := HWB.out p
              have HEX := hide (fun W => refExtend_any k (at_ M (src st i p)) (at_ wt p) W hru.1 (by have := hru.2; unfold Nev at this; omega) hwe.1 hwe.2)
              have HPA := hide (fun h => hrl.pass HD.out h)
              have HTA := hide (fun a b c e => hrl.take HD.out a b c e)
              have HT := hide ht
              clear hrl ht hGI
              have HWS := hide (fun m => ((HT.out.drew m).putd hne hd5 (tov tl p) ((d + 1 : Nat) : Int)).puty hne hy5 (tov tl p) (p : Int))
              have yc := HT.out.ay.cell (tov tl p) (by omega)
              have yf := HT.out.ay.free (tov tl p)
              have df := HT.out.ad.free (tov tl p)
              obtain ⟨x, hx⟩ : ∃ x, x = ext k (at_ M (src st i p)) (at_ wt p) := ⟨_, rfl⟩
              rw [← hx] at HEX HPA HTA
              obtain ⟨u, hu⟩ : ∃ u, u = src st i p := ⟨_, rfl⟩
              rw [← hu] at s0 du lu HEX HPA HTA hun
              obtain ⟨a, ha⟩ : ∃ a, a = at_ D u := ⟨_, rfl⟩
              rw [← ha] at du HPA HTA
              obtain ⟨yu, hyu⟩ : ∃ y, y = at_ M u := ⟨_, rfl⟩
              rw [← hyu] at lu HEX HPA HTA
              obtain ⟨t, htt⟩ : ∃ t, t = tov tl p := ⟨_, rfl⟩
              rw [← htt] at t0 dv lw HPA HTA HWS yc yf df htn
              obtain ⟨b, hb⟩ : ∃ b, b = at_ D t := ⟨_, rfl⟩
              rw [← hb] at dv HPA HTA
              obtain ⟨yt, hyt⟩ : ∃ y, y = at_ M t := ⟨_, rfl⟩
              rw [← hyt] at lw HPA HTA
              obtain ⟨wz, hwz⟩ : ∃ z, z = at_ wt p := ⟨_, rfl⟩
              rw [← hwz] at z0 HEX
              obtain ⟨yy, hyy⟩ : ∃ z, z = at_ Y t := ⟨_, rfl⟩
              rw [← hyy] at yc
              rw [show ((d + 1 : Nat) : Int) = (d : Int) + 1 by omega] at HPA HTA HWS
              have hlI : (p : Int) < (tl.length : Int) := by omega
              have hlW : (p : Int) < (wt.length : Int) := by have := HD.out.w_len; omega
              have hui : (u : Int) < (i : Int) := by omega
              have hti : (t : Int) < (i : Int) := by omega
              clear hx hu ha hyu htt hb hyt hwz hyy htv hru hwe hDl hYl hcb hcc hcl
              by_cases h1 : a = (d : Int)
              · have b1 : (a == (d : Int)) = true := by simp [h1]
                by_cases h2 : yu = 18446744073709551615
                · have b2 : (yu != 18446744073709551615) = false := by simp [h2]
                  have HN := hide (HPA.out (.inr (.inl h2)))
                  clear HPA HTA h1 h2
                  go_wp2_with fail
                  go_quiet (first | (go_at_call 73; exact (HEX.out _).mono fun _ _ h => ⟨h.1, _, h.2⟩))
                  go_wp2
                  exact ⟨⟨p, Y, D, fnd, (p : Int) - 1, rfl, rfl, rfl, HT.out.drew _, HN.out⟩, by simp [RowKit.intOf]⟩
                · have b2 : (yu != 18446744073709551615) = true := by simp [h2]
                  by_cases h3 : b = -1
                  · have b3 : (b == -1) = true := by simp [h3]
                    by_cases h5 : x = yt
                    · have b5 : (x == yt) = true := by simp [h5]
                      have HN := hide (HTA.out h1 h2 (.inl h3) h5)
                      clear HPA HTA h1 h2 h3 h5
                      go_wp2_with fail
                      go_quiet (first | (go_at_call 73; exact (HEX.out _).mono fun _ _ h => ⟨h.1, _, h.2⟩))
                      go_wp2
                      exact ⟨⟨p, _, _, true, (p : Int) - 1, rfl, rfl, rfl, HWS.out _, HN.out⟩, by simp [RowKit.intOf]⟩
                    · have b5 : (x == yt) = false := by simp [h5]
                      have HN := hide (HPA.out (.inr (.inr (.inr h5))))
                      clear HPA HTA h1 h2 h3 h5
                      go_wp2_with fail
                      go_quiet (first | (go_at_call 73; exact (HEX.out _).mono fun _ _ h => ⟨h.1, _, h.2⟩))
                      go_wp2
                      exact ⟨⟨p, Y, D, fnd, (p : Int) - 1, rfl, rfl, rfl, HT.out.drew _, HN.out⟩, by simp [RowKit.intOf]⟩
                  · have b3 : (b == -1) = false := by simp [h3]
                    by_cases h4 : b = (d : Int) + 1
                    · have b4 : (b == (d : Int) + 1) = true := by simp [h4]
                      by_cases h5 : x = yt
                      · have b5 : (x == yt) = true := by simp [h5]
                        have HN := hide (HTA.out h1 h2 (.inr h4) h5)
                        clear HPA HTA h1 h2 h3 h4 h5
                        go_wp2_with fail
                        go_quiet (first | (go_at_call 73; exact (HEX.out _).mono fun _ _ h => ⟨h.1, _, h.2⟩))
                        go_wp2
                        exact ⟨⟨p, _, _, true, (p : Int) - 1, rfl, rfl, rfl, HWS.out _, HN.out⟩, by simp [RowKit.intOf]⟩
                      · have b5 : (x == yt) = false := by simp [h5]
                        have HN := hide (HPA.out (.inr (.inr (.inr h5))))
                        clear HPA HTA h1 h2 h3 h4 h5
                        go_wp2_with fail
                        go_quiet (first | (go_at_call 73; exact (HEX.out _).mono fun _ _ h => ⟨h.1, _, h.2⟩))
                        go_wp2
                        exact ⟨⟨p, Y, D, fnd, (p : Int) - 1, rfl, rfl, rfl, HT.out.drew _, HN.out⟩, by simp [RowKit.intOf]⟩
                    · have b4 : (b == (d : Int) + 1) = false := by simp [h4]
                      have HN := hide (HPA.out (.inr (.inr (.inl ⟨h3, h4⟩))))
                      clear HPA HTA h1 h2 h3 h4
                      go_wp2_with fail
                      go_quiet (first | (go_at_call 73; exact (HEX.out _).mono fun _ _ h => ⟨h.1, _, h.2⟩))
                      go_wp2
                      exact ⟨⟨p, Y, D, fnd, (p : Int) - 1, rfl, rfl, rfl, HT.out.drew _, HN.out⟩, by simp [RowKit.intOf]⟩
              · have b1 : (a == (d : Int)) = false := by simp [h1]
                have HN := hide (HPA.out (.inl h1))
                clear HPA HTA h1
                go_wp2_with fail
                go_quiet (first | (go_at_call 73; exact (HEX.out _).mono fun _ _ h => ⟨h.1, _, h.2⟩))
                go_wp2
                exact ⟨⟨p, Y, D, fnd, (p : Int) - 1, rfl, rfl, rfl, HT.out.drew _, HN.out⟩, by simp [RowKit.intOf]⟩
        · obtain rfl : d = i := by omega
          have hki : ¬ (d : Int) < (d : Int) := by omega
          have HW : Hid (Whole d st tl wt k S M D0 Y0) := ⟨d, htd, still_at HD.out⟩
          clear ht htd x1 x2 x3
          go_wp2
          go_ret3
          exact ⟨GY, GD, Y0, D0, rfl, HTM.out.ay, HTM.out.ad, HW.out, below_on HB5.out HTM.out.bel⟩
set_option maxRecDepth 100000 in
set_option maxHeartbeats 4000000 in
/-- The reference's Tree of labels that are not the least. -/
theorem refTree_other (n : Nat) (va vb vc : Value) (st tl wt : List Int) (k : Int) (sv : Value) (S : List Pr) (lv : Value) (A L : List Int) (w : World) (hg : GIs w n va vb vc st tl wt) (h0 : srchNo n st tl wt k S = 0) (hwb : ∀ e, 0 ≤ at_ wt e ∧ at_ wt e ≤ 18446744073709551615) (hs : SAt w sv S) (hw : ∀ j, j < S.length → 0 ≤ (sAt S j).2 ∧ (sAt S j).2 ≤ 18446744073709551615) (hS : S.length * 16 ≤ 140737488353280) (hl : RowAt .u64 w lv A) (hF : Found n st tl wt k S L) (hA : A.length = n) (hAL : A ≠ L) :
    Calls Try.prog 43 #[gAgg n va vb vc, .int .i64 k, sv, lv] w fun e w' => e = .returned (.tuple #[.slice none 0 0, .slice none 0 0, .int .i64 51]) ∧ Below w.heap.size w w' := by
  obtain ⟨m0, hmn, hgd, hsn⟩ := srch_good h0
  obtain rfl : n = m0 := by omega
  have hok := sok_of hsn (fun j hj => (hw j hj).1)
  have hst : st.length ≤ 17592186044416 := by have := hgd.s_len; have := hgd.n_le; omega
  have htl : tl.length ≤ 17592186044416 := by have := hgd.m_le; omega
  have hwt : wt.length ≤ 17592186044416 := by have := hgd.w_len; omega
  obtain ⟨ao, ca, rfl⟩ := hg.s.shape
  obtain ⟨bo, cb, rfl⟩ := hg.t.shape
  obtain ⟨co, cc, rfl⟩ := hg.u.shape
  obtain ⟨so, sc, rfl, hsc, hscm⟩ := hs.shape
  obtain ⟨lo, lc, rfl⟩ := hl.shape
  obtain ⟨c0, c1, c2, c3, hb1, hs1⟩ := boxed w (.int .i64 n) (.slice ao st.length ca) (.slice bo tl.length cb) (.slice co wt.length cc)
  have HF := hide (firstS_any n _ _ _ st tl wt k _ S _ (hg.below hb1) hst htl hwt (hs.below hb1) hS)
  have HB1 := hide hb1
  have HG1 := hide (hg.below hb1)
  have HS1 := hide (hs.below hb1)
  have HL1 := hide (hl.below hb1)
  have hn := hgd.n_le
  have HFL := hide hF.len
  have HLE := hide (fun W a b => least_any n (.slice ao st.length ca) (.slice bo tl.length cb) (.slice co wt.length cc) st tl wt k (.slice so S.length sc) S W a hgd hwb b hok hS)
  have HON := hide (fun M (h : Found n st tl wt k S M) => h.only hF hwb hw)
  have HNE := hide hAL
  rw [h0] at HF
  unfold gAgg at HF HLE ⊢
  rw [hA] at HL1 ⊢
  have HAL := hide hA
  clear hb1 hg hs h0 hgd hsn hw hwb hl hF hok hmn hst htl hwt hA hAL
  have hnn : ((n : Int) != (n : Int)) = false := by simp
  go_enter Try.func43, Try.ntmps43
  go_wp2_with fail
  generalize (w.alloc (.cells #[.int .i64 n, .slice ao st.length ca, .slice bo tl.length cb, .slice co wt.length cc] 32)) = w1 at c0 c1 c2 c3 hs1 HB1 HS1 HG1 HL1 HF ⊢
  refine HF.out.mono ?_
  rintro e w2 ⟨rfl, hb2⟩
  have HX2 := hide (box_keep hs1 hb2 ⟨c0, c1, c2, c3⟩)
  clear c0 c1 c2 c3
  obtain ⟨x0, x1, x2, x3⟩ := HX2.out
  have HB2 := hide (below_on HB1.out hb2)
  have HS2 := hide (HS1.out.below hb2)
  have HG2 := hide (HG1.out.below hb2)
  have HL2 := hide (HL1.out.below hb2)
  clear hb2 HF HS1 HB1 HG1 HL1
  go_wp2_with fail
  refine (HLE.out w2 HG2.out HS2.out).mono ?_
  rintro e w3 ⟨G, M, rfl, hG, hA, hFo, hb3⟩
  obtain rfl := HON.out M hFo
  have HB3 := hide (below_on HB2.out hb3)
  have HL3 := hide (HL2.out.below hb3)
  have HSM := hide (refSame_any _ _ A M n w3 HL3.out (hA.row HFL.out (by omega)) HAL.out HFL.out hn)
  rw [decide_eq_false HNE.out] at HSM
  clear hb3 hA hFo hG HS2 HB2 HG2 HL2 HX2 HLE HON x0 x1 x2 x3
  go_wp2_with fail
  refine HSM.out.mono ?_
  rintro e w4 ⟨rfl, hb4⟩
  have HB4 := hide (below_on HB3.out hb4)
  clear hb4
  go_wp2
  go_ret3
  exact ⟨rfl, HB4.out⟩
set_option maxRecDepth 100000 in
set_option maxHeartbeats 4000000 in
/-- The reference's Tree where the arguments have an error, or the labels are not as many as the vertices. -/
theorem refTree_bad (N : Int) (va vb vc : Value) (st tl wt : List Int) (k : Int) (sv : Value) (S : List Pr) (lv : Value) (A : List Int) (w : World) (hg : GIs w N va vb vc st tl wt) (hst : st.length ≤ 17592186044416) (htl : tl.length ≤ 17592186044416) (hwt : wt.length ≤ 17592186044416) (hs : SAt w sv S) (hS : S.length * 16 ≤ 140737488353280) (hl : RowAt .u64 w lv A) (x : Int) (hx : (srchNo N st tl wt k S ≠ 0 ∧ x = srchNo N st tl wt k S) ∨ (srchNo N st tl wt k S = 0 ∧ (A.length : Int) ≠ N ∧ x = 34)) :
    Calls Try.prog 43 #[gAgg N va vb vc, .int .i64 k, sv, lv] w fun e w' => e = .returned (.tuple #[.slice none 0 0, .slice none 0 0, .int .i64 x]) ∧ Below w.heap.size w w' := by
  obtain ⟨ao, ca, rfl⟩ := hg.s.shape
  obtain ⟨bo, cb, rfl⟩ := hg.t.shape
  obtain ⟨co, cc, rfl⟩ := hg.u.shape
  obtain ⟨so, sc, rfl, hsc, hscm⟩ := hs.shape
  obtain ⟨lo, lc, rfl⟩ := hl.shape
  obtain ⟨c0, c1, c2, c3, hb1, hs1⟩ := boxed w (.int .i64 N) (.slice ao st.length ca) (.slice bo tl.length cb) (.slice co wt.length cc)
  have HF := hide (firstS_any N _ _ _ st tl wt k _ S _ (hg.below hb1) hst htl hwt (hs.below hb1) hS)
  have HB1 := hide hb1
  unfold gAgg at HF ⊢
  obtain ⟨nl, hnl⟩ : ∃ nl, nl = A.length := ⟨_, rfl⟩
  rw [← hnl] at hx ⊢
  clear hb1 hg hs hl hnl
  rcases hx with ⟨h1, rfl⟩ | ⟨h1, h2, rfl⟩
  · obtain ⟨y, hy⟩ : ∃ y, y = srchNo N st tl wt k S := ⟨_, rfl⟩
    rw [← hy] at HF h1 ⊢
    have hyb : (y != 0) = true := by simp [h1]
    clear hy h1
    go_enter Try.func43, Try.ntmps43
    go_wp2_with fail
    generalize (w.alloc (.cells #[.int .i64 N, .slice ao st.length ca, .slice bo tl.length cb, .slice co wt.length cc] 32)) = w1 at c0 c1 c2 c3 hs1 HB1 HF ⊢
    refine HF.out.mono ?_
    rintro e w2 ⟨rfl, hb2⟩
    have HB2 := hide (below_on HB1.out hb2)
    clear c0 c1 c2 c3 hb2 HF
    go_wp2
    go_ret3
    exact ⟨rfl, HB2.out⟩
  · rw [h1] at HF
    have hyb : ((nl : Int) != N) = true := by simp [h2]
    clear h1 h2
    go_enter Try.func43, Try.ntmps43
    go_wp2_with fail
    generalize (w.alloc (.cells #[.int .i64 N, .slice ao st.length ca, .slice bo tl.length cb, .slice co wt.length cc] 32)) = w1 at c0 c1 c2 c3 hs1 HB1 HF ⊢
    refine HF.out.mono ?_
    rintro e w2 ⟨rfl, hb2⟩
    obtain ⟨x0, x1, x2, x3⟩ := box_keep hs1 hb2 ⟨c0, c1, c2, c3⟩
    have HB2 := hide (below_on HB1.out hb2)
    clear c0 c1 c2 c3 hb2 HF
    go_wp2
    go_ret3
    exact ⟨rfl, HB2.out⟩
end Go.Proofs.Ythoklgdlnmccmaa
