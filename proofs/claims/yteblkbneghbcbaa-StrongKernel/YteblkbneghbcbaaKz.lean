import Derived.Test.YteblkbneghbcbaaHx
import Derived.Test.YteblkbneghbcbaaFwL
/- StrongKernel, plainly: from part to part. -/
namespace Go.Proofs.Yteblkbneghbcbaa
open Go.RowKit Go.Lib
set_option linter.unusedVariables false
set_option linter.unusedSimpArgs false
section
variable {n : Nat} {E F : Nat → Nat → Prop}
/-- An edge from part to part. -/
def PE (n : Nat) (E : Nat → Nat → Prop) (p q : Nat) : Prop := p ≠ q ∧ ∃ u v, u < n ∧ v < n ∧ E u v ∧ numb (Bo E) u = p ∧ numb (Bo E) v = q
theorem pe_of (hE : ∀ x y, E x y → x < n ∧ y < n) {u v : Nat} (h : Rc E u v) : Rc (PE n E) (numb (Bo E) u) (numb (Bo E) v) := by
  induction h with
  | refl => exact .refl _
  | @head a b c e h ih =>
    by_cases hab : numb (Bo E) a = numb (Bo E) b
    · rw [hab]; exact ih
    · exact .head ⟨hab, a, b, (hE _ _ e).1, (hE _ _ e).2, e, rfl, rfl⟩ ih
theorem of_pe {p q : Nat} (h : Rc (PE n E) p q) : ∀ u v, numb (Bo E) u = p → numb (Bo E) v = q → Rc E u v := by
  induction h with
  | refl a => intro u v h1 h2; exact ((numb_iff (Bo.eqv E)).1 (h1.trans h2.symm)).1
  | @head a b c e h ih =>
    intro u v h1 h2
    obtain ⟨_, x, y, _, _, hxy, hx, hy⟩ := e
    have h3 := ((numb_iff (Bo.eqv E)).1 (h1.trans hx.symm)).1
    exact h3.trans (.head hxy (ih y v hy h2))
theorem pe_rc (hE : ∀ x y, E x y → x < n ∧ y < n) (u v : Nat) : Rc (PE n E) (numb (Bo E) u) (numb (Bo E) v) ↔ Rc E u v := ⟨fun h => of_pe h u v rfl rfl, pe_of hE⟩
/-- Each number has its vertex. -/
theorem numb_has {B : Nat → Nat → Prop} (hB : Eqv B) : ∀ k p, p < cntL B k → ∃ v, v < k ∧ numb B v = p := by
  intro k
  induction k with
  | zero => intro p hp; have := cntL_le (B := B) 0; omega
  | succ k ih =>
    intro p hp
    rw [cntL_succ] at hp
    by_cases h1 : p < cntL B k
    · obtain ⟨v, hv, e⟩ := ih p h1
      exact ⟨v, by omega, e⟩
    · by_cases hl : lea B k = k
      · rw [if_pos hl] at hp
        exact ⟨k, by omega, by rw [numb_new hl]; omega⟩
      · rw [if_neg hl] at hp; omega
/-- No two parts reach each other. -/
theorem pe_apart (hE : ∀ x y, E x y → x < n ∧ y < n) {p q : Nat} (hp : p < cntL (Bo E) n) (hq : q < cntL (Bo E) n) (h : Bo (PE n E) p q) : p = q := by
  obtain ⟨u, _, hu⟩ := numb_has (Bo.eqv E) n p hp
  obtain ⟨v, _, hv⟩ := numb_has (Bo.eqv E) n q hq
  rw [← hu, ← hv]
  exact numb_eq (Bo.eqv E) ⟨of_pe h.1 u v hu hv, of_pe h.2 v u hv hu⟩
/-- Where only like ones reach each other, each is its own part's number. -/
theorem numb_self {B : Nat → Nat → Prop} (hB : Eqv B) {c : Nat} (h : ∀ p q, p < c → q < c → B p q → p = q) : (∀ p, p < c → numb B p = p) ∧ cntL B c = c := by
  have hl : ∀ v, v < c → lea B v = v := fun v hv => by
    obtain ⟨h1, h2, _⟩ := lea_spec hB v
    exact h _ _ (by omega) hv h2
  have hf : ∀ k, k ≤ c → cntL B k = k := by
    intro k
    induction k with
    | zero => intro _; have := cntL_le (B := B) 0; omega
    | succ k ih => intro hk; rw [cntL_succ, ih (by omega), if_pos (hl k (by omega))]
  exact ⟨fun p hp => by rw [numb_new (hl p hp)]; exact hf p (by omega), hf c (Nat.le_refl _)⟩
theorem rc_congr (h : ∀ x y, E x y ↔ F x y) {a b : Nat} : Rc E a b ↔ Rc F a b := by
  constructor
  · intro hr
    induction hr with
    | refl => exact .refl _
    | head e _ ih => exact .head ((h _ _).1 e) ih
  · intro hr
    induction hr with
    | refl => exact .refl _
    | head e _ ih => exact .head ((h _ _).2 e) ih
end
/-- What the lightest between two is. -/
structure Lt3 (F T : Nat → Nat) (Wt : Nat → Int) (k p q : Nat) (x : Int) : Prop where
  ne : p ≠ q
  has : ∃ e, e < k ∧ F e = p ∧ T e = q ∧ Wt e = x
  le : ∀ e, e < k → F e = p → T e = q → x ≤ Wt e
theorem Lt3.one {F T : Nat → Nat} {Wt : Nat → Int} {k p q : Nat} {x y : Int} (h : Lt3 F T Wt k p q x) (g : Lt3 F T Wt k p q y) : x = y := by
  obtain ⟨e, h1, h2, h3, h4⟩ := h.has
  obtain ⟨d, g1, g2, g3, g4⟩ := g.has
  have := h.le d g1 g2 g3; have := g.le e h1 h2 h3
  omega
theorem lwt_is (F T : Nat → Nat) (Wt : Nat → Int) (p q : Nat) : ∀ k, (∀ x, lwt F T Wt k p q = some x → Lt3 F T Wt k p q x) ∧ (lwt F T Wt k p q = none → p = q ∨ ∀ e, e < k → ¬ (F e = p ∧ T e = q)) := by
  intro k
  induction k with
  | zero => exact ⟨fun x h => by simp [lwt] at h, fun _ => .inr (fun e he => by omega)⟩
  | succ k ih =>
    by_cases hc : F k = p ∧ T k = q ∧ p ≠ q
    · obtain ⟨rfl, rfl, hne⟩ := hc
      rcases hl : lwt F T Wt k (F k) (T k) with _ | y
      · rw [lwt_new hne hl]
        refine ⟨fun x hx => ?_, fun h => by cases h⟩
        cases hx
        have h0 := (ih.2 hl).resolve_left hne
        exact ⟨hne, ⟨k, by omega, rfl, rfl, rfl⟩, fun e he h1 h2 => by
          rcases Nat.lt_or_ge e k with h3 | h3
          · exact absurd ⟨h1, h2⟩ (h0 e h3)
          · rw [show e = k by omega]; exact Int.le_refl _⟩
      · have h0 := ih.1 y hl
        obtain ⟨d, d1, d2, d3, d4⟩ := h0.has
        by_cases hx : Wt k < y
        · rw [lwt_less hne hl hx]
          refine ⟨fun x hx2 => ?_, fun h => by cases h⟩
          cases hx2
          exact ⟨hne, ⟨k, by omega, rfl, rfl, rfl⟩, fun e he h1 h2 => by
            rcases Nat.lt_or_ge e k with h3 | h3
            · have := h0.le e h3 h1 h2; omega
            · rw [show e = k by omega]; exact Int.le_refl _⟩
        · rw [lwt_more hne hl hx]
          refine ⟨fun x hx2 => ?_, fun h => by cases h⟩
          cases hx2
          exact ⟨hne, ⟨d, by omega, d2, d3, d4⟩, fun e he h1 h2 => by
            rcases Nat.lt_or_ge e k with h3 | h3
            · exact h0.le e h3 h1 h2
            · rw [show e = k by omega]; omega⟩
    · rw [lwt_other hc]
      refine ⟨fun x hx => ?_, fun h => ?_⟩
      · have h0 := ih.1 x hx
        obtain ⟨d, d1, d2, d3, d4⟩ := h0.has
        exact ⟨h0.ne, ⟨d, by omega, d2, d3, d4⟩, fun e he h1 h2 => by
          rcases Nat.lt_or_ge e k with h3 | h3
          · exact h0.le e h3 h1 h2
          · have he2 : e = k := by omega
            subst he2
            exact absurd ⟨h1, h2, h0.ne⟩ hc⟩
      · rcases ih.2 h with h0 | h0
        · exact .inl h0
        · by_cases hpq : p = q
          · exact .inl hpq
          · refine .inr (fun e he hh => ?_)
            rcases Nat.lt_or_ge e k with h3 | h3
            · exact h0 e h3 hh
            · have he2 : e = k := by omega
              subst he2
              exact hc ⟨hh.1, hh.2, hpq⟩
theorem lwt_iff {F T : Nat → Nat} {Wt : Nat → Int} {k p q : Nat} {x : Int} : lwt F T Wt k p q = some x ↔ Lt3 F T Wt k p q x := by
  refine ⟨(lwt_is F T Wt p q k).1 x, fun h => ?_⟩
  rcases hl : lwt F T Wt k p q with _ | y
  · rcases (lwt_is F T Wt p q k).2 hl with e | e
    · exact absurd e h.ne
    · obtain ⟨d, d1, d2, d3, _⟩ := h.has
      exact absurd ⟨d2, d3⟩ (e d d1)
  · rw [((lwt_is F T Wt p q k).1 y hl).one h]
end Go.Proofs.Yteblkbneghbcbaa

/- StrongKernel, plainly: the condensed lists. -/
namespace Go.Proofs.Yteblkbneghbcbaa
open Go.RowKit Go.Lib
set_option linter.unusedVariables false
set_option linter.unusedSimpArgs false
section
variable {n : Nat} {st tl wt st' tl' wt' nx : List Int}
theorem edG_in (i : Nat) (hi : i < (edG n st tl wt).length) : ∃ p q x, p < cntL (BG n st tl) n ∧ q < cntL (BG n st tl) n ∧ lwG n st tl wt p q = some x ∧ eAt (edG n st tl wt) i = ((p : Int), (q : Int), x) := by
  obtain ⟨p, hp, q, hq, x, hx, hE⟩ := mem_kE.1 (List.getElem_mem hi)
  exact ⟨p, q, x, hp, hq, hx, by unfold eAt; rw [List.getElem?_eq_getElem hi, hE]; rfl⟩
/-- The edges of the condensed lists go just from part to part. -/
theorem cd_edge (hg : Good n st tl wt) (hw : ∀ e, 0 ≤ at_ wt e) (hs : Summed (cntL (BG n st tl) n) (edG n st tl wt).length (eFrom (edG n st tl wt)) (cntL (BG n st tl) n) st') (hl : Laying (cntL (BG n st tl) n) (edG n st tl wt).length (eFrom (edG n st tl wt)) (eTo (edG n st tl wt)) (eWt (edG n st tl wt)) (edG n st tl wt).length nx tl' wt') :
    Good (cntL (BG n st tl) n) st' tl' wt' ∧ ∀ p q, EE (cntL (BG n st tl) n) (sN st') (tN tl') p q ↔ PE n (EE n (sN st) (tN tl)) p q := by
  have htk := edG_takes hg hw
  obtain ⟨c, hc⟩ : ∃ c, c = cntL (BG n st tl) n := ⟨_, rfl⟩
  have hcn : c ≤ 1048576 := by rw [hc]; exact Nat.le_trans (cntL_le _) hg.n_le
  have hmm : (edG n st tl wt).length ≤ 4194304 := Nat.le_trans (show (edG n st tl wt).length ≤ tl.length from kE_few) hg.m_le
  rw [← hc] at hs hl ⊢
  have hin : ∀ i, i < (edG n st tl wt).length → ∃ p q x, p < c ∧ q < c ∧ lwG n st tl wt p q = some x ∧ eFrom (edG n st tl wt) i = p ∧ eTo (edG n st tl wt) i = q := fun i hi => by
    obtain ⟨p, q, x, h1, h2, h3, h4⟩ := edG_in (n := n) (st := st) (tl := tl) (wt := wt) i hi
    rw [← hc] at h1 h2
    exact ⟨p, q, x, h1, h2, h3, by unfold eFrom; rw [h4]; exact Int.toNat_natCast _, by unfold eTo; rw [h4]; exact Int.toNat_natCast _⟩
  have hF : ∀ i, i < (edG n st tl wt).length → eFrom (edG n st tl wt) i < c := fun i hi => by
    obtain ⟨p, q, x, h1, _, _, h4, _⟩ := hin i hi
    rw [h4]; exact h1
  have hgd := hl.good hs hF hcn hmm
  have hE := fun i (hi : i < (edG n st tl wt).length) => hl.edge hs hF hcn hmm hi
  refine ⟨hgd, fun p q => ?_⟩
  rw [ee_iff hgd]
  constructor
  · rintro ⟨e', he', h1, h2⟩
    rw [hl.tlen] at he'
    obtain ⟨i, hi, hp⟩ := inj_surj (edG n st tl wt).length (place (eFrom (edG n st tl wt)) (edG n st tl wt).length) (fun i hi => place_lt hi) (fun i j hi hj hij => by
      rcases Nat.lt_trichotomy i j with h1 | h1 | h1
      · exact absurd hij (place_inj hj h1)
      · exact h1
      · exact absurd hij.symm (place_inj hi h1)) e' he'
    obtain ⟨q1, q2, q3, q4⟩ := hE i hi
    rw [hp] at q1 q2 q3
    obtain ⟨a, b, x, a1, a2, a3, a4, a5⟩ := hin i hi
    have h3 : a = p := by rw [← a4, ← q2]; exact h1
    have h4 : b = q := by rw [← a5, ← h2]; unfold tN; rw [q3]; exact (Int.toNat_natCast _).symm
    subst h3
    subst h4
    have h5 := lwt_iff.1 (show lwt _ _ _ _ a b = some x from a3)
    obtain ⟨e, e1, e2, e3, _⟩ := h5.has
    have hv := hg.vtx e e1
    exact ⟨h5.ne, src st n e, tN tl e, src_lt hg e1, by unfold tN; omega, (ee_iff hg).2 ⟨e, e1, rfl, rfl⟩, e2, e3⟩
  · rintro ⟨hne, u, v, hu, hv, huv, h1, h2⟩
    obtain ⟨e, he, h3, h4⟩ := (ee_iff hg).1 huv
    have hsome : ∃ x, lwG n st tl wt p q = some x := by
      rcases hl : lwG n st tl wt p q with _ | x
      · rcases (lwt_is _ _ _ p q tl.length).2 hl with h5 | h5
        · exact absurd h5 hne
        · exact absurd ⟨by show numb (BG n st tl) (src st n e) = p; rw [h3]; exact h1, by show numb (BG n st tl) (tN tl e) = q; rw [h4]; exact h2⟩ (h5 e he)
      · exact ⟨x, rfl⟩
    obtain ⟨x, hx⟩ := hsome
    have hpc : p < c := by rw [hc, ← h1]; exact numb_lt (Bo.eqv _) hu
    have hqc : q < c := by rw [hc, ← h2]; exact numb_lt (Bo.eqv _) hv
    have hmem : ((p : Int), (q : Int), x) ∈ edG n st tl wt := mem_kE.2 ⟨p, by rw [← hc]; exact hpc, q, by rw [← hc]; exact hqc, x, hx, rfl⟩
    obtain ⟨i, hi, hei⟩ := List.mem_iff_getElem.1 hmem
    have hea : eAt (edG n st tl wt) i = ((p : Int), (q : Int), x) := by unfold eAt; rw [List.getElem?_eq_getElem hi, hei]; rfl
    obtain ⟨q1, q2, q3, q4⟩ := hE i hi
    refine ⟨_, q1, ?_, ?_⟩
    · rw [q2]; unfold eFrom; rw [hea]; exact Int.toNat_natCast _
    · unfold tN; rw [q3]; unfold eTo; rw [hea]; simp
end
end Go.Proofs.Yteblkbneghbcbaa

/- StrongKernel, plainly: condensed again. -/
namespace Go.Proofs.Yteblkbneghbcbaa
open Go.RowKit Go.Lib
set_option linter.unusedVariables false
set_option linter.unusedSimpArgs false
section
variable {n : Nat} {st tl wt st' tl' wt' nx : List Int}
theorem rowE'_congr {f g : Nat → Nat → Option Int} {p : Nat} : ∀ q, (∀ b, b < q → f p b = g p b) → rowE' f p q = rowE' g p q
  | 0, _ => rfl
  | q + 1, h => by
    show rowE' f p q ++ oneE f p q = rowE' g p q ++ oneE g p q
    rw [rowE'_congr q (fun b hb => h b (by omega))]
    unfold oneE
    rw [h q (by omega)]
theorem kE_congr {f g : Nat → Nat → Option Int} {c : Nat} : ∀ k, (∀ a, a < k → ∀ b, b < c → f a b = g a b) → kE f c k = kE g c k
  | 0, _ => rfl
  | k + 1, h => by
    show kE f c k ++ rowE' f k c = kE g c k ++ rowE' g k c
    rw [kE_congr k (fun a ha => h a (by omega)), rowE'_congr c (h k (by omega))]
theorem rc_in {E : Nat → Nat → Prop} {c : Nat} (hE : ∀ x y, E x y → x < c ∧ y < c) {a b : Nat} (h : Rc E a b) : a = b ∨ (a < c ∧ b < c) := by
  induction h with
  | refl => exact .inl rfl
  | head e _ ih =>
    have := hE _ _ e
    rcases ih with rfl | ih
    · exact .inr this
    · exact .inr ⟨this.1, ih.2⟩
/-- The condensed graph's parts are its vertices. -/
theorem cd_self (hg : Good n st tl wt) (hw : ∀ e, 0 ≤ at_ wt e) (hs : Summed (cntL (BG n st tl) n) (edG n st tl wt).length (eFrom (edG n st tl wt)) (cntL (BG n st tl) n) st') (hl : Laying (cntL (BG n st tl) n) (edG n st tl wt).length (eFrom (edG n st tl wt)) (eTo (edG n st tl wt)) (eWt (edG n st tl wt)) (edG n st tl wt).length nx tl' wt') :
    (∀ p, p < cntL (BG n st tl) n → numb (BG (cntL (BG n st tl) n) st' tl') p = p) ∧ cntL (BG (cntL (BG n st tl) n) st' tl') (cntL (BG n st tl) n) = cntL (BG n st tl) n := by
  obtain ⟨hgd, hpe⟩ := cd_edge hg hw hs hl
  refine numb_self (Bo.eqv _) (fun p q hp hq hb => ?_)
  exact pe_apart (fun x y h => ee_lt hg h) hp hq ⟨(rc_congr hpe).1 hb.1, (rc_congr hpe).1 hb.2⟩
theorem cd_again (hg : Good n st tl wt) (hw : ∀ e, 0 ≤ at_ wt e) (hs : Summed (cntL (BG n st tl) n) (edG n st tl wt).length (eFrom (edG n st tl wt)) (cntL (BG n st tl) n) st') (hl : Laying (cntL (BG n st tl) n) (edG n st tl wt).length (eFrom (edG n st tl wt)) (eTo (edG n st tl wt)) (eWt (edG n st tl wt)) (edG n st tl wt).length nx tl' wt') :
    edG (cntL (BG n st tl) n) st' tl' wt' = edG n st tl wt := by
  obtain ⟨hgd, _⟩ := cd_edge hg hw hs hl
  obtain ⟨hn1, hn2⟩ := cd_self hg hw hs hl
  obtain ⟨c, hc⟩ : ∃ c, c = cntL (BG n st tl) n := ⟨_, rfl⟩
  have hcn : c ≤ 1048576 := by rw [hc]; exact Nat.le_trans (cntL_le _) hg.n_le
  have hmm : (edG n st tl wt).length ≤ 4194304 := Nat.le_trans (show (edG n st tl wt).length ≤ tl.length from kE_few) hg.m_le
  have hin := fun i hi => edG_in (n := n) (st := st) (tl := tl) (wt := wt) i hi
  rw [← hc] at hs hl hgd hn1 hn2 hin ⊢
  have hF : ∀ i, i < (edG n st tl wt).length → eFrom (edG n st tl wt) i < c := fun i hi => by
    obtain ⟨p, q, x, h1, _, _, h4⟩ := hin i hi
    unfold eFrom; rw [h4]; simpa using h1
  have hE := fun i (hi : i < (edG n st tl wt).length) => hl.edge hs hF hcn hmm hi
  have hfu : ∀ p, p < c → ∀ q, q < c → lwG c st' tl' wt' p q = lwG n st tl wt p q := by
    intro p hp q hq
    have e1 : lwG c st' tl' wt' = lwt (src st' c) (tN tl') (fun e => at_ wt' e) tl'.length := by
      refine lwt_congr _ (fun e he => ⟨hn1 _ (src_lt hgd he), hn1 _ ?_, rfl⟩)
      have := hgd.vtx e he
      unfold tN; omega
    -- what the edges of the condensed lists are
    have key : ∀ e', e' < tl'.length → src st' c e' = p → tN tl' e' = q → lwG n st tl wt p q = some (at_ wt' e') := by
      intro e' he' h1 h2
      rw [hl.tlen] at he'
      obtain ⟨i, hi, hpl⟩ := inj_surj (edG n st tl wt).length (place (eFrom (edG n st tl wt)) (edG n st tl wt).length) (fun i hi => place_lt hi) (fun i j hi hj hij => by
        rcases Nat.lt_trichotomy i j with h1 | h1 | h1
        · exact absurd hij (place_inj hj h1)
        · exact h1
        · exact absurd hij.symm (place_inj hi h1)) e' he'
      obtain ⟨q1, q2, q3, q4⟩ := hE i hi
      rw [hpl] at q2 q3 q4
      obtain ⟨a, b, x, a1, a2, a3, a4⟩ := hin i hi
      have h3 : a = p := by rw [← h1, q2]; unfold eFrom; rw [a4]; exact (Int.toNat_natCast _).symm
      have h4 : b = q := by rw [← h2]; unfold tN; rw [q3]; unfold eTo; rw [a4]; simp
      rw [← h3, ← h4, a3, q4]
      unfold eWt
      rw [a4]
    rw [e1]
    rcases hx : lwt (src st' c) (tN tl') (fun e => at_ wt' e) tl'.length p q with _ | x
    · rcases hy : lwG n st tl wt p q with _ | y
      · rfl
      · exfalso
        have hne := (lwt_iff.1 (show lwt _ _ _ _ p q = some y from hy)).ne
        have hmem : ((p : Int), (q : Int), y) ∈ edG n st tl wt := mem_kE.2 ⟨p, by rw [← hc]; exact hp, q, by rw [← hc]; exact hq, y, hy, rfl⟩
        obtain ⟨i, hi, hei⟩ := List.mem_iff_getElem.1 hmem
        have hea : eAt (edG n st tl wt) i = ((p : Int), (q : Int), y) := by unfold eAt; rw [List.getElem?_eq_getElem hi, hei]; rfl
        obtain ⟨q1, q2, q3, q4⟩ := hE i hi
        refine ((lwt_is _ _ _ p q _).2 hx).resolve_left hne _ q1 ⟨?_, ?_⟩
        · rw [q2]; unfold eFrom; rw [hea]; exact Int.toNat_natCast _
        · unfold tN; rw [q3]; unfold eTo; rw [hea]; simp
    · obtain ⟨e, e2, e3, e4, e5⟩ := (lwt_iff.1 hx).has
      rw [key e e2 e3 e4, ← e5]
  unfold edG
  rw [hn2, ← hc]
  exact kE_congr c (fun a ha b hb => hfu a ha b hb)
end
end Go.Proofs.Yteblkbneghbcbaa

/- StrongKernel, plainly: the condensed graph has no circle, and its second condensing is itself. -/
namespace Go.Proofs.Yteblkbneghbcbaa
open Go.RowKit Go.Lib
set_option linter.unusedVariables false
set_option linter.unusedSimpArgs false
section
variable {n : Nat} {st tl wt st' tl' wt' nx : List Int}
theorem cd_none (hg : Good n st tl wt) (hw : ∀ e, 0 ≤ at_ wt e) (hs : Summed (cntL (BG n st tl) n) (edG n st tl wt).length (eFrom (edG n st tl wt)) (cntL (BG n st tl) n) st') (hl : Laying (cntL (BG n st tl) n) (edG n st tl wt).length (eFrom (edG n st tl wt)) (eTo (edG n st tl wt)) (eWt (edG n st tl wt)) (edG n st tl wt).length nx tl' wt') (x : List Int) :
    ¬ Ci (cntL (BG n st tl) n) st' tl' x := by
  intro hc
  obtain ⟨hgd, hpe⟩ := cd_edge hg hw hs hl
  obtain ⟨_, h2⟩ := cd_self hg hw hs hl
  rcases ci_two hgd hc with h | ⟨e, he, h⟩
  · rw [h2] at h; omega
  · exact ((hpe _ _).1 ((ee_iff hgd).2 ⟨e, he, rfl, rfl⟩)).1 h
theorem cd_circle (hg : Good n st tl wt) (hw : ∀ e, 0 ≤ at_ wt e) (hs : Summed (cntL (BG n st tl) n) (edG n st tl wt).length (eFrom (edG n st tl wt)) (cntL (BG n st tl) n) st') (hl : Laying (cntL (BG n st tl) n) (edG n st tl wt).length (eFrom (edG n st tl wt)) (eTo (edG n st tl wt)) (eWt (edG n st tl wt)) (edG n st tl wt).length nx tl' wt') {x : List Int} {b : Bool} {E : Int} (h : CA (cntL (BG n st tl) n : Nat) st' tl' wt' x b E) : b = false ∧ E = 0 := by
  obtain ⟨hgd, _⟩ := cd_edge hg hw hs hl
  obtain ⟨h1, h2⟩ := fwC_of hgd h
  rcases h2 with ⟨hb, _⟩ | ⟨_, _, _, _, _, hc⟩
  · exact ⟨hb, h1⟩
  · exact absurd hc (cd_none hg hw hs hl x)
theorem cd_reach (hg : Good n st tl wt) (hw : ∀ e, 0 ≤ at_ wt e) (hs : Summed (cntL (BG n st tl) n) (edG n st tl wt).length (eFrom (edG n st tl wt)) (cntL (BG n st tl) n) st') (hl : Laying (cntL (BG n st tl) n) (edG n st tl wt).length (eFrom (edG n st tl wt)) (eTo (edG n st tl wt)) (eWt (edG n st tl wt)) (edG n st tl wt).length nx tl' wt') (v u : Nat) :
    Rc (EE (cntL (BG n st tl) n) (sN st') (tN tl')) (numb (BG n st tl) v) (numb (BG n st tl) u) ↔ Rc (EE n (sN st) (tN tl)) v u := by
  obtain ⟨_, hpe⟩ := cd_edge hg hw hs hl
  exact (rc_congr hpe).trans (pe_rc (fun x y h => ee_lt hg h) v u)
end
end Go.Proofs.Yteblkbneghbcbaa

/- StrongKernel, plainly: condensed twice; what the law asks of the lightest edges. -/
namespace Go.Proofs.Yteblkbneghbcbaa
open Go.RowKit Go.Lib
set_option linter.unusedVariables false
set_option linter.unusedSimpArgs false
section
variable {n : Nat} {st tl wt st' tl' wt' nx : List Int}
theorem cd_twice (hg : Good n st tl wt) (hw : ∀ e, 0 ≤ at_ wt e) (hs : Summed (cntL (BG n st tl) n) (edG n st tl wt).length (eFrom (edG n st tl wt)) (cntL (BG n st tl) n) st') (hl : Laying (cntL (BG n st tl) n) (edG n st tl wt).length (eFrom (edG n st tl wt)) (eTo (edG n st tl wt)) (eWt (edG n st tl wt)) (edG n st tl wt).length nx tl' wt') {c : Nat} (hc : c = cntL (BG n st tl) n) {st2 tl2 wt2 nx2 : List Int}
    (hs2 : Summed (cntL (BG c st' tl') c) (edG c st' tl' wt').length (eFrom (edG c st' tl' wt')) (cntL (BG c st' tl') c) st2) (hl2 : Laying (cntL (BG c st' tl') c) (edG c st' tl' wt').length (eFrom (edG c st' tl' wt')) (eTo (edG c st' tl' wt')) (eWt (edG c st' tl' wt')) (edG c st' tl' wt').length nx2 tl2 wt2) :
    cntL (BG c st' tl') c = c ∧ st2 = st' ∧ tl2 = tl' ∧ wt2 = wt' := by
  subst hc
  have h1 := (cd_self hg hw hs hl).2
  have h2 := cd_again hg hw hs hl
  rw [h1, h2] at hs2 hl2
  obtain ⟨e1, e2⟩ := laying_one hl2 hl
  exact ⟨h1, summed_one hs2 hs, e1, e2⟩
/-- What the edges of the condensed lists are, one by one. -/
theorem cd_at (hg : Good n st tl wt) (hw : ∀ e, 0 ≤ at_ wt e) (hs : Summed (cntL (BG n st tl) n) (edG n st tl wt).length (eFrom (edG n st tl wt)) (cntL (BG n st tl) n) st') (hl : Laying (cntL (BG n st tl) n) (edG n st tl wt).length (eFrom (edG n st tl wt)) (eTo (edG n st tl wt)) (eWt (edG n st tl wt)) (edG n st tl wt).length nx tl' wt') {e : Nat} (he : e < tl'.length) :
    ∃ i p q x, i < (edG n st tl wt).length ∧ place (eFrom (edG n st tl wt)) (edG n st tl wt).length i = e ∧ Lt3 (fun e => numb (BG n st tl) (src st n e)) (fun e => numb (BG n st tl) (tN tl e)) (fun e => at_ wt e) tl.length p q x ∧ eAt (edG n st tl wt) i = ((p : Int), (q : Int), x) ∧ src st' (cntL (BG n st tl) n) e = p ∧ tN tl' e = q ∧ at_ wt' e = x := by
  obtain ⟨c, hc⟩ : ∃ c, c = cntL (BG n st tl) n := ⟨_, rfl⟩
  have hcn : c ≤ 1048576 := by rw [hc]; exact Nat.le_trans (cntL_le _) hg.n_le
  have hmm : (edG n st tl wt).length ≤ 4194304 := Nat.le_trans (show (edG n st tl wt).length ≤ tl.length from kE_few) hg.m_le
  have hin := fun i hi => edG_in (n := n) (st := st) (tl := tl) (wt := wt) i hi
  rw [← hc] at hs hl hin ⊢
  have hF : ∀ i, i < (edG n st tl wt).length → eFrom (edG n st tl wt) i < c := fun i hi => by
    obtain ⟨p, q, x, h1, _, _, h4⟩ := hin i hi
    unfold eFrom; rw [h4]; simpa using h1
  rw [hl.tlen] at he
  obtain ⟨i, hi, hpl⟩ := inj_surj (edG n st tl wt).length (place (eFrom (edG n st tl wt)) (edG n st tl wt).length) (fun i hi => place_lt hi) (fun i j hi hj hij => by
    rcases Nat.lt_trichotomy i j with h1 | h1 | h1
    · exact absurd hij (place_inj hj h1)
    · exact h1
    · exact absurd hij.symm (place_inj hi h1)) e he
  obtain ⟨q1, q2, q3, q4⟩ := hl.edge hs hF hcn hmm hi
  rw [hpl] at q2 q3 q4
  obtain ⟨p, q, x, a1, a2, a3, a4⟩ := hin i hi
  refine ⟨i, p, q, x, hi, hpl, lwt_iff.1 a3, a4, ?_, ?_, ?_⟩
  · rw [q2]; unfold eFrom; rw [a4]; exact Int.toNat_natCast _
  · unfold tN; rw [q3]; unfold eTo; rw [a4]; simp
  · rw [q4]; unfold eWt; rw [a4]
/-- What the law asks of two lists of edges. -/
structure LtF (m m' : Nat) (F T F' T' nb : Nat → Nat) (W W' : Nat → Int) : Prop where
  ne : ∀ i, i < m' → F' i ≠ T' i
  up : ∀ i, i + 1 < m' → F' (i + 1) = F' i → T' i < T' (i + 1)
  le : ∀ i, i < m' → ∀ j, j < m → nb (F j) = F' i → nb (T j) = T' i → W' i ≤ W j
  has : ∀ i, i < m' → ∃ j, j < m ∧ nb (F j) = F' i ∧ nb (T j) = T' i ∧ W j = W' i
  all : ∀ j, j < m → nb (F j) ≠ nb (T j) → ∃ i, i < m' ∧ F' i = nb (F j) ∧ T' i = nb (T j)
theorem cd_light (hg : Good n st tl wt) (hw : ∀ e, 0 ≤ at_ wt e) (hs : Summed (cntL (BG n st tl) n) (edG n st tl wt).length (eFrom (edG n st tl wt)) (cntL (BG n st tl) n) st') (hl : Laying (cntL (BG n st tl) n) (edG n st tl wt).length (eFrom (edG n st tl wt)) (eTo (edG n st tl wt)) (eWt (edG n st tl wt)) (edG n st tl wt).length nx tl' wt') :
    LtF tl.length tl'.length (src st n) (tN tl) (src st' (cntL (BG n st tl) n)) (tN tl') (numb (BG n st tl)) (at_ wt) (at_ wt') := by
  refine ⟨fun i hi => ?_, fun i hi hsr => ?_, fun i hi j hj h1 h2 => ?_, fun i hi => ?_, fun j hj hne => ?_⟩
  · obtain ⟨k, p, q, x, _, _, h3, _, h5, h6, h7⟩ := cd_at hg hw hs hl hi
    rw [h5, h6]
    exact h3.ne
  · obtain ⟨k, p, q, x, k1, k2, k3, k4, k5, k6, k7⟩ := cd_at hg hw hs hl (show i < tl'.length by omega)
    obtain ⟨k', p', q', x', l1, l2, l3, l4, l5, l6, l7⟩ := cd_at hg hw hs hl hi
    have hpp : p' = p := by rw [← l5, ← k5]; exact hsr
    subst hpp
    have f1 : eFrom (edG n st tl wt) k = p' := by unfold eFrom; rw [k4]; exact Int.toNat_natCast _
    have f2 : eFrom (edG n st tl wt) k' = p' := by unfold eFrom; rw [l4]; exact Int.toNat_natCast _
    have hkk : k < k' := by
      unfold place at k2 l2
      rw [f1] at k2
      rw [f2] at l2
      rcases Nat.lt_or_ge k k' with h | h
      · exact h
      · have : outs (eFrom (edG n st tl wt)) p' k' ≤ outs (eFrom (edG n st tl wt)) p' k := cnt_grow h
        omega
    have k1' : k < (kE (lwG n st tl wt) (cntL (BG n st tl) n) (cntL (BG n st tl) n)).length := k1
    have l1' : k' < (kE (lwG n st tl wt) (cntL (BG n st tl) n) (cntL (BG n st tl) n)).length := l1
    have g1 : (kE (lwG n st tl wt) (cntL (BG n st tl) n) (cntL (BG n st tl) n))[k] = ((p' : Int), (q : Int), x) := by
      have := k4; unfold eAt edG at this; rw [List.getElem?_eq_getElem k1'] at this; exact this
    have g2 : (kE (lwG n st tl wt) (cntL (BG n st tl) n) (cntL (BG n st tl) n))[k'] = ((p' : Int), (q' : Int), x') := by
      have := l4; unfold eAt edG at this; rw [List.getElem?_eq_getElem l1'] at this; exact this
    have hp := List.pairwise_iff_getElem.1 (kE_pair (f := lwG n st tl wt) (c := cntL (BG n st tl) n) (k := cntL (BG n st tl) n)) k k' (by rw [List.length_map]; exact k1') (by rw [List.length_map]; exact l1') hkk
    simp only [List.getElem_map] at hp
    rw [g1, g2] at hp
    unfold keyE plt at hp
    simp at hp
    rw [k6, l6]
    omega
  · obtain ⟨k, p, q, x, _, _, h3, _, h5, h6, h7⟩ := cd_at hg hw hs hl hi
    rw [h7]
    exact h3.le j hj (h1.trans h5) (by show numb _ _ = _; rw [h6] at h2; exact h2)
  · obtain ⟨k, p, q, x, _, _, h3, _, h5, h6, h7⟩ := cd_at hg hw hs hl hi
    obtain ⟨j, j1, j2, j3, j4⟩ := h3.has
    exact ⟨j, j1, j2.trans h5.symm, j3.trans h6.symm, j4.trans h7.symm⟩
  · obtain ⟨hgd, hpe⟩ := cd_edge hg hw hs hl
    have hv := hg.vtx j hj
    obtain ⟨e, e1, e2, e3⟩ := (ee_iff hgd).1 ((hpe (numb (BG n st tl) (src st n j)) (numb (BG n st tl) (tN tl j))).2 ⟨hne, src st n j, tN tl j, src_lt hg hj, by unfold tN; omega, (ee_iff hg).2 ⟨j, hj, rfl, rfl⟩, rfl, rfl⟩)
    exact ⟨e, e1, e2, e3⟩
/-- The condensed lists. -/
def Cnd (n : Nat) (st tl wt : List Int) (c : Nat) (st' tl' wt' : List Int) : Prop :=
  Good n st tl wt ∧ (∀ e, 0 ≤ at_ wt e) ∧ c = cntL (BG n st tl) n ∧ Summed (cntL (BG n st tl) n) (edG n st tl wt).length (eFrom (edG n st tl wt)) (cntL (BG n st tl) n) st' ∧ ∃ nx, Laying (cntL (BG n st tl) n) (edG n st tl wt).length (eFrom (edG n st tl wt)) (eTo (edG n st tl wt)) (eWt (edG n st tl wt)) (edG n st tl wt).length nx tl' wt'
variable {c : Nat}
theorem Cnd.good (h : Cnd n st tl wt c st' tl' wt') : Good c st' tl' wt' ∧ (∀ e, 0 ≤ at_ wt' e) ∧ c ≤ n := by
  obtain ⟨hg, hw, rfl, hs, nx, hl⟩ := h
  refine ⟨(cd_edge hg hw hs hl).1, fun e => ?_, cntL_le _⟩
  rcases Nat.lt_or_ge e (edG n st tl wt).length with he | he
  · exact (hl.win e he).1
  · unfold at_; rw [List.getElem?_eq_none (by rw [hl.wlen]; exact he)]; simp
theorem Cnd.circle (h : Cnd n st tl wt c st' tl' wt') {x : List Int} {b : Bool} {E : Int} (hc : CA (c : Nat) st' tl' wt' x b E) : b = false ∧ E = 0 := by
  obtain ⟨hg, hw, rfl, hs, nx, hl⟩ := h
  exact cd_circle hg hw hs hl hc
theorem Cnd.reach (h : Cnd n st tl wt c st' tl' wt') (v u : Nat) : Rc (EE c (sN st') (tN tl')) (numb (BG n st tl) v) (numb (BG n st tl) u) ↔ Rc (EE n (sN st) (tN tl)) v u := by
  obtain ⟨hg, hw, rfl, hs, nx, hl⟩ := h
  exact cd_reach hg hw hs hl v u
theorem Cnd.light (h : Cnd n st tl wt c st' tl' wt') : LtF tl.length tl'.length (src st n) (tN tl) (src st' c) (tN tl') (numb (BG n st tl)) (at_ wt) (at_ wt') := by
  obtain ⟨hg, hw, rfl, hs, nx, hl⟩ := h
  exact cd_light hg hw hs hl
theorem Cnd.lt (h : Cnd n st tl wt c st' tl' wt') (v : Nat) (hv : v < n) : numb (BG n st tl) v < c := by
  obtain ⟨hg, hw, rfl, hs, nx, hl⟩ := h
  exact numb_lt (Bo.eqv _) hv
theorem Cnd.twice (h : Cnd n st tl wt c st' tl' wt') {d : Nat} {st2 tl2 wt2 : List Int} (k : Cnd c st' tl' wt' d st2 tl2 wt2) : d = c ∧ st2 = st' ∧ tl2 = tl' ∧ wt2 = wt' := by
  obtain ⟨hg, hw, hc, hs, nx, hl⟩ := h
  obtain ⟨_, _, rfl, hs2, nx2, hl2⟩ := k
  exact cd_twice hg hw hs hl hc hs2 hl2
theorem condense_good (n : Nat) (va vb vc : Value) (st tl wt : List Int) (w : World) (hg : GIs w n va vb vc st tl wt) (hgd : Good n st tl wt) (hw : ∀ e, 0 ≤ at_ wt e) :
    Calls Try.prog 17 #[gAgg n va vb vc] w fun e w' => Below w.heap.size w w' ∧ ∃ c va vb vc st' tl' wt' pv, e = .returned (.tuple #[gAgg (c : Nat) va vb vc, pv, .int .i64 0]) ∧ GIs w' (c : Nat) va vb vc st' tl' wt' ∧ Cnd n st tl wt c st' tl' wt' ∧ RowAt .i64 w' pv (tab n (fun v => (numb (BG n st tl) v : Int))) := by
  have h1 := hgd.m_le; have h2 := hgd.n_le; have h3 := hgd.s_len; have h4 := hgd.w_len
  refine (condense_any n va vb vc st tl wt w hg (by omega) (by omega) (by omega) hw).mono ?_
  rintro e w' ⟨hb, ⟨n', hn, _, va', vb', vc', st', tl', wt', nx, pv, rfl, q1, q2, q3, q4⟩ | ⟨hz, _⟩⟩
  · have : n = n' := by omega
    subst this
    exact ⟨hb, _, va', vb', vc', st', tl', wt', pv, rfl, q1, ⟨hgd, hw, rfl, q2, nx, q3⟩, q4⟩
  · exact absurd (good_chk' hgd) hz
theorem condense_twice (n c : Nat) (va vb vc : Value) (st tl wt st' tl' wt' : List Int) (w : World) (hg : GIs w c va vb vc st' tl' wt') (hc : Cnd n st tl wt c st' tl' wt') :
    Calls Try.prog 17 #[gAgg c va vb vc] w fun e w' => Below w.heap.size w w' ∧ ∃ va vb vc pv, e = .returned (.tuple #[gAgg (c : Nat) va vb vc, pv, .int .i64 0]) ∧ GIs w' (c : Nat) va vb vc st' tl' wt' ∧ ∃ l, RowAt .i64 w' pv l ∧ l.length = c := by
  refine (condense_good c va vb vc st' tl' wt' w hg hc.good.1 hc.good.2.1).mono ?_
  rintro e w' ⟨hb, c', va', vb', vc', st2, tl2, wt2, pv, rfl, q1, q2, q3⟩
  obtain ⟨rfl, rfl, rfl, rfl⟩ := hc.twice q2
  exact ⟨hb, va', vb', vc', pv, rfl, q1, _, q3, tab_length _ _⟩
end
end Go.Proofs.Yteblkbneghbcbaa

/- StrongKernel: the law's own lightest. -/
namespace Go.Proofs.Yteblkbneghbcbaa
open Go.RowKit Go.Lib
set_option linter.unusedVariables false
set_option linter.unusedSimpArgs false
/-- Is one of the first k edges the lightest? -/
def thB (F T nb : Nat → Nat) (W : Nat → Int) (p q : Nat) (x : Int) (k : Nat) : Bool := (List.range k).any fun j => decide (nb (F j) = p ∧ nb (T j) = q ∧ W j = x)
theorem thB_succ (F T nb : Nat → Nat) (W : Nat → Int) (p q : Nat) (x : Int) (k : Nat) : thB F T nb W p q x (k + 1) = (thB F T nb W p q x k || decide (nb (F k) = p ∧ nb (T k) = q ∧ W k = x)) := by
  unfold thB
  rw [List.range_succ, List.any_append]
  simp
theorem thB_all {F T nb : Nat → Nat} {W : Nat → Int} {p q : Nat} {x : Int} {k : Nat} (h : ∃ j, j < k ∧ nb (F j) = p ∧ nb (T j) = q ∧ W j = x) : thB F T nb W p q x k = true := by
  obtain ⟨j, h1, h2⟩ := h
  unfold thB
  exact List.any_eq_true.2 ⟨j, List.mem_range.2 h1, decide_eq_true h2⟩
/-- Is it within a part, or one of the first k edges of the other list? -/
def inB (F' T' : Nat → Nat) (p q : Nat) (k : Nat) : Bool := decide (p = q) || (List.range k).any fun i => decide (F' i = p ∧ T' i = q)
theorem inB_succ (F' T' : Nat → Nat) (p q : Nat) (k : Nat) : inB F' T' p q (k + 1) = (inB F' T' p q k || decide (F' k = p ∧ T' k = q)) := by
  unfold inB
  rw [List.range_succ, List.any_append]
  simp [Bool.or_assoc]
theorem inB_all {F' T' : Nat → Nat} {p q k : Nat} (h : p ≠ q → ∃ i, i < k ∧ F' i = p ∧ T' i = q) : inB F' T' p q k = true := by
  unfold inB
  by_cases hpq : p = q
  · simp [hpq]
  · obtain ⟨i, h1, h2⟩ := h hpq
    rw [Bool.or_eq_true]
    exact .inr (List.any_eq_true.2 ⟨i, List.mem_range.2 h1, decide_eq_true h2⟩)
theorem box_keepT {W x : World} {A : Nat} {t : TypeId} {p : Array Value} (hA : W.heap[A]? = some (.cells p t (0, 0))) (h : Below W.heap.size W x) {j : Nat} {u : Value} (hu : p[j]? = some u) : x.cell? ⟨A, j, none⟩ = some u := cell_of ((h.block A (lt_of_heap hA)).trans hA) hu
/-- A list of edges in memory, by places. -/
def EdL (X : World) (R m : Nat) (F T : Nat → Nat) (W : Nat → Int) : Prop :=
  ∀ e, e < m → X.cell? ⟨R, e * 3, none⟩ = some (.int .i64 (F e : Int)) ∧ X.cell? ⟨R, e * 3 + 1, none⟩ = some (.int .i64 (T e : Int)) ∧ X.cell? ⟨R, e * 3 + 2, none⟩ = some (.int .u64 (W e))
theorem EdL.of {X : World} {R n : Nat} {st tl wt : List Int} (hg : Good n st tl wt) (h : EAt X (.slice (some ⟨R, 0, none⟩) tl.length tl.length) (upto (edgeAt n st tl wt) tl.length)) : EdL X R tl.length (src st n) (tN tl) (at_ wt) := by
  intro e he
  have h0 : EAt X (.slice (some ⟨R, 0, none⟩) (upto (edgeAt n st tl wt) tl.length).length tl.length) (upto (edgeAt n st tl wt) tl.length) := by rw [upto_len]; exact h
  obtain ⟨g, o, he2, hgl, e0, e1, e2⟩ := h0.cellAt (i := e) (by rw [upto_len]; exact he)
  simp only [Option.some.injEq, Addr.mk.injEq, and_true] at he2
  obtain ⟨rfl, rfl⟩ := he2
  rw [eAt_upto _ _ _ he] at e0 e1 e2
  rw [Nat.zero_add] at e0 e1 e2
  have ht : at_ tl e = (tN tl e : Int) := by have := hg.vtx e he; unfold tN; omega
  exact ⟨e0, by rw [← ht]; exact e1, e2⟩
set_option maxRecDepth 100000 in
set_option maxHeartbeats 16000000 in
theorem lightest_law (n c : Nat) (va vb vc va' vb' vc' lv : Value) (st tl wt st' tl' wt' : List Int) (nb : Nat → Nat) (w : World) (hg : GIs w n va vb vc st tl wt) (hgd : Good n st tl wt) (hg' : GIs w c va' vb' vc' st' tl' wt') (hgd' : Good c st' tl' wt') (hl : RowAt .i64 w lv (tab n (fun v => (nb v : Int)))) (hw : ∀ e, 0 ≤ at_ wt e) (hw' : ∀ e, 0 ≤ at_ wt' e)
    (hH : LtF tl.length tl'.length (src st n) (tN tl) (src st' c) (tN tl') nb (at_ wt) (at_ wt')) :
    Calls Try.prog 30 #[gAgg n va vb vc, gAgg c va' vb' vc', lv] w fun e w' => e = .returned (.bool true) ∧ Below w.heap.size w w' := by
  obtain ⟨W, hW⟩ : ∃ W, W = (w.alloc (.cells #[.int .i64 n, va, vb, vc] 25)).alloc (.cells #[.int .i64 c, va', vb', vc'] 25) := ⟨_, rfl⟩
  have hbW : Below w.heap.size w W := by rw [hW]; exact below_alloc (below_alloc (Below.refl _ _) _) _
  have hsz : (w.alloc (.cells #[.int .i64 n, va, vb, vc] 25)).heap.size = w.heap.size + 1 := by simp
  have hA : W.heap[w.heap.size]? = some (.cells #[.int .i64 n, va, vb, vc] 25 (0, 0)) := by rw [hW]; exact (Below.heap_alloc _ _ _ (by rw [hsz]; omega)).trans (heap_new _ _)
  have hA2 : W.heap[w.heap.size + 1]? = some (.cells #[.int .i64 c, va', vb', vc'] 25 (0, 0)) := by
    have := heap_new (w.alloc (.cells #[.int .i64 n, va, vb, vc] 25)) (.cells #[.int .i64 c, va', vb', vc'] 25)
    rw [hsz] at this
    rw [hW]; exact this
  obtain ⟨lo, lc, rfl⟩ := hl.shape
  rw [tab_length] at hl ⊢
  have HBW := hide hbW
  have HL := hide (hl.below hbW)
  have HED' := hide (edges_good c va' vb' vc' st' tl' wt' W (hg'.below hbW) hgd' (good_chk' hgd'))
  have HED : Hid (∀ X, Below W.heap.size W X → Calls Try.prog 31 #[gAgg n va vb vc] X (EdgesW X n st tl wt)) := fun X hX => edges_good n va vb vc st tl wt X ((hg.below hbW).below hX) hgd (good_chk' hgd)
  have HSL : Hid (∀ e, e < tl.length → src st n e < n ∧ tN tl e < n) := fun e he => by
    have := hgd.vtx e he
    exact ⟨src_lt hgd he, by unfold tN; omega⟩
  have HO1 : Hid (∀ X R, EAt X (.slice (some ⟨R, 0, none⟩) tl.length tl.length) (upto (edgeAt n st tl wt) tl.length) → EdL X R tl.length (src st n) (tN tl) (at_ wt)) := fun X R h => EdL.of hgd h
  have HO2 : Hid (∀ X R, EAt X (.slice (some ⟨R, 0, none⟩) tl'.length tl'.length) (upto (edgeAt c st' tl' wt') tl'.length) → EdL X R tl'.length (src st' c) (tN tl') (at_ wt')) := fun X R h => EdL.of hgd' h
  have HH := hide hH
  have HK : Hid (∀ X, Below W.heap.size W X → X.cell? ⟨w.heap.size, 0, none⟩ = some (.int .i64 n) ∧ X.cell? ⟨w.heap.size, 1, none⟩ = some va ∧ X.cell? ⟨w.heap.size, 2, none⟩ = some vb ∧ X.cell? ⟨w.heap.size, 3, none⟩ = some vc) := fun X hX => ⟨box_keep hA hX rfl, box_keep hA hX rfl, box_keep hA hX rfl, box_keep hA hX rfl⟩
  have r0 := cell_of hA2 (i := 0) rfl
  have r1 := cell_of hA2 (i := 1) rfl
  have r2 := cell_of hA2 (i := 2) rfl
  have r3 := cell_of hA2 (i := 3) rfl
  have HNO := hide (fun x W => no_any x W)
  have hm0 : tl.length ≤ 4194304 := hgd.m_le
  have hm1 : tl'.length ≤ 4194304 := hgd'.m_le
  clear hg hg' hgd hgd' hl hw hw' hH hbW hA hA2 hsz
  unfold gAgg at *
  go_enter Try.func30, Try.ntmps30
  go_upto_region 1 with fail
  rw [← hW]
  clear hW
  go_wp2_with fail
  refine HED'.out.mono ?_
  rintro e w1 ⟨R1, rfl, hE1, hb1, _⟩
  have HE1 := hide hE1
  have HB1 := hide hb1
  clear r0 r1 r2 r3 hE1 hb1 HED'
  go_upto_region 2 with fail
  obtain ⟨V1, hV1⟩ : ∃ V1, V1 = w1.alloc (.cells #[.int .i64 c, .slice (some ⟨R1, 0, none⟩) tl'.length tl'.length] 55) := ⟨_, rfl⟩
  have hbV : Below w1.heap.size w1 V1 := by rw [hV1]; exact below_alloc (Below.refl _ _) _
  have hVA : V1.heap[w1.heap.size]? = some (.cells #[.int .i64 c, .slice (some ⟨R1, 0, none⟩) tl'.length tl'.length] 55 (0, 0)) := by rw [hV1]; exact heap_new _ _
  rw [← hV1]
  obtain ⟨rb, hrb⟩ : ∃ rb, rb = w1.heap.size := ⟨_, rfl⟩
  rw [← hrb] at hVA ⊢
  have HBV := hide (below_on HB1.out hbV)
  replace HE1 := hide (HE1.out.below hbV)
  have HVA := hide hVA
  clear hV1 hbV hVA hrb HB1
  obtain ⟨p0, p1, p2, p3⟩ := HK.out _ HBV.out
  go_wp2_with fail
  refine (HED.out _ HBV.out).mono ?_
  rintro e w2 ⟨R2, rfl, hE2, hb2, _⟩
  have HE2 := hide hE2
  have HB2 := hide hb2
  clear p0 p1 p2 p3 hE2 hb2 HED HK
  go_upto_region 3 with fail
  obtain ⟨V2, hV2⟩ : ∃ V2, V2 = w2.alloc (.cells #[.int .i64 n, .slice (some ⟨R2, 0, none⟩) tl.length tl.length] 55) := ⟨_, rfl⟩
  have hbV : Below w2.heap.size w2 V2 := by rw [hV2]; exact below_alloc (Below.refl _ _) _
  have hVB : V2.heap[w2.heap.size]? = some (.cells #[.int .i64 n, .slice (some ⟨R2, 0, none⟩) tl.length tl.length] 55 (0, 0)) := by rw [hV2]; exact heap_new _ _
  rw [← hV2]
  obtain ⟨sb, hsb⟩ : ∃ sb, sb = w2.heap.size := ⟨_, rfl⟩
  rw [← hsb] at hVB ⊢
  have HBZ := hide (below_on HBV.out (below_on HB2.out hbV))
  have HEX : Hid (∀ X, Below V2.heap.size V2 X → EdL X R1 tl'.length (src st' c) (tN tl') (at_ wt')) := fun X hX => HO2.out X R1 (((HE1.out.below HB2.out).below hbV).below hX)
  have HEY : Hid (∀ X, Below V2.heap.size V2 X → EdL X R2 tl.length (src st n) (tN tl) (at_ wt)) := fun X hX => HO1.out X R2 ((HE2.out.below hbV).below hX)
  have HLX : Hid (∀ X, Below V2.heap.size V2 X → RowAt .i64 X (.slice lo n lc) (tab n (fun v => (nb v : Int)))) := fun X hX => HL.out.below (below_on HBZ.out hX)
  have HKV : Hid (∀ X, Below V2.heap.size V2 X → X.cell? ⟨rb, 1, none⟩ = some (.slice (some ⟨R1, 0, none⟩) tl'.length tl'.length) ∧ X.cell? ⟨sb, 1, none⟩ = some (.slice (some ⟨R2, 0, none⟩) tl.length tl.length)) := fun X hX => ⟨cell_of (((below_on (below_on HB2.out hbV) hX).block _ (lt_of_heap HVA.out)).trans HVA.out) (i := 1) rfl, cell_of ((hX.block _ (lt_of_heap hVB)).trans hVB) (i := 1) rfl⟩
  clear hV2 hbV hVB hsb HE1 HE2 HL HVA HO1 HO2 HB2
  obtain ⟨m, hm⟩ : ∃ m, m = tl.length := ⟨_, rfl⟩
  obtain ⟨m', hm'⟩ : ∃ m', m' = tl'.length := ⟨_, rfl⟩
  obtain ⟨F, hF⟩ : ∃ F, F = src st n := ⟨_, rfl⟩
  obtain ⟨T, hT⟩ : ∃ T, T = tN tl := ⟨_, rfl⟩
  obtain ⟨Q, hQ⟩ : ∃ Q, Q = at_ wt := ⟨_, rfl⟩
  obtain ⟨F', hF'⟩ : ∃ F', F' = src st' c := ⟨_, rfl⟩
  obtain ⟨T', hT'⟩ : ∃ T', T' = tN tl' := ⟨_, rfl⟩
  obtain ⟨Q', hQ'⟩ : ∃ Q', Q' = at_ wt' := ⟨_, rfl⟩
  rw [← hm, ← hF, ← hT, ← hQ] at HEY
  rw [← hm', ← hF', ← hT', ← hQ'] at HEX
  rw [← hm, ← hm'] at HKV
  rw [← hm, ← hm', ← hF, ← hT, ← hQ, ← hF', ← hT', ← hQ'] at HH
  rw [← hm, ← hF, ← hT] at HSL
  rw [← hm] at hm0 ⊢
  rw [← hm'] at hm1 ⊢
  clear hm hm' hF hT hQ hF' hT' hQ'
  go_wp2_with (first | (go_at_call 15; refine (HNO.out _ _).mono ?_; rintro e w9 ⟨rfl, hw9⟩; subst hw9) | fail)
  clear HNO
  go_loopw [11, 12, 13, 14, 15] (fun t _ _ _ _ wr => ∃ i : Nat, t = .int .i64 (i : Int) ∧ i ≤ m' ∧ Below w9.heap.size w9 wr) (fun t _ _ _ _ _ => m' - (RowKit.intOf t).toNat)
  case atStart => exact ⟨0, rfl, Nat.zero_le _, Below.refl _ _⟩
  case round =>
    obtain ⟨i, rfl, hi, hbr⟩ := hrel
    have HBR := hide hbr
    clear hbr
    obtain ⟨q1, q2⟩ := HKV.out _ HBR.out
    by_cases hlt : i < m'
    · obtain ⟨e0, e1, e2⟩ := HEX.out _ HBR.out i hlt
      have hne := HH.out.ne i hlt
      have HUP : Hid (∀ k, i = k + 1 → F' i = F' k → T' k < T' i) := fun k hk h => by rw [hk] at h ⊢; exact HH.out.up k (by omega) h
      have HLE := hide (HH.out.le i hlt)
      have HHA := hide (HH.out.has i hlt)
      obtain ⟨p, hp⟩ : ∃ p, p = F' i := ⟨_, rfl⟩
      obtain ⟨q, hq⟩ : ∃ q, q = T' i := ⟨_, rfl⟩
      obtain ⟨x, hx⟩ : ∃ x, x = Q' i := ⟨_, rfl⟩
      rw [← hp] at e0 hne HUP HLE HHA
      rw [← hq] at e1 hne HUP HLE HHA
      rw [← hx] at e2 HLE HHA
      clear hp hq hx
      go_upto_region 9 with fail
      obtain ⟨V, hV⟩ : ∃ V, V = wr.alloc (.cells #[.int .i64 (p : Int), .int .i64 (q : Int), .int .u64 x] 60) := ⟨_, rfl⟩
      have hbV : Below wr.heap.size wr V := by rw [hV]; exact below_alloc (Below.refl _ _) _
      have hVA : V.heap[wr.heap.size]? = some (.cells #[.int .i64 (p : Int), .int .i64 (q : Int), .int .u64 x] 60 (0, 0)) := by rw [hV]; exact heap_new _ _
      rw [← hV]
      obtain ⟨xb, hxb⟩ : ∃ xb, xb = wr.heap.size := ⟨_, rfl⟩
      rw [← hxb] at hVA ⊢
      have HBV := hide (below_on HBR.out hbV)
      have HXB : Hid (∀ X, Below V.heap.size V X → X.cell? ⟨xb, 0, none⟩ = some (.int .i64 (p : Int)) ∧ X.cell? ⟨xb, 1, none⟩ = some (.int .i64 (q : Int)) ∧ X.cell? ⟨xb, 2, none⟩ = some (.int .u64 x)) := fun X hX => ⟨box_keepT hVA hX rfl, box_keepT hVA hX rfl, box_keepT hVA hX rfl⟩
      clear hV hbV hVA hxb e0 e1 e2 q1 q2
      obtain ⟨x0, x1, x2⟩ := HXB.out _ (Below.refl _ _)
      obtain ⟨q1, q2⟩ := HKV.out _ HBV.out
      have hnei : ((p : Int) == (q : Int)) = false := by simp; omega
      have HCS : (i = 0 ∧ ¬ (0 : Int) < (i : Int)) ∨ (∃ k : Nat, i = k + 1 ∧ (0 : Int) < (i : Int) ∧ ((p : Int) == (p : Int)) = true ∧ ∃ q' : Nat, V.cell? ⟨R1, k * 3, none⟩ = some (.int .i64 (p : Int)) ∧ V.cell? ⟨R1, k * 3 + 1, none⟩ = some (.int .i64 (q' : Int)) ∧ ¬ (q : Int) ≤ (q' : Int)) ∨ (∃ k : Nat, i = k + 1 ∧ (0 : Int) < (i : Int) ∧ ∃ p' q' : Nat, ((p : Int) == (p' : Int)) = false ∧ V.cell? ⟨R1, k * 3, none⟩ = some (.int .i64 (p' : Int)) ∧ V.cell? ⟨R1, k * 3 + 1, none⟩ = some (.int .i64 (q' : Int)) ∧ True) := by
        cases i with
        | zero => exact .inl ⟨rfl, by omega⟩
        | succ k =>
          obtain ⟨f0, f1, _⟩ := HEX.out _ HBV.out k (by omega)
          by_cases hpp : p = F' k
          · rw [← hpp] at f0
            exact .inr (.inl ⟨k, rfl, by omega, by simp, _, f0, f1, by have := HUP.out k rfl hpp; omega⟩)
          · exact .inr (.inr ⟨k, rfl, by omega, _, _, by simp; omega, f0, f1, trivial⟩)
      obtain ⟨z, hz⟩ : ∃ z, z = i := ⟨_, rfl⟩
      have HZ := hide hz
      clear HUP hz
      rcases HCS with ⟨rfl, hi0⟩ | ⟨k, rfl, hi0, hee, q', f0, f1, hqq⟩ | ⟨k, rfl, hi0, p', q', hee, f0, f1, hqq⟩
      all_goals
        go_quiet (fail)
        go_wp2_with fail
        clear hi0 hnei x0 x1 x2 q1 q2
        try clear hee f0 f1 hqq
        go_loopw [13, 14, 15] (fun t u _ wr2 => ∃ j : Nat, u = .int .i64 (j : Int) ∧ j ≤ m ∧ t = .bool (thB F T nb Q p q x j) ∧ Below V.heap.size V wr2) (fun _ u _ _ => m - (RowKit.intOf u).toNat)
        case atStart => exact ⟨0, rfl, Nat.zero_le _, rfl, below_drewN (Below.refl _ _) _⟩
        case round =>
          obtain ⟨j, rfl, hj, rfl, hbj⟩ := hrel
          have HBJ := hide (below_on HBV.out hbj)
          have HXJ := hide hbj
          clear hbj
          obtain ⟨q1, q2⟩ := HKV.out _ HBJ.out
          obtain ⟨x0, x1, x2⟩ := HXB.out _ HXJ.out
          by_cases hjl : j < m
          · obtain ⟨e0, e1, e2⟩ := HEY.out _ HBJ.out j hjl
            obtain ⟨hfn, htn⟩ := HSL.out j hjl
            have HLJ := hide (HLE.out j hjl)
            have HTS := hide (thB_succ F T nb Q p q x j)
            obtain ⟨t0, ht0⟩ : ∃ t0, t0 = thB F T nb Q p q x j := ⟨_, rfl⟩
            rw [← ht0] at HTS ⊢
            clear ht0
            obtain ⟨a, ha⟩ : ∃ a, a = F j := ⟨_, rfl⟩
            obtain ⟨b, hb⟩ : ∃ b, b = T j := ⟨_, rfl⟩
            obtain ⟨y, hy⟩ : ∃ y, y = Q j := ⟨_, rfl⟩
            rw [← ha] at e0 hfn HLJ HTS
            rw [← hb] at e1 htn HLJ HTS
            rw [← hy] at e2 HLJ HTS
            clear ha hb hy
            go_upto_region 16 with fail
            obtain ⟨U, hU⟩ : ∃ U, U = wr.alloc (.cells #[.int .i64 (a : Int), .int .i64 (b : Int), .int .u64 y] 60) := ⟨_, rfl⟩
            have hbU : Below wr.heap.size wr U := by rw [hU]; exact below_alloc (Below.refl _ _) _
            have hUA : U.heap[wr.heap.size]? = some (.cells #[.int .i64 (a : Int), .int .i64 (b : Int), .int .u64 y] 60 (0, 0)) := by rw [hU]; exact heap_new _ _
            rw [← hU]
            obtain ⟨yb, hyb⟩ : ∃ yb, yb = wr.heap.size := ⟨_, rfl⟩
            rw [← hyb] at hUA ⊢
            have HBU := hide (below_on HBJ.out hbU)
            have HXU := hide (below_on HXJ.out hbU)
            have y0 := cell_of hUA (i := 0) rfl
            have y1 := cell_of hUA (i := 1) rfl
            have y2 := cell_of hUA (i := 2) rfl
            clear x0 x1 x2 q1 q2 e0 e1 e2 hU hbU hUA hyb
            obtain ⟨x0, x1, x2⟩ := HXB.out _ HXU.out
            obtain ⟨g, o, cc, he, _, da⟩ := (HLX.out _ HBU.out).cellAt a (by rw [tab_length]; exact hfn)
            rw [tab_length] at he
            simp only [Value.slice.injEq, true_and] at he
            obtain ⟨rfl, rfl⟩ := he
            obtain ⟨g1, o1, c1, he, _, db⟩ := (HLX.out _ HBU.out).cellAt b (by rw [tab_length]; exact htn)
            rw [tab_length] at he
            simp only [Value.slice.injEq, Option.some.injEq, Addr.mk.injEq, and_true, true_and] at he
            obtain ⟨⟨rfl, rfl⟩, rfl⟩ := he
            rw [tab_at n _ a hfn] at da
            rw [tab_at n _ b htn] at db
            obtain ⟨na, hna⟩ : ∃ na, na = nb a := ⟨_, rfl⟩
            obtain ⟨nb', hnb⟩ : ∃ nb', nb' = nb b := ⟨_, rfl⟩
            rw [← hna] at da HLJ HTS
            rw [← hnb] at db HLJ HTS
            clear hna hnb
            have han : (a : Int) < (n : Int) := by omega
            have hbn : (b : Int) < (n : Int) := by omega
            by_cases h1 : na = p
            · by_cases h2 : nb' = q
              · subst h1
                subst h2
                have hle : ¬ y < x := by have := HLJ.out rfl rfl; omega
                have hta : ((na : Int) == (na : Int)) = true := by simp
                have htb : ((nb' : Int) == (nb' : Int)) = true := by simp
                cases t0 with
                | true =>
                  go_quiet (fail)
                  go_wp2_with fail
                  exact ⟨⟨j + 1, by simp, by omega, by rw [HTS.out]; simp, below_drewN HXU.out _⟩, by simp [RowKit.intOf]; omega⟩
                | false =>
                  by_cases hyx : y = x
                  · subst hyx
                    have hyy : (y == y) = true := by simp
                    go_quiet (fail)
                    go_wp2_with fail
                    exact ⟨⟨j + 1, by simp, by omega, by rw [HTS.out]; simp, below_drewN HXU.out _⟩, by simp [RowKit.intOf]; omega⟩
                  · have hyy : (y == x) = false := by simp; exact hyx
                    go_quiet (fail)
                    go_wp2_with fail
                    exact ⟨⟨j + 1, by simp, by omega, by rw [HTS.out]; simp [hyx], below_drewN HXU.out _⟩, by simp [RowKit.intOf]; omega⟩
              · subst h1
                have hta : ((na : Int) == (na : Int)) = true := by simp
                have hf : ((nb' : Int) == (q : Int)) = false := by simp; omega
                go_quiet (fail)
                go_wp2_with fail
                exact ⟨⟨j + 1, by simp, by omega, by rw [HTS.out]; simp [h2], below_drewN HXU.out _⟩, by simp [RowKit.intOf]; omega⟩
            · have hf : ((na : Int) == (p : Int)) = false := by simp; omega
              go_quiet (fail)
              go_wp2_with fail
              exact ⟨⟨j + 1, by simp, by omega, by rw [HTS.out]; simp [h1], below_drewN HXU.out _⟩, by simp [RowKit.intOf]; omega⟩
          · obtain rfl : m = j := by omega
            rw [thB_all HHA.out]
            clear HLE HHA hj hjl x0 x1 x2
            go_wp2_with fail
            have hz : z = _ := HZ.out
            exact ⟨⟨z + 1, by rw [hz]; simp, by omega, HBJ.out⟩, by simp [RowKit.intOf]; omega⟩
    · obtain rfl : m' = i := by omega
      clear hi hlt q1 q2
      have HAL := hide HH.out.all
      clear HH
      obtain ⟨q1, q2⟩ := HKV.out _ HBR.out
      go_wp2_with fail
      clear q1 q2
      go_loopw [16, 17, 18, 19] (fun t _ _ _ wr2 => ∃ j : Nat, t = .int .i64 (j : Int) ∧ j ≤ m ∧ Below w9.heap.size w9 wr2) (fun t _ _ _ _ => m - (RowKit.intOf t).toNat)
      case atStart => exact ⟨0, rfl, Nat.zero_le _, HBR.out⟩
      case round =>
        obtain ⟨j, rfl, hj, hbj⟩ := hrel
        have HBJ := hide hbj
        clear hbj
        obtain ⟨q1, q2⟩ := HKV.out _ HBJ.out
        by_cases hjl : j < m
        · obtain ⟨e0, e1, e2⟩ := HEY.out _ HBJ.out j hjl
          obtain ⟨hfn, htn⟩ := HSL.out j hjl
          have HAJ := hide (HAL.out j hjl)
          obtain ⟨a, ha⟩ : ∃ a, a = F j := ⟨_, rfl⟩
          obtain ⟨b, hb⟩ : ∃ b, b = T j := ⟨_, rfl⟩
          obtain ⟨y, hy⟩ : ∃ y, y = Q j := ⟨_, rfl⟩
          rw [← ha] at e0 hfn HAJ
          rw [← hb] at e1 htn HAJ
          rw [← hy] at e2
          clear ha hb hy
          go_upto_region 26 with fail
          obtain ⟨U, hU⟩ : ∃ U, U = wr.alloc (.cells #[.int .i64 (a : Int), .int .i64 (b : Int), .int .u64 y] 60) := ⟨_, rfl⟩
          have hbU : Below wr.heap.size wr U := by rw [hU]; exact below_alloc (Below.refl _ _) _
          have hUA : U.heap[wr.heap.size]? = some (.cells #[.int .i64 (a : Int), .int .i64 (b : Int), .int .u64 y] 60 (0, 0)) := by rw [hU]; exact heap_new _ _
          rw [← hU]
          obtain ⟨yb, hyb⟩ : ∃ yb, yb = wr.heap.size := ⟨_, rfl⟩
          rw [← hyb] at hUA ⊢
          have HBU := hide (below_on HBJ.out hbU)
          have HYB : Hid (∀ X, Below U.heap.size U X → X.cell? ⟨yb, 0, none⟩ = some (.int .i64 (a : Int)) ∧ X.cell? ⟨yb, 1, none⟩ = some (.int .i64 (b : Int))) := fun X hX => ⟨box_keepT hUA hX rfl, box_keepT hUA hX rfl⟩
          have HLC : Hid (∃ g o, lo = some ⟨g, o, none⟩ ∧ ∀ X, Below U.heap.size U X → X.cell? ⟨g, o + a, none⟩ = some (.int .i64 (nb a : Int)) ∧ X.cell? ⟨g, o + b, none⟩ = some (.int .i64 (nb b : Int))) := by
            obtain ⟨g, o, cc, he, hgl, _⟩ := (HLX.out _ HBU.out).cellAt a (by rw [tab_length]; exact hfn)
            rw [tab_length] at he
            simp only [Value.slice.injEq, true_and] at he
            obtain ⟨rfl, rfl⟩ := he
            refine ⟨g, o, rfl, fun X hX => ⟨?_, ?_⟩⟩
            · obtain ⟨g1, o1, c1, he, _, da⟩ := (HLX.out _ (below_on HBU.out hX)).cellAt a (by rw [tab_length]; exact hfn)
              rw [tab_length] at he
              simp only [Value.slice.injEq, Option.some.injEq, Addr.mk.injEq, and_true, true_and] at he
              obtain ⟨⟨rfl, rfl⟩, rfl⟩ := he
              rw [tab_at n _ a hfn] at da
              exact da
            · obtain ⟨g1, o1, c1, he, _, da⟩ := (HLX.out _ (below_on HBU.out hX)).cellAt b (by rw [tab_length]; exact htn)
              rw [tab_length] at he
              simp only [Value.slice.injEq, Option.some.injEq, Addr.mk.injEq, and_true, true_and] at he
              obtain ⟨⟨rfl, rfl⟩, rfl⟩ := he
              rw [tab_at n _ b htn] at da
              exact da
          clear q1 q2 e0 e1 e2 hU hbU hUA hyb
          obtain ⟨g, o, rfl, hlc⟩ := HLC.out
          have HLD := hide hlc
          clear hlc HLC HLX
          obtain ⟨na, hna⟩ : ∃ na, na = nb a := ⟨_, rfl⟩
          obtain ⟨nb', hnb⟩ : ∃ nb', nb' = nb b := ⟨_, rfl⟩
          rw [← hna, ← hnb] at HLD HAJ
          clear hna hnb
          have han : (a : Int) < (n : Int) := by omega
          have hbn : (b : Int) < (n : Int) := by omega
          obtain ⟨y0, y1⟩ := HYB.out _ (Below.refl _ _)
          obtain ⟨da, db⟩ := HLD.out _ (Below.refl _ _)
          have hbb : ((na : Int) == (nb' : Int)) = inB F' T' na nb' 0 := by
            by_cases h : na = nb'
            · simp [inB, h]
            · have : ¬ (na : Int) = (nb' : Int) := by omega
              simp [inB, h, this]
          obtain ⟨t9, ht9⟩ : ∃ t9, t9 = inB F' T' na nb' 0 := ⟨_, rfl⟩
          rw [← ht9] at hbb
          have HT9 := hide ht9
          clear ht9
          go_quiet (fail)
          go_wp2_with fail
          clear hbb y0 y1 da db
          go_loopw [18, 19] (fun t u wr2 => ∃ k : Nat, u = .int .i64 (k : Int) ∧ k ≤ m' ∧ t = .bool (inB F' T' na nb' k) ∧ Below U.heap.size U wr2) (fun _ u _ => m' - (RowKit.intOf u).toNat)
          case atStart => exact ⟨0, rfl, Nat.zero_le _, by rw [HT9.out], below_drewN (Below.refl _ _) _⟩
          case round =>
            obtain ⟨k, rfl, hk, rfl, hbk⟩ := hrel
            have HBK := hide hbk
            clear hbk
            obtain ⟨q1, q2⟩ := HKV.out _ (below_on HBU.out HBK.out)
            by_cases hkl : k < m'
            · obtain ⟨f0, f1, _⟩ := HEX.out _ (below_on HBU.out HBK.out) k hkl
              obtain ⟨y0, y1⟩ := HYB.out _ HBK.out
              obtain ⟨da, db⟩ := HLD.out _ HBK.out
              have HTS := hide (inB_succ F' T' na nb' k)
              obtain ⟨t0, ht0⟩ : ∃ t0, t0 = inB F' T' na nb' k := ⟨_, rfl⟩
              rw [← ht0] at HTS ⊢
              clear ht0 HT9
              obtain ⟨p, hp⟩ : ∃ p, p = F' k := ⟨_, rfl⟩
              obtain ⟨q, hq⟩ : ∃ q, q = T' k := ⟨_, rfl⟩
              rw [← hp] at f0 HTS
              rw [← hq] at f1 HTS
              clear hp hq
              have hki : (k : Int) < (m' : Int) := by omega
              cases t0 with
              | true =>
                go_upto_region 30 with fail
                go_quiet (fail)
                go_wp2_with fail
                exact ⟨⟨k + 1, by simp, by omega, by rw [HTS.out]; simp, below_drewN HBK.out _⟩, by simp [RowKit.intOf]; omega⟩
              | false =>
                by_cases h1 : p = na
                · by_cases h2 : q = nb'
                  · subst h1
                    subst h2
                    have hta : ((p : Int) == (p : Int)) = true := by simp
                    have htb : ((q : Int) == (q : Int)) = true := by simp
                    go_upto_region 30 with fail
                    go_quiet (fail)
                    go_wp2_with fail
                    exact ⟨⟨k + 1, by simp, by omega, by rw [HTS.out]; simp, below_drewN HBK.out _⟩, by simp [RowKit.intOf]; omega⟩
                  · subst h1
                    have hta : ((p : Int) == (p : Int)) = true := by simp
                    have htb : ((q : Int) == (nb' : Int)) = false := by simp; omega
                    go_upto_region 30 with fail
                    go_quiet (fail)
                    go_wp2_with fail
                    exact ⟨⟨k + 1, by simp, by omega, by rw [HTS.out]; simp [h2], below_drewN HBK.out _⟩, by simp [RowKit.intOf]; omega⟩
                · have hta : ((p : Int) == (na : Int)) = false := by simp; omega
                  go_upto_region 30 with fail
                  go_quiet (fail)
                  go_wp2_with fail
                  exact ⟨⟨k + 1, by simp, by omega, by rw [HTS.out]; simp [h1], below_drewN HBK.out _⟩, by simp [RowKit.intOf]; omega⟩
            · obtain rfl : m' = k := by omega
              rw [inB_all HAJ.out]
              clear HT9 HAJ
              go_wp2_with fail
              exact ⟨⟨j + 1, by simp, by omega, below_on HBU.out HBK.out⟩, by simp [RowKit.intOf]; omega⟩
        · obtain rfl : m = j := by omega
          go_wp2_with fail
          go_ret
          exact ⟨rfl, below_on HBW.out (below_on HBZ.out HBJ.out)⟩
end Go.Proofs.Yteblkbneghbcbaa

/- StrongKernel: the law. -/
namespace Go.Proofs.Yteblkbneghbcbaa
open Go.RowKit Go.Lib
set_option linter.unusedVariables false
set_option linter.unusedSimpArgs false
theorem RLw.atK {w X : World} {n : Nat} {st tl : List Int} {v : Value} {Rs : List Nat} (h : RLw w X n st tl v Rs) {i : Nat} (hi : i < Rs.length) : ∃ g c R B, v = .slice (some ⟨g, 0, none⟩) Rs.length c ∧ Rs.length ≤ c ∧ X.cell? ⟨g, i, none⟩ = some (.slice (some ⟨R, 0, none⟩) n n) ∧ ArrB X R B ∧ B.length = n ∧ ∀ u, u < n → (bAt B u = true ↔ Rc (EE n (sN st) (tN tl)) i u) := by
  obtain ⟨B, b1, b2, b3⟩ := h.row i Rs[i] (List.getElem?_eq_getElem hi)
  obtain ⟨h0, ⟨rfl, hn⟩ | ⟨g, cap, cur, rfl, hg, hb, h1, h2, h3, h4⟩⟩ := h.own
  · omega
  · refine ⟨g, cap, Rs[i], B, rfl, h1, cell_of hb ?_, b1, b2, b3⟩
    have : (slB n Rs)[i]? = some (.slice (some ⟨Rs[i], 0, none⟩) n n) := by simp [slB, hi]
    rw [← h4, List.getElem?_take_of_lt (by omega)] at this
    rw [← Array.getElem?_toList]; exact this
set_option maxRecDepth 100000 in
set_option maxHeartbeats 16000000 in
theorem kernel_law (N : Int) (va vb vc : Value) (st tl wt : List Int) (w : World) (hg : GIs w N va vb vc st tl wt) (hst : st.length ≤ 17592186044416) (hto : tl.length ≤ 17592186044416) (hwt : wt.length ≤ 17592186044416) (hw : ∀ e, 0 ≤ at_ wt e) :
    Calls Try.prog 8 #[gAgg N va vb vc] w fun e w' => e = .returned (.bool true) ∧ Below w.heap.size w w' := by
  obtain ⟨W, hW⟩ : ∃ W, W = w.alloc (.cells #[.int .i64 N, va, vb, vc] 25) := ⟨_, rfl⟩
  have hbW : Below w.heap.size w W := by rw [hW]; exact below_alloc (Below.refl _ _) _
  have hA : W.heap[w.heap.size]? = some (.cells #[.int .i64 N, va, vb, vc] 25 (0, 0)) := by rw [hW]; exact heap_new _ _
  have HBW := hide hbW
  have HG := hide (hg.below hbW)
  have HK : Hid (∀ X, Below W.heap.size W X → X.cell? ⟨w.heap.size, 0, none⟩ = some (.int .i64 N) ∧ X.cell? ⟨w.heap.size, 1, none⟩ = some va ∧ X.cell? ⟨w.heap.size, 2, none⟩ = some vb ∧ X.cell? ⟨w.heap.size, 3, none⟩ = some vc) := fun X hX => ⟨box_keep hA hX rfl, box_keep hA hX rfl, box_keep hA hX rfl, box_keep hA hX rfl⟩
  have HW := hide hw
  have HRF : Hid (∀ X, Below W.heap.size W X → Calls Try.prog 27 #[gAgg N va vb vc] X fun e w' => e = .returned (.tuple #[.bool (decide ((chk N st tl wt).1 ≠ 0)), .bool true]) ∧ Below X.heap.size X w') := fun X hX => refused_any N va vb vc st tl wt X (HG.out.below hX) hst hto hwt hw
  have HPa : Hid (∀ X, Below W.heap.size W X → Calls Try.prog 12 #[gAgg N va vb vc] X (LN X (prtA N st tl wt))) := fun X hX => parts_any N va vb vc st tl wt X (HG.out.below hX) hst hto hwt hw
  have HNO := hide (fun x W => no_any x W)
  have HHE := hide (heads_any W)
  clear hg hA hbW hw hst hto hwt
  unfold gAgg at *
  by_cases hz : (chk N st tl wt).1 = 0
  · obtain ⟨n, rfl, hgood⟩ := chk_good hz
    have HGD := hide hgood
    rw [show decide ((chk (n : Int) st tl wt).1 ≠ 0) = false by simp [hz]] at HRF
    rw [show prtA n st tl wt = (tab n (fun v => (numb (BG n st tl) v : Int)), 0) by unfold prtA; rw [if_pos hz, Int.toNat_natCast]] at HPa
    have HNB := hide hgood.n_le
    clear hz hgood
    go_enter Try.func8, Try.ntmps8
    go_upto_region 1 with fail
    rw [← hW]
    clear hW
    go_wp2_with fail
    refine HHE.out.mono ?_
    rintro e w1 ⟨rfl, hb1⟩
    have HBX := hide hb1
    clear hb1 HHE
    obtain ⟨p0, p1, p2, p3⟩ := HK.out _ HBX.out
    go_wp2_with fail
    refine (HRF.out _ HBX.out).mono ?_
    rintro e w2 ⟨rfl, hb⟩
    replace HBX := hide (below_on HBX.out hb)
    clear p0 p1 p2 p3 hb HRF
    obtain ⟨p0, p1, p2, p3⟩ := HK.out _ HBX.out
    by_cases h64 : n ≤ 64
    · have hgt : ¬ (64 : Int) < (n : Int) := by omega
      have HCD := hide (condense_good n va vb vc st tl wt w2 (HG.out.below HBX.out) HGD.out HW.out)
      unfold gAgg at HCD
      go_wp2_with fail
      refine HCD.out.mono ?_
      rintro e w3 ⟨hb, c, xa, xb, xc, st', tl', wt', pv, rfl, hgi, hcn, hrow⟩
      obtain ⟨ao, ca, rfl⟩ := hgi.s.shape
      obtain ⟨bo, cb, rfl⟩ := hgi.t.shape
      obtain ⟨co, cc, rfl⟩ := hgi.u.shape
      obtain ⟨lo, lc, rfl⟩ := hrow.shape
      rw [tab_length] at hrow ⊢
      replace HBX := hide (below_on HBX.out hb)
      have HCN := hide hcn
      clear p0 p1 p2 p3 hb HCD hcn
      go_upto_region 7 with fail
      obtain ⟨V, hV⟩ : ∃ V, V = w3.alloc (.cells #[.int .i64 c, .slice ao st'.length ca, .slice bo tl'.length cb, .slice co wt'.length cc] 25) := ⟨_, rfl⟩
      have hbV : Below w3.heap.size w3 V := by rw [hV]; exact below_alloc (Below.refl _ _) _
      have hVA : V.heap[w3.heap.size]? = some (.cells #[.int .i64 c, .slice ao st'.length ca, .slice bo tl'.length cb, .slice co wt'.length cc] 25 (0, 0)) := by rw [hV]; exact heap_new _ _
      rw [← hV]
      obtain ⟨kb, hkb⟩ : ∃ kb, kb = w3.heap.size := ⟨_, rfl⟩
      rw [← hkb] at hVA ⊢
      have HBV := hide (below_on HBX.out hbV)
      have HGC : Hid (∀ X, Below V.heap.size V X → GIs X c (.slice ao st'.length ca) (.slice bo tl'.length cb) (.slice co wt'.length cc) st' tl' wt') := fun X hX => (hgi.below hbV).below hX
      have HLX : Hid (∀ X, Below V.heap.size V X → RowAt .i64 X (.slice lo n lc) (tab n (fun v => (numb (BG n st tl) v : Int)))) := fun X hX => (hrow.below hbV).below hX
      have HK2 : Hid (∀ X, Below V.heap.size V X → (X.cell? ⟨w.heap.size, 0, none⟩ = some (.int .i64 n) ∧ X.cell? ⟨w.heap.size, 1, none⟩ = some va ∧ X.cell? ⟨w.heap.size, 2, none⟩ = some vb ∧ X.cell? ⟨w.heap.size, 3, none⟩ = some vc) ∧ (X.cell? ⟨kb, 0, none⟩ = some (.int .i64 c) ∧ X.cell? ⟨kb, 1, none⟩ = some (.slice ao st'.length ca) ∧ X.cell? ⟨kb, 2, none⟩ = some (.slice bo tl'.length cb) ∧ X.cell? ⟨kb, 3, none⟩ = some (.slice co wt'.length cc))) := fun X hX => ⟨HK.out X (below_on HBV.out hX), box_keep hVA hX rfl, box_keep hVA hX rfl, box_keep hVA hX rfl, box_keep hVA hX rfl⟩
      have HGG : Hid (∀ X, Below V.heap.size V X → GIs X n va vb vc st tl wt) := fun X hX => HG.out.below (below_on HBV.out hX)
      have HPV := hide (HPa.out V HBV.out)
      clear hV hbV hVA hkb hgi hrow HBX HPa HG HK
      obtain ⟨⟨p0, p1, p2, p3⟩, q0, q1, q2, q3⟩ := HK2.out _ (Below.refl _ _)
      go_wp2_with fail
      refine HPV.out.mono ?_
      rintro e w4 ⟨v4, rfl, hr4, hb⟩
      have HB4 := hide hb
      have HS4 : Hid (∀ X, Below w4.heap.size w4 X → Calls Try.prog 14 #[.slice lo n lc, v4] X fun e w' => e = .returned (.bool true) ∧ Below X.heap.size X w') := fun X hX => lawSame_eq _ _ _ X (HLX.out X (below_on hb hX)) (hr4.below hX)
      have HC4 := hide (condense_twice n c _ _ _ st tl wt st' tl' wt' w4 (HGC.out w4 hb) HCN.out)
      unfold gAgg at HC4
      clear p0 p1 p2 p3 q0 q1 q2 q3 hb hr4 HPV
      obtain ⟨⟨p0, p1, p2, p3⟩, q0, q1, q2, q3⟩ := HK2.out _ HB4.out
      go_wp2_with fail
      refine HC4.out.mono ?_
      rintro e w5 ⟨hb, ya, yb, yc, mv, rfl, hgi, ml, hml, hmc⟩
      obtain ⟨do_, da, rfl⟩ := hgi.s.shape
      obtain ⟨eo, ea, rfl⟩ := hgi.t.shape
      obtain ⟨fo, fa, rfl⟩ := hgi.u.shape
      obtain ⟨mo, mc, rfl⟩ := hml.shape
      rw [hmc]
      have HB5 := hide (below_on HB4.out hb)
      have HS5 : Hid (∀ X, Below w5.heap.size w5 X → Calls Try.prog 14 #[.slice lo n lc, v4] X fun e w' => e = .returned (.bool true) ∧ Below X.heap.size X w') := fun X hX => HS4.out X (below_on hb hX)
      clear p0 p1 p2 p3 q0 q1 q2 q3 hb hml hmc HC4 HS4 HB4
      go_upto_region 9 with fail
      obtain ⟨V6, hV⟩ : ∃ V6, V6 = w5.alloc (.cells #[.int .i64 c, .slice do_ st'.length da, .slice eo tl'.length ea, .slice fo wt'.length fa] 25) := ⟨_, rfl⟩
      have hbV : Below w5.heap.size w5 V6 := by rw [hV]; exact below_alloc (Below.refl _ _) _
      have hVA : V6.heap[w5.heap.size]? = some (.cells #[.int .i64 c, .slice do_ st'.length da, .slice eo tl'.length ea, .slice fo wt'.length fa] 25 (0, 0)) := by rw [hV]; exact heap_new _ _
      rw [← hV]
      obtain ⟨kd, hkd⟩ : ∃ kd, kd = w5.heap.size := ⟨_, rfl⟩
      rw [← hkd] at hVA ⊢
      have HB6 := hide (below_on HB5.out hbV)
      have HS6 := hide (HS5.out V6 hbV)
      have HGD6 : Hid (∀ X, Below V6.heap.size V6 X → GIs X c (.slice do_ st'.length da) (.slice eo tl'.length ea) (.slice fo wt'.length fa) st' tl' wt') := fun X hX => (hgi.below hbV).below hX
      have HK6 : Hid (∀ X, Below V6.heap.size V6 X → ((X.cell? ⟨kb, 0, none⟩ = some (.int .i64 c) ∧ X.cell? ⟨kb, 1, none⟩ = some (.slice ao st'.length ca) ∧ X.cell? ⟨kb, 2, none⟩ = some (.slice bo tl'.length cb) ∧ X.cell? ⟨kb, 3, none⟩ = some (.slice co wt'.length cc))) ∧ (X.cell? ⟨kd, 1, none⟩ = some (.slice do_ st'.length da) ∧ X.cell? ⟨kd, 2, none⟩ = some (.slice eo tl'.length ea) ∧ X.cell? ⟨kd, 3, none⟩ = some (.slice fo wt'.length fa))) := fun X hX => ⟨(HK2.out X (below_on HB6.out hX)).2, box_keep hVA hX rfl, box_keep hVA hX rfl, box_keep hVA hX rfl⟩
      clear hV hbV hVA hkd hgi HS5 HB5
      have hcc : ((c : Int) != (c : Int)) = false := by simp
      have hww : ((wt'.length : Int) != (wt'.length : Int)) = false := by simp
      have HSS : Hid (∀ X, Below V6.heap.size V6 X → Calls Try.prog 14 #[.slice do_ st'.length da, .slice ao st'.length ca] X fun e w' => e = .returned (.bool true) ∧ Below X.heap.size X w') := fun X hX => lawSame_eq _ _ _ X (HGD6.out X hX).s (HGC.out X (below_on HB6.out hX)).s
      have HST : Hid (∀ X, Below V6.heap.size V6 X → Calls Try.prog 14 #[.slice eo tl'.length ea, .slice bo tl'.length cb] X fun e w' => e = .returned (.bool true) ∧ Below X.heap.size X w') := fun X hX => lawSame_eq _ _ _ X (HGD6.out X hX).t (HGC.out X (below_on HB6.out hX)).t
      obtain ⟨⟨q0, q1, q2, q3⟩, d1, d2, d3⟩ := HK6.out _ (Below.refl _ _)
      clear HGD6
      go_wp2_with (first | (go_at_call 15; refine (HNO.out _ _).mono ?_; rintro e w9 ⟨rfl, hw9⟩; subst hw9) | fail)
      refine HS6.out.mono ?_
      rintro e w10 ⟨rfl, hb⟩
      have HB10 := hide hb
      clear q0 q1 q2 q3 d1 d2 d3 hb HS6
      obtain ⟨⟨q0, q1, q2, q3⟩, d1, d2, d3⟩ := HK6.out _ HB10.out
      go_wp2_with fail
      refine (HSS.out _ HB10.out).mono ?_
      rintro e w11 ⟨rfl, hb⟩
      have HB11 := hide (below_on HB10.out hb)
      clear q0 q1 q2 q3 d1 d2 d3 hb HSS HB10
      obtain ⟨⟨q0, q1, q2, q3⟩, d1, d2, d3⟩ := HK6.out _ HB11.out
      go_wp2_with fail
      refine (HST.out _ HB11.out).mono ?_
      rintro e w12 ⟨rfl, hb⟩
      have HB12 := hide (below_on HB6.out (below_on HB11.out hb))
      have hb12 := below_on HB11.out hb
      obtain ⟨⟨q0', q1', q2', q3'⟩, d1', d2', d3'⟩ := HK6.out _ hb12
      clear q0 q1 q2 q3 d1 d2 d3 hb hb12 HST HB11
      have HCI := hide (circle_any c _ _ _ st' tl' wt' w12 (HGC.out _ HB12.out) (by have := HCN.out.good.1.s_len; have := HCN.out.good.1.n_le; omega) (by have := HCN.out.good.1.m_le; omega) (by have := HCN.out.good.1.m_le; have := HCN.out.good.1.w_len; omega))
      unfold gAgg at HCI
      go_wp2_with fail
      refine HCI.out.mono ?_
      rintro e w13 ⟨cv, cl, b13, E13, rfl, _, hca, hb⟩
      obtain ⟨rfl, rfl⟩ := HCN.out.circle hca
      have HB13 := hide (below_on HB12.out hb)
      clear q0' q1' q2' q3' d1' d2' d3' hb hca HCI HB12 HK6 hcc hww
      obtain ⟨⟨p0, p1, p2, p3⟩, q0, q1, q2, q3⟩ := HK2.out _ HB13.out
      have HRC := hide (reachL_good n va vb vc st tl wt w13 (HGG.out _ HB13.out) HGD.out h64)
      unfold gAgg at HRC
      go_wp2_with fail
      refine HRC.out.mono ?_
      rintro e w14 ⟨av, Ra, rfl, hb, hra, hRa⟩
      obtain ⟨ro, rc, rfl⟩ := hra.shape
      rw [hRa] at hra ⊢
      have HRA := hide hra; have HAN := hide hRa
      have HB14 := hide (below_on HB13.out hb)
      clear p0 p1 p2 p3 q0 q1 q2 q3 hb hra hRa HRC HB13
      obtain ⟨⟨p0, p1, p2, p3⟩, q0, q1, q2, q3⟩ := HK2.out _ HB14.out
      have HRC := hide (reachL_good c _ _ _ st' tl' wt' w14 (HGC.out _ HB14.out) HCN.out.good.1 (by have := HCN.out.good.2.2; omega))
      unfold gAgg at HRC
      go_wp2_with fail
      refine HRC.out.mono ?_
      rintro e w15 ⟨bv, Rb, rfl, hb, hrb, hRb⟩
      obtain ⟨so, sc, rfl⟩ := hrb.shape
      rw [hRb] at hrb ⊢
      have HRB := hide hrb; have HBN := hide hRb
      replace HRA := hide (HRA.out.on hb)
      have HB15 := hide (below_on HB14.out hb)
      clear p0 p1 p2 p3 q0 q1 q2 q3 hb hrb hRb HRC HB14
      obtain ⟨⟨p0, p1, p2, p3⟩, q0, q1, q2, q3⟩ := HK2.out _ HB15.out
      go_wp2_with (first | (go_at_call 15; refine (HNO.out _ _).mono ?_; rintro e w16 ⟨rfl, hw16⟩; subst hw16) | fail)
      clear p0 p1 p2 p3 q0 q1 q2 q3 HNO
      go_loopw [20] (fun t wr => ∃ k : Nat, t = .int .i64 (k : Int) ∧ k ≤ n ∧ Below w16.heap.size w16 wr) (fun t _ => n - (RowKit.intOf t).toNat)
      case atStart => exact ⟨0, rfl, Nat.zero_le _, Below.refl _ _⟩
      case round =>
        obtain ⟨k, rfl, hk, hbr⟩ := hrel
        have HBR := hide (below_on HB15.out hbr)
        have HB0 := hide hbr
        clear hbr
        obtain ⟨⟨p0, p1, p2, p3⟩, q0, q1, q2, q3⟩ := HK2.out _ HBR.out
        by_cases hlt : k < n
        · obtain ⟨g, o, c1, he, _, d⟩ := (HLX.out _ HBR.out).cellAt k (by rw [tab_length]; exact hlt)
          rw [tab_length] at he
          simp only [Value.slice.injEq, true_and] at he
          obtain ⟨rfl, rfl⟩ := he
          rw [tab_at n _ k hlt] at d
          have hki : (k : Int) < (n : Int) := by omega
          have hxc := HCN.out.lt k hlt
          obtain ⟨x, hx⟩ : ∃ x, x = numb (BG n st tl) k := ⟨_, rfl⟩
          rw [← hx] at d hxc
          clear hx p1 p2 p3 q1 q2 q3
          have hx0 : ¬ (x : Int) < 0 := by omega
          have hxn : ¬ (c : Int) ≤ (x : Int) := by omega
          go_upto_region 19 with fail
          go_quiet (fail)
          go_wp2_with fail
          exact ⟨⟨k + 1, by simp, by omega, below_drewN HB0.out _⟩, by simp [RowKit.intOf]; omega⟩
        · have hkn : k = n := by omega
          rw [hkn]
          clear hk hlt hkn p1 p2 p3 q0 q1 q2 q3
          go_wp2_with fail
          clear p0
          go_loopw [21, 22] (fun t _ wr => ∃ k : Nat, t = .int .i64 (k : Int) ∧ k ≤ n ∧ Below w16.heap.size w16 wr) (fun t _ _ => n - (RowKit.intOf t).toNat)
          case atStart => exact ⟨0, rfl, Nat.zero_le _, HB0.out⟩
          case round =>
            clear HBR HB0
            obtain ⟨k, rfl, hk, hbr⟩ := hrel
            have HBR := hide (below_on HB15.out hbr)
            have HB0 := hide hbr
            clear hbr
            obtain ⟨⟨p0, p1, p2, p3⟩, q0, q1, q2, q3⟩ := HK2.out _ HBR.out
            by_cases hlt : k < n
            · have hki : (k : Int) < (n : Int) := by omega
              clear p1 p2 p3 q0 q1 q2 q3
              go_wp2_with fail
              clear p0
              go_loopw [22] (fun t wr2 => ∃ j : Nat, t = .int .i64 (j : Int) ∧ j ≤ n ∧ Below w16.heap.size w16 wr2) (fun t _ => n - (RowKit.intOf t).toNat)
              case atStart => exact ⟨0, rfl, Nat.zero_le _, HB0.out⟩
              case round =>
                clear HBR HB0
                obtain ⟨j, rfl, hj, hbr⟩ := hrel
                have HBR := hide (below_on HB15.out hbr)
                have HB0 := hide hbr
                clear hbr
                obtain ⟨⟨p0, p1, p2, p3⟩, q0, q1, q2, q3⟩ := HK2.out _ HBR.out
                clear p1 p2 p3 q0 q1 q2 q3
                by_cases hjl : j < n
                · obtain ⟨g1, o1, c1, he, _, dj⟩ := (HLX.out _ HBR.out).cellAt j (by rw [tab_length]; exact hjl)
                  rw [tab_length] at he
                  simp only [Value.slice.injEq, true_and] at he
                  obtain ⟨rfl, rfl⟩ := he
                  obtain ⟨g2, o2, c2, he, _, dk⟩ := (HLX.out _ HBR.out).cellAt k (by rw [tab_length]; exact hlt)
                  rw [tab_length] at he
                  simp only [Value.slice.injEq, Option.some.injEq, Addr.mk.injEq, and_true, true_and] at he
                  obtain ⟨⟨rfl, rfl⟩, rfl⟩ := he
                  rw [tab_at n _ j hjl] at dj
                  rw [tab_at n _ k hlt] at dk
                  have hx1 := HCN.out.lt k hlt
                  have hx2 := HCN.out.lt j hjl
                  have hrr := HCN.out.reach k j
                  obtain ⟨x1, hy1⟩ : ∃ x1, x1 = numb (BG n st tl) k := ⟨_, rfl⟩
                  obtain ⟨x2, hy2⟩ : ∃ x2, x2 = numb (BG n st tl) j := ⟨_, rfl⟩
                  rw [← hy1] at dk hx1 hrr
                  rw [← hy2] at dj hx2 hrr
                  clear hy1 hy2
                  obtain ⟨mg, mcc, R1, B1, he, _, m1, a1, l1, b1⟩ := (HRA.out.on HB0.out).atK (i := k) (by rw [HAN.out]; exact hlt)
                  rw [HAN.out] at he
                  simp only [Value.slice.injEq, true_and] at he
                  obtain ⟨rfl, rfl⟩ := he
                  obtain ⟨mg2, mcc2, R2, B2, he, _, m2, a2, l2, b2⟩ := (HRB.out.on HB0.out).atK (i := x1) (by rw [HBN.out]; exact hx1)
                  rw [HBN.out] at he
                  simp only [Value.slice.injEq, true_and] at he
                  obtain ⟨rfl, rfl⟩ := he
                  have e1 := a1.cell j (by omega)
                  have e2 := a2.cell x2 (by omega)
                  have hkey : bAt B1 j = bAt B2 x2 := by
                    have h1 := b1 j hjl
                    have h2 := b2 x2 hx2
                    rw [hrr] at h2
                    rw [Bool.eq_iff_iff]
                    exact h1.trans h2.symm
                  rw [← hkey] at e2
                  obtain ⟨z, hz⟩ : ∃ z, z = bAt B1 j := ⟨_, rfl⟩
                  rw [← hz] at e1 e2
                  have hji : (j : Int) < (n : Int) := by omega
                  have hzz : (z != z) = false := by simp
                  have hn1 : (x1 : Int) < (c : Int) := by omega
                  have hn2 : (x2 : Int) < (c : Int) := by omega
                  clear hz hkey b1 b2 l1 l2 a1 a2 hrr
                  go_upto_region 27 with fail
                  go_quiet (fail)
                  go_wp2_with fail
                  exact ⟨⟨j + 1, by simp, by omega, below_drewN HB0.out _⟩, by simp [RowKit.intOf]; omega⟩
                · obtain rfl : n = j := by omega
                  go_wp2_with fail
                  exact ⟨⟨k + 1, by simp, by omega, HB0.out⟩, by simp [RowKit.intOf]; omega⟩
            · have hkn : k = n := by omega
              rw [hkn]
              clear hk hlt hkn
              have HLL := hide (lightest_law n c va vb vc _ _ _ (.slice lo n lc) st tl wt st' tl' wt' (numb (BG n st tl)) wr (HGG.out _ HBR.out) HGD.out (HGC.out _ HBR.out) HCN.out.good.1 (HLX.out _ HBR.out) HW.out HCN.out.good.2.1 HCN.out.light)
              unfold gAgg at HLL
              go_wp2_with fail
              refine HLL.out.mono ?_
              rintro e w20 ⟨rfl, hb⟩
              go_wp2_with fail
              go_ret
              exact ⟨rfl, below_on HBW.out (below_on HBV.out (below_on HBR.out hb))⟩
    · have hgt : (64 : Int) < (n : Int) := by omega
      go_wp2_with fail
      go_ret
      exact ⟨rfl, below_on HBW.out HBX.out⟩
  · rw [show decide ((chk N st tl wt).1 ≠ 0) = true by simp [hz]] at HRF
    go_enter Try.func8, Try.ntmps8
    go_upto_region 1 with fail
    rw [← hW]
    clear hW
    go_wp2_with fail
    refine HHE.out.mono ?_
    rintro e w1 ⟨rfl, hb1⟩
    have HBX := hide hb1
    clear hb1 HHE
    obtain ⟨p0, p1, p2, p3⟩ := HK.out _ HBX.out
    go_wp2_with fail
    refine (HRF.out _ HBX.out).mono ?_
    rintro e w2 ⟨rfl, hb⟩
    replace HBX := hide (below_on HBX.out hb)
    clear p0 p1 p2 p3 hb HRF
    obtain ⟨p0, p1, p2, p3⟩ := HK.out _ HBX.out
    go_wp2_with fail
    go_ret
    exact ⟨rfl, below_on HBW.out HBX.out⟩
end Go.Proofs.Yteblkbneghbcbaa
