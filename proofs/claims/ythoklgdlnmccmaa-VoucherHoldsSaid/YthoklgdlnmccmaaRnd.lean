import Derived.Test.YthoklgdlnmccmaaRefS
import Derived.Test.YthoklgdlnmccmaaVisitQ
import Derived.Laws.EntriesVeiled
import Derived.Test.YthoklgdlnmccmaaSpread
import Derived.Test.YthoklgdlnmccmaaRSearch
import Derived.Deep.OwnRows
/- Rounds: only rows that wait are gone over, by round and by vertex. Plain. -/
namespace Go.Proofs.Ythoklgdlnmccmaa
set_option linter.unusedVariables false

/-- Who waits. -/
def wat (W : List Bool) (v : Nat) : Bool := W[v]?.getD false
theorem wat_set (W : List Bool) (i j : Nat) (x : Bool) (hi : i < W.length) : wat (W.set i x) j = if j = i then x else wat W j := by
  unfold wat
  by_cases e : j = i
  · subst e; rw [if_pos rfl, List.getElem?_set_self hi]; rfl
  · rw [if_neg e, List.getElem?_set_ne (fun h => e h.symm)]
/-- How many of the first m wait. -/
def cw (W : List Bool) : Nat → Nat
  | 0 => 0
  | v + 1 => cw W v + (if wat W v then 1 else 0)
theorem cw_le (W : List Bool) (m : Nat) : cw W m ≤ m := by
  induction m with
  | zero => exact Nat.le_refl _
  | succ m ih => rw [cw]; split <;> omega
theorem cw_same {W X : List Bool} {m : Nat} (h : ∀ v, v < m → wat W v = wat X v) : cw W m = cw X m := by
  induction m with
  | zero => rfl
  | succ m ih => rw [cw, cw, ih (fun v hv => h v (by omega)), h m (by omega)]
theorem cw_on {W X : List Bool} {m i : Nat} (hi : i < m) (h : ∀ v, v < m → v ≠ i → wat W v = wat X v) (h0 : wat W i = false) (h1 : wat X i = true) : cw X m = cw W m + 1 := by
  induction m with
  | zero => omega
  | succ m ih =>
    rw [cw, cw]
    rcases Nat.lt_or_ge i m with h3 | h3
    · rw [ih h3 (fun v hv => h v (by omega)), h m (by omega) (by omega)]; omega
    · obtain rfl : i = m := by omega
      rw [cw_same (fun v hv => h v (by omega) (by omega)), h0, h1]; simp
theorem pigeon (f : Nat → Pr) (hf : ∀ a b, f a = f b → a = b) (W : List Bool) (m : Nat) : ∀ q : List Pr, (∀ v, v < m → wat W v = true → f v ∈ q) → cw W m ≤ q.length := by
  induction m with
  | zero => intro q _; exact Nat.zero_le _
  | succ m ih =>
    intro q h
    rw [cw]
    by_cases hm : wat W m = true
    · have h1 := h m (by omega) hm
      have h2 := ih (q.erase (f m)) (fun v hv hw => (List.mem_erase_of_ne (fun e => by have := hf _ _ e; omega)).2 (h v (by omega) hw))
      rw [List.length_erase_of_mem h1] at h2
      have h3 : 0 < q.length := List.length_pos_of_mem h1
      rw [if_pos hm]; omega
    · rw [if_neg hm]
      exact ih q (fun v hv hw => h v (by omega) hw)
/-- When a vertex that waits is due: in the round ρ + 1 from d on, else in the next one. -/
def due (ρ d v : Nat) : Pr := (if d ≤ v then ((ρ + 1 : Nat) : Int) else ((ρ + 2 : Nat) : Int), (v : Int))
theorem due_inj {ρ d a b : Nat} (h : due ρ d a = due ρ d b) : a = b := by
  have : (due ρ d a).2 = (due ρ d b).2 := by rw [h]
  simp only [due] at this
  omega
section
variable {n : Nat} {st tl wt : List Int} {k : Int} {S : List Pr} {L0 L M : List Int} {q q2 : List Pr} {W : List Bool} {c ρ d i : Nat}
/-- Edges that lower nothing are passed. -/
theorem swp_still {a b : Nat} (hab : a ≤ b) (h : ∀ e, a ≤ e → e < b → at_ (swp n st tl wt k L a) (tov tl e) ≤ ext k (at_ (swp n st tl wt k L a) (src st n e)) (at_ wt e)) : swp n st tl wt k L b = swp n st tl wt k L a := by
  induction b with
  | zero => obtain rfl : a = 0 := by omega
            rfl
  | succ b ih =>
    rcases Nat.lt_or_ge b a with h1 | h1
    · obtain rfl : a = b + 1 := by omega
      rfl
    · have h2 := ih h1 (fun e h3 h4 => h e h3 (by omega))
      have h3 := h b h1 (by omega)
      rw [swp, h2, if_neg (by omega)]
/-- Rounds on its way: the round ρ + 1, due from d on, gone over to the edge i. -/
structure RV (n : Nat) (st tl wt : List Int) (k : Int) (S : List Pr) (L0 : List Int) (L : List Int) (q : List Pr) (W : List Bool) (c ρ d i : Nat) : Prop where
  eq : L = swp n st tl wt k (rnd n st tl wt k L0 ρ) i
  ll : LL n st tl wt k S L
  hd : d ≤ n
  hi : (i : Int) ≤ at_ st d
  wl : W.length = n
  ent : ∀ e, e ∈ q → ∃ v, v < n ∧ wat W v = true ∧ e = due ρ d v
  inq : ∀ v, v < n → wat W v = true → due ρ d v ∈ q
  cnt : q.length = cw W n
  rel : ∀ e, e < tl.length → wat W (src st n e) = false → (e < i ∨ at_ st d ≤ (e : Int)) → at_ L (tov tl e) ≤ ext k (at_ L (src st n e)) (at_ wt e)
  ch : ∀ j, j < ρ → rnd n st tl wt k L0 (j + 1) ≠ rnd n st tl wt k L0 j
  now : (c = ρ + 1 ∧ sm L n < sm (rnd n st tl wt k L0 ρ) n) ∨ (c = ρ ∧ L = rnd n st tl wt k L0 ρ ∧ ∀ v, v < d → wat W v = false)
theorem RV.few (hg : Good n st tl wt) (hwb : ∀ e, 0 ≤ at_ wt e ∧ at_ wt e ≤ 18446744073709551615) (hS : ∀ j, j < S.length → 0 ≤ (sAt S j).2 ∧ (sAt S j).2 ≤ 18446744073709551615) (h0 : LL n st tl wt k S L0) (h : RV n st tl wt k S L0 L q W c ρ d i) : ρ ≤ n := rnd_few hg hwb hS h0 ρ h.ch
/-- An edge's row. -/
theorem src_row (hg : Good n st tl wt) {e : Nat} (he : e < tl.length) : at_ st (src st n e) ≤ (e : Int) ∧ (e : Int) < at_ st (src st n e + 1) := by
  have hs := src_lt hg he
  suffices hx : ∃ v, v < n ∧ at_ st v ≤ (e : Int) ∧ (e : Int) < at_ st (v + 1) by
    obtain ⟨v, h1, h2, h3⟩ := hx
    rw [src_eq hg h1 h2 h3]; exact ⟨h2, h3⟩
  have key : ∀ m, m ≤ n → (e : Int) < at_ st m → ∃ v, v < n ∧ at_ st v ≤ (e : Int) ∧ (e : Int) < at_ st (v + 1) := by
    intro m
    induction m with
    | zero => intro _ h; rw [hg.zero] at h; omega
    | succ m ih =>
      intro hm h
      by_cases h1 : (e : Int) < at_ st m
      · exact ih (by omega) h1
      · exact ⟨m, by omega, by omega, h⟩
  exact key n (Nat.le_refl _) (by rw [hg.last]; omega)
theorem src_ge (hg : Good n st tl wt) {e d : Nat} (he : e < tl.length) (hd : d ≤ n) (h : at_ st d ≤ (e : Int)) : d ≤ src st n e := by
  have h1 := src_row hg he
  have hs := src_lt hg he
  rcases Nat.lt_or_ge (src st n e) d with h2 | h2
  · have := hg.mono (src st n e + 1) d (by omega) hd; omega
  · exact h2
theorem src_below (hg : Good n st tl wt) {e d : Nat} (he : e < tl.length) (hd : d ≤ n) (h : (e : Int) < at_ st d) : src st n e < d := by
  have h1 := src_row hg he
  have hs := src_lt hg he
  rcases Nat.lt_or_ge (src st n e) d with h2 | h2
  · exact h2
  · have := hg.mono d (src st n e) h2 (by omega); omega
/-- Nothing waits: the labels are the least, and the round is told. -/
theorem RV.done (hg : Good n st tl wt) (hwb : ∀ e, 0 ≤ at_ wt e ∧ at_ wt e ≤ 18446744073709551615) (h : RV n st tl wt k S L0 L [] W c ρ d i) (hi : (i : Int) = at_ st d) :
    L = rnd n st tl wt k L0 c ∧ rnd n st tl wt k L0 (c + 1) = rnd n st tl wt k L0 c ∧ (∀ j, j < c → rnd n st tl wt k L0 (j + 1) ≠ rnd n st tl wt k L0 j) ∧ ∀ e, e < tl.length → at_ L (tov tl e) ≤ ext k (at_ L (src st n e)) (at_ wt e) := by
  have hW : ∀ v, v < n → wat W v = false := fun v hv => by
    cases hw : wat W v with
    | false => rfl
    | true => have := h.inq v hv hw; simp at this
  have hbell : ∀ e, e < tl.length → at_ L (tov tl e) ≤ ext k (at_ L (src st n e)) (at_ wt e) := fun e he => h.rel e he (hW _ (src_lt hg he)) (by omega)
  have him : i ≤ tl.length := by have := (hg.range d h.hd).2; omega
  have hend : swp n st tl wt k (rnd n st tl wt k L0 ρ) tl.length = L := by
    rw [h.eq]
    exact swp_still him (fun e _ he => by rw [← h.eq]; exact hbell e he)
  have hfix : swp n st tl wt k L tl.length = L := swp_still (a := 0) (Nat.zero_le _) (fun e _ he => hbell e he)
  rcases h.now with ⟨h1, h2⟩ | ⟨h1, h2, _⟩
  · subst h1
    have h3 : rnd n st tl wt k L0 (ρ + 1) = L := hend
    refine ⟨h3.symm, ?_, fun j hj => ?_, hbell⟩
    · rw [rnd, h3]; exact hfix
    · rcases Nat.lt_or_ge j ρ with h4 | h4
      · exact h.ch j h4
      · obtain rfl : j = ρ := by omega
        intro h5
        rw [← h5, h3] at h2
        omega
  · subst h1
    refine ⟨h2, ?_, h.ch, hbell⟩
    rw [rnd, ← h2]; exact hfix
/-- The one that is due first: its row is begun. -/
theorem RV.jump (hg : Good n st tl wt) (hwb : ∀ e, 0 ≤ at_ wt e ∧ at_ wt e ≤ 18446744073709551615) (h : RV n st tl wt k S L0 L q W c ρ d i) (hi : (i : Int) = at_ st d) (hp : V.Hp q) (hl : 0 < q.length)
    (hq : ∀ e, e ∈ q ↔ e = sAt q 0 ∨ e ∈ q2) (hq2 : q.length = q2.length + 1) :
    ∃ ρ' v i' : Nat, v < n ∧ sAt q 0 = (((ρ' + 1 : Nat) : Int), (v : Int)) ∧ (i' : Int) = at_ st v ∧ RV n st tl wt k S L0 L q2 (W.set v false) c ρ' (v + 1) i' := by
  have hin : sAt q 0 ∈ q := (hq _).2 (.inl rfl)
  obtain ⟨v, hvn, hwv, hev⟩ := h.ent _ hin
  have hleast : ∀ x, x < n → wat W x = true → V.key (due ρ d v) ≤ V.key (due ρ d x) := fun x hx hw => by
    have := hp.least (h.inq x hx hw)
    rw [← hev]; exact this
  have hvI : (v : Int) < 1048576 := by have := hg.n_le; omega
  have hnI := hg.n_le
  have him : i ≤ tl.length := by have := (hg.range d h.hd).2; omega
  have hrel : ∀ e, e < tl.length → wat W (src st n e) = false → at_ L (tov tl e) ≤ ext k (at_ L (src st n e)) (at_ wt e) := fun e he hw => h.rel e he hw (by omega)
  obtain ⟨i', hi'⟩ : ∃ i' : Nat, (i' : Int) = at_ st v := ⟨(at_ st v).toNat, by have := (hg.range v (by omega)).1; omega⟩
  have him' : i' ≤ tl.length := by have := (hg.range v (by omega)).2; omega
  have hvl : v < W.length := by rw [h.wl]; exact hvn
  have hW' : ∀ x, wat (W.set v false) x = if x = v then false else wat W x := fun x => wat_set W v x false hvl
  have hcw : cw W n = cw (W.set v false) n + 1 := cw_on hvn (fun x hx hne => by rw [hW', if_neg hne]) (by rw [hW', if_pos rfl]) hwv
  -- a place that fits gives all
  have fin : ∀ ρ', (∀ x, x < n → wat W x = true → due ρ d x = due ρ' v x) → L = swp n st tl wt k (rnd n st tl wt k L0 ρ') i' → (∀ j, j < ρ' → rnd n st tl wt k L0 (j + 1) ≠ rnd n st tl wt k L0 j) →
      ((c = ρ' + 1 ∧ sm L n < sm (rnd n st tl wt k L0 ρ') n) ∨ (c = ρ' ∧ L = rnd n st tl wt k L0 ρ' ∧ ∀ x, x < v → wat W x = false)) →
      sAt q 0 = (((ρ' + 1 : Nat) : Int), (v : Int)) ∧ RV n st tl wt k S L0 L q2 (W.set v false) c ρ' (v + 1) i' := by
    intro ρ' hdue heq hch hnow
    have hdue2 : ∀ x, x < n → x ≠ v → wat W x = true → due ρ d x = due ρ' (v + 1) x := fun x hx hne hw => by
      rw [hdue x hx hw]
      unfold due
      by_cases h1 : v ≤ x
      · rw [if_pos h1, if_pos (by omega)]
      · rw [if_neg h1, if_neg (by omega)]
    have hnot : sAt q 0 ∉ q2 := fun hm => by
      have h1 := pigeon (due ρ d) (fun a b => due_inj) W n q2 (fun x hx hw => by
        rcases (hq _).1 (h.inq x hx hw) with h2 | h2
        · rw [h2]; exact hm
        · exact h2)
      have h2 := h.cnt
      omega
    refine ⟨by rw [hev, hdue v hvn hwv]; unfold due; rw [if_pos (Nat.le_refl _)], heq, h.ll, by omega, by have := hg.step v hvn; omega, by rw [List.length_set]; exact h.wl, fun e he => ?_, fun x hx hw => ?_, by have := h.cnt; omega, fun e he hw hor => ?_, hch, ?_⟩
    · obtain ⟨x, hx, hw, hex⟩ := h.ent e ((hq e).2 (.inr he))
      have hxv : x ≠ v := fun e2 => by
        subst e2
        rw [hex, ← hev] at he
        exact hnot he
      exact ⟨x, hx, by rw [hW', if_neg hxv]; exact hw, by rw [hex, hdue2 x hx hxv hw]⟩
    · rw [hW'] at hw
      by_cases hxv : x = v
      · rw [if_pos hxv] at hw; cases hw
      · rw [if_neg hxv] at hw
        rw [← hdue2 x hx hxv hw]
        rcases (hq _).1 (h.inq x hx hw) with h2 | h2
        · exfalso; rw [hev] at h2; exact hxv (due_inj h2)
        · exact h2
    · rw [hW'] at hw
      by_cases hxv : src st n e = v
      · exfalso
        have h1 := src_row hg he
        rw [hxv] at h1
        omega
      · rw [if_neg hxv] at hw
        exact hrel e he hw
    · rcases hnow with h1 | ⟨h1, h2, h3⟩
      · exact .inl h1
      · refine .inr ⟨h1, h2, fun x hx => ?_⟩
        rw [hW']
        by_cases hxv : x = v
        · rw [if_pos hxv]
        · rw [if_neg hxv]; exact h3 x (by omega)
  by_cases hdv : d ≤ v
  · refine ⟨ρ, v, i', hvn, ?_⟩
    have hno : ∀ x, d ≤ x → x < v → wat W x = false := fun x h1 h2 => by
      cases hw : wat W x with
      | false => rfl
      | true =>
        exfalso
        have h3 := hleast x (by omega) hw
        simp only [V.key, due, if_pos hdv, if_pos h1] at h3
        omega
    have hii : i ≤ i' := by have := hg.mono d v hdv (by omega); omega
    obtain ⟨h1, h2⟩ := fin ρ (fun x hx hw => by
      unfold due
      by_cases h1 : d ≤ x
      · by_cases h2 : v ≤ x
        · rw [if_pos h1, if_pos h2]
        · have := hno x h1 (by omega); rw [this] at hw; cases hw
      · rw [if_neg h1, if_neg (by omega)]) (by
      rw [swp_still hii (fun e h1 h2 => ?_)]
      · exact h.eq
      · rw [← h.eq]
        have hel : e < tl.length := by omega
        exact hrel e hel (hno _ (src_ge hg hel h.hd (by omega)) (src_below hg hel (by omega) (by omega)))) h.ch (by
      rcases h.now with h1 | ⟨h1, h2, h3⟩
      · exact .inl h1
      · refine .inr ⟨h1, h2, fun x hx => ?_⟩
        rcases Nat.lt_or_ge x d with h4 | h4
        · exact h3 x h4
        · exact hno x h4 hx)
    exact ⟨h1, hi', h2⟩
  · have hno1 : ∀ x, d ≤ x → x < n → wat W x = false := fun x h1 h2 => by
      cases hw : wat W x with
      | false => rfl
      | true =>
        exfalso
        have h3 := hleast x h2 hw
        simp only [V.key, due, if_neg hdv, if_pos h1] at h3
        omega
    have hno2 : ∀ x, x < v → wat W x = false := fun x h1 => by
      cases hw : wat W x with
      | false => rfl
      | true =>
        exfalso
        have h3 := hleast x (by omega) hw
        simp only [V.key, due, if_neg hdv, if_neg (show ¬ d ≤ x by omega)] at h3
        omega
    have hend : rnd n st tl wt k L0 (ρ + 1) = L := by
      rw [rnd, swp_still him (fun e h1 h2 => ?_)]
      · exact h.eq.symm
      · rw [← h.eq]
        exact hrel e h2 (hno1 _ (src_ge hg h2 h.hd (by omega)) (src_lt hg h2))
    have hc : c = ρ + 1 ∧ sm L n < sm (rnd n st tl wt k L0 ρ) n := by
      rcases h.now with h1 | ⟨h1, h2, h3⟩
      · exact h1
      · have := h3 v (by omega); rw [this] at hwv; cases hwv
    refine ⟨ρ + 1, v, i', hvn, ?_⟩
    obtain ⟨h1, h2⟩ := fin (ρ + 1) (fun x hx hw => by
      have hxd : ¬ d ≤ x := fun h1 => by have := hno1 x h1 hx; rw [this] at hw; cases hw
      have hxv : v ≤ x := by
        rcases Nat.lt_or_ge x v with h1 | h1
        · have := hno2 x h1; rw [this] at hw; cases hw
        · exact h1
      unfold due
      rw [if_neg hxd, if_pos hxv]) (by
      rw [hend, swp_still (a := 0) (Nat.zero_le i') (fun e h1 h2 => ?_)]
      · rfl
      · have hel : e < tl.length := by omega
        exact hrel e hel (hno2 _ (src_below hg hel (by omega) (by omega)))) (fun j hj => by
      rcases Nat.lt_or_ge j ρ with h4 | h4
      · exact h.ch j h4
      · obtain rfl : j = ρ := by omega
        intro h5
        rw [← h5, hend] at hc
        omega) (.inr ⟨hc.1, hend.symm, hno2⟩)
    exact ⟨h1, hi', h2⟩
/-- An edge that lowers nothing. -/
theorem RV.skip (hg : Good n st tl wt) (h : RV n st tl wt k S L0 L q W c ρ d i) (hlt : (i : Int) < at_ st d) (hx : ¬ ext k (at_ L (src st n i)) (at_ wt i) < at_ L (tov tl i)) : RV n st tl wt k S L0 L q W c ρ d (i + 1) := by
  refine ⟨?_, h.ll, h.hd, by omega, h.wl, h.ent, h.inq, h.cnt, fun e he hw hor => ?_, h.ch, h.now⟩
  · rw [swp, ← h.eq, if_neg hx]
  · by_cases hei : e = i
    · subst hei; omega
    · exact h.rel e he hw (by omega)
/-- An edge that lowers its end's label; that vertex waits now. -/
theorem RV.lower (hg : Good n st tl wt) (hwb : ∀ e, 0 ≤ at_ wt e ∧ at_ wt e ≤ 18446744073709551615) (h : RV n st tl wt k S L0 L q W c ρ d i) (hlt : (i : Int) < at_ st d) (hx : ext k (at_ L (src st n i)) (at_ wt i) < at_ L (tov tl i))
    {W2 : List Bool} (hwl : W2.length = n) (hw2 : ∀ v, wat W2 v = if v = tov tl i then true else wat W v) (hq : ∀ e, e ∈ q2 ↔ e ∈ q ∨ e = due ρ d (tov tl i)) (hc : q2.length = cw W2 n) :
    RV n st tl wt k S L0 (L.set (tov tl i) (ext k (at_ L (src st n i)) (at_ wt i))) q2 W2 (ρ + 1) ρ d (i + 1) ∧ 2 * sm (L.set (tov tl i) (ext k (at_ L (src st n i)) (at_ wt i))) n + q2.length + (if wat W (tov tl i) then 1 else 0) ≤ 2 * sm L n + q.length := by
  have him : i < tl.length := by have := (hg.range d h.hd).2; omega
  have hv : tov tl i < n := (tov_lt hg him).1
  have hl := h.ll.edge hg hwb him hx
  have A : ∀ j, at_ (L.set (tov tl i) (ext k (at_ L (src st n i)) (at_ wt i))) j = if j = tov tl i then ext k (at_ L (src st n i)) (at_ wt i) else at_ L j := fun j => at_set _ _ _ _ (by rw [h.ll.len]; exact hv)
  have hdn : ∀ j, at_ (L.set (tov tl i) (ext k (at_ L (src st n i)) (at_ wt i))) j ≤ at_ L j := fun j => by
    rw [A]
    by_cases e : j = tov tl i
    · rw [if_pos e]; subst e; omega
    · rw [if_neg e]; exact Int.le_refl _
  have hsm : sm (L.set (tov tl i) (ext k (at_ L (src st n i)) (at_ wt i))) n < sm L n := sm_lt (v := tov tl i) (fun v hv2 => ⟨hdn v, (hl.rng v hv2).1⟩) hv (by rw [A, if_pos rfl]; exact hx)
  have hcnt : cw W2 n + (if wat W (tov tl i) then 1 else 0) = cw W n + 1 := by
    cases hwv : wat W (tov tl i) with
    | true =>
      rw [cw_same (W := W2) (X := W) (fun v _ => by rw [hw2]; by_cases e : v = tov tl i; · rw [if_pos e, e, hwv]
                                                    · rw [if_neg e])]
      rfl
    | false =>
      rw [cw_on (W := W) (X := W2) hv (fun v _ hne => by rw [hw2, if_neg hne]) hwv (by rw [hw2, if_pos rfl])]
      simp
  have hle : sm L n ≤ sm (rnd n st tl wt k L0 ρ) n := by
    rcases h.now with h1 | h1
    · omega
    · rw [h1.2.1]; exact Nat.le_refl _
  refine ⟨⟨?_, hl, h.hd, by omega, hwl, fun e he => ?_, fun v hv2 hw => ?_, hc, fun e he hw hor => ?_, h.ch, .inl ⟨rfl, by omega⟩⟩, ?_⟩
  · rw [swp, ← h.eq, if_pos hx]
  · rcases (hq e).1 he with h1 | h1
    · obtain ⟨v, hv2, hw, hev⟩ := h.ent e h1
      refine ⟨v, hv2, ?_, hev⟩
      rw [hw2]
      by_cases e2 : v = tov tl i
      · rw [if_pos e2]
      · rw [if_neg e2]; exact hw
    · exact ⟨tov tl i, hv, by rw [hw2, if_pos rfl], h1⟩
  · rw [hw2] at hw
    by_cases e2 : v = tov tl i
    · rw [e2]; exact (hq _).2 (.inr rfl)
    · rw [if_neg e2] at hw
      exact (hq _).2 (.inl (h.inq v hv2 hw))
  · rw [hw2] at hw
    by_cases e2 : src st n e = tov tl i
    · rw [if_pos e2] at hw; cases hw
    · rw [if_neg e2] at hw
      rw [A (src st n e), if_neg e2]
      by_cases hei : e = i
      · subst hei; rw [A, if_pos rfl]; exact Int.le_refl _
      · have h1 := h.rel e he hw (by omega)
        have h2 := hdn (tov tl e)
        omega
  · have := h.cnt
    split
    · rename_i h5; rw [if_pos h5] at hcnt; omega
    · rename_i h5; rw [if_neg h5] at hcnt; omega
/-- At the beginning: the first j vertices looked at. -/
structure RI (n : Nat) (L : List Int) (q : List Pr) (W : List Bool) (j : Nat) : Prop where
  wl : W.length = n
  is : ∀ v, v < n → (wat W v = true ↔ v < j ∧ at_ L v ≠ Nev)
  ent : ∀ e, e ∈ q → ∃ v, v < n ∧ wat W v = true ∧ e = due 0 0 v
  inq : ∀ v, v < n → wat W v = true → due 0 0 v ∈ q
  cnt : q.length = cw W n
theorem RI.none_ : RI n L [] (List.replicate n false) 0 := by
  have hw : ∀ v, wat (List.replicate n false) v = false := fun v => by
    unfold wat
    rw [List.getElem?_replicate]
    split <;> rfl
  refine ⟨by simp, fun v _ => by rw [hw]; simp, fun e he => by simp at he, (fun v _ h => by rw [hw] at h; cases h), ?_⟩
  have : ∀ m, cw (List.replicate n false) m = 0 := fun m => by
    induction m with
    | zero => rfl
    | succ m ih => rw [cw, ih, hw]; rfl
  rw [this]; rfl
theorem RI.skip {j : Nat} (h : RI n L q W j) (hn : at_ L j = Nev) : RI n L q W (j + 1) := by
  refine ⟨h.wl, fun v hv => ?_, h.ent, h.inq, h.cnt⟩
  rw [h.is v hv]
  constructor
  · rintro ⟨a, b⟩; exact ⟨by omega, b⟩
  · rintro ⟨a, b⟩
    refine ⟨?_, b⟩
    rcases Nat.lt_or_ge v j with h1 | h1
    · exact h1
    · obtain rfl : v = j := by omega
      exact absurd hn b
theorem RI.off {j : Nat} (h : RI n L q W j) (hj : j < n) : wat W j = false := by
  cases hw : wat W j with
  | false => rfl
  | true => have := ((h.is j hj).1 hw).1; omega
theorem RI.wait {j : Nat} (h : RI n L q W j) (hj : j < n) (hn : at_ L j ≠ Nev) (hq : ∀ e, e ∈ q2 ↔ e ∈ q ∨ e = due 0 0 j) (hl : q2.length = q.length + 1) : RI n L q2 (W.set j true) (j + 1) := by
  have hW : ∀ x, wat (W.set j true) x = if x = j then true else wat W x := fun x => wat_set W j x true (by rw [h.wl]; exact hj)
  refine ⟨by rw [List.length_set]; exact h.wl, fun v hv => ?_, fun e he => ?_, fun v hv hw => ?_, ?_⟩
  · rw [hW]
    by_cases e : v = j
    · rw [if_pos e, e]; simp [hn]
    · rw [if_neg e, h.is v hv]
      constructor
      · rintro ⟨a, b⟩; exact ⟨by omega, b⟩
      · rintro ⟨a, b⟩; exact ⟨by omega, b⟩
  · rcases (hq e).1 he with h1 | h1
    · obtain ⟨v, hv, hw, hev⟩ := h.ent e h1
      refine ⟨v, hv, ?_, hev⟩
      rw [hW]
      by_cases e : v = j
      · rw [if_pos e]
      · rw [if_neg e]; exact hw
    · exact ⟨j, hj, by rw [hW, if_pos rfl], h1⟩
  · rw [hW] at hw
    by_cases e : v = j
    · rw [e]; exact (hq _).2 (.inr rfl)
    · rw [if_neg e] at hw; exact (hq _).2 (.inl (h.inq v hv hw))
  · rw [hl, h.cnt, cw_on (W := W) (X := W.set j true) hj (fun v _ hne => by rw [hW, if_neg hne]) (h.off hj) (by rw [hW, if_pos rfl])]
theorem RI.all (hg : Good n st tl wt) (hb : Beg n S L S.length) (h : RI n L q W n) : RV n st tl wt k S L L q W 0 0 0 0 := by
  have hl : LL n st tl wt k S L := LL.beg hb
  refine ⟨rfl, hl, Nat.zero_le _, by rw [hg.zero]; exact Int.le_refl _, h.wl, h.ent, h.inq, h.cnt, fun e he hw _ => ?_, fun j hj => by omega, .inr ⟨rfl, rfl, fun v hv => by omega⟩⟩
  have hs := src_lt hg he
  have hN : at_ L (src st n e) = Nev := by
    rcases Decidable.em (at_ L (src st n e) = Nev) with h1 | h1
    · exact h1
    · have := (h.is _ hs).2 ⟨hs, h1⟩; rw [this] at hw; cases hw
  rw [hN]
  have h4 : ext k Nev (at_ wt e) = Nev := by unfold ext Nev; rw [if_pos rfl]
  rw [h4]
  exact (hl.rng _ (tov_lt hg he).1).2
/-- A row gone over to its end. -/
theorem RV.bound (hg : Good n st tl wt) (h : RV n st tl wt k S L0 L q W c ρ d i) : q.length ≤ 1048576 := by
  rw [h.cnt]
  have := cw_le W n
  have := hg.n_le
  omega
end
end Go.Proofs.Ythoklgdlnmccmaa

/- Rounds: its memory; wait; what spread calls. -/
namespace Go.Proofs.Ythoklgdlnmccmaa
open Go.RowKit Go.Lib
set_option linter.unusedVariables false

namespace V
def bCells (l : List Bool) : Array Value := (l.map Value.bool).toArray
/-- A block that holds these marks. -/
def ArrB (w : World) (g : Nat) (l : List Bool) : Prop := w.heap[g]? = some (.cells (bCells l) 4 (0, 0))
theorem ArrB.cell {w : World} {g : Nat} {l : List Bool} (h : ArrB w g l) (i : Nat) (hi : i < l.length) : w.cell? ⟨g, i, none⟩ = some (.bool (wat l i)) := by
  refine cell_of h ?_
  simp [bCells, wat, hi]
theorem ArrB.free {w : World} {g : Nat} {l : List Bool} (h : ArrB w g l) (i : Nat) : w.frozen? ⟨g, i, none⟩ = false := free_of h i
theorem ArrB.put {w : World} {g : Nat} {l : List Bool} (h : ArrB w g l) (i : Nat) (x : Bool) : ArrB (w.setCell ⟨g, i, none⟩ (.bool x)) g (l.set i x) := by
  have := heap_set (i := i) h (.bool x)
  unfold ArrB
  rw [this]
  simp [bCells]
theorem info4 : (Try.prog.info? 4).map (fun i => (i.zero, i.size, i.bytes)) = some (some (.bool false), 1, 1) := by kernel_rfl
theorem arrb_made {w : World} {base g n : Nat} (h : w.ownsRow base 4 1 (.slice (some ⟨g, 0, none⟩) n n) n (madeCells (Value.bool false).cells (n * 1)).toList) : ArrB w g (List.replicate n false) := by
  obtain ⟨h1, ⟨he, _⟩ | ⟨g', cap, cur, he, hg, hh, hnc, hcm, hcur, htake⟩⟩ := h
  · simp at he
  · simp only [Value.slice.injEq, Option.some.injEq, Addr.mk.injEq, true_and, and_true] at he
    obtain ⟨rfl, rfl⟩ := he
    rw [List.take_of_length_le (by simp; omega)] at htake
    unfold ArrB
    rw [hh]
    have e : cur = bCells (List.replicate n false) := by
      apply Array.ext'
      rw [htake]
      apply List.ext_getElem
      · simp [madeCells, bCells]
      · intro i h1 h2
        simp [madeCells, bCells, Value.cells, Nat.mod_one]
    rw [e]
end V
/-- The closure wait. -/
def waitF (q0 : Nat) : Value := .func (.func 90) #[] #[.pointer (some ⟨q0 + 3, 0, none⟩), .pointer (some ⟨q0 + 1, 0, none⟩)]
/-- The memory of Rounds: the queue at q0, then the marks, the variable that holds them, the closure; the labels ahead of them. -/
structure VM (w : World) (q0 G n : Nat) (v : Value) (q : List Pr) (L : List Int) (W : List Bool) : Prop where
  qi : V.QIs w q0 (q0 + 5) v q
  arr : ArrU w G L
  wts : V.ArrB w (q0 + 2) W
  tv : w.heap[q0 + 3]? = some (.cells #[.slice (some ⟨q0 + 2, 0, none⟩) n n] 57 (0, 0))
  fv : w.heap[q0 + 4]? = some (.cells #[waitF q0] 142 (0, 0))
  gQ : G < q0
  len : L.length = n
  wl : W.length = n
  qv : w.heap[q0 + 1]? = some (.cells #[.pointer (some ⟨q0, 0, none⟩)] 136 (0, 0))
section
variable {w w' : World} {q0 G n : Nat} {v v' : Value} {q q' : List Pr} {L : List Int} {W : List Bool}
theorem VM.own (h : VM w q0 G n v q L W) (k : Nat) (hk : v.ownBlock = some k) : q0 + 5 ≤ k ∧ k < w.heap.size := by
  obtain ⟨_, ⟨rfl, _⟩ | ⟨g', c', cur, rfl, hg', hh', _⟩⟩ := h.qi.own
  · simp [Value.ownBlock] at hk
  · simp [Value.ownBlock] at hk; subst hk; exact ⟨hg', lt_of_heap hh'⟩
theorem VM.below (h : VM w q0 G n v q L W) (hb : Below w.heap.size w w') : VM w' q0 G n v q L W :=
  ⟨h.qi.below hb, (hb.block _ (lt_of_heap h.arr)).trans h.arr, (hb.block _ (lt_of_heap h.wts)).trans h.wts, (hb.block _ (lt_of_heap h.tv)).trans h.tv, (hb.block _ (lt_of_heap h.fv)).trans h.fv, h.gQ, h.len, h.wl, (hb.block _ (lt_of_heap h.qv)).trans h.qv⟩
theorem VM.queue (h : VM w q0 G n v q L W) (hc : Chg (QS q0 (q0 + 5)) w w') (hq : V.QIs w' q0 (q0 + 5) v' q') : VM w' q0 G n v' q' L W :=
  ⟨hq, hc.heap h.arr (by unfold QS; have := h.gQ; omega), hc.heap h.wts (by unfold QS; omega), hc.heap h.tv (by unfold QS; omega), hc.heap h.fv (by unfold QS; omega), h.gQ, h.len, h.wl, hc.heap h.qv (by unfold QS; omega)⟩
/-- A store elsewhere leaves the queue. -/
theorem VM.qstore (h : VM w q0 G n v q L W) (g : Nat) (hg : g ≠ q0) (hv : v.ownBlock ≠ some g) (i : Nat) (x : Value) : V.QIs (w.setCell ⟨g, i, none⟩ x) q0 (q0 + 5) v q := by
  have hne : ∀ k, k ≠ g → (w.setCell ⟨g, i, none⟩ x).heap[k]? = w.heap[k]? := fun k hk => Below.heap_setCell _ _ _ _ hk
  refine ⟨?_, ?_, h.qi.lt, by simpa [World.setCell] using h.qi.le, h.qi.rg⟩
  · rw [hne q0 (fun e => hg e.symm)]; exact h.qi.hh
  · exact own_chg (S := fun k => k = g) h.qi.own ⟨rfl, rfl, rfl, by simp [World.setCell], fun k _ hk => hne k hk⟩ (fun k hk e => hv (by rw [hk, e]))
theorem VM.label (h : VM w q0 G n v q L W) (i : Nat) (x : Int) : VM (w.setCell ⟨G, i, none⟩ (.int .u64 x)) q0 G n v q (L.set i x) W := by
  have hne : ∀ k, k ≠ G → (w.setCell ⟨G, i, none⟩ (.int .u64 x)).heap[k]? = w.heap[k]? := fun k hk => Below.heap_setCell _ _ _ _ hk
  have hgq := h.gQ
  refine ⟨h.qstore G (by omega) (fun e => by have := h.own _ e; omega) i _, h.arr.put i x, ?_, ?_, ?_, h.gQ, by rw [List.length_set]; exact h.len, h.wl, ?_⟩
  · unfold V.ArrB; rw [hne _ (by omega)]; exact h.wts
  · rw [hne _ (by omega)]; exact h.tv
  · rw [hne _ (by omega)]; exact h.fv
  · rw [hne _ (by omega)]; exact h.qv
theorem VM.mark (h : VM w q0 G n v q L W) (i : Nat) (x : Bool) : VM (w.setCell ⟨q0 + 2, i, none⟩ (.bool x)) q0 G n v q L (W.set i x) := by
  have hne : ∀ k, k ≠ q0 + 2 → (w.setCell ⟨q0 + 2, i, none⟩ (.bool x)).heap[k]? = w.heap[k]? := fun k hk => Below.heap_setCell _ _ _ _ hk
  have hgq := h.gQ
  refine ⟨h.qstore (q0 + 2) (by omega) (fun e => by have := h.own _ e; omega) i _, ?_, h.wts.put i x, ?_, ?_, h.gQ, h.len, by rw [List.length_set]; exact h.wl, ?_⟩
  · unfold ArrU; rw [hne _ (by omega)]; exact h.arr
  · rw [hne _ (by omega)]; exact h.tv
  · rw [hne _ (by omega)]; exact h.fv
  · rw [hne _ (by omega)]; exact h.qv
theorem VM.other (h : VM w q0 G n v q L W) (g : Nat) (hg : q0 + 5 ≤ g) (hv : v.ownBlock ≠ some g) (i : Nat) (x : Value) : VM (w.setCell ⟨g, i, none⟩ x) q0 G n v q L W := by
  have hne : ∀ k, k ≠ g → (w.setCell ⟨g, i, none⟩ x).heap[k]? = w.heap[k]? := fun k hk => Below.heap_setCell _ _ _ _ hk
  have hgq := h.gQ
  refine ⟨h.qstore g (by omega) hv i _, ?_, ?_, ?_, ?_, h.gQ, h.len, h.wl, ?_⟩
  · unfold ArrU; rw [hne _ (by omega)]; exact h.arr
  · unfold V.ArrB; rw [hne _ (by omega)]; exact h.wts
  · rw [hne _ (by omega)]; exact h.tv
  · rw [hne _ (by omega)]; exact h.fv
  · rw [hne _ (by omega)]; exact h.qv
/-- What a wait may turn. -/
def WT (w : World) (q0 : Nat) (v : Value) (k : Nat) : Prop := k = q0 + 2 ∨ QT w q0 v k
/-- What a wait has made: u waits. -/
def WaitV (w : World) (q0 G n : Nat) (v : Value) (q : List Pr) (L : List Int) (W : List Bool) (u : Nat) (x : Pr) (e : Ending) (w' : World) : Prop :=
  e = .returned (.tuple #[]) ∧ ∃ v' q' W', VM w' q0 G n v' q' L W' ∧ V.Hp q' ∧ (∀ a, wat W' a = if a = u then true else wat W a) ∧ ((wat W u = true ∧ q' = q) ∨ (wat W u = false ∧ q'.length = q.length + 1 ∧ ∀ e, e ∈ q' ↔ e ∈ q ∨ e = x)) ∧ Chg (WT w q0 v) w w' ∧ ∀ k, v'.ownBlock = some k → QT w q0 v k
end
set_option maxRecDepth 100000 in
set_option maxHeartbeats 2000000 in
theorem waitV_any (w : World) (q0 G n : Nat) (v : Value) (q : List Pr) (L : List Int) (W : List Bool) (h : VM w q0 G n v q L W) (hp : V.Hp q) (hq : q.length ≤ 10000000) (r : Int) (u : Nat) (hu : u < n) (hn : n ≤ 1048576) :
    Calls Try.prog 90 #[.int .i64 r, .int .i64 (u : Int), .pointer (some ⟨q0 + 3, 0, none⟩), .pointer (some ⟨q0 + 1, 0, none⟩)] w (WaitV w q0 G n v q L W u (r, (u : Int))) := by
  have H := hide h
  have hul : u < W.length := by rw [h.wl]; exact hu
  have c0 := cell_of h.tv (i := 0) rfl
  have cq := cell_of h.qv (i := 0) rfl
  have c1 := h.wts.cell u hul
  have f1 := h.wts.free u
  have cq2 := cell_of (h.mark u true).qv (i := 0) rfl
  have HPU := hide (V.push_any _ q0 (q0 + 5) v q (r, (u : Int)) (h.mark u true).qi hp hq ⟨by show (0 : Int) ≤ (u : Int); omega, by show (u : Int) < 1048576; omega⟩)
  have hul2 : (u : Int) < (n : Int) := by omega
  have HP := hide hp
  clear h hp
  cases hw : wat W u with
  | true =>
    rw [hw] at c1
    have HW : Hid (WaitV w q0 G n v q L W u (r, (u : Int)) (.returned (.tuple #[])) w) := by
      refine ⟨rfl, v, q, W, H.out, HP.out, fun a => ?_, .inl ⟨hw, rfl⟩, Chg.refl _ _, fun k hk => .inr (.inl hk)⟩
      by_cases e : a = u
      · rw [if_pos e, e, hw]
      · rw [if_neg e]
    clear HPU hw
    go_enter Try.func90, Try.ntmps90
    go_wp2
    first | go_end0 | refine bodyPost_ret (results_none rfl _ _ _) rfl ?_
    exact HW.out
  | false =>
    rw [hw] at c1
    have HWW := hide hw
    clear hw
    go_enter Try.func90, Try.ntmps90
    go_wp2_with fail
    refine HPU.out.mono ?_
    rintro e w' ⟨rfl, v', l', h1, h2, h3, h4, h5, h6⟩
    have HW : Hid (WaitV w q0 G n v q L W u (r, (u : Int)) (.returned (.tuple #[])) w') := by
      refine ⟨rfl, v', l', W.set u true, (H.out.mark u true).queue (V.qt_qs (H.out.mark u true).qi h5) h1, h2, fun a => wat_set W u a true hul, .inr ⟨HWW.out, h3, h4⟩, ?_, ?_⟩
      · have hc0 : Chg (WT w q0 v) w (w.setCell ⟨q0 + 2, u, none⟩ (.bool true)) := (Chg.refl _ w).setCell (p := ⟨q0 + 2, u, none⟩) (.inl rfl) _
        refine hc0.trans (h5.mono fun k hk => ?_)
        rcases hk with hk | hk | hk
        · exact .inr (.inl hk)
        · exact .inr (.inr (.inl hk))
        · exact .inr (.inr (.inr (by simpa [World.setCell] using hk)))
      · intro k hk
        rcases h6 k hk with h | h | h
        · exact .inl h
        · exact .inr (.inl h)
        · exact .inr (.inr (by simpa [World.setCell] using h))
    clear h1 h2 h3 h4 h5 h6 c0 c1 cq cq2 f1 HPU
    go_wp2
    first | go_end0 | refine bodyPost_ret (results_none rfl _ _ _) rfl ?_
    exact HW.out
/-- What spread calls: the round is told, and the vertex waits. -/
def LowV (w : World) (q0 G n : Nat) (v : Value) (q : List Pr) (L : List Int) (W : List Bool) (C ρ d t : Nat) (e : Ending) (w' : World) : Prop :=
  e = .returned (.tuple #[]) ∧ ∃ v' q' W', VM w' q0 G n v' q' L W' ∧ w'.heap[C]? = some (.cells #[.int .i64 ((ρ + 1 : Nat) : Int)] 3 (0, 0)) ∧ V.Hp q' ∧ (∀ a, wat W' a = if a = t then true else wat W a) ∧ ((wat W t = true ∧ q' = q) ∨ (wat W t = false ∧ q'.length = q.length + 1 ∧ ∀ e, e ∈ q' ↔ e ∈ q ∨ e = due ρ d t)) ∧ Chg (fun k => k = C ∨ WT w q0 v k) w w' ∧ ∀ k, v'.ownBlock = some k → QT w q0 v k
set_option maxRecDepth 100000 in
set_option maxHeartbeats 4000000 in
theorem lowV_any (w : World) (q0 G n : Nat) (v : Value) (q : List Pr) (L : List Int) (W : List Bool) (h : VM w q0 G n v q L W) (hp : V.Hp q) (hq : q.length ≤ 10000000) (C A ρ u t : Nat) (c0 : Int) (hC : w.heap[C]? = some (.cells #[.int .i64 c0] 3 (0, 0))) (hCq : q0 + 5 ≤ C) (hCv : v.ownBlock ≠ some C) (hA : w.heap[A]? = some (.cells #[.int .i64 ((ρ + 1 : Nat) : Int), .int .i64 (u : Int)] 139 (0, 0))) (hρ : ρ ≤ 1048576) (hu : u < n) (ht : t < n) (hn : n ≤ 1048576) :
    Calls Try.prog 95 #[.int .i64 (t : Int), .pointer (some ⟨A, 0, none⟩), .pointer (some ⟨C, 0, none⟩), .pointer (some ⟨q0 + 4, 0, none⟩)] w (LowV w q0 G n v q L W C ρ (u + 1) t) := by
  have H2 := hide (h.other C hCq hCv 0 (.int .i64 ((ρ + 1 : Nat) : Int)))
  have hAC : A ≠ C := fun e => by subst e; rw [hA] at hC; simp at hC
  have a0 := cell_of hA (i := 0) rfl
  have a1 := cell_of hA (i := 1) rfl
  have cc := cell_of hC (i := 0) rfl
  have cf := free_of hC 0
  have HC2 : Hid ((w.setCell ⟨C, 0, none⟩ (.int .i64 ((ρ + 1 : Nat) : Int))).heap[C]? = some (.cells #[.int .i64 ((ρ + 1 : Nat) : Int)] 3 (0, 0))) := by
    have := heap_set (i := 0) hC (.int .i64 ((ρ + 1 : Nat) : Int))
    show _ = _
    rw [this]; rfl
  have f0 : (w.setCell ⟨C, 0, none⟩ (.int .i64 ((ρ + 1 : Nat) : Int))).cell? ⟨q0 + 4, 0, none⟩ = some (waitF q0) := cell_of H2.out.fv rfl
  have HWT := hide (fun r => waitV_any _ q0 G n v q L W H2.out hp hq r t ht hn)
  have HCV := hide hCv
  have HCQ := hide hCq
  have HSZ := hide (lt_of_heap hC)
  obtain ⟨r1, hr1⟩ : ∃ r1 : Int, r1 = ((ρ + 1 : Nat) : Int) := ⟨_, rfl⟩
  have HR1 := hide hr1
  have HDU : Hid ((¬ (u : Int) < (t : Int) → due ρ (u + 1) t = (r1 + 1, (t : Int))) ∧ ((u : Int) < (t : Int) → due ρ (u + 1) t = (r1, (t : Int)))) := by
    refine ⟨fun h1 => ?_, fun h1 => ?_⟩
    · unfold due; rw [if_neg (by omega), hr1]; congr 1
    · unfold due; rw [if_pos (by omega), hr1]
  have hrb : r1 ≤ 1048577 := by omega
  have hrb0 : 0 ≤ r1 := by omega
  rw [← hr1] at a0 H2 HC2 HWT f0
  have key : ∀ (x : Pr) e w', due ρ (u + 1) t = x → WaitV (w.setCell ⟨C, 0, none⟩ (.int .i64 r1)) q0 G n v q L W t x e w' → LowV w q0 G n v q L W C ρ (u + 1) t e w' := by
    rintro x e w' hx ⟨rfl, v', q', W', h1, h2, h3, h4, h5, h6⟩
    have hsz : (w.setCell ⟨C, 0, none⟩ (.int .i64 r1)).heap.size = w.heap.size := by simp [World.setCell]
    refine ⟨rfl, v', q', W', h1, ?_, h2, h3, by rw [hx]; exact h4, ?_, ?_⟩
    · rw [← HR1.out]
      refine h5.heap HC2.out fun hk => ?_
      rcases hk with hk | hk | hk | hk
      · have := HCQ.out; omega
      · have := HCQ.out; omega
      · exact HCV.out hk
      · have := HSZ.out; omega
    · have c1 : Chg (fun k => k = C ∨ WT w q0 v k) w (w.setCell ⟨C, 0, none⟩ (.int .i64 r1)) := (Chg.refl _ w).setCell (p := ⟨C, 0, none⟩) (.inl rfl) _
      refine c1.trans (h5.mono fun k hk => ?_)
      rcases hk with hk | hk | hk | hk
      · exact .inr (.inl hk)
      · exact .inr (.inr (.inl hk))
      · exact .inr (.inr (.inr (.inl hk)))
      · exact .inr (.inr (.inr (.inr (by omega))))
    · intro k hk
      rcases h6 k hk with h | h | h
      · exact .inl h
      · exact .inr (.inl h)
      · exact .inr (.inr (by omega))
  have HKEY := hide key
  clear key h hC hA hp hr1 hCv hCq
  unfold waitF at f0
  by_cases hlt : (u : Int) < (t : Int)
  · have hd : decide ((u : Int) < (t : Int)) = true := decide_eq_true hlt
    go_enter Try.func95, Try.ntmps95
    go_wp2_with fail
    refine (HWT.out r1).mono ?_
    intro e w' hpost
    have HP := hide (HKEY.out _ _ _ (HDU.out.2 hlt) hpost)
    have he := hpost.1
    subst he
    clear hpost HKEY HWT f0 a0 a1 cc cf H2 HC2
    go_wp2
    first | go_end0 | refine bodyPost_ret (results_none rfl _ _ _) rfl ?_
    exact HP.out
  · have hd : decide ((u : Int) < (t : Int)) = false := decide_eq_false hlt
    go_enter Try.func95, Try.ntmps95
    go_wp2_with fail
    refine (HWT.out (r1 + 1)).mono ?_
    intro e w' hpost
    have HP := hide (HKEY.out _ _ _ (HDU.out.1 hlt) hpost)
    have he := hpost.1
    subst he
    clear hpost HKEY HWT f0 a0 a1 cc cf H2 HC2
    go_wp2
    first | go_end0 | refine bodyPost_ret (results_none rfl _ _ _) rfl ?_
    exact HP.out
end Go.Proofs.Ythoklgdlnmccmaa

/- Rounds: a row gone over. -/
namespace Go.Proofs.Ythoklgdlnmccmaa
open Go.RowKit Go.Lib
set_option linter.unusedVariables false

/-- What a row of Rounds may turn. -/
def STV (w : World) (q0 G C : Nat) (v : Value) (k : Nat) : Prop := k = G ∨ k = C ∨ WT w q0 v k
theorem STV.not {w : World} {q0 G C k : Nat} {v : Value} (h1 : k ≠ G) (h2 : k ≠ C) (h3 : k ≠ q0 + 2) (h4 : k ≠ q0) (h5 : v.ownBlock ≠ some k) (h6 : k < w.heap.size) : ¬ STV w q0 G C v k := by
  intro h
  rcases h with h | h | h | h | h | h
  · exact h1 h
  · exact h2 h
  · exact h3 h
  · exact h4 h
  · exact h5 h
  · omega
/-- A row of Rounds under way, at the place i. -/
structure SIV (n : Nat) (st tl wt : List Int) (k : Int) (S : List Pr) (L0 : List Int) (w0 w1 wr : World) (q0 G C A X M u ρ : Nat) (v : Value) (bx : Obj) (i : Nat) (v1 : Value) (q1 : List Pr) (L1 : List Int) (W1 : List Bool) (c1 : Nat) : Prop where
  vm : VM wr q0 G n v1 q1 L1 W1
  cv : wr.heap[C]? = some (.cells #[.int .i64 (c1 : Int)] 3 (0, 0))
  hp : V.Hp q1
  rv : RV n st tl wt k S L0 L1 q1 W1 c1 ρ (u + 1) i
  lo : at_ st u ≤ (i : Int)
  me : 2 * sm L1 n + q1.length ≤ M
  chg : Chg (STV w1 q0 G C v) w1 wr
  own : ∀ k, v1.ownBlock = some k → QT w1 q0 v k
  bel : Below w0.heap.size w0 wr
  box : wr.heap[X]? = some bx
  abx : wr.heap[A]? = some (.cells #[.int .i64 ((ρ + 1 : Nat) : Int), .int .i64 (u : Int)] 139 (0, 0))
/-- The walls between the blocks. -/
structure WallsV (w0 w1 : World) (q0 G C A X : Nat) (v : Value) : Prop where
  g0 : w0.heap.size ≤ G
  gq : G < q0
  s0 : w0.heap.size ≤ w1.heap.size
  cq : q0 + 5 ≤ C
  aq : q0 + 5 ≤ A
  xq : q0 + 5 ≤ X
  ac : A ≠ C
  xc : X ≠ C
  c1 : C < w1.heap.size
  a1 : A < w1.heap.size
  x1 : X < w1.heap.size
  cv : v.ownBlock ≠ some C
  av : v.ownBlock ≠ some A
  xv : v.ownBlock ≠ some X
  vB : ∀ k, v.ownBlock = some k → q0 + 5 ≤ k
section
variable {n : Nat} {st tl wt : List Int} {k : Int} {S : List Pr} {L0 : List Int} {w0 w1 wr w' : World} {q0 G C A X M u ρ : Nat} {v : Value} {bx : Obj} {i : Nat} {v1 : Value} {q1 : List Pr} {L1 : List Int} {W1 : List Bool} {c1 : Nat}
theorem WallsV.old (h : WallsV w0 w1 q0 G C A X v) (j : Nat) (hj : j < w0.heap.size) : ¬ STV w1 q0 G C v j := by
  have a := h.g0; have b := h.gq; have c := h.cq; have d := h.s0
  exact STV.not (by omega) (by omega) (by omega) (by omega) (fun e => by have := h.vB j e; omega) (by omega)
theorem WallsV.box (h : WallsV w0 w1 q0 G C A X v) : ¬ STV w1 q0 G C v X := by
  have a := h.xq; have b := h.gq
  exact STV.not (by omega) h.xc (by omega) (by omega) h.xv h.x1
theorem WallsV.abx (h : WallsV w0 w1 q0 G C A X v) : ¬ STV w1 q0 G C v A := by
  have a := h.aq; have b := h.gq
  exact STV.not (by omega) h.ac (by omega) (by omega) h.av h.a1
theorem SIV.ownC (hW : WallsV w0 w1 q0 G C A X v) (h : SIV n st tl wt k S L0 w0 w1 wr q0 G C A X M u ρ v bx i v1 q1 L1 W1 c1) : v1.ownBlock ≠ some C := fun e => by
  rcases h.own C e with h1 | h1 | h1
  · have := hW.cq; omega
  · exact hW.cv h1
  · have := hW.c1; omega
theorem SIV.drew (h : SIV n st tl wt k S L0 w0 w1 wr q0 G C A X M u ρ v bx i v1 q1 L1 W1 c1) (m : Nat) : SIV n st tl wt k S L0 w0 w1 (wr.drewN m) q0 G C A X M u ρ v bx i v1 q1 L1 W1 c1 := by
  have hb : Below wr.heap.size wr (wr.drewN m) := below_drewN (Below.refl _ _) m
  exact ⟨h.vm.below hb, (hb.block C (lt_of_heap h.cv)).trans h.cv, h.hp, h.rv, h.lo, h.me, h.chg.trans (Chg.of_below hb), h.own, below_on h.bel hb, (hb.block X (lt_of_heap h.box)).trans h.box, (hb.block A (lt_of_heap h.abx)).trans h.abx⟩
theorem SIV.skip (hg : Good n st tl wt) (h : SIV n st tl wt k S L0 w0 w1 wr q0 G C A X M u ρ v bx i v1 q1 L1 W1 c1) (hu : u < n) (hlt : (i : Int) < at_ st (u + 1)) (hx : ¬ ext k (at_ L1 u) (at_ wt i) < at_ L1 (tov tl i)) : SIV n st tl wt k S L0 w0 w1 wr q0 G C A X M u ρ v bx (i + 1) v1 q1 L1 W1 c1 := by
  refine ⟨h.vm, h.cv, h.hp, h.rv.skip hg hlt (by rw [src_eq hg hu h.lo hlt]; exact hx), by have := h.lo; omega, h.me, h.chg, h.own, h.bel, h.box, h.abx⟩
theorem SIV.lower (hg : Good n st tl wt) (hw : ∀ e, 0 ≤ at_ wt e ∧ at_ wt e ≤ 18446744073709551615) (hW : WallsV w0 w1 q0 G C A X v) (h : SIV n st tl wt k S L0 w0 w1 wr q0 G C A X M u ρ v bx i v1 q1 L1 W1 c1) (hu : u < n) (hlt : (i : Int) < at_ st (u + 1)) (hx : ext k (at_ L1 u) (at_ wt i) < at_ L1 (tov tl i)) {e : Ending}
    (hp : LowV (wr.setCell ⟨G, tov tl i, none⟩ (.int .u64 (ext k (at_ L1 u) (at_ wt i)))) q0 G n v1 q1 (L1.set (tov tl i) (ext k (at_ L1 u) (at_ wt i))) W1 C ρ (u + 1) (tov tl i) e w') :
    e = .returned (.tuple #[]) ∧ ∃ v2 q2 L2 W2 c2, SIV n st tl wt k S L0 w0 w1 w' q0 G C A X M u ρ v bx (i + 1) v2 q2 L2 W2 c2 := by
  obtain ⟨he, v2, q2, W2, p1, p2, p3, p4, p5, p6, p7⟩ := hp
  have hs := src_eq hg hu h.lo hlt
  have him : i < tl.length := by have := (hg.range (u + 1) (by omega)).2; omega
  have ht : tov tl i < n := (tov_lt hg him).1
  have hxs : ext k (at_ L1 (src st n i)) (at_ wt i) < at_ L1 (tov tl i) := by rw [hs]; exact hx
  have hq : ∀ e, e ∈ q2 ↔ e ∈ q1 ∨ e = due ρ (u + 1) (tov tl i) := by
    rcases p5 with ⟨a, rfl⟩ | ⟨a, b, c⟩
    · intro e
      constructor
      · exact .inl
      · rintro (h1 | rfl)
        · exact h1
        · exact h.rv.inq _ ht a
    · exact c
  have hc : q2.length = cw W2 n := by
    rcases p5 with ⟨a, rfl⟩ | ⟨a, b, c⟩
    · rw [h.rv.cnt]
      exact cw_same fun x _ => by
        rw [p4]
        by_cases e : x = tov tl i
        · rw [if_pos e, e, a]
        · rw [if_neg e]
    · rw [b, h.rv.cnt, cw_on (W := W1) (X := W2) ht (fun x _ hne => by rw [p4, if_neg hne]) a (by rw [p4, if_pos rfl])]
  obtain ⟨r1, r2⟩ := h.rv.lower hg hw hlt hxs p1.wl p4 hq hc
  rw [hs] at r1 r2
  obtain ⟨wm, hwm⟩ : ∃ wm, wm = wr.setCell ⟨G, tov tl i, none⟩ (.int .u64 (ext k (at_ L1 u) (at_ wt i))) := ⟨_, rfl⟩
  rw [← hwm] at p6 p7
  have hsz : wm.heap.size = wr.heap.size := by rw [hwm]; simp [World.setCell]
  have hne : ∀ j, j ≠ G → wm.heap[j]? = wr.heap[j]? := fun j hj => by rw [hwm]; exact Below.heap_setCell _ _ _ _ hj
  have c0 : Chg (STV w1 q0 G C v) w1 wm := by rw [hwm]; exact h.chg.setCell (p := ⟨G, tov tl i, none⟩) (.inl rfl) _
  have hsw := h.chg.size
  have hm : ∀ j, (j = C ∨ WT wm q0 v1 j) → STV w1 q0 G C v j := fun j hj => by
    rcases hj with hj | hj | hj | hj | hj
    · exact .inr (.inl hj)
    · exact .inr (.inr (.inl hj))
    · exact .inr (.inr (.inr (.inl hj)))
    · exact .inr (.inr (.inr (h.own j hj)))
    · exact .inr (.inr (.inr (.inr (.inr (by omega)))))
  have gq := hW.gq
  have aq := hW.aq
  have xq := hW.xq
  refine ⟨he, v2, q2, _, W2, ρ + 1, p1, p2, p3, r1, by have := h.lo; omega, ?_, c0.trans (p6.mono hm), fun j hj => ?_, ?_, ?_, ?_⟩
  · have := h.me
    split at r2 <;> omega
  · rcases p7 j hj with h1 | h1 | h1
    · exact .inl h1
    · exact h.own j h1
    · exact .inr (.inr (by omega))
  · have b1 : Below w0.heap.size w0 wm := by rw [hwm]; exact h.bel.setCell (p := ⟨G, tov tl i, none⟩) hW.g0 _
    exact below_of_chg b1 p6 fun j hj hs => hW.old j hj (hm j hs)
  · exact box_chg (by rw [hne X (by omega)]; exact h.box) p6 fun hs => hW.box (hm X hs)
  · exact box_chg (by rw [hne A (by omega)]; exact h.abx) p6 fun hs => hW.abx (hm A hs)
end
def SpreadPV (n : Nat) (st tl wt : List Int) (k : Int) (S : List Pr) (L0 : List Int) (w : World) (q0 G C M u ρ : Nat) (v : Value) (e : Ending) (w' : World) : Prop :=
  e = .returned (.tuple #[]) ∧ ∃ (v' : Value) (q' : List Pr) (L' : List Int) (W' : List Bool) (c' i' : Nat), VM w' q0 G n v' q' L' W' ∧ w'.heap[C]? = some (.cells #[.int .i64 (c' : Int)] 3 (0, 0)) ∧ V.Hp q' ∧ (i' : Int) = at_ st (u + 1) ∧ RV n st tl wt k S L0 L' q' W' c' ρ (u + 1) i' ∧ 2 * sm L' n + q'.length ≤ M ∧ Chg (STV w q0 G C v) w w' ∧ ∀ k, v'.ownBlock = some k → QT w q0 v k
set_option maxRecDepth 100000 in
set_option maxHeartbeats 8000000 in
theorem spreadV_any (n : Nat) (va vb vc : Value) (st tl wt : List Int) (k : Int) (S : List Pr) (L0 : List Int) (w0 w : World) (q0 G C A M u ρ i0 c : Nat) (v : Value) (q : List Pr) (L : List Int) (W : List Bool)
    (hg : GIs w0 n va vb vc st tl wt) (hgd : Good n st tl wt) (hw : ∀ e, 0 ≤ at_ wt e ∧ at_ wt e ≤ 18446744073709551615) (hb0 : Below w0.heap.size w0 w) (hvm : VM w q0 G n v q L W) (hC : w.heap[C]? = some (.cells #[.int .i64 (c : Int)] 3 (0, 0))) (hA : w.heap[A]? = some (.cells #[.int .i64 ((ρ + 1 : Nat) : Int), .int .i64 (u : Int)] 139 (0, 0))) (hp : V.Hp q) (hu : u < n) (hi0 : (i0 : Int) = at_ st u)
    (hrv : RV n st tl wt k S L0 L q W c ρ (u + 1) i0) (hρ : ρ ≤ 1048576) (hM : 2 * sm L n + q.length ≤ M) (hg0 : w0.heap.size ≤ G) (hCq : q0 + 5 ≤ C) (hAq : q0 + 5 ≤ A) (hCv : v.ownBlock ≠ some C) (hAv : v.ownBlock ≠ some A) :
    Calls Try.prog 94 #[gAgg n va vb vc, .int .i64 k, .slice (some ⟨G, 0, none⟩) n n, .int .i64 (u : Int), .func (.func 95) #[] #[.pointer (some ⟨A, 0, none⟩), .pointer (some ⟨C, 0, none⟩), .pointer (some ⟨q0 + 4, 0, none⟩)]] w (SpreadPV n st tl wt k S L0 w q0 G C M u ρ v) := by
  obtain ⟨ga, oa, ca, rfl, hca, hcm, hcell⟩ := hg.s.spot (by intro e; have := hgd.s_len; rw [e] at this; simp at this)
  obtain ⟨bo, cb, rfl⟩ := hg.t.shape
  obtain ⟨co, cc, rfl⟩ := hg.u.shape
  have hn := hgd.n_le
  have hm := hgd.m_le
  have hsl := hgd.s_len
  have hslH := hide hsl
  rw [hsl] at hca hcell ⊢
  have hga : ga < w0.heap.size := block_of_cell (hcell 0 (by omega))
  have HS := hide (fun W (h : Below w0.heap.size w0 W) i (hi : i < n + 1) => show W.cell? ⟨ga, oa + i, none⟩ = some (.int .i64 (at_ st i)) from (below_cell h hga).trans (hcell i (by omega)))
  have HGT := hide (fun W (h : Below w0.heap.size w0 W) i (hi : i < tl.length) => (hg.t.below h).cellAt i hi)
  have HGU := hide (fun W (h : Below w0.heap.size w0 W) i (hi : i < wt.length) => (hg.u.below h).cellAt i hi)
  obtain ⟨c0, c1, c2, c3, hb1, hs1⟩ := boxed w (.int .i64 n) (.slice (some ⟨ga, oa, none⟩) (n + 1) ca) (.slice bo tl.length cb) (.slice co wt.length cc)
  have hbx : (w.alloc (.cells #[.int .i64 n, .slice (some ⟨ga, oa, none⟩) (n + 1) ca, .slice bo tl.length cb, .slice co wt.length cc] 32)).heap[w.heap.size]? = some (.cells #[.int .i64 n, .slice (some ⟨ga, oa, none⟩) (n + 1) ca, .slice bo tl.length cb, .slice co wt.length cc] 32 (0, 0)) := heap_new _ _
  have hCl := lt_of_heap hC
  have hAl := lt_of_heap hA
  have HSI : Hid (SIV n st tl wt k S L0 w0 (w.alloc (.cells #[.int .i64 n, .slice (some ⟨ga, oa, none⟩) (n + 1) ca, .slice bo tl.length cb, .slice co wt.length cc] 32)) (w.alloc (.cells #[.int .i64 n, .slice (some ⟨ga, oa, none⟩) (n + 1) ca, .slice bo tl.length cb, .slice co wt.length cc] 32)) q0 G C A w.heap.size M u ρ v (.cells #[.int .i64 n, .slice (some ⟨ga, oa, none⟩) (n + 1) ca, .slice bo tl.length cb, .slice co wt.length cc] 32 (0, 0)) i0 v q L W c) :=
    ⟨hvm.below hb1, (hb1.block C hCl).trans hC, hp, hrv, by rw [hi0]; exact Int.le_refl _, hM, Chg.refl _ _, fun k hk => .inr (.inl hk), below_on hb0 hb1, hbx, (hb1.block A hAl).trans hA⟩
  have HWL : Hid (WallsV w0 (w.alloc (.cells #[.int .i64 n, .slice (some ⟨ga, oa, none⟩) (n + 1) ca, .slice bo tl.length cb, .slice co wt.length cc] 32)) q0 G C A w.heap.size v) := by
    have h3 := hb0.size
    have h4 := hvm.qi.le
    refine ⟨hg0, hvm.gQ, by simp; omega, hCq, hAq, h4, fun e => by subst e; rw [hA] at hC; simp at hC, by omega, by simp; omega, by simp; omega, by simp, hCv, hAv, fun e => by have := (hvm.own _ e).2; omega, fun k hk => (hvm.own k hk).1⟩
  have HEX := hide (fun a x W p q r s => extend_any k a x W p q r s)
  have HD := hide hgd
  have HW := hide hw
  have HC1 : Hid (Chg (STV w q0 G C v) w (w.alloc (.cells #[.int .i64 n, .slice (some ⟨ga, oa, none⟩) (n + 1) ca, .slice bo tl.length cb, .slice co wt.length cc] 32))) := (Chg.refl _ w).alloc _
  have HSZ : Hid (w.heap.size ≤ (w.alloc (.cells #[.int .i64 n, .slice (some ⟨ga, oa, none⟩) (n + 1) ca, .slice bo tl.length cb, .slice co wt.length cc] 32)).heap.size) := by show _ ≤ _; simp
  have e0 : (w.alloc (.cells #[.int .i64 n, .slice (some ⟨ga, oa, none⟩) (n + 1) ca, .slice bo tl.length cb, .slice co wt.length cc] 32)).cell? ⟨ga, oa + u, none⟩ = some (.int .i64 (i0 : Int)) := by rw [hi0]; exact HS.out _ (below_on hb0 hb1) u (by omega)
  have HI0 := hide hi0
  have HRO := hide hρ
  unfold gAgg
  clear hb1 hbx hvm hp hrv hM hg hcell hgd hw hi0 hsl hC hA hCl hAl hCq hAq hCv hAv hρ hg0
  go_enter Try.func94, Try.ntmps94
  go_wp2
  generalize (w.alloc (.cells #[.int .i64 n, .slice (some ⟨ga, oa, none⟩) (n + 1) ca, .slice bo tl.length cb, .slice co wt.length cc] 32)) = w1 at c0 c1 c2 c3 hs1 HSI HWL HC1 HSZ e0 ⊢
  obtain ⟨ie, hie⟩ : ∃ ie : Nat, at_ st (u + 1) = (ie : Int) := ⟨(at_ st (u + 1)).toNat, by have := (HD.out.range (u + 1) (by omega)).1; omega⟩
  have hiem : ie ≤ tl.length := by have := (HD.out.range (u + 1) (by omega)).2; omega
  have HIE := hide hie
  clear hie e0 c0 c1 c2 c3
  go_loopw [10] (fun t wr => ∃ (i : Nat) (v1 : Value) (q1 : List Pr) (L1 : List Int) (W1 : List Bool) (c1 : Nat), t = .int .i64 i ∧ SIV n st tl wt k S L0 w0 w1 wr q0 G C A w.heap.size M u ρ v (.cells #[.int .i64 n, .slice (some ⟨ga, oa, none⟩) (n + 1) ca, .slice bo tl.length cb, .slice co wt.length cc] 32 (0, 0)) i v1 q1 L1 W1 c1) (fun t _ => ie - (RowKit.intOf t).toNat)
  case atStart => exact ⟨i0, v, q, L, W, c, rfl, HSI.out⟩
  case round =>
    obtain ⟨i, v1, q1, L1, W1, c1, rfl, hsi⟩ := hrel
    have HR := hide hsi
    have c0 := cell_of hsi.box (i := 0) rfl
    have c1' := cell_of hsi.box (i := 1) rfl
    have c2 := cell_of hsi.box (i := 2) rfl
    have c3 := cell_of hsi.box (i := 3) rfl
    have e1 : wr.cell? ⟨ga, oa + (u + 1), none⟩ = some (.int .i64 (ie : Int)) := by rw [← HIE.out]; exact HS.out _ hsi.bel (u + 1) (by omega)
    have hiie : i ≤ ie := by have := hsi.rv.hi; rw [HIE.out] at this; omega
    by_cases hlt : i < ie
    · have him : i < tl.length := by omega
      have hlti : (i : Int) < at_ st (u + 1) := by rw [HIE.out]; omega
      obtain ⟨gt, ot, ct', hst', hct, d2⟩ := HGT.out wr hsi.bel i him
      simp only [Value.slice.injEq, true_and] at hst'
      obtain ⟨rfl, rfl⟩ := hst'
      obtain ⟨gu, ou, cu', hsu, hcu, d3⟩ := HGU.out wr hsi.bel i (by have := HD.out.w_len; omega)
      simp only [Value.slice.injEq, true_and] at hsu
      obtain ⟨rfl, rfl⟩ := hsu
      obtain ⟨htn, hte⟩ := tov_lt HD.out him
      rw [hte] at d2
      have hLl := hsi.vm.len
      have f0 := hsi.vm.arr.cell u (by omega)
      have f1 := hsi.vm.arr.cell (tov tl i) (by omega)
      have ff := hsi.vm.arr.free (tov tl i)
      have hLu := hsi.rv.ll.rng u hu
      have hwi := HW.out i
      have hiw : (i : Int) < (wt.length : Int) := by have := HD.out.w_len; omega
      have hit : (i : Int) < (tl.length : Int) := by omega
      have HSK := hide (fun h => SIV.skip HD.out hsi hu hlti h)
      have HLO := hide (fun m w' e h => SIV.lower HD.out HW.out HWL.out (hsi.drew m) hu hlti (w' := w') (e := e) h)
      have hqb : q1.length ≤ 10000000 := by have := hsi.rv.bound HD.out; omega
      have HWT := hide (fun (m : Nat) (x : Int) => by
        have hd := hsi.drew m
        have hgC : C ≠ G := by have := HWL.out.gq; have := HWL.out.cq; omega
        have hgA : A ≠ G := by have := HWL.out.gq; have := HWL.out.aq; omega
        exact lowV_any ((wr.drewN m).setCell ⟨G, tov tl i, none⟩ (.int .u64 x)) q0 G n v1 q1 (L1.set (tov tl i) x) W1 (hd.vm.label (tov tl i) x) hsi.hp hqb C A ρ u (tov tl i) (c1 : Int) (by rw [Below.heap_setCell _ _ _ _ hgC]; exact hd.cv) HWL.out.cq (hsi.ownC HWL.out) (by rw [Below.heap_setCell _ _ _ _ hgA]; exact hd.abx) HRO.out hu htn hn)
      have HEXX := hide (fun W => HEX.out (at_ L1 u) (at_ wt i) W hLu.1 (by have := hLu.2; unfold Nev at this; omega) hwi.1 hwi.2)
      obtain ⟨x, hx⟩ : ∃ x, x = ext k (at_ L1 u) (at_ wt i) := ⟨_, rfl⟩
      rw [← hx] at HSK HLO HEXX
      obtain ⟨yu, hyu⟩ : ∃ y, y = at_ L1 u := ⟨_, rfl⟩
      rw [← hyu] at f0 HEXX
      obtain ⟨yt, hyt⟩ : ∃ y, y = at_ L1 (tov tl i) := ⟨_, rfl⟩
      rw [← hyt] at f1 HSK HLO
      obtain ⟨z, hz⟩ : ∃ z, z = at_ wt i := ⟨_, rfl⟩
      rw [← hz] at d3 HEXX
      have HWTX := hide (fun m => HWT.out m x)
      obtain ⟨t1, ht1⟩ : ∃ t1, t1 = tov tl i := ⟨_, rfl⟩
      rw [← ht1] at d2 f1 ff HLO HWTX htn
      clear hsi hx hyu hyt hz ht1 hte HWT hLl hLu hwi hlti
      by_cases hc : x < yt
      · have hd : decide (x < yt) = true := decide_eq_true hc
        go_wp2_with fail
        go_quiet (first | (go_at_call 71; exact (HEXX.out _).mono fun _ _ h => ⟨h.1, _, h.2⟩))
        go_wp2_with fail
        refine (HWTX.out _).mono ?_
        intro e w5 hlow
        obtain ⟨rfl, hs2⟩ := HLO.out _ w5 e hc hlow
        have HN2 := hide hs2
        clear hs2 hlow HLO HWTX HSK HEXX c0 c1' c2 c3 d2 d3 f0 f1 ff e1
        go_wp2
        obtain ⟨v2, q2, L2, W2, c2, hs2⟩ := HN2.out
        exact ⟨⟨i + 1, v2, q2, L2, W2, c2, by simp, hs2⟩, by simp [RowKit.intOf]; omega⟩
      · have hd : decide (x < yt) = false := decide_eq_false hc
        have HSI2 := hide (HSK.out hc)
        go_wp2_with fail
        go_quiet (first | (go_at_call 71; exact (HEXX.out _).mono fun _ _ h => ⟨h.1, _, h.2⟩))
        go_wp2
        exact ⟨⟨i + 1, v1, q1, L1, W1, c1, by simp, HSI2.out.drew _⟩, by simp [RowKit.intOf]; omega⟩
    · obtain rfl : i = ie := by omega
      have HEND : Hid (SpreadPV n st tl wt k S L0 w q0 G C M u ρ v (.returned (.tuple #[])) wr) := by
        refine ⟨rfl, v1, q1, L1, W1, c1, i, hsi.vm, hsi.cv, hsi.hp, HIE.out.symm, hsi.rv, hsi.me, ?_, ?_⟩
        · refine HC1.out.trans (hsi.chg.mono fun k hk => ?_)
          rcases hk with hk | hk | hk | hk | hk | hk
          · exact .inl hk
          · exact .inr (.inl hk)
          · exact .inr (.inr (.inl hk))
          · exact .inr (.inr (.inr (.inl hk)))
          · exact .inr (.inr (.inr (.inr (.inl hk))))
          · exact .inr (.inr (.inr (.inr (.inr (Nat.le_trans HSZ.out hk)))))
        · intro k hk
          rcases hsi.own k hk with h | h | h
          · exact .inl h
          · exact .inr (.inl h)
          · exact .inr (.inr (Nat.le_trans HSZ.out h))
      clear hsi
      go_wp2
      first | go_end0 | refine bodyPost_ret (results_none rfl _ _ _) rfl ?_
      exact HEND.out
end Go.Proofs.Ythoklgdlnmccmaa

/- Rounds: the walk. -/
namespace Go.Proofs.Ythoklgdlnmccmaa
open Go.RowKit Go.Lib
set_option linter.unusedVariables false

/-- What the loops of Rounds may turn. -/
def LSV (q0 G : Nat) (k : Nat) : Prop := k = G ∨ k = q0 + 2 ∨ QS q0 (q0 + 5) k
theorem stv_lsv {w : World} {q0 G C n : Nat} {v : Value} {q : List Pr} {L : List Int} {W : List Bool} (h : VM w q0 G n v q L W) (hC : q0 + 5 ≤ C) (j : Nat) (hj : STV w q0 G C v j) : LSV q0 G j := by
  rcases hj with hj | hj | hj | hj | hj | hj
  · exact .inl hj
  · exact .inr (.inr (.inr (by omega)))
  · exact .inr (.inl hj)
  · exact .inr (.inr (.inl hj))
  · have := (h.own j hj).1; exact .inr (.inr (.inr (by omega)))
  · have := h.qi.le; exact .inr (.inr (.inr (by omega)))
/-- The first loop. -/
structure R1 (n : Nat) (w4 wr : World) (q0 G j : Nat) (v : Value) (q : List Pr) (L : List Int) (W : List Bool) : Prop where
  vm : VM wr q0 G n v q L W
  hp : V.Hp q
  ri : RI n L q W j
  chg : Chg (LSV q0 G) w4 wr
/-- The second loop. -/
structure R2 (n : Nat) (st tl wt : List Int) (k : Int) (S : List Pr) (L0 : List Int) (w4 wr : World) (q0 G C M : Nat) (v : Value) (q : List Pr) (L : List Int) (W : List Bool) (c ρ d i : Nat) : Prop where
  vm : VM wr q0 G n v q L W
  cv : wr.heap[C]? = some (.cells #[.int .i64 (c : Int)] 3 (0, 0))
  hp : V.Hp q
  rv : RV n st tl wt k S L0 L q W c ρ d i
  hi : (i : Int) = at_ st d
  me : 2 * sm L n + q.length ≤ M
  chg : Chg (LSV q0 G) w4 wr
  oc : v.ownBlock ≠ some C
  cq : q0 + 5 ≤ C
/-- One visit taken out. -/
structure P2 (n : Nat) (st tl wt : List Int) (k : Int) (S : List Pr) (L0 : List Int) (w4 wr : World) (q0 G C M : Nat) (v : Value) (q : List Pr) (L : List Int) (W : List Bool) (c ρ u i : Nat) : Prop where
  vm : VM wr q0 G n v q L W
  cv : wr.heap[C]? = some (.cells #[.int .i64 (c : Int)] 3 (0, 0))
  hp : V.Hp q
  rv : RV n st tl wt k S L0 L q (W.set u false) c ρ (u + 1) i
  hi : (i : Int) = at_ st u
  me : 2 * sm L n + q.length ≤ M - 1
  chg : Chg (LSV q0 G) w4 wr
  oc : v.ownBlock ≠ some C
  cq : q0 + 5 ≤ C
section
variable {n : Nat} {st tl wt : List Int} {k : Int} {S : List Pr} {L0 : List Int} {w4 wr w' : World} {q0 G C M : Nat} {v : Value} {q : List Pr} {L : List Int} {W : List Bool} {c ρ d u i : Nat}
theorem R1.skip {j : Nat} (h : R1 n w4 wr q0 G j v q L W) (hn : at_ L j = Nev) : R1 n w4 wr q0 G (j + 1) v q L W := ⟨h.vm, h.hp, h.ri.skip hn, h.chg⟩
theorem R1.wait {j : Nat} (h : R1 n w4 wr q0 G j v q L W) (hj : j < n) (hn : at_ L j ≠ Nev) {e : Ending} (hp : WaitV wr q0 G n v q L W j (1, (j : Int)) e w') : e = .returned (.tuple #[]) ∧ ∃ v' q' W', R1 n w4 w' q0 G (j + 1) v' q' L W' := by
  obtain ⟨he, v', q', W', p1, p2, p3, p4, p5, p6⟩ := hp
  rcases p4 with ⟨a, _⟩ | ⟨a, b, c⟩
  · rw [h.ri.off hj] at a; cases a
  · have hl : W'.length = n := p1.wl
    have hW : W' = W.set j true := by
      apply List.ext_getElem?
      intro x
      have h1 := p3 x
      have h2 := wat_set W j x true (by rw [h.ri.wl]; exact hj)
      rw [← h2] at h1
      unfold wat at h1
      have hl2 : (W.set j true).length = n := by rw [List.length_set]; exact h.ri.wl
      rcases Nat.lt_or_ge x n with hx | hx
      · rw [List.getElem?_eq_getElem (by omega), List.getElem?_eq_getElem (by omega)] at h1 ⊢
        simp only [Option.getD_some] at h1
        rw [h1]
      · rw [List.getElem?_eq_none (by omega), List.getElem?_eq_none (by omega)]
    subst hW
    refine ⟨he, v', q', _, p1, p2, h.ri.wait hj hn (fun e => by rw [c e]; rfl) b, h.chg.trans (p5.mono fun x hx => ?_)⟩
    rcases hx with hx | hx
    · exact .inr (.inl hx)
    · have := V.qt_qs h.vm.qi ((Chg.refl (QT wr q0 v) wr))
      rcases hx with hx | hx | hx
      · exact .inr (.inr (.inl hx))
      · have := (h.vm.own x hx).1; exact .inr (.inr (.inr (by omega)))
      · have := h.vm.qi.le; exact .inr (.inr (.inr (by omega)))
/-- The queue is full of those that have a label; the variable 'changed' is made. -/
theorem R1.all (hg : Good n st tl wt) (hb : Beg n S L S.length) (h : R1 n w4 wr q0 G n v q L W) : R2 n st tl wt k S L w4 (wr.alloc (.cells #[.int .i64 0] 3)) q0 G wr.heap.size (2 * sm L n + q.length) v q L W 0 0 0 0 := by
  have hb1 : Below wr.heap.size wr (wr.alloc (.cells #[.int .i64 0] 3)) := below_alloc (Below.refl _ _) _
  exact ⟨h.vm.below hb1, heap_new _ _, h.hp, h.ri.all hg hb, by rw [hg.zero]; rfl, Nat.le_refl _, h.chg.trans (Chg.of_below hb1), fun e => by have := (h.vm.own _ e).2; omega, h.vm.qi.le⟩
theorem R2.pop (hg : Good n st tl wt) (hwb : ∀ e, 0 ≤ at_ wt e ∧ at_ wt e ≤ 18446744073709551615) (h : R2 n st tl wt k S L0 w4 wr q0 G C M v q L W c ρ d i) (hl : 0 < q.length) :
    ∃ (ρ' u i' : Nat), u < n ∧ Calls Try.prog 93 #[.pointer (some ⟨q0, 0, none⟩)] wr fun e w' => e = .returned (.agg #[.int .i64 ((ρ' + 1 : Nat) : Int), .int .i64 (u : Int)]) ∧ ∃ v2 q2, P2 n st tl wt k S L0 w4 w' q0 G C M v2 q2 L W c ρ' u i' := by
  obtain ⟨m, hm⟩ : ∃ m, q.length = m + 1 := ⟨q.length - 1, by omega⟩
  have hpop := V.pop_any wr q0 (q0 + 5) v q m h.vm.qi h.hp hm (by have := h.rv.bound hg; omega)
  -- which one comes does not hang on the run
  have hin : sAt q 0 ∈ q := sAt_mem hl
  have hex : ∃ ρ' u, u < n ∧ sAt q 0 = (((ρ' + 1 : Nat) : Int), (u : Int)) := by
    obtain ⟨u, hu, _, he⟩ := h.rv.ent _ hin
    unfold due at he
    by_cases hd : d ≤ u
    · rw [if_pos hd] at he; exact ⟨ρ, u, hu, he⟩
    · rw [if_neg hd] at he; exact ⟨ρ + 1, u, hu, he⟩
  obtain ⟨ρ', u, hu, he⟩ := hex
  obtain ⟨i', hi'⟩ : ∃ i' : Nat, (i' : Int) = at_ st u := ⟨(at_ st u).toNat, by have := (hg.range u (by omega)).1; omega⟩
  refine ⟨ρ', u, i', hu, hpop.mono ?_⟩
  rintro e w' ⟨rfl, v2, q2, p1, p2, p3, p4, p5, p6⟩
  obtain ⟨ρ2, u2, i2, hu2, he2, hi2, hr2⟩ := h.rv.jump hg hwb h.hi h.hp hl p4 p3
  rw [he] at he2
  simp only [Prod.mk.injEq] at he2
  obtain rfl : u2 = u := by omega
  obtain rfl : ρ2 = ρ' := by omega
  obtain rfl : i2 = i' := by omega
  have hCl := lt_of_heap h.cv
  refine ⟨by rw [he]; rfl, v2, q2, h.vm.queue (V.qt_qs h.vm.qi p5) p1, ?_, p2, hr2, hi2, by have := h.me; omega, h.chg.trans ((V.qt_qs h.vm.qi p5).mono fun x hx => .inr (.inr hx)), fun e => ?_, h.cq⟩
  · refine p5.heap h.cv fun hk => ?_
    rcases hk with hk | hk | hk
    · have := h.cq; omega
    · exact h.oc hk
    · omega
  · rcases p6 _ e with h1 | h1 | h1
    · have := h.cq; omega
    · exact h.oc h1
    · omega
/-- The visit's box is made, and its vertex waits no more. -/
theorem P2.ready (h : P2 n st tl wt k S L0 w4 wr q0 G C M v q L W c ρ u i) (o : Obj) :
    VM ((wr.alloc o).setCell ⟨q0 + 2, u, none⟩ (.bool false)) q0 G n v q L (W.set u false) ∧ ((wr.alloc o).setCell ⟨q0 + 2, u, none⟩ (.bool false)).heap[C]? = some (.cells #[.int .i64 (c : Int)] 3 (0, 0)) ∧ Chg (LSV q0 G) w4 ((wr.alloc o).setCell ⟨q0 + 2, u, none⟩ (.bool false)) := by
  have hb1 : Below wr.heap.size wr (wr.alloc o) := below_alloc (Below.refl _ _) _
  refine ⟨(h.vm.below hb1).mark u false, ?_, (h.chg.trans (Chg.of_below hb1)).setCell (p := ⟨q0 + 2, u, none⟩) (.inr (.inl rfl)) _⟩
  rw [Below.heap_setCell _ _ _ _ (show C ≠ q0 + 2 by have := h.cq; omega)]
  exact (hb1.block C (lt_of_heap h.cv)).trans h.cv
end

theorem newV_any (w : World) : Calls Try.prog 88 #[.func (.func 89) #[] #[]] w fun e w' => e = .returned (.pointer (some ⟨w.heap.size, 0, none⟩)) ∧ w' = w.alloc (.cells #[.slice none 0 0, .func (.func 89) #[] #[]] 182) := by
  go_enter Try.func88, Try.ntmps88
  go_wp2
  go_ret
  exact ⟨rfl, rfl⟩
def preV (w3 : World) (n : Nat) : World :=
  ((((w3.alloc (.cells #[.slice none 0 0, .func (.func 89) #[] #[]] 182)).alloc (.cells #[.pointer (some ⟨w3.heap.size, 0, none⟩)] 136)).alloc (.cells (madeCells #[.bool false] n) 4)).alloc (.cells #[.slice (some ⟨w3.heap.size + 1 + 1, 0, none⟩) n n] 57)).alloc (.cells #[.func (.func 90) #[] #[.pointer (some ⟨w3.heap.size + 1 + 1 + 1, 0, none⟩), .pointer (some ⟨w3.heap.size + 1, 0, none⟩)]] 142)
theorem preV_made {w3 : World} {G n : Nat} {L : List Int} (h : ArrU w3 G L) (hl : L.length = n) :
    R1 n (preV w3 n) (preV w3 n) w3.heap.size G 0 (.slice none 0 0) [] L (List.replicate n false) ∧ Below w3.heap.size w3 (preV w3 n) ∧ (preV w3 n).heap.size = w3.heap.size + 5 := by
  have hG := lt_of_heap h
  have hsz : (preV w3 n).heap.size = w3.heap.size + 5 := by simp [preV]
  have hb : Below w3.heap.size w3 (preV w3 n) := below_alloc (below_alloc (below_alloc (below_alloc (below_alloc (Below.refl _ _) _) _) _) _) _
  have hmk : madeCells #[Value.bool false] n = V.bCells (List.replicate n false) := by
    apply Array.ext'
    apply List.ext_getElem
    · simp [madeCells, V.bCells]
    · intro i h1 h2
      simp [madeCells, V.bCells, Nat.mod_one]
  have h0 : (preV w3 n).heap[w3.heap.size]? = some (.cells #[.slice none 0 0, fnv 89] 182 (0, 0)) := by
    unfold preV
    rw [Below.heap_alloc _ _ _ (by simp; omega), Below.heap_alloc _ _ _ (by simp; omega), Below.heap_alloc _ _ _ (by simp; omega), Below.heap_alloc _ _ _ (by simp)]
    exact heap_new w3 _
  have hq : (preV w3 n).heap[w3.heap.size + 1]? = some (.cells #[.pointer (some ⟨w3.heap.size, 0, none⟩)] 136 (0, 0)) := by
    unfold preV
    rw [Below.heap_alloc _ _ _ (by first | (simp; done) | (simp; omega)), Below.heap_alloc _ _ _ (by first | (simp; done) | (simp; omega)), Below.heap_alloc _ _ _ (by simp)]
    have := heap_new (w3.alloc (.cells #[.slice none 0 0, .func (.func 89) #[] #[]] 182)) (.cells #[.pointer (some ⟨w3.heap.size, 0, none⟩)] 136)
    rw [show (w3.alloc (.cells #[.slice none 0 0, .func (.func 89) #[] #[]] 182)).heap.size = w3.heap.size + 1 by simp] at this
    exact this
  have h1 : (preV w3 n).heap[w3.heap.size + 2]? = some (.cells (V.bCells (List.replicate n false)) 4 (0, 0)) := by
    unfold preV
    rw [Below.heap_alloc _ _ _ (by first | (simp; done) | (simp; omega)), Below.heap_alloc _ _ _ (by simp), hmk]
    have := heap_new ((w3.alloc (.cells #[.slice none 0 0, .func (.func 89) #[] #[]] 182)).alloc (.cells #[.pointer (some ⟨w3.heap.size, 0, none⟩)] 136)) (.cells (V.bCells (List.replicate n false)) 4)
    rw [show ((w3.alloc (.cells #[.slice none 0 0, .func (.func 89) #[] #[]] 182)).alloc (.cells #[.pointer (some ⟨w3.heap.size, 0, none⟩)] 136)).heap.size = w3.heap.size + 2 by simp] at this
    exact this
  have h2 : (preV w3 n).heap[w3.heap.size + 3]? = some (.cells #[.slice (some ⟨w3.heap.size + 2, 0, none⟩) n n] 57 (0, 0)) := by
    unfold preV
    rw [Below.heap_alloc _ _ _ (by simp)]
    have := heap_new (((w3.alloc (.cells #[.slice none 0 0, .func (.func 89) #[] #[]] 182)).alloc (.cells #[.pointer (some ⟨w3.heap.size, 0, none⟩)] 136)).alloc (.cells (madeCells #[.bool false] n) 4)) (.cells #[.slice (some ⟨w3.heap.size + 1 + 1, 0, none⟩) n n] 57)
    rw [show (((w3.alloc (.cells #[.slice none 0 0, .func (.func 89) #[] #[]] 182)).alloc (.cells #[.pointer (some ⟨w3.heap.size, 0, none⟩)] 136)).alloc (.cells (madeCells #[.bool false] n) 4)).heap.size = w3.heap.size + 3 by simp] at this
    exact this
  have h3 : (preV w3 n).heap[w3.heap.size + 4]? = some (.cells #[waitF w3.heap.size] 142 (0, 0)) := by
    unfold preV
    have := heap_new ((((w3.alloc (.cells #[.slice none 0 0, .func (.func 89) #[] #[]] 182)).alloc (.cells #[.pointer (some ⟨w3.heap.size, 0, none⟩)] 136)).alloc (.cells (madeCells #[.bool false] n) 4)).alloc (.cells #[.slice (some ⟨w3.heap.size + 1 + 1, 0, none⟩) n n] 57)) (.cells #[.func (.func 90) #[] #[.pointer (some ⟨w3.heap.size + 1 + 1 + 1, 0, none⟩), .pointer (some ⟨w3.heap.size + 1, 0, none⟩)]] 142)
    rw [show ((((w3.alloc (.cells #[.slice none 0 0, .func (.func 89) #[] #[]] 182)).alloc (.cells #[.pointer (some ⟨w3.heap.size, 0, none⟩)] 136)).alloc (.cells (madeCells #[.bool false] n) 4)).alloc (.cells #[.slice (some ⟨w3.heap.size + 1 + 1, 0, none⟩) n n] 57)).heap.size = w3.heap.size + 4 by simp] at this
    exact this
  refine ⟨⟨⟨⟨h0, World.ownsRow_nil _ _ _ _, by omega, by omega, fun e he => by simp at he⟩, (hb.block G hG).trans h, h1, h2, h3, hG, hl, by simp, hq⟩, fun i _ h => by simp at h, RI.none_, Chg.refl _ _⟩, hb, hsz⟩

set_option maxRecDepth 100000 in
set_option maxHeartbeats 8000000 in
theorem rounds_good (n : Nat) (va vb vc : Value) (st tl wt : List Int) (k : Int) (sv : Value) (S : List Pr) (w : World) (hg : GIs w n va vb vc st tl wt) (hgd : Good n st tl wt) (hw : ∀ e, 0 ≤ at_ wt e ∧ at_ wt e ≤ 18446744073709551615)
    (hs : SAt w sv S) (hok : Sok n S) (hS : S.length * 16 ≤ 140737488353280) (hno : srchNo n st tl wt k S = 0) :
    Calls Try.prog 41 #[gAgg n va vb vc, .int .i64 k, sv] w (RndPost w n st tl wt k S) := by
  obtain ⟨i0, hi, hz0, hz1, hz2⟩ := info_parts V.info4
  have hst : st.length ≤ 17592186044416 := by have := hgd.s_len; have := hgd.n_le; omega
  have hto : tl.length ≤ 17592186044416 := by have := hgd.m_le; omega
  have hwt2 : wt.length ≤ 17592186044416 := by have := hgd.w_len; omega
  obtain ⟨ao, ca, rfl⟩ := hg.s.shape
  obtain ⟨bo, cb, rfl⟩ := hg.t.shape
  obtain ⟨co, cc, rfl⟩ := hg.u.shape
  obtain ⟨so, sc, rfl, hsc, hscm⟩ := hs.shape
  have hn := hgd.n_le
  obtain ⟨c0, c1, c2, c3, hb1, hs1⟩ := boxed w (.int .i64 n) (.slice ao st.length ca) (.slice bo tl.length cb) (.slice co wt.length cc)
  have HF := hide (termsS_any n _ _ _ st tl wt k _ S _ (hg.below hb1) hst hto hwt2 (hs.below hb1))
  rw [hno] at HF
  have HSTD := hide (fun W a => started_any n (.slice so S.length sc) S W a hn hok hS)
  have HG := hide hg
  have HS1 := hide (hs.below hb1)
  have HB1 := hide hb1
  have HD := hide hgd
  have HW := hide hw
  have HSB : Hid (∀ j, j < S.length → 0 ≤ (sAt S j).2 ∧ (sAt S j).2 ≤ 18446744073709551615) := fun j hj => by have := (hok j hj).2; omega
  unfold gAgg at HF ⊢
  clear hb1 hg hs hgd hw hok hno hst hto hwt2
  go_enter Try.func41, Try.ntmps41
  go_wp2_with fail
  generalize (w.alloc (.cells #[.int .i64 n, .slice ao st.length ca, .slice bo tl.length cb, .slice co wt.length cc] 32)) = w1 at c0 c1 c2 c3 hs1 HB1 HS1 HF ⊢
  refine HF.out.mono ?_
  rintro e w2 ⟨rfl, hb2⟩
  have HX2 := hide (box_keep hs1 hb2 ⟨c0, c1, c2, c3⟩)
  obtain ⟨d0, d1, d2, d3⟩ := box_keep hs1 hb2 ⟨c0, c1, c2, c3⟩
  have HB2 := hide (below_on HB1.out hb2)
  have HS2 := hide (HS1.out.below hb2)
  have hs2 : w.heap.size < w2.heap.size := by have := hb2.size; omega
  clear c0 c1 c2 c3 hb2 HF HS1 HB1
  go_wp2_with fail
  refine (HSTD.out w2 HS2.out).mono ?_
  rintro e w3 ⟨G, L, rfl, hG1, hA, hBG, hb3⟩
  clear d0 d1 d2 d3
  have HX3 := hide (box_keep hs2 hb3 HX2.out)
  obtain ⟨d0, d1, d2, d3⟩ := HX3.out
  clear d0 d1 d2 d3
  have d0a : ((w3.alloc (.cells #[.slice none 0 0, .func (.func 89) #[] #[]] 182)).alloc (.cells #[.pointer (some ⟨w3.heap.size, 0, none⟩)] 136)).cell? ⟨w.heap.size, 0, none⟩ = some (.int .i64 n) := (below_cell (below_alloc (below_alloc (Below.refl _ _) _) _) (by have := hb3.size; omega)).trans HX3.out.1
  have HNV := hide (newV_any w3)
  go_wp2_with fail
  refine HNV.out.mono ?_
  rintro e w3n ⟨rfl, rfl⟩
  clear HNV
  go_wp2_with (at_make; refine wpList_make_row _ rfl _ _ 57 rfl 4 i0 (.bool false) Try.underlying57 hi hz0 hz1 rfl _ _ n rfl rfl (by rw [hz2]; omega) (by omega) ?_)
  obtain ⟨hR1, hbp, hszp⟩ := preV_made hA hBG.len
  rw [show (((((w3.alloc (.cells #[.slice none 0 0, .func (.func 89) #[] #[]] 182)).alloc (.cells #[.pointer (some ⟨w3.heap.size, 0, none⟩)] 136)).alloc (.cells (madeCells #[.bool false] n) 4)).alloc (.cells #[.slice (some ⟨w3.heap.size + 1 + 1, 0, none⟩) n n] 57)).alloc (.cells #[.func (.func 90) #[] #[.pointer (some ⟨w3.heap.size + 1 + 1 + 1, 0, none⟩), .pointer (some ⟨w3.heap.size + 1, 0, none⟩)]] 142)) = preV w3 n from rfl]
  have HR1 := hide hR1
  have HBG := hide hBG
  have HB4 := hide (below_on HB2.out (below_on hb3 hbp))
  have HX4 := hide (box_keep hs2 (below_on hb3 hbp) HX2.out)
  have hGl := lt_of_heap hA
  have hs3 : w.heap.size < w3.heap.size := by have := hb3.size; omega
  have hG0 : w.heap.size < G := by omega
  have HSZP := hide hszp
  have hLn := hBG.len
  clear hR1 hA hBG hb3 hbp hszp HSTD HX2 HX3 HS2 HB2 d0a hi hz0 hz1 hz2
  generalize preV w3 n = w4 at HR1 HB4 HX4 HSZP ⊢
  obtain ⟨q0, hq0⟩ : ∃ q0, q0 = w3.heap.size := ⟨_, rfl⟩
  rw [← hq0] at HR1 HSZP hGl ⊢
  have hwQ : w.heap.size < q0 := by omega
  have HLS : Hid (∀ j, j ≤ w.heap.size → ¬ LSV q0 G j) := fun j hj h => by
    rcases h with h | h | h | h
    · omega
    · omega
    · omega
    · omega
  have hsw4 : w.heap.size < w4.heap.size := by have := HSZP.out; omega
  have HBXC : Hid (∀ W, Chg (LSV q0 G) w4 W → (W.cell? ⟨w.heap.size, 0, none⟩ = some (.int .i64 n) ∧ W.cell? ⟨w.heap.size, 1, none⟩ = some (.slice ao st.length ca) ∧ W.cell? ⟨w.heap.size, 2, none⟩ = some (.slice bo tl.length cb) ∧ W.cell? ⟨w.heap.size, 3, none⟩ = some (.slice co wt.length cc)) ∧ Below w.heap.size w W) := fun W hW => by
    have hc : ∀ o, W.cell? ⟨w.heap.size, o, none⟩ = w4.cell? ⟨w.heap.size, o, none⟩ := fun o => by simp only [World.cell?]; rw [hW.block _ hsw4 (HLS.out _ (Nat.le_refl _))]
    refine ⟨⟨(hc 0).trans HX4.out.1, (hc 1).trans HX4.out.2.1, (hc 2).trans HX4.out.2.2.1, (hc 3).trans HX4.out.2.2.2⟩, below_of_chg HB4.out hW (fun j hj => HLS.out j (by omega))⟩
  clear hq0 hs3 HX4 HB4 hs1 hG1 hs2
  go_loopw [36] (fun t wr => ∃ (i : Nat) (v1 : Value) (q1 : List Pr) (W1 : List Bool), i ≤ n ∧ t = .int .i64 i ∧ R1 n w4 wr q0 G i v1 q1 L W1) (fun t _ => n - (RowKit.intOf t).toNat)
  case atStart => exact ⟨0, _, _, _, by omega, rfl, HR1.out⟩
  case round =>
    obtain ⟨i, v1, q1, W1, hin, rfl, hR1⟩ := hrel
    by_cases hlt : i < n
    · have f0 := hR1.vm.arr.cell i (by omega)
      have fv := cell_of hR1.vm.fv (i := 0) rfl
      have HWT := hide (waitV_any wr q0 G n v1 q1 L W1 hR1.vm hR1.hp (by have := hR1.ri.cnt; have := cw_le W1 n; omega) 1 i hlt hn)
      have HSK := hide (fun h => hR1.skip h)
      have HWA := hide (fun w' e hne a => hR1.wait (w' := w') (e := e) hlt hne a)
      obtain ⟨y, hy⟩ : ∃ y, y = at_ L i := ⟨_, rfl⟩
      rw [← hy] at f0 HSK HWA
      unfold waitF at fv
      clear hR1 hy
      by_cases hne : y = 18446744073709551615
      · have hnb : (y != 18446744073709551615) = false := by simp [hne]
        have HS2 := hide (HSK.out hne)
        clear hne
        go_wp2
        exact ⟨⟨i + 1, v1, q1, W1, by omega, by simp, HS2.out⟩, by simp [RowKit.intOf]; omega⟩
      · have hnb : (y != 18446744073709551615) = true := by simp [hne]
        have HNE : Hid (y ≠ Nev) := hne
        clear hne
        go_wp2_with fail
        refine HWT.out.mono ?_
        intro e w5 hpost
        obtain ⟨rfl, hn2⟩ := HWA.out w5 e HNE.out hpost
        have HN2 := hide hn2
        clear hn2 hpost HWA HWT HSK f0 fv
        go_wp2
        obtain ⟨v2, q2, W2, hn2⟩ := HN2.out
        exact ⟨⟨i + 1, v2, q2, W2, by omega, by simp, hn2⟩, by simp [RowKit.intOf]; omega⟩
    · obtain rfl : i = n := by omega
      have HR2 := hide (R1.all (k := k) HD.out HBG.out hR1)
      clear hR1
      clear HR1 HLS
      go_wp2
      generalize (wr.alloc (.cells #[.int .i64 0] 3)) = w6 at HR2 ⊢
      obtain ⟨C, hC⟩ : ∃ C, C = wr.heap.size := ⟨_, rfl⟩
      rw [← hC] at HR2 ⊢
      clear hC
      go_loopg [] (2 * sm L i + q1.length) (fun M wr => ∃ (v1 : Value) (q1 : List Pr) (L1 : List Int) (W1 : List Bool) (c ρ d x : Nat), R2 i st tl wt k S L w4 wr q0 G C M v1 q1 L1 W1 c ρ d x)
      case atStart => exact ⟨_, _, _, _, _, _, _, _, HR2.out⟩
      case round =>
        obtain ⟨v1, q1, L1, W1, c, ρ, d, x, h2⟩ := hrel
        clear HR2
        have HEM := hide (V.empty_any wr q0 (q0 + 5) v1 q1 h2.vm.qi)
        have qv0 := cell_of h2.vm.qv (i := 0) rfl
        have hcb : c ≤ 1048578 := by
          have h5 := h2.rv.few HD.out HW.out HSB.out (LL.beg HBG.out)
          rcases h2.rv.now with h6 | h6
          · have := h6.1; omega
          · have := h6.1; omega
        rcases Nat.eq_zero_or_pos q1.length with hl0 | hl0
        · rw [decide_eq_true hl0] at HEM
          obtain rfl : q1 = [] := List.eq_nil_of_length_eq_zero hl0
          have HEND : Hid (RndPost w i st tl wt k S (.returned (.tuple #[.slice (some ⟨G, 0, none⟩) i i, .int .i64 ((c + 1 : Nat) : Int), .int .i64 0])) wr) := by
            obtain ⟨r1, r2, r3, r4⟩ := h2.rv.done HD.out HW.out h2.hi
            have hfd := h2.rv.ll.found r4 HW.out HSB.out
            have ha := h2.vm.arr
            rw [r1] at hfd ha
            exact ⟨G, c, L, rfl, Nat.le_of_lt hG0, HBG.out, ha, hfd, r2, r3, (HBXC.out _ h2.chg).2⟩
          have vc := cell_of h2.cv (i := 0) rfl
          clear h2 hl0
          go_wp2_with fail
          refine HEM.out.mono ?_
          rintro e w5 ⟨rfl, rfl⟩
          go_wp2
          go_quiet (fail)
          go_wp2
          go_ret3
          have hcc : ((c : Int) + 1) = ((c + 1 : Nat) : Int) := by omega
          rw [hcc]
          obtain ⟨G', j', L', he, h1, h2', h3, h4, h5, h6, h7⟩ := HEND.out
          exact ⟨G', j', L', he, h1, h2', (below_drewN (Below.refl _ _) _).block G' (lt_of_heap h3) |>.trans h3, h4, h5, h6, below_drewN h7 _⟩
        · rw [decide_eq_false (by omega)] at HEM
          obtain ⟨ρ', u, i', hun, hpop⟩ := h2.pop HD.out HW.out hl0
          obtain ⟨r1, hr1⟩ : ∃ r1 : Int, r1 = ((ρ' + 1 : Nat) : Int) := ⟨_, rfl⟩
          rw [← hr1] at hpop
          have HPOP := hide hpop
          have HRR := hide hr1
          have HM1 : Hid (1 ≤ gk) := by have := h2.me; show 1 ≤ gk; omega
          clear h2 hpop hl0 hr1
          go_wp2_with fail
          refine HEM.out.mono ?_
          rintro e w5 ⟨rfl, rfl⟩
          go_wp2_with fail
          refine HPOP.out.mono ?_
          rintro e w6 ⟨rfl, v2, q2, hp2⟩
          have hA6 : (w6.alloc (.cells #[.int .i64 r1, .int .i64 (u : Int)] 139)).heap[w6.heap.size]? = some (.cells #[.int .i64 r1, .int .i64 (u : Int)] 139 (0, 0)) := heap_new _ _
          obtain ⟨hvm, hcv, hch⟩ := hp2.ready (.cells #[.int .i64 r1, .int .i64 (u : Int)] 139)
          have hvm6 := hp2.vm.below (below_alloc (Below.refl _ _) (.cells #[.int .i64 r1, .int .i64 (u : Int)] 139))
          have a0 := cell_of hA6 (i := 0) rfl
          have a1 := cell_of hA6 (i := 1) rfl
          have t0 := cell_of hvm6.tv (i := 0) rfl
          have t1 := hvm6.wts.cell u (by rw [hvm6.wl]; exact hun)
          have tf := hvm6.wts.free u
          have hui : (u : Int) < (i : Int) := by omega
          have h6q := hp2.vm.qi.le
          have hA7 : ((w6.alloc (.cells #[.int .i64 r1, .int .i64 (u : Int)] 139)).setCell ⟨q0 + 2, u, none⟩ (.bool false)).heap[w6.heap.size]? = some (.cells #[.int .i64 r1, .int .i64 (u : Int)] 139 (0, 0)) := by
            rw [Below.heap_setCell _ _ _ _ (show w6.heap.size ≠ q0 + 2 by omega)]; exact hA6
          have a7 := cell_of hA7 (i := 1) rfl
          obtain ⟨⟨x0, x1, x2, x3⟩, hb7⟩ := HBXC.out _ hch
          have hρb : ρ' ≤ 1048576 := by have := hp2.rv.few HD.out HW.out HSB.out (LL.beg HBG.out); omega
          have HSP : Hid (Calls Try.prog 94 #[gAgg i (.slice ao st.length ca) (.slice bo tl.length cb) (.slice co wt.length cc), .int .i64 k, .slice (some ⟨G, 0, none⟩) i i, .int .i64 (u : Int), .func (.func 95) #[] #[.pointer (some ⟨w6.heap.size, 0, none⟩), .pointer (some ⟨C, 0, none⟩), .pointer (some ⟨q0 + 4, 0, none⟩)]] ((w6.alloc (.cells #[.int .i64 r1, .int .i64 (u : Int)] 139)).setCell ⟨q0 + 2, u, none⟩ (.bool false)) (fun e w' => e = .returned (.tuple #[]) ∧ ∃ v3 q3 L3 W3 c3 ρ3 d3 x3, R2 i st tl wt k S L w4 w' q0 G C (gk - 1) v3 q3 L3 W3 c3 ρ3 d3 x3)) := by
            refine (spreadV_any i _ _ _ st tl wt k S L w _ q0 G C w6.heap.size (gk - 1) u ρ' i' c v2 q2 L1 (W1.set u false) HG.out HD.out HW.out hb7 hvm hcv (by rw [← HRR.out]; exact hA7) hp2.hp hun hp2.hi hp2.rv hρb hp2.me (by omega) hp2.cq h6q hp2.oc (fun e => by have := (hp2.vm.own _ e).2; omega)).mono ?_
            rintro e w' ⟨rfl, v3, q3, L3, W3, c3, i3, s1, s2, s3, s4, s5, s6, s7, s8⟩
            refine ⟨rfl, v3, q3, L3, W3, c3, ρ', u + 1, i3, s1, s2, s3, s5, s4, s6, hch.trans (s7.mono fun j hj => stv_lsv hvm hp2.cq j hj), fun e => ?_, hp2.cq⟩
            have hCl := lt_of_heap hcv
            rcases s8 _ e with h1 | h1 | h1
            · have := hp2.cq; omega
            · exact hp2.oc h1
            · omega
          unfold gAgg at HSP
          clear hp2 hvm hcv hch hvm6 hA6 hA7 HPOP HEM hb7 hρb h6q
          go_wp2_with fail
          refine HSP.out.mono ?_
          rintro e w8 ⟨rfl, hw2⟩
          have HN2 := hide hw2
          clear hw2 a0 a1 t0 t1 tf a7 x0 x1 x2 x3 HSP
          go_wp2
          go_roundg (gk - 1)
          case measure => have := HM1.out; omega
          case rel => exact HN2.out
end Go.Proofs.Ythoklgdlnmccmaa

/- Search and Rounds, the program's and the document's: one answer. -/
namespace Go.Proofs.Ythoklgdlnmccmaa
open Go.RowKit Go.Lib
set_option linter.unusedVariables false

set_option maxRecDepth 100000 in
set_option maxHeartbeats 2000000 in
/-- Rounds where something is wrong. -/
theorem rounds_bad (N : Int) (va vb vc : Value) (st tl wt : List Int) (k : Int) (sv : Value) (S : List Pr) (w : World) (hg : GIs w N va vb vc st tl wt) (hst : st.length ≤ 17592186044416) (hto : tl.length ≤ 17592186044416) (hwt : wt.length ≤ 17592186044416) (hs : SAt w sv S) (hno : srchNo N st tl wt k S ≠ 0) :
    Calls Try.prog 41 #[gAgg N va vb vc, .int .i64 k, sv] w fun e w' => e = .returned (.tuple #[.slice none 0 0, .int .i64 0, .int .i64 (srchNo N st tl wt k S)]) ∧ Below w.heap.size w w' := by
  obtain ⟨ao, ca, rfl⟩ := hg.s.shape
  obtain ⟨bo, cb, rfl⟩ := hg.t.shape
  obtain ⟨co, cc, rfl⟩ := hg.u.shape
  obtain ⟨so, sc, rfl, hsc, hscm⟩ := hs.shape
  obtain ⟨c0, c1, c2, c3, hb1, hs1⟩ := boxed w (.int .i64 N) (.slice ao st.length ca) (.slice bo tl.length cb) (.slice co wt.length cc)
  have HF := hide (termsS_any N _ _ _ st tl wt k _ S _ (hg.below hb1) hst hto hwt (hs.below hb1))
  obtain ⟨x, hX⟩ : ∃ x, x = srchNo N st tl wt k S := ⟨_, rfl⟩
  rw [← hX] at HF hno ⊢
  have hx : (x != 0) = true := by simp [hno]
  have HB1 := hide hb1
  unfold gAgg at HF ⊢
  clear hb1 hg hs hno hX
  go_enter Try.func41, Try.ntmps41
  go_wp2_with fail
  generalize (w.alloc (.cells #[.int .i64 N, .slice ao st.length ca, .slice bo tl.length cb, .slice co wt.length cc] 32)) = w1 at c0 c1 c2 c3 hs1 HB1 HF ⊢
  refine HF.out.mono ?_
  rintro e w2 ⟨rfl, hb2⟩
  have HB2 := hide (below_on HB1.out hb2)
  clear c0 c1 c2 c3 hb2 HF
  go_wp2
  go_ret3
  exact ⟨rfl, HB2.out⟩

/-- What a search answers. -/
def SAns (L : List Int) (x : Int) (w : World) (e : Ending) (w' : World) : Prop := ∃ o n c, e = .returned (.tuple #[.slice o n c, .int .i64 x]) ∧ RowAt .u64 w' (.slice o n c) L ∧ Below w.heap.size w w'
/-- What Rounds answers. -/
def RAns (L : List Int) (j x : Int) (w : World) (e : Ending) (w' : World) : Prop := ∃ o n c, e = .returned (.tuple #[.slice o n c, .int .i64 j, .int .i64 x]) ∧ RowAt .u64 w' (.slice o n c) L ∧ Below w.heap.size w w'
theorem row_nil (w : World) : RowAt .u64 w (.slice none 0 0) [] := ⟨none, 0, rfl, Nat.le_refl _, by omega, fun _ => rfl, fun a ha => by cases ha⟩
theorem beg_is {n : Nat} {S : List Pr} (hok : Sok n S) : ∃ L, Beg n S L S.length := by
  have key : ∀ j, j ≤ S.length → ∃ L, Beg n S L j := by
    intro j
    induction j with
    | zero => exact fun _ => ⟨_, beg_zero n S⟩
    | succ j ih =>
      intro hj
      obtain ⟨L, h⟩ := ih (by omega)
      have h1 := (hok j (by omega)).1
      exact ⟨_, beg_step (v := ((sAt S j).1).toNat) h (by omega) hok (by omega)⟩
  exact key _ (Nat.le_refl _)
/-- The first round that changes nothing. -/
def Fst (n : Nat) (st tl wt : List Int) (k : Int) (L : List Int) (j : Nat) : Prop := rnd n st tl wt k L (j + 1) = rnd n st tl wt k L j ∧ ∀ i, i < j → rnd n st tl wt k L (i + 1) ≠ rnd n st tl wt k L i
theorem fst_only {n : Nat} {st tl wt : List Int} {k : Int} {L : List Int} {i j : Nat} (h : Fst n st tl wt k L i) (g : Fst n st tl wt k L j) : i = j := by
  rcases Nat.lt_trichotomy i j with h1 | h1 | h1
  · exact absurd h.1 (g.2 i h1)
  · exact h1
  · exact absurd g.1 (h.2 j h1)
theorem fst_is {n : Nat} {st tl wt : List Int} {k : Int} {S : List Pr} {L : List Int} (hg : Good n st tl wt) (hwb : ∀ e, 0 ≤ at_ wt e ∧ at_ wt e ≤ 18446744073709551615) (hS : ∀ j, j < S.length → 0 ≤ (sAt S j).2 ∧ (sAt S j).2 ≤ 18446744073709551615) (h : LL n st tl wt k S L) : ∃ j, Fst n st tl wt k L j := by
  have key : ∀ m, (∃ j, Fst n st tl wt k L j) ∨ ∀ i, i < m → rnd n st tl wt k L (i + 1) ≠ rnd n st tl wt k L i := by
    intro m
    induction m with
    | zero => exact .inr fun i hi => by omega
    | succ m ih =>
      rcases ih with h1 | h1
      · exact .inl h1
      · by_cases h2 : rnd n st tl wt k L (m + 1) = rnd n st tl wt k L m
        · exact .inl ⟨m, h2, h1⟩
        · refine .inr fun i hi => ?_
          rcases Nat.lt_or_ge i m with h3 | h3
          · exact h1 i h3
          · obtain rfl : i = m := by omega
            exact h2
  rcases key (n + 1) with h1 | h1
  · exact h1
  · have := rnd_few hg hwb hS h (n + 1) h1; omega
/-- The four calls. -/
structure Four (N : Int) (st tl wt : List Int) (k : Int) (S : List Pr) (L1 L2 : List Int) (j x : Int) : Prop where
  s : ∀ a b c sv W, GIs W N a b c st tl wt → SAt W sv S → Calls Try.prog 33 #[gAgg N a b c, .int .i64 k, sv] W (SAns L1 x W)
  rs : ∀ a b c sv W, GIs W N a b c st tl wt → SAt W sv S → Calls Try.prog 39 #[gAgg N a b c, .int .i64 k, sv] W (SAns L1 x W)
  r : ∀ a b c sv W, GIs W N a b c st tl wt → SAt W sv S → Calls Try.prog 41 #[gAgg N a b c, .int .i64 k, sv] W (RAns L2 j x W)
  rr : ∀ a b c sv W, GIs W N a b c st tl wt → SAt W sv S → Calls Try.prog 40 #[gAgg N a b c, .int .i64 k, sv] W (RAns L2 j x W)
theorem srch_good {N : Int} {st tl wt : List Int} {k : Int} {S : List Pr} (h0 : srchNo N st tl wt k S = 0) : ∃ n : Nat, N = n ∧ Good n st tl wt ∧ stNo n S = 0 := by
  unfold srchNo at h0
  by_cases h1 : fstNo N st tl wt k = 0
  · rw [if_pos h1] at h0
    obtain ⟨_, m, h2, h3⟩ := fst_good h1
    subst h2
    exact ⟨m, rfl, h3, h0⟩
  · rw [if_neg h1] at h0; exact absurd h0 h1
theorem four_any (N : Int) (st tl wt : List Int) (k : Int) (S : List Pr) (hst : st.length ≤ 17592186044416) (hto : tl.length ≤ 17592186044416) (hwt : wt.length ≤ 17592186044416) (hwb : ∀ e, 0 ≤ at_ wt e ∧ at_ wt e ≤ 18446744073709551615) (hSb : ∀ j, j < S.length → 0 ≤ (sAt S j).2 ∧ (sAt S j).2 ≤ 18446744073709551615) (hS : S.length * 16 ≤ 140737488353280) :
    ∃ L1 L2 j x, Four N st tl wt k S L1 L2 j x := by
  by_cases h0 : srchNo N st tl wt k S = 0
  · obtain ⟨n, rfl, hg, hsn⟩ := srch_good h0
    have hok := sok_of hsn (fun j hj => (hSb j hj).1)
    obtain ⟨L, hB⟩ := beg_is hok
    obtain ⟨F, hF⟩ := found_is (k := k) hg hwb hSb _ L (Nat.le_refl _) (LL.beg hB)
    obtain ⟨j, hj⟩ := fst_is (k := k) hg hwb hSb (LL.beg hB)
    have hn : n ≤ 9223372036854775807 := by have := hg.n_le; omega
    have hrn : ∀ {w : World} {w' : World} {e : Ending}, RndPost w n st tl wt k S e w' → RAns (rnd n st tl wt k L j) ((j + 1 : Nat) : Int) 0 w e w' := by
      rintro w w' e ⟨G, i, L', rfl, _, hb, hA, hF2, h1, h2, h3⟩
      obtain rfl := hb.only hB
      obtain rfl := fst_only ⟨h1, h2⟩ hj
      exact ⟨_, _, _, rfl, hA.row hF2.len hn, h3⟩
    refine ⟨F, rnd n st tl wt k L j, ((j + 1 : Nat) : Int), 0, ⟨fun a b c sv W hG hs => ?_, fun a b c sv W hG hs => ?_, fun a b c sv W hG hs => ?_, fun a b c sv W hG hs => ?_⟩⟩
    · refine (rsearch_good n a b c st tl wt k sv S W hG hg hwb hs hok hS h0).mono ?_
      rintro e w' ⟨G, M, rfl, _, hA, hM, hb⟩
      obtain rfl := hM.only hF hwb hSb
      exact ⟨_, _, _, rfl, hA.row hM.len hn, hb⟩
    · refine (refSearch_good n a b c st tl wt k sv S W hG h0 hst hto hwt hwb hs (fun j hj => (hSb j hj).1) hS).mono ?_
      rintro e w' ⟨G, M, rfl, _, hA, hM, hb⟩
      obtain rfl := hM.only hF hwb hSb
      exact ⟨_, _, _, rfl, hA.row hM.len hn, hb⟩
    · exact (rounds_good n a b c st tl wt k sv S W hG hg hwb hs hok hS h0).mono fun e w' h => hrn h
    · exact (refRounds_any n a b c st tl wt k sv S W hG h0 hst hto hwt hwb hs hSb hS hg).mono fun e w' h => hrn h
  · refine ⟨[], [], 0, srchNo N st tl wt k S, ⟨fun a b c sv W hG hs => ?_, fun a b c sv W hG hs => ?_, fun a b c sv W hG hs => ?_, fun a b c sv W hG hs => ?_⟩⟩
    · exact (rsearch_bad N a b c st tl wt k sv S W hG hst hto hwt hs h0).mono fun e w' h => ⟨_, _, _, h.1, row_nil _, h.2⟩
    · exact (refSearch_bad N a b c st tl wt k sv S W hG h0 hst hto hwt hs hS).mono fun e w' h => ⟨_, _, _, h.1, row_nil _, h.2⟩
    · exact (rounds_bad N a b c st tl wt k sv S W hG hst hto hwt hs h0).mono fun e w' h => ⟨_, _, _, h.1, row_nil _, h.2⟩
    · exact (refRounds_bad N a b c st tl wt k sv S W hG h0 hst hto hwt hs hS).mono fun e w' h => ⟨_, _, _, h.1, row_nil _, h.2⟩
end Go.Proofs.Ythoklgdlnmccmaa
