/- Plainly: the turns in which insertions come as early, removals as late as they can. -/
import Derived.Test.YtfoeljcgbfpknaaH28
namespace Go.Proofs.Ytfoeljcgbfpknaa
set_option linter.unusedVariables false
set_option linter.unusedSimpArgs false
/-- A removal that counts. -/
def tkn (s : Sp) : Bool := !s.ins && s.kind == 4
/-- Its task is taken by one. -/
def Tkn (l : List Sp) (i : Nat) : Prop := ∃ k, k < l.length ∧ tkn (spAt l k) = true ∧ tkS (spAt l k) = tkS (spAt l i)
/-- It stands in the turns. -/
def InB (l : List Sp) (i : Nat) : Prop := cntD (spAt l i) = true ∨ (putD (spAt l i) = true ∧ Tkn l i)
/-- When. -/
def momB (s : Sp) : Int := if s.ins = true then s.beg else s.en
theorem momB_in {s : Sp} (h : s.ins = true) : momB s = s.beg := by unfold momB; rw [if_pos h]
theorem momB_out {s : Sp} (h : s.ins = false) : momB s = s.en := by unfold momB; rw [if_neg (by rw [h]; decide)]
theorem tkn_iff {s : Sp} : tkn s = true ↔ s.ins = false ∧ s.kind = 4 := by unfold tkn; cases s.ins <;> simp
theorem inB_out {l : List Sp} {i : Nat} (h : InB l i) (hi : (spAt l i).ins = false) : tkn (spAt l i) = true := by
  rcases h with h | ⟨h, _⟩
  · unfold cntD at h; rw [hi] at h; rw [tkn_iff]; exact ⟨hi, by simpa using h⟩
  · unfold putD at h; rw [hi] at h; simp at h
theorem inB_in {l : List Sp} {i : Nat} (h : InB l i) (hi : (spAt l i).ins = true) : putD (spAt l i) = true := by
  rcases h with h | ⟨h, _⟩
  · unfold cntD at h; rw [hi] at h; unfold putD; rw [hi]; simp at h; simp [h]
  · exact h
theorem put_ins {s : Sp} (h : putD s = true) : s.ins = true := by unfold putD at h; cases hs : s.ins <;> simp [hs] at h ⊢
theorem tkn_inB {l : List Sp} {i : Nat} (h : tkn (spAt l i) = true) : InB l i := by
  obtain ⟨h1, h2⟩ := tkn_iff.1 h
  left; unfold cntD; rw [h1, h2]; rfl
section
variable {l : List Sp} {M : Nat} (hs : HsAll M l)
include hs
theorem tkn_en {i : Nat} (hi : i < l.length) (h : tkn (spAt l i) = true) : (spAt l i).en ≠ -1 := fun e => by
  obtain ⟨h1, h2⟩ := tkn_iff.1 h
  have := ((kfit_open e).1 (hs i hi).kf).1
  omega
theorem beg_le {i : Nat} (hi : i < l.length) (h : InB l i) : (spAt l i).beg ≤ momB (spAt l i) := by
  cases hn : (spAt l i).ins with
  | true => rw [momB_in hn]; exact Int.le_refl _
  | false => rw [momB_out hn]; have := ((hs i hi).en (tkn_en hs hi (inB_out h hn))).1; omega
theorem mom_bd {i : Nat} (hi : i < l.length) (h : InB l i) : 0 ≤ momB (spAt l i) ∧ momB (spAt l i) < (M : Int) := by
  have h1 := beg_le hs hi h
  have h0 := (hs i hi).b0
  refine ⟨by omega, ?_⟩
  cases hn : (spAt l i).ins with
  | true => rw [momB_in hn]; exact (hs i hi).bm
  | false => rw [momB_out hn]; exact ((hs i hi).en (tkn_en hs hi (inB_out h hn))).2.1
theorem mom_ne {i j : Nat} (hij : i < j) (hj : j < l.length) (h : InB l i) (k : InB l j) : momB (spAt l i) ≠ momB (spAt l j) := by
  have hi : i < l.length := by omega
  cases hn : (spAt l i).ins with
  | true =>
    rw [momB_in hn]
    cases hm : (spAt l j).ins with
    | true => rw [momB_in hm]; have := (hs j hj).inc i hij; omega
    | false => rw [momB_out hm]; exact (((hs j hj).en (tkn_en hs hj (inB_out k hm))).2.2 i hij).1
  | false =>
    rw [momB_out hn]
    cases hm : (spAt l j).ins with
    | true => rw [momB_in hm]; exact (hs j hj).nb i hij
    | false => rw [momB_out hm]; exact (((hs j hj).en (tkn_en hs hj (inB_out k hm))).2.2 i hij).2
theorem mom_inj {i j : Nat} (hi : i < l.length) (hj : j < l.length) (h : InB l i) (k : InB l j) (e : momB (spAt l i) = momB (spAt l j)) : i = j := by
  rcases Nat.lt_trichotomy i j with q | q | q
  · exact (mom_ne hs q hj h k e).elim
  · exact q
  · exact (mom_ne hs q hi k h e.symm).elim
end
open Classical in
/-- Whose turn it is. -/
noncomputable def whoB (l : List Sp) (m : Nat) : Option Nat := if h : ∃ i, i < l.length ∧ InB l i ∧ momB (spAt l i) = (m : Int) then some h.choose else none
theorem whoB_some {l : List Sp} {m i : Nat} (h : whoB l m = some i) : i < l.length ∧ InB l i ∧ momB (spAt l i) = (m : Int) := by
  unfold whoB at h
  split at h
  · rename_i q
    simp only [Option.some.injEq] at h
    rw [← h]; exact q.choose_spec
  · cases h
theorem whoB_none {l : List Sp} {m : Nat} (h : whoB l m = none) {i : Nat} (hi : i < l.length) (hb : InB l i) : momB (spAt l i) ≠ (m : Int) := fun e => by
  unfold whoB at h
  rw [dif_pos ⟨i, hi, hb, e⟩] at h
  cases h
theorem whoB_of {l : List Sp} {M m i : Nat} (hs : HsAll M l) (hi : i < l.length) (hb : InB l i) (e : momB (spAt l i) = (m : Int)) : whoB l m = some i := by
  cases hw : whoB l m with
  | none => exact (whoB_none hw hi hb e).elim
  | some j =>
    obtain ⟨h1, h2, h3⟩ := whoB_some hw
    rw [mom_inj hs hi h1 hb h2 (e.trans h3.symm)]
/-- The turns up to a moment. -/
noncomputable def ordB (l : List Sp) : Nat → List Int
  | 0 => []
  | m + 1 => match whoB l m with
    | some i => ordB l m ++ [(i : Int)]
    | none => ordB l m
theorem ordB_some {l : List Sp} {m i : Nat} (h : whoB l m = some i) : ordB l (m + 1) = ordB l m ++ [(i : Int)] := by rw [ordB, h]
theorem ordB_none {l : List Sp} {m : Nat} (h : whoB l m = none) : ordB l (m + 1) = ordB l m := by rw [ordB, h]
theorem at_front (o : List Int) (x : Int) {k : Nat} (h : k < o.length) : at_ (o ++ [x]) k = at_ o k := by simp [at_, List.getElem?_append_left h]
theorem at_last (o : List Int) (x : Int) : at_ (o ++ [x]) o.length = x := by simp [at_]
theorem ordB_at {l : List Sp} : ∀ {m k : Nat}, k < (ordB l m).length → ∃ i : Nat, at_ (ordB l m) k = (i : Int) ∧ oN (ordB l m) k = i ∧ i < l.length ∧ InB l i ∧ momB (spAt l i) < (m : Int)
  | 0, k, h => by simp [ordB] at h
  | m + 1, k, h => by
    cases hw : whoB l m with
    | none =>
      rw [ordB_none hw] at h ⊢
      obtain ⟨i, h1, h2, h3, h4, h5⟩ := ordB_at h
      exact ⟨i, h1, h2, h3, h4, by omega⟩
    | some j =>
      obtain ⟨w1, w2, w3⟩ := whoB_some hw
      rw [ordB_some hw] at h ⊢
      rw [List.length_append, List.length_singleton] at h
      by_cases e : k < (ordB l m).length
      · obtain ⟨i, h1, h2, h3, h4, h5⟩ := ordB_at e
        unfold oN at *
        rw [at_front _ _ e]
        exact ⟨i, h1, h2, h3, h4, by omega⟩
      · obtain rfl : k = (ordB l m).length := by omega
        unfold oN
        rw [at_last]
        exact ⟨j, rfl, by simp, w1, w2, by omega⟩
theorem ordB_inc {l : List Sp} : ∀ {m k k' : Nat}, k < k' → k' < (ordB l m).length → momB (spAt l (oN (ordB l m) k)) < momB (spAt l (oN (ordB l m) k'))
  | 0, k, k', h, h' => by simp [ordB] at h'
  | m + 1, k, k', h, h' => by
    cases hw : whoB l m with
    | none =>
      rw [ordB_none hw] at h' ⊢
      exact ordB_inc h h'
    | some j =>
      obtain ⟨w1, w2, w3⟩ := whoB_some hw
      rw [ordB_some hw] at h' ⊢
      rw [List.length_append, List.length_singleton] at h'
      have hk : k < (ordB l m).length := by omega
      have e1 : oN (ordB l m ++ [(j : Int)]) k = oN (ordB l m) k := by unfold oN; rw [at_front _ _ hk]
      rw [e1]
      by_cases e : k' < (ordB l m).length
      · have e2 : oN (ordB l m ++ [(j : Int)]) k' = oN (ordB l m) k' := by unfold oN; rw [at_front _ _ e]
        rw [e2]
        exact ordB_inc h e
      · obtain rfl : k' = (ordB l m).length := by omega
        have e2 : oN (ordB l m ++ [(j : Int)]) (ordB l m).length = j := by unfold oN; rw [at_last]; simp
        rw [e2, w3]
        obtain ⟨i, h1, h2, h3, h4, h5⟩ := ordB_at hk
        rw [h2]; exact h5
theorem ordB_all {l : List Sp} {M : Nat} (hs : HsAll M l) {i : Nat} (hi : i < l.length) (hb : InB l i) : ∀ {m : Nat}, momB (spAt l i) < (m : Int) → ∃ k, k < (ordB l m).length ∧ oN (ordB l m) k = i
  | 0, h => by have := (mom_bd hs hi hb).1; omega
  | m + 1, h => by
    by_cases e : momB (spAt l i) = (m : Int)
    · have hw := whoB_of hs hi hb e
      rw [ordB_some hw]
      exact ⟨(ordB l m).length, by simp, by unfold oN; rw [at_last]; simp⟩
    · obtain ⟨k, h1, h2⟩ := ordB_all hs hi hb (m := m) (by omega)
      cases hw : whoB l m with
      | none => rw [ordB_none hw]; exact ⟨k, h1, h2⟩
      | some j => rw [ordB_some hw]; exact ⟨k, by rw [List.length_append]; omega, by unfold oN at *; rw [at_front _ _ h1]; exact h2⟩
theorem ordB_trn {l : List Sp} {M : Nat} (hs : HsAll M l) : Trn l (ordB l M) false := by
  refine ⟨fun k hk => ?_, fun i hi hc => ?_⟩
  · obtain ⟨i, h1, h2, h3, h4, h5⟩ := ordB_at hk
    refine ⟨by rw [h1]; omega, by rw [h1]; omega, ?_, ?_⟩
    · cases hst : std (ordB l M) k (oN (ordB l M) k) with
      | false => rfl
      | true =>
        obtain ⟨k', hk', e⟩ := (std_iff _).1 hst
        have := ordB_inc hk' hk
        rw [e] at this
        omega
    · rw [h2]
      have hkf := (hs i h3).kf
      unfold mayP
      rcases h4 with h | ⟨h, _⟩
      · rw [cnt_same hkf] at h; rw [h]; rfl
      · unfold putD at h
        simp only [Bool.and_eq_true, Bool.or_eq_true, beq_iff_eq] at h
        rcases h.2 with e | e <;> simp [e, h.1]
  · have hb : InB l i := .inl (by rw [cnt_same (hs i hi).kf]; exact hc)
    obtain ⟨k, h1, h2⟩ := ordB_all hs hi hb (mom_bd hs hi hb).2
    exact (std_iff _).2 ⟨k, h1, h2⟩
theorem ordB_kt {l : List Sp} {M : Nat} (hs : HsAll M l) : ∀ k, k < (ordB l M).length → ktP l (ordB l M) k := by
  intro k hk
  obtain ⟨i, h1, h2, h3, h4, h5⟩ := ordB_at hk
  unfold ktP
  rw [h2]
  by_cases e : (spAt l i).en = -1
  · exact .inl e
  · right
    have hen := (hs i h3).en e
    have hb0 := (hs i h3).b0
    have hm : momB (spAt l i) ≤ (spAt l i).en := by
      cases hn : (spAt l i).ins with
      | true => rw [momB_in hn]; omega
      | false => rw [momB_out hn]; exact Int.le_refl _
    rw [lat_le]
    refine ⟨by omega, fun j hj => ?_⟩
    have hinc := ordB_inc hj hk
    rw [h2] at hinc
    obtain ⟨i', g1, g2, g3, g4, g5⟩ := ordB_at (l := l) (m := M) (k := j) (by omega)
    rw [g2] at hinc ⊢
    have := beg_le hs g3 g4
    omega
theorem play_front (q : Bool) (c : Sp → Bool) (l : List Sp) (o : List Int) (x : Int) : ∀ i, i ≤ o.length → play q c l (o ++ [x]) i = play q c l o i
  | 0, _ => rfl
  | i + 1, hi => by
    have e : oN (o ++ [x]) i = oN o i := by unfold oN; rw [at_front _ _ (by omega)]
    rw [play, play, play_front q c l o x i (by omega), e]
theorem play_snoc (q : Bool) (c : Sp → Bool) (l : List Sp) (o : List Int) (i : Nat) : play q c l (o ++ [(i : Int)]) (o ++ [(i : Int)]).length = (play q c l o o.length).bind fun y => play1 q (c (spAt l i)) y (spAt l i) := by
  have e : oN (o ++ [(i : Int)]) o.length = i := by unfold oN; rw [at_last]; simp
  rw [List.length_append]
  show play q c l (o ++ [(i : Int)]) (o.length + 1) = _
  rw [play, play_front q c l o _ _ (Nat.le_refl _), e]
/-- Nothing wrong with the removals that have ended ahead of m. -/
def Fm (l : List Sp) (m : Nat) : Prop := ∀ a, a < l.length → tkn (spAt l a) = true → (spAt l a).en < (m : Int) →
  (∃ i, i < l.length ∧ putD (spAt l i) = true ∧ tkS (spAt l i) = tkS (spAt l a) ∧ (spAt l i).beg < (spAt l a).en) ∧ ∀ b, b < l.length → b ≠ a → tkn (spAt l b) = true → tkS (spAt l b) = tkS (spAt l a) → ¬ (spAt l b).en < (m : Int)
/-- What is in the bag at m. -/
def Bag (l : List Sp) (m : Nat) (c : List Tk) : Prop := c.Nodup ∧ ∀ t, t ∈ c ↔ (∃ i, i < l.length ∧ InB l i ∧ (spAt l i).ins = true ∧ (spAt l i).beg < (m : Int) ∧ tkS (spAt l i) = t) ∧ ¬ ∃ a, a < l.length ∧ tkn (spAt l a) = true ∧ (spAt l a).en < (m : Int) ∧ tkS (spAt l a) = t
noncomputable def PL (l : List Sp) (m : Nat) : Option (List Tk) := play false nOp l (ordB l m) (ordB l m).length
theorem one_put {l : List Sp} (hu : ∀ i k, i < l.length → k < i → ¬ Twc l i k) {i k : Nat} (hi : i < l.length) (hk : k < l.length) (pi : putD (spAt l i) = true) (pk : putD (spAt l k) = true) (e : tkS (spAt l i) = tkS (spAt l k)) : i = k := by
  simp only [tkS, Tk.mk.injEq] at e
  rcases Nat.lt_trichotomy i k with q | q | q
  · exact (hu k i hk q ⟨pk, pi, e.1.symm, e.2.symm⟩).elim
  · exact q
  · exact (hu i k hi q ⟨pi, pk, e.1, e.2⟩).elim
theorem bag_play {l : List Sp} {M : Nat} (hs : HsAll M l) (hu : ∀ i k, i < l.length → k < i → ¬ Twc l i k) : ∀ m : Nat, (Fm l m → ∃ c, PL l m = some c ∧ Bag l m c) ∧ (¬ Fm l m → PL l m = none)
  | 0 => by
    refine ⟨fun _ => ⟨[], rfl, List.nodup_nil, fun t => ⟨fun h => by simp at h, fun ⟨⟨i, h1, _, _, h2, _⟩, _⟩ => ?_⟩⟩, fun h => (h fun a ha ht he => ?_).elim⟩
    · have := (hs i h1).b0; omega
    · have h1 := ((hs a ha).en (tkn_en hs ha ht)).1; have := (hs a ha).b0; omega
  | m + 1 => by
    obtain ⟨ih1, ih2⟩ := bag_play hs hu m
    -- what ends, or begins and stands, at m is the one whose turn it is
    have hdown : Fm l (m + 1) → Fm l m := fun h a ha ht he => by
      obtain ⟨h1, h2⟩ := h a ha ht (by omega)
      exact ⟨h1, fun b hb hn hk e q => h2 b hb hn hk e (by omega)⟩
    cases hw : whoB l m with
    | none =>
      have hen : ∀ a, a < l.length → tkn (spAt l a) = true → ((spAt l a).en < ((m + 1 : Nat) : Int) ↔ (spAt l a).en < (m : Int)) := fun a ha ht => by
        have := whoB_none hw ha (tkn_inB ht)
        rw [momB_out (tkn_iff.1 ht).1] at this
        omega
      have hbe : ∀ a, a < l.length → InB l a → (spAt l a).ins = true → ((spAt l a).beg < ((m + 1 : Nat) : Int) ↔ (spAt l a).beg < (m : Int)) := fun a ha hb hn => by
        have := whoB_none hw ha hb
        rw [momB_in hn] at this
        omega
      have hF : Fm l (m + 1) ↔ Fm l m := ⟨hdown, fun h a ha ht he => by
        obtain ⟨h1, h2⟩ := h a ha ht ((hen a ha ht).1 he)
        exact ⟨h1, fun b hb hn hk e q => h2 b hb hn hk e ((hen b hb hk).1 q)⟩⟩
      unfold PL
      rw [ordB_none hw]
      refine ⟨fun h => ?_, fun h => ih2 (fun q => h (hF.2 q))⟩
      obtain ⟨c, h1, h2, h3⟩ := ih1 (hF.1 h)
      refine ⟨c, h1, h2, fun t => ?_⟩
      rw [h3 t]
      constructor
      · rintro ⟨⟨i, a1, a2, a3, a4, a5⟩, a6⟩
        exact ⟨⟨i, a1, a2, a3, by omega, a5⟩, fun ⟨a, b1, b2, b3, b4⟩ => a6 ⟨a, b1, b2, (hen a b1 b2).1 b3, b4⟩⟩
      · rintro ⟨⟨i, a1, a2, a3, a4, a5⟩, a6⟩
        exact ⟨⟨i, a1, a2, a3, (hbe i a1 a2 a3).1 a4, a5⟩, fun ⟨a, b1, b2, b3, b4⟩ => a6 ⟨a, b1, b2, by omega, b4⟩⟩
    | some j =>
      obtain ⟨w1, w2, w3⟩ := whoB_some hw
      have hpl : PL l (m + 1) = (PL l m).bind fun y => play1 false (nOp (spAt l j)) y (spAt l j) := by
        unfold PL
        rw [ordB_some hw]
        exact play_snoc _ _ _ _ _
      cases hn : (spAt l j).ins with
      | true =>
        have wb := w3; rw [momB_in hn] at wb
        have hen : ∀ a, a < l.length → tkn (spAt l a) = true → ((spAt l a).en < ((m + 1 : Nat) : Int) ↔ (spAt l a).en < (m : Int)) := fun a ha ht => by
          have hne : (spAt l a).en ≠ (m : Int) := fun e => by
            have ho := (tkn_iff.1 ht).1
            have := mom_inj hs ha w1 (tkn_inB ht) w2 (by rw [momB_out ho, e, w3])
            rw [this, hn] at ho; cases ho
          omega
        have hbe : ∀ a, a < l.length → InB l a → (spAt l a).ins = true → ((spAt l a).beg < ((m + 1 : Nat) : Int) ↔ (spAt l a).beg < (m : Int) ∨ a = j) := fun a ha hb ho => by
          constructor
          · intro h
            by_cases e : (spAt l a).beg = (m : Int)
            · exact .inr (mom_inj hs ha w1 hb w2 (by rw [momB_in ho, e, w3]))
            · exact .inl (by omega)
          · rintro (h | h)
            · omega
            · subst h; omega
        have hF : Fm l (m + 1) ↔ Fm l m := ⟨hdown, fun h a ha ht he => by
          obtain ⟨h1, h2⟩ := h a ha ht ((hen a ha ht).1 he)
          exact ⟨h1, fun b hb hn' hk e q => h2 b hb hn' hk e ((hen b hb hk).1 q)⟩⟩
        refine ⟨fun h => ?_, fun h => by rw [hpl, ih2 (fun q => h (hF.2 q))]; rfl⟩
        have hFm := hF.1 h
        obtain ⟨c, h1, h2, h3⟩ := ih1 hFm
        have hnew : ∀ a, a < l.length → tkn (spAt l a) = true → (spAt l a).en < (m : Int) → tkS (spAt l a) ≠ tkS (spAt l j) := fun a ha ht he e => by
          obtain ⟨⟨i, g1, g2, g3, g4⟩, _⟩ := hFm a ha ht he
          have := one_put hu g1 w1 g2 (inB_in w2 hn) (g3.trans e)
          subst this
          omega
        have hnot : tkS (spAt l j) ∉ c := fun hm => by
          obtain ⟨⟨i, a1, a2, a3, a4, a5⟩, _⟩ := (h3 _).1 hm
          have := one_put hu a1 w1 (inB_in a2 a3) (inB_in w2 hn) a5
          subst this
          omega
        refine ⟨c ++ [tkS (spAt l j)], by rw [hpl, h1]; simp [play1, hn], ?_, fun t => ?_⟩
        · rw [List.nodup_append]
          exact ⟨h2, by simp, fun a ha b hb e => by simp at hb; subst hb; subst e; exact hnot ha⟩
        · rw [List.mem_append, List.mem_singleton, h3 t]
          constructor
          · rintro (⟨⟨i, a1, a2, a3, a4, a5⟩, a6⟩ | e)
            · exact ⟨⟨i, a1, a2, a3, by omega, a5⟩, fun ⟨a, b1, b2, b3, b4⟩ => a6 ⟨a, b1, b2, (hen a b1 b2).1 b3, b4⟩⟩
            · subst e
              exact ⟨⟨j, w1, w2, hn, by omega, rfl⟩, fun ⟨a, b1, b2, b3, b4⟩ => hnew a b1 b2 ((hen a b1 b2).1 b3) b4⟩
          · rintro ⟨⟨i, a1, a2, a3, a4, a5⟩, a6⟩
            rcases (hbe i a1 a2 a3).1 a4 with q | q
            · exact .inl ⟨⟨i, a1, a2, a3, q, a5⟩, fun ⟨a, b1, b2, b3, b4⟩ => a6 ⟨a, b1, b2, by omega, b4⟩⟩
            · subst q; exact .inr a5.symm
      | false =>
        have ht := inB_out w2 hn
        have wb := w3; rw [momB_out hn] at wb
        have hen : ∀ a, a < l.length → tkn (spAt l a) = true → ((spAt l a).en < ((m + 1 : Nat) : Int) ↔ (spAt l a).en < (m : Int) ∨ a = j) := fun a ha hk => by
          constructor
          · intro h
            by_cases e : (spAt l a).en = (m : Int)
            · exact .inr (mom_inj hs ha w1 (tkn_inB hk) w2 (by rw [momB_out (tkn_iff.1 hk).1, e, w3]))
            · exact .inl (by omega)
          · rintro (h | h)
            · omega
            · subst h; omega
        have hbe : ∀ a, a < l.length → InB l a → (spAt l a).ins = true → ((spAt l a).beg < ((m + 1 : Nat) : Int) ↔ (spAt l a).beg < (m : Int)) := fun a ha hb ho => by
          have hne : (spAt l a).beg ≠ (m : Int) := fun e => by
            have := mom_inj hs ha w1 hb w2 (by rw [momB_in ho, e, w3])
            rw [this, hn] at ho; cases ho
          omega
        -- just if the task is in the bag
        have hmem : Fm l m → ∀ c, Bag l m c → (tkS (spAt l j) ∈ c ↔ Fm l (m + 1)) := fun hF c hc => by
          rw [hc.2]
          constructor
          · rintro ⟨⟨i, a1, a2, a3, a4, a5⟩, a6⟩ a ha hk he
            rcases (hen a ha hk).1 he with q | q
            · obtain ⟨h1, h2⟩ := hF a ha hk q
              refine ⟨h1, fun b hb hne hkb e r => ?_⟩
              rcases (hen b hb hkb).1 r with r | r
              · exact h2 b hb hne hkb e r
              · subst r; exact a6 ⟨a, ha, hk, q, e.symm⟩
            · subst q
              refine ⟨⟨i, a1, inB_in a2 a3, a5, by omega⟩, fun b hb hne hkb e r => ?_⟩
              rcases (hen b hb hkb).1 r with r | r
              · exact a6 ⟨b, hb, hkb, r, e⟩
              · exact hne r
          · intro h
            obtain ⟨⟨i, g1, g2, g3, g4⟩, h2⟩ := h j w1 ht (by omega)
            refine ⟨⟨i, g1, .inr ⟨g2, j, w1, ht, g3.symm⟩, put_ins g2, by omega, g3⟩, fun ⟨a, b1, b2, b3, b4⟩ => ?_⟩
            by_cases e : a = j
            · subst e; omega
            · exact h2 a b1 e b2 b4 (by omega)
        constructor
        · intro h
          obtain ⟨c, h1, hc⟩ := ih1 (hdown h)
          have hm := (hmem (hdown h) c hc).2 h
          refine ⟨c.erase (tkS (spAt l j)), by rw [hpl, h1]; simp [play1, hn, hm], hc.1.erase _, fun t => ?_⟩
          rw [hc.1.mem_erase_iff, hc.2 t]
          constructor
          · rintro ⟨hne, ⟨i, a1, a2, a3, a4, a5⟩, a6⟩
            refine ⟨⟨i, a1, a2, a3, by omega, a5⟩, fun ⟨a, b1, b2, b3, b4⟩ => ?_⟩
            rcases (hen a b1 b2).1 b3 with q | q
            · exact a6 ⟨a, b1, b2, q, b4⟩
            · subst q; exact hne b4.symm
          · rintro ⟨⟨i, a1, a2, a3, a4, a5⟩, a6⟩
            exact ⟨fun e => a6 ⟨j, w1, ht, by omega, e.symm⟩, ⟨i, a1, a2, a3, (hbe i a1 a2 a3).1 a4, a5⟩, fun ⟨a, b1, b2, b3, b4⟩ => a6 ⟨a, b1, b2, by omega, b4⟩⟩
        · intro h
          by_cases hF : Fm l m
          · obtain ⟨c, h1, hc⟩ := ih1 hF
            have hm : tkS (spAt l j) ∉ c := fun q => h ((hmem hF c hc).1 q)
            rw [hpl, h1]
            simp [play1, hn, hm]
          · rw [hpl, ih2 hF]; rfl
/-- Two removals with one task. -/
def TwiD (l : List Sp) : Prop := ∃ a b, a < b ∧ b < l.length ∧ tkn (spAt l a) = true ∧ tkn (spAt l b) = true ∧ tkS (spAt l a) = tkS (spAt l b)
/-- A removal of what was not put in. -/
def FreD (l : List Sp) : Prop := ∃ a, a < l.length ∧ tkn (spAt l a) = true ∧ ∀ i, i < l.length → putD (spAt l i) = true → tkS (spAt l i) = tkS (spAt l a) → ¬ (spAt l i).beg < (spAt l a).en
theorem fm_iff {l : List Sp} {M : Nat} (hs : HsAll M l) : Fm l M ↔ ¬ TwiD l ∧ ¬ FreD l := by
  have hM : ∀ a, a < l.length → tkn (spAt l a) = true → (spAt l a).en < (M : Int) := fun a ha ht => ((hs a ha).en (tkn_en hs ha ht)).2.1
  constructor
  · intro h
    refine ⟨fun ⟨a, b, h1, h2, h3, h4, h5⟩ => ?_, fun ⟨a, h1, h2, h3⟩ => ?_⟩
    · exact (h b h2 h4 (hM b h2 h4)).2 a (by omega) (by omega) h3 h5 (hM a (by omega) h3)
    · obtain ⟨⟨i, g1, g2, g3, g4⟩, _⟩ := h a h1 h2 (hM a h1 h2)
      exact h3 i g1 g2 g3 g4
  · rintro ⟨h1, h2⟩ a ha ht _
    constructor
    · by_cases q : ∃ i, i < l.length ∧ putD (spAt l i) = true ∧ tkS (spAt l i) = tkS (spAt l a) ∧ (spAt l i).beg < (spAt l a).en
      · exact q
      · exact (h2 ⟨a, ha, ht, fun i g1 g2 g3 g4 => q ⟨i, g1, g2, g3, g4⟩⟩).elim
    · intro b hb hne hk e _
      rcases Nat.lt_trichotomy a b with q | q | q
      · exact h1 ⟨a, b, q, hb, ht, hk, e.symm⟩
      · exact hne q.symm
      · exact h1 ⟨b, a, q, ha, hk, ht, e⟩
/-- The widest turns bear a history out just if no pattern of a bag is there. -/
theorem bo_bag {l : List Sp} {M : Nat} (hs : HsAll M l) (hu : ∀ i k, i < l.length → k < i → ¬ Twc l i k) : BoA l (ordB l M) false ↔ ¬ TwiD l ∧ ¬ FreD l := by
  rw [← fm_iff hs]
  obtain ⟨h1, h2⟩ := bag_play hs hu M
  constructor
  · rintro ⟨_, _, h⟩
    by_cases q : Fm l M
    · exact q
    · have := h2 q; unfold PL at this; rw [this] at h; cases h
  · intro q
    obtain ⟨c, h, _⟩ := h1 q
    exact ⟨ordB_trn hs, ordB_kt hs, by unfold PL at h; rw [h]; rfl⟩
end Go.Proofs.Ytfoeljcgbfpknaa
