/- Plainly: what areTurns and keepTime ask is what listed asks. -/
import Derived.Test.YtfoeljcgbfpknaaH13
namespace Go.Proofs.Ytfoeljcgbfpknaa
set_option linter.unusedVariables false
set_option linter.unusedSimpArgs false
theorem cnt_same {s : Sp} (h : kfit s = true) : cntD s = (s.kind == 2 || s.kind == 4) := by
  unfold cntD
  by_cases he : s.en = -1
  · have := ((kfit_open he).1 h).1
    simp [this]
  · cases hi : s.ins with
    | true => rcases (kfit_ins he hi).1 h with e | e <;> simp [e]
    | false => rcases (kfit_out he hi).1 h with e | ⟨e | e, _⟩ <;> simp [e]
theorem may_same {s : Sp} (h : kfit s = true) (q : Bool) : mayD s q = mayP s q := by unfold mayD mayP; rw [cnt_same h]
theorem std_plc (o : List Int) : ∀ i t, std o i t = true ↔ 0 ≤ plc o i t
  | 0, t => ⟨fun h => (by cases h), fun h => (by unfold plc at h; omega)⟩
  | i + 1, t => by
    unfold std plc
    by_cases e : t = oN o i
    · rw [if_pos e, if_pos e]; exact ⟨fun _ => by omega, fun _ => rfl⟩
    · rw [if_neg e, if_neg e]; exact std_plc o i t
theorem std_no (o : List Int) (i t : Nat) : std o i t = false ↔ plc o i t < 0 := by
  have := std_plc o i t
  cases h : std o i t with
  | true => rw [h] at this; exact ⟨fun a => (by cases a), fun a => (by have := this.1 rfl; omega)⟩
  | false => rw [h] at this; exact ⟨fun _ => by
      by_cases e : 0 ≤ plc o i t
      · have := this.2 e; cases this
      · omega, fun _ => rfl⟩
/-- The place of one that stands is where it stands. -/
theorem plc_some (o : List Int) : ∀ {i t : Nat}, 0 ≤ plc o i t → ∃ k, k < i ∧ oN o k = t ∧ plc o i t = (k : Int)
  | 0, t, h => by unfold plc at h; omega
  | i + 1, t, h => by
    unfold plc at h ⊢
    by_cases e : t = oN o i
    · rw [if_pos e]; exact ⟨i, by omega, e.symm, rfl⟩
    · rw [if_neg e] at h ⊢
      obtain ⟨k, h1, h2, h3⟩ := plc_some o h
      exact ⟨k, by omega, h2, h3⟩
theorem plc_at (o : List Int) : ∀ {i : Nat}, (∀ k, k < i → std o k (oN o k) = false) → ∀ k, k < i → plc o i (oN o k) = (k : Int)
  | 0, _, k, hk => by omega
  | i + 1, h, k, hk => by
    unfold plc
    by_cases e : k = i
    · subst e; rw [if_pos rfl]
    · have hki : k < i := by omega
      have : oN o k ≠ oN o i := fun q => by
        have h1 := h i (by omega)
        have h2 := (std_iff o (i := i) (t := oN o i)).2 ⟨k, hki, q⟩
        rw [h1] at h2; cases h2
      rw [if_neg this]
      exact plc_at o (fun a ha => h a (by omega)) k hki
theorem lat_le (l : List Sp) (o : List Int) (x : Int) : ∀ k, lat l o k ≤ x ↔ 0 ≤ x ∧ ∀ j, j < k → (spAt l (oN o j)).beg ≤ x
  | 0 => ⟨fun h => ⟨h, fun j hj => (by omega)⟩, fun h => h.1⟩
  | k + 1 => by
    have ih := lat_le l o x k
    unfold lat
    constructor
    · intro h
      have h1 := ih.1 (by omega)
      refine ⟨h1.1, fun j hj => ?_⟩
      by_cases e : j = k
      · subst e; omega
      · exact h1.2 j (by omega)
    · intro h
      have h1 := ih.2 ⟨h.1, fun j hj => h.2 j (by omega)⟩
      have h2 := h.2 k (by omega)
      omega
/-- The two looks at an order are one. -/
theorem listed_iff {l : List Sp} {m : Nat} (h : HsAll m l) (o : List Int) (q : Bool) : Lsd l o q ↔ Trn l o q ∧ ∀ k, k < o.length → ktP l o k := by
  have hoN : ∀ k, 0 ≤ at_ o k → at_ o k < (l.length : Int) → oN o k < l.length := fun k a b => by unfold oN; omega
  have htr : ∀ k, trd l o q k ↔ trn l o q k := fun k => by
    unfold trd trn
    constructor
    · rintro ⟨a, b, c, d⟩
      exact ⟨a, b, (std_no _ _ _).2 c, by rw [← may_same (h _ (hoN k a b)).kf]; exact d⟩
    · rintro ⟨a, b, c, d⟩
      exact ⟨a, b, (std_no _ _ _).1 c, by rw [may_same (h _ (hoN k a b)).kf]; exact d⟩
  have hen := ends_of h
  constructor
  · rintro ⟨h1, h2⟩
    have h1' : ∀ k, k < o.length → trn l o q k := fun k hk => (htr k).1 (h1 k hk)
    refine ⟨⟨h1', fun i hi hc => (std_plc _ _ _).2 ((h2 i hi).1 (by rw [cnt_same (h i hi).kf]; exact hc))⟩, fun k hk => ?_⟩
    have hr := h1' k hk
    have hkn := hoN k hr.1 hr.2.1
    have hpk := plc_at o (fun a ha => (h1' a ha).2.2.1) k hk
    unfold ktP
    by_cases e : (spAt l (oN o k)).en = -1
    · exact .inl e
    · right
      rw [lat_le]
      refine ⟨by rcases hen _ hkn with a | a; exact (e a).elim; exact a, fun j hj => ?_⟩
      have hrj := h1' j (by omega)
      have hpj := plc_at o (fun a ha => (h1' a ha).2.2.1) j (by omega)
      have := (h2 _ hkn).2 _ (hoN j hrj.1 hrj.2.1)
      by_cases hlt : (spAt l (oN o k)).en < (spAt l (oN o j)).beg
      · exact (this ⟨by omega, by omega, by omega, by simp [ahd, e, hlt]⟩).elim
      · omega
  · rintro ⟨⟨h1, h2⟩, h3⟩
    refine ⟨fun k hk => (htr k).2 (h1 k hk), fun i hi => ⟨fun hc => (std_plc _ _ _).1 (h2 i hi (by rw [← cnt_same (h i hi).kf]; exact hc)), fun k hk hb => ?_⟩⟩
    obtain ⟨b1, b2, b3, b4⟩ := hb
    obtain ⟨a, a1, a2, a3⟩ := plc_some o b1
    obtain ⟨b, c1, c2, c3⟩ := plc_some o b2
    have hab : b < a := by omega
    simp only [ahd, Bool.and_eq_true, bne_iff_ne, ne_eq, decide_eq_true_eq] at b4
    rcases h3 a a1 with e | e
    · rw [a2] at e; exact b4.1 e
    · rw [lat_le] at e
      have := e.2 b hab
      rw [a2, c2] at this
      omega
end Go.Proofs.Ytfoeljcgbfpknaa
