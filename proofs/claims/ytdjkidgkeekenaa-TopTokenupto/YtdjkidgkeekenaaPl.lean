/- What picks keep; where the token is, by the log. -/
import Derived.Test.YtdjkidgkeekenaaLmH
namespace Go.Proofs.Ytdjkidgkeekenaa
open Go.RowKit Go.Lib Go.MuLone
set_option linter.unusedVariables false
set_option linter.unusedSimpArgs false
def plOk (n : Nat) (a : Nat) (y : Acc) (a' : Nat) : Prop :=
  ((y.kind = 1 ∨ 3 < y.cell) ∧ a' = a) ∨ (y.kind = 2 ∧ y.cell ≤ 3 ∧ y.who = (a : Int) ∧ (y.cell = 0 → a = 0 ∧ y.put = 1) ∧ (y.cell = 1 → y.put = (a' : Int) ∧ (a' : Int) = ((a : Int) - 1) % (n : Int)) ∧ (y.cell ≠ 1 → a' = a))
theorem pl_step {n K i t : Nat} {σ : Cir} (h : Inv n K σ) (hi : i < n) (h0 : (σ.1 i).ph ≠ 0) (ht : nth σ.2 1 = (t : Int)) (htn : t < n) :
    ∃ t' : Nat, nth (stp σ i).2 1 = (t' : Int) ∧ t' < n ∧ plOk n t ((σ.1 i).acc (nth σ.2 (σ.1 i).cell)) t' := by
  have hw := h.sys.wf i hi
  have hl : (σ.1 i).cell < σ.2.length := by rw [h.sys.len]; exact hw.cell
  have hc := stp_cells h0 hl
  have hwho : (σ.1 i).who = i := hw.who
  have hnn : (σ.1 i).n = n := hw.nn
  have hp := hw.ph
  have hT : 6 ≤ (σ.1 i).ph → i = t := fun h6 => by
    have := (h.tx.holds hi h6).1
    omega
  have h11 : (σ.1 i).ph = 11 → i = 0 := h.tx.p11 i hi
  rw [hc]
  generalize (σ.1 i) = d at *
  obtain ⟨who, nn, sends, burst, ph, active, left, sent, bal, black, m, q, k⟩ := d
  simp only at hp hT h11 hwho hnn h0
  subst hwho hnn
  have hph : ph = 1 ∨ ph = 2 ∨ ph = 3 ∨ ph = 4 ∨ ph = 5 ∨ ph = 6 ∨ ph = 7 ∨ ph = 8 ∨ ph = 9 ∨ ph = 10 ∨ ph = 11 := by omega
  rcases hph with rfl | rfl | rfl | rfl | rfl | rfl | rfl | rfl | rfl | rfl | rfl
  · exact ⟨t, by rw [show upd (nth σ.2) _ _ 1 = nth σ.2 1 from upd_other _ _ (by simp [Nd.cell])]; exact ht, htn, .inl ⟨.inl rfl, rfl⟩⟩
  · refine ⟨t, by rw [show upd (nth σ.2) _ _ 1 = nth σ.2 1 from upd_other _ _ (by simp [Nd.cell, Nd.tgt]; omega)]; exact ht, htn, .inl ⟨.inr ?_, rfl⟩⟩
    simp [Nd.acc, Nd.tgt]; omega
  · refine ⟨t, by rw [show upd (nth σ.2) _ _ 1 = nth σ.2 1 from upd_other _ _ (by simp [Nd.cell]; omega)]; exact ht, htn, .inl ⟨.inl rfl, rfl⟩⟩
  · refine ⟨t, by rw [show upd (nth σ.2) _ _ 1 = nth σ.2 1 from upd_other _ _ (by simp [Nd.cell]; omega)]; exact ht, htn, .inl ⟨.inr ?_, rfl⟩⟩
    simp [Nd.acc]; omega
  · exact ⟨t, by rw [show (Nd.cell _) = 1 from rfl]; simp only [upd]; simpa [Nd.acc] using ht, htn, .inl ⟨.inl rfl, rfl⟩⟩
  · exact ⟨t, by rw [show upd (nth σ.2) _ _ 1 = nth σ.2 1 from upd_other _ _ (by simp [Nd.cell])]; exact ht, htn, .inl ⟨.inl rfl, rfl⟩⟩
  · exact ⟨t, by rw [show upd (nth σ.2) _ _ 1 = nth σ.2 1 from upd_other _ _ (by simp [Nd.cell])]; exact ht, htn, .inl ⟨.inl rfl, rfl⟩⟩
  · have := hT (by omega)
    subst this
    exact ⟨who, by rw [show upd (nth σ.2) _ _ 1 = nth σ.2 1 from upd_other _ _ (by simp [Nd.cell])]; exact ht, htn, .inr ⟨rfl, by simp [Nd.acc], rfl, fun e => absurd (show (2 : Int) = 0 from e) (by decide), fun e => absurd (show (2 : Int) = 1 from e) (by decide), fun _ => rfl⟩⟩
  · have := hT (by omega)
    subst this
    exact ⟨who, by rw [show upd (nth σ.2) _ _ 1 = nth σ.2 1 from upd_other _ _ (by simp [Nd.cell])]; exact ht, htn, .inr ⟨rfl, by simp [Nd.acc], rfl, fun e => absurd (show (3 : Int) = 0 from e) (by decide), fun e => absurd (show (3 : Int) = 1 from e) (by decide), fun _ => rfl⟩⟩
  · have := hT (by omega)
    subst this
    refine ⟨if who = 0 then nn - 1 else who - 1, ?_, by split <;> omega, .inr ⟨rfl, by simp [Nd.acc], rfl, fun e => absurd (show (1 : Int) = 0 from e) (by decide), fun _ => ⟨?_, ?_⟩, fun e => absurd rfl e⟩⟩
    · rw [show (Nd.cell _) = 1 from rfl]
      simp only [upd]
      simp only [Nd.acc, Nd.put10, if_true]
      try (split <;> omega)
    · simp only [Nd.acc, Nd.put10]
      split <;> omega
    · by_cases e : who = 0
      · subst e
        rw [if_pos rfl]
        have : ((0 : Nat) : Int) - 1 = -1 := rfl
        rw [this, show (-1 : Int) = ((nn : Int) - 1) + (nn : Int) * (-1) by omega, Int.add_mul_emod_self_left, Int.emod_eq_of_lt (by omega) (by omega)]
        omega
      · rw [if_neg e, Int.emod_eq_of_lt (by omega) (by omega)]
        omega
  · have := hT (by omega)
    subst this
    have e0 := h11 rfl
    exact ⟨who, by rw [show upd (nth σ.2) _ _ 1 = nth σ.2 1 from upd_other _ _ (by simp [Nd.cell])]; exact ht, htn, .inr ⟨rfl, by simp [Nd.acc], rfl, fun _ => ⟨e0, rfl⟩, fun e => absurd (show (0 : Int) = 1 from e) (by decide), fun _ => rfl⟩⟩
/-- Where the token is, access by access. -/
def PL (n : Nat) (log : List Acc) (t : Nat) : Prop := ∃ f : Nat → Nat, f 0 = 0 ∧ f log.length = t ∧ (∀ k, k ≤ log.length → f k < n) ∧ ∀ k (y : Acc), log[k]? = some y → plOk n (f k) y (f (k + 1))
theorem PL.more {n t t' : Nat} {log : List Acc} {y : Acc} (h : PL n log t) (hy : plOk n t y t') (ht : t' < n) : PL n (log ++ [y]) t' := by
  obtain ⟨f, h0, h1, h2, h3⟩ := h
  refine ⟨fun k => if k ≤ log.length then f k else t', by simpa using h0, by simp; intro hh; omega, fun k hk => ?_, fun k z hz => ?_⟩
  · dsimp only
    split
    · exact h2 k (by assumption)
    · exact ht
  · dsimp only
    rcases Nat.lt_or_ge k log.length with e | e
    · rw [List.getElem?_append_left e] at hz
      rw [if_pos (by omega), if_pos (by omega)]
      exact h3 k z hz
    · rw [List.getElem?_append_right e] at hz
      have : k - log.length < 1 := by
        rcases Nat.lt_or_ge (k - log.length) 1 with q | q
        · exact q
        · rw [List.getElem?_eq_none (by simpa using q)] at hz; cases hz
      obtain rfl : k = log.length := by omega
      simp at hz
      subst hz
      rw [if_pos (by omega), if_neg (by omega), h1]
      exact hy
section
variable {n : Nat} {d0 ds : Nat → Nd} {s0 s : Ast}
theorem Hst.place {t0 : Nat} (h : Hst n d0 s0 ds s) (hk : s0.keep = true) (ht : nth s0.cells 1 = (t0 : Int)) (htn : t0 < n) (hp : PL n s0.log t0) : s.keep = true ∧ ∃ t : Nat, nth s.cells 1 = (t : Int) ∧ t < n ∧ PL n s.log t := by
  induction h with
  | refl => exact ⟨hk, t0, ht, htn, hp⟩
  | @step ds s i K _ hi hI hK ih =>
    obtain ⟨k1, t, a1, a2, a3⟩ := ih
    by_cases h0 : (ds i).ph = 0
    · rw [show pkd s ds i = s from if_pos h0]
      exact ⟨k1, t, a1, a2, a3⟩
    · obtain ⟨t', b1, b2, b3⟩ := pl_step hI hi h0 a1 a2
      refine ⟨?_, t', ?_, b2, ?_⟩
      · rw [show pkd s ds i = s.made (ds i).cell ((ds i).acc (nth s.cells (ds i).cell)) from if_neg h0]
        exact k1
      · rw [pkd_cells]; exact b1
      · rw [show pkd s ds i = s.made (ds i).cell ((ds i).acc (nth s.cells (ds i).cell)) from if_neg h0]
        show PL n (if s.keep then s.log ++ [_] else s.log) t'
        rw [if_pos k1]
        exact a3.more b3 b2
theorem stp_sends (σ : Cir) (i j : Nat) : ((stp σ i).1 j).sends = (σ.1 j).sends := by
  unfold stp
  split
  · rfl
  · dsimp only
    by_cases e : j = i
    · subst e; rw [upd_same]; exact Nd.next_sends _ _
    · rw [upd_other _ _ e]
theorem Hst.sends (h : Hst n d0 s0 ds s) (j : Nat) : (ds j).sends = (d0 j).sends := by
  induction h with
  | refl => rfl
  | step _ _ _ _ ih => rw [stp_sends]; exact ih
theorem Hst.aw {aw : List Int} (h : Hst n d0 s0 ds s) (ha : Aw n aw d0) : Aw n aw ds := by
  induction h with
  | refl => exact ha
  | step _ hi hI _ ih => exact Aw.step hI hi ih
theorem Hst.ev (hn : n ≤ 64) (h : Hst n d0 s0 ds s) : Ev n (ds, s.cells) ≤ Ev n (d0, s0.cells) := by
  induction h with
  | refl => exact Int.le_refl _
  | @step ds s i K _ hi hI hK ih =>
    rw [stp_pkd]
    exact Int.le_trans (Ev_step hI hn hK hi) ih
/-- At the end. -/
theorem Hst.rest {ls : List (List Int)} {aw : List Int} {b : Int} {K : Nat} (hn : n = ls.length) (hn0 : 0 < n) (hn64 : n ≤ 64) (hK : K ≤ 1099511627776) (h : Hst n (fun j => Nd.new ls aw b j) s0 ds s) (hI : Inv n K (ds, s.cells)) (ho : Ov n ds) : Rst n ls aw ds s.cells := by
  obtain ⟨hc, hq⟩ := hI.done hn0 ho
  have hs : ∀ j, (ds j).sends = rowL ls j := fun j => (h.sends j).trans rfl
  have hb : ∀ j, j < n → -1099511627776 ≤ (ds j).bal ∧ (ds j).bal ≤ 1099511627776 := fun j hj => by
    have : -(K : Int) ≤ (ds j).bal ∧ (ds j).bal ≤ (K : Int) := (hI.sys.wf j hj).ba
    omega
  refine ⟨ho, hc, hq, hI.sys.len, fun j _ => hs j, fun j hj => ?_, fun j hj ha => ?_, ?_, hb, fun j hj => ?_⟩
  · have : 0 ≤ (ds j).sent ∧ (ds j).sent ≤ ((ds j).sends.length : Int) := (hI.sys.wf j hj).se
    rw [hs j] at this; exact this
  · have := (h.aw (aw_new ls aw b n) j hj ha).2 (hq j hj).1
    rw [hs j] at this; exact this
  · have := hI.sys.sum
    rw [this]
    exact sumF_zero fun j hj => (hq j hj).2
  · have : ∀ m, m ≤ n → -(1099511627776 * (m : Int)) ≤ sumF (fun j => (ds j).bal) m ∧ sumF (fun j => (ds j).bal) m ≤ 1099511627776 * (m : Int) := by
      intro m
      induction m with
      | zero => intro _; simp [sumF]
      | succ m ih =>
        intro hm
        have := ih (by omega)
        have := hb m (by omega)
        simp only [sumF]
        omega
    have := this j hj
    omega
end
end Go.Proofs.Ytdjkidgkeekenaa
