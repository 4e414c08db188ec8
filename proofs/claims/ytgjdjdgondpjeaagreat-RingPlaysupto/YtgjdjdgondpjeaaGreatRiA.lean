/- A ring at its start; what Held tells of it; an op. -/
import Derived.Test.YtgjdjdgondpjeaaGreatRmC
import Derived.Test.YtgjdjdgondpjeaaGreatFi
import Derived.Test.YtgjdjdgondpjeaaGreatLyC
namespace Go.Proofs.YtgjdjdgondpjeaaGreat
open Go.RowKit Go.Lib
set_option linter.unusedVariables false
set_option linter.unusedSimpArgs false
theorem sm_zero {n : Nat} {f : Nat → Nat} (h : ∀ i, i < n → f i = 0) : sm n f = 0 := by
  induction n with
  | zero => rfl
  | succ n ih => simp only [sm]; rw [ih (fun i hi => h i (by omega)), h n (by omega)]
theorem sm_le {n : Nat} {f g : Nat → Nat} (h : ∀ i, i < n → f i ≤ g i) : sm n f ≤ sm n g := by
  induction n with
  | zero => exact Nat.le_refl _
  | succ n ih =>
    simp only [sm]
    have := ih (fun i hi => h i (by omega))
    have := h n (by omega)
    omega
theorem sm_take (l : List Tk) (t : Tk) (m : Nat) : sm m (fun j => if j < l.length ∧ rowAt l (j : Int) = t then 1 else 0) = (l.take m).count t := by
  induction m with
  | zero => simp [sm]
  | succ m ih =>
    simp only [sm]
    rw [ih]
    by_cases h : m < l.length
    · have e : l.take (m + 1) = l.take m ++ [rowAt l (m : Int)] := by
        rw [List.take_add_one]
        unfold rowAt
        simp [List.getElem?_eq_getElem h]
      rw [e, List.count_append, List.count_singleton]
      simp [h]
    · rw [List.take_of_length_le (show l.length ≤ m by omega), List.take_of_length_le (show l.length ≤ m + 1 by omega)]
      simp [h]
/-- A ring at its start. -/
theorem RI.start {b C n : Nat} {l : List Tk} {xs : List Int} (hC1 : 2 ≤ C) (hC2 : C ≤ 65536) (hl : l.length ≤ C) (hxs : xs = pkb b (tab (2 + 3 * C) (gR l l.length)) (2 + 3 * C)) : RI b C xs n (fun _ => Hs.new) l 0 (fun j => (j : Int)) := by
  have hlen : xs.length = b + (2 + 3 * C) := by rw [hxs, pkb_len, tab_length]
  have at1 : ∀ j, j < 2 + 3 * C → nth xs (b + j) = gR l l.length j := fun j hj => by
    rw [hxs, pkb_at (by rw [tab_length]; omega), if_neg (by omega), if_pos (by omega), show b + j - b = j by omega, tab_at _ _ _ hj]
  have g0 : gR l l.length 0 = l.length := by simp [gR]
  have g1 : gR l l.length 1 = 0 := by simp [gR]
  have ht : ∀ j, j < C → nth xs (b + 2 + 3 * j) = if j < l.length then (j : Int) + 1 else j := fun j hj => by
    rw [show b + 2 + 3 * j = b + (2 + 3 * j) by omega, at1 _ (by omega)]
    by_cases e : j < l.length
    · rw [if_pos e]; exact (gR_in e).1
    · rw [if_neg e]; exact (gR_out e).1
  refine ⟨hC1, hC2, by omega, ?_, ?_, ⟨Int.le_refl _, by omega⟩, fun j hj => ⟨by omega, ?_, by omega, by omega⟩, fun j hj => ?_, fun j hj a c => ?_, fun j hj a c => by omega, fun i hi => HI.free (Int.le_refl _) (.inl rfl), fun i k p hi hk e => ?_, fun i k p hi hk e => ?_, fun t => ?_⟩
  · have := at1 0 (by omega); rw [Nat.add_zero, g0] at this; exact this
  · have := at1 1 (by omega); rw [g1] at this; exact this
  · exact Int.emod_eq_of_lt (by omega) (by omega)
  · by_cases e : j < l.length
    · refine .inr ⟨by rw [ht j hj, if_pos e], by omega, ?_, ?_⟩
      · rw [show b + 2 + 3 * j + 1 = b + (2 + 3 * j + 1) by omega, at1 _ (by omega), (gR_in e).2.1]; rfl
      · rw [show b + 2 + 3 * j + 2 = b + (2 + 3 * j + 2) by omega, at1 _ (by omega), (gR_in e).2.2]; rfl
    · exact .inl ⟨by rw [ht j hj, if_neg e], by omega⟩
  · rw [ht j hj, if_pos (by omega)] at a; omega
  · have : (Hs.new).pg = none := rfl
    rw [this] at e; cases e
  · have : (Hs.new).gg = none := rfl
    rw [this] at e; cases e
  · have e1 : sm n (fun i => pgc t (Hs.new)) = 0 := sm_zero (fun i _ => pgc_none rfl)
    have e2 : sm C (ks b xs (fun j => (j : Int)) 0 l t) = sm C (fun j => if j < l.length ∧ rowAt l (j : Int) = t then 1 else 0) := sm_congr fun j hj => by
      unfold ks
      rw [ht j hj]
      by_cases e : j < l.length
      · simp [e]
      · have hne : ¬ ((j : Int) = (j : Int) + 1) := by omega
        simp [e, hne]
    rw [e1, e2, sm_take, List.take_of_length_le hl]
    simp
section
variable {b C n : Nat} {xs : List Int} {ds : Nat → Hs} {row : List Tk} {H : Int} {pl : Nat → Int}
theorem RI.keep (h : RI b C xs n ds row H pl) {j : Nat} (hj : j < C) : fkeep b C xs j = decide (nth xs (b + 2 + 3 * j) = pl j + 1 ∧ H ≤ pl j) := by
  have hC := h.c2
  obtain ⟨a1, a2, a3, a4⟩ := h.pl0 j hj
  unfold fkeep
  show decide (nth xs (b + 2 + 3 * j) ≠ 0 ∧ (nth xs (b + 2 + 3 * j) - 1) % (C : Int) = (j : Int) ∧ nth xs (b + 1) ≤ nth xs (b + 2 + 3 * j) - 1 ∧ nth xs (b + 2 + 3 * j) - 1 < nth xs b) = _
  rw [h.hd, h.tl]
  congr 1
  apply propext
  constructor
  · rintro ⟨h1, h2, h3, h4⟩
    rcases h.sl j hj with ⟨e, _⟩ | ⟨e, _⟩
    · have := mod_lt (C := (C : Int)) (p := pl j - 1) (q := pl j) (by omega) (by rw [a2, ← e]; exact h2) (by omega) (by omega)
      omega
    · exact ⟨e, by omega⟩
  · rintro ⟨e, h5⟩
    rcases h.sl j hj with ⟨e', _⟩ | ⟨_, e', _⟩
    · omega
    · refine ⟨by omega, ?_, by omega, by omega⟩
      rw [show nth xs (b + 2 + 3 * j) - 1 = pl j by omega]; exact a2
theorem RI.count_fil (h : RI b C xs n ds row H pl) (t : Tk) : ∀ k, k ≤ C → (fil b C xs k).count t = sm k (ks b xs pl H row t) := by
  intro k
  induction k with
  | zero => intro _; rfl
  | succ k ih =>
    intro hk
    have ih' := ih (by omega)
    unfold fil
    simp only [sm]
    rw [h.keep (show k < C by omega)]
    by_cases e : nth xs (b + 2 + 3 * k) = pl k + 1 ∧ H ≤ pl k
    · rw [if_pos (by simpa using e), List.count_append, List.count_singleton, ih']
      congr 1
      rcases h.sl k (by omega) with ⟨e', _⟩ | ⟨_, _, e2, e3⟩
      · omega
      · unfold ks
        have e4 : (at_ xs (b + 2 + 3 * k + 1), at_ xs (b + 2 + 3 * k + 2)) = rowAt row (pl k) := by
          show (nth xs (b + 2 + 3 * k + 1), nth xs (b + 2 + 3 * k + 2)) = _
          rw [e2, e3]
        rw [e4]
        simp [e]
    · rw [if_neg (by simpa using e), ih']
      unfold ks
      rw [if_neg (fun z => e ⟨z.1, z.2.1⟩)]; rfl
/-- What Held tells. -/
theorem RI.count_held (h : RI b C xs n ds row H pl) (t : Tk) : (fil b C xs C ++ hands b C xs ds n).count t = (row.drop H.toNat).count t + sm n (fun i => (rest row (ds i)).count t) := by
  rw [List.count_append, h.count_fil t C (Nat.le_refl _), h.count_hands, ← h.ct t]
  omega
end
/-- The row and the head behind an op. -/
def actR (s : Ast) (b C : Nat) (kind : Int) (d : Hs) (row : List Tk) : List Tk := if kind = 3 ∧ d.ph ≠ 0 then d.rowN (nth s.cells (d.cell b C)) row else row
def actH (s : Ast) (b C : Nat) (kind : Int) (d : Hs) (H : Int) : Int := if kind = 3 ∧ d.ph ≠ 0 then d.gonN (nth s.cells (d.cell b C)) H else H
theorem RI.act {b C n : Nat} {s : Ast} {ds : Nat → Hs} {row : List Tk} {H : Int} {pl : Nat → Int} (h : RI b C s.cells n ds row H pl) {i : Nat} (hi : i < n) (kind : Int) (t : Tk) (hT : (row.length : Int) < 2305843009213693952) :
    ∃ pl', RI b C (actS s i b C kind (ds i)).cells n (upd ds i (actD s b C kind t (ds i))) (actR s b C kind (ds i) row) (actH s b C kind (ds i) H) pl' := by
  unfold actS actD actR actH
  by_cases k1 : kind = 1
  · have n3 : ¬ kind = 3 := by omega
    have n4 : ¬ (kind = 3 ∧ (ds i).ph ≠ 0) := fun z => n3 z.1
    rw [if_neg n3, if_pos k1, if_neg n4, if_neg n4]
    by_cases e : (ds i).ph = 0 ∧ t.1 ≠ Nev
    · rw [if_pos e]
      exact ⟨pl, h.begin hi e.1 (.inl rfl) rfl⟩
    · rw [if_neg e, upd_id]; exact ⟨pl, h⟩
  · by_cases k2 : kind = 2
    · have n3 : ¬ kind = 3 := by omega
      have n4 : ¬ (kind = 3 ∧ (ds i).ph ≠ 0) := fun z => n3 z.1
      rw [if_neg n3, if_neg k1, if_pos k2, if_neg n4, if_neg n4]
      by_cases e : (ds i).ph = 0
      · rw [if_pos e]
        exact ⟨pl, h.begin hi e (.inr rfl) rfl⟩
      · rw [if_neg e, upd_id]; exact ⟨pl, h⟩
    · by_cases k3 : kind = 3
      · simp only [if_pos k3, if_neg k1, if_neg k2]
        unfold stS stD
        by_cases e : (ds i).ph = 0
        · have n4 : ¬ (kind = 3 ∧ (ds i).ph ≠ 0) := fun z => z.2 e
          simp only [if_pos e, if_neg n4, upd_id]; exact ⟨pl, h⟩
        · have p4 : kind = 3 ∧ (ds i).ph ≠ 0 := ⟨k3, e⟩
          simp only [if_neg e, if_pos p4]
          obtain ⟨pl', h'⟩ := h.step hi e hT rfl
          refine ⟨pl', ?_⟩
          show RI b C (s.cells.set _ _) n _ _ _ pl'
          rw [Hs.acc_left]
          exact h'
      · have n4 : ¬ (kind = 3 ∧ (ds i).ph ≠ 0) := fun z => k3 z.1
        simp only [if_neg k3, if_neg k1, if_neg k2, if_neg n4, upd_id]
        exact ⟨pl, h⟩
theorem actR_len (s : Ast) (b C : Nat) (kind : Int) (d : Hs) (row : List Tk) : (actR s b C kind d row).length ≤ row.length + 1 := by
  unfold actR Hs.rowN
  split
  · split <;> simp
  · omega
end Go.Proofs.YtgjdjdgondpjeaaGreat
