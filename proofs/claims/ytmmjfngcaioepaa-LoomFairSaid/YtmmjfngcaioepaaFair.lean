/- loom.Fair. -/
import Derived.Test.YtmmjfngcaioepaaSmall
namespace Go.Proofs.Ytmmjfngcaioepaa
open Go.RowKit Go.Lib

/-- Which machine a pick means. -/
def who (xs : List Int) (n : Nat) (j : Nat) : Nat := (xs[j]?.getD 0 % (n : Int)).toNat
theorem who_lt (xs : List Int) (n j : Nat) (hn : 0 < n) : who xs n j < n := by
  unfold who
  have := Int.emod_lt_of_pos (xs[j]?.getD 0) (show (0 : Int) < n by omega)
  have := Int.emod_nonneg (xs[j]?.getD 0) (show (n : Int) ≠ 0 by omega)
  omega
theorem who_int (xs : List Int) (n j : Nat) (hn : 0 < n) : xs[j]?.getD 0 % (n : Int) = (who xs n j : Int) := by
  unfold who
  have := Int.emod_nonneg (xs[j]?.getD 0) (show (n : Int) ≠ 0 by omega)
  omega

/-- How often each stands in the row that goes on at i. -/
def tms (xs : List Int) (n k i : Nat) (v : Nat) : Int := (wc (who xs n) v (i - (k - 1)) (i - (i - (k - 1))) : Nat)
def put (g : Nat → Int) (a : Nat) (x : Int) (v : Nat) : Int := if v = a then x else g v

theorem tms_bounds (xs : List Int) (n k i v : Nat) : 0 ≤ tms xs n k i v ∧ tms xs n k i v ≤ i := by
  unfold tms
  have := wc_le (who xs n) v (i - (k - 1)) (i - (i - (k - 1)))
  omega

/-- Behind the pick i. -/
theorem put_in (xs : List Int) (n k i : Nat) (v : Nat) : put (tms xs n k i) (who xs n i) (tms xs n k i (who xs n i) + 1) v = (wc (who xs n) v (i - (k - 1)) (i - (i - (k - 1)) + 1) : Nat) := by
  unfold put
  simp only [wc]
  rw [show i - (k - 1) + (i - (i - (k - 1))) = i by omega]
  by_cases e : v = who xs n i
  · rw [if_pos e, if_pos e.symm, e]; unfold tms; omega
  · rw [if_neg e, if_neg (fun h => e h.symm)]; unfold tms; omega

theorem zeros_in (xs : List Int) (n k i : Nat) (hn : 0 < n) : zeros n (put (tms xs n k i) (who xs n i) (tms xs n k i (who xs n i) + 1)) = zeros n (tms xs n k i) - (if tms xs n k i (who xs n i) = 0 then 1 else 0) := by
  have h := zeros_set n (tms xs n k i) (who xs n i) (tms xs n k i (who xs n i) + 1) (who_lt xs n i hn)
  have hb := (tms_bounds xs n k i (who xs n i)).1
  rw [if_neg (show ¬ tms xs n k i (who xs n i) + 1 = 0 by omega)] at h
  exact h

/-- The row is not yet as long: the next one begins where this one did. -/
theorem next_short (xs : List Int) (n k i : Nat) (h : i + 1 < k) : tab n (put (tms xs n k i) (who xs n i) (tms xs n k i (who xs n i) + 1)) = tab n (tms xs n k (i + 1)) ∧ zeros n (put (tms xs n k i) (who xs n i) (tms xs n k i (who xs n i) + 1)) = zeros n (tms xs n k (i + 1)) := by
  have e : ∀ v, v < n → put (tms xs n k i) (who xs n i) (tms xs n k i (who xs n i) + 1) v = tms xs n k (i + 1) v := by
    intro v _
    rw [put_in]
    unfold tms
    rw [show i - (k - 1) = 0 by omega, show i + 1 - (k - 1) = 0 by omega]
    simp
  exact ⟨tab_congr e, zeros_congr e⟩

theorem full_in (xs : List Int) (n k i : Nat) (hk : 0 < k) (h : k ≤ i + 1) : Full (who xs n) n k i ↔ zeros n (put (tms xs n k i) (who xs n i) (tms xs n k i (who xs n i) + 1)) = 0 := by
  have hz := zeros_pos n (put (tms xs n k i) (who xs n i) (tms xs n k i (who xs n i) + 1))
  unfold Full
  have e : ∀ v, put (tms xs n k i) (who xs n i) (tms xs n k i (who xs n i) + 1) v = (wc (who xs n) v (i + 1 - k) k : Nat) := by
    intro v
    rw [put_in, show i - (k - 1) = i + 1 - k by omega, show i - (i + 1 - k) + 1 = k by omega]
  constructor
  · intro H
    rcases Nat.eq_zero_or_pos (zeros n (put (tms xs n k i) (who xs n i) (tms xs n k i (who xs n i) + 1))) with h0 | h0
    · exact h0
    · obtain ⟨v, hv, hz⟩ := hz.1 h0
      rw [e] at hz
      exact absurd (by omega) (H v hv)
  · intro H v hv h0
    have := hz.2 ⟨v, hv, by rw [e, h0]; rfl⟩
    omega

/-- The row's first one goes. -/
theorem next_long (xs : List Int) (n k i : Nat) (hn : 0 < n) (hk : 0 < k) (h : k ≤ i + 1) (T1 : Nat → Int) (hT : T1 = put (tms xs n k i) (who xs n i) (tms xs n k i (who xs n i) + 1)) (hz : zeros n T1 = 0) :
    tab n (put T1 (who xs n (i + 1 - k)) (T1 (who xs n (i + 1 - k)) - 1)) = tab n (tms xs n k (i + 1)) ∧ zeros n (tms xs n k (i + 1)) = (if T1 (who xs n (i + 1 - k)) = 1 then 1 else 0) := by
  have e : ∀ v, v < n → put T1 (who xs n (i + 1 - k)) (T1 (who xs n (i + 1 - k)) - 1) v = tms xs n k (i + 1) v := by
    intro v _
    have e1 : ∀ v, T1 v = (wc (who xs n) v (i + 1 - k) k : Nat) := by
      intro v
      rw [hT, put_in, show i - (k - 1) = i + 1 - k by omega, show i - (i + 1 - k) + 1 = k by omega]
    obtain ⟨c, rfl⟩ : ∃ c, k = c + 1 := ⟨k - 1, by omega⟩
    have e2 : tms xs n (c + 1) (i + 1) v = (wc (who xs n) v (i + 1 - (c + 1) + 1) c : Nat) := by
      unfold tms
      rw [show i + 1 - (c + 1 - 1) = i + 1 - (c + 1) + 1 by omega, show i + 1 - (i + 1 - (c + 1) + 1) = c by omega]
    rw [e2]
    unfold put
    by_cases ev : v = who xs n (i + 1 - (c + 1))
    · rw [if_pos ev, ← ev, e1 v, wc_front, if_pos ev.symm]
      omega
    · rw [if_neg ev, e1 v, wc_front, if_neg (fun h => ev h.symm)]
      omega
  refine ⟨tab_congr e, ?_⟩
  rw [← zeros_congr e]
  have h2 := zeros_set n T1 (who xs n (i + 1 - k)) (T1 (who xs n (i + 1 - k)) - 1) (who_lt xs n _ hn)
  refine h2.trans ?_
  rw [hz, Nat.zero_sub, Nat.zero_add]
  by_cases e1 : T1 (who xs n (i + 1 - k)) = 1
  · rw [if_pos e1, if_pos (by omega)]
  · rw [if_neg e1, if_neg (by omega)]
end Go.Proofs.Ytmmjfngcaioepaa
