/- The reference's matrix, in plain words. -/
import Derived.Test.YtglgflibpgmilaaLeap
namespace Go.Proofs.Ytglgflibpgmilaa.Leap
open Go.RowKit Go.Lib

/-- The state whose one bit is the k-th. -/
def bitSt (k : Nat) : St :=
  match k / 64 with
  | 0 => ⟨2 ^ (k % 64), 0, 0, 0⟩
  | 1 => ⟨0, 2 ^ (k % 64), 0, 0⟩
  | 2 => ⟨0, 0, 2 ^ (k % 64), 0⟩
  | _ => ⟨0, 0, 0, 2 ^ (k % 64)⟩
theorem pow_lt64 (k : Nat) : 2 ^ (k % 64) < 18446744073709551616 := by
  have : 2 ^ (k % 64) < 2 ^ 64 := Nat.pow_lt_pow_right (by decide) (Nat.mod_lt _ (by decide))
  simpa using this
theorem bitSt_ok (k : Nat) : (bitSt k).Ok := by
  unfold bitSt
  have h := pow_lt64 k
  split
  · exact okA h
  · exact okB h
  · exact okC h
  · exact okD h

/-- The sum of the states at the places of the bits of s below n. -/
def appN (m : Nat → St) (s : St) : Nat → St
  | 0 => zs
  | k + 1 => if bitS s k then xs (appN m s k) (m k) else appN m s k
theorem appN_ok {m : Nat → St} (hm : ∀ k, (m k).Ok) (s : St) : ∀ n, (appN m s n).Ok
  | 0 => zs_ok
  | n + 1 => by
    simp only [appN]
    split
    · exact xs_ok (appN_ok hm s n) (hm n)
    · exact appN_ok hm s n
theorem appN_it (e : Nat) (s : St) : ∀ n, it e (appN bitSt s n) = appN (fun k => it e (bitSt k)) s n
  | 0 => it_zs e
  | n + 1 => by
    simp only [appN]
    split
    · rw [it_xor (appN_ok bitSt_ok s n) (bitSt_ok n), appN_it e s n]
    · exact appN_it e s n

theorem bitS_bitSt (k i : Nat) (hk : k < 256) (hi : i < 256) : bitS (bitSt k) i = decide (k = i) := by
  unfold bitS bitSt
  have hk4 : k / 64 = 0 ∨ k / 64 = 1 ∨ k / 64 = 2 ∨ k / 64 = 3 := by omega
  have hi4 : i / 64 = 0 ∨ i / 64 = 1 ∨ i / 64 = 2 ∨ i / 64 = 3 := by omega
  rcases hk4 with h | h | h | h <;> rcases hi4 with g | g | g | g <;> rw [h, g] <;> simp only [word, Nat.zero_testBit, Nat.testBit_two_pow] <;> (apply Bool.eq_iff_iff.2; simp; omega)

theorem bitS_zs (i : Nat) : bitS zs i = false := by
  unfold bitS word zs
  split <;> simp
theorem bitS_appN (s : St) (i : Nat) (hi : i < 256) : ∀ n, n ≤ 256 → bitS (appN bitSt s n) i = (decide (i < n) && bitS s i)
  | 0, _ => by simp [appN, bitS_zs]
  | n + 1, hn => by
    have ih := bitS_appN s i hi n (by omega)
    simp only [appN]
    split
    · rename_i hb
      rw [bitS_xs, ih, bitS_bitSt n i (by omega) hi]
      by_cases e : n = i
      · subst e; simp [hb]
      · have : decide (i < n + 1) = decide (i < n) := by apply decide_eq_decide.2; omega
        simp [e, this]
    · rename_i hb
      rw [ih]
      by_cases e : n = i
      · subst e; simp [hb]
      · have : decide (i < n + 1) = decide (i < n) := by apply decide_eq_decide.2; omega
        rw [this]

theorem word_ext {x y : Nat} (hx : x < 18446744073709551616) (hy : y < 18446744073709551616) (h : ∀ j, j < 64 → x.testBit j = y.testBit j) : x = y := by
  apply Nat.eq_of_testBit_eq
  intro j
  by_cases hj : j < 64
  · exact h j hj
  · have hp : 2 ^ 64 ≤ 2 ^ j := Nat.pow_le_pow_right (by decide) (by omega)
    rw [Nat.testBit_lt_two_pow (Nat.lt_of_lt_of_le (by simpa using hx) hp), Nat.testBit_lt_two_pow (Nat.lt_of_lt_of_le (by simpa using hy) hp)]
theorem st_ext {s t : St} (hs : s.Ok) (ht : t.Ok) (h : ∀ i, i < 256 → bitS s i = bitS t i) : s = t := by
  have at_ : ∀ k, k < 4 → ∀ j, j < 64 → (word s k).testBit j = (word t k).testBit j := by
    intro k hk j hj
    have := h (k * 64 + j) (by omega)
    unfold bitS at this
    rwa [show (k * 64 + j) / 64 = k by omega, show (k * 64 + j) % 64 = j by omega] at this
  exact St.ext' (word_ext hs.a ht.a (at_ 0 (by omega))) (word_ext hs.b ht.b (at_ 1 (by omega))) (word_ext hs.c ht.c (at_ 2 (by omega))) (word_ext hs.d ht.d (at_ 3 (by omega)))
theorem appN_all {s : St} (h : s.Ok) : appN bitSt s 256 = s :=
  st_ext (appN_ok bitSt_ok s 256) h fun i hi => by rw [bitS_appN s i hi 256 (Nat.le_refl _)]; simp [hi]
/-- The matrix of so many steps, laid on a state. -/
theorem appN_steps {s : St} (h : s.Ok) (e : Nat) : appN (fun k => it e (bitSt k)) s 256 = it e s := by
  rw [← appN_it, appN_all h]
theorem it_half (s : St) (n e : Nat) : it (n / 2 * (e + e)) (it (n % 2 * e) s) = it (n * e) s := by
  rw [← it_add]
  congr 1
  have h := Nat.div_add_mod n 2
  calc n / 2 * (e + e) + n % 2 * e = (2 * (n / 2) + n % 2) * e := by rw [Nat.add_mul, ← Nat.two_mul, Nat.mul_left_comm, Nat.mul_assoc]
    _ = n * e := by rw [h]
theorem twice_steps (k e : Nat) : appN (fun k => it e (bitSt k)) (it e (bitSt k)) 256 = it (e + e) (bitSt k) := by
  rw [appN_steps (it_ok (bitSt_ok k) e), it_add]
end Go.Proofs.Ytglgflibpgmilaa.Leap
