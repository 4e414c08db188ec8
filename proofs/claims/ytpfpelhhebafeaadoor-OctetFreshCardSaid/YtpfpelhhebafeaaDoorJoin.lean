/- CrcJoin: multiplying by a power of x moves on. -/
import Derived.Test.YtpfpelhhebafeaaDoorBurst
import Derived.Test.YtpfpelhhebafeaaDoorHeads
import Derived.Lib.RabinKarpLaws
namespace Go.Proofs.YtpfpelhhebafeaaDoor
open Go.RowKit Go.Lib
set_option linter.unusedVariables false

/-- The product of a and b, by the bits of a from the highest down: n of them are done. -/
def mul (a b : Nat) : Nat → Nat
  | 0 => 0
  | n + 1 => mul a b n ^^^ (if a / 2 ^ (31 - n) % 2 = 1 then mvs n b else 0)
theorem mul_mv (a b n : Nat) : mul a (mv b) n = mv (mul a b n) := by
  induction n with
  | zero => show (0 : Nat) = mv 0; decide
  | succ n ih =>
    rw [mul, mul, mv_xor, ih]
    congr 1
    by_cases h : a / 2 ^ (31 - n) % 2 = 1
    · rw [if_pos h, if_pos h]
      have h1 := mvs_add 1 n b
      have h2 := mvs_add n 1 b
      rw [Nat.add_comm] at h1
      exact h1.symm.trans h2
    · rw [if_neg h, if_neg h]; decide
theorem mul_mvs (a b n k : Nat) : mul a (mvs k b) n = mvs k (mul a b n) := by
  induction k generalizing b with
  | zero => rfl
  | succ k ih => rw [mvs, ih, mul_mv]; rfl
theorem mvs_one (n : Nat) (h : n ≤ 31) : mvs n 2147483648 = 2 ^ (31 - n) := by
  have := mvs_pow n (2 ^ (31 - n))
  rw [← Nat.pow_add, show n + (31 - n) = 31 by omega] at this
  exact this
theorem mul_one_part (a n : Nat) (ha : a < 4294967296) (h : n ≤ 32) : mul a 2147483648 n = a / 2 ^ (32 - n) * 2 ^ (32 - n) := by
  induction n with
  | zero => rw [mul, Nat.div_eq_of_lt (by simpa using ha), Nat.zero_mul]
  | succ n ih =>
    rw [mul, ih (by omega), mvs_one n (by omega), show 32 - (n + 1) = 31 - n by omega, show 32 - n = (31 - n) + 1 by omega]
    generalize 31 - n = k
    have e : a / 2 ^ (k + 1) = a / 2 ^ k / 2 := by rw [Nat.pow_succ, Nat.div_div_eq_div_mul]
    rw [e]
    generalize a / 2 ^ k = q
    have e2 : q / 2 * 2 ^ (k + 1) = 2 ^ k * (2 * (q / 2)) := by rw [Nat.pow_succ, Nat.mul_comm (q / 2), Nat.mul_assoc]
    rw [e2]
    rcases Nat.mod_two_eq_zero_or_one q with h | h
    · rw [h, if_neg (by decide), Nat.xor_zero, Nat.mul_comm q]
      congr 1
      omega
    · rw [h, if_pos rfl, Nat.mul_comm q]
      apply Nat.eq_of_testBit_eq
      intro i
      have hq : q = 2 * (q / 2) + 1 := by omega
      rw [Nat.testBit_xor, Nat.testBit_two_pow_mul, Nat.testBit_two_pow_mul, Nat.testBit_two_pow]
      by_cases hi : k ≤ i
      · obtain ⟨d, rfl⟩ : ∃ d, i = k + d := ⟨i - k, by omega⟩
        rw [Nat.add_sub_cancel_left]
        cases d with
        | zero =>
          have h0 : (2 * (q / 2)).testBit 0 = false := by simp
          have h1 : q.testBit 0 = true := by simp [h]
          simp [h0, h1]
        | succ d =>
          have h0 : (2 * (q / 2)).testBit (d + 1) = q.testBit (d + 1) := by
            rw [Nat.testBit_succ, Nat.testBit_succ]
            congr 1
            omega
          simp [h0]
      · have : ¬ k = i := by omega
        simp [hi, this]
theorem mul_one (a : Nat) (ha : a < 4294967296) : mul a 2147483648 32 = a := by
  rw [mul_one_part a 32 ha (Nat.le_refl _)]
  simp
/-- A product by a power of x moves on. -/
theorem mul_pow (a k : Nat) (ha : a < 4294967296) : mul a (mvs k 2147483648) 32 = mvs k a := by
  rw [mul_mvs, mul_one a ha]

theorem mul_lt (a b n : Nat) (hb : b < 4294967296) : mul a b n < 4294967296 := by
  induction n with
  | zero => show (0 : Nat) < 4294967296; decide
  | succ n ih =>
    rw [mul]
    refine Nat.xor_lt_two_pow (n := 32) ih ?_
    by_cases h : a / 2 ^ (31 - n) % 2 = 1
    · rw [if_pos h]; exact mvs_lt n hb
    · rw [if_neg h]; decide
theorem and_pow (a k : Nat) : a &&& 2 ^ k = a / 2 ^ k % 2 * 2 ^ k := by
  have hb : a.testBit k = decide (a / 2 ^ k % 2 = 1) := Nat.testBit_eq_decide_div_mod_eq
  apply Nat.eq_of_testBit_eq
  intro i
  rw [Nat.testBit_and, Nat.testBit_two_pow]
  rcases Nat.mod_two_eq_zero_or_one (a / 2 ^ k) with h | h
  · rw [h, Nat.zero_mul, Nat.zero_testBit]
    by_cases hk : k = i
    · subst hk; simp [hb, h]
    · simp [hk]
  · rw [h, Nat.one_mul, Nat.testBit_two_pow]
    by_cases hk : k = i
    · subst hk; simp [hb, h]
    · simp [hk]
theorem top_div (n : Nat) (h : n < 32) : 2147483648 / 2 ^ n = 2 ^ (31 - n) := by
  have : (2147483648 : Nat) = 2 ^ n * 2 ^ (31 - n) := by rw [← Nat.pow_add, show n + (31 - n) = 31 by omega]
  rw [this]
  exact Nat.mul_div_cancel_left _ (Nat.two_pow_pos n)
/-- The sum of bytes one behind the other. -/
theorem crc_join (x y : List Int) (hx : ∀ b ∈ x, 0 ≤ b ∧ b < 256) (hy : ∀ b ∈ y, 0 ≤ b ∧ b < 256) : crc (x ++ y) = mvs (8 * y.length) (crc x) ^^^ crc y := by
  have h1 : sumAll (x ++ y) 4294967295 = sumAll y (sumAll x 4294967295) := by unfold sumAll; rw [List.foldl_append]
  have h2 : sumAll x 4294967295 = 4294967295 ^^^ crc x := by unfold crc; rw [← Nat.xor_assoc, Nat.xor_self, Nat.zero_xor]
  have h3 : sumAll y (4294967295 ^^^ crc x) = sumAll y 4294967295 ^^^ mvs (8 * y.length) (crc x) := by
    rw [sumAll_mvs y _ hy, sumAll_mvs y _ hy, ← Nat.xor_assoc, mvs_xor]
  have h4 : crc (x ++ y) = 4294967295 ^^^ (sumAll y 4294967295 ^^^ mvs (8 * y.length) (crc x)) := by
    rw [← h3, ← h2, ← h1]; rfl
  rw [h4, ← Nat.xor_assoc, Nat.xor_comm]
  rfl

set_option maxRecDepth 100000 in
theorem moveBit_any (r : Nat) (w : World) (hr : r < 4294967296) : Calls Tryd.prog 58 #[.int .u32 r] w fun e w' => e = .returned (.int .u32 ((mv r : Nat) : Int)) ∧ w' = w := by
  have h1 : bits .and .u32 (r : Int) 1 = ((r % 2 : Nat) : Int) := by
    have h := u32_and_nat r 1 hr (by decide)
    rw [show r % 2 = r &&& 1 from (Nat.and_two_pow_sub_one_eq_mod _ 1).symm]
    exact h
  have h2 := xor32 (r / 2) 2197175160 (by omega) (by decide)
  have e2 : ((r / 2 : Nat) : Int) = (r : Int) / 2 := by omega
  rw [e2] at h2
  rcases Nat.mod_two_eq_zero_or_one r with h | h
  · have HM : Hid (((mv r : Nat) : Int) = (r : Int) / 2) := by
      show ((mv r : Nat) : Int) = (r : Int) / 2
      unfold mv
      rw [if_neg (by omega), Nat.xor_zero]
      exact e2
    rw [h] at h1
    clear h h2 e2
    go_enter Tryd.func58, Tryd.ntmps58
    go_wp2
    go_ret
    exact ⟨by rw [HM.out]; rfl, rfl⟩
  · have HM : Hid (((mv r : Nat) : Int) = bits .xor .u32 ((r : Int) / 2) 2197175160) := by
      show ((mv r : Nat) : Int) = bits .xor .u32 ((r : Int) / 2) 2197175160
      unfold mv
      rw [if_pos h]
      exact h2.symm
    rw [h] at h1
    replace h1 : bits .and .u32 (r : Int) 1 = 1 := h1
    clear h h2 e2
    go_enter Tryd.func58, Tryd.ntmps58
    go_wp2
    go_ret
    exact ⟨by rw [HM.out]; rfl, rfl⟩

set_option maxRecDepth 100000 in
set_option maxHeartbeats 2000000 in
theorem timesSum_any (a b : Nat) (w : World) (ha : a < 4294967296) (hb : b < 4294967296) : Calls Tryd.prog 51 #[.int .u32 a, .int .u32 b] w fun e w' => e = .returned (.int .u32 ((mul a b 32 : Nat) : Int)) ∧ w' = w := by
  go_enter Tryd.func51, Tryd.ntmps51
  go_wp2_with fail
  go_loopw [5, 6, 1] (fun x y z wr => ∃ n : Nat, n ≤ 32 ∧ x = .int .u32 ((mul a b n : Nat) : Int) ∧ y = .int .u32 ((2147483648 / 2 ^ n : Nat) : Int) ∧ z = .int .u32 ((mvs n b : Nat) : Int) ∧ wr = w) (fun _ y _ _ => (RowKit.intOf y).toNat)
  case atStart => exact ⟨0, by omega, rfl, rfl, rfl, rfl⟩
  case round =>
    obtain ⟨n, hn, rfl, rfl, rfl, rfl⟩ := hrel
    rcases Nat.lt_or_ge n 32 with hlt | hge
    · have hml := mul_lt a b n hb
      have hvl := mvs_lt n hb
      have hpw := top_div n hlt
      have hp2 : 2 ^ (31 - n) < 4294967296 := Nat.lt_of_le_of_lt (Nat.pow_le_pow_right (by decide) (by omega : 31 - n ≤ 31)) (by decide)
      have hpp := Nat.two_pow_pos (31 - n)
      have hnx : 2147483648 / 2 ^ (n + 1) = 2147483648 / 2 ^ n / 2 := by rw [Nat.pow_succ, Nat.div_div_eq_div_mul]
      have hand := u32_and_nat a (2 ^ (31 - n)) ha hp2
      rw [and_pow] at hand
      have hxr := xor32 (mul a b n) (mvs n b) hml hvl
      have hmv := moveBit_any (mvs n b) wr hvl
      have hms : mv (mvs n b) = mvs (n + 1) b := (mvs_add n 1 b).symm
      rw [hms] at hmv
      have HMU : Hid (mul a b (n + 1) = mul a b n ^^^ (if a / 2 ^ (31 - n) % 2 = 1 then mvs n b else 0)) := rfl
      rw [hpw] at hnx ⊢
      have HNX := hide hnx
      have HMV := hide hmv
      obtain ⟨p, hp⟩ : ∃ p, p = 2 ^ (31 - n) := ⟨_, rfl⟩
      rw [← hp] at hand hp2 hpp HNX HMU ⊢
      have hpn : ((p : Int) != 0) = true := by simp; omega
      obtain ⟨m1, hm1⟩ : ∃ m1, m1 = mul a b n := ⟨_, rfl⟩
      obtain ⟨v1, hv1⟩ : ∃ v1, v1 = mvs n b := ⟨_, rfl⟩
      rw [← hm1, ← hv1] at hxr HMU ⊢
      rw [← hv1] at HMV
      clear hnx hmv hms hpw hp hm1 hv1 hml hvl
      rcases Nat.mod_two_eq_zero_or_one (a / p) with hbit | hbit
      · rw [hbit, Nat.zero_mul] at hand
        rw [hbit, if_neg (by decide), Nat.xor_zero] at HMU
        clear hbit
        go_wp2_with (go_at_call 58; refine HMV.out.mono ?_; rintro e w' ⟨rfl, rfl⟩)
        go_roundw
        case rel => exact ⟨n + 1, by omega, by rw [HMU.out], by rw [HNX.out]; simp, rfl, by first | exact trivial | rfl⟩
        case measure => simp [RowKit.intOf]; omega
      · rw [hbit, Nat.one_mul] at hand
        rw [hbit, if_pos rfl] at HMU
        clear hbit
        go_wp2_with (go_at_call 58; refine HMV.out.mono ?_; rintro e w' ⟨rfl, rfl⟩)
        go_roundw
        case rel => exact ⟨n + 1, by omega, by rw [HMU.out, ← hxr], by rw [HNX.out]; simp, rfl, by first | exact trivial | rfl⟩
        case measure => simp [RowKit.intOf]; omega
    · obtain rfl : n = 32 := by omega
      rw [show 2147483648 / 2 ^ 32 = 0 by decide]
      obtain ⟨m1, hm1⟩ : ∃ m1, m1 = mul a b 32 := ⟨_, rfl⟩
      have HM1 := hide hm1
      rw [← hm1]
      clear hm1
      go_wp2
      go_ret
      exact ⟨by rw [← HM1.out]; rfl, rfl⟩

set_option maxRecDepth 100000 in
set_option maxHeartbeats 2000000 in
theorem zeroBytes_any (n : Nat) (w : World) (hn : n < 9223372036854775808) : Calls Tryd.prog 52 #[.int .i64 n] w fun e w' => e = .returned (.int .u32 ((mvs (8 * n) 2147483648 : Nat) : Int)) ∧ w' = w := by
  go_enter Tryd.func52, Tryd.ntmps52
  go_wp2_with fail
  go_loopw [0, 3, 4] (fun x y z wr => ∃ q m k : Nat, n = m + k * q ∧ q < 9223372036854775808 ∧ x = .int .i64 q ∧ y = .int .u32 ((mvs (8 * m) 2147483648 : Nat) : Int) ∧ z = .int .u32 ((mvs (8 * k) 2147483648 : Nat) : Int) ∧ wr = w) (fun x _ _ _ => (RowKit.intOf x).toNat)
  case atStart => exact ⟨n, 0, 1, by omega, hn, rfl, rfl, by rw [show mvs (8 * 1) 2147483648 = 8388608 by decide]; rfl, rfl⟩
  case round =>
    obtain ⟨q, m, k, hq, hq2, rfl, rfl, rfl, rfl⟩ := hrel
    have hol : mvs (8 * m) 2147483648 < 4294967296 := mvs_lt _ (by decide)
    have hsl : mvs (8 * k) 2147483648 < 4294967296 := mvs_lt _ (by decide)
    have HT1 := hide (timesSum_any (mvs (8 * m) 2147483648) (mvs (8 * k) 2147483648) wr hol hsl)
    have HT2 := hide (timesSum_any (mvs (8 * k) 2147483648) (mvs (8 * k) 2147483648) wr hsl hsl)
    rw [mul_pow _ _ hol, ← mvs_add, show 8 * m + 8 * k = 8 * (m + k) by omega] at HT1
    rw [mul_pow _ _ hsl, ← mvs_add, show 8 * k + 8 * k = 8 * (2 * k) by omega] at HT2
    have HQ := hide hq
    obtain ⟨A, hA⟩ : ∃ A, A = mvs (8 * m) 2147483648 := ⟨_, rfl⟩
    obtain ⟨B, hB⟩ : ∃ B, B = mvs (8 * k) 2147483648 := ⟨_, rfl⟩
    have HA := hide hA
    rw [← hA, ← hB] at HT1 ⊢
    rw [← hB] at HT2
    clear hq hA hB hol hsl
    by_cases h0 : q = 0
    · have hng : ¬ (0 : Int) < (q : Int) := by omega
      have HQ2 : Hid (n = m) := by
        show n = m
        have h1 := HQ.out
        rw [h0, Nat.mul_zero, Nat.add_zero] at h1
        exact h1
      clear h0
      go_wp2
      go_ret
      exact ⟨by rw [HQ2.out, ← HA.out]; rfl, rfl⟩
    · have hpos : (0 : Int) < (q : Int) := by omega
      have hand := Go.Proofs.and_one q hq2
      rcases Nat.mod_two_eq_zero_or_one q with hbit | hbit
      · have hqh : q = 2 * (q / 2) := by omega
        have HE : Hid (n = m + 2 * k * (q / 2)) := by
          show n = m + 2 * k * (q / 2)
          have h1 := HQ.out
          rw [hqh] at h1
          rw [h1, Nat.mul_comm 2 k, Nat.mul_assoc]
        rw [hbit] at hand
        clear hbit hqh
        go_wp2_with (go_at_call 51; refine HT2.out.mono ?_; rintro e w' ⟨rfl, rfl⟩)
        go_roundw
        case rel => exact ⟨q / 2, m, 2 * k, HE.out, by omega, by simp, by rw [HA.out], rfl, by first | exact trivial | rfl⟩
        case measure => simp [RowKit.intOf]; omega
      · have hqh : q = 2 * (q / 2) + 1 := by omega
        have HE : Hid (n = m + k + 2 * k * (q / 2)) := by
          show n = m + k + 2 * k * (q / 2)
          have h1 := HQ.out
          rw [hqh, Nat.mul_add, Nat.mul_one] at h1
          rw [h1, Nat.mul_comm 2 k, Nat.mul_assoc]
          omega
        rw [hbit] at hand
        clear hbit hqh
        go_wp2_with (first | (go_at_call 51; refine HT1.out.mono ?_; rintro e w' ⟨rfl, rfl⟩; have hdone := HT1; clear HT1) | (go_at_call 51; refine HT2.out.mono ?_; rintro e w' ⟨rfl, rfl⟩))
        go_roundw
        case rel => exact ⟨q / 2, m + k, 2 * k, HE.out, by omega, by simp, rfl, rfl, by first | exact trivial | rfl⟩
        case measure => simp [RowKit.intOf]; omega

set_option maxRecDepth 100000 in
theorem crcJoin_any (a b n : Nat) (w : World) (ha : a < 4294967296) (hb : b < 4294967296) (hn : n < 9223372036854775808) : Calls Tryd.prog 35 #[.int .u32 a, .int .u32 b, .int .i64 n] w fun e w' => e = .returned (.tuple #[.int .u32 ((mvs (8 * n) a ^^^ b : Nat) : Int), .int .i64 0]) ∧ w' = w := by
  have HZ := hide (zeroBytes_any n w hn)
  have HT := hide (timesSum_any a (mvs (8 * n) 2147483648) w ha (mvs_lt _ (by decide)))
  rw [mul_pow _ _ ha] at HT
  have hx := xor32 (mvs (8 * n) a) b (mvs_lt _ ha) hb
  obtain ⟨A, hA⟩ : ∃ A, A = mvs (8 * n) a := ⟨_, rfl⟩
  obtain ⟨B, hB⟩ : ∃ B, B = mvs (8 * n) 2147483648 := ⟨_, rfl⟩
  rw [← hA] at hx HT ⊢
  rw [← hB] at HZ HT
  have HX := hide hx
  clear hA hB hx
  go_enter Tryd.func35, Tryd.ntmps35
  go_wp2_with (first | (go_at_call 52; refine HZ.out.mono ?_; rintro e w' ⟨rfl, rfl⟩) | (go_at_call 51; refine HT.out.mono ?_; rintro e w' ⟨rfl, rfl⟩) | fail)
  go_ret2
  exact ⟨by rw [← HX.out]; rfl, rfl⟩
end Go.Proofs.YtpfpelhhebafeaaDoor
