/- Zig and Zag. -/
import Derived.Test.YtahhlmmdmjocdaaDoorNmC
import Derived.Laws.BitsAllLaws
namespace Go.Proofs.YtahhlmmdmjocdaaDoor
open Go.Shelf Go.RowKit Go.Sort Go.Lib
set_option linter.unusedVariables false
set_option linter.unusedSimpArgs false
theorem xor_ones (x : Nat) (h : x < 18446744073709551616) : x ^^^ 18446744073709551615 = 18446744073709551615 - x := by
  apply Nat.eq_of_testBit_eq
  intro i
  have e1 : 18446744073709551615 - x = 2 ^ 64 - (x + 1) := by omega
  have e2 : 18446744073709551615 = 2 ^ 64 - 1 := by decide
  rw [e1, Nat.testBit_xor, Nat.testBit_two_pow_sub_succ h]
  rw [e2, Nat.testBit_two_pow_sub_one]
  by_cases hi : i < 64
  · simp [hi]
  · have : x.testBit i = false := Nat.testBit_lt_two_pow (Nat.lt_of_lt_of_le h (Nat.pow_le_pow_right (by decide) (by omega) : 2 ^ 64 ≤ 2 ^ i))
    simp [hi, this]
theorem xor_i64 (x : Nat) (hx : x < 9223372036854775808) : bits .xor .i64 (x : Int) (-1) = -(x : Int) - 1 := by
  show IntKind.i64.wrap (((BitVec.ofInt 64 (x : Int)) ^^^ (BitVec.ofInt 64 (-1))).toNat : Int) = _
  have e1 : (BitVec.ofInt 64 (x : Int)).toNat = x := by rw [BitVec.toNat_ofInt]; omega
  have e2 : (BitVec.ofInt 64 (-1)).toNat = 18446744073709551615 := by decide
  rw [BitVec.toNat_xor, e1, e2, xor_ones x (by omega), IntKind.wrap_i64]
  omega
theorem xor_i64z (x : Nat) (hx : x < 9223372036854775808) : bits .xor .i64 (x : Int) 0 = (x : Int) := by
  show IntKind.i64.wrap (((BitVec.ofInt 64 (x : Int)) ^^^ (BitVec.ofInt 64 0)).toNat : Int) = _
  have e1 : (BitVec.ofInt 64 (x : Int)).toNat = x := by rw [BitVec.toNat_ofInt]; omega
  have e2 : (BitVec.ofInt 64 0).toNat = 0 := by decide
  rw [BitVec.toNat_xor, e1, e2, Nat.xor_zero, IntKind.wrap_i64]
  omega
theorem xor_u64 (x : Nat) (hx : x < 18446744073709551616) : bits .xor .u64 (x : Int) 18446744073709551615 = 18446744073709551615 - (x : Int) := by
  have h := u64_xor_nat x 18446744073709551615 hx (by decide)
  rw [xor_ones x hx] at h
  rw [show (18446744073709551615 : Int) = ((18446744073709551615 : Nat) : Int) from rfl, h]
  omega
def zigA (v : Int) : Int := if v < 0 then -2 * v - 1 else 2 * v
def zagA (u : Int) : Int := if u % 2 = 1 then -(u / 2) - 1 else u / 2
theorem zig_bits (v : Int) (h0 : -9223372036854775808 ≤ v) (h1 : v ≤ 9223372036854775807) : bits .xor .u64 (IntKind.u64.wrap (IntKind.u64.wrap v * 2)) (IntKind.u64.wrap (v / 9223372036854775808)) = zigA v := by
  rw [IntKind.wrap_u64, IntKind.wrap_u64, IntKind.wrap_u64]
  unfold zigA
  by_cases hv : v < 0
  · rw [if_pos hv, show v / 9223372036854775808 % 18446744073709551616 = 18446744073709551615 by omega]
    obtain ⟨x, hx⟩ : ∃ x : Nat, (x : Int) = v % 18446744073709551616 * 2 % 18446744073709551616 := ⟨(v % 18446744073709551616 * 2 % 18446744073709551616).toNat, by omega⟩
    rw [← hx, xor_u64 x (by omega)]
    omega
  · rw [if_neg hv, show v / 9223372036854775808 % 18446744073709551616 = 0 by omega]
    obtain ⟨x, hx⟩ : ∃ x : Nat, (x : Int) = v % 18446744073709551616 * 2 % 18446744073709551616 := ⟨(v % 18446744073709551616 * 2 % 18446744073709551616).toNat, by omega⟩
    have h := u64_xor_nat x 0 (by omega) (by decide)
    rw [Nat.xor_zero] at h
    rw [← hx, show (0 : Int) = ((0 : Nat) : Int) from rfl, h]
    omega
theorem zag_bits (u : Int) (h0 : 0 ≤ u) (h1 : u < 18446744073709551616) : bits .xor .i64 (u / 2) (wrap64 (-wrap64 (bits .and .u64 u 1))) = zagA u := by
  obtain ⟨x, rfl⟩ : ∃ x : Nat, u = (x : Int) := ⟨u.toNat, by omega⟩
  have h := u64_and_nat x 1 (by omega) (by decide)
  rw [Nat.and_one_is_mod] at h
  rw [show (1 : Int) = ((1 : Nat) : Int) from rfl, h]
  have e : ((x : Int) / 2) = ((x / 2 : Nat) : Int) := by omega
  unfold zagA
  by_cases hm : x % 2 = 1
  · rw [hm, e, show wrap64 (-wrap64 ((1 : Nat) : Int)) = -1 by unfold wrap64; omega, xor_i64 (x / 2) (by omega), if_pos (by omega)]
  · rw [show x % 2 = 0 by omega, e, show wrap64 (-wrap64 ((0 : Nat) : Int)) = 0 by unfold wrap64; omega, xor_i64z (x / 2) (by omega), if_neg (by omega)]
set_option maxRecDepth 100000 in
theorem pzig (v : Int) (h0 : -9223372036854775808 ≤ v) (h1 : v ≤ 9223372036854775807) (w : World) : Calls Tryd.prog 9 #[.int .i64 v] w fun e w' => e = .returned (.int .u64 (zigA v)) ∧ w' = w := by
  rw [← zig_bits v h0 h1]
  go_enter Tryd.func9, Tryd.ntmps9
  go_wp2
  go_ret
  exact ⟨rfl, rfl⟩
set_option maxRecDepth 100000 in
theorem pzag (u : Int) (h0 : 0 ≤ u) (h1 : u < 18446744073709551616) (w : World) : Calls Tryd.prog 8 #[.int .u64 u] w fun e w' => e = .returned (.int .i64 (zagA u)) ∧ w' = w := by
  rw [← zag_bits u h0 h1]
  go_enter Tryd.func8, Tryd.ntmps8
  go_wp2
  go_ret
  exact ⟨rfl, rfl⟩
end Go.Proofs.YtahhlmmdmjocdaaDoor
