/- dice.Mix: what the Go text computes. -/
import Derived.Test.YtglgflibpgmilaaRows
import Derived.Test.YtglgflibpgmilaaScat
import Derived.WalkKit
import Derived.Laws.Bits64
namespace Go.Proofs.Ytglgflibpgmilaa
open Go.RowKit

theorem step_mul (x : Nat) (k c : Nat) (hx : x < 18446744073709551616) :
    IntKind.u64.wrap (bits .xor .u64 (x : Int) ((x : Int) / ((2 ^ k : Nat) : Int)) * (c : Int)) = (((x ^^^ x >>> k) * c % Scat.M : Nat) : Int) := by
  rw [xorShift_u64 x (2 ^ k) hx, IntKind.wrap_u64, Nat.shiftRight_eq_div_pow]
  show _ = (((x ^^^ x / 2 ^ k) * c % 18446744073709551616 : Nat) : Int)
  rw [Int.natCast_emod, Int.natCast_mul]
  rfl

theorem mix_int (x : Nat) (hx : x < 18446744073709551616) :
    bits .xor .u64
      (IntKind.u64.wrap (bits .xor .u64 (IntKind.u64.wrap (bits .xor .u64 (x : Int) ((x : Int) / 1073741824) * 13787848793156543929))
        (IntKind.u64.wrap (bits .xor .u64 (x : Int) ((x : Int) / 1073741824) * 13787848793156543929) / 134217728) * 10723151780598845931))
      (IntKind.u64.wrap (bits .xor .u64 (IntKind.u64.wrap (bits .xor .u64 (x : Int) ((x : Int) / 1073741824) * 13787848793156543929))
        (IntKind.u64.wrap (bits .xor .u64 (x : Int) ((x : Int) / 1073741824) * 13787848793156543929) / 134217728) * 10723151780598845931) / 2147483648)
      = ((Scat.mix x : Nat) : Int) := by
  have e1 := step_mul x 30 13787848793156543929 hx
  have e2 := fun a (h : a < 18446744073709551616) => step_mul a 27 10723151780598845931 h
  have e3 := fun a (h : a < 18446744073709551616) => xorShift_u64 a (2 ^ 31) h
  simp only [show ((2 ^ 30 : Nat) : Int) = 1073741824 from by decide +kernel, show ((2 ^ 27 : Nat) : Int) = 134217728 from by decide +kernel, show ((2 ^ 31 : Nat) : Int) = 2147483648 from by decide +kernel] at e1 e2 e3
  have e1' : IntKind.u64.wrap (bits .xor .u64 (x : Int) ((x : Int) / 1073741824) * 13787848793156543929) = (((x ^^^ x >>> 30) * 13787848793156543929 % Scat.M : Nat) : Int) := e1
  rw [e1']
  have ha : (x ^^^ x >>> 30) * 13787848793156543929 % Scat.M < Scat.M := Nat.mod_lt _ Scat.M_pos
  have hm : Scat.mix x = (fun a => (fun b => b ^^^ b >>> 31) ((a ^^^ a >>> 27) * 10723151780598845931 % Scat.M)) ((x ^^^ x >>> 30) * 13787848793156543929 % Scat.M) := rfl
  rw [hm]
  generalize (x ^^^ x >>> 30) * 13787848793156543929 % Scat.M = a at ha ⊢
  have e2' : IntKind.u64.wrap (bits .xor .u64 (a : Int) ((a : Int) / 134217728) * 10723151780598845931) = (((a ^^^ a >>> 27) * 10723151780598845931 % Scat.M : Nat) : Int) := e2 a ha
  rw [e2']
  have hb : (a ^^^ a >>> 27) * 10723151780598845931 % Scat.M < Scat.M := Nat.mod_lt _ Scat.M_pos
  show _ = (((fun b => b ^^^ b >>> 31) ((a ^^^ a >>> 27) * 10723151780598845931 % Scat.M) : Nat) : Int)
  generalize (a ^^^ a >>> 27) * 10723151780598845931 % Scat.M = b at hb ⊢
  rw [e3 b hb]
  show _ = ((b ^^^ b >>> 31 : Nat) : Int)
  rw [Nat.shiftRight_eq_div_pow]

theorem ret_int {k : IntKind} {a b : Int} (h : a = b) : Ending.returned (.int k a) = .returned (.int k b) := by rw [h]

theorem mix_any (a : Int) (w : World) (h0 : 0 ≤ a) (h1 : a < 18446744073709551616) :
    Calls Try.prog 23 #[.int .u64 a] w fun e w' => e = .returned (.int .u64 (Scat.mix a.toNat)) ∧ w' = w := by
  obtain ⟨n, rfl⟩ := Int.eq_ofNat_of_zero_le h0
  go_enter Try.func23, Try.ntmps23
  go_wp2
  go_ret
  exact ⟨ret_int (mix_int n (by omega)), rfl⟩
end Go.Proofs.Ytglgflibpgmilaa
