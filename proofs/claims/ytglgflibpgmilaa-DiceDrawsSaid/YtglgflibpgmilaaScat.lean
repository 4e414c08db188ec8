/- Plain arithmetic of the words that are scattered: no Go in sight. -/
namespace Go.Proofs.Ytglgflibpgmilaa.Scat

/-- The word's width as a number. -/
abbrev M : Nat := 18446744073709551616

theorem M_eq : M = 2 ^ 64 := by decide +kernel
theorem M_pos : 0 < M := by decide +kernel

theorem xs_back (x k : Nat) (hx : x < M) (hk : 22 ≤ k) :
    (x ^^^ x >>> k) ^^^ (x ^^^ x >>> k) >>> k ^^^ (x ^^^ x >>> k) >>> (2 * k) = x := by
  have h3 : x >>> (3 * k) = 0 := by
    rw [Nat.shiftRight_eq_div_pow]
    apply Nat.div_eq_of_lt
    rw [M_eq] at hx
    exact Nat.lt_of_lt_of_le hx (Nat.pow_le_pow_right (by omega) (by omega))
  rw [Nat.shiftRight_xor_distrib, Nat.shiftRight_xor_distrib, ← Nat.shiftRight_add, ← Nat.shiftRight_add]
  rw [show k + k = 2 * k by omega, show k + 2 * k = 3 * k by omega, h3]
  generalize x >>> k = a
  generalize x >>> (2 * k) = b
  apply Nat.eq_of_testBit_eq
  intro i
  simp only [Nat.testBit_xor, Nat.zero_testBit]
  cases x.testBit i <;> cases a.testBit i <;> cases b.testBit i <;> rfl

theorem xs_inj (x y k : Nat) (hx : x < M) (hy : y < M) (hk : 22 ≤ k) (h : x ^^^ x >>> k = y ^^^ y >>> k) : x = y := by
  rw [← xs_back x k hx hk, ← xs_back y k hy hk, h]

theorem mul_inj (c d x y : Nat) (hcd : c * d % M = 1) (hx : x < M) (hy : y < M) (h : x * c % M = y * c % M) : x = y := by
  have e : ∀ z : Nat, z < M → (z * c % M) * d % M = z := by
    intro z hz
    rw [Nat.mod_mul_mod, Nat.mul_assoc, ← Nat.mul_mod_mod, hcd, Nat.mul_one, Nat.mod_eq_of_lt hz]
  rw [← e x hx, ← e y hy, h]

def mix (x : Nat) : Nat :=
  let a := (x ^^^ x >>> 30) * 0xBF58476D1CE4E5B9 % M
  let b := (a ^^^ a >>> 27) * 0x94D049BB133111EB % M
  b ^^^ b >>> 31

theorem xs_lt (x k : Nat) (hx : x < M) : x ^^^ x >>> k < M := by
  rw [M_eq] at hx ⊢
  have h : x >>> k < 2 ^ 64 := Nat.lt_of_le_of_lt (Nat.shiftRight_le x k) hx
  exact Nat.xor_lt_two_pow hx h

theorem mix_lt (x : Nat) : mix x < M := xs_lt _ _ (Nat.mod_lt _ M_pos)

theorem mix_inj (x y : Nat) (hx : x < M) (hy : y < M) (h : mix x = mix y) : x = y := by
  unfold mix at h
  have h1 := xs_inj _ _ 31 (Nat.mod_lt _ M_pos) (Nat.mod_lt _ M_pos) (by omega) h
  have h2 := mul_inj 0x94D049BB133111EB 0x319642B2D24D8EC3 _ _ (by decide +kernel) (xs_lt _ _ (Nat.mod_lt _ M_pos)) (xs_lt _ _ (Nat.mod_lt _ M_pos)) h1
  have h3 := xs_inj _ _ 27 (Nat.mod_lt _ M_pos) (Nat.mod_lt _ M_pos) (by omega) h2
  have h4 := mul_inj 0xBF58476D1CE4E5B9 0x96DE1B173F119089 _ _ (by decide +kernel) (xs_lt _ _ hx) (xs_lt _ _ hy) h3
  exact xs_inj _ _ 30 hx hy (by omega) h4

theorem mix_zero : mix 0 = 0 := by decide +kernel
theorem mix_golden : mix 0x9e3779b97f4a7c15 = 0xe220a8397b1dcdaf := by decide +kernel
end Go.Proofs.Ytglgflibpgmilaa.Scat
