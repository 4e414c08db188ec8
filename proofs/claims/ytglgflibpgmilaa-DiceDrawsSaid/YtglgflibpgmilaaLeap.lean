/- The step of the generator: linear, a root of its polynomial; powers of x. No Go in sight. -/
import Derived.Test.YtglgflibpgmilaaNext
namespace Go.Proofs.Ytglgflibpgmilaa
namespace Leap

def xs (s t : St) : St := ⟨s.a ^^^ t.a, s.b ^^^ t.b, s.c ^^^ t.c, s.d ^^^ t.d⟩
def zs : St := ⟨0, 0, 0, 0⟩
theorem St.ext' {s t : St} (h1 : s.a = t.a) (h2 : s.b = t.b) (h3 : s.c = t.c) (h4 : s.d = t.d) : s = t := by
  cases s; cases t; simp_all
theorem xs_ok {s t : St} (h : s.Ok) (k : t.Ok) : (xs s t).Ok := ⟨xor_lt h.a k.a, xor_lt h.b k.b, xor_lt h.c k.c, xor_lt h.d k.d⟩
theorem zs_ok : zs.Ok := ⟨by decide, by decide, by decide, by decide⟩
theorem xs_comm (s t : St) : xs s t = xs t s := by simp [xs, Nat.xor_comm]
theorem xs_assoc (s t u : St) : xs (xs s t) u = xs s (xs t u) := by simp [xs, Nat.xor_assoc]
theorem xs_zs (s : St) : xs s zs = s := by simp [xs, zs]
theorem zs_xs (s : St) : xs zs s = s := by simp [xs, zs]
theorem xs_self (s : St) : xs s s = zs := by simp [xs, zs]
theorem xs_four (a b c d : St) : xs (xs a b) (xs c d) = xs (xs a c) (xs b d) := by
  rw [xs_assoc, xs_assoc, ← xs_assoc b c d, xs_comm b c, xs_assoc]

theorem mulpow_xor (x y k : Nat) : (x ^^^ y) * 2 ^ k = x * 2 ^ k ^^^ y * 2 ^ k := by
  rw [← Nat.shiftLeft_eq, ← Nat.shiftLeft_eq, ← Nat.shiftLeft_eq, Nat.shiftLeft_xor_distrib]
theorem shl_xor (x y k : Nat) : (x ^^^ y) * 2 ^ k % 18446744073709551616 = (x * 2 ^ k % 18446744073709551616) ^^^ (y * 2 ^ k % 18446744073709551616) := by
  rw [mulpow_xor, show (18446744073709551616 : Nat) = 2 ^ 64 from by decide, Nat.xor_mod_two_pow]
theorem divpow_xor (x y k : Nat) : (x ^^^ y) / 2 ^ k = x / 2 ^ k ^^^ y / 2 ^ k := by
  rw [← Nat.shiftRight_eq_div_pow, ← Nat.shiftRight_eq_div_pow, ← Nat.shiftRight_eq_div_pow, Nat.shiftRight_xor_distrib]
/-- The two parts of a turned word have no bit in common. -/
theorem rot_eq (x k : Nat) (hx : x < 18446744073709551616) (hk : k ≤ 64) : rot x k = (x * 2 ^ k % 18446744073709551616) ^^^ (x / 2 ^ (64 - k)) := by
  unfold rot
  apply Nat.eq_of_testBit_eq
  intro i
  rw [Nat.testBit_or, Nat.testBit_xor, show (18446744073709551616 : Nat) = 2 ^ 64 from by decide, Nat.testBit_mod_two_pow, ← Nat.shiftLeft_eq, Nat.testBit_shiftLeft, ← Nat.shiftRight_eq_div_pow, Nat.testBit_shiftRight]
  by_cases h : k ≤ i
  · have : x.testBit (64 - k + i) = false := Nat.testBit_lt_two_pow (Nat.lt_of_lt_of_le hx (by
      rw [show (18446744073709551616 : Nat) = 2 ^ 64 from by decide]; exact Nat.pow_le_pow_right (by omega) (by omega)))
    simp [this]
  · simp [h]
theorem rot_xor (x y k : Nat) (hx : x < 18446744073709551616) (hy : y < 18446744073709551616) (hk : k ≤ 64) : rot (x ^^^ y) k = rot x k ^^^ rot y k := by
  rw [rot_eq _ _ (xor_lt hx hy) hk, rot_eq _ _ hx hk, rot_eq _ _ hy hk, shl_xor, divpow_xor]
  simp only [Nat.xor_assoc]
  congr 1
  rw [← Nat.xor_assoc, ← Nat.xor_assoc, Nat.xor_comm (y * 2 ^ k % 18446744073709551616)]

theorem xor4 (a b c d : Nat) : (a ^^^ b) ^^^ (c ^^^ d) = (a ^^^ c) ^^^ (b ^^^ d) := by
  rw [Nat.xor_assoc, Nat.xor_assoc, ← Nat.xor_assoc b c d, Nat.xor_comm b c, Nat.xor_assoc c b d]

/-- The step is linear. -/
theorem next_xor {s t : St} (h : s.Ok) (k : t.Ok) : stNext (xs s t) = xs (stNext s) (stNext t) := by
  apply St.ext'
  · simp only [stNext, xs]; rw [xor4 s.d t.d s.b t.b, xor4]
  · simp only [stNext, xs]; rw [xor4 s.c t.c s.a t.a, xor4]
  · simp only [stNext, xs]
    rw [xor4 s.c t.c s.a t.a, show (131072 : Nat) = 2 ^ 17 from by decide, shl_xor, xor4]
  · simp only [stNext, xs]
    rw [xor4 s.d t.d s.b t.b, rot_xor _ _ _ (xor_lt h.d h.b) (xor_lt k.d k.b) (by omega)]
theorem next_zs : stNext zs = zs := St.ext' (by decide +kernel) (by decide +kernel) (by decide +kernel) (by decide +kernel)

def it : Nat → St → St
  | 0, s => s
  | n + 1, s => stNext (it n s)
theorem it_ok {s : St} (h : s.Ok) : ∀ n, (it n s).Ok
  | 0 => h
  | n + 1 => stNext_ok (it_ok h n)
theorem it_xor {s t : St} (h : s.Ok) (k : t.Ok) : ∀ n, it n (xs s t) = xs (it n s) (it n t)
  | 0 => rfl
  | n + 1 => by simp only [it]; rw [it_xor h k n, next_xor (it_ok h n) (it_ok k n)]
theorem it_next (s : St) : ∀ n, it n (stNext s) = stNext (it n s)
  | 0 => rfl
  | n + 1 => by simp only [it]; rw [it_next s n]
theorem it_add (s : St) (m : Nat) : ∀ n, it (m + n) s = it m (it n s)
  | 0 => rfl
  | n + 1 => by
    show stNext (it (m + n) s) = it m (stNext (it n s))
    rw [it_add s m n, it_next]
theorem it_zs : ∀ n, it n zs = zs
  | 0 => rfl
  | n + 1 => by simp only [it]; rw [it_zs n, next_zs]

/-- The bit i of 256. -/
def word (q : St) : Nat → Nat
  | 0 => q.a
  | 1 => q.b
  | 2 => q.c
  | _ => q.d
def bitS (q : St) (i : Nat) : Bool := (word q (i / 64)).testBit (i % 64)
theorem word_xs (q r : St) (k : Nat) : word (xs q r) k = word q k ^^^ word r k := by
  unfold word; split <;> rfl
theorem bitS_xs (q r : St) (i : Nat) : bitS (xs q r) i = (bitS q i ^^ bitS r i) := by
  unfold bitS; rw [word_xs, Nat.testBit_xor]

def actN (q s : St) : Nat → St
  | 0 => zs
  | n + 1 => if bitS q n then xs (actN q s n) (it n s) else actN q s n
def act (q s : St) : St := actN q s 256
theorem actN_ok {q s : St} (h : s.Ok) : ∀ n, (actN q s n).Ok
  | 0 => zs_ok
  | n + 1 => by
    simp only [actN]
    split
    · exact xs_ok (actN_ok h n) (it_ok h n)
    · exact actN_ok h n
theorem actN_xs (q r s : St) : ∀ n, actN (xs q r) s n = xs (actN q s n) (actN r s n)
  | 0 => (xs_zs zs).symm
  | n + 1 => by
    simp only [actN, bitS_xs]
    rw [actN_xs q r s n]
    cases bitS q n <;> cases bitS r n <;> simp [xs_assoc]
    · rw [xs_comm (it n s)]
    · rw [← xs_assoc (it n s), xs_comm (it n s), xs_assoc, xs_self, xs_zs]
theorem actN_next {q s : St} (h : s.Ok) : ∀ n, stNext (actN q s n) = actN q (stNext s) n
  | 0 => next_zs
  | n + 1 => by
    simp only [actN]
    split
    · rw [next_xor (actN_ok h n) (it_ok h n), actN_next h n, it_next]
    · exact actN_next h n

/-- All bits one place up, the highest lost. -/
def sh (p : St) : St := ⟨p.a * 2 % 18446744073709551616, (p.b * 2 % 18446744073709551616) ||| (p.a / 9223372036854775808), (p.c * 2 % 18446744073709551616) ||| (p.b / 9223372036854775808),
  (p.d * 2 % 18446744073709551616) ||| (p.c / 9223372036854775808)⟩
theorem sh_zero (p : St) : bitS (sh p) 0 = false := by
  simp only [bitS, sh, word]
  rw [show (18446744073709551616 : Nat) = 2 ^ 64 from by decide, Nat.testBit_mod_two_pow]
  simp [Nat.testBit_zero]
theorem up_bit (x y j : Nat) (hy : y < 18446744073709551616) (hj : j < 63) : ((x * 2 % 18446744073709551616) ||| (y / 9223372036854775808)).testBit (j + 1) = x.testBit j := by
  rw [Nat.testBit_or, show (18446744073709551616 : Nat) = 2 ^ 64 from by decide, Nat.testBit_mod_two_pow]
  have h2 : (y / 9223372036854775808).testBit (j + 1) = false := by
    apply Nat.testBit_lt_two_pow
    have h3 : y / 9223372036854775808 < 2 := by omega
    exact Nat.lt_of_lt_of_le h3 (by have := Nat.pow_le_pow_right (show 1 ≤ 2 by omega) (show 1 ≤ j + 1 by omega); simpa using this)
  rw [h2, show x * 2 = x <<< 1 from by rw [Nat.shiftLeft_eq], Nat.testBit_shiftLeft]
  simp
  omega
theorem up_low (x y : Nat) : ((x * 2 % 18446744073709551616) ||| (y / 9223372036854775808)).testBit 0 = y.testBit 63 := by
  rw [Nat.testBit_or, show (18446744073709551616 : Nat) = 2 ^ 64 from by decide, Nat.testBit_mod_two_pow, show x * 2 = x <<< 1 from by rw [Nat.shiftLeft_eq], Nat.testBit_shiftLeft]
  have : (y / 9223372036854775808).testBit 0 = y.testBit 63 := by
    rw [show y / 9223372036854775808 = y >>> 63 from by rw [Nat.shiftRight_eq_div_pow], Nat.testBit_shiftRight]
  rw [this]
  simp
theorem sh_succ {p : St} (h : p.Ok) (i : Nat) (hi : i < 255) : bitS (sh p) (i + 1) = bitS p i := by
  unfold bitS
  by_cases hm : i % 64 = 63
  · have h1 : (i + 1) % 64 = 0 := by omega
    rw [h1, hm]
    rcases (show (i / 64 = 0 ∧ (i + 1) / 64 = 1) ∨ (i / 64 = 1 ∧ (i + 1) / 64 = 2) ∨ (i / 64 = 2 ∧ (i + 1) / 64 = 3) by omega) with ⟨e1, e2⟩ | ⟨e1, e2⟩ | ⟨e1, e2⟩
    · rw [e1, e2]; exact up_low _ _
    · rw [e1, e2]; exact up_low _ _
    · rw [e1, e2]; exact up_low _ _
  · have h1 : (i + 1) % 64 = i % 64 + 1 := by omega
    have h2 : (i + 1) / 64 = i / 64 := by omega
    rw [h1, h2]
    rcases (show i / 64 = 0 ∨ i / 64 = 1 ∨ i / 64 = 2 ∨ i / 64 = 3 by omega) with e | e | e | e
    · rw [e]
      have := up_bit p.a 0 (i % 64) (by decide) (by omega)
      simpa [word, sh] using this
    · rw [e]; exact up_bit _ _ _ h.a (by omega)
    · rw [e]; exact up_bit _ _ _ h.b (by omega)
    · rw [e]; exact up_bit _ _ _ h.c (by omega)
theorem actN_sh {p s : St} (hp : p.Ok) (h : s.Ok) : ∀ n, n ≤ 255 → actN (sh p) s (n + 1) = stNext (actN p s n)
  | 0, _ => by simp only [actN]; rw [sh_zero, next_zs]; simp
  | n + 1, hn => by
    rw [actN, actN_sh hp h n (by omega), sh_succ hp n (by omega)]
    simp only [actN]
    split
    · rw [next_xor (actN_ok h n) (it_ok h n)]; rfl
    · rfl

def poly : St := ⟨0x9D116F2BB0F0F001, 0x0280002BCEFD1A5E, 0x04B4EDCF26259F85, 0x0003C03C3F3ECB19⟩
theorem poly_ok : poly.Ok := ⟨by decide, by decide, by decide, by decide⟩

def fold (q : St) : Nat → Nat → St → St → St
  | 0, _, s, acc => xs acc s
  | n + 1, i, s, acc => fold q n (i + 1) (stNext s) (if bitS q i then xs acc s else acc)
theorem fold_eq (q s : St) : ∀ n i, fold q n i (it i s) (actN q s i) = xs (actN q s (i + n)) (it (i + n) s)
  | 0, i => rfl
  | n + 1, i => by
    have h := fold_eq q s n (i + 1)
    rw [show i + (n + 1) = i + 1 + n by omega, ← h]
    rfl
def isZ (s : St) : Bool := s.a == 0 && (s.b == 0 && (s.c == 0 && s.d == 0))
def chkA : Nat → Bool
  | 0 => true
  | n + 1 => isZ (fold poly 256 0 ⟨2 ^ n, 0, 0, 0⟩ zs) && chkA n
def chkB : Nat → Bool
  | 0 => true
  | n + 1 => isZ (fold poly 256 0 ⟨0, 2 ^ n, 0, 0⟩ zs) && chkB n
def chkC : Nat → Bool
  | 0 => true
  | n + 1 => isZ (fold poly 256 0 ⟨0, 0, 2 ^ n, 0⟩ zs) && chkC n
def chkD : Nat → Bool
  | 0 => true
  | n + 1 => isZ (fold poly 256 0 ⟨0, 0, 0, 2 ^ n⟩ zs) && chkD n
theorem chkA_all : chkA 64 = true := by decide +kernel
theorem chkB_all : chkB 64 = true := by decide +kernel
theorem chkC_all : chkC 64 = true := by decide +kernel
theorem chkD_all : chkD 64 = true := by decide +kernel
theorem isZ_zs {s : St} (h : isZ s = true) : s = zs := by
  simp only [isZ, Bool.and_eq_true, beq_iff_eq] at h
  exact St.ext' h.1 h.2.1 h.2.2.1 h.2.2.2
theorem chkA_at : ∀ n k, k < n → chkA n = true → fold poly 256 0 ⟨2 ^ k, 0, 0, 0⟩ zs = zs
  | n + 1, k, hk, h => by
    simp only [chkA, Bool.and_eq_true] at h
    rcases Nat.lt_or_ge k n with h1 | h1
    · exact chkA_at n k h1 h.2
    · obtain rfl : k = n := by omega
      exact isZ_zs h.1
theorem chkB_at : ∀ n k, k < n → chkB n = true → fold poly 256 0 ⟨0, 2 ^ k, 0, 0⟩ zs = zs
  | n + 1, k, hk, h => by
    simp only [chkB, Bool.and_eq_true] at h
    rcases Nat.lt_or_ge k n with h1 | h1
    · exact chkB_at n k h1 h.2
    · obtain rfl : k = n := by omega
      exact isZ_zs h.1
theorem chkC_at : ∀ n k, k < n → chkC n = true → fold poly 256 0 ⟨0, 0, 2 ^ k, 0⟩ zs = zs
  | n + 1, k, hk, h => by
    simp only [chkC, Bool.and_eq_true] at h
    rcases Nat.lt_or_ge k n with h1 | h1
    · exact chkC_at n k h1 h.2
    · obtain rfl : k = n := by omega
      exact isZ_zs h.1
theorem chkD_at : ∀ n k, k < n → chkD n = true → fold poly 256 0 ⟨0, 0, 0, 2 ^ k⟩ zs = zs
  | n + 1, k, hk, h => by
    simp only [chkD, Bool.and_eq_true] at h
    rcases Nat.lt_or_ge k n with h1 | h1
    · exact chkD_at n k h1 h.2
    · obtain rfl : k = n := by omega
      exact isZ_zs h.1

theorem actN_lin {q s t : St} (h : s.Ok) (k : t.Ok) : ∀ n, actN q (xs s t) n = xs (actN q s n) (actN q t n)
  | 0 => (xs_zs zs).symm
  | n + 1 => by
    simp only [actN]
    split
    · rw [actN_lin h k n, it_xor h k, xs_four]
    · exact actN_lin h k n
/-- What the polynomial makes of a state, with the state 256 steps behind. -/
def rest (s : St) : St := fold poly 256 0 s zs
theorem rest_eq (s : St) : rest s = xs (act poly s) (it 256 s) := by
  have := fold_eq poly s 256 0
  rw [Nat.zero_add] at this
  exact this
theorem rest_xs {s t : St} (h : s.Ok) (k : t.Ok) : rest (xs s t) = xs (rest s) (rest t) := by
  rw [rest_eq, rest_eq, rest_eq, it_xor h k]
  unfold act
  rw [actN_lin h k, xs_four]

/-- A word is built of its bits. -/
theorem by_bits (P : Nat → Prop) (h0 : P 0) (h1 : ∀ k, k < 64 → P (2 ^ k)) (hx : ∀ x y, x < 18446744073709551616 → y < 18446744073709551616 → P x → P y → P (x ^^^ y)) :
    ∀ k, k ≤ 64 → ∀ x, x < 2 ^ k → P x
  | 0, _, x, h => by
    have : x = 0 := by simpa using h
    rw [this]; exact h0
  | k + 1, hk, x, h => by
    have hM : 2 ^ k < 18446744073709551616 := by
      rw [show (18446744073709551616 : Nat) = 2 ^ 64 from by decide]; exact Nat.pow_lt_pow_right (by omega) (by omega)
    by_cases hlt : x < 2 ^ k
    · exact by_bits P h0 h1 hx k (by omega) x hlt
    · have e : x = (x - 2 ^ k) ^^^ 2 ^ k := by
        have h2 : x - 2 ^ k < 2 ^ k := by rw [Nat.pow_succ] at h; omega
        have h3 : (x - 2 ^ k) ^^^ 2 ^ k = (x - 2 ^ k) + 2 ^ k := by
          have := Nat.two_pow_add_eq_or_of_lt h2 1
          rw [Nat.mul_one] at this
          rw [Nat.add_comm, this]
          apply Nat.eq_of_testBit_eq
          intro i
          rw [Nat.testBit_xor, Nat.testBit_or, Nat.testBit_two_pow]
          by_cases hi : k = i
          · subst hi
            rw [Nat.testBit_lt_two_pow h2]; simp
          · simp [hi]
        rw [h3]; omega
      rw [e]
      have h2 : x - 2 ^ k < 2 ^ k := by rw [Nat.pow_succ] at h; omega
      exact hx _ _ (by omega) hM (by_bits P h0 h1 hx k (by omega) _ h2) (h1 k (by omega))

theorem rest_zs : rest zs = zs := by
  have h := rest_xs zs_ok zs_ok
  rw [xs_self, xs_self] at h
  exact h
theorem z64 : (0 : Nat) < 18446744073709551616 := by decide
theorem okA {x : Nat} (h : x < 18446744073709551616) : (⟨x, 0, 0, 0⟩ : St).Ok := ⟨h, z64, z64, z64⟩
theorem okB {x : Nat} (h : x < 18446744073709551616) : (⟨0, x, 0, 0⟩ : St).Ok := ⟨z64, h, z64, z64⟩
theorem okC {x : Nat} (h : x < 18446744073709551616) : (⟨0, 0, x, 0⟩ : St).Ok := ⟨z64, z64, h, z64⟩
theorem okD {x : Nat} (h : x < 18446744073709551616) : (⟨0, 0, 0, x⟩ : St).Ok := ⟨z64, z64, z64, h⟩
theorem restA (x : Nat) (h : x < 18446744073709551616) : rest ⟨x, 0, 0, 0⟩ = zs := by
  refine by_bits (fun x => rest ⟨x, 0, 0, 0⟩ = zs) rest_zs (fun k hk => chkA_at 64 k hk chkA_all) ?_ 64 (Nat.le_refl _) x h
  intro x y hx hy h1 h2
  have g1 : rest ⟨x, 0, 0, 0⟩ = zs := h1
  have g2 : rest ⟨y, 0, 0, 0⟩ = zs := h2
  have e : (⟨x ^^^ y, 0, 0, 0⟩ : St) = xs ⟨x, 0, 0, 0⟩ ⟨y, 0, 0, 0⟩ := by simp [xs]
  show rest ⟨x ^^^ y, 0, 0, 0⟩ = zs
  rw [e, rest_xs (okA hx) (okA hy), g1, g2, xs_zs]
theorem restB (x : Nat) (h : x < 18446744073709551616) : rest ⟨0, x, 0, 0⟩ = zs := by
  refine by_bits (fun x => rest ⟨0, x, 0, 0⟩ = zs) rest_zs (fun k hk => chkB_at 64 k hk chkB_all) ?_ 64 (Nat.le_refl _) x h
  intro x y hx hy h1 h2
  have g1 : rest ⟨0, x, 0, 0⟩ = zs := h1
  have g2 : rest ⟨0, y, 0, 0⟩ = zs := h2
  have e : (⟨0, x ^^^ y, 0, 0⟩ : St) = xs ⟨0, x, 0, 0⟩ ⟨0, y, 0, 0⟩ := by simp [xs]
  show rest ⟨0, x ^^^ y, 0, 0⟩ = zs
  rw [e, rest_xs (okB hx) (okB hy), g1, g2, xs_zs]
theorem restC (x : Nat) (h : x < 18446744073709551616) : rest ⟨0, 0, x, 0⟩ = zs := by
  refine by_bits (fun x => rest ⟨0, 0, x, 0⟩ = zs) rest_zs (fun k hk => chkC_at 64 k hk chkC_all) ?_ 64 (Nat.le_refl _) x h
  intro x y hx hy h1 h2
  have g1 : rest ⟨0, 0, x, 0⟩ = zs := h1
  have g2 : rest ⟨0, 0, y, 0⟩ = zs := h2
  have e : (⟨0, 0, x ^^^ y, 0⟩ : St) = xs ⟨0, 0, x, 0⟩ ⟨0, 0, y, 0⟩ := by simp [xs]
  show rest ⟨0, 0, x ^^^ y, 0⟩ = zs
  rw [e, rest_xs (okC hx) (okC hy), g1, g2, xs_zs]
theorem restD (x : Nat) (h : x < 18446744073709551616) : rest ⟨0, 0, 0, x⟩ = zs := by
  refine by_bits (fun x => rest ⟨0, 0, 0, x⟩ = zs) rest_zs (fun k hk => chkD_at 64 k hk chkD_all) ?_ 64 (Nat.le_refl _) x h
  intro x y hx hy h1 h2
  have g1 : rest ⟨0, 0, 0, x⟩ = zs := h1
  have g2 : rest ⟨0, 0, 0, y⟩ = zs := h2
  have e : (⟨0, 0, 0, x ^^^ y⟩ : St) = xs ⟨0, 0, 0, x⟩ ⟨0, 0, 0, y⟩ := by simp [xs]
  show rest ⟨0, 0, 0, x ^^^ y⟩ = zs
  rw [e, rest_xs (okD hx) (okD hy), g1, g2, xs_zs]
theorem rest_all {s : St} (h : s.Ok) : rest s = zs := by
  have e : s = xs (xs ⟨s.a, 0, 0, 0⟩ ⟨0, s.b, 0, 0⟩) (xs ⟨0, 0, s.c, 0⟩ ⟨0, 0, 0, s.d⟩) := by
    apply St.ext' <;> simp [xs]
  rw [e, rest_xs (xs_ok (okA h.a) (okB h.b)) (xs_ok (okC h.c) (okD h.d)), rest_xs (okA h.a) (okB h.b), rest_xs (okC h.c) (okD h.d), restA _ h.a, restB _ h.b, restC _ h.c, restD _ h.d]
  rfl
/-- The step is a root of the polynomial. -/
theorem act_poly {s : St} (h : s.Ok) : act poly s = it 256 s := by
  have h1 := rest_eq s
  rw [rest_all h] at h1
  have h2 : xs zs (it 256 s) = xs (xs (act poly s) (it 256 s)) (it 256 s) := by rw [← h1]
  rw [zs_xs, xs_assoc, xs_self, xs_zs] at h2
  exact h2.symm

/-- Times x, modulo the polynomial. -/
def tx (p : St) : St := if bitS p 255 then xs (sh p) poly else sh p
theorem or_lt64 {x y : Nat} (hx : x < 18446744073709551616) (hy : y < 18446744073709551616) : x ||| y < 18446744073709551616 := Nat.or_lt_two_pow (n := 64) hx hy
theorem sh_ok {p : St} (h : p.Ok) : (sh p).Ok := by
  have ha := h.a; have hb := h.b; have hc := h.c
  exact ⟨Nat.mod_lt _ (by decide), or_lt64 (Nat.mod_lt _ (by decide)) (by omega), or_lt64 (Nat.mod_lt _ (by decide)) (by omega), or_lt64 (Nat.mod_lt _ (by decide)) (by omega)⟩
theorem tx_ok {p : St} (h : p.Ok) : (tx p).Ok := by
  unfold tx; split
  · exact xs_ok (sh_ok h) poly_ok
  · exact sh_ok h
theorem act_tx {p s : St} (hp : p.Ok) (h : s.Ok) : act (tx p) s = stNext (act p s) := by
  have h1 : act (sh p) s = stNext (actN p s 255) := actN_sh hp h 255 (by omega)
  have h2 : act p s = if bitS p 255 then xs (actN p s 255) (it 255 s) else actN p s 255 := rfl
  rw [h2]
  unfold tx
  split
  · have h3 : act (xs (sh p) poly) s = xs (act (sh p) s) (act poly s) := actN_xs _ _ _ _
    rw [h3, h1, act_poly h, next_xor (actN_ok h 255) (it_ok h 255)]
    rfl
  · exact h1

/-- The product's state behind n bits of the second. -/
def tm (a b : St) : Nat → St
  | 0 => zs
  | n + 1 => if bitS b (255 - n) then xs (tx (tm a b n)) a else tx (tm a b n)
theorem tm_ok {a b : St} (ha : a.Ok) : ∀ n, (tm a b n).Ok
  | 0 => zs_ok
  | n + 1 => by
    simp only [tm]; split
    · exact xs_ok (tx_ok (tm_ok ha n)) ha
    · exact tx_ok (tm_ok ha n)
theorem act_zs (s : St) : act zs s = zs := by
  have h := actN_xs zs zs s 256
  rw [xs_self, xs_self] at h
  exact h
theorem tm_act {a b s : St} (ha : a.Ok) (h : s.Ok) : ∀ n, n ≤ 256 → xs (it (256 - n) (act (tm a b n) s)) (actN b (act a s) (256 - n)) = act b (act a s)
  | 0, _ => by
    simp only [tm]; rw [act_zs, it_zs, zs_xs]; rfl
  | n + 1, hn => by
    have hu : (act a s).Ok := actN_ok h 256
    have ih := tm_act (b := b) ha h n (by omega)
    rw [← ih]
    have e : 256 - n = 255 - n + 1 := by omega
    have e2 : 256 - (n + 1) = 255 - n := by omega
    rw [e, e2]
    have ht : (act (tm a b n) s).Ok := actN_ok h 256
    have hact : act (tx (tm a b n)) s = stNext (act (tm a b n) s) := act_tx (tm_ok ha n) h
    simp only [tm, actN]
    split
    · have h3 : act (xs (tx (tm a b n)) a) s = xs (act (tx (tm a b n)) s) (act a s) := actN_xs _ _ _ _
      rw [h3, hact, it_xor (stNext_ok ht) hu, it_next]
      show xs (xs (it (255 - n + 1) (act (tm a b n) s)) (it (255 - n) (act a s))) _ = _
      rw [xs_assoc, xs_comm (it (255 - n) (act a s))]
    · rw [hact, it_next]; rfl
theorem act_tm {a b s : St} (ha : a.Ok) (h : s.Ok) : act (tm a b 256) s = act b (act a s) := by
  have := tm_act (b := b) ha h 256 (Nat.le_refl _)
  simp only [Nat.sub_self, it, actN] at this
  rw [xs_zs] at this
  exact this

def one : St := ⟨1, 0, 0, 0⟩
theorem one_ok : one.Ok := ⟨by decide, by decide, by decide, by decide⟩
theorem act_one {s : St} : act one s = s := by
  have h : ∀ n, actN one s (n + 1) = s := by
    intro n
    induction n with
    | zero => simp [actN, bitS, one, word, it, zs_xs]
    | succ n ih =>
      rw [actN, ih]
      have : bitS one (n + 1) = false := by
        unfold bitS
        by_cases hd : (n + 1) / 64 = 0
        · rw [hd]
          show (1 : Nat).testBit ((n + 1) % 64) = false
          have hm : (n + 1) % 64 ≠ 0 := by omega
          rw [show (1 : Nat) = 2 ^ 0 from rfl, Nat.testBit_two_pow]
          simp; omega
        · have : word one ((n + 1) / 64) = 0 := by
            unfold word one
            split <;> simp_all
          rw [this]; simp
      rw [this]; simp
  exact h 255
/-- What a polynomial does to every state. -/
def Powers (p : St) (m : Nat) : Prop := p.Ok ∧ ∀ s : St, s.Ok → act p s = it m s
theorem Powers.one : Powers one 0 := ⟨one_ok, fun _ _ => act_one⟩
theorem Powers.sq {p : St} {m : Nat} (h : Powers p m) : Powers (tm p p 256) (2 * m) := by
  refine ⟨tm_ok h.1 256, fun s hs => ?_⟩
  rw [act_tm h.1 hs, h.2 (act p s) (actN_ok hs 256), h.2 s hs, ← it_add, Nat.two_mul]
theorem Powers.tx {p : St} {m : Nat} (h : Powers p m) : Powers (tx p) (m + 1) := by
  refine ⟨tx_ok h.1, fun s hs => ?_⟩
  rw [act_tx h.1 hs, h.2 s hs]
  rfl
end Leap
end Go.Proofs.Ytglgflibpgmilaa
