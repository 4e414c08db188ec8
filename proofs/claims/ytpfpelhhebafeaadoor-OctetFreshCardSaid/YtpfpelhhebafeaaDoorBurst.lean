/- A burst of up to 32 bits is told: the sum is linear, and no power of x divides the polynomial. -/
import Derived.Test.YtpfpelhhebafeaaDoorSealed
namespace Go.Proofs.YtpfpelhhebafeaaDoor
set_option linter.unusedVariables false

theorem xor_eq {a b : Nat} (h : a ^^^ b = 0) : a = b := by
  have := congrArg (· ^^^ b) h
  simpa [Nat.xor_assoc] using this
/-- A register moved on by one bit of 0. -/
def mv (r : Nat) : Nat := (r / 2) ^^^ (if r % 2 = 1 then 2197175160 else 0)
def mvs : Nat → Nat → Nat
  | 0, r => r
  | n + 1, r => mvs n (mv r)
theorem mv_xor (a b : Nat) : mv (a ^^^ b) = mv a ^^^ mv b := by
  have h2 : (a ^^^ b) / 2 = (a / 2) ^^^ (b / 2) := Nat.xor_div_two_pow (n := 1)
  have hm : (a ^^^ b) % 2 = (a % 2) ^^^ (b % 2) := Nat.xor_mod_two_pow (n := 1)
  unfold mv
  rw [h2, hm]
  rcases Nat.mod_two_eq_zero_or_one a with ha | ha <;> rcases Nat.mod_two_eq_zero_or_one b with hb | hb <;> rw [ha, hb] <;> simp
  · exact Nat.xor_assoc _ _ _
  · rw [Nat.xor_assoc, Nat.xor_assoc, Nat.xor_comm (b / 2)]
  · rw [Nat.xor_assoc, ← Nat.xor_assoc 2197175160, Nat.xor_comm 2197175160, Nat.xor_assoc, Nat.xor_self, Nat.xor_zero]
theorem mvs_xor (n a b : Nat) : mvs n (a ^^^ b) = mvs n a ^^^ mvs n b := by
  induction n generalizing a b with
  | zero => rfl
  | succ n ih => rw [mvs, mv_xor, ih]; rfl
theorem mv_two (x : Nat) : mv (2 * x) = x := by
  unfold mv
  rw [show 2 * x / 2 = x by omega, if_neg (by omega), Nat.xor_zero]
theorem mvs_pow (n x : Nat) : mvs n (2 ^ n * x) = x := by
  induction n with
  | zero => simp [mvs]
  | succ n ih => rw [mvs, Nat.pow_succ, Nat.mul_right_comm, Nat.mul_comm _ 2, mv_two, ih]
theorem mvs_add (m n x : Nat) : mvs (m + n) x = mvs n (mvs m x) := by
  induction m generalizing x with
  | zero => rw [Nat.zero_add]; rfl
  | succ m ih => rw [show m + 1 + n = (m + n) + 1 by omega, mvs, ih]; rfl
theorem mv_lt {r : Nat} (h : r < 4294967296) : mv r < 4294967296 := by
  unfold mv
  exact Nat.xor_lt_two_pow (n := 32) (by omega) (by split <;> omega)
theorem mv_zero {r : Nat} (h : r < 4294967296) (hz : mv r = 0) : r = 0 := by
  unfold mv at hz
  by_cases ho : r % 2 = 1
  · rw [if_pos ho] at hz
    have := xor_eq hz
    omega
  · rw [if_neg ho, Nat.xor_zero] at hz
    omega
theorem mvs_lt (n : Nat) {r : Nat} (h : r < 4294967296) : mvs n r < 4294967296 := by
  induction n generalizing r with
  | zero => exact h
  | succ n ih => exact ih (mv_lt h)
theorem mvs_zero (n : Nat) {r : Nat} (h : r < 4294967296) (hz : mvs n r = 0) : r = 0 := by
  induction n generalizing r with
  | zero => exact hz
  | succ n ih => exact mv_zero h (ih (mv_lt h) hz)
theorem add_xor (m x n : Nat) (hm : m < 2 ^ n) : m + 2 ^ n * x = m ^^^ (2 ^ n * x) := by
  have := Nat.two_pow_add_eq_or_of_lt hm x
  rw [Nat.add_comm, this]
  apply Nat.eq_of_testBit_eq
  intro i
  rw [Nat.testBit_or, Nat.testBit_xor, Nat.testBit_two_pow_mul]
  by_cases hi : n ≤ i
  · rw [Nat.testBit_lt_two_pow (Nat.lt_of_lt_of_le hm (Nat.pow_le_pow_right (by decide) hi))]
    simp
  · simp [hi]
theorem half_mvs (r : Nat) : half r = mvs 4 r := by
  have h : r = (r % 16) ^^^ (2 ^ 4 * (r / 16)) := by
    rw [← add_xor (r % 16) (r / 16) 4 (Nat.mod_lt _ (by decide))]
    have := Nat.mod_add_div r 16
    exact this.symm
  have h2 : mvs 4 r = mvs 4 (r % 16) ^^^ (r / 16) := by
    conv => lhs; rw [h]
    rw [mvs_xor, mvs_pow]
  rw [h2, half, Nat.xor_comm]
  congr 1
  have : ∀ j : Fin 16, tb j.val = mvs 4 j.val := by decide
  exact this ⟨r % 16, Nat.mod_lt _ (by decide)⟩
/-- The bytes as one number, the first one lowest. -/
def num : List Int → Nat
  | [] => 0
  | b :: r => b.toNat + 256 * num r
theorem step_mvs (r : Nat) (x : Int) : sumStep r x = mvs 8 (r ^^^ x.toNat) := by
  unfold sumStep
  rw [half_mvs, half_mvs, ← mvs_add]
theorem sumAll_mvs (bs : List Int) (r : Nat) (h : ∀ x ∈ bs, 0 ≤ x ∧ x < 256) : sumAll bs r = mvs (8 * bs.length) (num bs ^^^ r) := by
  induction bs generalizing r with
  | nil => simp [sumAll, num, mvs]
  | cons x s ih =>
    have hx := h x (by simp)
    have e : sumAll (x :: s) r = sumAll s (sumStep r x) := rfl
    rw [e, ih _ (fun y hy => h y (by simp [hy])), step_mvs, List.length_cons, show 8 * (s.length + 1) = 8 + 8 * s.length by omega, mvs_add]
    congr 1
    rw [num, show x.toNat + 256 * num s = x.toNat ^^^ (2 ^ 8 * num s) from add_xor _ _ 8 (by omega), mvs_xor 8 r, mvs_xor 8 _ r, mvs_xor 8 x.toNat, mvs_pow]
    rw [Nat.xor_comm (mvs 8 x.toNat), Nat.xor_assoc, Nat.xor_comm (mvs 8 x.toNat)]
theorem num_append (a b : List Int) : num (a ++ b) = num a + 2 ^ (8 * a.length) * num b := by
  induction a with
  | nil => simp [num]
  | cons x s ih =>
    rw [List.cons_append, num, ih, num, List.length_cons, show 8 * (s.length + 1) = 8 + 8 * s.length by omega, Nat.pow_add, show (2 : Nat) ^ 8 = 256 by decide, Nat.mul_add, Nat.mul_assoc]
    omega
theorem num_lt (l : List Int) (h : ∀ x ∈ l, 0 ≤ x ∧ x < 256) : num l < 2 ^ (8 * l.length) := by
  induction l with
  | nil => simp [num]
  | cons b r ih =>
    rw [List.length_cons, show 8 * (r.length + 1) = 8 + 8 * r.length by omega, Nat.pow_add, show (2 : Nat) ^ 8 = 256 by decide, num]
    have h1 := ih (fun x hx => h x (by simp [hx]))
    have h2 := h b (by simp)
    omega
/-- Do the last four bytes hold the sum of those ahead of them? -/
def Sealed (c : List Int) : Prop := num (c.drop (c.length - 4)) = crc (c.take (c.length - 4))
theorem xor_cancel {a b c : Nat} (h : a ^^^ b = a ^^^ c) : b = c := by
  have := congrArg (a ^^^ ·) h
  simpa [← Nat.xor_assoc] using this
theorem sealed_iff (c : List Int) (h : ∀ x ∈ c, 0 ≤ x ∧ x < 256) (h4 : 4 ≤ c.length) : Sealed c ↔ mvs (8 * c.length) (num c ^^^ 4294967295) = mvs 32 4294967295 := by
  have e : mvs (8 * c.length) (num c ^^^ 4294967295) = mvs 32 (num (c.drop (c.length - 4)) ^^^ sumAll (c.take (c.length - 4)) 4294967295) := by
    rw [← sumAll_mvs c _ h]
    conv => lhs; rw [← List.take_append_drop (c.length - 4) c]
    unfold sumAll
    rw [List.foldl_append]
    have := sumAll_mvs (c.drop (c.length - 4)) (sumAll (c.take (c.length - 4)) 4294967295) (fun x hx => h x (List.mem_of_mem_drop hx))
    rw [List.length_drop, show c.length - (c.length - 4) = 4 by omega] at this
    exact this
  have hn : num (c.drop (c.length - 4)) < 4294967296 := by
    have := num_lt (c.drop (c.length - 4)) (fun x hx => h x (List.mem_of_mem_drop hx))
    rw [List.length_drop, show c.length - (c.length - 4) = 4 by omega] at this
    exact this
  have hs : sumAll (c.take (c.length - 4)) 4294967295 < 4294967296 := by
    exact sumAll_lt _ _ (by decide) (fun x hx => h x (List.mem_of_mem_take hx))
  rw [e]
  unfold Sealed crc
  generalize num (c.drop (c.length - 4)) = T at *
  generalize sumAll (c.take (c.length - 4)) 4294967295 = S at *
  constructor
  · rintro rfl
    rw [Nat.xor_assoc, Nat.xor_self, Nat.xor_zero]
  · intro hm
    have hz : mvs 32 (T ^^^ S ^^^ 4294967295) = 0 := by rw [mvs_xor, hm, Nat.xor_self]
    have := mvs_zero 32 (Nat.xor_lt_two_pow (n := 32) (Nat.xor_lt_two_pow (n := 32) hn hs) (by decide)) hz
    have h3 := xor_eq this
    rw [← h3, Nat.xor_assoc, Nat.xor_self, Nat.xor_zero]
/-- A burst of up to 32 bits is told. -/
theorem burst (c c' : List Int) (h : ∀ x ∈ c, 0 ≤ x ∧ x < 256) (h' : ∀ x ∈ c', 0 ≤ x ∧ x < 256) (hl : c'.length = c.length) (h4 : 4 ≤ c.length) (hc : Sealed c) {P b : Nat} (hP : P < 4294967296) (hb : b ≤ 8 * c.length) (hn : num c' = num c ^^^ (2 ^ b * P)) : Sealed c' ↔ P = 0 := by
  rw [sealed_iff c' h' (by omega), hn, hl]
  have h1 := (sealed_iff c h h4).1 hc
  have e : num c ^^^ 2 ^ b * P ^^^ 4294967295 = (num c ^^^ 4294967295) ^^^ (2 ^ b * P) := by rw [Nat.xor_assoc, Nat.xor_assoc, Nat.xor_comm (2 ^ b * P)]
  rw [e, mvs_xor, h1]
  have e2 : mvs (8 * c.length) (2 ^ b * P) = mvs (8 * c.length - b) P := by
    have := mvs_add b (8 * c.length - b) (2 ^ b * P)
    rw [mvs_pow, show b + (8 * c.length - b) = 8 * c.length by omega] at this
    exact this
  rw [e2]
  constructor
  · intro hz
    have : mvs (8 * c.length - b) P = 0 := by
      have h5 : mvs 32 4294967295 ^^^ mvs (8 * c.length - b) P = mvs 32 4294967295 ^^^ 0 := by rw [hz, Nat.xor_zero]
      exact xor_cancel h5
    exact mvs_zero _ hP this
  · rintro rfl
    have : mvs (8 * c.length - b) 0 = 0 := by
      generalize 8 * c.length - b = k
      induction k with
      | zero => rfl
      | succ k ih => exact ih
    rw [this, Nat.xor_zero]
/-- One bit of one byte turned. -/
theorem num_set (l : List Int) (h : ∀ x ∈ l, 0 ≤ x ∧ x < 256) (k j : Nat) (hk : k < l.length) (hj : j < 8) : num (l.set k (((l[k]?.getD 0).toNat ^^^ 2 ^ j : Nat) : Int)) = num l ^^^ 2 ^ (8 * k + j) := by
  induction l generalizing k with
  | nil => simp at hk
  | cons x s ih =>
    have hx := h x (by simp)
    have hj2 : 2 ^ j < 2 ^ 8 := Nat.pow_lt_pow_right (by decide) hj
    have hx2 : x.toNat < 2 ^ 8 := by omega
    cases k with
    | zero =>
      simp only [List.set_cons_zero, num, List.getElem?_cons_zero, Option.getD_some, Int.toNat_natCast, Nat.mul_zero, Nat.zero_add]
      rw [show (256 : Nat) = 2 ^ 8 by decide, add_xor _ _ 8 (Nat.xor_lt_two_pow hx2 hj2), add_xor _ _ 8 hx2, Nat.xor_assoc, Nat.xor_assoc, Nat.xor_comm (2 ^ j)]
    | succ k =>
      simp only [List.set_cons_succ, num, List.getElem?_cons_succ]
      rw [ih (fun y hy => h y (by simp [hy])) k (by simpa using hk)]
      rw [show (256 : Nat) = 2 ^ 8 by decide, add_xor _ _ 8 hx2, add_xor _ _ 8 hx2, Nat.xor_assoc]
      congr 1
      rw [show 8 * (k + 1) + j = 8 + (8 * k + j) by omega, Nat.pow_add 2 8]
      apply Nat.eq_of_testBit_eq
      intro i
      rw [Nat.testBit_xor, Nat.testBit_two_pow_mul, Nat.testBit_two_pow_mul, Nat.testBit_two_pow_mul, Nat.testBit_xor]
      by_cases hi : 8 ≤ i <;> simp [hi]
theorem num_vals (l : List Nat) : num (l.map (fun (n : Nat) => (n : Int))) = vals8 l := by
  induction l with
  | nil => rfl
  | cons x s ih => simp [num, vals8, ih]
theorem num_le (x s : Nat) : num (le x s) = x % 2 ^ (8 * s) := by
  induction s generalizing x with
  | zero => simp [le, num, Nat.mod_one]
  | succ s ih =>
    rw [le, num, ih, Int.toNat_natCast, show 8 * (s + 1) = 8 + 8 * s by omega, Nat.pow_add, show (2 : Nat) ^ 8 = 256 by decide, Nat.mod_mul]
theorem le_bytes (x s : Nat) : ∀ y ∈ le x s, 0 ≤ y ∧ y < 256 := by
  induction s generalizing x with
  | zero => simp [le]
  | succ s ih =>
    intro y hy
    simp only [le, List.mem_cons] at hy
    rcases hy with rfl | hy
    · omega
    · exact ih _ y hy
theorem sealed_made (bs : List Int) (h : ∀ x ∈ bs, 0 ≤ x ∧ x < 256) : Sealed (bs ++ le (crc bs) 4) := by
  unfold Sealed
  have e : (bs ++ le (crc bs) 4).length - 4 = bs.length := by rw [List.length_append, le_length]; omega
  rw [e, List.drop_left, List.take_left, num_le]
  exact Nat.mod_eq_of_lt (crc_lt bs h)
/-- The last four bytes as numbers. -/
theorem last_four (c : List Int) (h : ∀ x ∈ c, 0 ≤ x ∧ x < 256) {p : Nat} (hp : p + 4 = c.length) : ∃ l : List Nat, (c.drop p).take 4 = l.map (fun (n : Nat) => (n : Int)) ∧ l.length = 4 ∧ (∀ b ∈ l, b < 256) ∧ (vals8 l = crc ((c.take p).drop 0) ↔ Sealed c) := by
  have hl : (c.drop p).length = 4 := by rw [List.length_drop]; omega
  have ht : (c.drop p).take 4 = c.drop p := List.take_of_length_le (by omega)
  have hm : ((c.drop p).map Int.toNat).map (fun (n : Nat) => (n : Int)) = c.drop p := by
    rw [List.map_map]
    conv => rhs; rw [← List.map_id (c.drop p)]
    apply List.map_congr_left
    intro x hx
    have := h x (List.mem_of_mem_drop hx)
    simp
    omega
  refine ⟨(c.drop p).map Int.toNat, by rw [ht, hm], by simpa using hl, fun b hb => ?_, ?_⟩
  · obtain ⟨x, hx, rfl⟩ := List.mem_map.1 hb
    have := h x (List.mem_of_mem_drop hx)
    omega
  · rw [← num_vals, hm, List.drop_zero]
    unfold Sealed
    rw [show c.length - 4 = p by omega]
/-- The pattern's bits, one more. -/
theorem more_bit (P i : Nat) : P % 2 ^ (i + 1) = P % 2 ^ i + 2 ^ i * (P / 2 ^ i % 2) := by
  rw [Nat.pow_succ, Nat.mod_mul]
theorem turn_bit {l : List Int} {c0 : List Int} (h : ∀ x ∈ l, 0 ≤ x ∧ x < 256) {P t i k j : Nat} (hn : num l = num c0 ^^^ (2 ^ t * (P % 2 ^ i))) (hk : k < l.length) (hj : j < 8) (hs : 8 * k + j = t + i) (hb : P / 2 ^ i % 2 = 1) :
    num (l.set k (((l[k]?.getD 0).toNat ^^^ 2 ^ j : Nat) : Int)) = num c0 ^^^ (2 ^ t * (P % 2 ^ (i + 1))) := by
  rw [num_set l h k j hk hj, hn, Nat.xor_assoc, hs, more_bit, hb, Nat.mul_one]
  congr 1
  have hlt : P % 2 ^ i < 2 ^ i := Nat.mod_lt _ (Nat.two_pow_pos i)
  have e1 : P % 2 ^ i + 2 ^ i = (P % 2 ^ i) ^^^ 2 ^ i := by
    have := add_xor (P % 2 ^ i) 1 i hlt
    simpa using this
  rw [e1, Nat.pow_add]
  apply Nat.eq_of_testBit_eq
  intro q
  rw [Nat.testBit_xor, Nat.testBit_two_pow_mul, Nat.testBit_two_pow_mul, Nat.testBit_two_pow_mul, Nat.testBit_xor]
  by_cases hi : t ≤ q <;> simp [hi]
theorem turn_none {P i : Nat} (hb : P / 2 ^ i % 2 = 0) : P % 2 ^ (i + 1) = P % 2 ^ i := by
  rw [more_bit, hb, Nat.mul_zero, Nat.add_zero]
theorem turn_some {P i : Nat} (hb : P / 2 ^ i % 2 = 1) : P % 2 ^ (i + 1) ≠ 0 := by
  rw [more_bit, hb, Nat.mul_one]
  have := Nat.two_pow_pos i
  omega
theorem set_bytes {l : List Int} (h : ∀ x ∈ l, 0 ≤ x ∧ x < 256) (k j : Nat) (hj : j < 8) : ∀ x ∈ l.set k (((l[k]?.getD 0).toNat ^^^ 2 ^ j : Nat) : Int), 0 ≤ x ∧ x < 256 := by
  intro x hx
  rcases List.mem_or_eq_of_mem_set hx with hx | rfl
  · exact h x hx
  · have h1 : (l[k]?.getD 0).toNat < 2 ^ 8 := by
      rcases Nat.lt_or_ge k l.length with hk | hk
      · rw [List.getElem?_eq_getElem hk]
        have := h l[k] (List.getElem_mem hk)
        simp only [Option.getD_some]
        omega
      · rw [List.getElem?_eq_none hk]; decide
    have h2 : 2 ^ j < 2 ^ 8 := Nat.pow_lt_pow_right (by decide) hj
    have := Nat.xor_lt_two_pow h1 h2
    omega
end Go.Proofs.YtpfpelhhebafeaaDoor
