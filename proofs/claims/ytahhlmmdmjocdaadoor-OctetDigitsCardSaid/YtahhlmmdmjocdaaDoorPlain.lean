/- Numbers in groups of seven bits, in plain words. -/
namespace Go.Proofs.YtahhlmmdmjocdaaDoor

def enc (v : Nat) : List Int := if v < 128 then [(v : Int)] else ((v % 128 + 128 : Nat) : Int) :: enc (v / 128)
termination_by v
decreasing_by omega
theorem enc_small {v : Nat} (h : v < 128) : enc v = [(v : Int)] := by rw [enc, if_pos h]
theorem enc_big {v : Nat} (h : ¬ v < 128) : enc v = ((v % 128 + 128 : Nat) : Int) :: enc (v / 128) := by rw [enc, if_neg h]

def cnt (x : Nat) : Nat := if x = 0 then 0 else cnt (x / 128) + 1
termination_by x
decreasing_by omega
theorem cnt_zero : cnt 0 = 0 := by rw [cnt]; rfl
theorem cnt_pos {x : Nat} (h : x ≠ 0) : cnt x = cnt (x / 128) + 1 := by rw [cnt, if_neg h]

theorem enc_length (v : Nat) : (enc v).length = cnt (v / 128) + 1 := by
  induction v using Nat.strongRecOn with
  | _ v ih =>
    by_cases h : v < 128
    · rw [enc_small h, show v / 128 = 0 by omega, cnt_zero]; rfl
    · rw [enc_big h, List.length_cons, ih (v / 128) (by omega), cnt_pos (show v / 128 ≠ 0 by omega)]
theorem enc_le (k : Nat) : ∀ v, v < 128 ^ (k + 1) → (enc v).length ≤ k + 1 := by
  induction k with
  | zero => intro v h; rw [enc_small (by simpa using h)]; simp
  | succ k ih =>
    intro v h
    by_cases hs : v < 128
    · rw [enc_small hs]; simp
    · rw [enc_big hs, List.length_cons]
      have : v / 128 < 128 ^ (k + 1) := by rw [Nat.pow_succ] at h; exact Nat.div_lt_of_lt_mul (by rw [Nat.mul_comm]; exact h)
      have := ih (v / 128) this
      omega
theorem enc_ten {v : Nat} (h : v < 18446744073709551616) : 1 ≤ (enc v).length ∧ (enc v).length ≤ 10 := by
  refine ⟨by rw [enc_length]; omega, enc_le 9 v (Nat.lt_of_lt_of_le h (by decide))⟩
theorem cnt_le {v : Nat} (h : v < 18446744073709551616) : cnt (v / 128) ≤ 9 := by
  have := (enc_ten h).2
  rw [enc_length] at this
  omega
theorem enc_bytes (v : Nat) : ∀ x ∈ enc v, 0 ≤ x ∧ x < 256 := by
  induction v using Nat.strongRecOn with
  | _ v ih =>
    by_cases h : v < 128
    · rw [enc_small h]; intro x hx; simp at hx; omega
    · rw [enc_big h]
      intro x hx
      rcases List.mem_cons.1 hx with rfl | hx
      · omega
      · exact ih (v / 128) (by omega) x hx

/-- All numbers, one behind the other. -/
def encs (l : List Nat) : List Int := l.flatMap enc
theorem encs_append (a b : List Nat) : encs (a ++ b) = encs a ++ encs b := by simp [encs]
theorem encs_le (l : List Nat) (h : ∀ v ∈ l, v < 18446744073709551616) : (encs l).length ≤ 10 * l.length := by
  induction l with
  | nil => simp [encs]
  | cons v r ih =>
    have h1 := (enc_ten (h v (by simp))).2
    have h2 := ih (fun x hx => h x (by simp [hx]))
    have e : encs (v :: r) = enc v ++ encs r := by simp [encs]
    rw [e, List.length_append, List.length_cons]
    omega
/-- Where the k-th ends. -/
def endAt (l : List Nat) (k : Nat) : Nat := (encs (l.take k)).length
theorem endAt_succ (l : List Nat) (k : Nat) (h : k < l.length) : endAt l (k + 1) = endAt l k + (enc (l[k]?.getD 0)).length := by
  unfold endAt
  rw [List.take_add_one, encs_append, List.length_append]
  simp [List.getElem?_eq_getElem h, encs]
theorem endAt_zero (l : List Nat) : endAt l 0 = 0 := by simp [endAt, encs]
theorem encs_split (l : List Nat) (k : Nat) (h : k < l.length) : encs l = encs (l.take k) ++ enc (l[k]?.getD 0) ++ encs (l.drop (k + 1)) := by
  have e : l = l.take k ++ [l[k]?.getD 0] ++ l.drop (k + 1) := by
    simp [List.getElem?_eq_getElem h]
  rw [congrArg encs e, encs_append, encs_append]
  simp [encs]

/-- Disjoint bits: or is plus. -/
theorem or_add (a b i : Nat) (h : a < 2 ^ i) : a ||| (b * 2 ^ i) = a + b * 2 ^ i := by
  rw [Nat.or_comm, Nat.mul_comm b, Nat.add_comm a]
  exact (Nat.two_pow_add_eq_or_of_lt h b).symm
end Go.Proofs.YtahhlmmdmjocdaaDoor
