/- The reader's Var. -/
import Derived.Test.YtahhlmmdmjocdaaDoorClone
namespace Go.Proofs.YtahhlmmdmjocdaaDoor
open Go.RowKit Go.Lib
set_option linter.unusedVariables false

/-- The number that is being read. -/
structure Part (x i rem acc : Nat) : Prop where
  lt : acc < 2 ^ (7 * i)
  sum : acc + rem * 2 ^ (7 * i) = x
  pos : i = 0 ∨ 0 < rem

theorem Part.le {x i rem acc : Nat} (h : Part x i rem acc) (hx : x < 18446744073709551616) : i ≤ 9 ∧ (i = 9 → rem ≤ 1) := by
  have hs := h.sum
  have hp := h.pos
  constructor
  · rcases Nat.lt_or_ge 9 i with hi | hi
    · exfalso
      have h1 : 2 ^ 70 ≤ 2 ^ (7 * i) := Nat.pow_le_pow_right (by decide) (by omega)
      have h2 : 1 * 2 ^ (7 * i) ≤ rem * 2 ^ (7 * i) := Nat.mul_le_mul_right _ (by omega)
      have h3 : (2 : Nat) ^ 70 = 1180591620717411303424 := by decide
      omega
    · exact hi
  · rintro rfl
    have h3 : (2 : Nat) ^ (7 * 9) = 9223372036854775808 := by decide
    rw [h3] at hs
    omega
theorem Part.next {x i rem acc : Nat} (h : Part x i rem acc) (hr : ¬ rem < 128) : Part x (i + 1) (rem / 128) (acc + rem % 128 * 2 ^ (7 * i)) := by
  have e : 2 ^ (7 * (i + 1)) = 128 * 2 ^ (7 * i) := by rw [show 7 * (i + 1) = 7 + 7 * i by omega, Nat.pow_add]
  refine ⟨?_, ?_, .inr (by omega)⟩
  · rw [e]
    have h1 := h.lt
    have h2 : rem % 128 * 2 ^ (7 * i) ≤ 127 * 2 ^ (7 * i) := Nat.mul_le_mul_right _ (by omega)
    omega
  · rw [e, ← h.sum, Nat.add_assoc]
    congr 1
    have h1 : rem = rem % 128 + rem / 128 * 128 := by omega
    have h2 : rem * 2 ^ (7 * i) = (rem % 128 + rem / 128 * 128) * 2 ^ (7 * i) := by rw [← h1]
    rw [h2, Nat.add_mul, Nat.mul_assoc (rem / 128) 128]

theorem Part.len {x i rem acc : Nat} (h : Part x i rem acc) (hs : rem < 128) : (enc x).length = i + 1 := by
  induction i generalizing rem acc x with
  | zero =>
    have h1 := h.lt
    have h2 := h.sum
    simp at h1 h2
    subst h1
    have e : x = rem := by omega
    rw [e, enc_small hs]
    rfl
  | succ i ih =>
    have e : 2 ^ (7 * (i + 1)) = 128 * 2 ^ (7 * i) := by rw [show 7 * (i + 1) = 7 + 7 * i by omega, Nat.pow_add]
    have hp : 0 < rem := by rcases h.pos with h0 | h0 <;> omega
    have hpw : 0 < 2 ^ (7 * i) := Nat.pow_pos (by decide)
    have hsum := h.sum
    have hlt := h.lt
    rw [e] at hsum hlt
    have hx1 : 128 * 1 ≤ 128 * 2 ^ (7 * i) := Nat.mul_le_mul_left _ hpw
    have hx2 : 1 * (128 * 2 ^ (7 * i)) ≤ rem * (128 * 2 ^ (7 * i)) := Nat.mul_le_mul_right _ hp
    have hbig : ¬ x < 128 := by omega
    rw [enc_big hbig, List.length_cons]
    have hq : Part (x / 128) i rem (acc / 128) := by
      refine ⟨Nat.div_lt_of_lt_mul hlt, ?_, .inr hp⟩
      have h3 : x = acc + 128 * (rem * 2 ^ (7 * i)) := by rw [← hsum, Nat.mul_left_comm]
      rw [h3]
      omega
    rw [ih hq hs]

theorem orv (acc b i : Nat) (ha : acc < 2 ^ (7 * i)) (hb : b < 256) (hs : acc + b % 128 * 2 ^ (7 * i) < 18446744073709551616) :
    bits .or .u64 (acc : Int) (IntKind.u64.wrap (IntKind.u64.wrap (bits .and .u8 (b : Int) 127) * 2 ^ (7 * i))) = ((acc + b % 128 * 2 ^ (7 * i) : Nat) : Int) := by
  rw [and127 b hb]
  have e1 : IntKind.u64.wrap ((b % 128 : Nat) : Int) = ((b % 128 : Nat) : Int) := by rw [IntKind.wrap_u64]; omega
  rw [e1]
  have e2 : ((b % 128 : Nat) : Int) * 2 ^ (7 * i) = ((b % 128 * 2 ^ (7 * i) : Nat) : Int) := by push_cast; rfl
  rw [e2]
  have e3 : IntKind.u64.wrap ((b % 128 * 2 ^ (7 * i) : Nat) : Int) = ((b % 128 * 2 ^ (7 * i) : Nat) : Int) := by rw [IntKind.wrap_u64]; omega
  rw [e3, bits_or_u64_nat acc _ (by omega) (by omega), or_add _ _ _ ha]

theorem whole_end {w : World} {r p n : Nat} {bs : List Int} {g c : Nat} (hh : w.heap[r]? = some (.cells #[.slice (some ⟨g, 0, none⟩) bs.length c, .int .i64 p] 55 (0, 0))) (hrow : RowAt .u8 w (.slice (some ⟨g, 0, none⟩) bs.length c) bs) (hgr : g ≠ r) (k : Nat) (z : Int) (hz : z = ((p + n : Nat) : Int)) :
    RdIs ((w.drewN k).setCell ⟨r, 1, none⟩ (.int .i64 z)) r bs (p + n) ∧ But r w ((w.drewN k).setCell ⟨r, 1, none⟩ (.int .i64 z)) := by
  subst hz
  have hb : Below w.heap.size w (w.drewN k) := below_drewN (Below.refl _ _) k
  have hh' : (w.drewN k).heap[r]? = some (.cells #[.slice (some ⟨g, 0, none⟩) bs.length c, .int .i64 p] 55 (0, 0)) := (hb.block r (lt_of_heap hh)).trans hh
  refine ⟨⟨some ⟨g, 0, none⟩, c, ?_, ?_, .inr ⟨g, rfl, hgr⟩⟩, ?_⟩
  · rw [heap_set hh']; simp
  · obtain ⟨ao, c', he, h1, h2, h3, h4⟩ := hrow.below hb
    simp only [Value.slice.injEq] at he
    obtain ⟨rfl, _, rfl⟩ := he
    refine ⟨_, c, rfl, h1, h2, h3, fun a ha j hj => ?_⟩
    rw [← h4 a ha j hj]
    cases ha
    unfold World.cell?
    rw [Below.heap_setCell]
    rw [Addr.add_lit]
    exact hgr
  · exact (But.of_below hb).trans (But.setCell _ ⟨r, 1, none⟩ _)

end Go.Proofs.YtahhlmmdmjocdaaDoor
