/- Longest, the program's. -/
import Derived.Test.YtiohimbifjlfdaaLgOd
namespace Go.Proofs.Ytiohimbifjlfdaa
open Go.RowKit Go.Lib
set_option linter.unusedVariables false
set_option linter.unusedSimpArgs false
theorem ordA_zero {N : Int} {st tl wt : List Int} (h : (ordA N st tl wt).2 = 0) : ∃ n : Nat, N = n ∧ Good n st tl wt ∧ Sq n st tl (ordA N st tl wt).1 := by
  by_cases hc : (chk N st tl wt).1 = 0
  · obtain ⟨n, rfl, hg⟩ := chk_good hc
    by_cases hl : (ordL n st tl).length < n
    · rw [ordA_few hc (ordL_fin n st tl) hl] at h; cases h
    · rw [ordA_all hc (ordL_fin n st tl) hl]
      exact ⟨n, rfl, hg, (ordL_fin n st tl).1⟩
  · rw [ordA_bad hc] at h; exact absurd h hc
theorem lngA_bad {N : Int} {st tl wt : List Int} (h : ¬ (ordA N st tl wt).2 = 0) : lngA N st tl wt = ([], (ordA N st tl wt).2) := by unfold lngA; rw [if_neg h]
theorem lngA_good {n : Nat} {st tl wt : List Int} (h : (ordA (n : Int) st tl wt).2 = 0) : lngA n st tl wt = (allL n st tl (ordA n st tl wt).1 (ordA n st tl wt).1.length, 0) := by unfold lngA; rw [if_pos h, Int.toNat_natCast]
structure LS (w1 wr : World) (D n : Nat) (b : Int) (L : List Int) : Prop where
  bel : Below w1.heap.size w1 wr
  arr : Arr wr D L
  bd : Bd n b L
theorem LS.on {w1 wr w' : World} {D n : Nat} {b : Int} {L : List Int} (h : LS w1 wr D n b L) (hb : Below wr.heap.size wr w') : LS w1 w' D n b L := ⟨below_on h.bel hb, (hb.block D (lt_of_heap h.arr)).trans h.arr, h.bd⟩
theorem LS.step {w1 wr : World} {D n u a : Nat} {b : Int} {L : List Int} (h : LS w1 wr D n b L) (hD : D = w1.heap.size) (hu : u < n) (ha : a < n) : LS w1 (wr.setCell ⟨D, a, none⟩ (.int .i64 (max (at_ L a) (at_ L u + 1)))) D n (b + 1) (stepL L u a) :=
  ⟨h.bel.setCell (p := ⟨D, a, none⟩) (by show w1.heap.size ≤ D; omega) _, h.arr.put a _, bd_step h.bd hu ha⟩
theorem stepL_same {n u a : Nat} {b : Int} {L : List Int} (h : Bd n b L) (ha : a < n) (hx : ¬ at_ L a < at_ L u + 1) : stepL L u a = L := by
  unfold stepL
  rw [show max (at_ L a) (at_ L u + 1) = at_ L a by omega]
  apply List.ext_getElem?
  intro i
  by_cases e : i = a
  · subst e
    rw [List.getElem?_set_self (by rw [h.1]; exact ha)]
    simp [at_, show i < L.length by rw [h.1]; exact ha]
  · rw [List.getElem?_set_ne (fun h => e h.symm)]
theorem allL_succ {n : Nat} {st tl l : List Int} {i u p r : Nat} (hu : at_ l i = (u : Int)) (hp : at_ st u = (p : Int)) (hr : at_ st (u + 1) = (p : Int) + (r : Int)) : allL n st tl l (i + 1) = rowL tl (allL n st tl l i) u p r := by
  show rowL tl (allL n st tl l i) (at_ l i).toNat (at_ st (at_ l i).toNat).toNat ((at_ st ((at_ l i).toNat + 1)).toNat - (at_ st (at_ l i).toNat).toNat) = _
  rw [hu, Int.toNat_natCast, hp, hr, Int.toNat_natCast]
  congr 1
  omega
theorem mulB {i j m n : Nat} (hi : i < n) (hj : j ≤ m) (hn : n ≤ 1048576) (hm : m ≤ 4194304) : i * m + j ≤ 4398046511104 := by
  have h1 : (i + 1) * m ≤ 1048576 * 4194304 := Nat.mul_le_mul (by omega) hm
  rw [Nat.succ_mul] at h1
  omega
end Go.Proofs.Ytiohimbifjlfdaa
