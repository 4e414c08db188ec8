/- The log, made again from the first cells. -/
import Derived.Test.YtdjkidgkeekenaaGreatPl
import Derived.Test.YtdjkidgkeekenaaGreatRp
namespace Go.Proofs.YtdjkidgkeekenaaGreat
open Go.RowKit Go.Lib Go.MuLone
set_option linter.unusedVariables false
theorem replay_more : ∀ (l : List Acc) (cs cs' : List Int) (k : Nat) (a : Acc), replay cs l k = (-1, cs') → replay cs (l ++ [a]) k = replay cs' [a] (k + l.length)
  | [], cs, cs', k, a, h => by
    have : cs = cs' := by simpa [replay] using h
    subst this; rfl
  | y :: l, cs, cs', k, a, h => by
    rw [replay] at h
    rw [List.cons_append, replay]
    by_cases h1 : 0 ≤ y.cell ∧ y.cell < cs.length
    · rw [if_pos h1] at h ⊢
      by_cases h2 : (known y.kind && accEq (carry y (nth cs y.cell.toNat)) y) = true
      · rw [if_pos h2] at h ⊢
        rw [replay_more l _ cs' (k + 1) a h]
        congr 1
        simp; omega
      · rw [if_neg h2] at h
        have := congrArg Prod.fst h
        simp at this
    · rw [if_neg h1] at h
      have := congrArg Prod.fst h
      simp at this
theorem acc_carry {d : Nd} {x : Int} (h0 : d.ph ≠ 0) (hp : d.ph ≤ 11) : known (d.acc x).kind = true ∧ carry (d.acc x) x = d.acc x ∧ (d.acc x).cell = (d.cell : Int) := by
  obtain ⟨who, nn, sends, burst, ph, active, left, sent, bal, black, m, q, k⟩ := d
  simp only at h0 hp
  have hph : ph = 1 ∨ ph = 2 ∨ ph = 3 ∨ ph = 4 ∨ ph = 5 ∨ ph = 6 ∨ ph = 7 ∨ ph = 8 ∨ ph = 9 ∨ ph = 10 ∨ ph = 11 := by omega
  rcases hph with rfl | rfl | rfl | rfl | rfl | rfl | rfl | rfl | rfl | rfl | rfl <;> simp [Nd.acc, carry, known, Nd.cell, wr]
section
variable {n : Nat} {d0 ds : Nat → Nd} {s0 s : Ast}
theorem Hst.again (h : Hst n d0 s0 ds s) (hk : s0.keep = true) (hl : s0.log = []) : s.keep = true ∧ replay s0.cells s.log 0 = (-1, s.cells) := by
  induction h with
  | refl => exact ⟨hk, by rw [hl]; rfl⟩
  | @step ds s i K _ hi hI hK ih =>
    obtain ⟨k1, hr⟩ := ih
    by_cases h0 : (ds i).ph = 0
    · rw [show pkd s ds i = s from if_pos h0]
      exact ⟨k1, hr⟩
    · have hw := hI.sys.wf i hi
      have hp : (ds i).ph ≤ 11 := hw.ph
      obtain ⟨a1, a2, a3⟩ := acc_carry (x := nth s.cells (ds i).cell) h0 hp
      have hc : (ds i).cell < s.cells.length := by
        have h1 : s.cells.length = 4 + n := hI.sys.len
        have h2 : (ds i).cell < 4 + n := hw.cell
        omega
      rw [show pkd s ds i = s.made (ds i).cell ((ds i).acc (nth s.cells (ds i).cell)) from if_neg h0]
      refine ⟨k1, ?_⟩
      show replay s0.cells (if s.keep then s.log ++ [_] else s.log) 0 = (-1, s.cells.set (ds i).cell _)
      rw [if_pos k1, replay_more _ _ _ _ _ hr, replay, if_pos ⟨by rw [a3]; omega, by rw [a3]; omega⟩, a3, Int.toNat_natCast, a2, if_pos (by rw [a1, (accEq_iff _ _).2 rfl]; rfl)]
      rfl
end
end Go.Proofs.YtdjkidgkeekenaaGreat
