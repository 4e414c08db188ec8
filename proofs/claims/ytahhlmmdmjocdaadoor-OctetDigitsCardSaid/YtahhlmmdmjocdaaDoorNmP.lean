/- Plain: what Decimal writes, Number reads, and only that. -/
import Derived.Test.YtahhlmmdmjocdaaDoorNmF
namespace Go.Proofs.YtahhlmmdmjocdaaDoor
open Go.Shelf Go.RowKit Go.Sort Go.Lib
theorem ofNat_digit {d : Nat} (h : d < 10) : (UInt8.ofNat (48 + d)).toNat = 48 + d := by
  rw [UInt8.toNat_ofNat']; omega
theorem rdN_snoc : ∀ (l : List UInt8) (acc : Nat) (c : UInt8), rdN acc (l ++ [c]) = (rdN acc l).bind fun a => if 18446744073709551615 < a * 10 + (c.toNat - 48) then none else some (a * 10 + (c.toNat - 48))
  | [], acc, c => by simp [rdN]
  | b :: l, acc, c => by
    rw [List.cons_append, rdN, rdN]
    by_cases h : 18446744073709551615 < acc * 10 + (b.toNat - 48)
    · rw [if_pos h, if_pos h]; rfl
    · rw [if_neg h, if_neg h]; exact rdN_snoc l _ c
theorem dec_snoc {u : Nat} (hu : ¬ u < 10) : Lib.decDigits u = Lib.decDigits (u / 10) ++ [UInt8.ofNat (48 + u % 10)] := by
  rw [dec_big hu, dec_small (u := u % 10) (by omega)]
theorem dec_facts (v : Nat) : (∀ c ∈ Lib.decDigits v, 48 ≤ c.toNat ∧ c.toNat ≤ 57) ∧ (v < 18446744073709551616 → rdN 0 (Lib.decDigits v) = some v) ∧ Lib.decDigits v ≠ [] ∧ ((Lib.decDigits v)[0]? = some 48 → v = 0) := by
  induction v using Nat.strongRecOn with
  | _ v ih =>
    by_cases hv : v < 10
    · rw [dec_small hv]
      have h := ofNat_digit hv
      refine ⟨fun c hc => ?_, fun _ => ?_, by simp, fun e => ?_⟩
      · rw [List.mem_singleton.1 hc, h]; omega
      · rw [rdN, h, if_neg (by omega), rdN]; congr 1; omega
      · simp only [List.getElem?_cons_zero, Option.some.injEq] at e
        rw [e] at h
        have : (48 : UInt8).toNat = 48 := by decide
        omega
    · obtain ⟨i1, i2, i3, i4⟩ := ih (v / 10) (by omega)
      have h := ofNat_digit (d := v % 10) (by omega)
      rw [dec_snoc hv]
      refine ⟨fun c hc => ?_, fun hl => ?_, by simp, fun e => ?_⟩
      · rcases List.mem_append.1 hc with h1 | h1
        · exact i1 c h1
        · rw [List.mem_singleton.1 h1, h]; omega
      · rw [rdN_snoc, i2 (by omega), h]
        show (if _ then _ else _) = _
        rw [if_neg (by omega)]; congr 1; omega
      · rw [List.getElem?_append_left (by have := List.length_pos_iff.2 i3; omega)] at e
        have := i4 e
        omega
/-- Only that. -/
theorem rd_only_n (n : Nat) : ∀ (l : List UInt8) (u : Nat), l.length = n → (∀ c ∈ l, 48 ≤ c.toNat ∧ c.toNat ≤ 57) → l ≠ [] → ¬ (l[0]? = some 48 ∧ 1 < l.length) → rdN 0 l = some u → Lib.decDigits u = l := by
  induction n with
  | zero => intro l u hn _ h; exact absurd (List.eq_nil_of_length_eq_zero hn) h
  | succ n ih' =>
    intro l0 u hn hd hne hz hr
    obtain ⟨l, c, rfl⟩ : ∃ l c, l0 = l ++ [c] := ⟨_, _, (List.dropLast_concat_getLast hne).symm⟩
    have ih := fun a => ih' l a (by simp at hn; omega)
    clear hne
    have hc := hd c (by simp)
    rw [rdN_snoc] at hr
    by_cases hl : l = []
    · subst hl
      simp only [rdN, Option.bind_some, Nat.zero_mul, Nat.zero_add] at hr
      rw [if_neg (by omega)] at hr
      have hu : c.toNat - 48 = u := Option.some.inj hr
      rw [dec_small (by omega), List.nil_append]
      congr 1
      apply UInt8.toNat_inj.1
      rw [ofNat_digit (by omega)]
      omega
    · have hp := List.length_pos_iff.2 hl
      have hz' : ¬ l[0]? = some 48 := fun e => hz ⟨by rw [List.getElem?_append_left hp]; exact e, by simp; omega⟩
      cases hr2 : rdN 0 l with
      | none => rw [hr2] at hr; cases hr
      | some a =>
        rw [hr2] at hr
        simp only [Option.bind_some] at hr
        by_cases hb : 18446744073709551615 < a * 10 + (c.toNat - 48)
        · rw [if_pos hb] at hr; cases hr
        · rw [if_neg hb] at hr
          have hu : a * 10 + (c.toNat - 48) = u := Option.some.inj hr
          have hda := ih a (fun x hx => hd x (by simp [hx])) hl (fun e => hz' e.1) hr2
          have ha : 1 ≤ a := by
            rcases Nat.eq_zero_or_pos a with h0 | h0
            · exfalso
              rw [h0, dec_small (by decide)] at hda
              exact hz' (by rw [← hda]; rfl)
            · exact h0
          rw [dec_snoc (by omega), show u / 10 = a by omega, hda]
          congr 2
          apply UInt8.toNat_inj.1
          rw [ofNat_digit (by omega)]
          omega
theorem rd_only (l : List UInt8) (u : Nat) (h1 : ∀ c ∈ l, 48 ≤ c.toNat ∧ c.toNat ≤ 57) (h2 : l ≠ []) (h3 : ¬ (l[0]? = some 48 ∧ 1 < l.length)) (h4 : rdN 0 l = some u) : Lib.decDigits u = l := rd_only_n _ l u rfl h1 h2 h3 h4
end Go.Proofs.YtahhlmmdmjocdaaDoor
