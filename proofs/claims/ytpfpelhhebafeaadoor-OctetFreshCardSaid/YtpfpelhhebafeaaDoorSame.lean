/- OctetLoose: same, and small laws. -/
import Derived.Test.YtpfpelhhebafeaaDoorHeads
namespace Go.Proofs.YtpfpelhhebafeaaDoor
open Go.RowKit Go.Lib
set_option linter.unusedVariables false

theorem enc_range (v : Nat) : v < 2 ^ (7 * (enc v).length) ∧ ((enc v).length = 1 ∨ 2 ^ (7 * ((enc v).length - 1)) ≤ v) := by
  induction v using Nat.strongRecOn with
  | _ v ih =>
    by_cases h : v < 128
    · rw [enc_small h]; exact ⟨by simpa using h, .inl rfl⟩
    · have h1 := ih (v / 128) (by omega)
      rw [enc_big h, List.length_cons]
      have hl := (enc_length (v / 128))
      obtain ⟨m, hm⟩ : ∃ m, (enc (v / 128)).length = m + 1 := ⟨_, hl⟩
      rw [hm] at h1 ⊢
      have e1 : 2 ^ (7 * (m + 1 + 1)) = 128 * 2 ^ (7 * (m + 1)) := by rw [show 7 * (m + 1 + 1) = 7 + 7 * (m + 1) by omega, Nat.pow_add]
      refine ⟨by rw [e1]; omega, .inr ?_⟩
      rw [show m + 1 + 1 - 1 = m + 1 by omega]
      rcases h1.2 with h2 | h2
      · rw [h2]; omega
      · have e2 : 2 ^ (7 * (m + 1)) = 128 * 2 ^ (7 * (m + 1 - 1)) := by rw [show 7 * (m + 1) = 7 + 7 * (m + 1 - 1) by omega, Nat.pow_add]
        rw [e2]
        omega

set_option maxRecDepth 100000 in
theorem same_empty (v1 v2 : Value) (w : World) (h1 : RowAt .u8 w v1 []) (h2 : RowAt .u8 w v2 []) :
    Calls Tryd.prog 28 #[v1, v2] w fun e w' => e = .returned (.bool true) ∧ Below w.heap.size w w' := by
  obtain ⟨a1, c1, rfl⟩ := h1.empty
  obtain ⟨a2, c2, rfl⟩ := h2.empty
  clear h1 h2
  go_enter Tryd.func28, Tryd.ntmps28
  go_wp2
  refine wp_loop_rounds 1 ?_
  rw [rounds_succ]
  go_wp2
  go_ret
  exact ⟨rfl, Below.refl _ _⟩

set_option maxRecDepth 100000 in
theorem same_any (v1 v2 : Value) (xs : List Int) (w : World) (h1 : RowAt .u8 w v1 xs) (h2 : RowAt .u8 w v2 xs) :
    Calls Tryd.prog 28 #[v1, v2] w fun e w' => e = .returned (.bool true) ∧ Below w.heap.size w w' := by
  by_cases hne : xs = []
  · subst hne; exact same_empty v1 v2 w h1 h2
  · obtain ⟨g1, o1, c1, rfl, hc1, hm1, hcell1⟩ := h1.spot hne
    obtain ⟨g2, o2, c2, rfl, hc2, hm2, hcell2⟩ := h2.spot hne
    clear h1 h2 hne
    obtain ⟨n, hn⟩ : ∃ n, n = xs.length := ⟨_, rfl⟩
    rw [← hn] at hcell1 hcell2 hc1 hc2 ⊢
    have H1 := hide hcell1; have H2 := hide hcell2
    clear hcell1 hcell2 hn
    go_enter Tryd.func28, Tryd.ntmps28
    go_wp2
    go_loopw [5] (fun t wr => ∃ k : Nat, k ≤ n ∧ t = .int .i64 k ∧ ∃ m, wr = w.drewN m) (fun t _ => n - (RowKit.intOf t).toNat)
    case atStart => exact ⟨0, by omega, rfl, 0, rfl⟩
    case round =>
      obtain ⟨k, hk, rfl, m, rfl⟩ := hrel
      by_cases hlt : k < n
      · have d1 := H1.out k hlt
        have d2 := H2.out k hlt
        go_wp2
        go_region
        all_goals
          go_wp2
          go_roundw
          case rel => exact ⟨k + 1, by omega, by go_num, m + 1, rfl⟩
          case measure => simp [RowKit.intOf]; omega
      · go_wp2
        go_ret
        exact ⟨rfl, below_drewN (Below.refl _ _) _⟩
theorem RowAt.taken {k : IntKind} {w : World} {ao : Option Addr} {n c m : Nat} {xs : List Int} (h : RowAt k w (.slice ao n c) xs) (hm : m ≤ xs.length) : RowAt k w (.slice ao m c) (xs.take m) := by
  obtain ⟨ao', c', he, h1, h2, h3, h4⟩ := h
  simp only [Value.slice.injEq] at he
  obtain ⟨rfl, _, rfl⟩ := he
  have hl : (xs.take m).length = m := by rw [List.length_take]; omega
  refine ⟨ao, c, by rw [hl], by omega, h2, h3, fun a ha i hi => ?_⟩
  rw [hl] at hi
  rw [h4 a ha i (by omega)]
  simp [List.getD, List.getElem?_take_of_lt hi]

theorem ownsRow_keep {w w' : World} {B : Nat} {e : TypeId} {v : Value} {n : Nat} {xs : List Value} (h : w.ownsRow B e 1 v n xs) (hb : Below w.heap.size w w') : w'.ownsRow B e 1 v n xs := by
  obtain ⟨hl, hh⟩ := h
  exact ⟨hl, hh.imp id fun ⟨g, cap, cur, he, hg, hh, r⟩ => ⟨g, cap, cur, he, hg, (hb.block g (lt_of_heap hh)).trans hh, r⟩⟩

end Go.Proofs.YtpfpelhhebafeaaDoor
