/- intsKept, wordsKept: the copy is as it was, its marks too. -/
import Derived.Test.YtdbphlafbehklaaLists
import Derived.Test.YtdbphlafbehklaaCheck
namespace Go.Proofs.Ytdbphlafbehklaa
open Go.RowKit Go.Lib
set_option linter.unusedVariables false

set_option maxRecDepth 100000 in
set_option maxHeartbeats 2000000 in
theorem intsKept_any (g c : Nat) (lv : Value) (xs : List Int) (w : World) (hm : MarkAt .i64 w g c xs) (hl : RowAt .i64 w lv xs) (hb : xs.length * 8 ≤ 140737488351232) :
    Calls Try.prog 29 #[.slice (some ⟨g, 0, none⟩) xs.length c, lv] w fun e w' => e = .returned (.bool true) ∧ Below w.heap.size w w' := by
  obtain ⟨lo, cl, rfl⟩ : ∃ ao c, lv = .slice ao xs.length c := by obtain ⟨ao, c, h, _⟩ := hl; exact ⟨ao, c, h⟩
  obtain ⟨p1, p2, p3⟩ := hm.ends
  obtain ⟨hc, hc2⟩ := hm.cap
  have HC := hide (fun (i : Nat) (hi : i < xs.length) => hl.cellAt i hi)
  have HM := hide (fun (i : Nat) (hi : i < xs.length) => hm.row.cellAt i hi)
  obtain ⟨n, hn⟩ : ∃ n, n = xs.length := ⟨_, rfl⟩
  rw [← hn] at HC HM p1 p2 p3 hc hb ⊢
  clear hn hl hm
  go_enter Try.func29, Try.ntmps29
  go_wp2
  go_loopw [6] (fun t wr => ∃ k : Nat, k ≤ n ∧ t = .int .i64 k ∧ ∃ m, wr = w.drewN m) (fun t _ => n - (RowKit.intOf t).toNat)
  case atStart => exact ⟨0, by omega, rfl, 0, rfl⟩
  case round =>
    obtain ⟨k, hk, rfl, m, rfl⟩ := hrel
    by_cases hlt : k < n
    · obtain ⟨gb, ob, cb', hsb, hcb, d1⟩ := HC.out k hlt
      obtain ⟨gc, oc, cc', hsc, hcc, d2⟩ := HM.out k hlt
      simp only [Value.slice.injEq, true_and] at hsb
      obtain ⟨rfl, rfl⟩ := hsb
      simp only [Value.slice.injEq, Option.some.injEq, Addr.mk.injEq, true_and, and_true] at hsc
      obtain ⟨⟨rfl, rfl⟩, rfl⟩ := hsc
      obtain ⟨x, hx⟩ : ∃ x, x = at_ xs k := ⟨_, rfl⟩
      rw [← hx] at d1 d2
      rw [Nat.zero_add] at d2
      clear hx p1 p2 p3
      go_wp2
      go_region
      all_goals
        go_wp2
        go_roundw
        case rel => exact ⟨k + 1, by omega, by go_num, m + 1, rfl⟩
        case measure => simp [RowKit.intOf]; omega
    · obtain rfl : k = n := by omega
      go_wp2
      go_ret
      exact ⟨rfl, below_drewN (Below.refl _ _) _⟩

set_option maxRecDepth 100000 in
set_option maxHeartbeats 2000000 in
theorem wordsKept_any (g c : Nat) (lv : Value) (xs : List Int) (w : World) (hm : MarkAt .u64 w g c xs) (hl : RowAt .u64 w lv xs) (hb : xs.length * 8 ≤ 140737488351232) :
    Calls Try.prog 46 #[.slice (some ⟨g, 0, none⟩) xs.length c, lv] w fun e w' => e = .returned (.bool true) ∧ Below w.heap.size w w' := by
  obtain ⟨lo, cl, rfl⟩ : ∃ ao c, lv = .slice ao xs.length c := by obtain ⟨ao, c, h, _⟩ := hl; exact ⟨ao, c, h⟩
  obtain ⟨p1, p2, p3⟩ := hm.ends
  obtain ⟨hc, hc2⟩ := hm.cap
  have HC := hide (fun (i : Nat) (hi : i < xs.length) => hl.cellAt i hi)
  have HM := hide (fun (i : Nat) (hi : i < xs.length) => hm.row.cellAt i hi)
  obtain ⟨n, hn⟩ : ∃ n, n = xs.length := ⟨_, rfl⟩
  rw [← hn] at HC HM p1 p2 p3 hc hb ⊢
  clear hn hl hm
  go_enter Try.func46, Try.ntmps46
  go_wp2
  go_loopw [6] (fun t wr => ∃ k : Nat, k ≤ n ∧ t = .int .i64 k ∧ ∃ m, wr = w.drewN m) (fun t _ => n - (RowKit.intOf t).toNat)
  case atStart => exact ⟨0, by omega, rfl, 0, rfl⟩
  case round =>
    obtain ⟨k, hk, rfl, m, rfl⟩ := hrel
    by_cases hlt : k < n
    · obtain ⟨gb, ob, cb', hsb, hcb, d1⟩ := HC.out k hlt
      obtain ⟨gc, oc, cc', hsc, hcc, d2⟩ := HM.out k hlt
      simp only [Value.slice.injEq, true_and] at hsb
      obtain ⟨rfl, rfl⟩ := hsb
      simp only [Value.slice.injEq, Option.some.injEq, Addr.mk.injEq, true_and, and_true] at hsc
      obtain ⟨⟨rfl, rfl⟩, rfl⟩ := hsc
      obtain ⟨x, hx⟩ : ∃ x, x = at_ xs k := ⟨_, rfl⟩
      rw [← hx] at d1 d2
      rw [Nat.zero_add] at d2
      clear hx p1 p2 p3
      go_wp2
      go_region
      all_goals
        go_wp2
        go_roundw
        case rel => exact ⟨k + 1, by omega, by go_num, m + 1, rfl⟩
        case measure => simp [RowKit.intOf]; omega
    · obtain rfl : k = n := by omega
      go_wp2
      go_ret
      exact ⟨rfl, below_drewN (Below.refl _ _) _⟩
end Go.Proofs.Ytdbphlafbehklaa
