/- Copies with three marks behind them, held against what they are of. -/
import Derived.Test.YtehlciejhegndaaLists
namespace Go.Proofs.Ytehlciejhegndaa
open Go.RowKit Go.Lib
set_option linter.unusedVariables false
set_option linter.unusedSimpArgs false
set_option maxRecDepth 100000 in
theorem sWords_empty (v1 v2 : Value) (w : World) (h1 : RowAt .u64 w v1 []) (h2 : RowAt .u64 w v2 []) :
    Calls Try.prog 83 #[v1, v2] w fun e w' => e = .returned (.bool true) ∧ Below w.heap.size w w' := by
  obtain ⟨a1, c1, rfl⟩ := h1.empty
  obtain ⟨a2, c2, rfl⟩ := h2.empty
  clear h1 h2
  go_enter Try.func83, Try.ntmps83
  go_wp2
  refine wp_loop_rounds 1 ?_
  rw [rounds_succ]
  go_wp2
  go_ret
  exact ⟨rfl, Below.refl _ _⟩

set_option maxRecDepth 100000 in
theorem sWords_any (v1 v2 : Value) (xs : List Int) (w : World) (h1 : RowAt .u64 w v1 xs) (h2 : RowAt .u64 w v2 xs) :
    Calls Try.prog 83 #[v1, v2] w fun e w' => e = .returned (.bool true) ∧ Below w.heap.size w w' := by
  by_cases hne : xs = []
  · subst hne; exact sWords_empty v1 v2 w h1 h2
  · obtain ⟨g1, o1, c1, rfl, hc1, hm1, hcell1⟩ := h1.spot hne
    obtain ⟨g2, o2, c2, rfl, hc2, hm2, hcell2⟩ := h2.spot hne
    clear h1 h2 hne
    obtain ⟨n, hn⟩ : ∃ n, n = xs.length := ⟨_, rfl⟩
    rw [← hn] at hcell1 hcell2 hc1 hc2 ⊢
    have H1 := hide hcell1; have H2 := hide hcell2
    clear hcell1 hcell2 hn
    go_enter Try.func83, Try.ntmps83
    go_wp2
    go_loopw [5] (fun t wr => ∃ k : Nat, k ≤ n ∧ t = .int .i64 k ∧ ∃ m, wr = w.drewN m) (fun t _ => n - (RowKit.intOf t).toNat)
    case atStart => exact ⟨0, by omega, rfl, 0, rfl⟩
    case round =>
      obtain ⟨k, hk, rfl, m, rfl⟩ := hrel
      by_cases hlt : k < n
      · have d1 := H1.out k hlt
        have d2 := H2.out k hlt
        go_wp2
        go_region
        all_goals
          go_wp2
          go_roundw
          case rel => exact ⟨k + 1, by omega, by go_num, m + 1, rfl⟩
          case measure => simp [RowKit.intOf]; omega
      · go_wp2
        go_ret
        exact ⟨rfl, below_drewN (Below.refl _ _) _⟩

set_option maxRecDepth 100000 in
set_option maxHeartbeats 2000000 in
theorem intsKept_any (g c : Nat) (lv : Value) (xs : List Int) (w : World) (hm : MarkAt .i64 w g c xs) (hl : RowAt .i64 w lv xs) (hb : xs.length * 8 ≤ 140737488351232) :
    Calls Try.prog 24 #[.slice (some ⟨g, 0, none⟩) xs.length c, lv] w fun e w' => e = .returned (.bool true) ∧ Below w.heap.size w w' := by
  obtain ⟨lo, cl, rfl⟩ : ∃ ao c, lv = .slice ao xs.length c := by obtain ⟨ao, c, h, _⟩ := hl; exact ⟨ao, c, h⟩
  have HS := hide (same_any _ _ xs w hm.row hl)
  have HM : Hid (∀ W, Below w.heap.size w W → MarkAt .i64 W g c xs) := fun W hW => hm.below hW
  obtain ⟨hc, hc2⟩ := hm.cap
  obtain ⟨n, hn⟩ : ∃ n, n = xs.length := ⟨_, rfl⟩
  have HN := hide hn
  rw [← hn] at HS hc hb ⊢
  clear hn hl hm
  have hw1 : IntKind.i64.wrap ((n : Int) + 1) = (n : Int) + 1 := IntWalk.i64_in _ (by omega)
  have hw2 : IntKind.i64.wrap ((n : Int) + 2) = (n : Int) + 2 := IntWalk.i64_in _ (by omega)
  have hw3 : IntKind.i64.wrap ((n : Int) + 3) = (n : Int) + 3 := IntWalk.i64_in _ (by omega)
  have j1 : (n : Int) + 3 ≤ c := by omega
  have j2 : (n : Int) ≤ c := by omega
  go_enter Try.func24, Try.ntmps24
  go_wp2_with (first
    | (go_at_call 60; refine HS.out.mono ?_; rintro e w2 ⟨rfl, hb2⟩; obtain ⟨p1, p2, p3⟩ := (HM.out _ hb2).ends; rw [← HN.out] at p1 p2 p3; have HB := hide hb2; clear hb2)
    | fail)
  go_ret
  exact ⟨rfl, HB.out⟩
set_option maxRecDepth 100000 in
set_option maxHeartbeats 2000000 in
theorem wordsKept_any (g c : Nat) (lv : Value) (xs : List Int) (w : World) (hm : MarkAt .u64 w g c xs) (hl : RowAt .u64 w lv xs) (hb : xs.length * 8 ≤ 140737488351232) :
    Calls Try.prog 42 #[.slice (some ⟨g, 0, none⟩) xs.length c, lv] w fun e w' => e = .returned (.bool true) ∧ Below w.heap.size w w' := by
  obtain ⟨lo, cl, rfl⟩ : ∃ ao c, lv = .slice ao xs.length c := by obtain ⟨ao, c, h, _⟩ := hl; exact ⟨ao, c, h⟩
  have HS := hide (sWords_any _ _ xs w hm.row hl)
  have HM : Hid (∀ W, Below w.heap.size w W → MarkAt .u64 W g c xs) := fun W hW => hm.below hW
  obtain ⟨hc, hc2⟩ := hm.cap
  obtain ⟨n, hn⟩ : ∃ n, n = xs.length := ⟨_, rfl⟩
  have HN := hide hn
  rw [← hn] at HS hc hb ⊢
  clear hn hl hm
  have hw1 : IntKind.i64.wrap ((n : Int) + 1) = (n : Int) + 1 := IntWalk.i64_in _ (by omega)
  have hw2 : IntKind.i64.wrap ((n : Int) + 2) = (n : Int) + 2 := IntWalk.i64_in _ (by omega)
  have hw3 : IntKind.i64.wrap ((n : Int) + 3) = (n : Int) + 3 := IntWalk.i64_in _ (by omega)
  have j1 : (n : Int) + 3 ≤ c := by omega
  have j2 : (n : Int) ≤ c := by omega
  go_enter Try.func42, Try.ntmps42
  go_wp2_with (first
    | (go_at_call 83; refine HS.out.mono ?_; rintro e w2 ⟨rfl, hb2⟩; obtain ⟨p1, p2, p3⟩ := (HM.out _ hb2).ends; rw [← HN.out] at p1 p2 p3; have HB := hide hb2; clear hb2)
    | fail)
  go_ret
  exact ⟨rfl, HB.out⟩
end Go.Proofs.Ytehlciejhegndaa
