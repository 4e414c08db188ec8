/- slices.Reverse of a row at the head of a block. -/
import Derived.Test.YthoklgdlnmccmaaPathPlain
namespace Go.Proofs.Ythoklgdlnmccmaa
open Go.RowKit Go.Lib
set_option linter.unusedVariables false

theorem RowW.drew {w : World} {g : Nat} {l : List Int} (h : RowW w g l) : RowW w.drew g l := h

set_option maxRecDepth 100000 in
theorem reverse_nil (w : World) : Calls Try.prog 80 #[.slice none 0 0] w fun e w' => e = .returned (.tuple #[]) ∧ w' = w := by
  go_enter Try.func80, Try.ntmps80
  go_wp2
  refine wp_loop_rounds 1 ?_
  rw [rounds_succ]
  go_wp2
  first | go_end0 | refine bodyPost_ret (results_none rfl _ _ _) rfl ?_
  exact ⟨rfl, rfl⟩

set_option maxRecDepth 100000 in
set_option maxHeartbeats 4000000 in
theorem reverse_any (g c : Nat) (l : List Int) (w : World) (B : Nat) (hB : B ≤ g) (h : RowW w g l) (hl : l.length ≤ 1048576) (hc : l.length ≤ c) (hc2 : c ≤ 9223372036854775807) :
    Calls Try.prog 80 #[.slice (some ⟨g, 0, none⟩) l.length c] w fun e w' => e = .returned (.tuple #[]) ∧ RowW w' g l.reverse ∧ Below B w w' := by
  have HN := hide (fun i h => revUp_next l i h)
  have HE := hide (fun i h => revUp_end l i h)
  have HLN := hide (fun i => revUp_length l i)
  have HZ := hide (show RowW w g (revUp l 0) by rw [revUp_zero]; exact h)
  obtain ⟨n, hn⟩ : ∃ n, n = l.length := ⟨_, rfl⟩
  rw [← hn] at HN HE HLN hl hc ⊢
  clear h hn
  go_enter Try.func80, Try.ntmps80
  go_wp2
  go_loopw [2, 3] (fun t u wr => ∃ i : Nat, 2 * i ≤ n + 1 ∧ t = .int .i64 i ∧ u = .int .i64 ((n : Int) - 1 - (i : Int)) ∧ RowW wr g (revUp l i) ∧ Below B w wr) (fun t _ _ => n - (RowKit.intOf t).toNat)
  case atStart => exact ⟨0, by omega, rfl, by simp, HZ.out, Below.refl _ _⟩
  case round =>
    obtain ⟨i, hi, rfl, rfl, hR, hL⟩ := hrel
    by_cases hlt : 2 * i + 1 < n
    · have hln := HLN.out i
      have f0 := hR.free i
      have f1 := hR.free (n - 1 - i)
      have x0 := hR.cell i (by omega)
      have x1 := hR.cell (n - 1 - i) (by omega)
      have hR2 := (hR.put i (by omega) (at_ (revUp l i) (n - 1 - i))).put (n - 1 - i) (by rw [List.length_set]; omega) (at_ (revUp l i) i)
      rw [HN.out i hlt] at hR2
      have HR := hide hR2; have HL := hide hL
      obtain ⟨a, ha⟩ : ∃ a, a = at_ (revUp l i) i := ⟨_, rfl⟩
      obtain ⟨b, hb⟩ : ∃ b, b = at_ (revUp l i) (n - 1 - i) := ⟨_, rfl⟩
      rw [← ha] at x0 HR
      rw [← hb] at x1 HR
      obtain ⟨j, hj⟩ : ∃ j, j = n - 1 - i := ⟨_, rfl⟩
      rw [← hj] at x1 f1 HR
      have hji : (n : Int) - 1 - (i : Int) = (j : Int) := by omega
      have hij : i < j := by omega
      have hjn : j < n := by omega
      have hne : ¬ i = j := by omega
      have HJ := hide hj
      rw [hji]
      clear hR hR2 hL ha hb hln hj hji
      go_wp2
      go_region
      all_goals
        go_wp2
        refine ⟨⟨i + 1, by have := HJ.out; omega, by simp, by congr 1; have := HJ.out; simp; omega, HR.out.drew, ?_⟩, by simp [RowKit.intOf]; omega⟩
        exact ((HL.out.setCell (p := ⟨g, i, none⟩) hB _).setCell (p := ⟨g, j, none⟩) hB _).drew
    · have HR := hide hR; have HL := hide hL
      rw [HE.out i (by omega)] at HR
      clear hR hL
      go_wp2
      first | go_end0 | refine bodyPost_ret (results_none rfl _ _ _) rfl ?_
      exact ⟨rfl, HR.out, HL.out⟩
end Go.Proofs.Ythoklgdlnmccmaa
