/- Copies of ints with three marks: ints and intsKept. -/
import Derived.Test.YtdjkidgkeekenaaGreatTR
import Derived.BigQuiet
namespace Go.Proofs.YtdjkidgkeekenaaGreat
open Go.RowKit Go.Lib
set_option linter.unusedVariables false
set_option linter.unusedSimpArgs false
theorem below_drN (w : World) (m : Nat) : Below w.heap.size w (w.drewN m) := ⟨rfl, rfl, rfl, Nat.le_refl _, fun _ _ => rfl⟩
set_option maxRecDepth 100000 in
set_option maxHeartbeats 2000000 in
theorem ints_any (v : Value) (l : List Int) (w : World) (h0 : RowAt .i64 w v l) (hlen : l.length ≤ 17592186043904) :
    Calls Tryz.prog 51 #[v] w fun e w' => ∃ g c, e = .returned (.slice (some ⟨g, 0, none⟩) l.length c) ∧ w.heap.size ≤ g ∧ M3 w' g c l ∧ Below w.heap.size w w' := by
  have h := h0.iat
  obtain ⟨i0, hi0, hz0, hz1, hz2⟩ := info_parts info3i
  obtain ⟨ao, cap, rfl, hcap, h63⟩ := h.shape
  have H := hide h
  obtain ⟨n, hn⟩ : ∃ n, n = l.length := ⟨_, rfl⟩
  have HN := hide hn
  rw [← hn] at hcap H hlen ⊢
  clear h hn h0
  go_enter Tryz.func51, Tryz.ntmps51
  go_wp2_with (first
    | (at_builtin; refine wpList_freshR iA_size (by decide) rfl (.tmp 4) (.tmp 5) 23 rfl 3 i0 _ 8 Tryz.underlying23 hi0 hz0 hz1 hz2 rfl w.heap.size w.heap.size (own_newr w 3 _ 1 rfl) (by simp) _ l rfl rfl (H.out.below (below_alloc (Below.refl _ _) _)) (by rw [← HN.out]; omega) (by rw [← HN.out]; unfold maxLen; omega) ?_; intro v4 w4 hownA hbelA; have HBA := hide (below_on (below_alloc (Below.refl _ _) _) hbelA); clear hbelA)
    | (at_builtin; refine wpList_append_own _ rfl (.tmp 6) (.tmp 7) 23 rfl w.heap.size 3 i0 _ 1 8 Tryz.underlying23 hi0 hz0 hz1 hz2 rfl (by decide) _ _ _ rfl (hownA.alloc _) ⟨w4.heap.size, 0, none⟩ 3 3 [.int .i64 71, .int .i64 72, .int .i64 73] rfl rfl (arr_at w4 _ _) (by simp [Value.oneCell', iA]) (by unfold maxLen; rw [← HN.out]; omega) (by rw [← HN.out]; omega) (by have hq := HBA.out.size; simp; omega) ?_; intro v5 w5 hownB hgrowB hqB; obtain ⟨g, c, he, hge, hem, hbb⟩ := m3_made hownA HBA.out hownB hgrowB; subst he; rw [← HN.out]; have HEM := hide hem; have hcc := hem.cap; rw [← HN.out] at hcc; have HBB := hide hbb; clear hownA hownB hgrowB hqB hem hbb HBA)
    | fail)
  go_ret
  exact ⟨g, c, rfl, hge, HEM.out, HBB.out⟩
set_option maxRecDepth 100000 in
set_option maxHeartbeats 2000000 in
theorem intsKept_any (v : Value) (l : List Int) (g c : Nat) (w : World) (h : RowAt .i64 w v l) (hm : M3 w g c l) (hl : l.length ≤ 17592186043904) : Calls Tryz.prog 57 #[.slice (some ⟨g, 0, none⟩) l.length c, v] w fun x w' => x = .returned (.bool true) ∧ Below w.heap.size w w' := by
  obtain ⟨ao, cap, rfl⟩ := h.shape
  obtain ⟨hc1, hc2⟩ := hm.cap
  have hc4 := hm.lt
  have H := hide h
  have HRA := hide hm.row
  have m1 : w.cell? ⟨g, l.length, none⟩ = some (.int .i64 71) := by rw [hm.at _ (by omega)]; simp [at_]
  have m2 : w.cell? ⟨g, l.length + 1, none⟩ = some (.int .i64 72) := by rw [hm.at _ (by omega)]; simp [at_]
  have m3 : w.cell? ⟨g, l.length + 2, none⟩ = some (.int .i64 73) := by rw [hm.at _ (by omega)]; simp [at_]
  have HMK := hide (And.intro m1 (And.intro m2 m3))
  obtain ⟨n, hn⟩ : ∃ n, n = l.length := ⟨_, rfl⟩
  have HN := hide hn
  rw [← hn] at H hl hc1 HMK HRA ⊢
  have hn2 : ((n : Int) + 3) ≤ (c : Int) := by omega
  have hn3 : ((n : Int) + 3).toNat = n + 3 := by omega
  have hn4 : (0 : Int) ≤ (n : Int) + 3 := by omega
  clear h hn hm m1 m2 m3
  go_enter Tryz.func57, Tryz.ntmps57
  go_wp2_with fail
  go_loopw [6] (fun t wr => ∃ i : Nat, i ≤ n ∧ t = .int .i64 (i : Int) ∧ Below w.heap.size w wr) (fun t _ => n - (RowKit.intOf t).toNat)
  case atStart => exact ⟨0, Nat.zero_le _, rfl, Below.refl _ _⟩
  case round =>
    obtain ⟨i, hin, rfl, hb⟩ := hrel
    have HB := hide hb
    clear hb
    by_cases hlt : i < n
    · have hli : (i : Int) < (n : Int) := by omega
      obtain ⟨gs, os, cc1, he1, hgs, p0⟩ := (H.out.below HB.out).cellAt i (by rw [← HN.out]; exact hlt)
      obtain ⟨gq, oq, cc2, he2, hgq, q0⟩ := (HRA.out.below HB.out).cellAt i (by rw [← HN.out]; exact hlt)
      simp only [Value.slice.injEq, Option.some.injEq, Addr.mk.injEq, and_true] at he1 he2
      obtain ⟨rfl, _⟩ := he1
      obtain ⟨⟨rfl, rfl⟩, _⟩ := he2
      simp only [Nat.zero_add] at q0
      generalize at_ l i = s at p0 q0
      have hi2 : (i : Int) < (n : Int) + 3 := by omega
      have hi3 : i < n + 3 := by omega
      go_wp2_with fail
      go_quiet (fail)
      go_wp2_with fail
      exact ⟨⟨i + 1, by omega, by simp, below_on HB.out (below_drN _ _)⟩, by simp [RowKit.intOf]; omega⟩
    · obtain rfl : n = i := by omega
      obtain ⟨m1, m2, m3⟩ := HMK.out
      have q1 := (below_cell HB.out hc4).trans m1
      have q2 := (below_cell HB.out hc4).trans m2
      have q3 := (below_cell HB.out hc4).trans m3
      clear m1 m2 m3
      go_wp2_with fail
      go_ret
      exact ⟨rfl, HB.out⟩
end Go.Proofs.YtdjkidgkeekenaaGreat
