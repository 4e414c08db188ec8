/- slices.Index, slices.Contains and slices.Clone of ints; Over. -/
import Derived.Test.YtlncjbjdjciphaaK4
namespace Go.Proofs.Ytlncjbjdjciphaa
open Go.RowKit Go.Lib
set_option linter.unusedVariables false
set_option linter.unusedSimpArgs false
set_option maxRecDepth 100000 in
set_option maxHeartbeats 2000000 in
theorem index_any (v : Value) (l : List Int) (x : Int) (w : World) (h : RowAt .i64 w v l) (hl : l.length ≤ 17592186043904) : Calls Try.prog 61 #[v, .int .i64 x] w fun e w' => Below w.heap.size w w' ∧ ∃ r : Int, e = .returned (.int .i64 r) ∧ ((0 ≤ r ∧ x ∈ l) ∨ (r = -1 ∧ x ∉ l)) := by
  obtain ⟨ao, cap, rfl⟩ := h.shape
  have H := hide h
  obtain ⟨n, hn⟩ : ∃ n, n = l.length := ⟨_, rfl⟩
  have HN := hide hn
  rw [← hn] at H hl ⊢
  clear h hn
  go_enter Try.func61, Try.ntmps61
  go_wp2_with fail
  go_loopw [8] (fun t wr => ∃ i : Nat, i ≤ n ∧ t = .int .i64 (i : Int) ∧ Below w.heap.size w wr ∧ ∀ k, k < i → at_ l k ≠ x) (fun t _ => n - (RowKit.intOf t).toNat)
  case atStart => exact ⟨0, Nat.zero_le _, rfl, Below.refl _ _, fun k hk => absurd hk (Nat.not_lt_zero _)⟩
  case round =>
    obtain ⟨i, hin, rfl, hb, hno⟩ := hrel
    have HB := hide hb
    have HNO := hide hno
    clear hb hno
    by_cases hlt : i < n
    · have hli : (i : Int) < (n : Int) := by omega
      obtain ⟨gs, os, cc1, he1, hgs, p0⟩ := (H.out.below HB.out).cellAt i (by rw [← HN.out]; exact hlt)
      simp only [Value.slice.injEq] at he1
      obtain ⟨rfl, _⟩ := he1
      have hmem : Hid (at_ l i ∈ l) := by
        have hq : i < l.length := by rw [← HN.out]; exact hlt
        have : at_ l i = l[i] := by simp [at_, hq]
        rw [this]; exact List.getElem_mem hq
      obtain ⟨s, hs⟩ : ∃ s, s = at_ l i := ⟨_, rfl⟩
      rw [← hs] at p0 hmem
      have HSS := hide hs
      clear hs
      by_cases heq : x = s
      · subst heq
        go_wp2_with fail
        go_ret
        exact ⟨HB.out, _, rfl, .inl ⟨by omega, hmem.out⟩⟩
      · have hne : ¬ s = x := fun e => heq e.symm
        go_wp2_with fail
        exact ⟨⟨i + 1, by omega, by simp, HB.out, fun k hk => by
          rcases Nat.lt_or_ge k i with q | q
          · exact HNO.out k q
          · obtain rfl : k = i := by omega
            rw [← HSS.out]; exact hne⟩, by simp [RowKit.intOf]; omega⟩
    · obtain rfl : n = i := by omega
      go_wp2_with fail
      go_ret
      refine ⟨HB.out, _, rfl, .inr ⟨rfl, fun hm => ?_⟩⟩
      obtain ⟨k, hk, e⟩ := List.getElem_of_mem hm
      exact HNO.out k (by rw [HN.out]; exact hk) (by simp [at_, hk, e])
set_option maxRecDepth 100000 in
set_option maxHeartbeats 2000000 in
theorem contains_any (v : Value) (l : List Int) (x : Int) (w : World) (h : RowAt .i64 w v l) (hl : l.length ≤ 17592186043904) : Calls Try.prog 51 #[v, .int .i64 x] w fun e w' => Below w.heap.size w w' ∧ ∃ r : Bool, e = .returned (.bool r) ∧ (r = true ↔ x ∈ l) := by
  obtain ⟨ao, cap, rfl⟩ := h.shape
  have HI := hide (index_any _ l x w h hl)
  clear h hl
  go_enter Try.func51, Try.ntmps51
  go_wp2_with fail
  refine HI.out.mono ?_
  rintro e w1 ⟨hb, r, rfl, hr⟩
  have HB := hide hb
  have HR := hide hr
  rcases hr with ⟨h1, h2⟩ | ⟨h1, h2⟩
  · have HM := hide h2
    clear h2 hb
    go_wp2_with fail
    go_ret
    exact ⟨HB.out, true, rfl, ⟨fun _ => HM.out, fun _ => rfl⟩⟩
  · have HM := hide h2
    subst h1
    clear h2 hb
    go_wp2_with fail
    go_ret
    exact ⟨HB.out, false, rfl, ⟨fun e => (by cases e), fun q => (HM.out q).elim⟩⟩
end Go.Proofs.Ytlncjbjdjciphaa
