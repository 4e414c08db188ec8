/- Lists of words alike; slices.Clone of ints; Over. -/
import Derived.Test.YtlncjbjdjciphaaK7
namespace Go.Proofs.Ytlncjbjdjciphaa
open Go.RowKit Go.Lib
set_option linter.unusedVariables false
set_option linter.unusedSimpArgs false
set_option maxRecDepth 100000 in
set_option maxHeartbeats 2000000 in
theorem sameWords_any (v u : Value) (L : List Int) (w : World) (h : RowAt .u64 w v L) (k : RowAt .u64 w u L) : Calls Try.prog 20 #[v, u] w fun x w' => x = .returned (.bool true) ∧ Below w.heap.size w w' := by
  have H := hide h; have K := hide k
  obtain ⟨ao, ac, rfl, ha1, ha2, ha3⟩ := h
  obtain ⟨bo, bc, rfl, hb1, hb2, hb3⟩ := k
  obtain ⟨n, hn⟩ : ∃ n, n = L.length := ⟨_, rfl⟩
  have HN := hide hn
  rw [← hn] at H K ha1 hb1 ⊢
  clear ha3 hb3 hn
  go_enter Try.func20, Try.ntmps20
  go_wp2_with fail
  go_loopw [4, 5] (fun va t wr => ∃ i : Nat, i ≤ n ∧ va = .bool false ∧ t = .int .i64 (i : Int) ∧ Below w.heap.size w wr) (fun _ t _ => n - (RowKit.intOf t).toNat)
  case atStart => exact ⟨0, Nat.zero_le _, rfl, rfl, Below.refl _ _⟩
  case round =>
    obtain ⟨i, hin, rfl, rfl, hb⟩ := hrel
    have HB := hide hb
    clear hb
    by_cases hlt : i < n
    · have hli : (i : Int) < (n : Int) := by omega
      obtain ⟨g1, o1, c1, e1, _, x1⟩ := (H.out.below HB.out).cellAt i (by rw [← HN.out]; exact hlt)
      obtain ⟨g2, o2, c2, e2, _, x2⟩ := (K.out.below HB.out).cellAt i (by rw [← HN.out]; exact hlt)
      simp only [Value.slice.injEq] at e1 e2
      obtain ⟨rfl, f1, rfl⟩ := e1
      obtain ⟨rfl, f2, rfl⟩ := e2
      clear f1 f2
      generalize at_ L i = s at x1 x2
      go_wp2_with fail
      go_quiet (fail)
      go_wp2_with fail
      exact ⟨⟨i + 1, by omega, rfl, by simp, below_on HB.out (below_drN _ _)⟩, by simp [RowKit.intOf]; omega⟩
    · obtain rfl : n = i := by omega
      go_wp2_with fail
      go_ret
      exact ⟨rfl, HB.out⟩
set_option maxRecDepth 100000 in
set_option maxHeartbeats 2000000 in
/-- A copy of ints: nothing more is wanted of it than its length. -/
theorem clone_any (v : Value) (l : List Int) (w : World) (h0 : RowAt .i64 w v l) (hlen : l.length ≤ 17592186043904) :
    Calls Try.prog 49 #[v] w fun e w' => Below w.heap.size w w' ∧ ∃ ao c, e = .returned (.slice ao l.length c) := by
  have q23 : ∀ (w : World) (a : Option Addr) (n c n' c' : Nat), (binOp .eql 23 (.slice a n c) (.slice none n' c')).run Try.prog w = .ok (.bool a.isNone) w := fun w a n c n' c' => Lib.run_eql_slice_nil w _ _ a n c n' c' Try.underlying23
  have h := h0.iat
  obtain ⟨i0, hi0, hz0, hz1, hz2⟩ := info_parts info3i
  obtain ⟨ao, cap, rfl, hcap, h63, hnil, _⟩ := h0
  have H := hide h
  obtain ⟨n, hn⟩ : ∃ n, n = l.length := ⟨_, rfl⟩
  have HN := hide hn
  rw [← hn] at hcap H hlen ⊢
  clear h hn
  cases ao with
  | none =>
    have := hnil rfl
    subst this
    obtain rfl : n = 0 := by omega
    go_enter Try.func49, Try.ntmps49
    go_wp2_with fail
    go_ret
    exact ⟨Below.refl _ _, none, 0, rfl⟩
  | some a =>
    go_enter Try.func49, Try.ntmps49
    go_wp2_with (first
      | (at_builtin; refine wpList_freshR iA_size (by decide) rfl (.tmp 5) (.tmp 6) 23 rfl 3 i0 _ 8 Try.underlying23 hi0 hz0 hz1 hz2 rfl w.heap.size w.heap.size (own_newr w 3 _ 1 rfl) (by simp) _ l rfl rfl (H.out.below (below_alloc (Below.refl _ _) _)) (by rw [← HN.out]; omega) (by rw [← HN.out]; unfold maxLen; omega) ?_; intro v4 w4 hownA hbelA; have HBA := hide (below_on (below_alloc (Below.refl _ _) _) hbelA); obtain ⟨a4, c4, h4⟩ : ∃ a4 c4, v4 = .slice a4 l.length c4 := owns_shape hownA; subst h4; rw [← HN.out]; clear hbelA hownA)
      | fail)
    go_ret
    exact ⟨HBA.out, a4, c4, rfl⟩
end Go.Proofs.Ytlncjbjdjciphaa
