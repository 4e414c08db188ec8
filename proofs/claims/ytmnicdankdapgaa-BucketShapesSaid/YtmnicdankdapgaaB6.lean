/- bucket's Open, Over, Reply: the program's and the reference's. -/
import Derived.Test.YtmnicdankdapgaaB5
import Derived.Test.YtmnicdankdapgaaS6
namespace Go.Proofs.Ytmnicdankdapgaa
open Go.RowKit Go.Lib
set_option linter.unusedVariables false
def openB (b W S C D who : Int) : Int := if OkB b W S C D then (if who < 0 ∨ W ≤ who then 6 else 0) else 60
set_option maxRecDepth 100000 in
set_option maxHeartbeats 2000000 in
theorem bucketOpen_any (b W S C D who : Int) (w : World) (hD : 0 ≤ D) : Calls Try.prog 35 #[bAgg b W S C D, .int .i64 who] w (OpenPost w (openB b W S C D who) 117 7 (.int .i64 0) 8) := by
  have HC := hide (fun w => bCheck_any b W S C D w hD)
  by_cases h : OkB b W S C D
  · rw [if_pos h] at HC
    unfold openB
    rw [if_pos h]
    unfold bAgg at HC ⊢
    clear h
    by_cases hw : who < 0 ∨ W ≤ who
    · rw [if_pos hw]
      go_enter Try.func35, Try.ntmps35
      go_wp2_with (go_at_call 58; refine (HC.out _).mono ?_; rintro e w2 ⟨rfl, hb1⟩; have hm1 := (gm_two w 108 _ b W S C D).below hb1; obtain ⟨s0, s1, s2, s3, s4⟩ := hm1.five; have HM1 := hide hm1; clear hb1 hm1)
      all_goals first
        | (exfalso; omega)
        | (go_ret2; exact ⟨HM1.out.bel, .inl ⟨by decide, rfl⟩⟩)
    · rw [if_neg hw]
      go_enter Try.func35, Try.ntmps35
      go_wp2_with (go_at_call 58; refine (HC.out _).mono ?_; rintro e w2 ⟨rfl, hb1⟩; have hm1 := (gm_two w 108 _ b W S C D).below hb1; obtain ⟨s0, s1, s2, s3, s4⟩ := hm1.five; have HM1 := hide hm1; clear hb1 hm1)
      all_goals first
        | (exfalso; omega)
        | (go_ret2; exact ⟨below_alloc HM1.out.bel _, .inr ⟨rfl, _, rfl, ⟨_, heap_new _ _, rfl, rfl, rfl⟩⟩⟩)
  · rw [if_neg h] at HC
    unfold openB
    rw [if_neg h]
    unfold bAgg at HC ⊢
    clear h
    go_enter Try.func35, Try.ntmps35
    go_wp2_with (go_at_call 58; refine (HC.out _).mono ?_; rintro e w2 ⟨rfl, hb1⟩; have HM1 := hide ((gm_two w 108 _ b W S C D).below hb1); clear hb1)
    go_ret2
    exact ⟨HM1.out.bel, .inl ⟨by decide, rfl⟩⟩
set_option maxRecDepth 100000 in
set_option maxHeartbeats 2000000 in
theorem refOpenB_any (b W S C D who : Int) (w : World) (hD : 0 ≤ D) : Calls Try.prog 36 #[bAgg b W S C D, .int .i64 who] w (OpenPost w (openB b W S C D who) 119 6 (.int .i64 0) 14) := by
  have HC := hide (fun w => bShape_any b W S C D w hD)
  by_cases h : OkB b W S C D
  · rw [decide_eq_true h] at HC
    unfold openB
    rw [if_pos h]
    unfold bAgg at HC ⊢
    clear h
    by_cases hw : who < 0 ∨ W ≤ who
    · rw [if_pos hw]
      go_enter Try.func36, Try.ntmps36
      go_wp2_with (go_at_call 60; refine (HC.out _).mono ?_; rintro e w2 ⟨rfl, hb1⟩; have hm1 := (gm_one w 69 b W S C D).below hb1; obtain ⟨s0, s1, s2, s3, s4⟩ := hm1.five; have HM1 := hide hm1; clear hb1 hm1)
      all_goals first
        | (exfalso; omega)
        | (go_ret2; exact ⟨HM1.out.bel, .inl ⟨by decide, rfl⟩⟩)
    · rw [if_neg hw]
      go_enter Try.func36, Try.ntmps36
      go_wp2_with (go_at_call 60; refine (HC.out _).mono ?_; rintro e w2 ⟨rfl, hb1⟩; have hm1 := (gm_one w 69 b W S C D).below hb1; obtain ⟨s0, s1, s2, s3, s4⟩ := hm1.five; have HM1 := hide hm1; clear hb1 hm1)
      all_goals first
        | (exfalso; omega)
        | (go_ret2; exact ⟨below_alloc HM1.out.bel _, .inr ⟨rfl, _, rfl, ⟨_, heap_new _ _, rfl, rfl, rfl⟩⟩⟩)
  · rw [decide_eq_false h] at HC
    unfold openB
    rw [if_neg h]
    unfold bAgg at HC ⊢
    clear h
    go_enter Try.func36, Try.ntmps36
    go_wp2_with (go_at_call 60; refine (HC.out _).mono ?_; rintro e w2 ⟨rfl, hb1⟩; have HM1 := hide ((gm_one w 69 b W S C D).below hb1); clear hb1)
    go_ret2
    exact ⟨HM1.out.bel, .inl ⟨by decide, rfl⟩⟩
set_option maxRecDepth 100000 in
theorem bucketOver_new (h : Nat) (w : World) (hn : New w h 117 7 (.int .i64 0) 8) : Calls Try.prog 37 #[.pointer (some ⟨h, 0, none⟩)] w fun e w' => e = .returned (.bool true) ∧ w' = w := by
  obtain ⟨cs, h1, h2, h3, h4⟩ := hn
  have c6 := cell_of h1 h2
  clear h1 h2 h3 h4
  go_enter Try.func37, Try.ntmps37
  go_wp2
  go_ret
  exact ⟨rfl, rfl⟩
set_option maxRecDepth 100000 in
set_option maxHeartbeats 2000000 in
theorem bucketReply_new (h : Nat) (w : World) (hn : New w h 117 7 (.int .i64 0) 8) : Calls Try.prog 39 #[.pointer (some ⟨h, 0, none⟩)] w fun e w' => e = .returned (rAgg 1) ∧ Below w.heap.size w w' := by
  obtain ⟨cs, h1, h2, h3, h4⟩ := hn
  have c7 := cell_of h1 h3
  have c8 := cell_of h1 h4
  have hl := lt_of_heap h1
  clear h1 h2 h3 h4
  unfold rAgg
  have HC := hide (fun w => clone_nil w)
  go_enter Try.func39, Try.ntmps39
  go_wp2_with fail
  go_region_with (go_at_call 57; refine (HC.out _).mono ?_; rintro e w2 ⟨rfl, rfl⟩)
  all_goals
    go_wp2
    exact bodyPost_ret (v := .agg #[.int .i64 1, .slice none 0 0]) (by simp [results, Try.results39, go_sem]) rfl ⟨rfl, below_drew (below_alloc (Below.refl _ _) _)⟩
set_option maxRecDepth 100000 in
set_option maxHeartbeats 2000000 in
theorem refReplyB_new (h : Nat) (w : World) (hn : New w h 119 6 (.int .i64 0) 14) : Calls Try.prog 40 #[.pointer (some ⟨h, 0, none⟩)] w fun e w' => e = .returned (rAgg 1) ∧ Below w.heap.size w w' := by
  obtain ⟨cs, h1, h2, h3, h4⟩ := hn
  have c7 := cell_of h1 h3
  have c8 := cell_of h1 h4
  have hl := lt_of_heap h1
  clear h1 h2 h3 h4
  unfold rAgg
  go_enter Try.func40, Try.ntmps40
  go_wp2
  refine wp_loop_rounds 1 ?_
  rw [rounds_succ]
  go_wp2
  exact bodyPost_ret (v := .agg #[.int .i64 1, .slice none 0 0]) (by simp [results, Try.results40, go_sem]) rfl ⟨rfl, below_alloc (below_alloc (Below.refl _ _) _) _⟩
set_option maxRecDepth 100000 in
set_option maxHeartbeats 2000000 in
theorem sameReply38_any (w : World) : Calls Try.prog 38 #[rAgg 1, rAgg 1] w fun e w' => e = .returned (.bool true) ∧ Below w.heap.size w w' := by
  unfold rAgg
  have HS := hide (fun w => sameTasks34_any (.slice none 0 0) (.slice none 0 0) [] w (TAt.nil w) (TAt.nil w))
  go_enter Try.func38, Try.ntmps38
  go_wp2_with (go_at_call 34; refine (HS.out _).mono ?_; rintro e w2 ⟨rfl, hb⟩)
  go_ret
  exact ⟨rfl, below_on (below_alloc (below_alloc (Below.refl _ _) _) _) hb⟩
end Go.Proofs.Ytmnicdankdapgaa
