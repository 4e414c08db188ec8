/- steal's Open, Over, Reply: the program's and the reference's. -/
import Derived.Test.YtmnicdankdapgaaS5
namespace Go.Proofs.Ytmnicdankdapgaa
open Go.RowKit Go.Lib
set_option linter.unusedVariables false
def openS (b W C T who : Int) : Int := if OkS b W C T then (if who < 0 ∨ W ≤ who then 6 else 0) else 60
/-- A new handle of the type ty: what stands in its cells at f (if there is one), st and st + 1. -/
structure New (X : World) (h : Nat) (ty : TypeId) (p : Nat) (pv : Value) (st : Nat) : Prop where
  cs : ∃ cs, X.heap[h]? = some (.cells cs ty (0, 0)) ∧ cs[p]? = some pv ∧ cs[st]? = some (.int .i64 1) ∧ cs[st + 1]? = some (.slice none 0 0)
theorem New.below {X Y : World} {h p st : Nat} {ty : TypeId} {pv : Value} (k : New X h ty p pv st) (hb : Below X.heap.size X Y) : New Y h ty p pv st := by
  obtain ⟨cs, h1, h2⟩ := k
  exact ⟨cs, (hb.block _ (lt_of_heap h1)).trans h1, h2⟩
def OpenPost (w : World) (err : Int) (ty : TypeId) (p : Nat) (pv : Value) (st : Nat) (e : Ending) (w' : World) : Prop :=
  Below w.heap.size w w' ∧ ((err ≠ 0 ∧ e = .returned (.tuple #[.pointer none, .int .i64 err])) ∨ (err = 0 ∧ ∃ h, e = .returned (.tuple #[.pointer (some ⟨h, 0, none⟩), .int .i64 err]) ∧ New w' h ty p pv st))
set_option maxRecDepth 100000 in
set_option maxHeartbeats 2000000 in
theorem stealOpen_any (b W C T who : Int) (w : World) : Calls Try.prog 22 #[sAgg b W C T, .int .i64 who, .pointer none] w (OpenPost w (openS b W C T who) 103 6 .nilFunc 7) := by
  have HC := hide (fun w => sCheck_any b W C T w)
  by_cases h : OkS b W C T
  · rw [if_pos h] at HC
    unfold openS
    rw [if_pos h]
    unfold sAgg at HC ⊢
    clear h
    by_cases hw : who < 0 ∨ W ≤ who
    · rw [if_pos hw]
      go_enter Try.func22, Try.ntmps22
      go_wp2_with (go_at_call 49; refine (HC.out _).mono ?_; rintro e w2 ⟨rfl, hb1⟩; have hm1 := (fm_two w 92 _ b W C T).below hb1; obtain ⟨s0, s1, s2, s3⟩ := hm1.four; have HM1 := hide hm1; clear hb1 hm1)
      all_goals first
        | (exfalso; omega)
        | (go_ret2; exact ⟨HM1.out.bel, .inl ⟨by decide, rfl⟩⟩)
    · rw [if_neg hw]
      go_enter Try.func22, Try.ntmps22
      go_wp2_with (go_at_call 49; refine (HC.out _).mono ?_; rintro e w2 ⟨rfl, hb1⟩; have hm1 := (fm_two w 92 _ b W C T).below hb1; obtain ⟨s0, s1, s2, s3⟩ := hm1.four; have HM1 := hide hm1; clear hb1 hm1)
      all_goals first
        | (exfalso; omega)
        | (go_ret2; exact ⟨below_alloc HM1.out.bel _, .inr ⟨rfl, _, rfl, ⟨_, heap_new _ _, rfl, rfl, rfl⟩⟩⟩)
  · rw [if_neg h] at HC
    unfold openS
    rw [if_neg h]
    unfold sAgg at HC ⊢
    clear h
    go_enter Try.func22, Try.ntmps22
    go_wp2_with (go_at_call 49; refine (HC.out _).mono ?_; rintro e w2 ⟨rfl, hb1⟩; have HM1 := hide ((fm_two w 92 _ b W C T).below hb1); clear hb1)
    go_ret2
    exact ⟨HM1.out.bel, .inl ⟨by decide, rfl⟩⟩
set_option maxRecDepth 100000 in
set_option maxHeartbeats 2000000 in
theorem refOpen_any (b W C T who : Int) (w : World) : Calls Try.prog 23 #[sAgg b W C T, .int .i64 who, .pointer none] w (OpenPost w (openS b W C T who) 106 6 (.int .i64 0) 15) := by
  have HC := hide (fun w => shape_any b W C T w)
  by_cases h : OkS b W C T
  · rw [decide_eq_true h] at HC
    unfold openS
    rw [if_pos h]
    unfold sAgg at HC ⊢
    clear h
    by_cases hw : who < 0 ∨ W ≤ who
    · rw [if_pos hw]
      go_enter Try.func23, Try.ntmps23
      go_wp2_with (go_at_call 51; refine (HC.out _).mono ?_; rintro e w2 ⟨rfl, hb1⟩; have hm1 := (fm_one w 50 b W C T).below hb1; obtain ⟨s0, s1, s2, s3⟩ := hm1.four; have HM1 := hide hm1; clear hb1 hm1)
      all_goals first
        | (exfalso; omega)
        | (go_ret2; exact ⟨HM1.out.bel, .inl ⟨by decide, rfl⟩⟩)
    · rw [if_neg hw]
      go_enter Try.func23, Try.ntmps23
      go_wp2_with (go_at_call 51; refine (HC.out _).mono ?_; rintro e w2 ⟨rfl, hb1⟩; have hm1 := (fm_one w 50 b W C T).below hb1; obtain ⟨s0, s1, s2, s3⟩ := hm1.four; have HM1 := hide hm1; clear hb1 hm1)
      all_goals first
        | (exfalso; omega)
        | (go_ret2; exact ⟨below_alloc HM1.out.bel _, .inr ⟨rfl, _, rfl, ⟨_, heap_new _ _, rfl, rfl, rfl⟩⟩⟩)
  · rw [decide_eq_false h] at HC
    unfold openS
    rw [if_neg h]
    unfold sAgg at HC ⊢
    clear h
    go_enter Try.func23, Try.ntmps23
    go_wp2_with (go_at_call 51; refine (HC.out _).mono ?_; rintro e w2 ⟨rfl, hb1⟩; have HM1 := hide ((fm_one w 50 b W C T).below hb1); clear hb1)
    go_ret2
    exact ⟨HM1.out.bel, .inl ⟨by decide, rfl⟩⟩
theorem eql_nil98 (w : World) : (binOp .eql 98 .nilFunc .nilFunc).run Try.prog w = .ok (.bool true) w := by
  have h : ∀ d : Nat, (Op.equalIn (d + 1) 98 .nilFunc .nilFunc).run Try.prog w = .ok true w := fun d => by
    simp [Op.equalIn, run_underlying Try.underlying98]
  simp only [binOp]
  simp [Op.equal, Op.maxDepth, h 9999]
theorem eql_nil24 (w : World) : (binOp .eql 24 (.slice none 0 0) (.slice none 0 0)).run Try.prog w = .ok (.bool true) w := by
  have h : ∀ d : Nat, (Op.equalIn (d + 1) 24 (.slice none 0 0) (.slice none 0 0)).run Try.prog w = .ok true w := fun d => by
    simp [Op.equalIn, run_underlying Try.underlying24]
  simp only [binOp]
  simp [Op.equal, Op.maxDepth, h 9999]
set_option maxRecDepth 100000 in
theorem stealOver_new (h : Nat) (w : World) (hn : New w h 103 6 .nilFunc 7) : Calls Try.prog 24 #[.pointer (some ⟨h, 0, none⟩)] w fun e w' => e = .returned (.bool true) ∧ w' = w := by
  obtain ⟨cs, h1, h2, h3, h4⟩ := hn
  have c6 := cell_of h1 h2
  clear h1 h2 h3 h4
  have q := eql_nil98
  go_enter Try.func24, Try.ntmps24
  go_wp2
  go_ret
  exact ⟨rfl, rfl⟩
set_option maxRecDepth 100000 in
theorem clone_nil (w : World) : Calls Try.prog 57 #[.slice none 0 0] w fun e w' => e = .returned (.slice none 0 0) ∧ w' = w := by
  have q := eql_nil24
  go_enter Try.func57, Try.ntmps57
  go_wp2
  go_ret
  exact ⟨rfl, rfl⟩
def rAgg (s : Int) : Value := .agg #[.int .i64 s, .slice none 0 0]
set_option maxRecDepth 100000 in
set_option maxHeartbeats 2000000 in
theorem stealReply_new (h : Nat) (w : World) (hn : New w h 103 6 .nilFunc 7) : Calls Try.prog 26 #[.pointer (some ⟨h, 0, none⟩)] w fun e w' => e = .returned (rAgg 1) ∧ Below w.heap.size w w' := by
  obtain ⟨cs, h1, h2, h3, h4⟩ := hn
  have c7 := cell_of h1 h3
  have c8 := cell_of h1 h4
  have hl := lt_of_heap h1
  clear h1 h2 h3 h4
  unfold rAgg
  have HC := hide (fun w => clone_nil w)
  go_enter Try.func26, Try.ntmps26
  go_wp2_with fail
  go_region_with (go_at_call 57; refine (HC.out _).mono ?_; rintro e w2 ⟨rfl, rfl⟩)
  all_goals
    go_wp2
    exact bodyPost_ret (v := .agg #[.int .i64 1, .slice none 0 0]) (by simp [results, Try.results26, go_sem]) rfl ⟨rfl, below_drew (below_alloc (Below.refl _ _) _)⟩
set_option maxRecDepth 100000 in
set_option maxHeartbeats 2000000 in
theorem refReply_new (h : Nat) (w : World) (hn : New w h 106 6 (.int .i64 0) 15) : Calls Try.prog 27 #[.pointer (some ⟨h, 0, none⟩)] w fun e w' => e = .returned (rAgg 1) ∧ Below w.heap.size w w' := by
  obtain ⟨cs, h1, h2, h3, h4⟩ := hn
  have c7 := cell_of h1 h3
  have c8 := cell_of h1 h4
  have hl := lt_of_heap h1
  clear h1 h2 h3 h4
  unfold rAgg
  go_enter Try.func27, Try.ntmps27
  go_wp2
  refine wp_loop_rounds 1 ?_
  rw [rounds_succ]
  go_wp2
  exact bodyPost_ret (v := .agg #[.int .i64 1, .slice none 0 0]) (by simp [results, Try.results27, go_sem]) rfl ⟨rfl, below_alloc (below_alloc (Below.refl _ _) _) _⟩
set_option maxRecDepth 100000 in
set_option maxHeartbeats 2000000 in
theorem sameReply25_any (w : World) : Calls Try.prog 25 #[rAgg 1, rAgg 1] w fun e w' => e = .returned (.bool true) ∧ Below w.heap.size w w' := by
  unfold rAgg
  have HS := hide (fun w => sameTasks21_any (.slice none 0 0) (.slice none 0 0) [] w (TAt.nil w) (TAt.nil w))
  go_enter Try.func25, Try.ntmps25
  go_wp2_with (go_at_call 21; refine (HS.out _).mono ?_; rintro e w2 ⟨rfl, hb⟩)
  go_ret
  exact ⟨rfl, below_on (below_alloc (below_alloc (Below.refl _ _) _) _) hb⟩
end Go.Proofs.Ytmnicdankdapgaa
