/- One step of an operation, with just the blocks that it turns. -/
import Derived.Test.YtabmmjhcfhplnaaQ3
namespace Go.Proofs.Ytabmmjhcfhplnaa
open Go.RowKit Go.Lib Go.MuLone
set_option linter.unusedVariables false
/-- What a step has made: the arena's two blocks, the port's, the log's, the operation's have turned. -/
def StF (w w' : World) (Y b gc p : Nat) (lv : Value) (q : Nat) (s : Ast) (i : Nat) (m : Acc) (ob : Obj) : Prop :=
  ∃ lv', AIs w' Y b gc lv' (s.made i m) ∧ w'.heap[q]? = some ob ∧ Chg (fun k => accSet b gc p lv k ∨ k = q) w w' ∧ (lv'.ownBlock = lv.ownBlock ∨ ∃ g, lv'.ownBlock = some g ∧ w.heap.size ≤ g)
section
variable {w w2 w3 : World} {Y b gc p : Nat} {lv : Value} {s : Ast} {who : Int} {q n i : Nat} {ob ob' : Obj} {m : Acc}
theorem Rdy.madeF (h : Rdy w Y b gc p lv s who q n ob) (hp : AccPost w w2 Y b gc p lv s who i m) : StF w w2 Y b gc p lv q s i m ob := by
  obtain ⟨lv', h1, h2, h3, h4⟩ := hp
  refine ⟨lv', h1, h4.heap h.op (fun hk => ?_), h4.mono fun k hk => .inl hk, h2⟩
  rcases hk with e | e | e | e
  · exact h.qb e
  · exact h.qg e
  · have := h.pY; have := h.qY; omega
  · have := (owns_lt h.ar.hl e).1; have := h.qY; omega
theorem StF.turn (h : StF w w2 Y b gc p lv q s i m ob) (hb : q ≠ b) (hg : q ≠ gc) (hq : q < Y) (h1 : w3.heap[q]? = some ob') (h2 : Chg (fun k => k = q) w2 w3) : StF w w3 Y b gc p lv q s i m ob' := by
  obtain ⟨lv', a, _, c, d⟩ := h
  exact ⟨lv', a.kept h2 (fun e => hb e.symm) (fun e => hg e.symm) (fun k hk e => by have := (owns_lt a.hl hk).1; omega), h1, c.trans (h2.mono fun k hk => .inr hk), d⟩
theorem StF.undrew {w' : World} (h : StF w.drew w' Y b gc p lv q s i m ob) : StF w w' Y b gc p lv q s i m ob := by
  obtain ⟨lv', h1, h2, h3, h4⟩ := h
  exact ⟨lv', h1, h2, ((Chg.refl _ w).drew).trans h3, h4⟩
end
section
variable {w : World} {Y b gc p : Nat} {lv : Value} {s : Ast} {who : Int} {q n : Nat} {code st : Int}
set_option maxRecDepth 100000 in
set_option maxHeartbeats 1000000 in
theorem ph1F (h : Rdy w Y b gc p lv s who q n (QObjV n code (nx 1) st)) :
    Calls Try.prog 66 #[.pointer (some ⟨q, 0, none⟩), .pointer (some ⟨p, 0, none⟩)] w fun e w' => e = .returned (.tuple #[]) ∧ StF w w' Y b gc p lv q s n ⟨who, 4, n, 0, 1, nth s.cells n, IntKind.u64.wrap (nth s.cells n + 1), true⟩ (QObjV n code .nilFunc 1) := by
  have HP := hide (pending_any w q n code st _ h.op)
  have HA := hide (add_made (i := n) 1 (h.ready (by omega)))
  have HS := hide (fun w2 => h.madeF (w2 := w2) (i := n) (m := ⟨who, 4, n, 0, 1, nth s.cells n, IntKind.u64.wrap (nth s.cells n + 1), true⟩))
  have HN := hide (And.intro h.qb (And.intro h.qg h.qY))
  clear h
  go_enter Try.func66, Try.ntmps66
  go_wp2_with (first
    | (go_at_call 68; refine HP.out.mono ?_; rintro e w1 ⟨rfl, rfl⟩)
    | (go_at_call 67; refine HA.out.mono ?_; rintro e w2 ⟨rfl, hp⟩; have HT := hide (HS.out w2 hp); clear hp)
    | (go_at_call 69; obtain ⟨lv', _, hq2, _⟩ := id HT.out; refine (end_any w2 q n code st _ 1 hq2).mono ?_; rintro e w3 ⟨rfl, h1, h2⟩; have HE := hide (HT.out.turn HN.out.1 HN.out.2.1 HN.out.2.2 h1 h2); clear h1 h2)
    | fail)
  first | go_end0 | refine bodyPost_ret (results_none rfl _ _ _) rfl ?_
  exact ⟨rfl, HE.out⟩
set_option maxRecDepth 100000 in
set_option maxHeartbeats 1000000 in
theorem ph2F (h : Rdy w Y b gc p lv s who q n (QObjV n code (nx 2) st)) :
    Calls Try.prog 70 #[.pointer (some ⟨q, 0, none⟩), .pointer (some ⟨p, 0, none⟩)] w fun e w' => e = .returned (.tuple #[]) ∧ StF w w' Y b gc p lv q s n ⟨who, 4, n, 0, 18446744073709551615, nth s.cells n, IntKind.u64.wrap (nth s.cells n + 18446744073709551615), true⟩ (if nth s.cells n = 1 then QObjV n code (nx 5) st else QObjV n code .nilFunc 1) := by
  have hn : n + 2 < 16777216 := by have := h.at_; have := h.ar.len; omega
  have HP := hide (pending_any w q n code st _ h.op)
  have HA := hide (add_made (i := n) 18446744073709551615 (h.ready (by omega)))
  have HS := hide (fun w2 => h.madeF (w2 := w2) (i := n) (m := ⟨who, 4, n, 0, 18446744073709551615, nth s.cells n, IntKind.u64.wrap (nth s.cells n + 18446744073709551615), true⟩))
  have HN := hide (And.intro h.qb (And.intro h.qg h.qY))
  clear h hn
  obtain ⟨x, hx⟩ : ∃ x, x = nth s.cells n := ⟨_, rfl⟩
  rw [← hx] at HA HS ⊢
  clear hx
  by_cases h1 : x = 1
  · have hb : (x == 1) = true := by simp [h1]
    rw [if_pos h1]
    clear h1
    go_enter Try.func70, Try.ntmps70
    go_wp2_with (first
      | (go_at_call 68; refine HP.out.mono ?_; rintro e w1 ⟨rfl, rfl⟩)
      | (go_at_call 67; refine HA.out.mono ?_; rintro e w2 ⟨rfl, hp⟩; have HT := hide (HS.out w2 hp); obtain ⟨lv', _, hq2, _⟩ := id HT.out; have c2 := cell_of hq2 (i := 2) rfl; have f2 := free_of hq2 2; have HE := hide (HT.out.turn (w3 := w2.setCell ⟨q, 2, none⟩ (.func (.func 71) #[] #[])) (ob' := QObjV n code (nx 5) st) HN.out.1 HN.out.2.1 HN.out.2.2 (by rw [heap_set hq2 _]; rfl) (Chg.setCell (S := fun k => k = q) (Chg.refl _ w2) (p := ⟨q, 2, none⟩) rfl _)); clear hp hq2)
      | fail)
    first | go_end0 | refine bodyPost_ret (results_none rfl _ _ _) rfl ?_
    exact ⟨rfl, HE.out⟩
  · have hb : (x == 1) = false := by simp [h1]
    rw [if_neg h1]
    clear h1
    go_enter Try.func70, Try.ntmps70
    go_wp2_with (first
      | (go_at_call 68; refine HP.out.mono ?_; rintro e w1 ⟨rfl, rfl⟩)
      | (go_at_call 67; refine HA.out.mono ?_; rintro e w2 ⟨rfl, hp⟩; have HT := hide (HS.out w2 hp); clear hp)
      | (go_at_call 69; obtain ⟨lv', _, hq2, _⟩ := id HT.out; refine (end_any w2 q n code st _ 1 hq2).mono ?_; rintro e w3 ⟨rfl, h1, h2⟩; have HE := hide (HT.out.turn HN.out.1 HN.out.2.1 HN.out.2.2 h1 h2); clear h1 h2)
      | fail)
    first | go_end0 | refine bodyPost_ret (results_none rfl _ _ _) rfl ?_
    exact ⟨rfl, HE.out⟩
set_option maxRecDepth 100000 in
set_option maxHeartbeats 1000000 in
theorem ph3F (h : Rdy w Y b gc p lv s who q n (QObjV n code (nx 3) st)) :
    Calls Try.prog 72 #[.pointer (some ⟨q, 0, none⟩), .pointer (some ⟨p, 0, none⟩)] w fun e w' => e = .returned (.tuple #[]) ∧ StF w w' Y b gc p lv q s (n + 2) ⟨who, 1, ((n + 2 : Nat) : Int), 0, 0, nth s.cells (n + 2), nth s.cells (n + 2), true⟩ (if nth s.cells (n + 2) = 0 then QObjV n code (nx 6) st else QObjV n code .nilFunc 6) := by
  have hn : n + 2 < 16777216 := by have := h.at_; have := h.ar.len; omega
  have hcl := faultCell_any w q (n : Int) code st _ h.op ⟨by omega, by omega⟩
  have HP : Hid (Calls Try.prog 74 #[.pointer (some ⟨q, 0, none⟩)] w fun e w' => e = .returned (.int .i64 ((n + 2 : Nat) : Int)) ∧ w' = w) := hcl
  clear hcl
  have HA := hide (load_made (i := (n + 2))  (h.ready (by omega)))
  have HS := hide (fun w2 => h.madeF (w2 := w2) (i := (n + 2)) (m := ⟨who, 1, ((n + 2 : Nat) : Int), 0, 0, nth s.cells (n + 2), nth s.cells (n + 2), true⟩))
  have HN := hide (And.intro h.qb (And.intro h.qg h.qY))
  clear h hn
  obtain ⟨x, hx⟩ : ∃ x, x = nth s.cells (n + 2) := ⟨_, rfl⟩
  rw [← hx] at HA HS ⊢
  clear hx
  obtain ⟨i, hi⟩ : ∃ i, i = n + 2 := ⟨_, rfl⟩
  rw [← hi] at HA HS HP ⊢
  clear hi
  by_cases h1 : x = 0
  · have hb : (x != 0) = false := by simp [h1]
    rw [if_pos h1]
    clear h1
    go_enter Try.func72, Try.ntmps72
    go_wp2_with (first
      | (go_at_call 74; refine HP.out.mono ?_; rintro e w1 ⟨rfl, rfl⟩)
      | (go_at_call 73; refine HA.out.mono ?_; rintro e w2 ⟨rfl, hp⟩; have HT := hide (HS.out w2 hp); obtain ⟨lv', _, hq2, _⟩ := id HT.out; have c2 := cell_of hq2 (i := 2) rfl; have f2 := free_of hq2 2; have HE := hide (HT.out.turn (w3 := w2.setCell ⟨q, 2, none⟩ (.func (.func 75) #[] #[])) (ob' := QObjV n code (nx 6) st) HN.out.1 HN.out.2.1 HN.out.2.2 (by rw [heap_set hq2 _]; rfl) (Chg.setCell (S := fun k => k = q) (Chg.refl _ w2) (p := ⟨q, 2, none⟩) rfl _)); clear hp hq2)
      | fail)
    first | go_end0 | refine bodyPost_ret (results_none rfl _ _ _) rfl ?_
    exact ⟨rfl, HE.out⟩
  · have hb : (x != 0) = true := by simp [h1]
    rw [if_neg h1]
    clear h1
    go_enter Try.func72, Try.ntmps72
    go_wp2_with (first
      | (go_at_call 74; refine HP.out.mono ?_; rintro e w1 ⟨rfl, rfl⟩)
      | (go_at_call 73; refine HA.out.mono ?_; rintro e w2 ⟨rfl, hp⟩; have HT := hide (HS.out w2 hp); clear hp)
      | (go_at_call 69; obtain ⟨lv', _, hq2, _⟩ := id HT.out; refine (end_any w2 q n code st _ 6 hq2).mono ?_; rintro e w3 ⟨rfl, h1, h2⟩; have HE := hide (HT.out.turn HN.out.1 HN.out.2.1 HN.out.2.2 h1 h2); clear h1 h2)
      | fail)
    first | go_end0 | refine bodyPost_ret (results_none rfl _ _ _) rfl ?_
    exact ⟨rfl, HE.out⟩
set_option maxRecDepth 100000 in
set_option maxHeartbeats 1000000 in
theorem ph5F (h : Rdy w Y b gc p lv s who q n (QObjV n code (nx 5) st)) :
    Calls Try.prog 71 #[.pointer (some ⟨q, 0, none⟩), .pointer (some ⟨p, 0, none⟩)] w fun e w' => e = .returned (.tuple #[]) ∧ StF w w' Y b gc p lv q s (n + 1) ⟨who, 2, ((n + 1 : Nat) : Int), 0, 1, nth s.cells (n + 1), 1, true⟩ (QObjV n code .nilFunc 1) := by
  have hn : n + 2 < 16777216 := by have := h.at_; have := h.ar.len; omega
  have hcl := done_any w q (n : Int) code st _ h.op ⟨by omega, by omega⟩
  have HP : Hid (Calls Try.prog 87 #[.pointer (some ⟨q, 0, none⟩)] w fun e w' => e = .returned (.int .i64 ((n + 1 : Nat) : Int)) ∧ w' = w) := hcl
  clear hcl
  have HA := hide (store_made (i := (n + 1)) 1 (h.ready (by omega)))
  have HS := hide (fun w2 => h.madeF (w2 := w2) (i := (n + 1)) (m := ⟨who, 2, ((n + 1 : Nat) : Int), 0, 1, nth s.cells (n + 1), 1, true⟩))
  have HN := hide (And.intro h.qb (And.intro h.qg h.qY))
  clear h hn
  obtain ⟨x, hx⟩ : ∃ x, x = nth s.cells (n + 1) := ⟨_, rfl⟩
  rw [← hx] at HA HS ⊢
  clear hx
  obtain ⟨i, hi⟩ : ∃ i, i = n + 1 := ⟨_, rfl⟩
  rw [← hi] at HA HS HP ⊢
  clear hi
  go_enter Try.func71, Try.ntmps71
  go_wp2_with (first
    | (go_at_call 87; refine HP.out.mono ?_; rintro e w1 ⟨rfl, rfl⟩)
    | (go_at_call 86; refine HA.out.mono ?_; rintro e w2 ⟨rfl, hp⟩; have HT := hide (HS.out w2 hp); clear hp)
    | (go_at_call 69; obtain ⟨lv', _, hq2, _⟩ := id HT.out; refine (end_any w2 q n code st _ 1 hq2).mono ?_; rintro e w3 ⟨rfl, h1, h2⟩; have HE := hide (HT.out.turn HN.out.1 HN.out.2.1 HN.out.2.2 h1 h2); clear h1 h2)
    | fail)
  first | go_end0 | refine bodyPost_ret (results_none rfl _ _ _) rfl ?_
  exact ⟨rfl, HE.out⟩
set_option maxRecDepth 100000 in
set_option maxHeartbeats 1000000 in
theorem ph6F (h : Rdy w Y b gc p lv s who q n (QObjV n code (nx 6) st)) :
    Calls Try.prog 75 #[.pointer (some ⟨q, 0, none⟩), .pointer (some ⟨p, 0, none⟩)] w fun e w' => e = .returned (.tuple #[]) ∧ StF w w' Y b gc p lv q s (n + 1) ⟨who, 1, ((n + 1 : Nat) : Int), 0, 0, nth s.cells (n + 1), nth s.cells (n + 1), true⟩ (QObjV n code .nilFunc (if nth s.cells (n + 1) = 0 then 7 else 1)) := by
  have hn : n + 2 < 16777216 := by have := h.at_; have := h.ar.len; omega
  have hcl := done_any w q (n : Int) code st _ h.op ⟨by omega, by omega⟩
  have HP : Hid (Calls Try.prog 87 #[.pointer (some ⟨q, 0, none⟩)] w fun e w' => e = .returned (.int .i64 ((n + 1 : Nat) : Int)) ∧ w' = w) := hcl
  clear hcl
  have HA := hide (load_made (i := (n + 1))  (h.ready (by omega)))
  have HS := hide (fun w2 => h.madeF (w2 := w2) (i := (n + 1)) (m := ⟨who, 1, ((n + 1 : Nat) : Int), 0, 0, nth s.cells (n + 1), nth s.cells (n + 1), true⟩))
  have HN := hide (And.intro h.qb (And.intro h.qg h.qY))
  clear h hn
  obtain ⟨x, hx⟩ : ∃ x, x = nth s.cells (n + 1) := ⟨_, rfl⟩
  rw [← hx] at HA HS ⊢
  clear hx
  obtain ⟨i, hi⟩ : ∃ i, i = n + 1 := ⟨_, rfl⟩
  rw [← hi] at HA HS HP ⊢
  clear hi
  by_cases h1 : x = 0
  · have hb : (x != 0) = false := by simp [h1]
    rw [if_pos h1]
    clear h1
    go_enter Try.func75, Try.ntmps75
    go_wp2_with (first
      | (go_at_call 87; refine HP.out.mono ?_; rintro e w1 ⟨rfl, rfl⟩)
      | (go_at_call 73; refine HA.out.mono ?_; rintro e w2 ⟨rfl, hp⟩; have HT := hide (HS.out w2 hp); clear hp)
      | (go_at_call 69; obtain ⟨lv', _, hq2, _⟩ := id HT.out; refine (end_any w2 q n code st _ 7 hq2).mono ?_; rintro e w3 ⟨rfl, h1, h2⟩; have HE := hide (HT.out.turn HN.out.1 HN.out.2.1 HN.out.2.2 h1 h2); clear h1 h2)
      | fail)
    first | go_end0 | refine bodyPost_ret (results_none rfl _ _ _) rfl ?_
    exact ⟨rfl, HE.out⟩
  · have hb : (x != 0) = true := by simp [h1]
    rw [if_neg h1]
    clear h1
    go_enter Try.func75, Try.ntmps75
    go_wp2_with (first
      | (go_at_call 87; refine HP.out.mono ?_; rintro e w1 ⟨rfl, rfl⟩)
      | (go_at_call 73; refine HA.out.mono ?_; rintro e w2 ⟨rfl, hp⟩; have HT := hide (HS.out w2 hp); clear hp)
      | (go_at_call 69; obtain ⟨lv', _, hq2, _⟩ := id HT.out; refine (end_any w2 q n code st _ 1 hq2).mono ?_; rintro e w3 ⟨rfl, h1, h2⟩; have HE := hide (HT.out.turn HN.out.1 HN.out.2.1 HN.out.2.2 h1 h2); clear h1 h2)
      | fail)
    first | go_end0 | refine bodyPost_ret (results_none rfl _ _ _) rfl ?_
    exact ⟨rfl, HE.out⟩
set_option maxRecDepth 100000 in
set_option maxHeartbeats 1000000 in
theorem ph4F (h0 : Rdy w Y b gc p lv s who q n (QObjV n code (nx 4) st)) :
    Calls Try.prog 76 #[.pointer (some ⟨q, 0, none⟩), .pointer (some ⟨p, 0, none⟩)] w fun e w' => e = .returned (.tuple #[]) ∧ StF w w' Y b gc p lv q s (n + 2) ⟨who, 3, ((n + 2 : Nat) : Int), 0, code, nth s.cells (n + 2), if nth s.cells (n + 2) = 0 then code else nth s.cells (n + 2), decide (nth s.cells (n + 2) = 0)⟩ (QObjV n code .nilFunc 1) := by
  have h := h0.drew
  have hn : n + 2 < 16777216 := by have := h.at_; have := h.ar.len; omega
  have c1 := cell_of h0.op (i := 1) rfl
  have hcl := faultCell_any w.drew q (n : Int) code st _ h.op ⟨by omega, by omega⟩
  have HP : Hid (Calls Try.prog 74 #[.pointer (some ⟨q, 0, none⟩)] w.drew fun e w' => e = .returned (.int .i64 ((n + 2 : Nat) : Int)) ∧ w' = w.drew) := hcl
  clear hcl
  have HA := hide (cas_made (i := n + 2) 0 code (h.ready (by omega)))
  have HS := hide (fun w2 => h.madeF (w2 := w2) (i := n + 2) (m := ⟨who, 3, ((n + 2 : Nat) : Int), 0, code, nth s.cells (n + 2), if nth s.cells (n + 2) = 0 then code else nth s.cells (n + 2), decide (nth s.cells (n + 2) = 0)⟩))
  have HN := hide (And.intro h.qb (And.intro h.qg h.qY))
  clear h h0 hn
  obtain ⟨x, hx⟩ : ∃ x, x = nth s.cells (n + 2) := ⟨_, rfl⟩
  rw [← hx] at HA HS ⊢
  clear hx
  obtain ⟨L, hL⟩ : ∃ L, L = (if x = 0 then code else x) := ⟨_, rfl⟩
  obtain ⟨O, hO⟩ : ∃ O, O = decide (x = 0) := ⟨_, rfl⟩
  rw [← hL, ← hO] at HA HS ⊢
  clear hL hO
  obtain ⟨i, hi⟩ : ∃ i, i = n + 2 := ⟨_, rfl⟩
  rw [← hi] at HA HS HP ⊢
  clear hi
  go_enter Try.func76, Try.ntmps76
  go_wp2_with fail
  go_region_with (first
    | (go_at_call 74; refine HP.out.mono ?_; rintro e w1 ⟨rfl, rfl⟩)
    | (go_at_call 77; refine HA.out.mono ?_; rintro e w2 ⟨rfl, hp⟩; have HT := hide (HS.out w2 hp); clear hp))
  all_goals
    go_wp2_with (first
      | (go_at_call 69; obtain ⟨lv', _, hq2, _⟩ := id HT.out; refine (end_any w2 q n code st _ 1 hq2).mono ?_; rintro e w3 ⟨rfl, h1, h2⟩; have HE := hide (HT.out.turn HN.out.1 HN.out.2.1 HN.out.2.2 h1 h2); clear h1 h2)
      | fail)
    first | go_end0 | refine bodyPost_ret (results_none rfl _ _ _) rfl ?_
    exact ⟨rfl, HE.out.undrew⟩
theorem step_F (o : QOp) (ho : o.base = n) (hp : 1 ≤ o.ph) (hp6 : o.ph ≤ 6) (h : Rdy w Y b gc p lv s who q n o.obj) :
    Calls Try.prog 11 #[.pointer (some ⟨q, 0, none⟩), .pointer (some ⟨p, 0, none⟩)] w fun e w' => e = .returned (.tuple #[]) ∧ StF w w' Y b gc p lv q s (o.cell n) (o.acc who n (nth s.cells (o.cell n))) (o.next (nth s.cells (o.cell n))).obj := by
  obtain ⟨bs, c, ph, st⟩ := o
  simp only at ho hp hp6
  subst ho
  match ph, hp, hp6, h with
  | 1, _, _, h => exact step_1 _ (fun _ w' => StF w w' Y b gc p lv q s n _ _) h.op (ph1F h)
  | 2, _, _, h =>
    refine step_2 _ (fun _ w' => StF w w' Y b gc p lv q s n _ _) h.op ((ph2F h).mono fun e w' hh => ⟨hh.1, ?_⟩)
    have := hh.2
    show StF w w' Y b gc p lv q s n _ (QOp.next ⟨n, c, 2, st⟩ (nth s.cells n)).obj
    unfold QOp.next
    simp only
    split
    · rename_i e; rw [if_pos e] at this; exact this
    · rename_i e; rw [if_neg e] at this; exact this
  | 3, _, _, h =>
    refine step_3 _ (fun _ w' => StF w w' Y b gc p lv q s (n + 2) _ _) h.op ((ph3F h).mono fun e w' hh => ⟨hh.1, ?_⟩)
    have := hh.2
    show StF w w' Y b gc p lv q s (n + 2) _ (QOp.next ⟨n, c, 3, st⟩ (nth s.cells (n + 2))).obj
    unfold QOp.next
    simp only
    split
    · rename_i e; rw [if_pos e] at this; exact this
    · rename_i e; rw [if_neg e] at this; exact this
  | 4, _, _, h => exact step_4 _ (fun _ w' => StF w w' Y b gc p lv q s (n + 2) _ _) h.op (ph4F h)
  | 5, _, _, h => exact step_5 _ (fun _ w' => StF w w' Y b gc p lv q s (n + 1) _ _) h.op (ph5F h)
  | 6, _, _, h => exact step_6 _ (fun _ w' => StF w w' Y b gc p lv q s (n + 1) _ _) h.op (ph6F h)
end
end Go.Proofs.Ytabmmjhcfhplnaa
