/- One step of an operation that was made behind the log's first block. -/
import Derived.Test.YtabmmjhcfhplnaaF2
namespace Go.Proofs.Ytabmmjhcfhplnaa
open Go.RowKit Go.Lib Go.MuLone
set_option linter.unusedVariables false
/-- Ready for a step, the operation's block wherever it lies. -/
structure RdyN (w : World) (Y b gc p : Nat) (lv : Value) (s : Ast) (who : Int) (q n : Nat) (ob : Obj) : Prop where
  ar : AIs w Y b gc lv s
  po : w.heap[p]? = some (PObj b who true)
  pY : Y ≤ p
  pl : lv.ownBlock ≠ some p
  op : w.heap[q]? = some ob
  qp : q ≠ p
  ql : lv.ownBlock ≠ some q
  qb : q ≠ b
  qg : q ≠ gc
  go : s.stopped = false
  at_ : n + 2 < s.cells.length
  c0 : 0 ≤ s.count
  c1 : s.count < 9223372036854775807
  big : (s.log.length + 1) * 64 ≤ 140737488355328
section
variable {w w2 w3 : World} {Y b gc p : Nat} {lv : Value} {s : Ast} {who : Int} {q n i : Nat} {ob ob' : Obj} {m : Acc}
theorem RdyN.ready (h : RdyN w Y b gc p lv s who q n ob) (hi : i ≤ n + 2) : Ready w Y b gc p lv s who i :=
  ⟨h.ar, h.po, by have := h.ar.bY; have := h.pY; omega, by have := h.ar.gY; have := h.pY; omega, h.pl, h.go, by have := h.at_; omega, h.c0, h.c1, h.big⟩
theorem RdyN.madeN (h : RdyN w Y b gc p lv s who q n ob) (hp : AccPost w w2 Y b gc p lv s who i m) : StF w w2 Y b gc p lv q s i m ob := by
  obtain ⟨lv', h1, h2, h3, h4⟩ := hp
  refine ⟨lv', h1, h4.heap h.op (fun hk => ?_), h4.mono fun k hk => .inl hk, h2⟩
  rcases hk with e | e | e | e
  · exact h.qb e
  · exact h.qg e
  · exact h.qp e
  · exact h.ql e
theorem StF.turnN (h : StF w w2 Y b gc p lv q s i m ob) (hb : q ≠ b) (hg : q ≠ gc) (hq : lv.ownBlock ≠ some q ∧ q < w.heap.size) (h1 : w3.heap[q]? = some ob') (h2 : Chg (fun k => k = q) w2 w3) : StF w w3 Y b gc p lv q s i m ob' := by
  obtain ⟨lv', a, _, c, d⟩ := h
  refine ⟨lv', a.kept h2 (fun e => hb e.symm) (fun e => hg e.symm) (fun k hk e => ?_), h1, c.trans (h2.mono fun k hk => .inr hk), d⟩
  subst e
  rcases d with e | ⟨g, e, hg'⟩
  · exact hq.1 (e ▸ hk)
  · rw [hk] at e; cases e; have := hq.2; omega
end
section
variable {w : World} {Y b gc p : Nat} {lv : Value} {s : Ast} {who : Int} {q n : Nat} {code st : Int}
set_option maxRecDepth 100000 in
set_option maxHeartbeats 1000000 in
theorem ph1N (h : RdyN w Y b gc p lv s who q n (QObjV n code (nx 1) st)) :
    Calls Try.prog 66 #[.pointer (some ⟨q, 0, none⟩), .pointer (some ⟨p, 0, none⟩)] w fun e w' => e = .returned (.tuple #[]) ∧ StF w w' Y b gc p lv q s n ⟨who, 4, n, 0, 1, nth s.cells n, IntKind.u64.wrap (nth s.cells n + 1), true⟩ (QObjV n code .nilFunc 1) := by
  have HP := hide (pending_any w q n code st _ h.op)
  have HA := hide (add_made (i := n) 1 (h.ready (by omega)))
  have HS := hide (fun w2 => h.madeN (w2 := w2) (i := n) (m := ⟨who, 4, n, 0, 1, nth s.cells n, IntKind.u64.wrap (nth s.cells n + 1), true⟩))
  have HN := hide (And.intro h.qb (And.intro h.qg (And.intro h.ql (lt_of_heap h.op))))
  clear h
  go_enter Try.func66, Try.ntmps66
  go_wp2_with (first
    | (go_at_call 68; refine HP.out.mono ?_; rintro e w1 ⟨rfl, rfl⟩)
    | (go_at_call 67; refine HA.out.mono ?_; rintro e w2 ⟨rfl, hp⟩; have HT := hide (HS.out w2 hp); clear hp)
    | (go_at_call 69; obtain ⟨lv', _, hq2, _⟩ := id HT.out; refine (end_any w2 q n code st _ 1 hq2).mono ?_; rintro e w3 ⟨rfl, h1, h2⟩; have HE := hide (HT.out.turnN HN.out.1 HN.out.2.1 HN.out.2.2 h1 h2); clear h1 h2)
    | fail)
  first | go_end0 | refine bodyPost_ret (results_none rfl _ _ _) rfl ?_
  exact ⟨rfl, HE.out⟩
set_option maxRecDepth 100000 in
set_option maxHeartbeats 1000000 in
theorem ph2N (h : RdyN w Y b gc p lv s who q n (QObjV n code (nx 2) st)) :
    Calls Try.prog 70 #[.pointer (some ⟨q, 0, none⟩), .pointer (some ⟨p, 0, none⟩)] w fun e w' => e = .returned (.tuple #[]) ∧ StF w w' Y b gc p lv q s n ⟨who, 4, n, 0, 18446744073709551615, nth s.cells n, IntKind.u64.wrap (nth s.cells n + 18446744073709551615), true⟩ (if nth s.cells n = 1 then QObjV n code (nx 5) st else QObjV n code .nilFunc 1) := by
  have hn : n + 2 < 16777216 := by have := h.at_; have := h.ar.len; omega
  have HP := hide (pending_any w q n code st _ h.op)
  have HA := hide (add_made (i := n) 18446744073709551615 (h.ready (by omega)))
  have HS := hide (fun w2 => h.madeN (w2 := w2) (i := n) (m := ⟨who, 4, n, 0, 18446744073709551615, nth s.cells n, IntKind.u64.wrap (nth s.cells n + 18446744073709551615), true⟩))
  have HN := hide (And.intro h.qb (And.intro h.qg (And.intro h.ql (lt_of_heap h.op))))
  clear h hn
  obtain ⟨x, hx⟩ : ∃ x, x = nth s.cells n := ⟨_, rfl⟩
  rw [← hx] at HA HS ⊢
  clear hx
  by_cases h1 : x = 1
  · have hb : (x == 1) = true := by simp [h1]
    rw [if_pos h1]
    clear h1
    go_enter Try.func70, Try.ntmps70
    go_wp2_with (first
      | (go_at_call 68; refine HP.out.mono ?_; rintro e w1 ⟨rfl, rfl⟩)
      | (go_at_call 67; refine HA.out.mono ?_; rintro e w2 ⟨rfl, hp⟩; have HT := hide (HS.out w2 hp); obtain ⟨lv', _, hq2, _⟩ := id HT.out; have c2 := cell_of hq2 (i := 2) rfl; have f2 := free_of hq2 2; have HE := hide (HT.out.turnN (w3 := w2.setCell ⟨q, 2, none⟩ (.func (.func 71) #[] #[])) (ob' := QObjV n code (nx 5) st) HN.out.1 HN.out.2.1 HN.out.2.2 (by rw [heap_set hq2 _]; rfl) (Chg.setCell (S := fun k => k = q) (Chg.refl _ w2) (p := ⟨q, 2, none⟩) rfl _)); clear hp hq2)
      | fail)
    first | go_end0 | refine bodyPost_ret (results_none rfl _ _ _) rfl ?_
    exact ⟨rfl, HE.out⟩
  · have hb : (x == 1) = false := by simp [h1]
    rw [if_neg h1]
    clear h1
    go_enter Try.func70, Try.ntmps70
    go_wp2_with (first
      | (go_at_call 68; refine HP.out.mono ?_; rintro e w1 ⟨rfl, rfl⟩)
      | (go_at_call 67; refine HA.out.mono ?_; rintro e w2 ⟨rfl, hp⟩; have HT := hide (HS.out w2 hp); clear hp)
      | (go_at_call 69; obtain ⟨lv', _, hq2, _⟩ := id HT.out; refine (end_any w2 q n code st _ 1 hq2).mono ?_; rintro e w3 ⟨rfl, h1, h2⟩; have HE := hide (HT.out.turnN HN.out.1 HN.out.2.1 HN.out.2.2 h1 h2); clear h1 h2)
      | fail)
    first | go_end0 | refine bodyPost_ret (results_none rfl _ _ _) rfl ?_
    exact ⟨rfl, HE.out⟩
set_option maxRecDepth 100000 in
set_option maxHeartbeats 1000000 in
theorem ph5N (h : RdyN w Y b gc p lv s who q n (QObjV n code (nx 5) st)) :
    Calls Try.prog 71 #[.pointer (some ⟨q, 0, none⟩), .pointer (some ⟨p, 0, none⟩)] w fun e w' => e = .returned (.tuple #[]) ∧ StF w w' Y b gc p lv q s (n + 1) ⟨who, 2, ((n + 1 : Nat) : Int), 0, 1, nth s.cells (n + 1), 1, true⟩ (QObjV n code .nilFunc 1) := by
  have hn : n + 2 < 16777216 := by have := h.at_; have := h.ar.len; omega
  have hcl := done_any w q (n : Int) code st _ h.op ⟨by omega, by omega⟩
  have HP : Hid (Calls Try.prog 87 #[.pointer (some ⟨q, 0, none⟩)] w fun e w' => e = .returned (.int .i64 ((n + 1 : Nat) : Int)) ∧ w' = w) := hcl
  clear hcl
  have HA := hide (store_made (i := (n + 1)) 1 (h.ready (by omega)))
  have HS := hide (fun w2 => h.madeN (w2 := w2) (i := (n + 1)) (m := ⟨who, 2, ((n + 1 : Nat) : Int), 0, 1, nth s.cells (n + 1), 1, true⟩))
  have HN := hide (And.intro h.qb (And.intro h.qg (And.intro h.ql (lt_of_heap h.op))))
  clear h hn
  obtain ⟨x, hx⟩ : ∃ x, x = nth s.cells (n + 1) := ⟨_, rfl⟩
  rw [← hx] at HA HS ⊢
  clear hx
  obtain ⟨i, hi⟩ : ∃ i, i = n + 1 := ⟨_, rfl⟩
  rw [← hi] at HA HS HP ⊢
  clear hi
  go_enter Try.func71, Try.ntmps71
  go_wp2_with (first
    | (go_at_call 87; refine HP.out.mono ?_; rintro e w1 ⟨rfl, rfl⟩)
    | (go_at_call 86; refine HA.out.mono ?_; rintro e w2 ⟨rfl, hp⟩; have HT := hide (HS.out w2 hp); clear hp)
    | (go_at_call 69; obtain ⟨lv', _, hq2, _⟩ := id HT.out; refine (end_any w2 q n code st _ 1 hq2).mono ?_; rintro e w3 ⟨rfl, h1, h2⟩; have HE := hide (HT.out.turnN HN.out.1 HN.out.2.1 HN.out.2.2 h1 h2); clear h1 h2)
    | fail)
  first | go_end0 | refine bodyPost_ret (results_none rfl _ _ _) rfl ?_
  exact ⟨rfl, HE.out⟩
/-- Raise, or either access of a Lower. -/
theorem step_N (o : QOp) (ho : o.base = n) (hp : o.ph = 1 ∨ o.ph = 2 ∨ o.ph = 5) (h : RdyN w Y b gc p lv s who q n o.obj) :
    Calls Try.prog 11 #[.pointer (some ⟨q, 0, none⟩), .pointer (some ⟨p, 0, none⟩)] w fun e w' => e = .returned (.tuple #[]) ∧ StF w w' Y b gc p lv q s (o.cell n) (o.acc who n (nth s.cells (o.cell n))) (o.next (nth s.cells (o.cell n))).obj := by
  obtain ⟨bs, c, ph, st⟩ := o
  simp only at ho hp
  subst ho
  rcases hp with rfl | rfl | rfl
  · exact step_1 _ (fun _ w' => StF w w' Y b gc p lv q s n _ _) h.op (ph1N h)
  · refine step_2 _ (fun _ w' => StF w w' Y b gc p lv q s n _ _) h.op ((ph2N h).mono fun e w' hh => ⟨hh.1, ?_⟩)
    have := hh.2
    show StF w w' Y b gc p lv q s n _ (QOp.next ⟨n, c, 2, st⟩ (nth s.cells n)).obj
    unfold QOp.next
    simp only
    split
    · rename_i e; rw [if_pos e] at this; exact this
    · rename_i e; rw [if_neg e] at this; exact this
  · exact step_5 _ (fun _ w' => StF w w' Y b gc p lv q s (n + 1) _ _) h.op (ph5N h)
end
end Go.Proofs.Ytabmmjhcfhplnaa
