/- The document's operations: one step. -/
import Derived.Test.YtabmmjhcfhplnaaQ6
import Derived.Test.YtabmmjhcfhplnaaRefAccess
namespace Go.Proofs.Ytabmmjhcfhplnaa
open Go.RowKit Go.Lib Go.MuLone
set_option linter.unusedVariables false
def RfObj (k : Int) (base code m st : Int) : Obj := .cells #[.int .i64 k, .int .i64 base, .int .u64 code, .int .i64 m, .int .i64 st] 103 (0, 0)
section
variable {w : World} {q : Nat} {k base code m st : Int}
set_option maxRecDepth 100000 in
theorem rOver_any (h : w.heap[q]? = some (RfObj k base code m st)) : Calls Try.prog 22 #[.pointer (some ⟨q, 0, none⟩)] w fun e w' => e = .returned (.bool (st != 0)) ∧ w' = w := by
  have c4 := cell_of h (i := 4) rfl
  clear h
  go_enter Try.func22, Try.ntmps22
  go_wp2
  go_ret
  exact ⟨rfl, rfl⟩
theorem Try.results23 : Try.f23.results = #[.cell 2 71] := by kernel_rfl
set_option maxRecDepth 100000 in
theorem rReply_any (h : w.heap[q]? = some (RfObj k base code m st)) : Calls Try.prog 23 #[.pointer (some ⟨q, 0, none⟩)] w fun e w' => e = .returned (.agg #[.int .i64 st, .slice none 0 0]) ∧ Below w.heap.size w w' := by
  have c3 : (w.alloc (.cells #[.int .i64 0, .slice none 0 0] 71)).cell? ⟨q, 4, none⟩ = some (.int .i64 st) := cell_of (heap_old h _) (i := 4) rfl
  have hq := lt_of_heap h
  clear h
  go_enter Try.func23, Try.ntmps23
  go_wp2
  have hh := heap_new w (.cells #[.int .i64 st, .slice none 0 0] 71)
  exact bodyPost_ret (results_cell_row Try.results23 _ _ w.heap.size 71 _ (0, 0) _ rfl hh Try.underlying71 rfl (by kernel_rfl)) rfl ⟨rfl, below_alloc (Below.refl _ _) _⟩
end
/-- Ready for a step of the document's. -/
structure RRdy (w : World) (Y b gc : Nat) (lv : Value) (s : Ast) (q n : Nat) (ob : Obj) : Prop where
  ar : RIs w Y b gc lv s
  op : w.heap[q]? = some ob
  qY : q < Y
  qb : q ≠ b
  qg : q ≠ gc
  go : s.stopped = false
  at_ : n + 2 < s.cells.length
  c0 : 0 ≤ s.count
  c1 : s.count < 9223372036854775807
  big : (s.log.length + 1) * 64 ≤ 140737488355328
def RSP (w w' : World) (Y b gc q : Nat) (s : Ast) (i : Nat) (m : Acc) (ob : Obj) : Prop :=
  ∃ lv', RIs w' Y b gc lv' (s.made i m) ∧ w'.heap[q]? = some ob ∧ Chg (SQ b gc q Y) w w'
section
variable {w w2 w3 : World} {Y b gc : Nat} {lv : Value} {s : Ast} {q n i : Nat} {ob ob' : Obj} {m : Acc} {k base code m0 st : Int}
theorem RRdy.mid (h : RRdy w Y b gc lv s q n (RfObj k base code m0 st)) (x : Int) : RRdy (w.setCell ⟨q, 3, none⟩ (.int .i64 x)) Y b gc lv s q n (RfObj k base code x st) ∧ Chg (SQ b gc q Y) w (w.setCell ⟨q, 3, none⟩ (.int .i64 x)) := by
  have hc : Chg (fun j => j = q) w (w.setCell ⟨q, 3, none⟩ (.int .i64 x)) := Chg.setCell (S := fun j => j = q) (Chg.refl _ w) (p := ⟨q, 3, none⟩) rfl _
  exact ⟨⟨h.ar.kept hc (fun e => h.qb e.symm) (fun e => h.qg e.symm) (fun j hj e => by have := (owns_lt h.ar.hl hj).1; have := h.qY; omega), by rw [heap_set h.op _]; rfl, h.qY, h.qb, h.qg, h.go, h.at_, h.c0, h.c1, h.big⟩, hc.mono fun j e => .inr (.inr (.inl e))⟩
theorem RRdy.ready (h : RRdy w Y b gc lv s q n ob) (hi : i ≤ n + 2) : RReady w Y b gc lv s i := ⟨h.ar, h.go, by have := h.at_; omega, h.c0, h.c1, h.big⟩
theorem RRdy.made (h : RRdy w Y b gc lv s q n ob) (hp : RPost w w2 Y b gc lv s i m) : RSP w w2 Y b gc q s i m ob := by
  obtain ⟨lv', h1, h2, h4⟩ := hp
  refine ⟨lv', h1, h4.heap h.op (fun hk => ?_), h4.mono fun j hj => ?_⟩
  · rcases hk with e | e | e
    · exact h.qb e
    · exact h.qg e
    · have := (owns_lt h.ar.hl e).1; have := h.qY; omega
  · rcases hj with e | e | e
    · exact .inl e
    · exact .inr (.inl e)
    · have := (owns_lt h.ar.hl e).1; exact .inr (.inr (.inr (by omega)))
theorem RSP.front {w1 : World} (hc : Chg (SQ b gc q Y) w w1) (h : RSP w1 w2 Y b gc q s i m ob) : RSP w w2 Y b gc q s i m ob := by
  obtain ⟨lv', h1, h2, h3⟩ := h
  exact ⟨lv', h1, h2, hc.trans h3⟩
theorem RSP.turn (h : RSP w w2 Y b gc q s i m ob) (hb : q ≠ b) (hg : q ≠ gc) (hq : q < Y) (h1 : w3.heap[q]? = some ob') (h2 : Chg (fun k => k = q) w2 w3) : RSP w w3 Y b gc q s i m ob' := by
  obtain ⟨lv', a, _, c⟩ := h
  exact ⟨lv', a.kept h2 (fun e => hb e.symm) (fun e => hg e.symm) (fun k hk e => by have := (owns_lt a.hl hk).1; omega), h1, c.trans (h2.mono fun k hk => .inr (.inr (.inl hk)))⟩
end
section
variable {w : World} {Y b gc : Nat} {lv : Value} {s : Ast} {q n : Nat} {code : Int} {who : Int}
set_option maxRecDepth 100000 in
set_option maxHeartbeats 1000000 in
theorem rstep_1 (h : RRdy w Y b gc lv s q n (RfObj 1 n code 0 0)) :
    Calls Try.prog 20 #[.pointer (some ⟨q, 0, none⟩), .pointer (some ⟨b, 0, none⟩), .int .i64 who] w fun e w' => e = .returned (.tuple #[]) ∧ RSP w w' Y b gc q s n ⟨who, 4, n, 0, 1, nth s.cells n, IntKind.u64.wrap (nth s.cells n + 1), true⟩ (RfObj 1 n code 1 1) := by
  have hn : n + 2 < 16777216 := by have := h.at_; have := h.ar.len; omega
  have hni : (n : Int) + 2 < 16777216 := by omega
  obtain ⟨hM, hC⟩ := h.mid 1
  have HO := hide (rOver_any h.op)
  have c3 := cell_of h.op (i := 3) rfl
  have f3 := free_of h.op 3
  have g0 := cell_of hM.op (i := 0) rfl
  have g1 := cell_of hM.op (i := 1) rfl
  have g2 := cell_of hM.op (i := 2) rfl
  have g3 := cell_of hM.op (i := 3) rfl
  have HA := hide (refAdd_in (i := n) who 1 (hM.ready (by omega)))
  have HS := hide (fun w2 => fun hp => (hM.made (w2 := w2) (i := n) (m := ⟨who, 4, n, 0, 1, nth s.cells n, IntKind.u64.wrap (nth s.cells n + 1), true⟩) hp).front hC)
  have HN := hide (And.intro h.qb (And.intro h.qg h.qY))
  clear h hM hC hn
  go_enter Try.func20, Try.ntmps20
  go_wp2_with (first
    | (go_at_call 22; refine HO.out.mono ?_; rintro e w1 ⟨rfl, rfl⟩)
    | (go_at_call 44; refine HA.out.mono ?_; rintro e w2 ⟨rfl, hp⟩; have HT := hide (HS.out w2 hp); obtain ⟨lv', _, hq2, _⟩ := id HT.out; have d4 := cell_of hq2 (i := 4) rfl; have e4 := free_of hq2 4; have HE := hide (HT.out.turn (w3 := w2.setCell ⟨q, 4, none⟩ (.int .i64 1)) (ob' := RfObj 1 n code 1 1) HN.out.1 HN.out.2.1 HN.out.2.2 (by rw [heap_set hq2 _]; rfl) (Chg.setCell (S := fun k => k = q) (Chg.refl _ w2) (p := ⟨q, 4, none⟩) rfl _)); clear hp hq2)
    | fail)
  first | go_end0 | refine bodyPost_ret (results_none rfl _ _ _) rfl ?_
  exact ⟨rfl, HE.out⟩
set_option maxRecDepth 100000 in
set_option maxHeartbeats 1000000 in
theorem rstep_2a (h : RRdy w Y b gc lv s q n (RfObj 2 n code 0 0)) (hs : nth s.cells n = 1) :
    Calls Try.prog 20 #[.pointer (some ⟨q, 0, none⟩), .pointer (some ⟨b, 0, none⟩), .int .i64 who] w fun e w' => e = .returned (.tuple #[]) ∧ RSP w w' Y b gc q s (n) ⟨who, 4, n, 0, 18446744073709551615, nth s.cells n, IntKind.u64.wrap (nth s.cells n + 18446744073709551615), true⟩ (RfObj 2 n code 1 0) := by
  have hn : n + 2 < 16777216 := by have := h.at_; have := h.ar.len; omega
  have hni : (n : Int) + 2 < 16777216 := by omega
  have hbq : (nth s.cells n == 1) = true := by simpa using hs
  obtain ⟨hM, hC⟩ := h.mid 1
  have HO := hide (rOver_any h.op)
  have c3 := cell_of h.op (i := 3) rfl
  have f3 := free_of h.op 3
  have g0 := cell_of hM.op (i := 0) rfl
  have g1 := cell_of hM.op (i := 1) rfl
  have g2 := cell_of hM.op (i := 2) rfl
  have g3 := cell_of hM.op (i := 3) rfl
  have HA := hide (refAdd_in who 18446744073709551615 (hM.ready (i := n) (by omega)))
  have HS := hide (fun w2 => fun hp => (hM.made (w2 := w2) (i := n) (m := ⟨who, 4, n, 0, 18446744073709551615, nth s.cells n, IntKind.u64.wrap (nth s.cells n + 18446744073709551615), true⟩) hp).front hC)
  have HN := hide (And.intro h.qb (And.intro h.qg h.qY))
  clear h hM hC hn
  go_enter Try.func20, Try.ntmps20
  go_wp2_with (first
    | (go_at_call 22; refine HO.out.mono ?_; rintro e w1 ⟨rfl, rfl⟩)
    | (go_at_call 44; refine HA.out.mono ?_; rintro e w2 ⟨rfl, hp⟩; have HT := hide (HS.out w2 hp); clear hp)
    | fail)
  first | go_end0 | refine bodyPost_ret (results_none rfl _ _ _) rfl ?_
  exact ⟨rfl, HT.out⟩
set_option maxRecDepth 100000 in
set_option maxHeartbeats 1000000 in
theorem rstep_2b (h : RRdy w Y b gc lv s q n (RfObj 2 n code 0 0)) (hs : ¬ nth s.cells n = 1) :
    Calls Try.prog 20 #[.pointer (some ⟨q, 0, none⟩), .pointer (some ⟨b, 0, none⟩), .int .i64 who] w fun e w' => e = .returned (.tuple #[]) ∧ RSP w w' Y b gc q s (n) ⟨who, 4, n, 0, 18446744073709551615, nth s.cells n, IntKind.u64.wrap (nth s.cells n + 18446744073709551615), true⟩ (RfObj 2 n code 1 1) := by
  have hn : n + 2 < 16777216 := by have := h.at_; have := h.ar.len; omega
  have hni : (n : Int) + 2 < 16777216 := by omega
  have hbq : (nth s.cells n == 1) = false := by simpa using hs
  obtain ⟨hM, hC⟩ := h.mid 1
  have HO := hide (rOver_any h.op)
  have c3 := cell_of h.op (i := 3) rfl
  have f3 := free_of h.op 3
  have g0 := cell_of hM.op (i := 0) rfl
  have g1 := cell_of hM.op (i := 1) rfl
  have g2 := cell_of hM.op (i := 2) rfl
  have g3 := cell_of hM.op (i := 3) rfl
  have HA := hide (refAdd_in who 18446744073709551615 (hM.ready (i := n) (by omega)))
  have HS := hide (fun w2 => fun hp => (hM.made (w2 := w2) (i := n) (m := ⟨who, 4, n, 0, 18446744073709551615, nth s.cells n, IntKind.u64.wrap (nth s.cells n + 18446744073709551615), true⟩) hp).front hC)
  have HN := hide (And.intro h.qb (And.intro h.qg h.qY))
  clear h hM hC hn
  have hbn : (nth s.cells n != 1) = true := by simpa using hs
  go_enter Try.func20, Try.ntmps20
  go_wp2_with (first
    | (go_at_call 22; refine HO.out.mono ?_; rintro e w1 ⟨rfl, rfl⟩)
    | (go_at_call 44; refine HA.out.mono ?_; rintro e w2 ⟨rfl, hp⟩; have HT := hide (HS.out w2 hp); obtain ⟨lv', _, hq2, _⟩ := id HT.out; have d4 := cell_of hq2 (i := 4) rfl; have e4 := free_of hq2 4; have HE := hide (HT.out.turn (w3 := w2.setCell ⟨q, 4, none⟩ (.int .i64 1)) (ob' := RfObj 2 n code 1 1) HN.out.1 HN.out.2.1 HN.out.2.2 (by rw [heap_set hq2 _]; rfl) (Chg.setCell (S := fun k => k = q) (Chg.refl _ w2) (p := ⟨q, 4, none⟩) rfl _)); clear hp hq2)
    | fail)
  first | go_end0 | refine bodyPost_ret (results_none rfl _ _ _) rfl ?_
  exact ⟨rfl, HE.out⟩
set_option maxRecDepth 100000 in
set_option maxHeartbeats 1000000 in
theorem rstep_3a (h : RRdy w Y b gc lv s q n (RfObj 3 n code 0 0)) (hs : nth s.cells (n + 2) = 0) :
    Calls Try.prog 20 #[.pointer (some ⟨q, 0, none⟩), .pointer (some ⟨b, 0, none⟩), .int .i64 who] w fun e w' => e = .returned (.tuple #[]) ∧ RSP w w' Y b gc q s (n + 2) ⟨who, 1, n + 2, 0, 0, nth s.cells (n + 2), nth s.cells (n + 2), true⟩ (RfObj 3 n code 1 0) := by
  have hn : n + 2 < 16777216 := by have := h.at_; have := h.ar.len; omega
  have hni : (n : Int) + 2 < 16777216 := by omega
  have hbq : (nth s.cells (n + 2) == 0) = true := by simpa using hs
  have hw2 : wrap64 ((n : Int) + 2) = (n : Int) + 2 := IntWalk.wrap64_in _ (by omega)
  obtain ⟨hM, hC⟩ := h.mid 1
  have HO := hide (rOver_any h.op)
  have c3 := cell_of h.op (i := 3) rfl
  have f3 := free_of h.op 3
  have g0 := cell_of hM.op (i := 0) rfl
  have g1 := cell_of hM.op (i := 1) rfl
  have g2 := cell_of hM.op (i := 2) rfl
  have g3 := cell_of hM.op (i := 3) rfl
  have HA := hide (refLoad_in who (hM.ready (i := n + 2) (by omega)))
  have HS := hide (fun w2 => fun hp => (hM.made (w2 := w2) (i := n + 2) (m := ⟨who, 1, n + 2, 0, 0, nth s.cells (n + 2), nth s.cells (n + 2), true⟩) hp).front hC)
  have HN := hide (And.intro h.qb (And.intro h.qg h.qY))
  clear h hM hC hn
  go_enter Try.func20, Try.ntmps20
  go_wp2_with (first
    | (go_at_call 22; refine HO.out.mono ?_; rintro e w1 ⟨rfl, rfl⟩)
    | (go_at_call 46; refine HA.out.mono ?_; rintro e w2 ⟨rfl, hp⟩; have HT := hide (HS.out w2 hp); clear hp)
    | fail)
  first | go_end0 | refine bodyPost_ret (results_none rfl _ _ _) rfl ?_
  exact ⟨rfl, HT.out⟩
set_option maxRecDepth 100000 in
set_option maxHeartbeats 1000000 in
theorem rstep_3b (h : RRdy w Y b gc lv s q n (RfObj 3 n code 0 0)) (hs : ¬ nth s.cells (n + 2) = 0) :
    Calls Try.prog 20 #[.pointer (some ⟨q, 0, none⟩), .pointer (some ⟨b, 0, none⟩), .int .i64 who] w fun e w' => e = .returned (.tuple #[]) ∧ RSP w w' Y b gc q s (n + 2) ⟨who, 1, n + 2, 0, 0, nth s.cells (n + 2), nth s.cells (n + 2), true⟩ (RfObj 3 n code 1 6) := by
  have hn : n + 2 < 16777216 := by have := h.at_; have := h.ar.len; omega
  have hni : (n : Int) + 2 < 16777216 := by omega
  have hbq : (nth s.cells (n + 2) == 0) = false := by simpa using hs
  have hw2 : wrap64 ((n : Int) + 2) = (n : Int) + 2 := IntWalk.wrap64_in _ (by omega)
  obtain ⟨hM, hC⟩ := h.mid 1
  have HO := hide (rOver_any h.op)
  have c3 := cell_of h.op (i := 3) rfl
  have f3 := free_of h.op 3
  have g0 := cell_of hM.op (i := 0) rfl
  have g1 := cell_of hM.op (i := 1) rfl
  have g2 := cell_of hM.op (i := 2) rfl
  have g3 := cell_of hM.op (i := 3) rfl
  have HA := hide (refLoad_in who (hM.ready (i := n + 2) (by omega)))
  have HS := hide (fun w2 => fun hp => (hM.made (w2 := w2) (i := n + 2) (m := ⟨who, 1, n + 2, 0, 0, nth s.cells (n + 2), nth s.cells (n + 2), true⟩) hp).front hC)
  have HN := hide (And.intro h.qb (And.intro h.qg h.qY))
  clear h hM hC hn
  have hbn : (nth s.cells (n + 2) != 0) = true := by simpa using hs
  go_enter Try.func20, Try.ntmps20
  go_wp2_with (first
    | (go_at_call 22; refine HO.out.mono ?_; rintro e w1 ⟨rfl, rfl⟩)
    | (go_at_call 46; refine HA.out.mono ?_; rintro e w2 ⟨rfl, hp⟩; have HT := hide (HS.out w2 hp); obtain ⟨lv', _, hq2, _⟩ := id HT.out; have d4 := cell_of hq2 (i := 4) rfl; have e4 := free_of hq2 4; have HE := hide (HT.out.turn (w3 := w2.setCell ⟨q, 4, none⟩ (.int .i64 6)) (ob' := RfObj 3 n code 1 6) HN.out.1 HN.out.2.1 HN.out.2.2 (by rw [heap_set hq2 _]; rfl) (Chg.setCell (S := fun k => k = q) (Chg.refl _ w2) (p := ⟨q, 4, none⟩) rfl _)); clear hp hq2)
    | fail)
  first | go_end0 | refine bodyPost_ret (results_none rfl _ _ _) rfl ?_
  exact ⟨rfl, HE.out⟩
set_option maxRecDepth 100000 in
set_option maxHeartbeats 1000000 in
theorem rstep_5 (h : RRdy w Y b gc lv s q n (RfObj 2 n code 1 0)) :
    Calls Try.prog 20 #[.pointer (some ⟨q, 0, none⟩), .pointer (some ⟨b, 0, none⟩), .int .i64 who] w fun e w' => e = .returned (.tuple #[]) ∧ RSP w w' Y b gc q s (n + 1) ⟨who, 2, n + 1, 0, 1, nth s.cells (n + 1), 1, true⟩ (RfObj 2 n code 2 1) := by
  have hn : n + 2 < 16777216 := by have := h.at_; have := h.ar.len; omega
  have hni : (n : Int) + 2 < 16777216 := by omega
  have hw1 : wrap64 ((n : Int) + 1) = (n : Int) + 1 := IntWalk.wrap64_in _ (by omega)
  obtain ⟨hM, hC⟩ := h.mid 2
  have HO := hide (rOver_any h.op)
  have c3 := cell_of h.op (i := 3) rfl
  have f3 := free_of h.op 3
  have g0 := cell_of hM.op (i := 0) rfl
  have g1 := cell_of hM.op (i := 1) rfl
  have g2 := cell_of hM.op (i := 2) rfl
  have g3 := cell_of hM.op (i := 3) rfl
  have HA := hide (refStore_in who 1 (hM.ready (i := n + 1) (by omega)))
  have HS := hide (fun w2 => fun hp => (hM.made (w2 := w2) (i := n + 1) (m := ⟨who, 2, n + 1, 0, 1, nth s.cells (n + 1), 1, true⟩) hp).front hC)
  have HN := hide (And.intro h.qb (And.intro h.qg h.qY))
  clear h hM hC hn
  go_enter Try.func20, Try.ntmps20
  go_wp2_with (first
    | (go_at_call 22; refine HO.out.mono ?_; rintro e w1 ⟨rfl, rfl⟩)
    | (go_at_call 45; refine HA.out.mono ?_; rintro e w2 ⟨rfl, hp⟩; have HT := hide (HS.out w2 hp); obtain ⟨lv', _, hq2, _⟩ := id HT.out; have d4 := cell_of hq2 (i := 4) rfl; have e4 := free_of hq2 4; have HE := hide (HT.out.turn (w3 := w2.setCell ⟨q, 4, none⟩ (.int .i64 1)) (ob' := RfObj 2 n code 2 1) HN.out.1 HN.out.2.1 HN.out.2.2 (by rw [heap_set hq2 _]; rfl) (Chg.setCell (S := fun k => k = q) (Chg.refl _ w2) (p := ⟨q, 4, none⟩) rfl _)); clear hp hq2)
    | fail)
  first | go_end0 | refine bodyPost_ret (results_none rfl _ _ _) rfl ?_
  exact ⟨rfl, HE.out⟩
set_option maxRecDepth 100000 in
set_option maxHeartbeats 1000000 in
theorem rstep_6a (h : RRdy w Y b gc lv s q n (RfObj 3 n code 1 0)) (hs : nth s.cells (n + 1) = 0) :
    Calls Try.prog 20 #[.pointer (some ⟨q, 0, none⟩), .pointer (some ⟨b, 0, none⟩), .int .i64 who] w fun e w' => e = .returned (.tuple #[]) ∧ RSP w w' Y b gc q s (n + 1) ⟨who, 1, n + 1, 0, 0, nth s.cells (n + 1), nth s.cells (n + 1), true⟩ (RfObj 3 n code 2 7) := by
  have hn : n + 2 < 16777216 := by have := h.at_; have := h.ar.len; omega
  have hni : (n : Int) + 2 < 16777216 := by omega
  have hbq : (nth s.cells (n + 1) == 0) = true := by simpa using hs
  have hw1 : wrap64 ((n : Int) + 1) = (n : Int) + 1 := IntWalk.wrap64_in _ (by omega)
  obtain ⟨hM, hC⟩ := h.mid 2
  have HO := hide (rOver_any h.op)
  have c3 := cell_of h.op (i := 3) rfl
  have f3 := free_of h.op 3
  have g0 := cell_of hM.op (i := 0) rfl
  have g1 := cell_of hM.op (i := 1) rfl
  have g2 := cell_of hM.op (i := 2) rfl
  have g3 := cell_of hM.op (i := 3) rfl
  have HA := hide (refLoad_in who (hM.ready (i := n + 1) (by omega)))
  have HS := hide (fun w2 => fun hp => (hM.made (w2 := w2) (i := n + 1) (m := ⟨who, 1, n + 1, 0, 0, nth s.cells (n + 1), nth s.cells (n + 1), true⟩) hp).front hC)
  have HN := hide (And.intro h.qb (And.intro h.qg h.qY))
  clear h hM hC hn
  go_enter Try.func20, Try.ntmps20
  go_wp2_with (first
    | (go_at_call 22; refine HO.out.mono ?_; rintro e w1 ⟨rfl, rfl⟩)
    | (go_at_call 46; refine HA.out.mono ?_; rintro e w2 ⟨rfl, hp⟩; have HT := hide (HS.out w2 hp); obtain ⟨lv', _, hq2, _⟩ := id HT.out; have d4 := cell_of hq2 (i := 4) rfl; have e4 := free_of hq2 4; have HE := hide (HT.out.turn (w3 := w2.setCell ⟨q, 4, none⟩ (.int .i64 7)) (ob' := RfObj 3 n code 2 7) HN.out.1 HN.out.2.1 HN.out.2.2 (by rw [heap_set hq2 _]; rfl) (Chg.setCell (S := fun k => k = q) (Chg.refl _ w2) (p := ⟨q, 4, none⟩) rfl _)); clear hp hq2)
    | fail)
  first | go_end0 | refine bodyPost_ret (results_none rfl _ _ _) rfl ?_
  exact ⟨rfl, HE.out⟩
end
end Go.Proofs.Ytabmmjhcfhplnaa
