/- The document's operations: one step, with just the blocks that it turns. -/
import Derived.Test.YtabmmjhcfhplnaaQr2
import Derived.Test.YtabmmjhcfhplnaaF2
namespace Go.Proofs.Ytabmmjhcfhplnaa
open Go.RowKit Go.Lib Go.MuLone
set_option linter.unusedVariables false
def RSF (w w' : World) (Y b gc : Nat) (lv : Value) (q : Nat) (s : Ast) (i : Nat) (m : Acc) (ob : Obj) : Prop :=
  ∃ lv', RIs w' Y b gc lv' (s.made i m) ∧ w'.heap[q]? = some ob ∧ Chg (fun k => refSet b gc lv k ∨ k = q) w w' ∧ (lv'.ownBlock = lv.ownBlock ∨ ∃ g, lv'.ownBlock = some g ∧ w.heap.size ≤ g)
section
variable {w w2 w3 : World} {Y b gc : Nat} {lv : Value} {s : Ast} {q n i : Nat} {ob ob' : Obj} {m : Acc} {k base code m0 st : Int}
theorem RRdy.midF (h : RRdy w Y b gc lv s q n (RfObj k base code m0 st)) (x : Int) : RRdy (w.setCell ⟨q, 3, none⟩ (.int .i64 x)) Y b gc lv s q n (RfObj k base code x st) ∧ Chg (fun j => j = q) w (w.setCell ⟨q, 3, none⟩ (.int .i64 x)) := by
  have hc : Chg (fun j => j = q) w (w.setCell ⟨q, 3, none⟩ (.int .i64 x)) := Chg.setCell (S := fun j => j = q) (Chg.refl _ w) (p := ⟨q, 3, none⟩) rfl _
  exact ⟨(h.mid x).1, hc⟩
theorem RRdy.madeF (h : RRdy w Y b gc lv s q n ob) (hp : RPost w w2 Y b gc lv s i m) : RSF w w2 Y b gc lv q s i m ob := by
  obtain ⟨lv', h1, h2, h4⟩ := hp
  refine ⟨lv', h1, h4.heap h.op (fun hk => ?_), h4.mono fun j hj => .inl hj, h2⟩
  rcases hk with e | e | e
  · exact h.qb e
  · exact h.qg e
  · have := (owns_lt h.ar.hl e).1; have := h.qY; omega
theorem RSF.front {w1 : World} (hc : Chg (fun j => j = q) w w1) (h : RSF w1 w2 Y b gc lv q s i m ob) : RSF w w2 Y b gc lv q s i m ob := by
  obtain ⟨lv', h1, h2, h3, h4⟩ := h
  refine ⟨lv', h1, h2, (hc.mono fun j e => .inr e).trans h3, ?_⟩
  rcases h4 with e | ⟨g, e, hg⟩
  · exact .inl e
  · exact .inr ⟨g, e, Nat.le_trans hc.size hg⟩
theorem RSF.turn (h : RSF w w2 Y b gc lv q s i m ob) (hb : q ≠ b) (hg : q ≠ gc) (hq : q < Y) (h1 : w3.heap[q]? = some ob') (h2 : Chg (fun k => k = q) w2 w3) : RSF w w3 Y b gc lv q s i m ob' := by
  obtain ⟨lv', a, _, c, d⟩ := h
  exact ⟨lv', a.kept h2 (fun e => hb e.symm) (fun e => hg e.symm) (fun k hk e => by have := (owns_lt a.hl hk).1; omega), h1, c.trans (h2.mono fun k hk => .inr hk), d⟩
end
section
variable {w : World} {Y b gc : Nat} {lv : Value} {s : Ast} {q n : Nat} {code : Int} {who : Int}
set_option maxRecDepth 100000 in
set_option maxHeartbeats 1000000 in
theorem rstF_1 (h : RRdy w Y b gc lv s q n (RfObj 1 n code 0 0)) :
    Calls Try.prog 20 #[.pointer (some ⟨q, 0, none⟩), .pointer (some ⟨b, 0, none⟩), .int .i64 who] w fun e w' => e = .returned (.tuple #[]) ∧ RSF w w' Y b gc lv q s n ⟨who, 4, n, 0, 1, nth s.cells n, IntKind.u64.wrap (nth s.cells n + 1), true⟩ (RfObj 1 n code 1 1) := by
  have hn : n + 2 < 16777216 := by have := h.at_; have := h.ar.len; omega
  have hni : (n : Int) + 2 < 16777216 := by omega
  obtain ⟨hM, hC⟩ := h.midF 1
  have HO := hide (rOver_any h.op)
  have c3 := cell_of h.op (i := 3) rfl
  have f3 := free_of h.op 3
  have g0 := cell_of hM.op (i := 0) rfl
  have g1 := cell_of hM.op (i := 1) rfl
  have g2 := cell_of hM.op (i := 2) rfl
  have g3 := cell_of hM.op (i := 3) rfl
  have HA := hide (refAdd_in (i := n) who 1 (hM.ready (by omega)))
  have HS := hide (fun w2 => fun hp => (hM.madeF (w2 := w2) (i := n) (m := ⟨who, 4, n, 0, 1, nth s.cells n, IntKind.u64.wrap (nth s.cells n + 1), true⟩) hp).front hC)
  have HN := hide (And.intro h.qb (And.intro h.qg h.qY))
  clear h hM hC hn
  go_enter Try.func20, Try.ntmps20
  go_wp2_with (first
    | (go_at_call 22; refine HO.out.mono ?_; rintro e w1 ⟨rfl, rfl⟩)
    | (go_at_call 44; refine HA.out.mono ?_; rintro e w2 ⟨rfl, hp⟩; have HT := hide (HS.out w2 hp); obtain ⟨lv', _, hq2, _⟩ := id HT.out; have d4 := cell_of hq2 (i := 4) rfl; have e4 := free_of hq2 4; have HE := hide (HT.out.turn (w3 := w2.setCell ⟨q, 4, none⟩ (.int .i64 1)) (ob' := RfObj 1 n code 1 1) HN.out.1 HN.out.2.1 HN.out.2.2 (by rw [heap_set hq2 _]; rfl) (Chg.setCell (S := fun k => k = q) (Chg.refl _ w2) (p := ⟨q, 4, none⟩) rfl _)); clear hp hq2)
    | fail)
  first | go_end0 | refine bodyPost_ret (results_none rfl _ _ _) rfl ?_
  exact ⟨rfl, HE.out⟩
set_option maxRecDepth 100000 in
set_option maxHeartbeats 1000000 in
theorem rstF_2a (h : RRdy w Y b gc lv s q n (RfObj 2 n code 0 0)) (hs : nth s.cells n = 1) :
    Calls Try.prog 20 #[.pointer (some ⟨q, 0, none⟩), .pointer (some ⟨b, 0, none⟩), .int .i64 who] w fun e w' => e = .returned (.tuple #[]) ∧ RSF w w' Y b gc lv q s (n) ⟨who, 4, n, 0, 18446744073709551615, nth s.cells n, IntKind.u64.wrap (nth s.cells n + 18446744073709551615), true⟩ (RfObj 2 n code 1 0) := by
  have hn : n + 2 < 16777216 := by have := h.at_; have := h.ar.len; omega
  have hni : (n : Int) + 2 < 16777216 := by omega
  have hbq : (nth s.cells n == 1) = true := by simpa using hs
  obtain ⟨hM, hC⟩ := h.midF 1
  have HO := hide (rOver_any h.op)
  have c3 := cell_of h.op (i := 3) rfl
  have f3 := free_of h.op 3
  have g0 := cell_of hM.op (i := 0) rfl
  have g1 := cell_of hM.op (i := 1) rfl
  have g2 := cell_of hM.op (i := 2) rfl
  have g3 := cell_of hM.op (i := 3) rfl
  have HA := hide (refAdd_in who 18446744073709551615 (hM.ready (i := n) (by omega)))
  have HS := hide (fun w2 => fun hp => (hM.madeF (w2 := w2) (i := n) (m := ⟨who, 4, n, 0, 18446744073709551615, nth s.cells n, IntKind.u64.wrap (nth s.cells n + 18446744073709551615), true⟩) hp).front hC)
  have HN := hide (And.intro h.qb (And.intro h.qg h.qY))
  clear h hM hC hn
  go_enter Try.func20, Try.ntmps20
  go_wp2_with (first
    | (go_at_call 22; refine HO.out.mono ?_; rintro e w1 ⟨rfl, rfl⟩)
    | (go_at_call 44; refine HA.out.mono ?_; rintro e w2 ⟨rfl, hp⟩; have HT := hide (HS.out w2 hp); clear hp)
    | fail)
  first | go_end0 | refine bodyPost_ret (results_none rfl _ _ _) rfl ?_
  exact ⟨rfl, HT.out⟩
set_option maxRecDepth 100000 in
set_option maxHeartbeats 1000000 in
theorem rstF_2b (h : RRdy w Y b gc lv s q n (RfObj 2 n code 0 0)) (hs : ¬ nth s.cells n = 1) :
    Calls Try.prog 20 #[.pointer (some ⟨q, 0, none⟩), .pointer (some ⟨b, 0, none⟩), .int .i64 who] w fun e w' => e = .returned (.tuple #[]) ∧ RSF w w' Y b gc lv q s (n) ⟨who, 4, n, 0, 18446744073709551615, nth s.cells n, IntKind.u64.wrap (nth s.cells n + 18446744073709551615), true⟩ (RfObj 2 n code 1 1) := by
  have hn : n + 2 < 16777216 := by have := h.at_; have := h.ar.len; omega
  have hni : (n : Int) + 2 < 16777216 := by omega
  have hbq : (nth s.cells n == 1) = false := by simpa using hs
  obtain ⟨hM, hC⟩ := h.midF 1
  have HO := hide (rOver_any h.op)
  have c3 := cell_of h.op (i := 3) rfl
  have f3 := free_of h.op 3
  have g0 := cell_of hM.op (i := 0) rfl
  have g1 := cell_of hM.op (i := 1) rfl
  have g2 := cell_of hM.op (i := 2) rfl
  have g3 := cell_of hM.op (i := 3) rfl
  have HA := hide (refAdd_in who 18446744073709551615 (hM.ready (i := n) (by omega)))
  have HS := hide (fun w2 => fun hp => (hM.madeF (w2 := w2) (i := n) (m := ⟨who, 4, n, 0, 18446744073709551615, nth s.cells n, IntKind.u64.wrap (nth s.cells n + 18446744073709551615), true⟩) hp).front hC)
  have HN := hide (And.intro h.qb (And.intro h.qg h.qY))
  clear h hM hC hn
  have hbn : (nth s.cells n != 1) = true := by simpa using hs
  go_enter Try.func20, Try.ntmps20
  go_wp2_with (first
    | (go_at_call 22; refine HO.out.mono ?_; rintro e w1 ⟨rfl, rfl⟩)
    | (go_at_call 44; refine HA.out.mono ?_; rintro e w2 ⟨rfl, hp⟩; have HT := hide (HS.out w2 hp); obtain ⟨lv', _, hq2, _⟩ := id HT.out; have d4 := cell_of hq2 (i := 4) rfl; have e4 := free_of hq2 4; have HE := hide (HT.out.turn (w3 := w2.setCell ⟨q, 4, none⟩ (.int .i64 1)) (ob' := RfObj 2 n code 1 1) HN.out.1 HN.out.2.1 HN.out.2.2 (by rw [heap_set hq2 _]; rfl) (Chg.setCell (S := fun k => k = q) (Chg.refl _ w2) (p := ⟨q, 4, none⟩) rfl _)); clear hp hq2)
    | fail)
  first | go_end0 | refine bodyPost_ret (results_none rfl _ _ _) rfl ?_
  exact ⟨rfl, HE.out⟩
set_option maxRecDepth 100000 in
set_option maxHeartbeats 1000000 in
theorem rstF_3a (h : RRdy w Y b gc lv s q n (RfObj 3 n code 0 0)) (hs : nth s.cells (n + 2) = 0) :
    Calls Try.prog 20 #[.pointer (some ⟨q, 0, none⟩), .pointer (some ⟨b, 0, none⟩), .int .i64 who] w fun e w' => e = .returned (.tuple #[]) ∧ RSF w w' Y b gc lv q s (n + 2) ⟨who, 1, n + 2, 0, 0, nth s.cells (n + 2), nth s.cells (n + 2), true⟩ (RfObj 3 n code 1 0) := by
  have hn : n + 2 < 16777216 := by have := h.at_; have := h.ar.len; omega
  have hni : (n : Int) + 2 < 16777216 := by omega
  have hbq : (nth s.cells (n + 2) == 0) = true := by simpa using hs
  have hw2 : wrap64 ((n : Int) + 2) = (n : Int) + 2 := IntWalk.wrap64_in _ (by omega)
  obtain ⟨hM, hC⟩ := h.midF 1
  have HO := hide (rOver_any h.op)
  have c3 := cell_of h.op (i := 3) rfl
  have f3 := free_of h.op 3
  have g0 := cell_of hM.op (i := 0) rfl
  have g1 := cell_of hM.op (i := 1) rfl
  have g2 := cell_of hM.op (i := 2) rfl
  have g3 := cell_of hM.op (i := 3) rfl
  have HA := hide (refLoad_in who (hM.ready (i := n + 2) (by omega)))
  have HS := hide (fun w2 => fun hp => (hM.madeF (w2 := w2) (i := n + 2) (m := ⟨who, 1, n + 2, 0, 0, nth s.cells (n + 2), nth s.cells (n + 2), true⟩) hp).front hC)
  have HN := hide (And.intro h.qb (And.intro h.qg h.qY))
  clear h hM hC hn
  go_enter Try.func20, Try.ntmps20
  go_wp2_with (first
    | (go_at_call 22; refine HO.out.mono ?_; rintro e w1 ⟨rfl, rfl⟩)
    | (go_at_call 46; refine HA.out.mono ?_; rintro e w2 ⟨rfl, hp⟩; have HT := hide (HS.out w2 hp); clear hp)
    | fail)
  first | go_end0 | refine bodyPost_ret (results_none rfl _ _ _) rfl ?_
  exact ⟨rfl, HT.out⟩
set_option maxRecDepth 100000 in
set_option maxHeartbeats 1000000 in
theorem rstF_3b (h : RRdy w Y b gc lv s q n (RfObj 3 n code 0 0)) (hs : ¬ nth s.cells (n + 2) = 0) :
    Calls Try.prog 20 #[.pointer (some ⟨q, 0, none⟩), .pointer (some ⟨b, 0, none⟩), .int .i64 who] w fun e w' => e = .returned (.tuple #[]) ∧ RSF w w' Y b gc lv q s (n + 2) ⟨who, 1, n + 2, 0, 0, nth s.cells (n + 2), nth s.cells (n + 2), true⟩ (RfObj 3 n code 1 6) := by
  have hn : n + 2 < 16777216 := by have := h.at_; have := h.ar.len; omega
  have hni : (n : Int) + 2 < 16777216 := by omega
  have hbq : (nth s.cells (n + 2) == 0) = false := by simpa using hs
  have hw2 : wrap64 ((n : Int) + 2) = (n : Int) + 2 := IntWalk.wrap64_in _ (by omega)
  obtain ⟨hM, hC⟩ := h.midF 1
  have HO := hide (rOver_any h.op)
  have c3 := cell_of h.op (i := 3) rfl
  have f3 := free_of h.op 3
  have g0 := cell_of hM.op (i := 0) rfl
  have g1 := cell_of hM.op (i := 1) rfl
  have g2 := cell_of hM.op (i := 2) rfl
  have g3 := cell_of hM.op (i := 3) rfl
  have HA := hide (refLoad_in who (hM.ready (i := n + 2) (by omega)))
  have HS := hide (fun w2 => fun hp => (hM.madeF (w2 := w2) (i := n + 2) (m := ⟨who, 1, n + 2, 0, 0, nth s.cells (n + 2), nth s.cells (n + 2), true⟩) hp).front hC)
  have HN := hide (And.intro h.qb (And.intro h.qg h.qY))
  clear h hM hC hn
  have hbn : (nth s.cells (n + 2) != 0) = true := by simpa using hs
  go_enter Try.func20, Try.ntmps20
  go_wp2_with (first
    | (go_at_call 22; refine HO.out.mono ?_; rintro e w1 ⟨rfl, rfl⟩)
    | (go_at_call 46; refine HA.out.mono ?_; rintro e w2 ⟨rfl, hp⟩; have HT := hide (HS.out w2 hp); obtain ⟨lv', _, hq2, _⟩ := id HT.out; have d4 := cell_of hq2 (i := 4) rfl; have e4 := free_of hq2 4; have HE := hide (HT.out.turn (w3 := w2.setCell ⟨q, 4, none⟩ (.int .i64 6)) (ob' := RfObj 3 n code 1 6) HN.out.1 HN.out.2.1 HN.out.2.2 (by rw [heap_set hq2 _]; rfl) (Chg.setCell (S := fun k => k = q) (Chg.refl _ w2) (p := ⟨q, 4, none⟩) rfl _)); clear hp hq2)
    | fail)
  first | go_end0 | refine bodyPost_ret (results_none rfl _ _ _) rfl ?_
  exact ⟨rfl, HE.out⟩
set_option maxRecDepth 100000 in
set_option maxHeartbeats 1000000 in
theorem rstF_5 (h : RRdy w Y b gc lv s q n (RfObj 2 n code 1 0)) :
    Calls Try.prog 20 #[.pointer (some ⟨q, 0, none⟩), .pointer (some ⟨b, 0, none⟩), .int .i64 who] w fun e w' => e = .returned (.tuple #[]) ∧ RSF w w' Y b gc lv q s (n + 1) ⟨who, 2, n + 1, 0, 1, nth s.cells (n + 1), 1, true⟩ (RfObj 2 n code 2 1) := by
  have hn : n + 2 < 16777216 := by have := h.at_; have := h.ar.len; omega
  have hni : (n : Int) + 2 < 16777216 := by omega
  have hw1 : wrap64 ((n : Int) + 1) = (n : Int) + 1 := IntWalk.wrap64_in _ (by omega)
  obtain ⟨hM, hC⟩ := h.midF 2
  have HO := hide (rOver_any h.op)
  have c3 := cell_of h.op (i := 3) rfl
  have f3 := free_of h.op 3
  have g0 := cell_of hM.op (i := 0) rfl
  have g1 := cell_of hM.op (i := 1) rfl
  have g2 := cell_of hM.op (i := 2) rfl
  have g3 := cell_of hM.op (i := 3) rfl
  have HA := hide (refStore_in who 1 (hM.ready (i := n + 1) (by omega)))
  have HS := hide (fun w2 => fun hp => (hM.madeF (w2 := w2) (i := n + 1) (m := ⟨who, 2, n + 1, 0, 1, nth s.cells (n + 1), 1, true⟩) hp).front hC)
  have HN := hide (And.intro h.qb (And.intro h.qg h.qY))
  clear h hM hC hn
  go_enter Try.func20, Try.ntmps20
  go_wp2_with (first
    | (go_at_call 22; refine HO.out.mono ?_; rintro e w1 ⟨rfl, rfl⟩)
    | (go_at_call 45; refine HA.out.mono ?_; rintro e w2 ⟨rfl, hp⟩; have HT := hide (HS.out w2 hp); obtain ⟨lv', _, hq2, _⟩ := id HT.out; have d4 := cell_of hq2 (i := 4) rfl; have e4 := free_of hq2 4; have HE := hide (HT.out.turn (w3 := w2.setCell ⟨q, 4, none⟩ (.int .i64 1)) (ob' := RfObj 2 n code 2 1) HN.out.1 HN.out.2.1 HN.out.2.2 (by rw [heap_set hq2 _]; rfl) (Chg.setCell (S := fun k => k = q) (Chg.refl _ w2) (p := ⟨q, 4, none⟩) rfl _)); clear hp hq2)
    | fail)
  first | go_end0 | refine bodyPost_ret (results_none rfl _ _ _) rfl ?_
  exact ⟨rfl, HE.out⟩
set_option maxRecDepth 100000 in
set_option maxHeartbeats 1000000 in
theorem rstF_6a (h : RRdy w Y b gc lv s q n (RfObj 3 n code 1 0)) (hs : nth s.cells (n + 1) = 0) :
    Calls Try.prog 20 #[.pointer (some ⟨q, 0, none⟩), .pointer (some ⟨b, 0, none⟩), .int .i64 who] w fun e w' => e = .returned (.tuple #[]) ∧ RSF w w' Y b gc lv q s (n + 1) ⟨who, 1, n + 1, 0, 0, nth s.cells (n + 1), nth s.cells (n + 1), true⟩ (RfObj 3 n code 2 7) := by
  have hn : n + 2 < 16777216 := by have := h.at_; have := h.ar.len; omega
  have hni : (n : Int) + 2 < 16777216 := by omega
  have hbq : (nth s.cells (n + 1) == 0) = true := by simpa using hs
  have hw1 : wrap64 ((n : Int) + 1) = (n : Int) + 1 := IntWalk.wrap64_in _ (by omega)
  obtain ⟨hM, hC⟩ := h.midF 2
  have HO := hide (rOver_any h.op)
  have c3 := cell_of h.op (i := 3) rfl
  have f3 := free_of h.op 3
  have g0 := cell_of hM.op (i := 0) rfl
  have g1 := cell_of hM.op (i := 1) rfl
  have g2 := cell_of hM.op (i := 2) rfl
  have g3 := cell_of hM.op (i := 3) rfl
  have HA := hide (refLoad_in who (hM.ready (i := n + 1) (by omega)))
  have HS := hide (fun w2 => fun hp => (hM.madeF (w2 := w2) (i := n + 1) (m := ⟨who, 1, n + 1, 0, 0, nth s.cells (n + 1), nth s.cells (n + 1), true⟩) hp).front hC)
  have HN := hide (And.intro h.qb (And.intro h.qg h.qY))
  clear h hM hC hn
  go_enter Try.func20, Try.ntmps20
  go_wp2_with (first
    | (go_at_call 22; refine HO.out.mono ?_; rintro e w1 ⟨rfl, rfl⟩)
    | (go_at_call 46; refine HA.out.mono ?_; rintro e w2 ⟨rfl, hp⟩; have HT := hide (HS.out w2 hp); obtain ⟨lv', _, hq2, _⟩ := id HT.out; have d4 := cell_of hq2 (i := 4) rfl; have e4 := free_of hq2 4; have HE := hide (HT.out.turn (w3 := w2.setCell ⟨q, 4, none⟩ (.int .i64 7)) (ob' := RfObj 3 n code 2 7) HN.out.1 HN.out.2.1 HN.out.2.2 (by rw [heap_set hq2 _]; rfl) (Chg.setCell (S := fun k => k = q) (Chg.refl _ w2) (p := ⟨q, 4, none⟩) rfl _)); clear hp hq2)
    | fail)
  first | go_end0 | refine bodyPost_ret (results_none rfl _ _ _) rfl ?_
  exact ⟨rfl, HE.out⟩
set_option maxRecDepth 100000 in
set_option maxHeartbeats 1000000 in
theorem rstF_6b (h : RRdy w Y b gc lv s q n (RfObj 3 n code 1 0)) (hs : ¬ nth s.cells (n + 1) = 0) :
    Calls Try.prog 20 #[.pointer (some ⟨q, 0, none⟩), .pointer (some ⟨b, 0, none⟩), .int .i64 who] w fun e w' => e = .returned (.tuple #[]) ∧ RSF w w' Y b gc lv q s (n + 1) ⟨who, 1, n + 1, 0, 0, nth s.cells (n + 1), nth s.cells (n + 1), true⟩ (RfObj 3 n code 2 1) := by
  have hn : n + 2 < 16777216 := by have := h.at_; have := h.ar.len; omega
  have hni : (n : Int) + 2 < 16777216 := by omega
  have hbq : (nth s.cells (n + 1) != 0) = true := by simpa using hs
  have hw1 : wrap64 ((n : Int) + 1) = (n : Int) + 1 := IntWalk.wrap64_in _ (by omega)
  obtain ⟨hM, hC⟩ := h.midF 2
  have HO := hide (rOver_any h.op)
  have c3 := cell_of h.op (i := 3) rfl
  have f3 := free_of h.op 3
  have g0 := cell_of hM.op (i := 0) rfl
  have g1 := cell_of hM.op (i := 1) rfl
  have g2 := cell_of hM.op (i := 2) rfl
  have g3 := cell_of hM.op (i := 3) rfl
  have HA := hide (refLoad_in who (hM.ready (i := n + 1) (by omega)))
  have HS := hide (fun w2 => fun hp => (hM.madeF (w2 := w2) (i := n + 1) (m := ⟨who, 1, n + 1, 0, 0, nth s.cells (n + 1), nth s.cells (n + 1), true⟩) hp).front hC)
  have HN := hide (And.intro h.qb (And.intro h.qg h.qY))
  obtain ⟨z, hz⟩ : ∃ z, z = nth s.cells (n + 1) := ⟨_, rfl⟩
  rw [← hz] at hbq hs
  have HZ := hide hz
  clear h hM hC hn hz
  go_enter Try.func20, Try.ntmps20
  go_wp2_with (first
    | (go_at_call 22; refine HO.out.mono ?_; rintro e w1 ⟨rfl, rfl⟩)
    | (go_at_call 46; refine HA.out.mono ?_; rintro e w2 ⟨rfl, hp⟩; have HT := hide (HS.out w2 hp); obtain ⟨lv', _, hq2, _⟩ := id HT.out; have d4 := cell_of hq2 (i := 4) rfl; have e4 := free_of hq2 4; have hq3 := heap_set (i := 4) hq2 (.int .i64 7); have HE := hide (HT.out.turn (w3 := (w2.setCell ⟨q, 4, none⟩ (.int .i64 7)).setCell ⟨q, 4, none⟩ (.int .i64 1)) (ob' := RfObj 3 n code 2 1) HN.out.1 HN.out.2.1 HN.out.2.2 (by rw [heap_set hq3 _]; rfl) (Chg.setCell (S := fun k => k = q) (Chg.setCell (S := fun k => k = q) (Chg.refl _ w2) (p := ⟨q, 4, none⟩) rfl _) (p := ⟨q, 4, none⟩) rfl _)); have d5 := cell_of hq3 (i := 4) rfl; have e5 := free_of hq3 4; rw [← HZ.out]; clear hp hq2 hq3)
    | fail)
  first | go_end0 | refine bodyPost_ret (results_none rfl _ _ _) rfl ?_
  exact ⟨rfl, HE.out⟩
set_option maxRecDepth 100000 in
set_option maxHeartbeats 1000000 in
theorem rstF_4 (h : RRdy w Y b gc lv s q n (RfObj 4 n code 0 0)) :
    Calls Try.prog 20 #[.pointer (some ⟨q, 0, none⟩), .pointer (some ⟨b, 0, none⟩), .int .i64 who] w fun e w' => e = .returned (.tuple #[]) ∧ RSF w w' Y b gc lv q s (n + 2) ⟨who, 3, n + 2, 0, code, nth s.cells (n + 2), if nth s.cells (n + 2) = 0 then code else nth s.cells (n + 2), decide (nth s.cells (n + 2) = 0)⟩ (RfObj 4 n code 1 1) := by
  have hn : n + 2 < 16777216 := by have := h.at_; have := h.ar.len; omega
  have hni : (n : Int) + 2 < 16777216 := by omega
  have hw1 : IntKind.i64.wrap ((n : Int) + 2) = (n : Int) + 2 := IntWalk.i64_in _ (by omega)
  obtain ⟨ac, hac⟩ : ∃ ac : Acc, ac = ⟨who, 3, (n : Int) + 2, 0, code, nth s.cells (n + 2), if nth s.cells (n + 2) = 0 then code else nth s.cells (n + 2), decide (nth s.cells (n + 2) = 0)⟩ := ⟨_, rfl⟩
  rw [← hac]
  obtain ⟨bz, hbz⟩ : ∃ bz, bz = decide (nth s.cells (n + 2) = 0) := ⟨_, rfl⟩
  obtain ⟨hM, hC⟩ := h.midF 1
  have HO := hide (rOver_any h.op)
  have c3 := cell_of h.op (i := 3) rfl
  have f3 := free_of h.op 3
  have HA := hide (fun X (R : RReady X Y b gc lv s (n + 2)) => refCas_in who 0 code R)
  have e2 : ((n + 2 : Nat) : Int) = (n : Int) + 2 := rfl
  rw [e2, ← hac, ← hbz] at HA
  clear e2 hac hbz
  have HM := hide hM
  have HC := hide hC
  have HN := hide (And.intro h.qb (And.intro h.qg h.qY))
  have g0 := cell_of hM.op (i := 0) rfl
  have g3 := cell_of hM.op (i := 3) rfl
  clear h hn hM hC
  go_enter Try.func20, Try.ntmps20
  go_upto_region 2 with (go_at_call 22; refine HO.out.mono ?_; rintro e w1 ⟨rfl, rfl⟩)
  generalize (w1.setCell ⟨q, 3, none⟩ (.int .i64 1)) = w0 at HM HC g0 g3 ⊢
  have g1 : w0.cell? ⟨q, 1, none⟩ = some (.int .i64 n) := cell_of HM.out.op (i := 1) rfl
  have g2 : w0.cell? ⟨q, 2, none⟩ = some (.int .u64 code) := cell_of HM.out.op (i := 2) rfl
  have HD := hide (HM.out.drewR)
  have HS := hide (fun w2 => fun hp => (HD.out.madeF (w2 := w2) (i := n + 2) (m := ac) hp).front HC.out.drew)
  clear g0 g3 c3 f3 HO
  refine wp_region_noPanic ?_
  go_region_held3 (fun x => x.cell? ⟨q, 1, none⟩ = some (.int .i64 n) ∧ x.cell? ⟨q, 2, none⟩ = some (.int .u64 code))
    (first | go_keep | exact ⟨k1, k2⟩)
    ((go_at_call 47; refine (HA.out _ (HD.out.ready (by omega))).mono ?_; rintro e w2 ⟨rfl, hp⟩; have HT := hide (HS.out w2 hp); obtain ⟨lv', _, hq2, _⟩ := id HT.out; have k1 : w2.cell? ⟨q, 1, none⟩ = some (.int .i64 n) := cell_of hq2 (i := 1) rfl; have k2 : w2.cell? ⟨q, 2, none⟩ = some (.int .u64 code) := cell_of hq2 (i := 2) rfl; have d4 := cell_of hq2 (i := 4) rfl; have e4 := free_of hq2 4; have HE := hide (HT.out.turn (w3 := w2.setCell ⟨q, 4, none⟩ (.int .i64 1)) (ob' := RfObj 4 n code 1 1) HN.out.1 HN.out.2.1 HN.out.2.2 (by rw [heap_set hq2 _]; rfl) (Chg.setCell (S := fun k => k = q) (Chg.refl _ w2) (p := ⟨q, 4, none⟩) rfl _)); clear hp hq2))
  all_goals
    refine NoPanic.normal ?_
    clear g1 g2 k1 k2 hni hw1 HA HS HD HM HC
    go_wp2_with fail
    first | go_end0 | refine bodyPost_ret (results_none rfl _ _ _) rfl ?_
    exact ⟨rfl, HE.out⟩
end
end Go.Proofs.Ytabmmjhcfhplnaa
