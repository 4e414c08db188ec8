/- A handle in memory: Over 22, ready 74, end 82, lookForRoom 78, lookForTask 84, Insert 41, Take 43. -/
import Derived.Test.YtgjdjdgondpjeaaGreatQp
import Derived.Test.YtgjdjdgondpjeaaGreatHd
import Derived.Test.YtgjdjdgondpjeaaGreatMade
import Derived.Deep.RegionHeld3
import Derived.Deep.RegionWith
namespace Go.Proofs.YtgjdjdgondpjeaaGreat
open Go.RowKit Go.Lib
set_option linter.unusedVariables false
set_option linter.unusedSimpArgs false
theorem below_drN (w : World) (k : Nat) : Below w.heap.size w (w.drewN k) := ⟨rfl, rfl, rfl, Nat.le_refl _, fun _ _ => rfl⟩
theorem Chg.putq {q : Nat} {w w' : World} (h : Chg (fun k => k = q) w w') (i : Nat) (u : Value) : Chg (fun k => k = q) w (w'.setCell ⟨q, i, none⟩ u) := h.setCell (p := ⟨q, i, none⟩) rfl _
def HObj (b C : Int) (d : Hs) (v : Value) : Obj :=
  .cells #[.int .i64 b, .int .i64 C, .int .i64 d.ph, .int .u64 d.place, .int .u64 d.t.1, .int .u64 d.t.2, .int .i64 d.st, v] 126 (0, 0)
/-- A step: the access has left a world of P, then the handle's own block has turned. -/
def StN (P : World → Prop) (q : Nat) (ob : Obj) (w' : World) : Prop := ∃ w2, P w2 ∧ w'.heap[q]? = some ob ∧ Chg (fun k => k = q) w2 w'
theorem StN.of {P : World → Prop} {q : Nat} {ob : Obj} {w2 w3 : World} (h : P w2) (hq : w2.heap[q]? = some ob) (hb : Below w2.heap.size w2 w3) : StN P q ob w3 :=
  ⟨w2, h, (hb.block _ (lt_of_heap hq)).trans hq, Chg.of_below hb⟩
theorem StN.more {P : World → Prop} {q : Nat} {ob' : Obj} {w2 : World} {i : Nat} {u : Value} {cs : Array Value} (h : StN P q (.cells cs 126 (0, 0)) w2) (he : ob' = .cells (cs.setIfInBounds i u) 126 (0, 0)) : StN P q ob' (w2.setCell ⟨q, i, none⟩ u) := by
  obtain ⟨w1, h1, h2, h3⟩ := h
  exact ⟨w1, h1, by rw [heap_set h2, he], h3.setCell (p := ⟨q, i, none⟩) rfl _⟩
theorem StN.below {P : World → Prop} {q : Nat} {ob : Obj} {w2 w3 : World} (h : StN P q ob w2) (hb : Below w2.heap.size w2 w3) : StN P q ob w3 := by
  obtain ⟨w1, h1, h2, h3⟩ := h
  exact ⟨w1, h1, (hb.block _ (lt_of_heap h2)).trans h2, h3.trans (Chg.of_below hb)⟩
section
variable {w : World} {q : Nat} {b C : Int} {d : Hs} {v : Value}
set_option maxRecDepth 100000 in
theorem ptr63 (q : Nat) : ∀ w, (binOp .eql 63 (.pointer (some ⟨q, 0, none⟩)) (.pointer none)).run Tryz.prog w = .ok (.bool false) w := fun w => rfl
set_option maxRecDepth 100000 in
theorem over_any (h : w.heap[q]? = some (HObj b C d v)) : Calls Tryz.prog 22 #[.pointer (some ⟨q, 0, none⟩)] w fun e w' => e = .returned (.bool (decide (d.ph = 0))) ∧ w' = w := by
  have hpn := ptr63 q
  unfold HObj at h
  have c2 : w.cell? ⟨q, 2, none⟩ = some (.int .i64 (d.ph : Int)) := cell_of h rfl
  have he : decide (d.ph = 0) = (((d.ph : Nat) : Int) == 0) := by
    by_cases e : d.ph = 0
    · simp [e]
    · have : ((d.ph : Nat) : Int) ≠ 0 := by omega
      simp [e]
  rw [he]
  generalize ((d.ph : Nat) : Int) = x at c2 ⊢
  clear h he
  go_enter Tryz.func22, Tryz.ntmps22
  go_wp2
  go_ret
  exact ⟨rfl, rfl⟩
set_option maxRecDepth 100000 in
set_option maxHeartbeats 2000000 in
theorem ready_any (h : w.heap[q]? = some (HObj b C d v)) (hok : OkR b C) : Calls Tryz.prog 74 #[.pointer (some ⟨q, 0, none⟩)] w fun e w' => e = .returned (.int .i64 (if d.ph = 0 then 0 else 61)) ∧ Below w.heap.size w w' := by
  have hpn := ptr63 q
  have hc := fun W => qCheck_any b C W
  simp only [if_pos hok] at hc
  have HC := hide hc
  unfold HObj at h
  have HH := hide h
  have c0 : w.cell? ⟨q, 0, none⟩ = some (.int .i64 b) := cell_of h rfl
  have c1 : w.cell? ⟨q, 1, none⟩ = some (.int .i64 C) := cell_of h rfl
  unfold qAgg at HC
  obtain ⟨x, hx⟩ : ∃ x, x = ((d.ph : Nat) : Int) := ⟨_, rfl⟩
  have HX := hide hx
  rw [← hx] at HH
  clear h hc hx
  by_cases e : d.ph = 0
  · rw [if_pos e]
    obtain rfl : x = 0 := by rw [HX.out, e]; rfl
    go_enter Tryz.func74, Tryz.ntmps74
    go_wp2_with (go_at_call 65; refine (HC.out _).mono ?_; rintro e w2 ⟨rfl, hb2⟩; have HB := hide hb2; have c2 : w2.cell? ⟨q, 2, none⟩ = some (.int .i64 0) := cell_of ((hb2.block _ (lt_of_heap HH.out)).trans HH.out) rfl; clear hb2)
    go_ret
    exact ⟨rfl, HB.out⟩
  · rw [if_neg e]
    have hx0 : (x != 0) = true := by have := HX.out; simp; omega
    go_enter Tryz.func74, Tryz.ntmps74
    go_wp2_with (go_at_call 65; refine (HC.out _).mono ?_; rintro e w2 ⟨rfl, hb2⟩; have HB := hide hb2; have c2 : w2.cell? ⟨q, 2, none⟩ = some (.int .i64 x) := cell_of ((hb2.block _ (lt_of_heap HH.out)).trans HH.out) rfl; clear hb2)
    go_ret
    exact ⟨rfl, HB.out⟩
/-- One task in a block of its own. -/
theorem t_one {w : World} {g fr : Nat} {x y : Int} (h : w.heap[g]? = some (.cells #[.int .u64 x, .int .u64 y] 42 (0, 0))) (hf : fr ≤ g) : TOwn w fr (.slice (some ⟨g, 0, none⟩) 1 1) [(x, y)] :=
  ⟨rfl, .inr ⟨g, 1, _, rfl, hf, h, Nat.le_refl _, by decide, rfl, rfl⟩⟩
set_option maxRecDepth 100000 in
set_option maxHeartbeats 2000000 in
/-- An operation ends. -/
theorem end_any {P : World → Prop} (h : StN P q (HObj b C d v) w) (st : Int) (ao : Option Addr) (n c : Nat) (out : List Tk) : Calls Tryz.prog 82 #[.pointer (some ⟨q, 0, none⟩), .int .i64 st, .slice ao n c] w fun e w' => e = .returned (.tuple #[]) ∧ StN P q (HObj b C (d.fin st out) (.slice ao n c)) w' ∧ Chg (fun k => k = q) w w' := by
  have HS := hide h
  obtain ⟨w0, h1, hq, h3⟩ := h
  unfold HObj at hq
  have f2 := free_of hq 2; have f6 := free_of hq 6; have f7 := free_of hq 7
  have c2 := cell_of hq (i := 2) rfl; have c6 := cell_of hq (i := 6) rfl; have c7 := cell_of hq (i := 7) rfl
  have HF : Hid (StN P q (HObj b C (d.fin st out) (.slice ao n c)) ((((w.setCell ⟨q, 2, none⟩ (.int .i64 0))).setCell ⟨q, 6, none⟩ (.int .i64 st)).setCell ⟨q, 7, none⟩ (.slice ao n c))) := hide ((((HS.out).more rfl).more rfl).more rfl)
  have HG : Hid (Chg (fun k => k = q) w ((((w.setCell ⟨q, 2, none⟩ (.int .i64 0))).setCell ⟨q, 6, none⟩ (.int .i64 st)).setCell ⟨q, 7, none⟩ (.slice ao n c))) := hide ((((Chg.refl (fun k => k = q) w).setCell (p := ⟨q, 2, none⟩) rfl _).setCell (p := ⟨q, 6, none⟩) rfl _).setCell (p := ⟨q, 7, none⟩) rfl _)
  clear hq h1 h3 HS
  go_enter Tryz.func82, Tryz.ntmps82
  go_wp2_with fail
  first | go_end0 | refine bodyPost_ret (results_none rfl _ _ _) rfl ?_
  exact ⟨rfl, HF.out, HG.out⟩
/-- What a step leaves: the reply is as it was, or in a block of its own. -/
def StH (P : World → Prop) (q : Nat) (b C : Int) (d d' : Hs) (v : Value) (w' : World) : Prop := ∃ w2 v', P w2 ∧ w'.heap[q]? = some (HObj b C d' v') ∧ (v' = v ∧ d'.out = d.out ∨ TOwn w' w2.heap.size v' d'.out) ∧ Chg (fun k => k = q) w2 w'
theorem StN.st {P : World → Prop} {d' : Hs} {w' : World} (h : StN P q (HObj b C d' v) w') (ho : d'.out = d.out) : StH P q b C d d' v w' := by
  obtain ⟨w2, h1, h2, h3⟩ := h
  exact ⟨w2, v, h1, h2, .inl ⟨rfl, ho⟩, h3⟩
theorem StN.fin {P : World → Prop} {d0 d' : Hs} {v0 : Value} {ob : Obj} {w2 : World} {x y : Int} (h : StN P q ob w) (hst : StN P q (HObj b C d' (.slice (some ⟨w.heap.size, 0, none⟩) 1 1)) w2) (hch : Chg (fun k => k = q) (w.alloc (.cells #[.int .u64 x, .int .u64 y] 42)) w2) (ho : d'.out = [(x, y)]) : StH P q b C d0 d' v0 w2 := by
  obtain ⟨w0, h1, h2, h3⟩ := h
  obtain ⟨_, _, e2, _⟩ := hst
  refine ⟨w0, _, h1, e2, .inr ?_, (h3.trans (Chg.of_below (below_alloc (Below.refl _ _) _))).trans hch⟩
  rw [ho]
  exact t_one (hch.heap (heap_new w _) (fun e => by have := lt_of_heap h2; omega)) h3.size
theorem StN.fin0 {P : World → Prop} {d0 d' : Hs} {v0 : Value} {w2 : World} (hst : StN P q (HObj b C d' (.slice none 0 0)) w2) (ho : d'.out = []) : StH P q b C d0 d' v0 w2 := by
  obtain ⟨w0, h1, e2, h3⟩ := hst
  exact ⟨w0, _, h1, e2, .inr (by rw [ho]; exact TOwn.nil _ _), h3⟩
set_option maxRecDepth 100000 in
set_option maxHeartbeats 2000000 in
theorem lookRoom_any {P : World → Prop} (x : Int) (h : StN P q (HObj b C d v) w) (hd : d.ph = 2) :
    Calls Tryz.prog 78 #[.pointer (some ⟨q, 0, none⟩), .int .u64 x] w fun e w' => e = .returned (.tuple #[]) ∧ StH P q b C d (d.next C.toNat x) v w' := by
  have HS := hide h
  obtain ⟨w0, h1, hq, h3⟩ := h
  unfold HObj at hq
  rw [hd] at hq
  have c2 := cell_of hq (i := 2) rfl; have c3 := cell_of hq (i := 3) rfl; have c4 := cell_of hq (i := 4) rfl; have c5 := cell_of hq (i := 5) rfl
  have f2 := free_of hq 2
  obtain ⟨p, hp⟩ : ∃ p, p = d.place := ⟨_, rfl⟩
  have HP := hide hp
  rw [← hp] at c3
  have hN : Hid (d.next C.toNat x = if x = p then { d with ph := 3 } else if x < p then d.fin 3 [d.t] else { d with ph := 1 }) := by unfold Hid Hs.next; simp only [hd, hp]
  obtain ⟨ky, hky⟩ : ∃ p, p = d.t.1 := ⟨_, rfl⟩
  obtain ⟨ld, hld⟩ : ∃ p, p = d.t.2 := ⟨_, rfl⟩
  have HT : Hid (d.t = (ky, ld)) := by unfold Hid; rw [hky, hld]
  rw [← hky] at c4; rw [← hld] at c5
  clear hq h1 h3 hp hky hld hd
  by_cases e1 : x = p
  · have e1b : (x == p) = true := by simpa using e1
    have HE : Hid (StN P q (HObj b C { d with ph := 3 } v) (w.setCell ⟨q, 2, none⟩ (.int .i64 3))) := hide ((HS.out).more rfl)
    rw [show d.next C.toNat x = { d with ph := 3 } by rw [hN.out, if_pos e1]]
    clear e1 HS
    go_enter Tryz.func78, Tryz.ntmps78
    go_wp2_with fail
    first | go_end0 | refine bodyPost_ret (results_none rfl _ _ _) rfl ?_
    exact ⟨rfl, HE.out.st rfl⟩
  · have e1b : (x == p) = false := by simpa using e1
    by_cases e2 : x < p
    · rw [show d.next C.toNat x = d.fin 3 [d.t] by rw [hN.out, if_neg e1, if_pos e2]]
      have HW := hide (show StN P q (HObj b C d v) (w.alloc (.cells #[.int .u64 ky, .int .u64 ld] 42)) from HS.out.below (below_alloc (Below.refl _ _) _))
      have HEN := hide (end_any (b := b) (C := C) HW.out 3 (some ⟨w.heap.size, 0, none⟩) 1 1 [d.t])
      have HS0 := HS
      clear e1 HS
      go_enter Tryz.func78, Tryz.ntmps78
      go_wp2_with fail
      refine HEN.out.mono ?_
      rintro e w2 ⟨rfl, hst, hch⟩
      have HST := hide hst
      have HCH := hide hch
      clear hst hch
      go_wp2_with fail
      first | go_end0 | refine bodyPost_ret (results_none rfl _ _ _) rfl ?_
      exact ⟨rfl, HS0.out.fin HST.out HCH.out (by rw [HT.out]; rfl)⟩
    · have e2b : ¬ x < p := e2
      have HE : Hid (StN P q (HObj b C { d with ph := 1 } v) (w.setCell ⟨q, 2, none⟩ (.int .i64 1))) := hide ((HS.out).more rfl)
      rw [show d.next C.toNat x = { d with ph := 1 } by rw [hN.out, if_neg e1, if_neg e2]]
      clear e1 HS
      go_enter Tryz.func78, Tryz.ntmps78
      go_wp2_with fail
      first | go_end0 | refine bodyPost_ret (results_none rfl _ _ _) rfl ?_
      exact ⟨rfl, HE.out.st rfl⟩
theorem uw_wrap (x : Int) : IntKind.u64.wrap x = uw x := by
  simp [IntKind.wrap, IntKind.signed, IntKind.bits, uw]
set_option maxRecDepth 100000 in
set_option maxHeartbeats 2000000 in
theorem lookTask_any {P : World → Prop} (x : Int) (h : StN P q (HObj b C d v) w) (hd : d.ph = 8) :
    Calls Tryz.prog 84 #[.pointer (some ⟨q, 0, none⟩), .int .u64 x] w fun e w' => e = .returned (.tuple #[]) ∧ StH P q b C d (d.next C.toNat x) v w' := by
  have HS := hide h
  obtain ⟨w0, h1, hq, h3⟩ := h
  unfold HObj at hq
  rw [hd] at hq
  have c2 := cell_of hq (i := 2) rfl; have c3 := cell_of hq (i := 3) rfl
  have f2 := free_of hq 2
  obtain ⟨p, hp⟩ : ∃ p, p = d.place := ⟨_, rfl⟩
  have HP := hide hp
  rw [← hp] at c3
  obtain ⟨u, hu⟩ : ∃ u, u = uw (p + 1) := ⟨_, rfl⟩
  have hw1 : IntKind.u64.wrap (p + 1) = u := by rw [uw_wrap, hu]
  have hN : Hid (d.next C.toNat x = if x = u then { d with ph := 9 } else if x < u then d.fin 2 [] else { d with ph := 7 }) := by unfold Hid Hs.next; simp only [hd, hu, hp]
  clear hq h1 h3 hp hd hu
  by_cases e1 : x = u
  · have e1b : (x == u) = true := by simpa using e1
    have HE : Hid (StN P q (HObj b C { d with ph := 9 } v) (w.setCell ⟨q, 2, none⟩ (.int .i64 9))) := hide ((HS.out).more rfl)
    rw [show d.next C.toNat x = { d with ph := 9 } by rw [hN.out, if_pos e1]]
    clear e1 HS
    go_enter Tryz.func84, Tryz.ntmps84
    go_wp2_with fail
    first | go_end0 | refine bodyPost_ret (results_none rfl _ _ _) rfl ?_
    exact ⟨rfl, HE.out.st rfl⟩
  · have e1b : (x == u) = false := by simpa using e1
    by_cases e2 : x < u
    · rw [show d.next C.toNat x = d.fin 2 [] by rw [hN.out, if_neg e1, if_pos e2]]
      have HEN := hide (end_any (b := b) (C := C) HS.out 2 none 0 0 [])
      clear e1 HS
      go_enter Tryz.func84, Tryz.ntmps84
      go_wp2_with fail
      refine HEN.out.mono ?_
      rintro e w2 ⟨rfl, hst, _⟩
      have HST := hide hst
      clear hst
      go_wp2_with fail
      first | go_end0 | refine bodyPost_ret (results_none rfl _ _ _) rfl ?_
      exact ⟨rfl, HST.out.fin0 rfl⟩
    · have e2b : ¬ x < u := e2
      have HE : Hid (StN P q (HObj b C { d with ph := 7 } v) (w.setCell ⟨q, 2, none⟩ (.int .i64 7))) := hide ((HS.out).more rfl)
      rw [show d.next C.toNat x = { d with ph := 7 } by rw [hN.out, if_neg e1, if_neg e2]]
      clear e1 HS
      go_enter Tryz.func84, Tryz.ntmps84
      go_wp2_with fail
      first | go_end0 | refine bodyPost_ret (results_none rfl _ _ _) rfl ?_
      exact ⟨rfl, HE.out.st rfl⟩
theorem either_any (b : Bool) (x y : Int) (w : World) : Calls Tryz.prog 79 #[.bool b, .int .i64 x, .int .i64 y] w fun e w' => e = .returned (.int .i64 (if b then x else y)) ∧ w' = w := by
  cases b
  · go_enter Tryz.func79, Tryz.ntmps79
    go_wp2
    go_ret
    exact ⟨rfl, rfl⟩
  · go_enter Tryz.func79, Tryz.ntmps79
    go_wp2
    go_ret
    exact ⟨rfl, rfl⟩
end
end Go.Proofs.YtgjdjdgondpjeaaGreat
