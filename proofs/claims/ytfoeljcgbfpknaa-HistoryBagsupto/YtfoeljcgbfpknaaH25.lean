/- The program's bearsOut, the document's Bears: what bears a history out. -/
import Derived.Test.YtfoeljcgbfpknaaH24
namespace Go.Proofs.Ytfoeljcgbfpknaa
open Go.RowKit Go.Lib
set_option linter.unusedVariables false
set_option linter.unusedSimpArgs false
theorem few_of {l : List Sp} {o : List Int} (h1 : ∀ k, k < o.length → 0 ≤ at_ o k ∧ at_ o k < (l.length : Int)) (h2 : ∀ k, k < o.length → std o k (oN o k) = false) : o.length ≤ l.length := by
  have hl : ((List.range o.length).map (oN o)).length = o.length := by simp
  rw [← hl]
  refine nodup_le _ _ ?_ (fun x hx => ?_)
  · rw [List.nodup_iff_pairwise_ne, List.pairwise_iff_getElem]
    intro i j hi hj hij
    simp only [List.length_map, List.length_range] at hi hj
    simp only [List.getElem_map, List.getElem_range]
    intro e
    have := (std_iff o (i := j) (t := oN o j)).2 ⟨i, hij, e⟩
    rw [h2 j hj] at this
    cases this
  · obtain ⟨k, hk, rfl⟩ := List.mem_map.1 hx
    have := h1 k (by simpa using hk)
    unfold oN
    omega
theorem trn_few {l : List Sp} {o : List Int} {q : Bool} (h : Trn l o q) : o.length ≤ l.length := few_of (fun k hk => ⟨(h.1 k hk).1, (h.1 k hk).2.1⟩) (fun k hk => (h.1 k hk).2.2.1)
theorem lsd_few {l : List Sp} {o : List Int} {q : Bool} (h : Lsd l o q) : o.length ≤ l.length := few_of (fun k hk => ⟨(h.1 k hk).1, (h.1 k hk).2.1⟩) (fun k hk => (std_no _ _ _).2 (h.1 k hk).2.2.1)
/-- What bearsOut asks. -/
def BoA (l : List Sp) (o : List Int) (q : Bool) : Prop := Trn l o q ∧ (∀ k, k < o.length → ktP l o k) ∧ (play q nOp l o o.length).isSome = true
def BrA (l : List Sp) (o : List Int) (q : Bool) : Prop := Lsd l o q ∧ (play q cntD l o o.length).isSome = true
def AnP (p : Prop) (w : World) (x : Ending) (w' : World) : Prop := Below w.heap.size w w' ∧ ∃ b : Bool, x = .returned (.bool b) ∧ (b = true ↔ p)
theorem AnP.no {p : Prop} {w w' : World} {x : Ending} (hb : Below w.heap.size w w') (hx : x = .returned (.bool false)) (h : ¬ p) : AnP p w x w' := ⟨hb, false, hx, fun e => (by cases e), fun e => (h e).elim⟩
theorem AnP.yes {p : Prop} {w w' : World} {x : Ending} (hb : Below w.heap.size w w') (hx : x = .returned (.bool true)) (h : p) : AnP p w x w' := ⟨hb, true, hx, fun _ => h, fun _ => rfl⟩
theorem AnP.made {p : Prop} {w w' : World} {x : Ending} {b : Bool} (hb : Below w.heap.size w w') (hx : x = .returned (.bool b)) (h : b = true ↔ p) : AnP p w x w' := ⟨hb, b, hx, h⟩
set_option maxRecDepth 100000 in
set_option maxHeartbeats 4000000 in
theorem bearsOut_any (v vo : Value) (l : List Sp) (o : List Int) (q : Bool) (w : World) (h : RAt Sp.arr 7 w v l) (ho : RowAt .i64 w vo o) (hl : l.length ≤ 1759218604440) : Calls Try.prog 32 #[v, vo, .bool q] w (AnP (BoA l o q) w) := by
  have HT := hide (areTurns_any v vo l o q w h ho hl)
  have HK := hide (fun W (hb : Below w.heap.size w W) (t : Trn l o q) => keepTime_any v vo l o W (h.below hb) (ho.below hb) (fun k hk => ⟨(t.1 k hk).1, (t.1 k hk).2.1⟩))
  have HQ := hide (fun W (hb : Below w.heap.size w W) (t : Trn l o q) => playQueue_any v vo l o W (h.below hb) (ho.below hb) (fun k hk => ⟨(t.1 k hk).1, (t.1 k hk).2.1⟩) (Nat.le_trans (trn_few t) hl))
  have HB := hide (fun W (hb : Below w.heap.size w W) (t : Trn l o q) => playBag_any v vo l o W (h.below hb) (ho.below hb) (fun k hk => ⟨(t.1 k hk).1, (t.1 k hk).2.1⟩) (Nat.le_trans (trn_few t) hl))
  obtain ⟨ao, cap, rfl, _, _⟩ := h.shape
  obtain ⟨bo, bc, rfl⟩ := ho.shape
  clear h ho hl
  go_enter Try.func32, Try.ntmps32
  go_wp2_with fail
  refine HT.out.mono ?_
  rintro e w1 ⟨hb1, b1, rfl, hi1⟩
  have HB1 := hide hb1
  have HI1 := hide hi1
  clear hb1 hi1 HT
  cases b1 with
  | false =>
    have HNO : Hid (¬ BoA l o q) := fun hh => by have := HI1.out.2 hh.1; cases this
    clear HI1 HK HQ HB
    go_wp2_with fail
    go_ret
    exact AnP.no HB1.out rfl HNO.out
  | true =>
    have HTR := hide (HI1.out.1 rfl)
    have HK2 := hide (HK.out w1 HB1.out HTR.out)
    clear HI1 HK
    go_wp2_with fail
    refine HK2.out.mono ?_
    rintro e w2 ⟨hb2, b2, rfl, hi2⟩
    have HB2 := hide (below_on HB1.out hb2)
    have HI2 := hide hi2
    clear hb2 hi2 HK2
    cases b2 with
    | false =>
      have HNO : Hid (¬ BoA l o q) := fun hh => by have := HI2.out.2 hh.2.1; cases this
      clear HI2 HQ HB
      go_wp2_with fail
      go_ret
      exact AnP.no HB2.out rfl HNO.out
    | true =>
      have HKT := hide (HI2.out.1 rfl)
      clear HI2
      cases q with
      | true =>
        have HQ2 := hide (HQ.out w2 HB2.out HTR.out)
        clear HQ HB
        go_wp2_with fail
        refine HQ2.out.mono ?_
        rintro e w3 ⟨hb3, b3, rfl, hi3⟩
        have HB3 := hide (below_on HB2.out hb3)
        have HI3 : Hid (b3 = true ↔ BoA l o true) := ⟨fun a => ⟨HTR.out, HKT.out, hi3.1 a⟩, fun a => hi3.2 a.2.2⟩
        clear hb3 hi3 HQ2
        go_wp2_with fail
        go_ret
        exact AnP.made HB3.out rfl HI3.out
      | false =>
        have HQ2 := hide (HB.out w2 HB2.out HTR.out)
        clear HQ HB
        go_wp2_with fail
        refine HQ2.out.mono ?_
        rintro e w3 ⟨hb3, ⟨hn, rfl⟩ | ⟨c, hc, v3, rfl, ho3⟩⟩
        · have HB3 := hide (below_on HB2.out hb3)
          have HNO : Hid (¬ BoA l o false) := fun hh => by have := hh.2.2; rw [hn] at this; cases this
          clear hb3 hn HQ2
          go_wp2_with fail
          go_ret
          exact AnP.no HB3.out rfl HNO.out
        · have HB3 := hide (below_on HB2.out hb3)
          have HYE : Hid (BoA l o false) := ⟨HTR.out, HKT.out, by rw [hc]; rfl⟩
          clear hb3 hc HQ2 ho3
          go_wp2_with fail
          go_ret
          exact AnP.yes HB3.out rfl HYE.out
end Go.Proofs.Ytfoeljcgbfpknaa
