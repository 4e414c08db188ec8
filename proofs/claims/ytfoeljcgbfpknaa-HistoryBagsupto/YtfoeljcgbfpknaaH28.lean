/- Both Follows; HistoryFollows. -/
import Derived.Test.YtfoeljcgbfpknaaH26
import Derived.Test.YtfoeljcgbfpknaaH27
namespace Go.Proofs.Ytfoeljcgbfpknaa
open Go.RowKit Go.Lib
set_option linter.unusedVariables false
set_option linter.unusedSimpArgs false
theorem bo_br {l : List Sp} {m : Nat} (h : HsAll m l) (o : List Int) (q : Bool) : BoA l o q ↔ BrA l o q := by
  unfold BoA BrA
  rw [listed_iff h]
  constructor
  · rintro ⟨h1, h2, h3⟩
    refine ⟨⟨h1, h2⟩, ?_⟩
    rw [← h3]
    congr 1
    refine play_same fun i hi hn hq => ?_
    subst hq
    obtain ⟨a, b, c, d⟩ := h1.1 i hi
    have hlt : oN o i < l.length := by unfold oN; omega
    have hk := (h _ hlt).kf
    generalize spAt l (oN o i) = s at hn d hk
    unfold cntD nOp
    rw [if_neg (by rw [hn]; decide)]
    by_cases he : s.en = -1
    · have := ((kfit_open he).1 hk).1
      simp [this, he]
    · unfold mayP at d
      rcases (kfit_out he hn).1 hk with e | ⟨e | e, _⟩ <;> simp [e, he] at d ⊢
  · rintro ⟨⟨h1, h2⟩, h3⟩
    refine ⟨h1, h2, ?_⟩
    rw [← h3]
    congr 1
    refine play_same fun i hi hn hq => ?_
    subst hq
    obtain ⟨a, b, c, d⟩ := h1.1 i hi
    have hlt : oN o i < l.length := by unfold oN; omega
    have hk := (h _ hlt).kf
    generalize spAt l (oN o i) = s at hn d hk
    unfold cntD nOp
    rw [if_neg (by rw [hn]; decide)]
    by_cases he : s.en = -1
    · have := ((kfit_open he).1 hk).1
      simp [this, he]
    · unfold mayP at d
      rcases (kfit_out he hn).1 hk with e | ⟨e | e, _⟩ <;> simp [e, he] at d ⊢
theorem FiA.hs {l : List Sp} (h : FiA l 0) : HsAll (momD l l.length) l := by
  rcases h with ⟨_, e⟩ | ⟨h1, _, e⟩ | ⟨h1, _, _, e⟩ | ⟨h1, _, _, _⟩
  · cases e
  · exact h1
  · exact h1
  · exact h1
/-- What Follow answers. -/
def FwA (l : List Sp) (o : List Int) (q : Bool) (r : Int) (b : Bool) : Prop := FiA l r ∧ (r = 0 → (b = true ↔ BrA l o q)) ∧ (r ≠ 0 → b = false)
theorem FwA.one {l : List Sp} {o : List Int} {q : Bool} {r r' : Int} {b b' : Bool} (h : FwA l o q r b) (k : FwA l o q r' b') : r = r' ∧ b = b' := by
  obtain ⟨h1, h2, h3⟩ := h
  obtain ⟨k1, k2, k3⟩ := k
  have e := FiA.one h1 k1
  subst e
  refine ⟨rfl, ?_⟩
  by_cases hr : r = 0
  · have a := h2 hr; have c := k2 hr
    cases b <;> cases b' <;> simp_all
  · rw [h3 hr, k3 hr]
def FwP (l : List Sp) (o : List Int) (q : Bool) (w : World) (x : Ending) (w' : World) : Prop := Below w.heap.size w w' ∧ ∃ r b, x = .returned (.tuple #[.bool b, .int .i64 r]) ∧ FwA l o q r b
theorem FwP.made {l : List Sp} {o : List Int} {q : Bool} {w w' : World} {x : Ending} {r : Int} {b : Bool} (hb : Below w.heap.size w w') (hx : x = .returned (.tuple #[.bool b, .int .i64 r])) (h : FwA l o q r b) : FwP l o q w x w' := ⟨hb, r, b, hx, h⟩
set_option maxRecDepth 100000 in
set_option maxHeartbeats 4000000 in
theorem follow_any (v vo : Value) (l : List Sp) (o : List Int) (q : Bool) (w : World) (h : RAt Sp.arr 7 w v l) (ho : RowAt .i64 w vo o) (ht : Tok l) (hw : Wok l) (hl : l.length ≤ 1759218604440) : Calls Try.prog 12 #[v, vo, .bool q] w (FwP l o q w) := by
  have HL := hide (look_any v l w h ht hw hl)
  have HB := hide (fun W (hb : Below w.heap.size w W) => bearsOut_any v vo l o q W (h.below hb) (ho.below hb) hl)
  obtain ⟨ao, cap, rfl, _, _⟩ := h.shape
  obtain ⟨bo, bc, rfl⟩ := ho.shape
  clear h ho hl ht hw
  go_enter Try.func12, Try.ntmps12
  go_wp2_with fail
  refine HL.out.mono ?_
  rintro e w1 ⟨hb1, r, rfl, hfi⟩
  have HB1 := hide hb1
  have HFI := hide hfi
  clear hb1 hfi HL
  by_cases hr : r = 0
  · subst hr
    have HB2 := hide (HB.out w1 HB1.out)
    clear HB
    go_wp2_with fail
    refine HB2.out.mono ?_
    rintro e w2 ⟨hb2, b, rfl, hi2⟩
    have HB3 := hide (below_on HB1.out hb2)
    have HA : Hid (FwA l o q 0 b) := ⟨HFI.out, fun _ => by rw [hi2]; exact bo_br HFI.out.hs o q, fun e => (e rfl).elim⟩
    clear hb2 hi2 HB2 HFI
    go_wp2_with fail
    go_ret2
    exact FwP.made HB3.out rfl HA.out
  · have hrb : (r != 0) = true := by simp [hr]
    have HA : Hid (FwA l o q r false) := ⟨HFI.out, fun e => (hr e).elim, fun _ => rfl⟩
    clear hr HFI HB
    go_wp2_with fail
    go_ret2
    exact FwP.made HB1.out rfl HA.out
set_option maxRecDepth 100000 in
set_option maxHeartbeats 4000000 in
theorem refFollow_any (v vo : Value) (l : List Sp) (o : List Int) (q : Bool) (w : World) (h : RAt Sp.arr 7 w v l) (ho : RowAt .i64 w vo o) (hl : l.length ≤ 1759218604440) : Calls Try.prog 9 #[v, vo, .bool q] w (FwP l o q w) := by
  have HL := hide (first_any v l w h (by omega))
  have HB := hide (fun W (hb : Below w.heap.size w W) => bears_any v vo l o q W (h.below hb) (ho.below hb) hl)
  obtain ⟨ao, cap, rfl, _, _⟩ := h.shape
  obtain ⟨bo, bc, rfl⟩ := ho.shape
  clear h ho hl
  go_enter Try.func9, Try.ntmps9
  go_wp2_with fail
  refine HL.out.mono ?_
  rintro e w1 ⟨hb1, r, rfl, hfi⟩
  have HB1 := hide hb1
  have HFI := hide hfi
  clear hb1 hfi HL
  by_cases hr : r = 0
  · subst hr
    have HB2 := hide (HB.out w1 HB1.out)
    clear HB
    go_wp2_with fail
    refine HB2.out.mono ?_
    rintro e w2 ⟨hb2, b, rfl, hi2⟩
    have HB3 := hide (below_on HB1.out hb2)
    have HA : Hid (FwA l o q 0 b) := ⟨HFI.out, fun _ => hi2, fun e => (e rfl).elim⟩
    clear hb2 hi2 HB2 HFI
    go_wp2_with fail
    go_ret2
    exact FwP.made HB3.out rfl HA.out
  · have hrb : (r != 0) = true := by simp [hr]
    have HA : Hid (FwA l o q r false) := ⟨HFI.out, fun e => (hr e).elim, fun _ => rfl⟩
    clear hr HFI HB
    go_wp2_with fail
    go_ret2
    exact FwP.made HB1.out rfl HA.out
set_option maxRecDepth 100000 in
set_option maxHeartbeats 4000000 in
theorem follows_law (v vo : Value) (l : List Sp) (o : List Int) (q : Bool) (w : World) (h : RAt Sp.arr 7 w v l) (ho : RowAt .i64 w vo o) (ht : Tok l) (hw : Wok l) (hl : l.length ≤ 1759218604440) (hol : o.length ≤ 17592186044400) : Calls Try.prog 3 #[v, vo, .bool q] w fun x w' => x = .returned (.bool true) ∧ Below w.heap.size w w' := by
  have HR := hide (refFollow_any v vo l o q w h ho hl)
  have HS := hide (fun W (hb : Below w.heap.size w W) => spans_any v l W (h.below hb) (by omega))
  have HI := hide (fun W (hb : Below w.heap.size w W) => ints_any vo o W (ho.below hb).iat hol)
  have HSK := hide (fun W fr g c (hb : Below w.heap.size w W) hm => spansKept_any v l fr g c W (h.below hb) hm (by omega))
  have HIK := hide (fun W fr g c (hb : Below w.heap.size w W) hm => intsKept_any vo o fr g c W (ho.below hb).iat hm hol)
  have HF := hide (fun W v2 vo2 (h2 : RAt Sp.arr 7 W v2 l) (ho2 : RowAt .i64 W vo2 o) => follow_any v2 vo2 l o q W h2 ho2 ht hw hl)
  obtain ⟨ao, cap, rfl, _, _⟩ := h.shape
  obtain ⟨bo, bc, rfl⟩ := ho.shape
  clear h ho hl ht hw hol
  go_enter Try.func3, Try.ntmps3
  go_wp2_with fail
  refine HR.out.mono ?_
  rintro e w1 ⟨hb1, r, b, rfl, hfi⟩
  have HB1 := hide hb1
  have HFI := hide hfi
  have HS2 := hide (HS.out w1 hb1)
  clear hb1 hfi HR HS
  go_wp2_with fail
  refine HS2.out.mono ?_
  rintro e w2 ⟨g2, c2, rfl, hm2, hb2⟩
  have HM2 := hide hm2
  have HB2 := hide (below_on HB1.out hb2)
  have HI2 := hide (HI.out w2 HB2.out)
  clear hm2 hb2 HS2 HI
  go_wp2_with fail
  refine HI2.out.mono ?_
  rintro e w3 ⟨g3, c3, rfl, hm3, hb3⟩
  have HM3 := hide hm3
  have HB3 := hide (below_on HB2.out hb3)
  replace HM2 := hide (HM2.out.below hb3)
  have HF2 := hide (HF.out w3 _ _ (HM2.out.rat Sp.size) (iat_row (HM3.out.rat iA_size) (fun e => by cases e)))
  clear hm3 hb3 HI2 HF
  go_wp2_with fail
  refine HF2.out.mono ?_
  rintro e w4 ⟨hb4, r', b', rfl, hfi'⟩
  obtain ⟨rfl, rfl⟩ := HFI.out.one hfi'
  have HB4 := hide (below_on HB3.out hb4)
  replace HM2 := hide (HM2.out.below hb4)
  replace HM3 := hide (HM3.out.below hb4)
  have HSK2 := hide (HSK.out w4 _ g2 c2 HB4.out HM2.out)
  clear hb4 hfi' HFI HF2 HSK
  go_wp2_with fail
  refine HSK2.out.mono ?_
  rintro e w5 ⟨rfl, hb5⟩
  have HB5 := hide (below_on HB4.out hb5)
  replace HM3 := hide (HM3.out.below hb5)
  have HIK2 := hide (HIK.out w5 _ g3 c3 HB5.out HM3.out)
  clear hb5 HSK2 HIK
  go_wp2_with fail
  refine HIK2.out.mono ?_
  rintro e w6 ⟨rfl, hb6⟩
  have HB6 := hide (below_on HB5.out hb6)
  clear hb6 HIK2
  go_wp2_with fail
  go_ret
  exact ⟨rfl, HB6.out⟩
end Go.Proofs.Ytfoeljcgbfpknaa
