/- slices.DeleteFunc of ints; the turns by moments, plainly. -/
import Derived.Test.YtfoeljcgbfpknaaB4
namespace Go.Proofs.Ytfoeljcgbfpknaa
open Go.RowKit Go.Lib Go.Maps
set_option linter.unusedVariables false
set_option linter.unusedSimpArgs false
theorem arr_take {w : World} {g m i : Nat} {X : List Int} (h : Arr w g X) (hm : X.length = m) (hi : i ≤ m) (h63 : m ≤ 9223372036854775807) (vs : List Value) : RowAt .i64 (w.setCells g i vs) (.slice (some ⟨g, 0, none⟩) i m) (X.take i) := by
  have hl : (X.take i).length = i := by rw [List.length_take]; omega
  refine ⟨_, m, by rw [hl], by omega, h63, fun e => (by cases e), fun a ha t ht => ?_⟩
  cases ha
  rw [hl] at ht
  rw [Addr.add_lit, Nat.zero_add, World.cell?_setCells_out g vs i w ⟨g, t, none⟩ (fun _ _ => .inl ht), h.cell t (by omega)]
  simp [at_, List.getElem?_take_of_lt ht]
set_option maxRecDepth 100000 in
set_option maxHeartbeats 4000000 in
theorem deleteFunc_any (g m : Nat) (L : List Int) (w : World) (h : Arr w g L) (hm : L.length = m) (hb : m ≤ 1048576) : Calls Try.prog 70 #[.slice (some ⟨g, 0, none⟩) m m, .func (.func 71) #[] #[]] w fun x w' => ∃ v, x = .returned v ∧ RowAt .i64 w' v (flt L) ∧ Chg (fun k => k = g) w w' := by
  have HIX := hide (indexNone_any g m L w h hm hb)
  have HC := hide (fun x W => isNone_any x W)
  have H := hide h
  have HM := hide hm
  clear h hm
  go_enter Try.func70, Try.ntmps70
  go_wp2_with fail
  refine HIX.out.mono ?_
  rintro e w1 ⟨hb1, r, rfl, hr⟩
  have HB1 := hide hb1
  have HA1 : Hid (Arr w1 g L) := H.out.below hb1 (lt_of_heap H.out)
  clear hb1 HIX
  rcases hr with ⟨i, hi, he, hn, rfl⟩ | ⟨hno, rfl⟩
  · have HDL := hide (Dl.start hi he hn)
    have HIL : Hid (i < m) := by rw [← HM.out]; exact hi
    have hib : (i : Int) ≤ 1048576 := by have := HIL.out; omega
    have hin : ((i : Int) == -1) = false := by simp
    clear hi he hn
    go_wp2_with fail
    go_loopw [5, 6] (fun ti tj wr => ∃ (i j : Nat) (X : List Int), j ≤ m ∧ ti = .int .i64 (i : Int) ∧ tj = .int .i64 (j : Int) ∧ Arr wr g X ∧ Dl L X i j ∧ Chg (fun k => k = g) w wr) (fun _ tj _ => m - (RowKit.intOf tj).toNat)
    case atStart => exact ⟨i, i + 1, L, by have := HIL.out; omega, rfl, by simp, HA1.out, HDL.out, Chg.of_below HB1.out⟩
    case round =>
      clear HDL HA1 HB1 hib hin HIL
      obtain ⟨i, j, X, hjm, rfl, rfl, har, hdl, hch⟩ := hrel
      have HA := hide har; have HD := hide hdl; have HCH := hide hch
      clear har hdl hch
      have hij := HD.out.lt
      have hxl : Hid (X.length = m) := HD.out.len.trans HM.out
      by_cases hlt : j < m
      · have hli : (j : Int) < (m : Int) := by omega
        have him : (i : Int) < (m : Int) := by omega
        have y0 := HA.out.cell j (by rw [hxl.out]; exact hlt)
        rw [HD.out.hi j (Nat.le_refl _) (by rw [HM.out]; exact hlt)] at y0
        have HCC := hide (HC.out (at_ L j) wr)
        have HSK : Hid (at_ L j = -1 → Dl L X i (j + 1)) := fun e => HD.out.skip (by rw [HM.out]; exact hlt) e
        have HKP : Hid (at_ L j ≠ -1 → Dl L (X.set i (at_ L j)) (i + 1) (j + 1)) := fun e => HD.out.keep (by rw [HM.out]; exact hlt) e
        generalize at_ L j = y at y0 HCC HSK HKP
        by_cases hy : y = -1
        · have hyb : (y == -1) = true := by simp [hy]
          rw [hyb] at HCC
          have HY := hide (HSK.out hy)
          clear hy hyb
          go_wp2_with fail
          refine HCC.out.mono ?_
          rintro e w2 ⟨rfl, hb2⟩
          have HA2 : Hid (Arr w2 g X) := HA.out.below hb2 (lt_of_heap HA.out)
          have HC2 := hide (HCH.out.trans (Chg.of_below hb2))
          clear hb2
          go_wp2_with fail
          exact ⟨⟨i, j + 1, X, by omega, rfl, by simp, HA2.out, HY.out, HC2.out⟩, by simp [RowKit.intOf]; omega⟩
        · have hyb : (y == -1) = false := by simp [hy]
          rw [hyb] at HCC
          have HY := hide (HKP.out hy)
          clear hy hyb
          go_wp2_with fail
          refine HCC.out.mono ?_
          rintro e w2 ⟨rfl, hb2⟩
          have HA2 : Hid (Arr w2 g X) := HA.out.below hb2 (lt_of_heap HA.out)
          have HC2 := hide (HCH.out.trans (Chg.of_below hb2))
          have x0 := HA2.out.cell i (by rw [hxl.out]; omega)
          have xf := HA2.out.free
          have HA3 := hide (HA2.out.put i y)
          have HC3 := hide (HC2.out.setCell (p := ⟨g, i, none⟩) rfl (.int .i64 y))
          clear hb2
          go_wp2_with fail
          exact ⟨⟨i + 1, j + 1, _, by omega, by simp, by simp, HA3.out, HY.out, HC3.out⟩, by simp [RowKit.intOf]; omega⟩
      · obtain rfl : m = j := by omega
        have him : (i : Int) ≤ (m : Int) := by omega
        have hne : ¬ m = i := by omega
        have hilt : i ≤ m := by omega
        obtain ⟨q, hq⟩ : ∃ q, m - i = q + 1 := ⟨m - i - 1, by omega⟩
        have hcl : ∀ c ty, (Builtin.clear_ #[23] ty #[.slice (some ⟨g, i, none⟩) (m - i) c]).run Try.prog wr = .ok (.tuple #[]) (wr.setCells g i (Builtin.zeroCells (Value.int .i64 0).cells (m - i)).toList) := fun c ty => by
          rw [hq]
          exact run_clearI HA.out (by rw [hxl.out]; omega) ty
        have HF : Hid (X.take i = flt L) := by
          have := HD.out.low
          rw [← HM.out, List.take_length] at this
          exact this
        have HRW := hide (arr_take HA.out hxl.out hilt (by omega) (Builtin.zeroCells (Value.int .i64 0).cells (m - i)).toList)
        have HCF := hide (chg_setCells (S := fun k => k = g) rfl (Builtin.zeroCells (Value.int .i64 0).cells (m - i)).toList i _ _ HCH.out)
        rw [HF.out] at HRW
        clear hq
        go_wp2_with fail
        go_ret
        exact ⟨_, rfl, HRW.out, HCF.out⟩
  · have HF : Hid (flt L = L) := flt_all hno
    have HRW := hide (HA1.out.row HM.out (by omega))
    clear hno
    go_wp2_with fail
    go_ret
    exact ⟨_, rfl, by rw [HF.out]; exact HRW.out, Chg.of_below HB1.out⟩
open Classical in
/-- Whose turn it is at t, as far as the first i spans tell. -/
noncomputable def tnB (l : List Sp) : Nat → Nat → Int
  | 0, _ => -1
  | i + 1, t => if InB l i ∧ momB (spAt l i) = (t : Int) then (i : Int) else tnB l i t
theorem tnB_in {l : List Sp} {i : Nat} (h : InB l i) (t : Nat) : tnB l (i + 1) t = if momB (spAt l i) = (t : Int) then (i : Int) else tnB l i t := by
  conv => lhs; unfold tnB
  by_cases e : momB (spAt l i) = (t : Int)
  · rw [if_pos ⟨h, e⟩, if_pos e]
  · rw [if_neg (fun q => e q.2), if_neg e]
theorem tnB_out {l : List Sp} {i : Nat} (h : ¬ InB l i) (t : Nat) : tnB l (i + 1) t = tnB l i t := by
  conv => lhs; unfold tnB
  rw [if_neg (fun q => h q.1)]
theorem tnB_none {l : List Sp} {t : Nat} : ∀ {i : Nat}, (∀ j, j < i → ¬ (InB l j ∧ momB (spAt l j) = (t : Int))) → tnB l i t = -1
  | 0, _ => rfl
  | i + 1, h => by
    unfold tnB
    rw [if_neg (h i (by omega))]
    exact tnB_none (fun j hj => h j (by omega))
theorem tnB_some {l : List Sp} {M t j : Nat} (hs : HsAll M l) (hb : InB l j) (he : momB (spAt l j) = (t : Int)) : ∀ {i : Nat}, i ≤ l.length → j < i → tnB l i t = (j : Int)
  | 0, _, h => by omega
  | i + 1, hi, h => by
    unfold tnB
    by_cases e : InB l i ∧ momB (spAt l i) = (t : Int)
    · rw [if_pos e]
      have := mom_inj hs (by omega) (by omega) e.1 hb (e.2.trans he.symm)
      rw [this]
    · rw [if_neg e]
      by_cases q : j = i
      · subst q; exact (e ⟨hb, he⟩).elim
      · exact tnB_some hs hb he (by omega) (by omega)
/-- What is left of the turns by moments is the order. -/
theorem flt_turns {l : List Sp} {M : Nat} (hs : HsAll M l) : ∀ m, flt (tab m (tnB l l.length)) = ordB l m
  | 0 => rfl
  | m + 1 => by
    have ih := flt_turns hs m
    unfold flt tab at *
    rw [List.range_succ, List.map_append, List.filter_append, ih]
    cases hw : whoB l m with
    | none =>
      rw [ordB_none hw]
      have : tnB l l.length m = -1 := tnB_none (fun j hj q => whoB_none hw hj q.1 q.2)
      simp [this]
    | some j =>
      obtain ⟨w1, w2, w3⟩ := whoB_some hw
      rw [ordB_some hw]
      have : tnB l l.length m = (j : Int) := tnB_some hs w2 w3 (Nat.le_refl _) w1
      simp only [List.map_cons, List.map_nil, this]
      congr 1
end Go.Proofs.Ytfoeljcgbfpknaa
