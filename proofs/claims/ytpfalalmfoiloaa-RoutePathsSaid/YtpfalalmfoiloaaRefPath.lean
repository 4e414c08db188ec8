/- The reference's Path. -/
import Derived.Test.YtpfalalmfoiloaaPath
namespace Go.Proofs.Ytpfalalmfoiloaa
open Go.RowKit Go.Lib
set_option linter.unusedVariables false

theorem take_next (n : Nat) (st by_ : List Int) (t j s : Nat) (h : s < j) : (back n st by_ t j).reverse.take (s + 1) = (back n st by_ t j).reverse.take s ++ [at_ (back n st by_ t j) (j - 1 - s)] := by
  have hl := back_length n st by_ t j
  generalize back n st by_ t j = l at hl
  subst hl
  rw [List.take_add_one]
  congr 1
  rw [List.getElem?_reverse (by omega)]
  simp [at_, show l.length - 1 - s < l.length by omega]

set_option maxRecDepth 100000 in
set_option maxHeartbeats 8000000 in
theorem refPath_good (n : Nat) (va vb vc : Value) (st to wt : List Int) (bv : Value) (by_ : List Int) (t : Nat) (w : World) (hg : GIs w n va vb vc st to wt) (hgd : Good n st to wt) (hc : (chk n st to wt).1 = 0)
    (hw : RowAt .i64 w bv by_) (hbl : by_.length = n) (ht : t < n) :
    Calls Try.prog 20 #[gAgg n va vb vc, bv, .int .i64 (t : Int)] w (PathPost w (pathAns n st to by_ t)) := by
  obtain ⟨i0, hi, hz0, hz1, hz2⟩ := info_parts Try.info3
  have hst : st.length ≤ 17592186044416 := by have := hgd.s_len; have := hgd.n_le; omega
  have hto : to.length ≤ 17592186044416 := by have := hgd.m_le; omega
  have hwt2 : wt.length ≤ 17592186044416 := by have := hgd.w_len; omega
  obtain ⟨ao, ca, rfl⟩ := hg.s.shape
  obtain ⟨bo, cb, rfl⟩ := hg.t.shape
  obtain ⟨co, cc, rfl⟩ := hg.u.shape
  obtain ⟨wo, wc, rfl⟩ := hw.shape
  obtain ⟨c0, c1, c2, c3, hb1, hs1⟩ := boxed w (.int .i64 n) (.slice ao st.length ca) (.slice bo to.length cb) (.slice co wt.length cc)
  have HF := hide (first_nil n _ _ _ st to wt 1 _ (hg.below hb1) hst hto hwt2)
  rw [show fstNo n st to wt 1 = 0 by unfold fstNo; rw [if_pos hc]; rfl] at HF
  have HFR := hide (fun W h => from_any n (.slice ao st.length ca) (.slice bo to.length cb) (.slice co wt.length cc) st to wt W h hgd)
  have HG1 := hide (hg.below hb1); have HW1 := hide (hw.below hb1)
  have HB1 := hide hb1
  have HVL := hide (fun j hb => vs_lt (by_ := by_) hgd ht j hb)
  have hm := hgd.m_le
  have hn := hgd.n_le
  have ht0 : decide ((t : Int) < 0) = false := decide_eq_false (by omega)
  have ht1 : decide ((n : Int) ≤ (t : Int)) = false := decide_eq_false (by omega)
  have hti : (t : Int) < (n : Int) := by omega
  unfold gAgg at HF HFR ⊢
  have HAN := hide (fun j => @path_at n st to by_ t j)
  have HWC := hide (fun (W : World) (h : RowAt .i64 W (.slice wo by_.length wc) by_) (i : Nat) (hi : i < by_.length) => h.cellAt i hi)
  rw [hbl] at HW1 HWC ⊢
  clear hb1 hg hw hgd hst hto hwt2 hbl hc
  go_enter Try.func20, Try.ntmps20
  go_wp2_with fail
  generalize (w.alloc (.cells #[.int .i64 n, .slice ao st.length ca, .slice bo to.length cb, .slice co wt.length cc] 32)) = w1 at c0 c1 c2 c3 hs1 HB1 HG1 HW1 HF ⊢
  refine HF.out.mono ?_
  rintro e w2 ⟨rfl, hb2⟩
  obtain ⟨x0, x1, x2, x3⟩ := box_keep hs1 hb2 ⟨c0, c1, c2, c3⟩
  have HBX := hide (box_keep hs1 hb2 ⟨c0, c1, c2, c3⟩)
  have HG2 := hide (HG1.out.below hb2); have HW2 := hide (HW1.out.below hb2)
  have HB2 := hide (below_on HB1.out hb2)
  have hs2 : w.heap.size < w2.heap.size := by have := hb2.size; omega
  clear c0 c1 c2 c3 hb2 HF HG1 HW1 HB1 hs1
  go_wp2_with fail
  refine (HFR.out w2 HG2.out).mono ?_
  rintro e w3 ⟨gf, rfl, hfr, hb3⟩
  have HBX3 := hide (box_keep hs2 hb3 HBX.out)
  have HG3 := hide (HG2.out.below hb3); have HW3 := hide (HW2.out.below hb3)
  have HB3 := hide (below_on HB2.out hb3)
  have hs3 : w.heap.size < w3.heap.size := by have := hb3.size; omega
  have HFC := hide (fun p (hp : p < to.length) => hfr.cellAt p (by rw [tab_length]; exact hp))
  have HO : Hid (w3.ownsRow w3.heap.size 3 1 (.slice none 0 0) 0 ((back n st by_ t 0).map (Value.int .i64))) := World.ownsRow_nil _ _ _ _
  clear x0 x1 x2 x3 hb3 HG2 HW2 HB2 HBX hfr HFR
  go_wp2
  go_loopw [11, 10] (fun q u wr => ∃ j : Nat, j ≤ n ∧ q = .int .i64 (vs n st by_ t j : Int) ∧ wr.ownsRow w3.heap.size 3 1 u j ((back n st by_ t j).map (Value.int .i64)) ∧ (∀ i, i < j → pNo n st to by_ t i = 0) ∧ Below w3.heap.size w3 wr) (fun _ u _ => n + 1 - slen u)
  case atStart => exact ⟨0, by omega, rfl, HO.out, fun j hj => by omega, Below.refl _ _⟩
  case round =>
    obtain ⟨j, hjn, rfl, hO, hall, hB⟩ := hrel
    have hvl := HVL.out j hall
    have HALL := hide hall
    have HOO := hide hO
    obtain ⟨uo, uc, rfl⟩ := owns_len hO
    obtain ⟨gw, ow, cw', hsw, hcw, d1⟩ := HWC.out wr (HW3.out.below hB) (vs n st by_ t j) hvl
    simp only [Value.slice.injEq, true_and] at hsw
    obtain ⟨rfl, rfl⟩ := hsw
    obtain ⟨x0, x1, x2, x3⟩ := box_keep hs3 hB HBX3.out
    have HB := hide hB
    have HGR := hide (HG3.out.below hB)
    have HPE := hide (fun h => HAN.out j hjn h hall)
    have HVS : Hid (vs n st by_ t (j + 1) = src st n (at_ by_ (vs n st by_ t j)).toNat) := (rfl : vs n st by_ t (j + 1) = _)
    have HBS := hide (back_succ n st by_ t j)
    have HN1 := hide (fun h => pNo_end (n := n) (st := st) (to := to) (by_ := by_) (t := t) (j := j) h)
    have HN6 := hide (fun h1 h2 => pNo_six (n := n) (st := st) (to := to) (by_ := by_) (t := t) (j := j) h1 h2)
    have HN0 := hide (fun h1 h2 => pNo_on (n := n) (st := st) (to := to) (by_ := by_) (t := t) (j := j) h1 h2)
    obtain ⟨vj, hvj⟩ : ∃ vj, vj = vs n st by_ t j := ⟨_, rfl⟩
    rw [← hvj] at hvl d1 HVS HBS HN1 HN6 HN0 ⊢
    obtain ⟨b, hb⟩ : ∃ b, b = at_ by_ vj := ⟨_, rfl⟩
    rw [← hb] at d1 HVS HBS HN1 HN6 HN0
    clear hO hall hB hvj hb HO HVL HAN
    by_cases hb1 : b = -1
    · have hbb : (b != -1) = false := by simp [hb1]
      have hr := HPE.out (by rw [HN1.out hb1]; omega)
      rw [HN1.out hb1, if_pos rfl] at hr
      have HR := hide hr
      clear hb1 hr
      go_wp2
      have HO2 : Hid (wr.ownsRow wr.heap.size 3 1 (.slice none 0 0) 0 (((back n st by_ t j).reverse.take 0).map (Value.int .i64))) := World.ownsRow_nil _ _ _ _
      have HRB : Hid (∀ W, Below wr.heap.size wr W → RowAt .i64 W (.slice uo j uc) (back n st by_ t j)) := fun W h => by
        have h5 := (RowAt.of_owns (k := .i64) (xs := back n st by_ t j) (by rw [back_length]; exact HOO.out)).below h
        exact h5
      have HTK := hide (fun s (hs : s < j) => take_next n st by_ t j s hs)
      have HLN := hide (back_length n st by_ t j)
      generalize back n st by_ t j = bk at HR HO2 HRB HTK HLN
      clear x0 x1 x2 x3 d1
      obtain ⟨wq, hwq⟩ : ∃ wq, wq = wr := ⟨_, rfl⟩
      subst hwq
      go_loopw [14, 13] (fun q u wr => ∃ s : Nat, s ≤ j ∧ q = .int .i64 ((j : Int) - 1 - (s : Int)) ∧ wr.ownsRow wq.heap.size 3 1 u s ((bk.reverse.take s).map (Value.int .i64)) ∧ Below wq.heap.size wq wr) (fun q _ _ => (RowKit.intOf q + 1).toNat)
      case atStart => exact ⟨0, by omega, by simp, HO2.out, Below.refl _ _⟩
      case round =>
        obtain ⟨s, hsj, rfl, hO3, hB3⟩ := hrel
        have HO3 := hide hO3; have HB5 := hide hB3
        by_cases hlt : s < j
        · obtain ⟨r, hr⟩ : ∃ r : Nat, (j : Int) - 1 - (s : Int) = (r : Int) := ⟨j - 1 - s, by omega⟩
          have hre : j - 1 - s = r := by omega
          have hrj : r < j := by omega
          obtain ⟨go, oo, co', hso, hco, d7⟩ := (HRB.out _ hB3).cellAt r (by have := HLN.out; omega)
          have HTS := hide (HTK.out s hlt)
          rw [hre] at HTS
          rw [HLN.out] at hso hco
          simp only [Value.slice.injEq, true_and] at hso
          obtain ⟨rfl, rfl⟩ := hso
          obtain ⟨po, pc, rfl⟩ := owns_len hO3
          obtain ⟨z, hz⟩ : ∃ z, z = at_ bk r := ⟨_, rfl⟩
          rw [← hz] at HTS d7
          have hB6 := hB3.size
          have HRE := hide (And.intro hr hre)
          rw [hr]
          clear hr hre hz hO3 hB3
          go_wp2_with (at_builtin; refine wpList_append_own _ rfl (.tmp 83) (.tmp 88) 29 rfl _ 3 i0 (.int .i64 0) 1 8 Try.underlying29 hi hz0 hz1 hz2 rfl (by decide) _ _ _ rfl (HO3.out.alloc _) ⟨wr.heap.size, 0, none⟩ 1 1 [.int .i64 z] rfl rfl (one_at wr _ _) (by simp [Value.oneCell']) (by unfold maxLen; omega) (by omega) (by simp; omega) ?_; intro u1 w5 hown hgrow hq; have HO5 := hide hown; have HL5 := hide (own_below HB5.out HO3.out hgrow); clear hown hgrow hq)
          refine ⟨⟨s + 1, by omega, by have := HRE.out.1; congr 1; simp; omega, ?_, HL5.out⟩, by simp [RowKit.intOf]⟩
          rw [HTS.out, List.map_append]
          exact HO5.out
        · have hsj2 : s = j := by omega
          subst hsj2
          go_wp2
          go_ret2
          refine ⟨_, by rw [HR.out]; rfl, ?_, below_on HB3.out (below_on HB.out HB5.out)⟩
          rw [HR.out]
          have hfin := HO3.out
          rw [List.take_of_length_le (by rw [List.length_reverse, HLN.out]; exact Nat.le_refl _)] at hfin
          exact RowAt.of_owns (by rw [List.length_reverse, HLN.out]; exact hfin)
    · have hbb : (b != -1) = true := by simp [hb1]
      by_cases hp : 0 ≤ b ∧ b < (to.length : Int)
      · obtain ⟨p, rfl⟩ : ∃ p : Nat, b = (p : Int) := ⟨b.toNat, by omega⟩
        have hpm : p < to.length := by omega
        rw [Int.toNat_natCast] at HVS HN6 HN0
        have hd0 : decide ((p : Int) < 0) = false := decide_eq_false (by omega)
        have hd1 : decide ((to.length : Int) ≤ (p : Int)) = false := decide_eq_false (by omega)
        have hpi : (p : Int) < (to.length : Int) := by omega
        obtain ⟨gt, ot, ct', hst', hct, d2⟩ := HGR.out.t.cellAt p hpm
        simp only [Value.slice.injEq, true_and] at hst'
        obtain ⟨rfl, rfl⟩ := hst'
        obtain ⟨gf', of', cf', hsf, hcf, d5⟩ := HFC.out p hpm
        rw [tab_length] at hsf
        simp only [Value.slice.injEq, Option.some.injEq, Addr.mk.injEq, true_and, and_true] at hsf
        obtain ⟨⟨rfl, rfl⟩, rfl⟩ := hsf
        rw [tab_at _ _ _ hpm, Nat.zero_add] at d5
        obtain ⟨u, hu⟩ : ∃ u, u = at_ to p := ⟨_, rfl⟩
        rw [← hu] at d2 HN6 HN0
        clear hu hcf
        by_cases hu2 : u = (vj : Int)
        · have hub : (u != (vj : Int)) = false := by simp [hu2]
          have e0 := HN0.out hb1 ⟨hp.1, hp.2, hu2⟩
          by_cases hjn2 : j = n
          · rw [if_pos hjn2] at e0
            have hr := HPE.out (by rw [e0]; omega)
            rw [e0, if_neg (by omega)] at hr
            have HR := hide hr
            subst hjn2
            have HU2 := hide hu2
            clear hp hb1 hr e0 hu2
            go_wp2
            all_goals first
              | (exfalso; omega)
              | (go_ret2; exact ⟨_, by rw [HR.out]; rfl, by rw [HR.out]; exact RowAt.nil _, below_on HB3.out HB.out⟩)
          · rw [if_neg hjn2] at e0
            have HE0 := hide e0
            have hjb : ((j : Int) == (n : Int)) = false := by simp; omega
            have HU2 := hide hu2
            have hjl : j < n := by omega
            have hB4 := HB.out.size
            clear hp hb1 e0 hu2 hjn2
            go_wp2_with (at_builtin; refine wpList_append_own _ rfl (.tmp 68) (.tmp 70) 29 rfl _ 3 i0 (.int .i64 0) 1 8 Try.underlying29 hi hz0 hz1 hz2 rfl (by decide) _ _ _ rfl (HOO.out.alloc _) ⟨wr.heap.size, 0, none⟩ 1 1 [.int .i64 (p : Int)] rfl rfl (one_at wr _ _) (by simp [Value.oneCell']) (by unfold maxLen; omega) (by omega) (by simp; omega) ?_; intro u1 w5 hown hgrow hq; have HO5 := hide hown; have HL5 := hide (own_below HB.out HOO.out hgrow); clear hown hgrow hq x0 x1 x2 x3; have d6 := (below_cell HL5.out (block_of_cell d5)).trans d5)
            refine ⟨⟨j + 1, by omega, by rw [HVS.out], ?_, ?_, HL5.out⟩, ?_⟩
            · rw [HBS.out, List.map_append]; exact HO5.out
            · intro i hi2
              rcases Nat.lt_or_ge i j with h | h
              · exact HALL.out i h
              · obtain rfl : i = j := by omega
                exact HE0.out
            · have := owns_slen HO5.out
              show n + 1 - slen u1 < n + 1 - slen (.slice uo j uc)
              rw [this]
              show n + 1 - (j + 1) < n + 1 - j
              omega
        · have hub : (u != (vj : Int)) = true := by simp [hu2]
          have e6 := HN6.out hb1 (fun h => hu2 h.2.2)
          have hr := HPE.out (by rw [e6]; omega)
          rw [e6, if_neg (by omega)] at hr
          have HR := hide hr
          clear hp hb1 hr e6 hu2
          go_wp2
          all_goals first
            | (exfalso; omega)
            | (go_ret2; exact ⟨_, by rw [HR.out]; rfl, by rw [HR.out]; exact RowAt.nil _, below_on HB3.out HB.out⟩)
      · have e6 := HN6.out hb1 (fun h => hp ⟨h.1, h.2.1⟩)
        have hr := HPE.out (by rw [e6]; omega)
        rw [e6, if_neg (by omega)] at hr
        have HR := hide hr
        have hq2 : b < 0 ∨ (to.length : Int) ≤ b := by omega
        clear hp hb1 hr e6
        go_wp2
        all_goals first
          | (exfalso; omega)
          | (go_ret2; exact ⟨_, by rw [HR.out]; rfl, by rw [HR.out]; exact RowAt.nil _, below_on HB3.out HB.out⟩)
end Go.Proofs.Ytpfalalmfoiloaa
