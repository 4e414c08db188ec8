/- route.Path. -/
import Derived.Test.YthoklgdlnmccmaaReverse
import Derived.Test.YthoklgdlnmccmaaLenWalk
namespace Go.Proofs.Ythoklgdlnmccmaa
open Go.RowKit Go.Lib
set_option linter.unusedVariables false

def PathPost (w : World) (r : List Int × Int) (e : Ending) (w' : World) : Prop := ∃ v, e = .returned (.tuple #[v, .int .i64 r.2]) ∧ RowAt .i64 w' v r.1 ∧ Below w.heap.size w w'
theorem RowAt.nil (w : World) : RowAt .i64 w (.slice none 0 0) [] := ⟨none, 0, rfl, by simp, by omega, (fun _ => rfl), (fun a ha => by cases ha)⟩
def slen : Value → Nat
  | .slice _ n _ => n
  | _ => 0
theorem owns_shape {w : World} {base n : Nat} {e : TypeId} {v : Value} {xs : List Value} (h : w.ownsRow base e 1 v n xs) : (v = .slice none 0 0 ∧ n = 0) ∨ ∃ g c, v = .slice (some ⟨g, 0, none⟩) n c := by
  obtain ⟨_, ⟨rfl, h0⟩ | ⟨g, cap, cur, rfl, _⟩⟩ := h
  · exact .inl ⟨rfl, h0⟩
  · exact .inr ⟨g, cap, rfl⟩
theorem owns_slen {w : World} {base n : Nat} {e : TypeId} {v : Value} {xs : List Value} (h : w.ownsRow base e 1 v n xs) : slen v = n := by
  rcases owns_shape h with ⟨rfl, h0⟩ | ⟨g, c, rfl⟩
  · exact h0.symm
  · rfl
theorem owns_len {w : World} {base n : Nat} {e : TypeId} {v : Value} {xs : List Value} (h : w.ownsRow base e 1 v n xs) : ∃ ao c, v = .slice ao n c := by
  rcases owns_shape h with ⟨rfl, rfl⟩ | ⟨g, c, rfl⟩
  · exact ⟨none, 0, rfl⟩
  · exact ⟨_, c, rfl⟩
theorem own_below {w w1 w2 : World} {e : TypeId} {size n : Nat} {v : Value} {xs : List Value} {p : Obj} (hb1 : Below w.heap.size w w1) (h1 : w1.ownsRow w.heap.size e size v n xs) (hgrow : (w1.alloc p).grownBy w2 v.ownBlock) : Below w.heap.size w w2 := by
  refine (hb1.alloc hb1.size _).grown hgrow (by have := hb1.size; simp; omega) ?_
  intro j hj
  obtain ⟨_, ⟨rfl, _⟩ | ⟨g', cap, cur', rfl, hg', _⟩⟩ := h1
  · simp [Value.ownBlock] at hj
  · simp [Value.ownBlock] at hj; omega
theorem one_at (w : World) (x : Value) (t : TypeId) : ∀ j u, [x][j]? = some u → (w.alloc (.cells #[x] t)).cell? ((⟨w.heap.size, 0, none⟩ : Addr).add j) = some u := by
  intro j u hj
  have hh : (w.alloc (.cells #[x] t)).heap[w.heap.size]? = some (.cells #[x] t (0, 0)) := heap_new _ _
  rw [Addr.add_lit]
  match j, hj with
  | 0, hj => simp at hj; subst hj; exact cell_of hh rfl
theorem owns_below {w w1 w2 : World} {e : TypeId} {size n : Nat} {v : Value} {xs : List Value} (h1 : w1.ownsRow w.heap.size e size v n xs) (hb : Below w1.heap.size w1 w2) : w2.ownsRow w.heap.size e size v n xs := by
  obtain ⟨hl, ⟨rfl, h0⟩ | ⟨g, cap, cur, rfl, hg, hh, r⟩⟩ := h1
  · exact ⟨hl, .inl ⟨rfl, h0⟩⟩
  · exact ⟨hl, .inr ⟨g, cap, cur, rfl, hg, (hb.block g (lt_of_heap hh)).trans hh, r⟩⟩

theorem RowW.of_owns2 {w : World} {base g n c : Nat} {l : List Int} (h : w.ownsRow base 3 1 (.slice (some ⟨g, 0, none⟩) n c) n (l.map (Value.int .i64))) (hn : l.length = n) : RowW w g l ∧ n ≤ c ∧ c ≤ 9223372036854775807 ∧ base ≤ g := by
  subst hn
  obtain ⟨a, b, c, d, _⟩ := RowW.of_owns h
  exact ⟨a, b, c, d⟩

set_option maxRecDepth 100000 in
set_option maxHeartbeats 8000000 in
theorem path_good (n : Nat) (va vb vc : Value) (st to wt : List Int) (bv : Value) (by_ : List Int) (t : Nat) (w : World) (hg : GIs w n va vb vc st to wt) (hgd : Good n st to wt) (hc : (chk n st to wt).1 = 0)
    (hw : RowAt .i64 w bv by_) (hbl : by_.length = n) (ht : t < n) :
    Calls Try.prog 27 #[gAgg n va vb vc, bv, .int .i64 (t : Int)] w (PathPost w (pathAns n st to by_ t)) := by
  obtain ⟨i0, hi, hz0, hz1, hz2⟩ := info_parts Try.info3
  have hst : st.length ≤ 17592186044416 := by have := hgd.s_len; have := hgd.n_le; omega
  have hto : to.length ≤ 17592186044416 := by have := hgd.m_le; omega
  have hwt2 : wt.length ≤ 17592186044416 := by have := hgd.w_len; omega
  obtain ⟨ao, ca, rfl⟩ := hg.s.shape
  obtain ⟨bo, cb, rfl⟩ := hg.t.shape
  obtain ⟨co, cc, rfl⟩ := hg.u.shape
  obtain ⟨wo, wc, rfl⟩ := hw.shape
  obtain ⟨c0, c1, c2, c3, hb1, hs1⟩ := boxed w (.int .i64 n) (.slice ao st.length ca) (.slice bo to.length cb) (.slice co wt.length cc)
  have HF := hide (check_all n _ _ _ st to wt _ (hg.below hb1) hst hto hwt2)
  obtain ⟨X, hX⟩ : ∃ X, X = chk n st to wt := ⟨_, rfl⟩
  rw [← hX] at HF hc
  obtain ⟨x, y⟩ := X
  obtain rfl : x = 0 := hc
  have HV := hide (fun W => isVtx_any n (.slice ao st.length ca) (.slice bo to.length cb) (.slice co wt.length cc) t W)
  rw [decide_eq_true (show 0 ≤ (t : Int) ∧ (t : Int) < (n : Int) by omega)] at HV
  have HG1 := hide (hg.below hb1); have HW1 := hide (hw.below hb1)
  have HB1 := hide hb1
  have HP := hide (fun v W => isPlace_any n (.slice ao st.length ca) (.slice co wt.length cc) bo to.length cb v W)
  have HSO := hide (fun p W (h : GIs W n (.slice ao st.length ca) (.slice bo to.length cb) (.slice co wt.length cc) st to wt) (hp : p < to.length) => source_any n _ _ _ st to wt p W h hgd hp)
  have HVL := hide (fun j hb => vs_lt (by_ := by_) hgd ht j hb)
  have hm := hgd.m_le
  have hn := hgd.n_le
  unfold gAgg at HF HV HP HSO ⊢
  unfold ChkPost at HF
  have HAN := hide (fun j => @path_at n st to by_ t j)
  have HWC := hide (fun (W : World) (h : RowAt .i64 W (.slice wo by_.length wc) by_) (i : Nat) (hi : i < by_.length) => h.cellAt i hi)
  rw [hbl] at HW1 HWC ⊢
  clear hb1 hg hw hgd hst hto hwt2 hX hbl
  go_enter Try.func27, Try.ntmps27
  go_wp2_with fail
  generalize (w.alloc (.cells #[.int .i64 n, .slice ao st.length ca, .slice bo to.length cb, .slice co wt.length cc] 32)) = w1 at c0 c1 c2 c3 hs1 HB1 HG1 HW1 HF ⊢
  refine HF.out.mono ?_
  rintro e w2 ⟨rfl, hb2⟩
  obtain ⟨x0, x1, x2, x3⟩ := box_keep hs1 hb2 ⟨c0, c1, c2, c3⟩
  have HBX := hide (box_keep hs1 hb2 ⟨c0, c1, c2, c3⟩)
  have HG2 := hide (HG1.out.below hb2); have HW2 := hide (HW1.out.below hb2)
  have HB2 := hide (below_on HB1.out hb2)
  have hs2 : w.heap.size < w2.heap.size := by have := hb2.size; omega
  clear c0 c1 c2 c3 hb2 HF HG1 HW1 HB1 hs1
  go_wp2_with fail
  refine (HV.out _).mono ?_
  rintro e w3 ⟨rfl, hb3⟩
  have HBX3 := hide (box_keep hs2 hb3 HBX.out)
  have HG3 := hide (HG2.out.below hb3); have HW3 := hide (HW2.out.below hb3)
  have HB3 := hide (below_on HB2.out hb3)
  have hs3 : w.heap.size < w3.heap.size := by have := hb3.size; omega
  have HO : Hid (w3.ownsRow w3.heap.size 3 1 (.slice none 0 0) 0 ((back n st by_ t 0).map (Value.int .i64))) := World.ownsRow_nil _ _ _ _
  clear x0 x1 x2 x3 hb3 HG2 HW2 HB2 HBX HV
  go_wp2
  go_loopw [11, 10] (fun q u wr => ∃ j : Nat, j ≤ n ∧ q = .int .i64 (vs n st by_ t j : Int) ∧ wr.ownsRow w3.heap.size 3 1 u j ((back n st by_ t j).map (Value.int .i64)) ∧ (∀ i, i < j → pNo n st to by_ t i = 0) ∧ Below w3.heap.size w3 wr) (fun _ u _ => n + 1 - slen u)
  case atStart => exact ⟨0, by omega, rfl, HO.out, fun j hj => by omega, Below.refl _ _⟩
  case round =>
    obtain ⟨j, hjn, rfl, hO, hall, hB⟩ := hrel
    have hvl := HVL.out j hall
    have HALL := hide hall
    have HOO := hide hO
    obtain ⟨uo, uc, rfl⟩ := owns_len hO
    obtain ⟨gw, ow, cw', hsw, hcw, d1⟩ := HWC.out wr (HW3.out.below hB) (vs n st by_ t j) hvl
    simp only [Value.slice.injEq, true_and] at hsw
    obtain ⟨rfl, rfl⟩ := hsw
    obtain ⟨x0, x1, x2, x3⟩ := box_keep hs3 hB HBX3.out
    have HB := hide hB
    have HGR := hide (HG3.out.below hB)
    have HPE := hide (fun h => HAN.out j hjn h hall)
    have HVS : Hid (vs n st by_ t (j + 1) = src st n (at_ by_ (vs n st by_ t j)).toNat) := (rfl : vs n st by_ t (j + 1) = _)
    have HBS := hide (back_succ n st by_ t j)
    have HPI := hide (HP.out (at_ by_ (vs n st by_ t j)) wr)
    have HN1 := hide (fun h => pNo_end (n := n) (st := st) (to := to) (by_ := by_) (t := t) (j := j) h)
    have HN6 := hide (fun h1 h2 => pNo_six (n := n) (st := st) (to := to) (by_ := by_) (t := t) (j := j) h1 h2)
    have HN0 := hide (fun h1 h2 => pNo_on (n := n) (st := st) (to := to) (by_ := by_) (t := t) (j := j) h1 h2)
    obtain ⟨vj, hvj⟩ : ∃ vj, vj = vs n st by_ t j := ⟨_, rfl⟩
    rw [← hvj] at hvl d1 HVS HBS HPI HN1 HN6 HN0 ⊢
    obtain ⟨b, hb⟩ : ∃ b, b = at_ by_ vj := ⟨_, rfl⟩
    rw [← hb] at d1 HVS HBS HPI HN1 HN6 HN0
    clear hO hall hB hvj hb HO HVL HAN
    by_cases hb1 : b = -1
    · have hbb : (b != -1) = false := by simp [hb1]
      have hr := HPE.out (by rw [HN1.out hb1]; omega)
      rw [HN1.out hb1, if_pos rfl] at hr
      have HR := hide hr
      clear hb1 hr
      rcases owns_shape HOO.out with ⟨he, h0⟩ | ⟨g, c, he⟩
      · simp only [Value.slice.injEq] at he
        obtain ⟨rfl, rfl, rfl⟩ := he
        go_wp2_with fail
        refine (reverse_nil _).mono ?_
        rintro e w4 ⟨rfl, rfl⟩
        go_wp2
        go_ret2
        exact ⟨_, by rw [HR.out]; rfl, by rw [HR.out]; exact RowAt.nil _, below_on HB3.out HB.out⟩
      · simp only [Value.slice.injEq, true_and] at he
        obtain ⟨rfl, rfl⟩ := he
        obtain ⟨hRW, hc1, hc2, hgb⟩ := RowW.of_owns2 HOO.out (back_length n st by_ t j)
        have hrev := reverse_any g uc (back n st by_ t j) wr w3.heap.size hgb hRW (by rw [back_length]; omega) (by rw [back_length]; exact hc1) hc2
        rw [back_length] at hrev
        have HREV := hide hrev
        clear hrev hRW
        go_wp2_with fail
        refine HREV.out.mono ?_
        rintro e w4 ⟨rfl, hW4, hb4⟩
        have HW4 := hide hW4; have HB4 := hide (below_on HB3.out (HB.out.trans hb4))
        clear hW4 hb4 x0 x1 x2 x3 d1
        go_wp2
        go_ret2
        refine ⟨_, by rw [HR.out]; rfl, ?_, HB4.out⟩
        rw [HR.out]
        have := HW4.out.row (c := uc) (by rw [List.length_reverse, back_length]; exact hc1) hc2
        rw [List.length_reverse, back_length] at this
        exact this
    · have hbb : (b != -1) = true := by simp [hb1]
      by_cases hp : 0 ≤ b ∧ b < (to.length : Int)
      · rw [decide_eq_true hp] at HPI
        obtain ⟨p, rfl⟩ : ∃ p : Nat, b = (p : Int) := ⟨b.toNat, by omega⟩
        have hpm : p < to.length := by omega
        rw [Int.toNat_natCast] at HVS HN6 HN0
        have HTC := hide (fun W (h : GIs W n (.slice ao st.length ca) (.slice bo to.length cb) (.slice co wt.length cc) st to wt) => h.t.cellAt p hpm)
        obtain ⟨u, hu⟩ : ∃ u, u = at_ to p := ⟨_, rfl⟩
        rw [← hu] at HTC HN6 HN0
        clear hu
        by_cases hu2 : u = (vj : Int)
        · have hub : (u != (vj : Int)) = false := by simp [hu2]
          have e0 := HN0.out hb1 ⟨hp.1, hp.2, hu2⟩
          by_cases hjn2 : j = n
          · rw [if_pos hjn2] at e0
            have hr := HPE.out (by rw [e0]; omega)
            rw [e0, if_neg (by omega)] at hr
            have HR := hide hr
            subst hjn2
            have HU2 := hide hu2
            clear hp hb1 hr e0 hu2
            go_wp2_with fail
            refine HPI.out.mono ?_
            rintro e w4 ⟨rfl, hb4⟩
            clear x0 x1 x2 x3
            obtain ⟨x0, x1, x2, x3⟩ := box_keep (Nat.lt_of_lt_of_le hs3 HB.out.size) hb4 (box_keep hs3 HB.out HBX3.out)
            obtain ⟨gt, ot, ct', hst', hct, d2⟩ := HTC.out w4 (HGR.out.below hb4)
            simp only [Value.slice.injEq, true_and] at hst'
            obtain ⟨rfl, rfl⟩ := hst'
            have HB4 := hide (below_on HB3.out (below_on HB.out hb4))
            clear d1 hb4
            go_wp2
            go_ret2
            exact ⟨_, by rw [HR.out]; rfl, by rw [HR.out]; exact RowAt.nil _, HB4.out⟩
          · rw [if_neg hjn2] at e0
            have HE0 := hide e0
            have hjb : ((j : Int) == (n : Int)) = false := by simp; omega
            have HU2 := hide hu2
            have hjl : j < n := by omega
            clear hp hb1 e0 hu2 hjn2
            go_wp2_with fail
            refine HPI.out.mono ?_
            rintro e w4 ⟨rfl, hb4⟩
            clear x0 x1 x2 x3
            obtain ⟨x0, x1, x2, x3⟩ := box_keep (Nat.lt_of_lt_of_le hs3 HB.out.size) hb4 (box_keep hs3 HB.out HBX3.out)
            obtain ⟨gt, ot, ct', hst', hct, d2⟩ := HTC.out w4 (HGR.out.below hb4)
            simp only [Value.slice.injEq, true_and] at hst'
            obtain ⟨rfl, rfl⟩ := hst'
            have HB4 := hide (below_on HB.out hb4)
            have HO4 := hide (owns_below HOO.out hb4)
            have hB4 := HB4.out.size
            clear d1 hb4
            go_wp2_with (at_builtin; refine wpList_append_own _ rfl (.tmp 60) (.tmp 62) 29 rfl _ 3 i0 (.int .i64 0) 1 8 Try.underlying29 hi hz0 hz1 hz2 rfl (by decide) _ _ _ rfl (HO4.out.alloc _) ⟨w4.heap.size, 0, none⟩ 1 1 [.int .i64 (p : Int)] rfl rfl (one_at w4 _ _) (by simp [Value.oneCell']) (by unfold maxLen; omega) (by omega) (by simp; omega) ?_; intro u1 w5 hown hgrow hq; have HO5 := hide hown; have HL5 := hide (own_below HB4.out HO4.out hgrow); clear hown hgrow hq x0 x1 x2 x3; obtain ⟨x0, x1, x2, x3⟩ := box_keep hs3 HL5.out HBX3.out)
            refine (HSO.out p w5 (HG3.out.below HL5.out) hpm).mono ?_
            rintro e w6 ⟨rfl, hb6⟩
            have HO6 := hide (owns_below HO5.out hb6)
            have HB6 := hide (below_on HL5.out hb6)
            have HSL := hide (owns_slen HO6.out)
            clear hb6 x0 x1 x2 x3 d2
            go_wp2
            refine ⟨⟨j + 1, by omega, by rw [HVS.out], ?_, ?_, HB6.out⟩, ?_⟩
            · rw [HBS.out, List.map_append]; exact HO6.out
            · intro i hi2
              rcases Nat.lt_or_ge i j with h | h
              · exact HALL.out i h
              · obtain rfl : i = j := by omega
                exact HE0.out
            · have := HSL.out
              show n + 1 - slen u1 < n + 1 - slen (.slice uo j uc)
              rw [this]
              show n + 1 - (j + 1) < n + 1 - j
              omega
        · have hub : (u != (vj : Int)) = true := by simp [hu2]
          have e6 := HN6.out hb1 (fun h => hu2 h.2.2)
          have hr := HPE.out (by rw [e6]; omega)
          rw [e6, if_neg (by omega)] at hr
          have HR := hide hr
          clear hp hb1 hr e6 hu2
          go_wp2_with fail
          refine HPI.out.mono ?_
          rintro e w4 ⟨rfl, hb4⟩
          clear x0 x1 x2 x3
          obtain ⟨x0, x1, x2, x3⟩ := box_keep (Nat.lt_of_lt_of_le hs3 HB.out.size) hb4 (box_keep hs3 HB.out HBX3.out)
          obtain ⟨gt, ot, ct', hst', hct, d2⟩ := HTC.out w4 (HGR.out.below hb4)
          simp only [Value.slice.injEq, true_and] at hst'
          obtain ⟨rfl, rfl⟩ := hst'
          have HB4 := hide (below_on HB3.out (below_on HB.out hb4))
          clear d1 hb4
          go_wp2
          go_ret2
          exact ⟨_, by rw [HR.out]; rfl, by rw [HR.out]; exact RowAt.nil _, HB4.out⟩
      · rw [decide_eq_false hp] at HPI
        have e6 := HN6.out hb1 (fun h => hp ⟨h.1, h.2.1⟩)
        have hr := HPE.out (by rw [e6]; omega)
        rw [e6, if_neg (by omega)] at hr
        have HR := hide hr
        clear hp hb1 hr e6
        go_wp2_with fail
        refine HPI.out.mono ?_
        rintro e w4 ⟨rfl, hb4⟩
        have HB4 := hide (below_on HB3.out (below_on HB.out hb4))
        clear x0 x1 x2 x3 d1 hb4
        go_wp2
        go_ret2
        exact ⟨_, by rw [HR.out]; rfl, by rw [HR.out]; exact RowAt.nil _, HB4.out⟩
end Go.Proofs.Ythoklgdlnmccmaa
