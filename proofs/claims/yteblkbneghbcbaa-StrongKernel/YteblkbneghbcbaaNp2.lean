import Derived.Test.YteblkbneghbcbaaNb
import Derived.Test.YteblkbneghbcbaaPr
/- numbered: its list is new. -/
namespace Go.Proofs.Yteblkbneghbcbaa
open Go.RowKit Go.Lib
set_option linter.unusedVariables false
set_option linter.unusedSimpArgs false
set_option maxRecDepth 100000 in
set_option maxHeartbeats 8000000 in
theorem numbered_new (n : Nat) (gv : Value) (G : List Int) (B : Nat → Nat → Prop) (w : World) (hn : n ≤ 1048576) (hgl : G.length = n) (hgv : RowAt .i64 w gv G) (hE : Eqv B) (hGr : ∀ v, v < n → ∃ f : Nat, at_ G v = (f : Int) ∧ f < n) (hGB : ∀ u v, u < n → v < n → (at_ G u = at_ G v ↔ B u v)) :
    Calls Try.prog 39 #[gv] w fun e w' => ∃ A, e = .returned (.tuple #[.slice (some ⟨A, 0, none⟩) n n, .int .i64 (cntL B n : Int)]) ∧ Arr w' A (tab n (fun v => (numb B v : Int))) ∧ w.heap.size ≤ A ∧ Below w.heap.size w w' := by
  obtain ⟨i3, hi3, hz3, hs3, hy3⟩ := info_parts Try.info3q
  obtain ⟨go, gc, rfl⟩ := hgv.shape
  have HV := hide hgv; have HE := hide hE; have HGr := hide hGr; have HGB := hide hGB; have HNL := hide hn; have HGL := hide hgl
  have HRp := hide (repI_all n w.heap.size hn (w.alloc (.cells #[.int .i64 (-1)] 3)) (cell_of (heap_new _ _) rfl))
  rw [hgl]
  clear hgv hE hGr hGB hgl
  have hsz : (w.alloc (.cells #[.int .i64 (-1)] 3)).heap.size = w.heap.size + 1 := by simp
  rw [hsz] at HRp
  have HB0 : Hid (Below w.heap.size w (w.alloc (.cells #[.int .i64 (-1)] 3))) := below_alloc (Below.refl _ _) _
  clear hsz
  go_enter Try.func39, Try.ntmps39
  go_wp2_with fail
  refine HRp.out.mono ?_
  rintro e w2 ⟨rfl, ha2, hb2⟩
  have HA2 := hide ha2
  have HB2 : Hid (Below w.heap.size w w2) := HB0.out.trans (hb2.mono (by omega))
  have HwA : Hid (w.heap.size ≤ w.heap.size + 1) := Nat.le_succ _
  clear ha2 hb2 HRp HB0
  generalize w.heap.size + 1 = A at HA2 HwA ⊢
  go_upto_region 4 with (first
    | (at_make; refine wpList_make_full _ rfl _ _ 22 rfl w2.heap.size 3 i3 (.int .i64 0) 1 Try.underlying22 hi3 hz3 hs3 _ _ _ _ n rfl rfl rfl rfl (by rw [hy3]; omega) (by unfold maxLen; omega) (Nat.le_refl _) ?_; intro w3 hown hgrow)
    | fail)
  have hb3 : Below w2.heap.size w2 w3 := (Below.refl _ _).grown hgrow (Nat.le_refl _) (by intro j hj; cases hj)
  have HX : Hid (NM w w3 A w2.heap.size (tab n (fun f => nmF G B 0 f)) (ptL B n 0)) := by
    refine ⟨below_on HB2.out hb3, (hb3.block _ (lt_of_heap HA2.out)).trans HA2.out, ?_, HwA.out, lt_of_heap HA2.out⟩
    have e : ptL B n 0 = tab n (fun _ => 0) := tab_congr fun v _ => if_neg (by omega)
    rw [e]
    exact arr_made hown
  generalize w2.heap.size = P at HX ⊢
  clear hown hgrow hb3 HB2 HA2
  go_wp2_with fail
  go_loopw [18, 5] (fun t c wr => ∃ k : Nat, k ≤ n ∧ t = .int .i64 k ∧ c = .int .i64 (cntL B k : Int) ∧ NM w wr A P (tab n (fun f => nmF G B k f)) (ptL B n k)) (fun t _ _ => n - (RowKit.intOf t).toNat)
  case atStart => exact ⟨0, Nat.zero_le _, rfl, rfl, HX.out⟩
  case round =>
    obtain ⟨k, hk, rfl, rfl, hx⟩ := hrel
    have HXR := hide hx
    clear hx HX
    by_cases hlt : k < n
    · obtain ⟨gg, og, gc2, he, hcc, hx⟩ := (HV.out.below HXR.out.bel).cellAt k (by rw [HGL.out]; exact hlt)
      simp only [Value.slice.injEq] at he
      obtain ⟨rfl, hlen9, hcc2⟩ := he
      subst hcc2
      obtain ⟨f, hf, hfn⟩ := HGr.out k hlt
      have HF := hide hf
      rw [hf] at hx
      have y0 := HXR.out.arr.cell f (by rw [tab_length]; exact hfn)
      rw [tab_at _ _ _ hfn] at y0
      have yf := HXR.out.arr.free f
      have hkg : (k : Int) < gc := by rw [HGL.out] at hcc; omega
      have hcl := cntL_le (B := B) k
      have hcm : (cntL B k : Int) + 1 ≤ 9223372036854775807 := by have := HNL.out; omega
      have hkm : (k : Int) + 1 ≤ 9223372036854775807 := by have := HNL.out; omega
      clear hlen9 hcc hf
      by_cases hl : lea B k = k
      · rw [nm_at_new HE.out HGB.out hlt HF.out hl] at y0
        have HNC : Hid (numb B k = cntL B k) := numb_new hl
        have HCS : Hid (cntL B (k + 1) = cntL B k + 1) := by show _ = _; rw [cntL_succ, if_pos hl]
        have HX1 : Hid (NM w (wr.setCell ⟨A, f, none⟩ (.int .i64 (cntL B k : Int))) A P (tab n (fun f => nmF G B (k + 1) f)) (ptL B n k)) := by
          have := HXR.out.setA f (cntL B k : Int)
          rw [tab_set, ← HNC.out, tab_congr (fun v _ => nm_new HE.out HGB.out hlt HF.out hl v)] at this
          rw [← HNC.out]
          exact this
        have z0 := HX1.out.arr.cell f (by rw [tab_length]; exact hfn)
        have hzz : at_ (tab n (fun f => nmF G B (k + 1) f)) f = (cntL B k : Int) := by
          rw [tab_at _ _ _ hfn, ← nm_new HE.out HGB.out hlt HF.out hl, if_pos rfl, HNC.out]
        rw [hzz] at z0
        have zc := HX1.out.prt.cell k (by rw [ptL_len]; exact hlt)
        have zf := HX1.out.prt.free k
        have HX2 : Hid (NM w ((wr.setCell ⟨A, f, none⟩ (.int .i64 (cntL B k : Int))).setCell ⟨P, k, none⟩ (.int .i64 (cntL B k : Int))) A P (tab n (fun f => nmF G B (k + 1) f)) (ptL B n (k + 1))) := by
          have := HX1.out.setP k (cntL B k : Int)
          rw [← HNC.out, ptL_set, HNC.out] at this
          exact this
        generalize cntL B k = cx at y0 HCS z0 zc zf hcm HX1 HX2 hcl HNC ⊢
        clear hl hzz HX1 hcl
        go_upto_region 7 with fail
        go_wp2_with fail
        refine ⟨⟨k + 1, Nat.succ_le_of_lt hlt, by go_num, by rw [HCS.out]; go_num, HX2.out⟩, mdec hlt⟩
      · rw [nm_at_old HE.out HGB.out hlt HF.out hl] at y0
        have HCS : Hid (cntL B (k + 1) = cntL B k) := by show _ = _; rw [cntL_succ, if_neg hl]; rfl
        have hxx : ¬ (numb B k : Int) = -1 := by omega
        have zc := HXR.out.prt.cell k (by rw [ptL_len]; exact hlt)
        have zf := HXR.out.prt.free k
        have HX2 : Hid (NM w (wr.setCell ⟨P, k, none⟩ (.int .i64 (numb B k : Int))) A P (tab n (fun f => nmF G B (k + 1) f)) (ptL B n (k + 1))) := by
          have := HXR.out.setP k (numb B k : Int)
          rw [ptL_set, tab_congr (fun v _ => nm_old HE.out HGB.out hlt HF.out hl v)] at this
          exact this
        generalize numb B k = nx at y0 hxx HX2
        generalize cntL B k = cx at HCS hcm hcl ⊢
        have hxb : ((nx : Int) == -1) = false := by simp
        clear hl hcl
        go_upto_region 7 with fail
        go_wp2_with fail
        refine ⟨⟨k + 1, Nat.succ_le_of_lt hlt, by go_num, by rw [HCS.out], HX2.out⟩, mdec hlt⟩
    · have hkn : k = n := by omega
      have HRW : Hid (Arr wr P (tab n (fun v => (numb B v : Int)))) := by
        have h1 := HXR.out.prt
        rw [hkn] at h1
        have e : ptL B n n = tab n (fun v => (numb B v : Int)) := tab_congr fun v hv => if_pos hv
        rw [e] at h1
        exact h1
      have HCN : Hid (cntL B k = cntL B n) := by rw [hkn]; exact hide rfl
      generalize cntL B k = cx at HCN ⊢
      have hd : decide ((k : Int) < (n : Int)) = false := decide_eq_false (by omega)
      clear hkn hk
      go_wp2_with fail
      go_ret2
      have hcn := HCN.out
      subst hcn
      exact ⟨P, rfl, HRW.out, by have := HXR.out.wA; have := HXR.out.AP; omega, HXR.out.bel⟩
end Go.Proofs.Yteblkbneghbcbaa

/- The document's Parts: its list is new. -/
namespace Go.Proofs.Yteblkbneghbcbaa
open Go.RowKit Go.Lib
set_option linter.unusedVariables false
set_option linter.unusedSimpArgs false
set_option maxRecDepth 100000 in
set_option maxHeartbeats 8000000 in
theorem partsR_new (n : Nat) (va vb vc : Value) (st tl wt : List Int) (w : World) (hgi : GIs w n va vb vc st tl wt) (hg : Good n st tl wt) (hw : ∀ e, 0 ≤ at_ wt e) :
    Calls Try.prog 13 #[gAgg n va vb vc] w fun e w' => ∃ A, e = .returned (.tuple #[.slice (some ⟨A, 0, none⟩) n n, .int .i64 0]) ∧ Arr w' A (tab n (fun v => (numb (BG n st tl) v : Int))) ∧ w.heap.size ≤ A ∧ Below w.heap.size w w' := by
  obtain ⟨i3, hi3, hz3, hs3, hy3⟩ := info_parts Try.info3q
  have hml := hg.m_le
  have hnl := hg.n_le
  have hchk := good_chk' hg
  obtain ⟨⟨r1, r2⟩, hrr⟩ : ∃ r, chk n st tl wt = r := ⟨_, rfl⟩
  rw [hrr] at hchk
  simp only at hchk
  subst hchk
  have hck := (fun W h => refCheck_all n va vb vc st tl wt W h (by have := hg.s_len; omega) (by omega) (by have := hg.w_len; omega))
  unfold ChkPost at hck
  rw [hrr] at hck
  have HCK := hide hck
  have HGI := hide hgi; have HG := hide hg; have HW := hide hw; have HNL := hide hnl
  have hb0 : Below w.heap.size w (w.alloc (.cells #[.int .i64 n, va, vb, vc] 25)) := below_alloc (Below.refl _ _) _
  have hbx := heap_new w (.cells #[.int .i64 n, va, vb, vc] 25)
  have HB0 := hide hb0; have HX0 := hide hbx
  have c0 := cell_of hbx (i := 0) rfl
  have c1 := cell_of hbx (i := 1) rfl
  have c2 := cell_of hbx (i := 2) rfl
  have c3 := cell_of hbx (i := 3) rfl
  unfold gAgg at HCK ⊢
  clear hgi hg hw hck hrr hb0 hbx hml
  go_enter Try.func13, Try.ntmps13
  go_upto_region 1 with fail
  generalize (w.alloc (.cells #[.int .i64 n, va, vb, vc] 25)) = w1 at HB0 HX0 c0 c1 c2 c3 ⊢
  go_wp2_with fail
  refine (HCK.out w1 (HGI.out.below HB0.out)).mono ?_
  rintro e w2 ⟨rfl, hb2⟩
  have HB2 := hide (below_on HB0.out hb2)
  have HX2 : Hid (w2.heap[w.heap.size]? = some (.cells #[.int .i64 n, va, vb, vc] 25 (0, 0))) := (hb2.block _ (lt_of_heap HX0.out)).trans HX0.out
  clear hb2 HB0 HX0 c0 c1 c2 c3 HCK
  have c0 := cell_of HX2.out (i := 0) rfl
  have c1 := cell_of HX2.out (i := 1) rfl
  have c2 := cell_of HX2.out (i := 2) rfl
  have c3 := cell_of HX2.out (i := 3) rfl
  have HTU := hide (turnR_any n va vb vc st tl wt w2 (HGI.out.below HB2.out) HG.out HW.out)
  unfold gAgg at HTU
  go_wp2_with fail
  refine HTU.out.mono ?_
  rintro e w3 ⟨va2, vb2, vc2, st2, tl2, wt2, nx, L, rfl, hgi2, hL, hsm, hly, hb3⟩
  subst hL
  obtain ⟨hg2, hfl⟩ := flip_of HG.out (fun e he => (sw_from he).1) (fun e he => (sw_from he).2) hsm hly
  obtain ⟨ao2, ca2, rfl⟩ := hgi2.s.shape
  obtain ⟨bo2, cb2, rfl⟩ := hgi2.t.shape
  obtain ⟨co2, cc2, rfl⟩ := hgi2.u.shape
  unfold gAgg
  have hb4 : Below w3.heap.size w3 (w3.alloc (.cells #[.int .i64 n, .slice ao2 st2.length ca2, .slice bo2 tl2.length cb2, .slice co2 wt2.length cc2] 25)) := below_alloc (Below.refl _ _) _
  have hx4 := heap_new w3 (.cells #[.int .i64 n, .slice ao2 st2.length ca2, .slice bo2 tl2.length cb2, .slice co2 wt2.length cc2] 25)
  have HG2 := hide hg2; have HFL := hide hfl
  have HGI2 := hide (hgi2.below hb4)
  have HB3 := hide (below_on (below_on HB2.out hb3) hb4)
  have HX3 : Hid ((w3.alloc (.cells #[.int .i64 n, .slice ao2 st2.length ca2, .slice bo2 tl2.length cb2, .slice co2 wt2.length cc2] 25)).heap[w.heap.size]? = some (.cells #[.int .i64 n, va, vb, vc] 25 (0, 0))) := ((below_on hb3 hb4).block _ (lt_of_heap HX2.out)).trans HX2.out
  have HY3 := hide hx4
  have HGI1 := hide (HGI.out.below HB3.out)
  clear hg2 hfl hgi2 hsm hly hb3 HB2 HX2 c0 c1 c2 c3 HTU hb4 hx4
  go_upto_region 5 with fail
  obtain ⟨tb, htb⟩ : ∃ tb, tb = w3.heap.size := ⟨_, rfl⟩
  rw [← htb] at HY3 ⊢
  generalize (w3.alloc (.cells #[.int .i64 n, .slice ao2 st2.length ca2, .slice bo2 tl2.length cb2, .slice co2 wt2.length cc2] 25)) = w6 at HB3 HX3 HY3 HGI1 HGI2 ⊢
  clear htb
  have c0 := cell_of HX3.out (i := 0) rfl
  go_upto_region 6 with (first
    | (at_make; refine wpList_make_full _ rfl _ _ 22 rfl w6.heap.size 3 i3 (.int .i64 0) 1 Try.underlying22 hi3 hz3 hs3 _ _ _ _ n rfl rfl rfl rfl (by rw [hy3]; omega) (by unfold maxLen; omega) (Nat.le_refl _) ?_; intro w7 hown hgrow)
    | fail)
  have hb7 : Below w6.heap.size w6 w7 := (Below.refl _ _).grown hgrow (Nat.le_refl _) (by intro j hj; cases hj)
  have HQ : Hid (QP w6 w7 w6.heap.size (tab n (fun v => if v < 0 then (-1 : Int) else 0))) := ⟨hb7, by rw [show (fun v => if v < 0 then (-1 : Int) else 0) = (fun _ : Nat => (0 : Int)) from funext fun v => if_neg (by omega)]; exact arr_made hown, Nat.le_refl _⟩
  have HC0 : Hid (∀ X, Below w6.heap.size w6 X → X.cell? ⟨w.heap.size, 0, none⟩ = some (.int .i64 n) ∧ X.cell? ⟨w.heap.size, 1, none⟩ = some va ∧ X.cell? ⟨w.heap.size, 2, none⟩ = some vb ∧ X.cell? ⟨w.heap.size, 3, none⟩ = some vc) := fun X hX => ⟨box_keep HX3.out hX rfl, box_keep HX3.out hX rfl, box_keep HX3.out hX rfl, box_keep HX3.out hX rfl⟩
  have HC1 : Hid (∀ X, Below w6.heap.size w6 X → X.cell? ⟨tb, 0, none⟩ = some (.int .i64 n) ∧ X.cell? ⟨tb, 1, none⟩ = some (.slice ao2 st2.length ca2) ∧ X.cell? ⟨tb, 2, none⟩ = some (.slice bo2 tl2.length cb2) ∧ X.cell? ⟨tb, 3, none⟩ = some (.slice co2 wt2.length cc2)) := fun X hX => ⟨box_keep HY3.out hX rfl, box_keep HY3.out hX rfl, box_keep HY3.out hX rfl, box_keep HY3.out hX rfl⟩
  generalize w6.heap.size = A at HQ ⊢
  clear hown hgrow hb7 c0
  go_wp2_with fail
  go_loopw [9] (fun t wr => ∃ k : Nat, k ≤ n ∧ t = .int .i64 k ∧ QP w6 wr A (tab n (fun v => if v < k then (-1 : Int) else 0))) (fun t _ => n - (RowKit.intOf t).toNat)
  case atStart => exact ⟨0, Nat.zero_le _, rfl, HQ.out⟩
  case round =>
    obtain ⟨k, hk, rfl, hq⟩ := hrel
    have HQR := hide hq
    clear hq HQ
    obtain ⟨p0, _, _, _⟩ := HC0.out _ HQR.out.bel
    have hkm : (k : Int) + 1 ≤ 9223372036854775807 := by omega
    by_cases hlt : k < n
    · have y0 := HQR.out.arr.cell k (by rw [tab_length]; exact hlt)
      have yf := HQR.out.arr.free k
      have HQ2 : Hid (QP w6 (wr.setCell ⟨A, k, none⟩ (.int .i64 (-1))) A (tab n (fun v => if v < k + 1 then (-1 : Int) else 0))) := by
        have := HQR.out.set k (-1)
        rw [tab_set, tab_congr (h := fun v => if v < k + 1 then (-1 : Int) else 0) (fun v _ => by
          by_cases e : v = k
          · rw [if_pos e, if_pos (by omega)]
          · rw [if_neg e]
            by_cases h : v < k
            · rw [if_pos h, if_pos (by omega)]
            · rw [if_neg h, if_neg (by omega)])] at this
        exact this
      go_wp2_with fail
      go_roundw
      case rel => exact ⟨k + 1, Nat.succ_le_of_lt hlt, by go_num, HQ2.out⟩
      case measure => exact mdec hlt
    · have HQ3 : Hid (QP w6 wr A (tab n (rpF (BG n st tl) 0 0))) := by
        have := HQR.out
        rw [tab_congr (h := rpF (BG n st tl) 0 0) (fun v hv => by rw [if_pos (by omega)]; unfold rpF; rw [if_neg (by omega)])] at this
        exact this
      have HE : Hid (Eqv (BG n st tl)) := Bo.eqv _
      clear HQR hk
      go_wp2_with fail
      clear p0 hkm
      go_loopw [11, 10] (fun t c wr => ∃ k : Nat, k ≤ n ∧ t = .int .i64 k ∧ c = .int .i64 (cntL (BG n st tl) k : Int) ∧ QP w6 wr A (tab n (rpF (BG n st tl) k 0))) (fun t _ _ => n - (RowKit.intOf t).toNat)
      case atStart => exact ⟨0, Nat.zero_le _, rfl, rfl, HQ3.out⟩
      case round =>
        obtain ⟨k, hk, rfl, rfl, hq⟩ := hrel
        have HQR := hide hq
        clear hq HQ3
        obtain ⟨p0, p1, p2, p3⟩ := HC0.out _ HQR.out.bel
        have hkm : (k : Int) + 1 ≤ 9223372036854775807 := by omega
        by_cases hlt : k < n
        · have y0 := HQR.out.arr.cell k (by rw [tab_length]; exact hlt)
          rw [tab_at _ _ _ hlt] at y0
          have hle := (lea_spec HE.out k).1
          have hcl := cntL_le (B := BG n st tl) k
          by_cases hl : lea (BG n st tl) k = k
          · have hv : rpF (BG n st tl) k 0 k = -1 := by unfold rpF; rw [if_neg (by omega)]
            rw [hv] at y0
            have HCS : Hid (cntL (BG n st tl) (k + 1) = cntL (BG n st tl) k + 1) := by show _ = _; rw [cntL_succ, if_pos hl]
            have HLK := hide hl
            have HR1 := hide (reached_any n va vb vc st tl wt k wr (HGI1.out.below HQR.out.bel) HG.out hlt)
            unfold gAgg at HR1
            obtain ⟨cx, hcx⟩ : ∃ cx, cx = cntL (BG n st tl) k := ⟨_, rfl⟩
            have HCX := hide hcx
            rw [← hcx] at HCS hcl ⊢
            clear hv hl hle hcx
            go_wp2_with fail
            refine HR1.out.mono ?_
            rintro e w8 ⟨C1, K1, rfl, hk1, hc1, hr1, hb8⟩
            have HQ8 := hide (HQR.out.on hb8)
            have HCA1 : Hid (A < C1) := Nat.lt_of_lt_of_le (lt_of_heap HQR.out.arr) hc1
            have HK1 := hide hk1; have HRR1 := hide hr1
            clear hk1 hc1 hr1 hb8 HQR HR1 p0 p1 p2 p3 y0
            obtain ⟨p0, p1, p2, p3⟩ := HC1.out _ HQ8.out.bel
            have HR2 := hide (reached_any n _ _ _ st2 tl2 wt2 k w8 (HGI2.out.below HQ8.out.bel) HG2.out hlt)
            unfold gAgg at HR2
            go_wp2_with fail
            refine HR2.out.mono ?_
            rintro e w9 ⟨C2, K2, rfl, hk2, hc2, hr2, hb9⟩
            have HQ9 := hide (HQ8.out.on hb9)
            have HCA2 : Hid (A < C2) := Nat.lt_of_lt_of_le (lt_of_heap HQ8.out.arr) hc2
            have HK19 : Hid (BArr w9 C1 (btab n K1)) := (hb9.block _ (lt_of_heap HK1.out)).trans HK1.out
            have HK2 := hide hk2
            have HKK : Hid (∀ u, u < n → ((K1 u && K2 u) = true ↔ lea (BG n st tl) u = k)) := fun u hu => by
              rw [Bool.and_eq_true, HRR1.out u hu, hr2 u hu, rc_flip HFL.out]
              constructor
              · rintro ⟨h1, h2⟩
                have h3 : lea (BG n st tl) u = lea (BG n st tl) k := lea_eq HE.out (show Bo _ u k from ⟨h2, h1⟩)
                rw [h3]; exact HLK.out
              · intro h
                have h3 : BG n st tl u k := (lea_iff HE.out).1 (by rw [h]; exact HLK.out.symm)
                exact ⟨h3.2, h3.1⟩
            clear hk2 hc2 hr2 hb9 HQ8 HK1 HRR1 HR2 p0 p1 p2 p3
            go_wp2_with fail
            go_loopw [14] (fun t wr => ∃ j : Nat, j ≤ n ∧ t = .int .i64 j ∧ QP w6 wr A (tab n (rpF (BG n st tl) k j)) ∧ BArr wr C1 (btab n K1) ∧ BArr wr C2 (btab n K2)) (fun t _ => n - (RowKit.intOf t).toNat)
            case atStart => exact ⟨0, Nat.zero_le _, rfl, HQ9.out, HK19.out, HK2.out⟩
            case round =>
              obtain ⟨j, hj, rfl, hq, hb1, hb2⟩ := hrel
              have HQJ := hide hq; have HBJ1 := hide hb1; have HBJ2 := hide hb2
              clear hq hb1 hb2 HQ9 HK19 HK2
              obtain ⟨p0, _, _, _⟩ := HC0.out _ HQJ.out.bel
              have hjm : (j : Int) + 1 ≤ 9223372036854775807 := by omega
              by_cases hjn : j < n
              · have d1 := HBJ1.out.cell j hjn
                have d2 := HBJ2.out.cell j hjn
                have y0 := HQJ.out.arr.cell j (by rw [tab_length]; exact hjn)
                have yf := HQJ.out.arr.free j
                have hkk := HKK.out j hjn
                cases h1 : K1 j with
                | false =>
                  rw [h1] at d1 hkk
                  have HN : Hid (QP w6 wr A (tab n (rpF (BG n st tl) k (j + 1)))) := by
                    have := HQJ.out; rw [rp_skip (fun h => by simpa using hkk.2 h)] at this; exact this
                  clear hkk h1
                  go_wp2_with fail
                  go_roundw
                  case rel => exact ⟨j + 1, Nat.succ_le_of_lt hjn, by go_num, HN.out, HBJ1.out, HBJ2.out⟩
                  case measure => exact mdec hjn
                | true =>
                  rw [h1] at d1 hkk
                  cases h2 : K2 j with
                  | false =>
                    rw [h2] at d2 hkk
                    have HN : Hid (QP w6 wr A (tab n (rpF (BG n st tl) k (j + 1)))) := by
                      have := HQJ.out; rw [rp_skip (fun h => by simpa using hkk.2 h)] at this; exact this
                    clear hkk h1 h2
                    go_wp2_with fail
                    go_roundw
                    case rel => exact ⟨j + 1, Nat.succ_le_of_lt hjn, by go_num, HN.out, HBJ1.out, HBJ2.out⟩
                    case measure => exact mdec hjn
                  | true =>
                    rw [h2] at d2 hkk
                    have hlj : lea (BG n st tl) j = k := hkk.1 rfl
                    have hne1 : C1 ≠ A := by have := HCA1.out; omega
                    have hne2 : C2 ≠ A := by have := HCA2.out; omega
                    have hnum : (numb (BG n st tl) j : Int) = (cx : Int) := by rw [HCX.out]; unfold numb; rw [hlj]
                    have HN : Hid (QP w6 (wr.setCell ⟨A, j, none⟩ (.int .i64 (cx : Int))) A (tab n (rpF (BG n st tl) k (j + 1)))) := by
                      have := HQJ.out.set j (cx : Int)
                      rw [← hnum, rp_set hlj, hnum] at this
                      exact this
                    have HN1 : Hid (BArr (wr.setCell ⟨A, j, none⟩ (.int .i64 (cx : Int))) C1 (btab n K1)) := (Below.heap_setCell _ _ _ _ (by show C1 ≠ A; exact hne1)).trans HBJ1.out
                    have HN2 : Hid (BArr (wr.setCell ⟨A, j, none⟩ (.int .i64 (cx : Int))) C2 (btab n K2)) := (Below.heap_setCell _ _ _ _ (by show C2 ≠ A; exact hne2)).trans HBJ2.out
                    clear hkk h1 h2 hlj hnum hne1 hne2
                    go_wp2_with fail
                    go_roundw
                    case rel => exact ⟨j + 1, Nat.succ_le_of_lt hjn, by go_num, HN.out, HN1.out, HN2.out⟩
                    case measure => exact mdec hjn
              · have HN : Hid (QP w6 wr A (tab n (rpF (BG n st tl) (k + 1) 0))) := by
                  have := HQJ.out
                  rw [show j = n by omega, rp_next] at this
                  exact this
                have hcm : (cx : Int) + 1 ≤ 9223372036854775807 := by omega
                clear hj
                go_wp2_with fail
                refine ⟨⟨k + 1, Nat.succ_le_of_lt hlt, by go_num, by rw [HCS.out]; go_num, HN.out⟩, mdec hlt⟩
          · have hv : rpF (BG n st tl) k 0 k = (numb (BG n st tl) k : Int) := by unfold rpF; rw [if_pos (by omega)]
            rw [hv] at y0
            have HCS : Hid (cntL (BG n st tl) (k + 1) = cntL (BG n st tl) k) := by show _ = _; rw [cntL_succ, if_neg hl]; rfl
            have HQ4 : Hid (QP w6 wr A (tab n (rpF (BG n st tl) (k + 1) 0))) := by have := HQR.out; rw [rp_old HE.out hl] at this; exact this
            generalize numb (BG n st tl) k = nx2 at y0 hv
            generalize cntL (BG n st tl) k = cx at HCS hcl ⊢
            clear hv hl hle hcl
            go_wp2_with fail
            refine ⟨⟨k + 1, Nat.succ_le_of_lt hlt, by go_num, by rw [HCS.out], HQ4.out⟩, mdec hlt⟩
        · have HRW : Hid (Arr wr A (tab n (fun v => (numb (BG n st tl) v : Int)))) := by
            have h1 := HQR.out.arr
            rw [tab_congr (h := fun v => (numb (BG n st tl) v : Int)) (fun v hv => by unfold rpF; rw [if_pos (by have := (lea_spec HE.out v).1; omega)])] at h1
            exact h1
          generalize cntL (BG n st tl) k = cx
          go_wp2_with fail
          go_ret2
          exact ⟨A, rfl, HRW.out, by have := HQR.out.wA; have := HB3.out.size; omega, below_on HB3.out HQR.out.bel⟩
end Go.Proofs.Yteblkbneghbcbaa
