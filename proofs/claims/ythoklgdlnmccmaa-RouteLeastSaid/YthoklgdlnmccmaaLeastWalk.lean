/- RouteLeast: the walk. -/
import Derived.Test.YthoklgdlnmccmaaLeastPlain
import Derived.Deep.CutRange
import Derived.BigRegion
import Derived.BigQuiet
namespace Go.Proofs.Ythoklgdlnmccmaa
open Go.RowKit Go.Lib
set_option linter.unusedVariables false

theorem RowAt.same {k : IntKind} {w w' : World} {g n c : Nat} {xs : List Int} (h : RowAt k w (.slice (some ⟨g, 0, none⟩) n c) xs) (hb : w'.heap[g]? = w.heap[g]?) : RowAt k w' (.slice (some ⟨g, 0, none⟩) n c) xs := by
  obtain ⟨ao, c', he, h1, h2, h3, h4⟩ := h
  simp only [Value.slice.injEq] at he
  obtain ⟨rfl, rfl, rfl⟩ := he
  refine ⟨_, _, rfl, h1, h2, h3, fun a ha i hi => ?_⟩
  have := h4 a ha i hi
  cases ha
  rw [Addr.add_lit] at this ⊢
  rw [← this]
  simp only [World.cell?]
  rw [hb]
theorem RowAt.here {k : IntKind} {w : World} {g n c : Nat} {xs : List Int} (h : RowAt k w (.slice (some ⟨g, 0, none⟩) n c) xs) (i : Nat) (hi : i < xs.length) : w.cell? ⟨g, i, none⟩ = some (.int k (at_ xs i)) := by
  obtain ⟨ao, c', he, h1, h2, h3, h4⟩ := h
  simp only [Value.slice.injEq] at he
  obtain ⟨rfl, rfl, rfl⟩ := he
  have := h4 _ rfl i hi
  rw [Addr.add_lit, Nat.zero_add] at this
  rw [this]
  simp [at_, List.getD]
theorem srch_fst {N : Int} {st tl wt : List Int} {k : Int} {S : List Pr} (h : srchNo N st tl wt k S = 0) : fstNo N st tl wt k = 0 := by
  unfold srchNo at h
  by_cases hc : fstNo N st tl wt k = 0
  · exact hc
  · rw [if_neg hc] at h; exact h
theorem ArrB.ne {w : World} {g K i : Nat} {x : Int} {k : IntKind} {l : List Bool} (h : ArrB w K l) (hc : w.cell? ⟨g, i, none⟩ = some (.int k x)) : g ≠ K := by
  rintro rfl
  unfold ArrB at h
  simp only [World.cell?, h] at hc
  simp only [bCells] at hc
  rcases hl : l[i]? with _ | b <;> simp [hl] at hc

theorem len_ok (n : Nat) (st tl wt : List Int) (k l : Int) (way : List Int) : (lenAns n st tl wt k l way).2 = 0 → (∀ i, i < way.length → stepNo n st tl way i = 0) ∧ (lenAns n st tl wt k l way).1 = lab k l wt way way.length := by
  unfold lenAns
  rcases hf : first (fun i => decide (stepNo n st tl way i ≠ 0)) way.length with _ | i
  · intro _
    refine ⟨fun i hi => ?_, rfl⟩
    unfold first at hf
    rw [List.find?_eq_none] at hf
    have := hf i (List.mem_range.2 hi)
    simpa using this
  · intro h
    unfold first at hf
    have := List.find?_some hf
    simp at this h
    exact absurd h this
set_option maxRecDepth 100000 in
set_option maxHeartbeats 8000000 in
theorem least_good (n : Nat) (va vb vc : Value) (st tl wt : List Int) (k : Int) (sv : Value) (S : List Pr) (q : Int) (wv : Value) (way : List Int) (w : World) (hg : GIs w n va vb vc st tl wt) (hgd : Good n st tl wt) (hwb : ∀ e, 0 ≤ at_ wt e ∧ at_ wt e ≤ 18446744073709551615)
    (hs : SAt w sv S) (hok : Sok n S) (hS : S.length * 16 ≤ 140737488353280) (hno : srchNo n st tl wt k S = 0) (hw : RowAt .i64 w wv way) (hwl : way.length * 8 ≤ 140737488351232) :
    Calls Try.prog 7 #[gAgg n va vb vc, .int .i64 k, sv, .int .i64 q, wv] w fun e w' => e = .returned (.bool true) ∧ Below w.heap.size w w' := by
  have hn := hgd.n_le
  have hm := hgd.m_le
  have hst : st.length * 8 ≤ 140737488351232 := by have := hgd.s_len; omega
  have hto : tl.length * 8 ≤ 140737488351232 := by omega
  have hwt : wt.length * 8 ≤ 140737488351232 := by have := hgd.w_len; omega
  obtain ⟨i0, hi, hz0, hz1, hz2⟩ := info_parts Try.info4
  obtain ⟨ao, ca, rfl⟩ := hg.s.shape
  obtain ⟨bo, cb, rfl⟩ := hg.t.shape
  obtain ⟨co, cc, rfl⟩ := hg.u.shape
  obtain ⟨so, sc, rfl, hsc, hscm⟩ := hs.shape
  obtain ⟨yo, yc, rfl⟩ := hw.shape
  have HSE := hide (fun a b c v W h h2 => rsearch_good n a b c st tl wt k v S W h hgd hwb h2 hok hS hno)
  obtain ⟨c0, c1, c2, c3, hb1, hs1⟩ := boxed w (.int .i64 n) (.slice ao st.length ca) (.slice bo tl.length cb) (.slice co wt.length cc)
  have HF := hide (fits_law n _ _ _ st tl wt k _ S _ (hg.below hb1) hst hto hwt (hs.below hb1) (fun j hj => (hok j hj).2.1) hS)
  rw [decide_eq_true hno] at HF
  have HG1 := hide (hg.below hb1)
  have HS1 := hide (hs.below hb1)
  have HW1 := hide (hw.below hb1)
  have HB1 := hide hb1
  have HD := hide hgd
  have HOK := hide hok
  have HWB := hide hwb
  have HNO := hide hno
  unfold gAgg at HF HSE ⊢
  clear hb1 hg hs hw hno hgd hwb hok
  go_enter Try.func7, Try.ntmps7
  go_wp2_with fail
  generalize (w.alloc (.cells #[.int .i64 n, .slice ao st.length ca, .slice bo tl.length cb, .slice co wt.length cc] 32)) = w1 at c0 c1 c2 c3 hs1 HB1 HF HG1 HS1 HW1 ⊢
  refine HF.out.mono ?_
  rintro e w2 ⟨rfl, hb2⟩
  obtain ⟨d0, d1, d2, d3⟩ := box_keep hs1 hb2 ⟨c0, c1, c2, c3⟩
  have HX2 := hide (box_keep hs1 hb2 ⟨c0, c1, c2, c3⟩)
  have hs2 : w.heap.size < w2.heap.size := by have := hb2.size; omega
  have HB2 := hide (below_on HB1.out hb2)
  have HG2 := hide (HG1.out.below hb2)
  have HS2 := hide (HS1.out.below hb2)
  have HW2 := hide (HW1.out.below hb2)
  clear c0 c1 c2 c3 hb2 HF HG1 HB1 HS1 HW1
  go_wp2_with fail
  have HTW := hide (twin_any n _ _ _ st tl wt w2 HG2.out hst hto hwt)
  unfold gAgg at HTW
  refine HTW.out.mono ?_
  rintro e w3 ⟨g1, p1, g2, p2, g3, p3, rfl, ht, hb3⟩
  have HX3 := hide (box_keep hs2 hb3 HX2.out)
  have hs3 : w.heap.size < w3.heap.size := by have := hb3.size; omega
  have HB3 := hide (below_on HB2.out hb3)
  have HG3 := hide (HG2.out.below hb3)
  have HS3 := hide (HS2.out.below hb3)
  have HW3 := hide (HW2.out.below hb3)
  have HT3 := hide ht
  clear d0 d1 d2 d3 hb3 HTW ht HG2 HB2 HS2 HW2 HX2
  unfold tAgg gAgg
  go_wp2_with fail
  refine (startsC_any _ S w3 HS3.out hS).mono ?_
  rintro e w4 ⟨g4, p4, rfl, hg4, hsa4, hb4⟩
  have HX4 := hide (box_keep hs3 hb4 HX3.out)
  have hs4 : w.heap.size < w4.heap.size := by have := hb4.size; omega
  have HB4 := hide (below_on HB3.out hb4)
  have HG4 := hide (HG3.out.below hb4)
  have HS4 := hide (HS3.out.below hb4)
  have HW4 := hide (HW3.out.below hb4)
  have HT4 := hide (HT3.out.below hb4)
  have HSC := hide hsa4
  clear hb4 hsa4 hg4 HG3 HB3 HS3 HW3 HX3 HT3
  go_wp2_with fail
  refine (HSE.out _ _ _ _ w4 HT4.out.gis HSC.out).mono ?_
  rintro e w5 ⟨G, L, rfl, hG, hA, hFd, hb5⟩
  obtain ⟨d0, d1, d2, d3⟩ := box_keep hs4 hb5 HX4.out
  have HX5 := hide (box_keep hs4 hb5 HX4.out)
  have hs5 : w.heap.size < w5.heap.size := by have := hb5.size; omega
  have HB5 := hide (below_on HB4.out hb5)
  have HG5 := hide (HG4.out.below hb5)
  have HS5 := hide (HS4.out.below hb5)
  have HW5 := hide (HW4.out.below hb5)
  have HA5 := hide hA
  have HFD := hide hFd
  clear hb5 hA hFd hG HG4 HB4 HS4 HW4 HX4 HT4 HSC HSE
  have hnn : ((n : Int) != (n : Int)) = false := by simp
  go_wp2_with (at_make; refine wpList_make_full _ rfl _ _ 57 rfl w5.heap.size 4 i0 (.bool false) 1 Try.underlying57 hi hz0 hz1 _ _ _ _ n rfl rfl rfl rfl (by rw [hz2]; omega) (by unfold maxLen; omega) (Nat.le_refl _) ?_; intro w6 hown hgrow)
  have hA6 := arrb_made hown
  have hb6 : Below w5.heap.size w5 w6 := (Below.refl _ _).grown hgrow (Nat.le_refl _) (by intro k hk; cases hk)
  have HK6 := hide hA6
  have HL6 := hide hb6
  obtain ⟨M, hM⟩ : ∃ M, M = S.length := ⟨_, rfl⟩
  rw [← hM] at hsc hS HS5 ⊢
  have HM := hide hM
  have hLn := HFD.out.len
  have hG5 : G < w5.heap.size := lt_of_heap HA5.out
  have hQ5 : w5.heap.size < w6.heap.size := lt_of_heap hA6
  have HOKI := hide (Okay.init n st tl wt k S L)
  clear hown hgrow hA6 hb6 hM d0 d1 d2 d3 hnn
  go_loopw [16] (fun t wr => ∃ (j : Nat) (ok : List Bool), j ≤ M ∧ t = .int .i64 j ∧ ArrB wr w5.heap.size ok ∧ Okay n st tl wt k S L ok j 0 ∧ Below w5.heap.size w5 wr) (fun t _ => M - (RowKit.intOf t).toNat)
  case atStart => exact ⟨0, _, by omega, rfl, HK6.out, HOKI.out, HL6.out⟩
  case round =>
    obtain ⟨j, ok, hjM, rfl, hK, hOk, hB⟩ := hrel
    clear HK6 HL6 HOKI
    by_cases hlt : j < M
    · as_aux_lemma =>
      have hjS : j < S.length := by have := HM.out; omega
      obtain ⟨g, o, he, p0, p1⟩ := (HS5.out.below hB).cellAt j hjS
      subst he
      obtain ⟨v, hvn, hv, hle⟩ := HFD.out.sts j hjS
      rw [hv] at p0
      have hr := HFD.out.rng v hvn
      have f0 : wr.cell? ⟨G, v, none⟩ = some (.int .u64 (at_ L v)) := (below_cell hB hG5).trans (HA5.out.cell v (by omega))
      have hol := hOk.len
      have k0 := hK.cell v (by omega)
      have kf := hK.free v
      have HST := hide (fun b hb => hOk.start (v := v) hvn hv b hb)
      have HPUT := hide (fun b => hK.put v b)
      have HBB := hide (fun m b => (below_drewN hB m).setCell (p := ⟨w5.heap.size, v, none⟩) (Nat.le_refl _) (.bool b))
      obtain ⟨y, hy⟩ : ∃ y, y = (sAt S j).2 := ⟨_, rfl⟩
      rw [← hy] at p1 HST hle
      obtain ⟨z, hz⟩ : ∃ z, z = at_ L v := ⟨_, rfl⟩
      rw [← hz] at f0 HST hle hr
      obtain ⟨b, hb⟩ : ∃ b, b = bAt ok v := ⟨_, rfl⟩
      rw [← hb] at k0 HST
      have hgt : decide (z > y) = false := decide_eq_false (by omega)
      have hgt2 : ¬ y < z := by omega
      have HLE := hide hle
      have HLN := hide hLn
      have HOL := hide hol
      clear hOk hK hB hy hz hb hv hjS hle hLn hol
      go_wp2_with fail
      go_quiet (fail)
      go_wp2_with fail
      cases b with
      | true =>
        have HFIN := hide (HST.out true (fun _ => rfl))
        have HP := hide (HPUT.out true)
        have HB2 := hide (fun m => HBB.out m true)
        clear HST HPUT HBB
        go_region
        all_goals
          go_wp2
          exact ⟨⟨j + 1, _, by omega, by simp, HP.out, HFIN.out, HB2.out _⟩, by simp [RowKit.intOf]; omega⟩
      | false =>
        have HFIN := hide (HST.out (z == y) (fun h => by rcases h with h | h <;> simp_all))
        have HP := hide (HPUT.out (z == y))
        have HB2 := hide (fun m => HBB.out m (z == y))
        clear HST HPUT HBB
        go_region
        all_goals
          go_wp2
          exact ⟨⟨j + 1, _, by omega, by simp, HP.out, HFIN.out, HB2.out _⟩, by simp [RowKit.intOf]; omega⟩
    · obtain rfl : j = M := by omega
      have HK7 := hide hK
      have HO7 := hide hOk
      have HX7 := hide (box_keep hs5 hB HX5.out)
      obtain ⟨d0, d1, d2, d3⟩ := box_keep hs5 hB HX5.out
      have HB7 := hide hB
      have hs7 : w.heap.size < wr.heap.size := by have := hB.size; omega
      have hQ7 : w5.heap.size < wr.heap.size := lt_of_heap hK
      have HFR := hide (from_any n _ _ _ st tl wt wr (HG5.out.below hB) HD.out)
      unfold gAgg at HFR
      obtain ⟨wq, hwq⟩ : ∃ wq, wq = wr := ⟨_, rfl⟩
      subst hwq
      obtain ⟨m, hm2⟩ : ∃ m, m = tl.length := ⟨_, rfl⟩
      have HMM := hide hm2
      have HTT := hide (tab_length tl.length (fun p => (src st n p : Int)))
      clear hK hOk hB hLn
      go_wp2_with fail
      refine HFR.out.mono ?_
      rintro e w8 ⟨gF, rfl, hF, hb8⟩
      have HF8 := hide hF
      have HB8 := hide (below_on (a := w5) HB7.out hb8)
      have HK8 : Hid (ArrB w8 w5.heap.size ok) := (hb8.block _ hQ7).trans HK7.out
      obtain ⟨e0, e1, e2, e3⟩ := box_keep hs7 hb8 HX7.out
      clear d0 d1 d2 d3 hb8 hF HFR HB7 HK7 HX7 e0 e1 e2 e3 hm2
      go_wp2_with fail
      have HKI := hide (kindNo_ok (fst_good (srch_fst HNO.out)).1)
      go_loopw [18] (fun t wr => ∃ (e : Nat) (ok : List Bool), e ≤ tl.length ∧ t = .int .i64 e ∧ ArrB wr w5.heap.size ok ∧ Okay n st tl wt k S L ok j e ∧ Below w5.heap.size w5 wr ∧ RowAt .i64 wr (.slice (some ⟨gF, 0, none⟩) tl.length tl.length) (tab tl.length fun p => (src st n p : Int))) (fun t _ => tl.length - (RowKit.intOf t).toNat)
      case atStart => exact ⟨0, _, by omega, rfl, HK8.out, HO7.out, HB8.out, HF8.out⟩
      case round =>
        obtain ⟨e, ok2, hem, rfl, hK, hOk, hB, hF⟩ := hrel
        clear HK8 HO7 HB8 HF8
        by_cases hlt2 : e < tl.length
        · as_aux_lemma =>
          have hGI := HG5.out.below hB
          obtain ⟨gb, ob, cb', heb, _, hcb, htc⟩ := hGI.t.spot (by intro h; rw [h] at hlt2; simp at hlt2)
          obtain ⟨gc, oc, cc', hec, _, hcc, hwc⟩ := hGI.u.spot (by intro h; have := HD.out.w_len; rw [h] at this; simp at this; omega)
          simp only [Value.slice.injEq, true_and] at heb hec
          obtain ⟨rfl, rfl⟩ := heb
          obtain ⟨rfl, rfl⟩ := hec
          have t0 := htc e hlt2
          have hwl2 : e < wt.length := by have := HD.out.w_len; omega
          have x0 := hwc e hwl2
          have s0 := hF.here e (by rw [tab_length]; exact hlt2)
          rw [tab_at _ _ _ hlt2] at s0
          have hun := src_lt HD.out hlt2
          obtain ⟨htn, htv⟩ := tov_lt HD.out hlt2
          rw [show tl[e]?.getD 0 = (tov tl e : Int) from htv] at t0
          rw [show wt[e]?.getD 0 = at_ wt e from rfl] at x0
          have hLn := HFD.out.len
          have f0 : wr.cell? ⟨G, src st n e, none⟩ = some (.int .u64 (at_ L (src st n e))) := (below_cell hB hG5).trans (HA5.out.cell _ (by omega))
          have f1 : wr.cell? ⟨G, tov tl e, none⟩ = some (.int .u64 (at_ L (tov tl e))) := (below_cell hB hG5).trans (HA5.out.cell _ (by omega))
          obtain ⟨e0, e1, e2, e3⟩ := box_keep hs5 hB HX5.out
          have hol := hOk.len
          have k0 := hK.cell (tov tl e) (by omega)
          have kf := hK.free (tov tl e)
          have hgF := hK.ne s0
          have hbl := HFD.out.bell e hlt2
          have hru := HFD.out.rng _ hun
          have hrt := HFD.out.rng _ htn
          have hwe := HWB.out e
          have HST := hide (fun b hb => hOk.edge htn b hb)
          have HPUT := hide (fun b => hK.put (tov tl e) b)
          have HBB := hide (fun m b => (below_drewN hB m).setCell (p := ⟨w5.heap.size, tov tl e, none⟩) (Nat.le_refl _) (.bool b))
          have HFF := hide (fun b m => RowAt.same (w' := (wr.drewN m).setCell ⟨w5.heap.size, tov tl e, none⟩ (.bool b)) hF (Below.heap_setCell _ _ _ _ hgF))
          have HEX := hide (fun W => extendE_any k (at_ L (src st n e)) (at_ wt e) W hru.1 (by have := hru.2; unfold Nev at this; omega) hwe.1 hwe.2)
          unfold extNo at HEX
          rw [HKI.out, if_pos rfl] at HEX
          have hxb := ext_bound (k := k) hru.1 (show at_ L (src st n e) ≤ 18446744073709551615 by have := hru.2; unfold Nev at this; omega) hwe.1 hwe.2
          obtain ⟨x, hx⟩ : ∃ x, x = ext k (at_ L (src st n e)) (at_ wt e) := ⟨_, rfl⟩
          rw [← hx] at HEX HST hbl hxb
          obtain ⟨u, hu⟩ : ∃ u, u = src st n e := ⟨_, rfl⟩
          rw [← hu] at s0 f0 hun HEX hru
          obtain ⟨y, hy⟩ : ∃ y, y = at_ L u := ⟨_, rfl⟩
          rw [← hy] at f0 HEX hru
          obtain ⟨t, ht⟩ : ∃ t, t = tov tl e := ⟨_, rfl⟩
          rw [← ht] at t0 f1 k0 kf hbl HST HPUT HBB HFF htn hrt
          obtain ⟨z, hz⟩ : ∃ z, z = at_ L t := ⟨_, rfl⟩
          rw [← hz] at f1 hbl HST hrt
          obtain ⟨wz, hwz⟩ : ∃ wz, wz = at_ wt e := ⟨_, rfl⟩
          rw [← hwz] at x0 HEX hwe
          obtain ⟨b, hb⟩ : ∃ b, b = bAt ok2 t := ⟨_, rfl⟩
          rw [← hb] at k0 HST
          have hgt : decide (x < z) = false := decide_eq_false (by omega)
          have hgt2 : ¬ x < z := by omega
          have HBL := hide hbl
          clear hOk hK hB hF hy hz hb hx hu ht hwz htv hGI htc hwc hLn hol hcb hcc hbl hgF
          go_wp2_with fail
          go_quiet (first | (go_at_call 19; exact (HEX.out _).mono fun _ _ h => ⟨h.1, _, h.2⟩))
          go_wp2_with fail
          cases b with
          | true =>
            have HFIN := hide (HST.out true (fun _ => rfl))
            have HP := hide (HPUT.out true)
            have HB2 := hide (fun m => HBB.out m true)
            have HF2 := hide (fun m => HFF.out true m)
            clear HST HPUT HBB HFF
            go_region
            all_goals
              go_wp2
              exact ⟨⟨e + 1, _, by omega, by simp, HP.out, HFIN.out, HB2.out _, HF2.out _⟩, by simp [RowKit.intOf]; omega⟩
          | false =>
            have HFIN := hide (HST.out (x == z) (fun h => by rcases h with h | h <;> simp_all))
            have HP := hide (HPUT.out (x == z))
            have HB2 := hide (fun m => HBB.out m (x == z))
            have HF2 := hide (fun m => HFF.out (x == z) m)
            clear HST HPUT HBB HFF
            go_region
            all_goals
              go_wp2
              exact ⟨⟨e + 1, _, by omega, by simp, HP.out, HFIN.out, HB2.out _, HF2.out _⟩, by simp [RowKit.intOf]; omega⟩
        · obtain rfl : e = tl.length := by omega
          have HK9 := hide hK
          have HALL := hide (fun v hv hne => Okay.all (by have := HM.out; rw [← this]; exact hOk) HFD.out (v := v) hv hne)
          have HF9 := hide hF
          have HB9 := hide hB
          have hol := hOk.len
          have HOL := hide hol
          obtain ⟨e0, e1, e2, e3⟩ := box_keep hs5 hB HX5.out
          obtain ⟨w9, hw9⟩ : ∃ w9, w9 = wr := ⟨_, rfl⟩
          subst hw9
          clear hK hOk hB hF hol
          go_wp2_with fail
          go_loopw [21] (fun t wr => ∃ v : Nat, v ≤ n ∧ t = .int .i64 v ∧ wr = w9) (fun t _ => n - (RowKit.intOf t).toNat)
          case atStart => exact ⟨0, by omega, rfl, rfl⟩
          case round =>
            obtain ⟨v, hvn, rfl, rfl⟩ := hrel
            by_cases hlt3 : v < n
            · as_aux_lemma =>
              have hLn := HFD.out.len
              have f0 : wr.cell? ⟨G, v, none⟩ = some (.int .u64 (at_ L v)) := (below_cell HB9.out hG5).trans (HA5.out.cell _ (by omega))
              have k0 := HK9.out.cell v (by have := HOL.out; omega)
              have hal := HALL.out v hlt3
              obtain ⟨y, hy⟩ : ∃ y, y = at_ L v := ⟨_, rfl⟩
              rw [← hy] at f0 hal
              obtain ⟨b, hb⟩ : ∃ b, b = bAt ok2 v := ⟨_, rfl⟩
              rw [← hb] at k0 hal
              clear hy hb hLn
              by_cases hne : y = 18446744073709551615
              · have hnb : (y != 18446744073709551615) = false := by simp [hne]
                clear hne hal
                go_wp2
                exact ⟨⟨v + 1, by omega, by simp, trivial⟩, by simp [RowKit.intOf]; omega⟩
              · have hnb : (y != 18446744073709551615) = true := by simp [hne]
                obtain rfl : b = true := hal hne
                clear hne hal
                go_wp2
                exact ⟨⟨v + 1, by omega, by simp, trivial⟩, by simp [RowKit.intOf]; omega⟩
            · obtain rfl : n = v := by omega
              have HEND := hide (below_on HB5.out HB9.out)
              have HSr := hide (HS5.out.below HB9.out)
              have HWr := hide (HW5.out.below HB9.out)
              have HGr := hide (HG5.out.below HB9.out)
              clear HK9 HALL HOL hlt hlt2 hlt3 HS5 HW5 HG5
              by_cases a1 : q < 0
              · as_aux_lemma =>
                have b1 : decide (q < 0) = true := decide_eq_true a1
                go_wp2_with fail
                go_quiet (fail)
                go_wp2
                go_ret
                exact ⟨rfl, below_drewN HEND.out _⟩
              have b1 : decide (q < 0) = false := decide_eq_false a1
              by_cases a2 : (j : Int) ≤ q
              · as_aux_lemma =>
                have b2 : decide ((j : Int) ≤ q) = true := decide_eq_true a2
                have b2' : decide (q ≥ (j : Int)) = true := decide_eq_true a2
                go_wp2_with fail
                go_quiet (fail)
                go_wp2
                go_ret
                exact ⟨rfl, below_drewN HEND.out _⟩
              have b2 : decide ((j : Int) ≤ q) = false := decide_eq_false a2
              have b2' : decide (q ≥ (j : Int)) = false := decide_eq_false a2
              have HWL := hide hwl
              obtain ⟨Y, hY⟩ : ∃ Y, Y = way.length := ⟨_, rfl⟩
              rw [← hY] at HWr ⊢
              have HY := hide hY
              clear hY hwl
              by_cases a3 : Y = 0
              · as_aux_lemma =>
                have b3 : ((Y : Int) == 0) = true := by simp [a3]
                clear a3
                go_wp2_with fail
                go_quiet (fail)
                go_wp2
                go_ret
                exact ⟨rfl, below_drewN HEND.out _⟩
              have b3 : ((Y : Int) == 0) = false := by simp; exact a3
              have hyp : 0 < Y := by omega
              obtain ⟨gy, oy, yc', hey, _, hyc, hyw⟩ := HWr.out.spot (by intro h; have := HY.out; rw [h] at this; simp at this; omega)
              simp only [Value.slice.injEq] at hey
              obtain ⟨rfl, hdrop, rfl⟩ := hey
              clear hdrop
              have y0 := hyw 0 (by have := HY.out; omega)
              rw [show way[0]?.getD 0 = at_ way 0 from rfl, Nat.add_zero] at y0
              have HYW := hide hyw
              obtain ⟨x0, hx0⟩ : ∃ x0, x0 = at_ way 0 := ⟨_, rfl⟩
              rw [← hx0] at y0
              have HX0 := hide hx0
              clear hx0 hyw hyc
              have b3n : (Y == 0) = false := by simp; exact a3
              have b3i : ¬ (Y : Int) = 0 := by omega
              by_cases a4 : x0 < 0
              · as_aux_lemma =>
                have b4 : decide (x0 < 0) = true := decide_eq_true a4
                go_wp2_with fail
                go_quiet (fail)
                go_wp2
                go_ret
                exact ⟨rfl, below_drewN HEND.out _⟩
              have b4 : decide (x0 < 0) = false := decide_eq_false a4
              obtain ⟨m, hm2⟩ : ∃ m, m = tl.length := ⟨_, rfl⟩
              by_cases a5 : (tl.length : Int) ≤ x0
              · as_aux_lemma =>
                have b5 : decide ((tl.length : Int) ≤ x0) = true := decide_eq_true a5
                have b5' : decide (x0 ≥ (tl.length : Int)) = true := decide_eq_true a5
                go_wp2_with fail
                go_quiet (fail)
                go_wp2
                go_ret
                exact ⟨rfl, below_drewN HEND.out _⟩
              have b5 : decide ((tl.length : Int) ≤ x0) = false := decide_eq_false a5
              have b5' : decide (x0 ≥ (tl.length : Int)) = false := decide_eq_false a5
              have q0 : 0 ≤ q := by omega
              have hXm : x0.toNat < tl.length := by omega
              obtain ⟨X, hX⟩ : ∃ X, X = x0.toNat := ⟨_, rfl⟩
              have hxX : x0 = (X : Int) := by omega
              have HXX := hide hxX
              rw [← hX] at hXm
              have z0 := HF9.out.here X (by rw [tab_length]; exact hXm)
              rw [tab_at _ _ _ hXm] at z0
              obtain ⟨Q, hQ⟩ : ∃ Q, Q = q.toNat := ⟨_, rfl⟩
              have hQj : Q < j := by omega
              have hqQ : q = (Q : Int) := by omega
              obtain ⟨gs, os, hes, r0, r1⟩ := HSr.out.cellAt Q (by have := HM.out; omega)
              subst hes
              clear hX hQ hm2
              subst hxX hqQ
              by_cases a6 : (src st n X : Int) = (sAt S Q).1
              · as_aux_lemma =>
                have b6 : ((src st n X : Int) != (sAt S Q).1) = false := by simp [a6]
                have hqS : Q < S.length := by have := HM.out; omega
                have hokQ := HOK.out Q hqS
                have hq2 : (sAt S Q).2 ≤ 18446744073709551615 := by have := hokQ.2.2; omega
                have hyl : 0 < way.length := by have := HY.out; omega
                have hx00 : 0 ≤ at_ way 0 ∧ at_ way 0 < (tl.length : Int) := by have := HX0.out; omega
                have hsX : (src st n (at_ way 0).toNat : Int) = (sAt S Q).1 := by rw [← HX0.out]; exact a6
                have HWG := hide (fun hst => way_ge (k := k) (q := Q) HD.out HFD.out HWB.out hqS hokQ.2.1 hq2 (way := way) hyl hx00 hsX hst)
                have HLN := hide (fun a b c u W h hu => length_good n a b c st tl wt k (sAt S Q).2 u way W h HD.out (srch_fst HNO.out) hu HWL.out hokQ.2.1 hq2 HWB.out)
                have HTW := hide (fun W h => twin_any n (.slice ao st.length ca) (.slice bo tl.length cb) (.slice co wt.length cc) st tl wt W h hst hto hwt)
                have HIN := hide (fun W h => ints_any (.slice (some ⟨gy, oy, none⟩) Y yc) way W h HWL.out)
                have HLA := hide (len_ok n st tl wt k (sAt S Q).2 way)
                have HTL := hide (fun i hi => tov_lt HD.out (e := i) hi)
                rw [show (way.length) = Y from HY.out.symm] at HLA HWG
                have e2' := e2
                have HE0 := hide e0
                have HE1 := hide e1
                have HE2 := hide e2
                have HE3 := hide e3
                have HR1 := hide r1
                unfold tAgg gAgg at HTW
                unfold LenPost gAgg at HLN
                obtain ⟨A, hA⟩ : ∃ A, A = lenAns n st tl wt k (sAt S Q).2 way := ⟨_, rfl⟩
                rw [← hA] at HLN HLA
                obtain ⟨x9, E9⟩ := A
                obtain ⟨s1, hs1'⟩ : ∃ s1, s1 = (sAt S Q).1 := ⟨_, rfl⟩
                rw [← hs1'] at r0 b6
                obtain ⟨s3, hs3'⟩ : ∃ s3, s3 = (sAt S Q).2 := ⟨_, rfl⟩
                rw [← hs3'] at r1 HR1 HLN HLA HWG
                obtain ⟨s2, hs2'⟩ : ∃ s2, s2 = (src st n X : Int) := ⟨_, rfl⟩
                rw [← hs2'] at z0 b6
                clear a6 hs1' hs2' hs3' hA hokQ hx00 hsX hyl hq2 hqS
                go_wp2_with fail
                go_quiet (fail)
                go_wp2_with fail
                have hBq : Below wr.heap.size wr (wr.drewN nq) := below_drewN (Below.refl _ _) nq
                have hsr : w.heap.size < wr.heap.size := by have := HB9.out.size; omega
                have hGq : G < wr.heap.size := by have := HB9.out.size; omega
                have hgsr : gs < wr.heap.size := block_of_cell HR1.out
                obtain ⟨e0', e1', e2', e3'⟩ := box_keep hsr hBq ⟨HE0.out, HE1.out, HE2.out, HE3.out⟩
                have r1' := (below_cell hBq hgsr).trans HR1.out
                have HGq := hide (HGr.out.below hBq)
                have HWq := hide (HWr.out.below hBq)
                have HKE := hide (fun W (h : Below (wr.drewN nq).heap.size (wr.drewN nq) W) => And.intro (box_keep (by have := hBq.size; omega) h ⟨e0', e1', e2', e3'⟩) ((below_cell h (by have := hBq.size; omega)).trans r1'))
                have HBQ := hide hBq
                obtain ⟨wz, hwz⟩ : ∃ wz, wz = wr.drewN nq := ⟨_, rfl⟩
                rw [← hwz] at HBQ HGq HWq e0' e1' e2' e3' r1' HKE ⊢
                clear hBq hwz e0 e1 e2 e3 r0 r1 y0 z0 b1 b2 b2' b3 b3n b4 b5 b5' b6
                go_cut [22, 14] from 191 to 246 (fun t u wx => t = .int .u64 x9 ∧ u = .int .i64 E9 ∧ Below wz.heap.size wz wx)
                case first =>
                  refine wp_region_noPanic ?_
                  go_region_held3 (fun x => (x.cell? ⟨w.heap.size, 0, none⟩ = some (.int .i64 n) ∧ x.cell? ⟨w.heap.size, 1, none⟩ = some (.slice ao st.length ca) ∧ x.cell? ⟨w.heap.size, 2, none⟩ = some (.slice bo tl.length cb) ∧ x.cell? ⟨w.heap.size, 3, none⟩ = some (.slice co wt.length cc)) ∧ x.cell? ⟨gs, os + Q * 2 + 1, none⟩ = some (.int .u64 s3))
                    (first | go_keep | exact HKE.out _ HBT.out | exact HKE.out _ HBI.out | exact HKE.out _ HBL.out)
                    (first
                      | (go_at_call 22; refine (HTW.out _ (by first | exact HGq.out.below HBI.out | exact HGq.out.below (below_drew (Below.refl _ _)))).mono ?_; rintro e wT ⟨g11, p11, g12, p12, g13, p13, rfl, hT, hbT⟩; have HT := hide hT; have HbT := hide hbT; have HBT : Hid (Below wz.heap.size wz wT) := (by first | exact below_on HBI.out hbT | exact below_on (below_drew (Below.refl _ _)) hbT); clear hT hbT)
                      | (go_at_call 26; refine (HIN.out _ (by first | exact HWq.out.below HBT.out | exact HWq.out.below (below_drew (Below.refl _ _)))).mono ?_; rintro e wI ⟨g21, p21, rfl, hdr, hI, hbI⟩; have HI := hide hI; have HbI := hide hbI; have HBI : Hid (Below wz.heap.size wz wI) := (by first | exact below_on HBT.out hbI | exact below_on (below_drew (Below.refl _ _)) hbI); clear hI hbI hdr)
                      | (go_at_call 31; refine (HLN.out _ _ _ _ _ (by first | exact HT.out.gis | exact (HT.out.below HbI.out).gis) (by first | exact HI.out.row | exact (HI.out.below HbT.out).row)).mono ?_; rintro e wL ⟨rfl, hbL⟩; have HBL : Hid (Below wz.heap.size wz wL) := (by first | exact below_on HBT.out hbL | exact below_on HBI.out hbL); clear hbL))
                  all_goals
                    refine NoPanic.normal ?_
                    go_wp2_with fail
                    go_meet
                    case rel => exact ⟨rfl, rfl, HBL.out⟩
                case rest =>
                  obtain ⟨rfl, rfl, hbx⟩ := hcut
                  have HBW := hide (below_on HBQ.out hbx)
                  have HFIN := hide (below_on HEND.out HBW.out)
                  obtain ⟨d0, d1, d2, d3⟩ := box_keep hsr HBW.out ⟨HE0.out, HE1.out, HE2.out, HE3.out⟩
                  clear hbx e0' e1' e2' e3' r1' HKE HGq HWq HLN HTW HIN
                  by_cases hE : E9 = 0
                  · as_aux_lemma =>
                    obtain ⟨hst0, hxl⟩ := HLA.out hE
                    obtain ⟨hge, _, _⟩ := HWG.out hst0 (Y - 1) (by omega)
                    rw [show Y - 1 + 1 = Y by omega, ← hxl] at hge
                    obtain ⟨hp0, hp1⟩ := step_ok (hst0 (Y - 1) (by omega))
                    have y9 := HYW.out (Y - 1) (by have := HY.out; omega)
                    rw [show way[Y - 1]?.getD 0 = at_ way (Y - 1) from rfl] at y9
                    have y8 := (below_cell HBW.out (block_of_cell y9)).trans y9
                    obtain ⟨pz, hpz⟩ : ∃ pz, pz = (at_ way (Y - 1)).toNat := ⟨_, rfl⟩
                    have hpe : at_ way (Y - 1) = (pz : Int) := by omega
                    rw [← hpz] at hge
                    rw [hpe] at y8
                    have hpm : pz < tl.length := by omega
                    have hGI := HGr.out.below HBW.out
                    obtain ⟨gb, ob, cb', heb, _, hcb, htc⟩ := hGI.t.spot (by intro h; rw [h] at hpm; simp at hpm)
                    simp only [Value.slice.injEq, true_and] at heb
                    obtain ⟨rfl, rfl⟩ := heb
                    have t0 := htc pz hpm
                    obtain ⟨htn, htv⟩ := HTL.out pz hpm
                    rw [show tl[pz]?.getD 0 = (tov tl pz : Int) from htv] at t0
                    have hLn := HFD.out.len
                    have f1 := (below_cell (o := tov tl pz) (below_on HB9.out HBW.out) hG5).trans (HA5.out.cell _ (by omega))
                    obtain ⟨tz, htz⟩ : ∃ tz, tz = tov tl pz := ⟨_, rfl⟩
                    rw [← htz] at t0 f1 hge htn
                    obtain ⟨lz, hlz⟩ : ∃ lz, lz = at_ L tz := ⟨_, rfl⟩
                    rw [← hlz] at f1 hge
                    have hge1 : decide (x9 ≥ lz) = true := decide_eq_true hge
                    have hge2 : decide (lz ≤ x9) = true := decide_eq_true hge
                    have hE0 : (E9 != 0) = false := by simp [hE]
                    have hy0 : 0 ≤ (Y : Int) - 1 := by omega
                    have hy1 : (Y : Int) - 1 < (Y : Int) := by omega
                    have hwrap : IntKind.i64.wrap ((Y : Int) - 1) = (Y : Int) - 1 := IntWalk.i64_in _ ⟨by omega, by have := HWL.out; have := HY.out; omega⟩
                    have hnat : Y - 1 = (IntKind.i64.wrap ((Y : Int) - 1)).toNat := by rw [hwrap]; omega
                    rw [hnat] at y8
                    rw [← hwrap] at hy0 hy1
                    clear hE hst0 hxl hp0 hp1 y9 hpz hpe hGI hcb htc htv hLn htz hlz hge hwrap hnat
                    go_wp2_with fail
                    go_quiet (fail)
                    go_wp2
                    go_ret
                    exact ⟨rfl, below_drewN HFIN.out _⟩
                  · as_aux_lemma =>
                    have hE0 : (E9 != 0) = true := by simp [hE]
                    clear hE
                    go_wp2_with fail
                    go_quiet (fail)
                    go_wp2
                    go_ret
                    exact ⟨rfl, below_drewN HFIN.out _⟩
              · as_aux_lemma =>
                have b6 : ((src st n X : Int) != (sAt S Q).1) = true := by simp [a6]
                obtain ⟨s1, hs1'⟩ : ∃ s1, s1 = (sAt S Q).1 := ⟨_, rfl⟩
                rw [← hs1'] at r0 b6
                obtain ⟨s2, hs2'⟩ : ∃ s2, s2 = (src st n X : Int) := ⟨_, rfl⟩
                rw [← hs2'] at z0 b6
                clear a6 hs1' hs2'
                go_wp2_with fail
                go_quiet (fail)
                go_wp2
                go_ret
                exact ⟨rfl, below_drewN HEND.out _⟩
end Go.Proofs.Ythoklgdlnmccmaa
