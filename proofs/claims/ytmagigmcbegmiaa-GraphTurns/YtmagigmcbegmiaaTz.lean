/- graph.Edges, Turn, Sort, Merge: their lists lie each in a block of its own. -/
import Derived.Test.YtmagigmcbegmiaaTy
import Derived.Test.YtmagigmcbegmiaaGEd
import Derived.Test.YtmagigmcbegmiaaGA3
import Derived.Deep.RegionHeld3
import Derived.BigRegion
import Derived.BigQuiet
namespace Go.Proofs.Ytmagigmcbegmiaa
open Go.RowKit Go.Lib Go.Shelf
set_option linter.unusedVariables false
set_option linter.unusedSimpArgs false
/-- A graph laid of m edges, each list a block of its own. -/
def LdX (w : World) (n m : Nat) (F T : Nat → Nat) (W : Nat → Int) (e : Ending) (w' : World) : Prop :=
  ∃ G1 G2 G3 st tl wt nx, e = .returned (.tuple #[gAgg n (.slice (some ⟨G1, 0, none⟩) (n + 1) (n + 1)) (.slice (some ⟨G2, 0, none⟩) m m) (.slice (some ⟨G3, 0, none⟩) m m), .int .i64 0]) ∧ Arr w' G1 st ∧ Arr w' G2 tl ∧ ArrU w' G3 wt ∧ w.heap.size ≤ G1 ∧ w.heap.size ≤ G2 ∧ w.heap.size ≤ G3 ∧ G1 ≠ G2 ∧ Summed n m F n st ∧ Laying n m F T W m nx tl wt ∧ Below w.heap.size w w'
theorem arr_callX (n : Nat) (L : List Ed3) (ht : Takes n L) (x : World) (lb : Array Value) (hs : ∀ Tt : Nat → Prop, (∀ k, Tt k → x.heap.size ≤ k) → Gw Tt Try.prog 88 lb encE (upto (fEd (eFrom L) (eTo L) (eWt L)) L.length) x) :
    Calls Try.prog 61 #[.int .i64 n, .func (.func 88) #[] lb] x (ArrX x n L.length (eFrom L) (eTo L) (eWt L)) :=
  callsIn_wide.1 (arrange_anyX 0 n L.length 88 (enters_of Try.func88 (by kernel_rfl) rfl) lb (eFrom L) (eTo L) (eWt L) x ht.n_le ht.m_le (fun i hi => by have := ht.efr i hi; unfold eFrom; omega) (fun i hi => by have := ht.eto i hi; unfold eTo; omega) (fun i hi => ht.ewt i hi) hs)
set_option maxRecDepth 100000 in
set_option maxHeartbeats 4000000 in
theorem turnX_good (n : Nat) (va vb vc : Value) (st tl wt : List Int) (w : World) (hg : GIs w n va vb vc st tl wt) (hgd : Good n st tl wt) (hwn : ∀ e, 0 ≤ at_ wt e) :
    Calls Try.prog 33 #[gAgg n va vb vc] w (LdX w n tl.length (tov tl) (src st n) (fun e => at_ wt e)) := by
  obtain ⟨ao, ca, rfl⟩ := hg.s.shape
  obtain ⟨bo, cb, rfl⟩ := hg.t.shape
  obtain ⟨co, cc, rfl⟩ := hg.u.shape
  have hml := hgd.m_le
  have hn := hgd.n_le
  have hchk := good_chk' hgd
  obtain ⟨⟨r1, r2⟩, hrr⟩ : ∃ r, chk n st tl wt = r := ⟨_, rfl⟩
  rw [hrr] at hchk
  simp only at hchk
  subst hchk
  have hck := (fun W h => check_all n (.slice ao st.length ca) (.slice bo tl.length cb) (.slice co wt.length cc) st tl wt W h (by have := hgd.s_len; omega) (by omega) (by have := hgd.w_len; omega))
  rw [hrr] at hck
  have HCK := hide hck
  have HSQ := hide (fun x x' hb hx => turn_seq n (.slice ao st.length ca) (.slice bo tl.length cb) (.slice co wt.length cc) st tl wt w x x' hg hgd hb hx)
  have HAR := hide (fun x lb hs => callsIn_wide.1 (arrange_anyX 0 n tl.length 89 (enters_of Try.func89 (by kernel_rfl) rfl) lb (tov tl) (src st n) (fun e => at_ wt e) x hn hml (fun i hi => (tov_lt' hgd hi).1) (fun i hi => src_lt hgd hi) (fun i hi => ⟨hwn i, (hgd.vtx i hi).2.2⟩) hs))
  have HK1 := hide (MT.start w n (.slice ao st.length ca) (.slice bo tl.length cb) (.slice co wt.length cc))
  have HG := hide hg
  have c0 := cell_of HK1.out.bg (i := 0) rfl
  have c1 := cell_of HK1.out.bg (i := 1) rfl
  have c2 := cell_of HK1.out.bg (i := 2) rfl
  have c3 := cell_of HK1.out.bg (i := 3) rfl
  unfold gAgg at HCK ⊢
  clear hg hck hrr
  go_enter Try.func33, Try.ntmps33
  go_wp2_with fail
  generalize ((w.alloc (.cells #[.int .i64 n, .slice ao st.length ca, .slice bo tl.length cb, .slice co wt.length cc] 25)).alloc (.cells #[.int .i64 0, .slice none 0 0, .slice none 0 0, .slice none 0 0] 25)) = w1 at c0 c1 c2 c3 HK1 ⊢
  refine (HCK.out w1 (HG.out.below HK1.out.bel)).mono ?_
  rintro e w2 ⟨rfl, hb2⟩
  have HK2 := hide (HK1.out.below hb2)
  have HS2 := hide (fun x' hx => HSQ.out w2.drew x' HK2.out.drew.bel hx)
  have d0 := cell_of HK2.out.bg (i := 0) rfl
  have d1 := cell_of HK2.out.bg (i := 1) rfl
  have d2 := cell_of HK2.out.bg (i := 2) rfl
  have d3 := cell_of HK2.out.bg (i := 3) rfl
  clear c0 c1 c2 c3 HK1 hb2 HCK HG HSQ hwn
  have HGD := hide hgd
  clear hgd
  go_wp2_with fail
  go_region_with (first
    | (go_at_call 65; refine (callsIn_wide.1 (edgesT_any 0 n (.slice ao st.length ca) (.slice bo tl.length cb) (.slice co wt.length cc) _)).mono ?_; rintro e9 w9 ⟨rfl, hw9⟩; have HS9 := hide (HS2.out w9 hw9); have HK9 := hide (show MT w w9 n (.slice ao st.length ca) (.slice bo tl.length cb) (.slice co wt.length cc) from HK2.out.drew.below (by rw [hw9]; exact below_alloc (below_alloc (Below.refl _ _) _) _)); have f0 := cell_of HK9.out.bg (i := 0) rfl; clear hw9)
    | (go_at_call 61; refine (HAR.out _ _ HS9.out).mono ?_; rintro e8 w8 ⟨G1, G2, G3, st8, tl8, wt8, nx8, rfl, hA1, hA2, hA3, hG1, hG2, hG3, hG12, hSm, hLy, hb8⟩; have HK8 := hide (HK9.out.below hb8); have HA1 := hide hA1; have HA2 := hide hA2; have HA3 := hide hA3; have HSM := hide hSm; have HLY := hide hLy; have b0 := cell_of HK8.out.bg (i := 0) rfl; have r0 := cell_of HK8.out.rs (i := 0) rfl; have r1 := cell_of HK8.out.rs (i := 1) rfl; have r2 := cell_of HK8.out.rs (i := 2) rfl; have r3 := cell_of HK8.out.rs (i := 3) rfl; have q0 := free_of HK8.out.rs 0; have q1 := free_of HK8.out.rs 1; have q2 := free_of HK8.out.rs 2; have q3 := free_of HK8.out.rs 3; clear hA1 hA2 hA3 hSm hLy hb8; unfold gAgg))
  all_goals
    go_wp2
    have hlt : w.heap.size + 1 < w9.heap.size := lt_of_heap HK9.out.rs
    have HPU := HK8.out.put (.int .i64 n) (.slice (some ⟨G1, 0, none⟩) (n + 1) (n + 1)) (.slice (some ⟨G2, 0, none⟩) tl.length tl.length) (.slice (some ⟨G3, 0, none⟩) tl.length tl.length)
    exact bodyPost_ret (results_cell2 Try.results33 _ _ (w.heap.size + 1) 25 _ (0, 0) _ rfl HPU.1 Try.underlying25 rfl (by kernel_rfl) (.int .i64 0) rfl) rfl ⟨G1, G2, G3, _, _, _, _, rfl, (HPU.2.2 G1 (by omega)).trans HA1.out, (HPU.2.2 G2 (by omega)).trans HA2.out, (HPU.2.2 G3 (by omega)).trans HA3.out, by omega, by omega, by omega, hG12, HSM.out, HLY.out, HPU.2.1⟩
set_option maxRecDepth 100000 in
set_option maxHeartbeats 4000000 in
theorem sortX_good (n : Nat) (va vb vc : Value) (st tl wt : List Int) (w : World) (hg : GIs w n va vb vc st tl wt) (hgd : Good n st tl wt) (hwn : ∀ e, e < tl.length → 0 ≤ at_ wt e) :
    Calls Try.prog 35 #[gAgg n va vb vc] w (LdX w n (sortE n st tl wt).length (eFrom (sortE n st tl wt)) (eTo (sortE n st tl wt)) (eWt (sortE n st tl wt))) := by
  obtain ⟨ao, ca, rfl⟩ := hg.s.shape
  obtain ⟨bo, cb, rfl⟩ := hg.t.shape
  obtain ⟨co, cc, rfl⟩ := hg.u.shape
  have hml := hgd.m_le
  have hn := hgd.n_le
  have hchk := good_chk' hgd
  obtain ⟨⟨r1, r2⟩, hrr⟩ : ∃ r, chk n st tl wt = r := ⟨_, rfl⟩
  rw [hrr] at hchk
  simp only at hchk
  subst hchk
  have hck := (fun W h => check_all n (.slice ao st.length ca) (.slice bo tl.length cb) (.slice co wt.length cc) st tl wt W h (by have := hgd.s_len; omega) (by omega) (by have := hgd.w_len; omega))
  rw [hrr] at hck
  have HCK := hide hck
  have HTK := hide (sortE_takes hgd hwn)
  have HSL := hide (sortE_len hgd)
  have HSO := hide (fun W h => sorted_any n (.slice ao st.length ca) (.slice bo tl.length cb) (.slice co wt.length cc) st tl wt W h hgd)
  have HK1 := hide (MT.start w n (.slice ao st.length ca) (.slice bo tl.length cb) (.slice co wt.length cc))
  have HG := hide hg
  have c0 := cell_of HK1.out.bg (i := 0) rfl
  have c1 := cell_of HK1.out.bg (i := 1) rfl
  have c2 := cell_of HK1.out.bg (i := 2) rfl
  have c3 := cell_of HK1.out.bg (i := 3) rfl
  obtain ⟨L, hL⟩ : ∃ L, L = sortE n st tl wt := ⟨_, rfl⟩
  rw [← hL] at HTK HSL HSO ⊢
  clear hL
  have HAR := hide (fun x lb hs => arr_callX n L HTK.out x lb hs)
  have HSQ := hide (fun ao c w0 x x' he hb hx => values_seq n ao c L w0 x x' HTK.out he hb hx)
  obtain ⟨M, hM⟩ : ∃ M, M = tl.length := ⟨_, rfl⟩
  rw [← hM] at HSL HSO hml
  unfold gAgg at HCK HSO ⊢
  rw [← hM] at HCK HG HK1 c2 ⊢
  clear hg hck hrr hgd hM hwn
  go_enter Try.func35, Try.ntmps35
  go_wp2_with fail
  generalize ((w.alloc (.cells #[.int .i64 n, .slice ao st.length ca, .slice bo M cb, .slice co wt.length cc] 25)).alloc (.cells #[.int .i64 0, .slice none 0 0, .slice none 0 0, .slice none 0 0] 25)) = w1 at c0 c1 c2 c3 HK1 ⊢
  refine (HCK.out w1 (HG.out.below HK1.out.bel)).mono ?_
  rintro e w2 ⟨rfl, hb2⟩
  have HK2 := hide (HK1.out.below hb2)
  have HS2 := hide (HSO.out w2.drew (HG.out.below HK2.out.drew.bel))
  have d0 := cell_of HK2.out.bg (i := 0) rfl
  have d1 := cell_of HK2.out.bg (i := 1) rfl
  have d2 := cell_of HK2.out.bg (i := 2) rfl
  have d3 := cell_of HK2.out.bg (i := 3) rfl
  clear c0 c1 c2 c3 HK1 hb2 HCK HG HSO
  go_wp2_with fail
  go_region_with (first
    | (go_at_call 72; refine HS2.out.mono ?_; rintro e7 w7 ⟨R, rfl, hE7, hb7, hR7⟩; have HK7 := hide (HK2.out.drew.below hb7); have HE7 := hide (hE7.whole HSL.out (by omega)); have f0 := cell_of HK7.out.bg (i := 0) rfl; clear hE7 hb7 hR7)
    | (go_at_call 62; refine (callsIn_wide.1 (values_any 0 (some ⟨R, 0, none⟩) M M _)).mono ?_; rintro e9 w9 ⟨rfl, hw9⟩; have HS9 := hide (HSQ.out (some ⟨R, 0, none⟩) M w7 w7 w9 (by rw [HSL.out]; exact HE7.out) (Below.refl _ _) (by rw [HSL.out]; exact hw9)); have HK9 := hide (show MT w w9 n (.slice ao st.length ca) (.slice bo M cb) (.slice co wt.length cc) from HK7.out.below (by rw [hw9]; exact below_alloc (Below.refl _ _) _)); have g0 := cell_of HK9.out.bg (i := 0) rfl; clear hw9)
    | (go_at_call 61; refine (HAR.out _ _ HS9.out).mono ?_; rintro e8 w8 ⟨G1, G2, G3, st8, tl8, wt8, nx8, rfl, hA1, hA2, hA3, hG1, hG2, hG3, hG12, hSm, hLy, hb8⟩; have HK8 := hide (HK9.out.below hb8); have HA1 := hide hA1; have HA2 := hide hA2; have HA3 := hide hA3; have HSM := hide hSm; have HLY := hide hLy; have b0 := cell_of HK8.out.bg (i := 0) rfl; have r0 := cell_of HK8.out.rs (i := 0) rfl; have r1 := cell_of HK8.out.rs (i := 1) rfl; have r2 := cell_of HK8.out.rs (i := 2) rfl; have r3 := cell_of HK8.out.rs (i := 3) rfl; have q0 := free_of HK8.out.rs 0; have q1 := free_of HK8.out.rs 1; have q2 := free_of HK8.out.rs 2; have q3 := free_of HK8.out.rs 3; clear hA1 hA2 hA3 hSm hLy hb8; unfold gAgg))
  all_goals
    go_wp2
    have hlt : w.heap.size + 1 < w9.heap.size := lt_of_heap HK9.out.rs
    have HPU := HK8.out.put (.int .i64 n) (.slice (some ⟨G1, 0, none⟩) (n + 1) (n + 1)) (.slice (some ⟨G2, 0, none⟩) L.length L.length) (.slice (some ⟨G3, 0, none⟩) L.length L.length)
    exact bodyPost_ret (results_cell2 Try.results35 _ _ (w.heap.size + 1) 25 _ (0, 0) _ rfl HPU.1 Try.underlying25 rfl (by kernel_rfl) (.int .i64 0) rfl) rfl ⟨G1, G2, G3, _, _, _, _, rfl, (HPU.2.2 G1 (by omega)).trans HA1.out, (HPU.2.2 G2 (by omega)).trans HA2.out, (HPU.2.2 G3 (by omega)).trans HA3.out, by omega, by omega, by omega, hG12, HSM.out, HLY.out, HPU.2.1⟩
set_option maxRecDepth 100000 in
set_option maxHeartbeats 4000000 in
theorem mergeX_good (n : Nat) (va vb vc : Value) (st tl wt : List Int) (w : World) (hg : GIs w n va vb vc st tl wt) (hgd : Good n st tl wt) (hwn : ∀ e, e < tl.length → 0 ≤ at_ wt e) :
    Calls Try.prog 36 #[gAgg n va vb vc] w (LdX w n (cpt (sortE n st tl wt)).length (eFrom (cpt (sortE n st tl wt))) (eTo (cpt (sortE n st tl wt))) (eWt (cpt (sortE n st tl wt)))) := by
  obtain ⟨ao, ca, rfl⟩ := hg.s.shape
  obtain ⟨bo, cb, rfl⟩ := hg.t.shape
  obtain ⟨co, cc, rfl⟩ := hg.u.shape
  have hml := hgd.m_le
  have hn := hgd.n_le
  have hchk := good_chk' hgd
  obtain ⟨⟨r1, r2⟩, hrr⟩ : ∃ r, chk n st tl wt = r := ⟨_, rfl⟩
  rw [hrr] at hchk
  simp only at hchk
  subst hchk
  have hck := (fun W h => check_all n (.slice ao st.length ca) (.slice bo tl.length cb) (.slice co wt.length cc) st tl wt W h (by have := hgd.s_len; omega) (by omega) (by have := hgd.w_len; omega))
  rw [hrr] at hck
  have HCK := hide hck
  have HTK := hide (cpt_takes (sortE_takes hgd hwn) sortE_lxl)
  have HSL := hide (sortE_len hgd)
  have HSO := hide (fun W h => sorted_any n (.slice ao st.length ca) (.slice bo tl.length cb) (.slice co wt.length cc) st tl wt W h hgd)
  have HK1 := hide (MT.start w n (.slice ao st.length ca) (.slice bo tl.length cb) (.slice co wt.length cc))
  have HG := hide hg
  have c0 := cell_of HK1.out.bg (i := 0) rfl
  have c1 := cell_of HK1.out.bg (i := 1) rfl
  have c2 := cell_of HK1.out.bg (i := 2) rfl
  have c3 := cell_of HK1.out.bg (i := 3) rfl
  obtain ⟨L, hL⟩ : ∃ L, L = sortE n st tl wt := ⟨_, rfl⟩
  rw [← hL] at HTK HSL HSO ⊢
  clear hL
  have HAR := hide (fun x lb hs => arr_callX n (cpt L) HTK.out x lb hs)
  have HSQ := hide (fun ao c w0 x x' he hb hx => values_seq n ao c (cpt L) w0 x x' HTK.out he hb hx)
  have HCO := hide (fun R W hA => compact_any R tl.length L W hA HSL.out hml)
  obtain ⟨M, hM⟩ : ∃ M, M = tl.length := ⟨_, rfl⟩
  rw [← hM] at HSL HSO HCO hml
  unfold gAgg at HCK HSO ⊢
  rw [← hM] at HCK HG HK1 c2 ⊢
  clear hg hck hrr hgd hM hwn
  go_enter Try.func36, Try.ntmps36
  go_wp2_with fail
  generalize ((w.alloc (.cells #[.int .i64 n, .slice ao st.length ca, .slice bo M cb, .slice co wt.length cc] 25)).alloc (.cells #[.int .i64 0, .slice none 0 0, .slice none 0 0, .slice none 0 0] 25)) = w1 at c0 c1 c2 c3 HK1 ⊢
  refine (HCK.out w1 (HG.out.below HK1.out.bel)).mono ?_
  rintro e w2 ⟨rfl, hb2⟩
  have HK2 := hide (HK1.out.below hb2)
  have HS3 := hide (HSO.out w2 (HG.out.below HK2.out.bel))
  have d0 := cell_of HK2.out.bg (i := 0) rfl
  have d1 := cell_of HK2.out.bg (i := 1) rfl
  have d2 := cell_of HK2.out.bg (i := 2) rfl
  have d3 := cell_of HK2.out.bg (i := 3) rfl
  clear c0 c1 c2 c3 HK1 hb2 HCK HG HSO
  go_wp2_with (first
    | (go_at_call 72; refine HS3.out.mono ?_; rintro e7 w7 ⟨R, rfl, hE7, hb7, hR7⟩; have HK7 := hide (HK2.out.below hb7); have HE7 := hide hE7; have HR7 : Hid (w.heap.size + 1 < R) := (show _ < _ by have := lt_of_heap HK2.out.rs; omega); clear hE7 hb7 hR7 d0 d1 d2 d3)
    | (go_at_call 73; refine (HCO.out R w7 HE7.out).mono ?_; rintro e6 w6 ⟨rfl, hE6, hC6⟩; have HK6 := hide (HK7.out.turn HR7.out hC6); have HE6 := hide hE6; clear hE6 hC6)
    | fail)
  have f0 := cell_of HK6.out.bg (i := 0) rfl
  obtain ⟨K, hK⟩ : ∃ K, K = (cpt L).length := ⟨_, rfl⟩
  rw [← hK] at HE6 ⊢
  have HKL := hide hK
  have HS4 := hide (fun x' hx => HSQ.out (some ⟨R, 0, none⟩) M w6 w6.drew x' (by rw [← HKL.out]; exact HE6.out) (below_drew (Below.refl _ _)) hx)
  rw [← hK] at HS4
  clear hK HCO HSQ HK7 HE7
  go_region_with (first
    | (go_at_call 62; refine (callsIn_wide.1 (values_any 0 (some ⟨R, 0, none⟩) K M _)).mono ?_; rintro e9 w9 ⟨rfl, hw9⟩; have HS9 := hide (HS4.out w9 hw9); have HK9 := hide (show MT w w9 n (.slice ao st.length ca) (.slice bo M cb) (.slice co wt.length cc) from HK6.out.below (by rw [hw9]; exact below_alloc (below_drew (Below.refl _ _)) _)); have g0 := cell_of HK9.out.bg (i := 0) rfl; clear hw9)
    | (go_at_call 61; refine (HAR.out _ _ (by rw [← HKL.out]; exact HS9.out)).mono ?_; rintro e8 w8 ⟨G1, G2, G3, st8, tl8, wt8, nx8, rfl, hA1, hA2, hA3, hG1, hG2, hG3, hG12, hSm, hLy, hb8⟩; have HK8 := hide (HK9.out.below hb8); have HA1 := hide hA1; have HA2 := hide hA2; have HA3 := hide hA3; have HSM := hide hSm; have HLY := hide hLy; have b0 := cell_of HK8.out.bg (i := 0) rfl; have r0 := cell_of HK8.out.rs (i := 0) rfl; have r1 := cell_of HK8.out.rs (i := 1) rfl; have r2 := cell_of HK8.out.rs (i := 2) rfl; have r3 := cell_of HK8.out.rs (i := 3) rfl; have q0 := free_of HK8.out.rs 0; have q1 := free_of HK8.out.rs 1; have q2 := free_of HK8.out.rs 2; have q3 := free_of HK8.out.rs 3; clear hA1 hA2 hA3 hSm hLy hb8; unfold gAgg))
  all_goals
    go_wp2
    have hlt : w.heap.size + 1 < w9.heap.size := lt_of_heap HK9.out.rs
    have HPU := HK8.out.put (.int .i64 n) (.slice (some ⟨G1, 0, none⟩) (n + 1) (n + 1)) (.slice (some ⟨G2, 0, none⟩) (cpt L).length (cpt L).length) (.slice (some ⟨G3, 0, none⟩) (cpt L).length (cpt L).length)
    exact bodyPost_ret (results_cell2 Try.results36 _ _ (w.heap.size + 1) 25 _ (0, 0) _ rfl HPU.1 Try.underlying25 rfl (by kernel_rfl) (.int .i64 0) rfl) rfl ⟨G1, G2, G3, _, _, _, _, rfl, (HPU.2.2 G1 (by omega)).trans HA1.out, (HPU.2.2 G2 (by omega)).trans HA2.out, (HPU.2.2 G3 (by omega)).trans HA3.out, by omega, by omega, by omega, hG12, HSM.out, HLY.out, HPU.2.1⟩
/-- The edges, in a block of their own. -/
def EdgesX (w : World) (n : Nat) (st tl wt : List Int) (e : Ending) (w' : World) : Prop :=
  ∃ R, e = .returned (.tuple #[.agg #[.int .i64 n, .slice (some ⟨R, 0, none⟩) tl.length tl.length], .int .i64 0]) ∧ EArr w' R (rowsE n st tl wt) ∧ Below w.heap.size w w' ∧ w.heap.size ≤ R
set_option maxRecDepth 100000 in
set_option maxHeartbeats 4000000 in
theorem edgesX_good (n : Nat) (va vb vc : Value) (st tl wt : List Int) (w : World) (hg : GIs w n va vb vc st tl wt) (hgd : Good n st tl wt) :
    Calls Try.prog 29 #[gAgg n va vb vc] w (EdgesX w n st tl wt) := by
  obtain ⟨ao, ca, rfl⟩ := hg.s.shape
  obtain ⟨bo, cb, rfl⟩ := hg.t.shape
  obtain ⟨co, cc, rfl⟩ := hg.u.shape
  have hml := hgd.m_le
  have hn := hgd.n_le
  have hchk := good_chk' hgd
  obtain ⟨⟨r1, r2⟩, hrr⟩ : ∃ r, chk n st tl wt = r := ⟨_, rfl⟩
  rw [hrr] at hchk
  simp only at hchk
  subst hchk
  have hck := (fun W h => check_all n (.slice ao st.length ca) (.slice bo tl.length cb) (.slice co wt.length cc) st tl wt W h (by have := hgd.s_len; omega) (by omega) (by have := hgd.w_len; omega))
  rw [hrr] at hck
  have HCK := hide hck
  have HLI := hide (fun W h => listed_own n (.slice ao st.length ca) (.slice bo tl.length cb) (.slice co wt.length cc) st tl wt W h hgd)
  have HK1 := hide (ME.start w n (.slice ao st.length ca) (.slice bo tl.length cb) (.slice co wt.length cc))
  have HG := hide hg
  have c0 := cell_of HK1.out.bg (i := 0) rfl
  have c1 := cell_of HK1.out.bg (i := 1) rfl
  have c2 := cell_of HK1.out.bg (i := 2) rfl
  have c3 := cell_of HK1.out.bg (i := 3) rfl
  unfold gAgg at HCK HLI ⊢
  clear hg hgd hck hrr
  go_enter Try.func29, Try.ntmps29
  go_wp2_with fail
  generalize ((w.alloc (.cells #[.int .i64 n, .slice ao st.length ca, .slice bo tl.length cb, .slice co wt.length cc] 25)).alloc (.cells #[.int .i64 0, .slice none 0 0] 47)) = w1 at c0 c1 c2 c3 HK1 ⊢
  refine (HCK.out w1 (HG.out.below HK1.out.bel)).mono ?_
  rintro e w2 ⟨rfl, hb2⟩
  have HK2 := hide (HK1.out.below hb2)
  have HGR := hide (HG.out.below HK2.out.bel)
  have HLL := hide (HLI.out w2.drew (HGR.out.below (below_drew (Below.refl _ _))))
  have d0 := cell_of HK2.out.bg (i := 0) rfl
  have d1 := cell_of HK2.out.bg (i := 1) rfl
  have d2 := cell_of HK2.out.bg (i := 2) rfl
  have d3 := cell_of HK2.out.bg (i := 3) rfl
  clear c0 c1 c2 c3 HK1 hb2 HCK HLI HG
  go_wp2_with fail
  go_region_with (go_at_call 60; refine HLL.out.mono ?_; rintro e9 w3 ⟨R, rfl, hE, hb3, hR⟩; have HK3 := hide (HK2.out.drew.below hb3); have HE := hide hE; have HR := hide hR; have b0 := cell_of HK3.out.bg (i := 0) rfl; have b1 := cell_of HK3.out.rs (i := 0) rfl; have b2 := cell_of HK3.out.rs (i := 1) rfl; have b3 := free_of HK3.out.rs 0; have b4 := free_of HK3.out.rs 1; clear hE hb3 hR)
  all_goals
    go_wp2
    have hRs : w.heap.size + 1 < w2.heap.size := lt_of_heap HK2.out.rs
    have hRl : w2.heap.size ≤ R := HR.out
    have HPU := HK3.out.put (.int .i64 n) (.slice (some ⟨R, 0, none⟩) tl.length tl.length)
    have hE3 : EArr ((w3.setCell ⟨w.heap.size + 1, 0, none⟩ (.int .i64 n)).setCell ⟨w.heap.size + 1, 1, none⟩ (.slice (some ⟨R, 0, none⟩) tl.length tl.length)) R (rowsE n st tl wt) := by
      unfold EArr
      rw [Below.heap_setCell _ _ _ _ (by show R ≠ w.heap.size + 1; omega), Below.heap_setCell _ _ _ _ (by show R ≠ w.heap.size + 1; omega)]
      exact HE.out
    exact bodyPost_ret (results_cell2 Try.results29 _ _ (w.heap.size + 1) 47 _ (0, 0) _ rfl HPU.1 Try.underlying47 rfl (by kernel_rfl) (.int .i64 0) rfl) rfl ⟨R, rfl, hE3, HPU.2.1, by omega⟩
end Go.Proofs.Ytmagigmcbegmiaa
