/- graph.Merge. -/
import Derived.Test.YtmagigmcbegmiaaTx
namespace Go.Proofs.Ytmagigmcbegmiaa
open Go.RowKit Go.Lib Go.Shelf
set_option linter.unusedVariables false
set_option linter.unusedSimpArgs false
set_option maxRecDepth 100000 in
set_option maxHeartbeats 4000000 in
theorem merge_good (n : Nat) (va vb vc : Value) (st tl wt : List Int) (w : World) (hg : GIs w n va vb vc st tl wt) (hgd : Good n st tl wt) (hwn : ∀ e, e < tl.length → 0 ≤ at_ wt e) :
    Calls Try.prog 36 #[gAgg n va vb vc] w (LaidW w n (cpt (sortE n st tl wt))) := by
  obtain ⟨ao, ca, rfl⟩ := hg.s.shape
  obtain ⟨bo, cb, rfl⟩ := hg.t.shape
  obtain ⟨co, cc, rfl⟩ := hg.u.shape
  have hml := hgd.m_le
  have hn := hgd.n_le
  have hchk := good_chk' hgd
  obtain ⟨⟨r1, r2⟩, hrr⟩ : ∃ r, chk n st tl wt = r := ⟨_, rfl⟩
  rw [hrr] at hchk
  simp only at hchk
  subst hchk
  have hck := (fun W h => check_all n (.slice ao st.length ca) (.slice bo tl.length cb) (.slice co wt.length cc) st tl wt W h (by have := hgd.s_len; omega) (by omega) (by have := hgd.w_len; omega))
  rw [hrr] at hck
  have HCK := hide hck
  have HTK := hide (cpt_takes (sortE_takes hgd hwn) sortE_lxl)
  have HSL := hide (sortE_len hgd)
  have HSO := hide (fun W h => sorted_any n (.slice ao st.length ca) (.slice bo tl.length cb) (.slice co wt.length cc) st tl wt W h hgd)
  have HK1 := hide (MT.start w n (.slice ao st.length ca) (.slice bo tl.length cb) (.slice co wt.length cc))
  have HG := hide hg
  have c0 := cell_of HK1.out.bg (i := 0) rfl
  have c1 := cell_of HK1.out.bg (i := 1) rfl
  have c2 := cell_of HK1.out.bg (i := 2) rfl
  have c3 := cell_of HK1.out.bg (i := 3) rfl
  obtain ⟨L, hL⟩ : ∃ L, L = sortE n st tl wt := ⟨_, rfl⟩
  rw [← hL] at HTK HSL HSO ⊢
  clear hL
  have HAR := hide (fun x lb hs => arr_call n (cpt L) HTK.out x lb hs)
  have HSQ := hide (fun ao c w0 x x' he hb hx => values_seq n ao c (cpt L) w0 x x' HTK.out he hb hx)
  have HCO := hide (fun R W hA => compact_any R tl.length L W hA HSL.out hml)
  obtain ⟨M, hM⟩ : ∃ M, M = tl.length := ⟨_, rfl⟩
  rw [← hM] at HSL HSO HCO hml
  unfold gAgg at HCK HSO ⊢
  rw [← hM] at HCK HG HK1 c2 ⊢
  clear hg hck hrr hgd hM hwn
  go_enter Try.func36, Try.ntmps36
  go_wp2_with fail
  generalize ((w.alloc (.cells #[.int .i64 n, .slice ao st.length ca, .slice bo M cb, .slice co wt.length cc] 25)).alloc (.cells #[.int .i64 0, .slice none 0 0, .slice none 0 0, .slice none 0 0] 25)) = w1 at c0 c1 c2 c3 HK1 ⊢
  refine (HCK.out w1 (HG.out.below HK1.out.bel)).mono ?_
  rintro e w2 ⟨rfl, hb2⟩
  have HK2 := hide (HK1.out.below hb2)
  have HS3 := hide (HSO.out w2 (HG.out.below HK2.out.bel))
  have d0 := cell_of HK2.out.bg (i := 0) rfl
  have d1 := cell_of HK2.out.bg (i := 1) rfl
  have d2 := cell_of HK2.out.bg (i := 2) rfl
  have d3 := cell_of HK2.out.bg (i := 3) rfl
  clear c0 c1 c2 c3 HK1 hb2 HCK HG HSO
  go_wp2_with (first
    | (go_at_call 72; refine HS3.out.mono ?_; rintro e7 w7 ⟨R, rfl, hE7, hb7, hR7⟩; have HK7 := hide (HK2.out.below hb7); have HE7 := hide hE7; have HR7 : Hid (w.heap.size + 1 < R) := (show _ < _ by have := lt_of_heap HK2.out.rs; omega); clear hE7 hb7 hR7 d0 d1 d2 d3)
    | (go_at_call 73; refine (HCO.out R w7 HE7.out).mono ?_; rintro e6 w6 ⟨rfl, hE6, hC6⟩; have HK6 := hide (HK7.out.turn HR7.out hC6); have HE6 := hide hE6; clear hE6 hC6)
    | fail)
  have f0 := cell_of HK6.out.bg (i := 0) rfl
  obtain ⟨K, hK⟩ : ∃ K, K = (cpt L).length := ⟨_, rfl⟩
  rw [← hK] at HE6 ⊢
  have HKL := hide hK
  have HS4 := hide (fun x' hx => HSQ.out (some ⟨R, 0, none⟩) M w6 w6.drew x' (by rw [← HKL.out]; exact HE6.out) (below_drew (Below.refl _ _)) hx)
  rw [← hK] at HS4
  clear hK HCO HSQ HK7 HE7
  go_region_with (first
    | (go_at_call 62; refine (callsIn_wide.1 (values_any 0 (some ⟨R, 0, none⟩) K M _)).mono ?_; rintro e9 w9 ⟨rfl, hw9⟩; have HS9 := hide (HS4.out w9 hw9); have HK9 := hide (show MT w w9 n (.slice ao st.length ca) (.slice bo M cb) (.slice co wt.length cc) from HK6.out.below (by rw [hw9]; exact below_alloc (below_drew (Below.refl _ _)) _)); have g0 := cell_of HK9.out.bg (i := 0) rfl; clear hw9)
    | (go_at_call 61; refine (HAR.out _ _ (by rw [← HKL.out]; exact HS9.out)).mono ?_; rintro e8 w8 ⟨va8, vb8, vc8, st8, tl8, wt8, nx8, rfl, hGI, hSm, hLy, hb8⟩; obtain ⟨ao8, ca8, rfl⟩ := (hGI w8 (fun _ _ => rfl)).s.shape; obtain ⟨bo8, cb8, rfl⟩ := (hGI w8 (fun _ _ => rfl)).t.shape; obtain ⟨co8, cc8, rfl⟩ := (hGI w8 (fun _ _ => rfl)).u.shape; have HK8 := hide (HK9.out.below hb8); have HGI := hide hGI; have HSM := hide hSm; have HLY := hide hLy; have b0 := cell_of HK8.out.bg (i := 0) rfl; have r0 := cell_of HK8.out.rs (i := 0) rfl; have r1 := cell_of HK8.out.rs (i := 1) rfl; have r2 := cell_of HK8.out.rs (i := 2) rfl; have r3 := cell_of HK8.out.rs (i := 3) rfl; have q0 := free_of HK8.out.rs 0; have q1 := free_of HK8.out.rs 1; have q2 := free_of HK8.out.rs 2; have q3 := free_of HK8.out.rs 3; clear hGI hSm hLy hb8; unfold gAgg))
  all_goals
    go_wp2
    have hlt : w.heap.size + 1 < w9.heap.size := lt_of_heap HK9.out.rs
    have HPU := HK8.out.put (.int .i64 n) (.slice ao8 st8.length ca8) (.slice bo8 tl8.length cb8) (.slice co8 wt8.length cc8)
    exact bodyPost_ret (results_cell2 Try.results36 _ _ (w.heap.size + 1) 25 _ (0, 0) _ rfl HPU.1 Try.underlying25 rfl (by kernel_rfl) (.int .i64 0) rfl) rfl ⟨_, _, _, _, _, _, _, rfl, HGI.out _ (fun k hk => HPU.2.2 k (by omega)), HSM.out, HLY.out, HPU.2.1⟩
end Go.Proofs.Ytmagigmcbegmiaa
