import Derived.Test.YtmagigmcbegmiaaTz
import Derived.Test.YtmagigmcbegmiaaRl
import Derived.Test.YtmagigmcbegmiaaTb
import Derived.Test.YtmagigmcbegmiaaPr
import Derived.Test.YtmagigmcbegmiaaTn
import Derived.Test.YtmagigmcbegmiaaEg
/- graph.Relabel: its lists lie each in a block of its own. -/
namespace Go.Proofs.Ytmagigmcbegmiaa
open Go.RowKit Go.Lib Go.Shelf
set_option linter.unusedVariables false
set_option linter.unusedSimpArgs false
set_option maxRecDepth 100000 in
set_option maxHeartbeats 4000000 in
theorem relabelX_good (n : Nat) (va vb vc : Value) (st tl wt : List Int) (ov : Value) (o : List Int) (P : Nat → Nat) (w : World) (hg : GIs w n va vb vc st tl wt) (hgd : Good n st tl wt) (hwn : ∀ e, 0 ≤ at_ wt e) (hp : Prm n o P) (ho : RowAt .i64 w ov o) :
    Calls Try.prog 32 #[gAgg n va vb vc, ov] w (LdX w n tl.length (rF P n st) (rT P tl) (fun e => at_ wt e)) := by
  obtain ⟨ao, ca, rfl⟩ := hg.s.shape
  obtain ⟨bo, cb, rfl⟩ := hg.t.shape
  obtain ⟨co, cc, rfl⟩ := hg.u.shape
  have hml := hgd.m_le
  have hn := hgd.n_le
  have hchk := good_chk' hgd
  obtain ⟨⟨r1, r2⟩, hrr⟩ : ∃ r, chk n st tl wt = r := ⟨_, rfl⟩
  rw [hrr] at hchk
  simp only at hchk
  subst hchk
  have hck := (fun W h => check_all n (.slice ao st.length ca) (.slice bo tl.length cb) (.slice co wt.length cc) st tl wt W h (by have := hgd.s_len; omega) (by omega) (by have := hgd.w_len; omega))
  rw [hrr] at hck
  have HCK := hide hck
  have HSQ := hide (fun Bn A x x' hb hN hA hx => ren_seq n (.slice ao st.length ca) (.slice bo tl.length cb) (.slice co wt.length cc) st tl wt P Bn A w x x' hg hgd hb hN hA hx)
  have HAR := hide (fun x lb hs => callsIn_wide.1 (arrange_anyX 0 n tl.length 89 (enters_of Try.func89 (by kernel_rfl) rfl) lb (rF P n st) (rT P tl) (fun e => at_ wt e) x hn hml (fun i hi => (hp.pos _ (src_lt hgd hi)).1) (fun i hi => (hp.pos _ (tov_lt' hgd hi).1).1) (fun i hi => ⟨hwn i, (hgd.vtx i hi).2.2⟩) hs))
  have HNU : Hid (∀ X, Below w.heap.size w X → Calls Try.prog 63 #[.int .i64 n, ov] X (NumW X n P)) := fun X hX => numbers_good n hn ov o P X hp (ho.below hX)
  have HK1 := hide (MT.start w n (.slice ao st.length ca) (.slice bo tl.length cb) (.slice co wt.length cc))
  have HG := hide hg
  have c0 := cell_of HK1.out.bg (i := 0) rfl
  have c1 := cell_of HK1.out.bg (i := 1) rfl
  have c2 := cell_of HK1.out.bg (i := 2) rfl
  have c3 := cell_of HK1.out.bg (i := 3) rfl
  unfold gAgg at HCK ⊢
  clear hg hck hrr hp ho
  go_enter Try.func32, Try.ntmps32
  go_wp2_with fail
  generalize ((w.alloc (.cells #[.int .i64 n, .slice ao st.length ca, .slice bo tl.length cb, .slice co wt.length cc] 25)).alloc (.cells #[.int .i64 0, .slice none 0 0, .slice none 0 0, .slice none 0 0] 25)) = w1 at c0 c1 c2 c3 HK1 ⊢
  refine (HCK.out w1 (HG.out.below HK1.out.bel)).mono ?_
  rintro e w2 ⟨rfl, hb2⟩
  have HK2 := hide (HK1.out.below hb2)
  have d0 := cell_of HK2.out.bg (i := 0) rfl
  clear c0 c1 c2 c3 HK1 hb2 HCK HG hwn
  have HGD := hide hgd
  clear hgd
  go_wp2_with fail
  refine (HNU.out _ HK2.out.bel).mono ?_
  rintro e w3 ⟨A, rfl, hA, hb3, hAl⟩
  have HK3 := hide (HK2.out.below hb3)
  have HA3 := hide hA
  clear d0 hA hb3 hAl HNU
  go_upto_region 5 with fail
  obtain ⟨w4, hw4⟩ : ∃ w4, w4 = w3.alloc (.cells #[.slice (some ⟨A, 0, none⟩) n n] 22) := ⟨_, rfl⟩
  have hb4 : Below w3.heap.size w3 w4 := by rw [hw4]; exact below_alloc (Below.refl _ _) _
  have hN4 : w4.heap[w3.heap.size]? = some (.cells #[.slice (some ⟨A, 0, none⟩) n n] 22 (0, 0)) := by rw [hw4]; exact heap_new _ _
  rw [← hw4]
  obtain ⟨Bn, hBn⟩ : ∃ Bn, Bn = w3.heap.size := ⟨_, rfl⟩
  rw [← hBn] at hN4 ⊢
  have HK4 := hide (HK3.out.below hb4)
  have HN4 := hide hN4
  have HA4 : Hid (Arr w4 A (tab n (fun v => (P v : Int)))) := (hb4.block _ (lt_of_heap HA3.out)).trans HA3.out
  have HS2 := hide (fun x' hx => HSQ.out Bn A w4.drew x' HK4.out.drew.bel HN4.out HA4.out hx)
  have d0 := cell_of HK4.out.bg (i := 0) rfl
  have d1 := cell_of HK4.out.bg (i := 1) rfl
  have d2 := cell_of HK4.out.bg (i := 2) rfl
  have d3 := cell_of HK4.out.bg (i := 3) rfl
  clear hw4 hb4 hN4 hBn HA3 HK3 HSQ HA4 HN4
  go_wp2_with fail
  go_region_with (first
    | (go_at_call 65; refine (callsIn_wide.1 (edgesN_any 0 n (.slice ao st.length ca) (.slice bo tl.length cb) (.slice co wt.length cc) Bn _)).mono ?_; rintro e9 w9 ⟨rfl, hw9⟩; have HS9 := hide (HS2.out w9 hw9); have HK9 := hide (show MT w w9 n (.slice ao st.length ca) (.slice bo tl.length cb) (.slice co wt.length cc) from HK4.out.drew.below (by rw [hw9]; exact below_alloc (below_alloc (Below.refl _ _) _) _)); have f0 := cell_of HK9.out.bg (i := 0) rfl; clear hw9)
    | (go_at_call 61; refine (HAR.out _ _ HS9.out).mono ?_; rintro e8 w8 ⟨G1, G2, G3, st8, tl8, wt8, nx8, rfl, hA1, hA2, hA3, hG1, hG2, hG3, hG12, hSm, hLy, hb8⟩; have HK8 := hide (HK9.out.below hb8); have HA1 := hide hA1; have HA2 := hide hA2; have HA3 := hide hA3; have HSM := hide hSm; have HLY := hide hLy; have b0 := cell_of HK8.out.bg (i := 0) rfl; have r0 := cell_of HK8.out.rs (i := 0) rfl; have r1 := cell_of HK8.out.rs (i := 1) rfl; have r2 := cell_of HK8.out.rs (i := 2) rfl; have r3 := cell_of HK8.out.rs (i := 3) rfl; have q0 := free_of HK8.out.rs 0; have q1 := free_of HK8.out.rs 1; have q2 := free_of HK8.out.rs 2; have q3 := free_of HK8.out.rs 3; clear hA1 hA2 hA3 hSm hLy hb8; unfold gAgg))
  all_goals
    go_wp2
    have hlt : w.heap.size + 1 < w9.heap.size := lt_of_heap HK9.out.rs
    have HPU := HK8.out.put (.int .i64 n) (.slice (some ⟨G1, 0, none⟩) (n + 1) (n + 1)) (.slice (some ⟨G2, 0, none⟩) tl.length tl.length) (.slice (some ⟨G3, 0, none⟩) tl.length tl.length)
    exact bodyPost_ret (results_cell2 Try.results32 _ _ (w.heap.size + 1) 25 _ (0, 0) _ rfl HPU.1 Try.underlying25 rfl (by kernel_rfl) (.int .i64 0) rfl) rfl ⟨G1, G2, G3, _, _, _, _, rfl, (HPU.2.2 G1 (by omega)).trans HA1.out, (HPU.2.2 G2 (by omega)).trans HA2.out, (HPU.2.2 G3 (by omega)).trans HA3.out, by omega, by omega, by omega, hG12, HSM.out, HLY.out, HPU.2.1⟩
end Go.Proofs.Ytmagigmcbegmiaa

/- ByDegree, Relabel, Parts of what is no graph. -/
namespace Go.Proofs.Ytmagigmcbegmiaa
open Go.RowKit Go.Lib
set_option linter.unusedVariables false
set_option linter.unusedSimpArgs false
/-- No list, and the error. -/
def NoneL (w : World) (r : Int) (e : Ending) (w' : World) : Prop := e = .returned (.tuple #[.slice none 0 0, .int .i64 r]) ∧ Below w.heap.size w w'
theorem Try.results76 : Try.f76.results = #[.cell 4 25, .tmp 5] := by kernel_rfl
set_option maxRecDepth 100000 in
set_option maxHeartbeats 4000000 in
theorem parts_bad (N : Int) (k : Int) (va vb vc : Value) (st tl wt : List Int) (w : World) (hg : GIs w N va vb vc st tl wt) (hst : st.length ≤ 17592186044416) (hto : tl.length ≤ 17592186044416) (hwt : wt.length ≤ 17592186044416) (hchk : (chk N st tl wt).1 ≠ 0) :
    Calls Try.prog 31 #[gAgg N va vb vc, .int .i64 k] w (NoneL w (chk N st tl wt).1) := by
  have HCK := hide (fun W h => check_all N va vb vc st tl wt W h hst hto hwt)
  unfold ChkPost at HCK
  obtain ⟨⟨r1, r2⟩, hrr⟩ : ∃ r, chk N st tl wt = r := ⟨_, rfl⟩
  rw [hrr] at hchk HCK ⊢
  simp only at hchk HCK ⊢
  have hb0 : Below w.heap.size w (w.alloc (.cells #[.int .i64 N, va, vb, vc] 25)) := below_alloc (Below.refl _ _) _
  have hx0 := heap_new w (.cells #[.int .i64 N, va, vb, vc] 25)
  have HB0 := hide hb0
  have HG := hide hg
  have c0 := cell_of hx0 (i := 0) rfl
  have c1 := cell_of hx0 (i := 1) rfl
  have c2 := cell_of hx0 (i := 2) rfl
  have c3 := cell_of hx0 (i := 3) rfl
  unfold gAgg at HCK ⊢
  clear hg hrr hst hto hwt hx0 hb0
  go_enter Try.func31, Try.ntmps31
  go_upto_region 1 with fail
  generalize (w.alloc (.cells #[.int .i64 N, va, vb, vc] 25)) = w1 at c0 c1 c2 c3 HB0 ⊢
  go_wp2_with fail
  refine (HCK.out w1 (HG.out.below HB0.out)).mono ?_
  rintro e w2 ⟨rfl, hb2⟩
  have HB2 := hide (below_on HB0.out hb2)
  clear c0 c1 c2 c3 HB0 hb2 HCK HG
  go_wp2_with fail
  go_ret2
  exact ⟨rfl, HB2.out⟩
set_option maxRecDepth 100000 in
set_option maxHeartbeats 4000000 in
theorem partsR_bad (N : Int) (k : Int) (va vb vc : Value) (st tl wt : List Int) (w : World) (hg : GIs w N va vb vc st tl wt) (hst : st.length ≤ 17592186044416) (hto : tl.length ≤ 17592186044416) (hwt : wt.length ≤ 17592186044416) (hchk : (chk N st tl wt).1 ≠ 0) :
    Calls Try.prog 77 #[gAgg N va vb vc, .int .i64 k] w (NoneL w (chk N st tl wt).1) := by
  have HCK := hide (fun W h => refCheck_all N va vb vc st tl wt W h hst hto hwt)
  unfold ChkPost at HCK
  obtain ⟨⟨r1, r2⟩, hrr⟩ : ∃ r, chk N st tl wt = r := ⟨_, rfl⟩
  rw [hrr] at hchk HCK ⊢
  simp only at hchk HCK ⊢
  have hb0 : Below w.heap.size w (w.alloc (.cells #[.int .i64 N, va, vb, vc] 25)) := below_alloc (Below.refl _ _) _
  have hx0 := heap_new w (.cells #[.int .i64 N, va, vb, vc] 25)
  have HB0 := hide hb0
  have HG := hide hg
  have c0 := cell_of hx0 (i := 0) rfl
  have c1 := cell_of hx0 (i := 1) rfl
  have c2 := cell_of hx0 (i := 2) rfl
  have c3 := cell_of hx0 (i := 3) rfl
  unfold gAgg at HCK ⊢
  clear hg hrr hst hto hwt hx0 hb0
  go_enter Try.func77, Try.ntmps77
  go_upto_region 1 with fail
  generalize (w.alloc (.cells #[.int .i64 N, va, vb, vc] 25)) = w1 at c0 c1 c2 c3 HB0 ⊢
  go_wp2_with fail
  refine (HCK.out w1 (HG.out.below HB0.out)).mono ?_
  rintro e w2 ⟨rfl, hb2⟩
  have HB2 := hide (below_on HB0.out hb2)
  clear c0 c1 c2 c3 HB0 hb2 HCK HG
  go_wp2_with fail
  go_ret2
  exact ⟨rfl, HB2.out⟩
set_option maxRecDepth 100000 in
set_option maxHeartbeats 4000000 in
theorem byDeg_bad (N : Int) (va vb vc : Value) (st tl wt : List Int) (w : World) (hg : GIs w N va vb vc st tl wt) (hst : st.length ≤ 17592186044416) (hto : tl.length ≤ 17592186044416) (hwt : wt.length ≤ 17592186044416) (hchk : (chk N st tl wt).1 ≠ 0) :
    Calls Try.prog 34 #[gAgg N va vb vc] w (NoneL w (chk N st tl wt).1) := by
  have HCK := hide (fun W h => check_all N va vb vc st tl wt W h hst hto hwt)
  unfold ChkPost at HCK
  obtain ⟨⟨r1, r2⟩, hrr⟩ : ∃ r, chk N st tl wt = r := ⟨_, rfl⟩
  rw [hrr] at hchk HCK ⊢
  simp only at hchk HCK ⊢
  have hb0 : Below w.heap.size w (w.alloc (.cells #[.int .i64 N, va, vb, vc] 25)) := below_alloc (Below.refl _ _) _
  have hx0 := heap_new w (.cells #[.int .i64 N, va, vb, vc] 25)
  have HB0 := hide hb0
  have HG := hide hg
  have c0 := cell_of hx0 (i := 0) rfl
  have c1 := cell_of hx0 (i := 1) rfl
  have c2 := cell_of hx0 (i := 2) rfl
  have c3 := cell_of hx0 (i := 3) rfl
  unfold gAgg at HCK ⊢
  clear hg hrr hst hto hwt hx0 hb0
  go_enter Try.func34, Try.ntmps34
  go_upto_region 1 with fail
  generalize (w.alloc (.cells #[.int .i64 N, va, vb, vc] 25)) = w1 at c0 c1 c2 c3 HB0 ⊢
  go_wp2_with fail
  refine (HCK.out w1 (HG.out.below HB0.out)).mono ?_
  rintro e w2 ⟨rfl, hb2⟩
  have HB2 := hide (below_on HB0.out hb2)
  clear c0 c1 c2 c3 HB0 hb2 HCK HG
  go_wp2_with fail
  go_ret2
  exact ⟨rfl, HB2.out⟩
set_option maxRecDepth 100000 in
set_option maxHeartbeats 4000000 in
theorem byDegR_bad (N : Int) (va vb vc : Value) (st tl wt : List Int) (w : World) (hg : GIs w N va vb vc st tl wt) (hst : st.length ≤ 17592186044416) (hto : tl.length ≤ 17592186044416) (hwt : wt.length ≤ 17592186044416) (hchk : (chk N st tl wt).1 ≠ 0) :
    Calls Try.prog 75 #[gAgg N va vb vc] w (NoneL w (chk N st tl wt).1) := by
  have HCK := hide (fun W h => refCheck_all N va vb vc st tl wt W h hst hto hwt)
  unfold ChkPost at HCK
  obtain ⟨⟨r1, r2⟩, hrr⟩ : ∃ r, chk N st tl wt = r := ⟨_, rfl⟩
  rw [hrr] at hchk HCK ⊢
  simp only at hchk HCK ⊢
  have hb0 : Below w.heap.size w (w.alloc (.cells #[.int .i64 N, va, vb, vc] 25)) := below_alloc (Below.refl _ _) _
  have hx0 := heap_new w (.cells #[.int .i64 N, va, vb, vc] 25)
  have HB0 := hide hb0
  have HG := hide hg
  have c0 := cell_of hx0 (i := 0) rfl
  have c1 := cell_of hx0 (i := 1) rfl
  have c2 := cell_of hx0 (i := 2) rfl
  have c3 := cell_of hx0 (i := 3) rfl
  unfold gAgg at HCK ⊢
  clear hg hrr hst hto hwt hx0 hb0
  go_enter Try.func75, Try.ntmps75
  go_upto_region 1 with fail
  generalize (w.alloc (.cells #[.int .i64 N, va, vb, vc] 25)) = w1 at c0 c1 c2 c3 HB0 ⊢
  go_wp2_with fail
  refine (HCK.out w1 (HG.out.below HB0.out)).mono ?_
  rintro e w2 ⟨rfl, hb2⟩
  have HB2 := hide (below_on HB0.out hb2)
  clear c0 c1 c2 c3 HB0 hb2 HCK HG
  go_wp2_with fail
  go_ret2
  exact ⟨rfl, HB2.out⟩
set_option maxRecDepth 100000 in
set_option maxHeartbeats 4000000 in
theorem parts_k (N : Int) (k : Int) (va vb vc : Value) (st tl wt : List Int) (w : World) (hg : GIs w N va vb vc st tl wt) (hst : st.length ≤ 17592186044416) (hto : tl.length ≤ 17592186044416) (hwt : wt.length ≤ 17592186044416) (hchk : (chk N st tl wt).1 = 0) (hk : k < 1 ∨ 1048576 < k) :
    Calls Try.prog 31 #[gAgg N va vb vc, .int .i64 k] w (NoneL w 60) := by
  have HCK := hide (fun W h => check_all N va vb vc st tl wt W h hst hto hwt)
  unfold ChkPost at HCK
  obtain ⟨⟨r1, r2⟩, hrr⟩ : ∃ r, chk N st tl wt = r := ⟨_, rfl⟩
  rw [hrr] at hchk HCK
  simp only at hchk HCK
  subst hchk
  have hb0 : Below w.heap.size w (w.alloc (.cells #[.int .i64 N, va, vb, vc] 25)) := below_alloc (Below.refl _ _) _
  have hx0 := heap_new w (.cells #[.int .i64 N, va, vb, vc] 25)
  have HB0 := hide hb0
  have HG := hide hg
  have c0 := cell_of hx0 (i := 0) rfl
  have c1 := cell_of hx0 (i := 1) rfl
  have c2 := cell_of hx0 (i := 2) rfl
  have c3 := cell_of hx0 (i := 3) rfl
  unfold gAgg at HCK ⊢
  clear hg hrr hst hto hwt hx0 hb0
  go_enter Try.func31, Try.ntmps31
  go_upto_region 1 with fail
  generalize (w.alloc (.cells #[.int .i64 N, va, vb, vc] 25)) = w1 at c0 c1 c2 c3 HB0 ⊢
  go_wp2_with fail
  refine (HCK.out w1 (HG.out.below HB0.out)).mono ?_
  rintro e w2 ⟨rfl, hb2⟩
  have HB2 := hide (below_on HB0.out hb2)
  clear c0 c1 c2 c3 HB0 hb2 HCK HG
  rcases hk with hk | hk
  · go_wp2_with fail
    all_goals
      go_ret2
      exact ⟨rfl, HB2.out⟩
  · have hk2 : ¬ k < 1 := by omega
    have hk3 : 1 ≤ k := by omega
    go_wp2_with fail
    all_goals
      go_ret2
      exact ⟨rfl, HB2.out⟩
set_option maxRecDepth 100000 in
set_option maxHeartbeats 4000000 in
theorem partsR_k (N : Int) (k : Int) (va vb vc : Value) (st tl wt : List Int) (w : World) (hg : GIs w N va vb vc st tl wt) (hst : st.length ≤ 17592186044416) (hto : tl.length ≤ 17592186044416) (hwt : wt.length ≤ 17592186044416) (hchk : (chk N st tl wt).1 = 0) (hk : k < 1 ∨ 1048576 < k) :
    Calls Try.prog 77 #[gAgg N va vb vc, .int .i64 k] w (NoneL w 60) := by
  have HCK := hide (fun W h => refCheck_all N va vb vc st tl wt W h hst hto hwt)
  unfold ChkPost at HCK
  obtain ⟨⟨r1, r2⟩, hrr⟩ : ∃ r, chk N st tl wt = r := ⟨_, rfl⟩
  rw [hrr] at hchk HCK
  simp only at hchk HCK
  subst hchk
  have hb0 : Below w.heap.size w (w.alloc (.cells #[.int .i64 N, va, vb, vc] 25)) := below_alloc (Below.refl _ _) _
  have hx0 := heap_new w (.cells #[.int .i64 N, va, vb, vc] 25)
  have HB0 := hide hb0
  have HG := hide hg
  have c0 := cell_of hx0 (i := 0) rfl
  have c1 := cell_of hx0 (i := 1) rfl
  have c2 := cell_of hx0 (i := 2) rfl
  have c3 := cell_of hx0 (i := 3) rfl
  unfold gAgg at HCK ⊢
  clear hg hrr hst hto hwt hx0 hb0
  go_enter Try.func77, Try.ntmps77
  go_upto_region 1 with fail
  generalize (w.alloc (.cells #[.int .i64 N, va, vb, vc] 25)) = w1 at c0 c1 c2 c3 HB0 ⊢
  go_wp2_with fail
  refine (HCK.out w1 (HG.out.below HB0.out)).mono ?_
  rintro e w2 ⟨rfl, hb2⟩
  have HB2 := hide (below_on HB0.out hb2)
  clear c0 c1 c2 c3 HB0 hb2 HCK HG
  rcases hk with hk | hk
  · go_wp2_with fail
    all_goals
      go_ret2
      exact ⟨rfl, HB2.out⟩
  · have hk2 : ¬ k < 1 := by omega
    have hk3 : 1 ≤ k := by omega
    go_wp2_with fail
    all_goals
      go_ret2
      exact ⟨rfl, HB2.out⟩
set_option maxRecDepth 100000 in
set_option maxHeartbeats 4000000 in
theorem relabel_bad (N : Int) (ov : Value) (va vb vc : Value) (st tl wt : List Int) (w : World) (hg : GIs w N va vb vc st tl wt) (hst : st.length ≤ 17592186044416) (hto : tl.length ≤ 17592186044416) (hwt : wt.length ≤ 17592186044416) (hchk : (chk N st tl wt).1 ≠ 0) :
    Calls Try.prog 32 #[gAgg N va vb vc, ov] w (NoneG w (chk N st tl wt).1) := by
  have HCK := hide (fun W h => check_all N va vb vc st tl wt W h hst hto hwt)
  unfold ChkPost at HCK
  obtain ⟨⟨r1, r2⟩, hrr⟩ : ∃ r, chk N st tl wt = r := ⟨_, rfl⟩
  rw [hrr] at hchk HCK ⊢
  simp only at hchk HCK ⊢
  have HK1 := hide (MT.start w N va vb vc)
  have HG := hide hg
  have c0 := cell_of HK1.out.bg (i := 0) rfl
  have c1 := cell_of HK1.out.bg (i := 1) rfl
  have c2 := cell_of HK1.out.bg (i := 2) rfl
  have c3 := cell_of HK1.out.bg (i := 3) rfl
  unfold gAgg at HCK ⊢
  clear hg hrr hst hto hwt
  go_enter Try.func32, Try.ntmps32
  go_upto_region 1 with fail
  generalize ((w.alloc (.cells #[.int .i64 N, va, vb, vc] 25)).alloc (.cells #[.int .i64 0, .slice none 0 0, .slice none 0 0, .slice none 0 0] 25)) = w1 at c0 c1 c2 c3 HK1 ⊢
  go_wp2_with fail
  refine (HCK.out w1 (HG.out.below HK1.out.bel)).mono ?_
  rintro e w2 ⟨rfl, hb2⟩
  have HK2 := hide (HK1.out.below hb2)
  have q0 := cell_of HK2.out.rs (i := 0) rfl
  have z0 := free_of HK2.out.rs 0
  have q1 := cell_of HK2.out.rs (i := 1) rfl
  have z1 := free_of HK2.out.rs 1
  have q2 := cell_of HK2.out.rs (i := 2) rfl
  have z2 := free_of HK2.out.rs 2
  have q3 := cell_of HK2.out.rs (i := 3) rfl
  have z3 := free_of HK2.out.rs 3
  have HPU := hide (HK2.out.put (.int .i64 0) (.slice none 0 0) (.slice none 0 0) (.slice none 0 0))
  clear c0 c1 c2 c3 HK1 hb2 HCK HG HK2
  go_wp2_with fail
  exact bodyPost_ret (results_cell2 Try.results32 _ _ (w.heap.size + 1) 25 _ (0, 0) _ rfl HPU.out.1 Try.underlying25 rfl (by kernel_rfl) (.int .i64 r1) rfl) rfl ⟨rfl, HPU.out.2.1⟩
set_option maxRecDepth 100000 in
set_option maxHeartbeats 4000000 in
theorem relabelR_bad (N : Int) (ov : Value) (va vb vc : Value) (st tl wt : List Int) (w : World) (hg : GIs w N va vb vc st tl wt) (hst : st.length ≤ 17592186044416) (hto : tl.length ≤ 17592186044416) (hwt : wt.length ≤ 17592186044416) (hchk : (chk N st tl wt).1 ≠ 0) :
    Calls Try.prog 76 #[gAgg N va vb vc, ov] w (NoneG w (chk N st tl wt).1) := by
  have HCK := hide (fun W h => refCheck_all N va vb vc st tl wt W h hst hto hwt)
  unfold ChkPost at HCK
  obtain ⟨⟨r1, r2⟩, hrr⟩ : ∃ r, chk N st tl wt = r := ⟨_, rfl⟩
  rw [hrr] at hchk HCK ⊢
  simp only at hchk HCK ⊢
  have HK1 := hide (MT.start w N va vb vc)
  have HG := hide hg
  have c0 := cell_of HK1.out.bg (i := 0) rfl
  have c1 := cell_of HK1.out.bg (i := 1) rfl
  have c2 := cell_of HK1.out.bg (i := 2) rfl
  have c3 := cell_of HK1.out.bg (i := 3) rfl
  unfold gAgg at HCK ⊢
  clear hg hrr hst hto hwt
  go_enter Try.func76, Try.ntmps76
  go_upto_region 1 with fail
  generalize ((w.alloc (.cells #[.int .i64 N, va, vb, vc] 25)).alloc (.cells #[.int .i64 0, .slice none 0 0, .slice none 0 0, .slice none 0 0] 25)) = w1 at c0 c1 c2 c3 HK1 ⊢
  go_wp2_with fail
  refine (HCK.out w1 (HG.out.below HK1.out.bel)).mono ?_
  rintro e w2 ⟨rfl, hb2⟩
  have HK2 := hide (HK1.out.below hb2)
  have q0 := cell_of HK2.out.rs (i := 0) rfl
  have z0 := free_of HK2.out.rs 0
  have q1 := cell_of HK2.out.rs (i := 1) rfl
  have z1 := free_of HK2.out.rs 1
  have q2 := cell_of HK2.out.rs (i := 2) rfl
  have z2 := free_of HK2.out.rs 2
  have q3 := cell_of HK2.out.rs (i := 3) rfl
  have z3 := free_of HK2.out.rs 3
  have HPU := hide (HK2.out.put (.int .i64 0) (.slice none 0 0) (.slice none 0 0) (.slice none 0 0))
  clear c0 c1 c2 c3 HK1 hb2 HCK HG HK2
  go_wp2_with fail
  exact bodyPost_ret (results_cell2 Try.results76 _ _ (w.heap.size + 1) 25 _ (0, 0) _ rfl HPU.out.1 Try.underlying25 rfl (by kernel_rfl) (.int .i64 r1) rfl) rfl ⟨rfl, HPU.out.2.1⟩
end Go.Proofs.Ytmagigmcbegmiaa

/- graph.numbers of any list; Relabel where the list is no order. -/
namespace Go.Proofs.Ytmagigmcbegmiaa
open Go.RowKit Go.Lib
set_option linter.unusedVariables false
set_option linter.unusedSimpArgs false
/-- Where a vertex stands first in the list. -/
def plc (o : List Int) (v : Nat) : Nat := o.idxOf (v : Int)
/-- The place i is fine: a vertex that is not ahead of it. -/
def fineO (n : Nat) (o : List Int) (i : Nat) : Prop := (0 ≤ at_ o i ∧ at_ o i < n) ∧ plc o (at_ o i).toNat = i
/-- The list is an order of the vertices. -/
def okO (n : Nat) (o : List Int) : Prop := o.length = n ∧ ∀ i, i < n → fineO n o i
theorem plc_at {o : List Int} {v : Nat} (h : plc o v < o.length) : at_ o (plc o v) = (v : Int) := by
  unfold plc at h ⊢
  have := List.getElem_idxOf h
  simp [at_, List.getD, List.getElem?_eq_getElem h, this]
theorem plc_le {o : List Int} {v i : Nat} (hi : i < o.length) (h : at_ o i = (v : Int)) : plc o v ≤ i := by
  unfold plc
  rw [Nat.le_iff_lt_or_eq]
  by_cases hc : List.idxOf (v : Int) o ≤ i
  · omega
  · exfalso
    have hlt : i < List.idxOf (v : Int) o := by omega
    have := List.not_of_lt_findIdx (p := (· == (v : Int))) (xs := o) (i := i) (by unfold List.idxOf at hlt; exact hlt)
    simp only [at_, List.getD, List.getElem?_eq_getElem hi, Option.getD_some] at h
    simp [h] at this
theorem okO.prm {n : Nat} {o : List Int} (h : okO n o) : Prm n o (plc o) := by
  obtain ⟨hl, hf⟩ := h
  have hr : ∀ i, i < n → ∃ v : Nat, at_ o i = (v : Int) ∧ v < n ∧ plc o v = i := fun i hi => by
    obtain ⟨⟨h1, h2⟩, h3⟩ := hf i hi
    refine ⟨(at_ o i).toNat, by omega, by omega, h3⟩
  refine ⟨hl, hr, fun v hv => ?_⟩
  have hs : ∀ v, v < n → ∃ i, i < n ∧ at_ o i = (v : Int) := by
    have hinj : ∀ i j, i < n → j < n → (at_ o i).toNat = (at_ o j).toNat → i = j := fun i j hi hj he => by
      rw [← (hf i hi).2, ← (hf j hj).2, he]
    intro v hv
    obtain ⟨i, hi, he⟩ := inj_surj n (fun i => (at_ o i).toNat) (fun i hi => by have := (hf i hi).1; omega) hinj v hv
    exact ⟨i, hi, by have := (hf i hi).1; omega⟩
  obtain ⟨i, hi, he⟩ := hs v hv
  have := plc_le (by omega : i < o.length) he
  exact ⟨by omega, plc_at (by omega)⟩
/-- What numbers answers. -/
def NumA (w : World) (n : Nat) (o : List Int) (e : Ending) (w' : World) : Prop :=
  (okO n o ∧ NumW w n (plc o) e w') ∨ (¬ okO n o ∧ e = .returned (.tuple #[.slice none 0 0, .bool false]) ∧ Below w.heap.size w w')
set_option maxRecDepth 100000 in
set_option maxHeartbeats 4000000 in
theorem numbers_len (n : Nat) (ov : Value) (o : List Int) (w : World) (hl : o.length ≠ n) (ho : RowAt .i64 w ov o) : Calls Try.prog 63 #[.int .i64 n, ov] w (NumA w n o) := by
  obtain ⟨oo, oc, rfl⟩ := ho.shape
  have hnn : ((o.length : Int) != (n : Int)) = true := by simp; omega
  have HN : Hid (¬ okO n o) := fun h => hl h.1
  clear ho hl
  go_enter Try.func63, Try.ntmps63
  go_wp2_with fail
  go_ret2
  exact .inr ⟨HN.out, rfl, Below.refl _ _⟩
set_option maxRecDepth 100000 in
set_option maxHeartbeats 4000000 in
theorem numbers_any (n : Nat) (hn : n ≤ 1048576) (ov : Value) (o : List Int) (w : World) (ho : RowAt .i64 w ov o) : Calls Try.prog 63 #[.int .i64 n, ov] w (NumA w n o) := by
  by_cases hl : o.length = n
  case neg => exact numbers_len n ov o w hl ho
  obtain ⟨oo, oc, rfl⟩ := ho.shape
  have HL := hide hl
  rw [hl] at ho ⊢
  have hmi := run_makeI n (by omega)
  have hmb := run_makeB n (by omega)
  have HO := hide ho
  obtain ⟨V, hV⟩ : ∃ V, V = (w.alloc (.cells (madeCells #[.int .i64 0] n) 3)).alloc (.cells (madeCells #[.bool false] n) 4) := ⟨_, rfl⟩
  have HNM : Hid (NM w V (plL (plc o) n 0) (knL (plc o) n 0)) := by
    have hs : (w.alloc (.cells (madeCells #[.int .i64 0] n) 3)).heap.size = w.heap.size + 1 := by simp
    refine ⟨by rw [hV]; exact below_alloc (below_alloc (Below.refl _ _) _) _, ?_, ?_⟩
    · rw [plL_zero]
      refine arr_new ?_
      rw [hV]
      exact (Below.heap_alloc _ _ _ (by rw [hs]; omega)).trans (heap_new _ _)
    · unfold ArrB
      rw [knL_zero, ← made_bools, hV]
      have := heap_new (w.alloc (.cells (madeCells #[.int .i64 0] n) 3)) (.cells (madeCells #[.bool false] n) 4)
      rw [hs] at this; exact this
  have hnn : ((n : Int) != (n : Int)) = false := by simp
  clear ho hl
  go_enter Try.func63, Try.ntmps63
  go_wp2_with fail
  rw [← hV]
  clear hV hmi hmb hnn
  go_loopw [20, 8, 9] (fun t _ _ wr => ∃ i : Nat, t = .int .i64 (i : Int) ∧ i ≤ n ∧ NM w wr (plL (plc o) n i) (knL (plc o) n i) ∧ ∀ j, j < i → fineO n o j) (fun t _ _ _ => n - (RowKit.intOf t).toNat)
  case atStart => exact ⟨0, rfl, Nat.zero_le _, HNM.out, fun j hj => absurd hj (Nat.not_lt_zero j)⟩
  case round =>
    obtain ⟨i, rfl, hi, hnm, hfi⟩ := hrel
    have HN := hide hnm; have HFI := hide hfi
    clear hnm HNM hfi
    by_cases hlt : i < n
    · obtain ⟨g, o2, c2, he, _, hx⟩ := (HO.out.below HN.out.bel).cellAt i (by rw [HL.out]; exact hlt)
      rw [HL.out] at he
      simp only [Value.slice.injEq, true_and] at he
      obtain ⟨rfl, rfl⟩ := he
      have hii : (i : Int) < (n : Int) := by omega
      by_cases hv : IsV (n : Int) (at_ o i)
      case neg =>
        have HNO : Hid (¬ okO n o) := fun h => hv ((h.2 i hlt).1)
        have HV := hide (isV_any n (at_ o i) wr)
        rw [show decide (IsV (n : Int) (at_ o i)) = false from decide_eq_false hv] at HV
        clear hv
        obtain ⟨x, hxx⟩ : ∃ x, x = at_ o i := ⟨_, rfl⟩
        rw [← hxx] at hx HV
        clear hxx
        go_wp2_with (first | (go_at_call 49; refine HV.out.mono ?_; rintro e w9 ⟨rfl, hw9⟩; subst hw9) | fail)
        go_ret2
        exact .inr ⟨HNO.out, rfl, HN.out.bel⟩
      obtain ⟨q, hq1, hq2⟩ : ∃ q : Nat, at_ o i = (q : Int) ∧ q < n := ⟨(at_ o i).toNat, by have := hv.1; omega, by have := hv.1; have := hv.2; omega⟩
      have hle : plc o q ≤ i := plc_le (by rw [HL.out]; exact hlt) hq1
      have hqi : (q : Int) < (n : Int) := by omega
      have HV := hide (isV_any n q wr)
      rw [show decide (IsV (n : Int) (q : Int)) = true from decide_eq_true ⟨by omega, by omega⟩] at HV
      have HQ1 := hide hq1
      rw [hq1] at hx
      clear hv hq1
      by_cases hq3 : plc o q < i
      · have HNO : Hid (¬ okO n o) := fun h => by
          have := (h.2 i hlt).2
          rw [HQ1.out] at this
          simp at this
          omega
        have yb := HN.out.b.cell q (by rw [knL_len]; exact hq2)
        rw [knL_at hq2, decide_eq_true hq3] at yb
        clear hq3 hle
        go_wp2_with (first | (go_at_call 49; refine HV.out.mono ?_; rintro e w9 ⟨rfl, hw9⟩; subst hw9) | fail)
        go_ret2
        exact .inr ⟨HNO.out, rfl, HN.out.bel⟩
      have hq4 : plc o q = i := by omega
      have HFN : Hid (∀ j, j < i + 1 → fineO n o j) := fun j hj => by
        by_cases h : j < i
        · exact HFI.out j h
        · obtain rfl : j = i := by omega
          refine ⟨⟨by rw [HQ1.out]; omega, by rw [HQ1.out]; omega⟩, ?_⟩
          rw [HQ1.out]; simpa using hq4
      have hu : ∀ v, v < n → plc o v = i → v = q := fun v' hv' he => by
        have h1 := plc_at (o := o) (v := v') (by rw [he, HL.out]; exact hlt)
        rw [he, HQ1.out] at h1
        omega
      have HS1 := hide (plL_set hq4 hu)
      have HS2 := hide (knL_set hq4 hu)
      have yb := HN.out.b.cell q (by rw [knL_len]; exact hq2)
      rw [knL_at hq2, hq4, decide_eq_false (Nat.lt_irrefl i)] at yb
      have yc := HN.out.a.cell q (by unfold plL; rw [tab_length]; exact hq2)
      have yf := HN.out.a.free q
      have yg := HN.out.b.free q
      clear hq4 hu hq3 hle
      go_wp2_with (first | (go_at_call 49; refine HV.out.mono ?_; rintro e w9 ⟨rfl, hw9⟩; subst hw9) | fail)
      refine ⟨⟨i + 1, by simp, by omega, ?_, HFN.out⟩, by simp [RowKit.intOf]; omega⟩
      rw [← HS1.out, ← HS2.out]
      exact HN.out.put _ _ _ _
    · obtain rfl : n = i := by omega
      have HOK : Hid (okO n o) := ⟨HL.out, HFI.out⟩
      have ha := HN.out.a
      rw [plL_all (fun v hv => (HOK.out.prm.pos v hv).1)] at ha
      have HA := hide ha
      clear ha
      go_wp2_with fail
      go_ret2
      exact .inl ⟨HOK.out, w.heap.size, rfl, HA.out, HN.out.bel, Nat.le_refl _⟩
set_option maxRecDepth 100000 in
set_option maxHeartbeats 4000000 in
theorem relabel_list (n : Nat) (va vb vc ov : Value) (st tl wt o : List Int) (w : World) (hg : GIs w n va vb vc st tl wt) (hgd : Good n st tl wt) (ho : RowAt .i64 w ov o) (hno : ¬ okO n o) :
    Calls Try.prog 32 #[gAgg n va vb vc, ov] w (NoneG w 34) := by
  have hml := hgd.m_le
  have hn := hgd.n_le
  have hchk := good_chk' hgd
  obtain ⟨⟨r1, r2⟩, hrr⟩ : ∃ r, chk n st tl wt = r := ⟨_, rfl⟩
  rw [hrr] at hchk
  simp only at hchk
  subst hchk
  have hck := (fun W h => check_all n va vb vc st tl wt W h (by have := hgd.s_len; omega) (by omega) (by have := hgd.w_len; omega))
  unfold ChkPost at hck
  rw [hrr] at hck
  have HCK := hide hck
  have HNU : Hid (∀ X, Below w.heap.size w X → Calls Try.prog 63 #[.int .i64 n, ov] X fun e w' => e = .returned (.tuple #[.slice none 0 0, .bool false]) ∧ Below X.heap.size X w') := fun X hX => (numbers_any n hn ov o X (ho.below hX)).mono (fun e w' h => by
    rcases h with ⟨h, _⟩ | ⟨_, h2, h3⟩
    · exact (hno h).elim
    · exact ⟨h2, h3⟩)
  have HK1 := hide (MT.start w n va vb vc)
  have HG := hide hg
  have c0 := cell_of HK1.out.bg (i := 0) rfl
  have c1 := cell_of HK1.out.bg (i := 1) rfl
  have c2 := cell_of HK1.out.bg (i := 2) rfl
  have c3 := cell_of HK1.out.bg (i := 3) rfl
  unfold gAgg at HCK ⊢
  clear hg hrr hgd hck hml hn ho hno
  go_enter Try.func32, Try.ntmps32
  go_upto_region 1 with fail
  generalize ((w.alloc (.cells #[.int .i64 n, va, vb, vc] 25)).alloc (.cells #[.int .i64 0, .slice none 0 0, .slice none 0 0, .slice none 0 0] 25)) = w1 at c0 c1 c2 c3 HK1 ⊢
  go_wp2_with fail
  refine (HCK.out w1 (HG.out.below HK1.out.bel)).mono ?_
  rintro e w2 ⟨rfl, hb2⟩
  have HK2 := hide (HK1.out.below hb2)
  have d0 := cell_of HK2.out.bg (i := 0) rfl
  clear c0 c1 c2 c3 HK1 hb2 HCK HG
  go_wp2_with fail
  refine (HNU.out _ HK2.out.bel).mono ?_
  rintro e w3 ⟨rfl, hb3⟩
  have HK3 := hide (HK2.out.below hb3)
  clear d0 HK2 HNU hb3
  go_upto_region 5 with fail
  obtain ⟨w4, hw4⟩ : ∃ w4, w4 = w3.alloc (.cells #[.slice none 0 0] 22) := ⟨_, rfl⟩
  have hb4 : Below w3.heap.size w3 w4 := by rw [hw4]; exact below_alloc (Below.refl _ _) _
  rw [← hw4]
  have HK4 := hide (HK3.out.below hb4)
  have q0 := cell_of HK4.out.rs (i := 0) rfl
  have z0 := free_of HK4.out.rs 0
  have q1 := cell_of HK4.out.rs (i := 1) rfl
  have z1 := free_of HK4.out.rs 1
  have q2 := cell_of HK4.out.rs (i := 2) rfl
  have z2 := free_of HK4.out.rs 2
  have q3 := cell_of HK4.out.rs (i := 3) rfl
  have z3 := free_of HK4.out.rs 3
  have HPU := hide (HK4.out.put (.int .i64 0) (.slice none 0 0) (.slice none 0 0) (.slice none 0 0))
  clear HK3 HK4 hw4 hb4
  go_wp2_with fail
  exact bodyPost_ret (results_cell2 Try.results32 _ _ (w.heap.size + 1) 25 _ (0, 0) _ rfl HPU.out.1 Try.underlying25 rfl (by kernel_rfl) (.int .i64 34) rfl) rfl ⟨rfl, HPU.out.2.1⟩
end Go.Proofs.Ytmagigmcbegmiaa

/- The document's Relabel. -/
namespace Go.Proofs.Ytmagigmcbegmiaa
open Go.RowKit Go.Lib
set_option linter.unusedVariables false
set_option linter.unusedSimpArgs false
def miL (n i : Nat) : List Int := tab n (fun v => if v < i then -1 else 0)
theorem miL_zero (n : Nat) : miL n 0 = tab n (fun _ => 0) := tab_congr fun v _ => if_neg (by omega)
theorem miL_set (n i : Nat) : (miL n i).set i (-1) = miL n (i + 1) := by
  unfold miL
  rw [tab_set]
  refine tab_congr fun v hv => ?_
  by_cases h : v = i
  · rw [if_pos h, if_pos (by omega)]
  · rw [if_neg h]
    by_cases h2 : v < i
    · rw [if_pos h2, if_pos (by omega)]
    · rw [if_neg h2, if_neg (by omega)]
def nwL (P : Nat → Nat) (n i : Nat) : List Int := tab n (fun v => if P v < i then (P v : Int) else -1)
theorem nwL_zero (P : Nat → Nat) (n : Nat) : miL n n = nwL P n 0 := tab_congr fun v hv => by rw [if_pos hv, if_neg (by omega)]
theorem nwL_at {P : Nat → Nat} {n i v : Nat} (hv : v < n) : at_ (nwL P n i) v = if P v < i then (P v : Int) else -1 := by unfold nwL; rw [tab_at _ _ _ hv]
theorem nwL_set {P : Nat → Nat} {n i q : Nat} (hq : P q = i) (hu : ∀ v, v < n → P v = i → v = q) : (nwL P n i).set q (i : Int) = nwL P n (i + 1) := by
  unfold nwL
  rw [tab_set]
  refine tab_congr fun v hv => ?_
  by_cases h : v = q
  · subst h
    rw [if_pos rfl, if_pos (by omega), hq]
  · rw [if_neg h]
    by_cases h2 : P v < i
    · rw [if_pos h2, if_pos (by omega)]
    · rw [if_neg h2, if_neg (by intro h3; exact h (hu v hv (by omega)))]
/-- The first k are changed. -/
def rwL (f : Ed3 → Ed3) (l : List Ed3) (k : Nat) : List Ed3 := (List.range l.length).map (fun i => if i < k then f (eAt l i) else eAt l i)
theorem rwL_length (f : Ed3 → Ed3) (l : List Ed3) (k : Nat) : (rwL f l k).length = l.length := by simp [rwL]
theorem rwL_at {f : Ed3 → Ed3} {l : List Ed3} {k i : Nat} (h : i < l.length) : eAt (rwL f l k) i = if i < k then f (eAt l i) else eAt l i := by simp [rwL, eAt, h]
theorem rwL_zero (f : Ed3 → Ed3) (l : List Ed3) : rwL f l 0 = l := by
  apply List.ext_getElem
  · simp [rwL]
  · intro i h1 h2; simp [rwL, eAt, h2]
theorem rwL_next {f : Ed3 → Ed3} {l : List Ed3} {k : Nat} (h : k < l.length) : (rwL f l k).set k (f (eAt l k)) = rwL f l (k + 1) := by
  apply List.ext_getElem
  · simp [rwL]
  · intro i h1 h2
    have hi : i < l.length := by simpa [rwL] using h2
    rw [List.getElem_set]
    simp only [rwL, List.getElem_map, List.getElem_range]
    by_cases e : k = i
    · subst e; rw [if_pos rfl, if_pos (by omega)]
    · rw [if_neg e]
      by_cases h3 : i < k
      · rw [if_pos h3, if_pos (by omega)]
      · rw [if_neg h3, if_neg (by omega)]
/-- An edge with its ends numbered anew. -/
def rnE (P : Nat → Nat) (x : Ed3) : Ed3 := ((P x.1.toNat : Int), (P x.2.1.toNat : Int), x.2.2)
theorem rn_at {n : Nat} {st tl wt : List Int} {P : Nat → Nat} {i : Nat} (hi : i < tl.length) : eAt (rwL (rnE P) (gEdges n st tl wt tl.length) tl.length) i = ((rF P n st i : Int), (rT P tl i : Int), at_ wt i) := by
  rw [rwL_at (by rw [gEdges_length]; exact hi), if_pos hi, gEdges_at hi]
  simp [rnE, rF, rT, tov]
theorem rn_takes {n : Nat} {st tl wt : List Int} {P : Nat → Nat} (hg : Good n st tl wt) (hw : ∀ e, 0 ≤ at_ wt e) (hP : ∀ v, v < n → P v < n) : Takes n (rwL (rnE P) (gEdges n st tl wt tl.length) tl.length) := by
  have hl : (rwL (rnE P) (gEdges n st tl wt tl.length) tl.length).length = tl.length := by rw [rwL_length, gEdges_length]
  refine ⟨hg.n_le, by rw [hl]; exact hg.m_le, fun i hi => ?_, fun i hi => ?_, fun i hi => ?_⟩
  · rw [hl] at hi; rw [rn_at hi]; have := hP _ (src_lt hg hi); exact ⟨by simp, by simp [rF]; omega⟩
  · rw [hl] at hi; rw [rn_at hi]; have := hP _ (tov_lt' hg hi).1; exact ⟨by simp, by simp [rT]; omega⟩
  · rw [hl] at hi; rw [rn_at hi]; have := hg.vtx i hi; exact ⟨hw i, this.2.2⟩
/-- The result's box and the list of places. -/
structure MN (w x : World) (N : Int) (va vb vc : Value) (A : Nat) (l : List Int) : Prop where
  mt : MT w x N va vb vc
  a : Arr x A l
theorem MN.put {w x : World} {N : Int} {va vb vc : Value} {A : Nat} {l : List Int} (h : MN w x N va vb vc A l) (hA : w.heap.size + 1 < A) (i : Nat) (y : Int) : MN w (x.setCell ⟨A, i, none⟩ (.int .i64 y)) N va vb vc A (l.set i y) := ⟨h.mt.far hA _, h.a.put i y⟩
theorem MN.below {w x x' : World} {N : Int} {va vb vc : Value} {A : Nat} {l : List Int} (h : MN w x N va vb vc A l) (hb : Below x.heap.size x x') : MN w x' N va vb vc A l := ⟨h.mt.below hb, (hb.block _ (lt_of_heap h.a)).trans h.a⟩
theorem MN.drew {w x : World} {N : Int} {va vb vc : Value} {A : Nat} {l : List Int} (h : MN w x N va vb vc A l) : MN w x.drew N va vb vc A l := h.below (below_drew (Below.refl _ _))
theorem MN.far {w x : World} {N : Int} {va vb vc : Value} {A : Nat} {l : List Int} (h : MN w x N va vb vc A l) {g i : Nat} (hg : w.heap.size + 1 < g) (hA : A ≠ g) (v : Value) : MN w (x.setCell ⟨g, i, none⟩ v) N va vb vc A l :=
  ⟨h.mt.far hg v, (Below.heap_setCell _ _ _ _ (by show A ≠ g; exact hA)).trans h.a⟩
/-- What the document's Relabel answers of a graph. -/
def RelR (w : World) (n : Nat) (st tl wt o : List Int) (e : Ending) (w' : World) : Prop :=
  (okO n o ∧ RelW w n (plc o) st tl wt e w') ∨ (¬ okO n o ∧ NoneG w 34 e w')
set_option maxRecDepth 100000 in
set_option maxHeartbeats 8000000 in
theorem relabelR_any (n : Nat) (va vb vc ov : Value) (st tl wt o : List Int) (w : World) (hgi : GIs w n va vb vc st tl wt) (hg : Good n st tl wt) (hw : ∀ e, 0 ≤ at_ wt e) (ho : RowAt .i64 w ov o) :
    Calls Try.prog 76 #[gAgg n va vb vc, ov] w (RelR w n st tl wt o) := by
  have hml := hg.m_le
  have hnl := hg.n_le
  have hchk := good_chk' hg
  obtain ⟨⟨r1, r2⟩, hrr⟩ : ∃ r, chk n st tl wt = r := ⟨_, rfl⟩
  rw [hrr] at hchk
  simp only at hchk
  subst hchk
  have hck := (fun W h => refCheck_all n va vb vc st tl wt W h (by have := hg.s_len; have := hg.n_le; omega) (by omega) (by have := hg.w_len; omega))
  unfold ChkPost at hck
  rw [hrr] at hck
  have HCK := hide hck
  obtain ⟨oo, oc, rfl⟩ := ho.shape
  have HGI := hide hgi; have HG := hide hg; have HW := hide hw; have HO := hide ho
  have hmt := MT.start w n va vb vc
  have HMT := hide hmt
  have c0 := cell_of hmt.bg (i := 0) rfl
  have c1 := cell_of hmt.bg (i := 1) rfl
  have c2 := cell_of hmt.bg (i := 2) rfl
  have c3 := cell_of hmt.bg (i := 3) rfl
  unfold gAgg at HCK ⊢
  clear hgi hg hw hck hrr hmt ho
  go_enter Try.func76, Try.ntmps76
  go_upto_region 1 with fail
  generalize (w.alloc (.cells #[.int .i64 n, va, vb, vc] 25)).alloc (.cells #[.int .i64 0, .slice none 0 0, .slice none 0 0, .slice none 0 0] 25) = w1 at HMT c0 c1 c2 c3 ⊢
  go_wp2_with fail
  refine (HCK.out w1 (HGI.out.below HMT.out.bel)).mono ?_
  rintro e w2 ⟨rfl, hb2⟩
  have HM2 := hide (HMT.out.below hb2)
  clear hb2 HMT c0 c1 c2 c3 HCK
  have c0 := cell_of HM2.out.bg (i := 0) rfl
  by_cases hl : o.length = n
  case neg =>
    have hnn : ((o.length : Int) != (n : Int)) = true := by simp; omega
    have HNO : Hid (¬ okO n o) := fun h => hl h.1
    have q0 := cell_of HM2.out.rs (i := 0) rfl
    have z0 := free_of HM2.out.rs 0
    have q1 := cell_of HM2.out.rs (i := 1) rfl
    have z1 := free_of HM2.out.rs 1
    have q2 := cell_of HM2.out.rs (i := 2) rfl
    have z2 := free_of HM2.out.rs 2
    have q3 := cell_of HM2.out.rs (i := 3) rfl
    have z3 := free_of HM2.out.rs 3
    have HPU := hide (HM2.out.put (.int .i64 0) (.slice none 0 0) (.slice none 0 0) (.slice none 0 0))
    clear HM2 hl
    go_wp2_with fail
    exact bodyPost_ret (results_cell2 Try.results76 _ _ (w.heap.size + 1) 25 _ (0, 0) _ rfl HPU.out.1 Try.underlying25 rfl (by kernel_rfl) (.int .i64 34) rfl) rfl (.inr ⟨HNO.out, rfl, HPU.out.2.1⟩)
  have HL := hide hl
  rw [hl] at HO ⊢
  have hnn : ((n : Int) != (n : Int)) = false := by simp
  have hmi := run_makeI n (by omega)
  have HLT : Hid (w.heap.size + 1 < w2.heap.size) := lt_of_heap HM2.out.rs
  obtain ⟨V, hV⟩ : ∃ V, V = w2.alloc (.cells (madeCells #[.int .i64 0] n) 3) := ⟨_, rfl⟩
  have HMN : Hid (MN w V n va vb vc w2.heap.size (miL n 0)) := by
    refine ⟨by rw [hV]; exact HM2.out.below (below_alloc (Below.refl _ _) _), ?_⟩
    rw [miL_zero]
    refine arr_new ?_
    rw [hV]
    exact heap_new _ _
  generalize hA : w2.heap.size = A at HLT HMN
  clear hl
  go_wp2_with fail
  rw [← hV]
  clear hV hmi hnn c0 HM2 hA
  go_loopw [9] (fun t wr => ∃ i : Nat, i ≤ n ∧ t = .int .i64 i ∧ MN w wr n va vb vc A (miL n i)) (fun t _ => n - (RowKit.intOf t).toNat)
  case atStart => exact ⟨0, Nat.zero_le _, rfl, HMN.out⟩
  case round =>
    obtain ⟨i, hi, rfl, hmn⟩ := hrel
    have HMR := hide hmn
    have c0 := cell_of hmn.mt.bg (i := 0) rfl
    clear hmn HMN
    by_cases hlt : i < n
    · have yf := HMR.out.a.free i
      have yc := HMR.out.a.cell i (by unfold miL; rw [tab_length]; exact hlt)
      have hii : (i : Int) < (n : Int) := by omega
      have HS := hide (miL_set n i)
      have HPT := hide (HMR.out.put HLT.out i (-1))
      rw [HS.out] at HPT
      clear HMR
      go_wp2_with fail
      exact ⟨⟨i + 1, Nat.succ_le_of_lt hlt, by simp, HPT.out⟩, by simp [RowKit.intOf]; omega⟩
    · have hin : n = i := by omega
      have HMI : Hid (MN w wr n va vb vc A (nwL (plc o) n 0)) := by rw [← nwL_zero]; have := HMR.out; rw [← hin] at this; exact hide this
      have hd : ¬ (i : Int) < (n : Int) := by omega
      clear hin hi HMR
      go_wp2_with fail
      clear c0 hd
      go_loopw [10] (fun t wx => ∃ i : Nat, i ≤ n ∧ t = .int .i64 i ∧ MN w wx n va vb vc A (nwL (plc o) n i) ∧ ∀ j, j < i → fineO n o j) (fun t _ => n - (RowKit.intOf t).toNat)
      case atStart => exact ⟨0, Nat.zero_le _, rfl, HMI.out, fun j hj => absurd hj (Nat.not_lt_zero j)⟩
      case round =>
        obtain ⟨i, hi, rfl, hmn, hfi⟩ := hrel
        have HMR := hide hmn; have HFI := hide hfi
        have c0 := cell_of hmn.mt.bg (i := 0) rfl
        clear hmn HMI hfi
        by_cases hlt : i < n
        · obtain ⟨g, o2, c2, he, hc2, hx⟩ := (HO.out.below HMR.out.mt.bel).cellAt i (by rw [HL.out]; exact hlt)
          rw [HL.out] at he
          simp only [Value.slice.injEq, true_and] at he
          obtain ⟨rfl, rfl⟩ := he
          have hii : (i : Int) < (n : Int) := by omega
          have hioc : (i : Int) < (oc : Int) := by rw [HL.out] at hc2; omega
          obtain ⟨x, hxx⟩ : ∃ x, x = at_ o i := ⟨_, rfl⟩
          rw [← hxx] at hx
          by_cases hv : x < 0 ∨ (n : Int) ≤ x
          · have HNO : Hid (¬ okO n o) := fun h => by have := (h.2 i hlt).1; rw [← hxx] at this; omega
            have q0 := cell_of HMR.out.mt.rs (i := 0) rfl
            have z0 := free_of HMR.out.mt.rs 0
            have q1 := cell_of HMR.out.mt.rs (i := 1) rfl
            have z1 := free_of HMR.out.mt.rs 1
            have q2 := cell_of HMR.out.mt.rs (i := 2) rfl
            have z2 := free_of HMR.out.mt.rs 2
            have q3 := cell_of HMR.out.mt.rs (i := 3) rfl
            have z3 := free_of HMR.out.mt.rs 3
            clear hxx
            have HPU := hide (fun nq => (HMR.out.mt.below (below_drewN (Below.refl _ _) nq)).put (.int .i64 0) (.slice none 0 0) (.slice none 0 0) (.slice none 0 0))
            rcases hv with hv | hv
            · have hd : decide (x < 0) = true := decide_eq_true hv
              clear hv
              go_wp2_with fail
              go_quiet (fail)
              go_wp2_with fail
              exact bodyPost_ret (results_cell2 Try.results76 _ _ (w.heap.size + 1) 25 _ (0, 0) _ rfl (HPU.out nq).1 Try.underlying25 rfl (by kernel_rfl) (.int .i64 34) rfl) rfl (.inr ⟨HNO.out, rfl, (HPU.out nq).2.1⟩)
            · have hd : decide (x < 0) = false := decide_eq_false (by omega)
              have hd2 : decide ((n : Int) ≤ x) = true := decide_eq_true hv
              clear hv
              go_wp2_with fail
              go_quiet (fail)
              go_wp2_with fail
              exact bodyPost_ret (results_cell2 Try.results76 _ _ (w.heap.size + 1) 25 _ (0, 0) _ rfl (HPU.out nq).1 Try.underlying25 rfl (by kernel_rfl) (.int .i64 34) rfl) rfl (.inr ⟨HNO.out, rfl, (HPU.out nq).2.1⟩)
          obtain ⟨q, hq1, hq2⟩ : ∃ q : Nat, x = (q : Int) ∧ q < n := ⟨x.toNat, by omega, by omega⟩
          have hle : plc o q ≤ i := plc_le (by rw [HL.out]; exact hlt) (by rw [← hxx, hq1])
          have hqi : (q : Int) < (n : Int) := by omega
          have HQ1 : Hid (at_ o i = (q : Int)) := by rw [← hxx, hq1]; exact hide rfl
          clear hxx hv
          subst hq1
          have yc := HMR.out.a.cell q (by unfold nwL; rw [tab_length]; exact hq2)
          rw [nwL_at hq2] at yc
          have hd : decide ((q : Int) < 0) = false := decide_eq_false (by omega)
          have hd2 : decide ((n : Int) ≤ (q : Int)) = false := decide_eq_false (by omega)
          by_cases hq3 : plc o q < i
          · rw [if_pos hq3] at yc
            have HNO : Hid (¬ okO n o) := fun h => by
              have := (h.2 i hlt).2
              rw [HQ1.out] at this
              simp at this
              omega
            have q0 := cell_of HMR.out.mt.rs (i := 0) rfl
            have z0 := free_of HMR.out.mt.rs 0
            have q1 := cell_of HMR.out.mt.rs (i := 1) rfl
            have z1 := free_of HMR.out.mt.rs 1
            have q2 := cell_of HMR.out.mt.rs (i := 2) rfl
            have z2 := free_of HMR.out.mt.rs 2
            have q3 := cell_of HMR.out.mt.rs (i := 3) rfl
            have z3 := free_of HMR.out.mt.rs 3
            have HPU := hide (fun nq => (HMR.out.mt.below (below_drewN (Below.refl _ _) nq)).put (.int .i64 0) (.slice none 0 0) (.slice none 0 0) (.slice none 0 0))
            obtain ⟨p, hp⟩ : ∃ p, p = plc o q := ⟨_, rfl⟩
            rw [← hp] at yc
            have hd3 : decide ((0 : Int) ≤ (p : Int)) = true := decide_eq_true (by omega)
            clear hp hq3 hle
            go_wp2_with fail
            go_quiet (fail)
            go_wp2_with fail
            exact bodyPost_ret (results_cell2 Try.results76 _ _ (w.heap.size + 1) 25 _ (0, 0) _ rfl (HPU.out nq).1 Try.underlying25 rfl (by kernel_rfl) (.int .i64 34) rfl) rfl (.inr ⟨HNO.out, rfl, (HPU.out nq).2.1⟩)
          rw [if_neg hq3] at yc
          have hq4 : plc o q = i := by omega
          have HFN : Hid (∀ j, j < i + 1 → fineO n o j) := fun j hj => by
            by_cases h : j < i
            · exact HFI.out j h
            · obtain rfl : j = i := by omega
              refine ⟨⟨by rw [HQ1.out]; omega, by rw [HQ1.out]; omega⟩, ?_⟩
              rw [HQ1.out]; simpa using hq4
          have hu : ∀ v, v < n → plc o v = i → v = q := fun v' hv' he => by
            have h1 := plc_at (o := o) (v := v') (by rw [he, HL.out]; exact hlt)
            rw [he, HQ1.out] at h1
            omega
          have HS := hide (nwL_set hq4 hu)
          have HPT := hide (fun nq => (HMR.out.below (below_drewN (Below.refl _ _) nq)).put HLT.out q (i : Int))
          rw [HS.out] at HPT
          have yf := HMR.out.a.free q
          have hd3 : decide ((0 : Int) ≤ (-1 : Int)) = false := rfl
          clear hq4 hu hq3 hle HS HMR
          go_wp2_with fail
          go_quiet (fail)
          go_wp2_with fail
          exact ⟨⟨i + 1, Nat.succ_le_of_lt hlt, by simp, HPT.out nq, HFN.out⟩, by simp [RowKit.intOf]; omega⟩
        · have hin : n = i := by omega
          have HOK : Hid (okO n o) := ⟨HL.out, fun j hj => HFI.out j (by omega)⟩
          obtain ⟨P, hP⟩ : ∃ P, P = plc o := ⟨_, rfl⟩
          have HPR : Hid (Prm n o P) := by rw [hP]; exact hide HOK.out.prm
          have HMR2 : Hid (MN w wr n va vb vc A (tab n (fun v => (P v : Int)))) := by
            refine ⟨HMR.out.mt, ?_⟩
            have := HMR.out.a
            rw [← hin, ← hP] at this
            have e : nwL P n n = tab n (fun v => (P v : Int)) := tab_congr fun v hv => if_pos (HPR.out.pos v hv).1
            rw [e] at this
            exact this
          have HPP := hide hP
          have HTK := hide (rn_takes (P := P) HG.out HW.out (fun v hv => (HPR.out.pos v hv).1))
          have c1 := cell_of HMR2.out.mt.bg (i := 1) rfl
          have c2 := cell_of HMR2.out.mt.bg (i := 2) rfl
          have c3 := cell_of HMR2.out.mt.bg (i := 3) rfl
          have hd : ¬ (i : Int) < (n : Int) := by omega
          have HED := hide (edges_any n va vb vc st tl wt wr (HGI.out.below HMR2.out.mt.bel) HG.out)
          unfold gAgg at HED
          clear hin hi HMR hP HFI hlt
          go_wp2_with fail
          refine HED.out.mono ?_
          rintro e w3 ⟨cv, rfl, hown, hb3⟩
          have HM3 := hide (HMR2.out.below hb3)
          have HOW := hide hown
          have HLA : Hid (A < wr.heap.size) := lt_of_heap HMR2.out.a
          obtain ⟨m, hm⟩ : ∃ m, m = tl.length := ⟨_, rfl⟩
          have HM := hide hm
          rw [← hm] at hml HOW HTK
          clear hown hb3 HMR2 HED c0 c1 c2 c3 hm hd
          obtain ⟨L, hL⟩ : ∃ L, L = gEdges n st tl wt m := ⟨_, rfl⟩
          have hLl : L.length = m := by rw [hL, gEdges_length]
          have HLI : Hid (∀ i, i < m → ∃ a b : Nat, (eAt L i).1 = (a : Int) ∧ a < n ∧ (eAt L i).2.1 = (b : Int) ∧ b < n) := fun i hi => by
            rw [hL, HM.out, gEdges_at (by rw [← HM.out]; exact hi)]
            obtain ⟨h1, h2⟩ := tov_lt' HG.out (by rw [← HM.out]; exact hi)
            exact ⟨src st n i, tov tl i, rfl, src_lt HG.out (by rw [← HM.out]; exact hi), h2, h1⟩
          have HLE := hide hL; have HLL := hide hLl
          rw [← hL] at HOW HTK
          rw [show m = L.length from hLl.symm] at HOW
          have HER : Hid (ER w3 cv (rwL (rnE P) L 0) (wr.heap.size + 1)) := by rw [rwL_zero]; exact hide (ER.of_owns HOW.out)
          obtain ⟨ao, c, rfl⟩ : ∃ ao c, cv = .slice ao m c := by
            rcases HER.out with ⟨rfl, h⟩ | ⟨g, c, rfl, _⟩
            · have : (rwL (rnE P) L 0).length = 0 := by rw [h]; rfl
              rw [rwL_length, hLl] at this
              rw [this]; exact ⟨_, _, rfl⟩
            · rw [rwL_length, hLl]; exact ⟨_, _, rfl⟩
          generalize wr.heap.size = B at HLA HER
          clear HOW hL hLl
          go_wp2_with fail
          go_loopw [12] (fun t wr => ∃ i : Nat, i ≤ m ∧ t = .int .i64 i ∧ MN w wr n va vb vc A (tab n (fun v => (P v : Int))) ∧ ER wr (.slice ao m c) (rwL (rnE P) L i) (B + 1)) (fun t _ => m - (RowKit.intOf t).toNat)
          case atStart => exact ⟨0, Nat.zero_le _, rfl, HM3.out, HER.out⟩
          case round =>
            obtain ⟨i, hi, rfl, hmt, her⟩ := hrel
            have HMR := hide hmt; have HERR := hide her
            clear hmt her HER HM3
            by_cases him : i < m
            · obtain ⟨g, rfl, hmc, hBg, hew⟩ : ∃ g, ao = some ⟨g, 0, none⟩ ∧ m ≤ c ∧ B + 1 ≤ g ∧ EW wr g (rwL (rnE P) L i) := by
                rcases HERR.out with ⟨h1, h2⟩ | ⟨g, c', h1, h2, _, h3, h4⟩
                · have : (rwL (rnE P) L i).length = 0 := by rw [h2]; rfl
                  rw [rwL_length, HLL.out] at this; omega
                · simp only [Value.slice.injEq] at h1
                  obtain ⟨rfl, _, rfl⟩ := h1
                  rw [rwL_length, HLL.out] at h2
                  exact ⟨g, rfl, h2, h3, h4⟩
              have hil : i < (rwL (rnE P) L i).length := by rw [rwL_length, HLL.out]; exact him
              have hea : eAt (rwL (rnE P) L i) i = eAt L i := by rw [rwL_at (by rw [HLL.out]; exact him), if_neg (by omega)]
              obtain ⟨d0, d1, d2⟩ := hew.cells hil
              rw [hea] at d0 d1 d2
              have f0 := hew.free (i * 3)
              have f1 := hew.free (i * 3 + 1)
              obtain ⟨a, b, hea1, han, heb1, hbn⟩ := HLI.out i him
              have HEW : Hid (EW ((wr.setCell ⟨g, i * 3, none⟩ (.int .i64 (P a))).setCell ⟨g, i * 3 + 1, none⟩ (.int .i64 (P b))) g (rwL (rnE P) L (i + 1))) := by
                have := hew.put hil (P a) (P b)
                rw [hea, show (((P a : Int), (P b : Int), (eAt L i).2.2) : Ed3) = rnE P (eAt L i) by unfold rnE; rw [hea1, heb1]; simp, rwL_next (by rw [HLL.out]; exact him)] at this
                exact this
              have hgA : ¬ A = g := by have := HLA.out; omega
              have hgA' : ¬ g = A := by omega
              have HMW : Hid (MN w ((wr.setCell ⟨g, i * 3, none⟩ (.int .i64 (P a))).setCell ⟨g, i * 3 + 1, none⟩ (.int .i64 (P b))) n va vb vc A (tab n (fun v => (P v : Int)))) := (HMR.out.far (by have := HLT.out; have := HLA.out; omega) hgA _).far (by have := HLT.out; have := HLA.out; omega) hgA _
              have pa := HMR.out.a.cell a (by rw [tab_length]; exact han)
              have pb := HMR.out.a.cell b (by rw [tab_length]; exact hbn)
              rw [tab_at _ _ _ han] at pa
              rw [tab_at _ _ _ hbn] at pb
              rw [hea1] at d0
              rw [heb1] at d1
              obtain ⟨xa, hxa⟩ : ∃ xa, xa = P a := ⟨_, rfl⟩
              obtain ⟨xb, hxb⟩ : ∃ xb, xb = P b := ⟨_, rfl⟩
              rw [← hxa] at pa HEW HMW
              rw [← hxb] at pb HEW HMW
              have hic : (i : Int) < c := by omega
              have hai : (a : Int) < (n : Int) := by omega
              have hbi : (b : Int) < (n : Int) := by omega
              have him2 : (i : Int) + 1 ≤ 9223372036854775807 := by omega
              have HBG := hide hBg; have HMC := hide hmc
              have HCM : Hid (c ≤ 9223372036854775807) := by
                rcases HERR.out with ⟨h1, h2⟩ | ⟨g, c', h1, h2, h5, h3, h4⟩
                · simp at h1
                · simp only [Value.slice.injEq] at h1
                  obtain ⟨_, _, rfl⟩ := h1
                  exact h5
              clear hew hea hil hea1 heb1 hxa hxb d2 HERR HMR hBg hmc hml hi
              go_wp2_with fail
              refine ⟨⟨i + 1, Nat.succ_le_of_lt him, by simp, HMW.out, .inr ⟨g, c, by rw [rwL_length, HLL.out], by rw [rwL_length, HLL.out]; exact HMC.out, HCM.out, HBG.out, HEW.out⟩⟩, by simp [RowKit.intOf]; omega⟩
            · have hie : i = m := by omega
              have HER2 : Hid (ER wr (.slice ao m c) (rwL (rnE P) L m) (B + 1)) := by have := HERR.out; rw [hie] at this; exact this
              have heat := HER2.out.eat
              have hlc : (rwL (rnE P) L m).length ≤ c := by
                obtain ⟨_, _, he, h1, _⟩ := heat
                simp only [Value.slice.injEq] at he
                obtain ⟨_, _, rfl⟩ := he
                exact h1
              have hsl : (rwL (rnE P) L m).length = m := by rw [rwL_length, HLL.out]
              rw [show (Value.slice ao m c) = Value.slice ao (rwL (rnE P) L m).length c by rw [hsl]] at heat
              have HLD := hide (laidO_any n ao c (rwL (rnE P) L m) wr hlc heat HTK.out)
              rw [hsl] at HLD
              unfold LaidPost at HLD
              rw [hsl] at HLD
              have c0 := cell_of HMR.out.mt.bg (i := 0) rfl
              have HMQ := hide HMR.out.mt
              clear heat hlc hsl hie hi hml HERR HER2 HMR
              go_wp2_with fail
              refine HLD.out.mono ?_
              rintro e w5 ⟨va', vb', vc', st', tl', wt', nx, rfl, hgi', hs, hly, hb5, ⟨g1, n1, k1, rfl, hn1⟩, ⟨g2, n2, k2, rfl, hn2⟩, ⟨g3, n3, k3, rfl, hn3⟩⟩
              unfold gAgg
              have HM5 := hide (HMQ.out.below hb5)
              have hlt5 : w.heap.size + 1 < wr.heap.size := lt_of_heap HMQ.out.rs
              have HPU := hide (HM5.out.put (.int .i64 n) (.slice (some ⟨g1, 0, none⟩) n1 k1) (.slice (some ⟨g2, 0, none⟩) n2 k2) (.slice (some ⟨g3, 0, none⟩) n3 k3))
              have HGI5 : Hid (GIs ((((w5.setCell ⟨w.heap.size + 1, 0, none⟩ (.int .i64 n)).setCell ⟨w.heap.size + 1, 1, none⟩ (.slice (some ⟨g1, 0, none⟩) n1 k1)).setCell ⟨w.heap.size + 1, 2, none⟩ (.slice (some ⟨g2, 0, none⟩) n2 k2)).setCell ⟨w.heap.size + 1, 3, none⟩ (.slice (some ⟨g3, 0, none⟩) n3 k3)) n (.slice (some ⟨g1, 0, none⟩) n1 k1) (.slice (some ⟨g2, 0, none⟩) n2 k2) (.slice (some ⟨g3, 0, none⟩) n3 k3) st' tl' wt') := gis_put (by omega) (by omega) (by omega) hgi' _ _ _ _
              have q0 := cell_of HM5.out.rs (i := 0) rfl
              have q1 := cell_of HM5.out.rs (i := 1) rfl
              have q2 := cell_of HM5.out.rs (i := 2) rfl
              have q3 := cell_of HM5.out.rs (i := 3) rfl
              have z0 := free_of HM5.out.rs 0
              have z1 := free_of HM5.out.rs 1
              have z2 := free_of HM5.out.rs 2
              have z3 := free_of HM5.out.rs 3
              have HSM : Hid (Summed n tl.length (rF P n st) n st') := by
                rw [HLE.out, HM.out] at hs
                exact hs.congr (fun i hi => by unfold eFrom; rw [rn_at hi]; simp)
              have HLY : Hid (Laying n tl.length (rF P n st) (rT P tl) (fun e => at_ wt e) tl.length nx tl' wt') := by
                rw [HLE.out, HM.out] at hly
                exact hly.congr (fun i hi => by unfold eFrom; rw [rn_at hi]; simp) (fun i hi => by unfold eTo; rw [rn_at hi]; simp) (fun i hi => by unfold eWt; rw [rn_at hi])
              rw [HPP.out] at HSM HLY
              clear hgi' hs hly hb5 hn1 hn2 hn3 HM5 c0 hlt5
              go_wp2_with fail
              exact bodyPost_ret (results_cell2 Try.results76 _ _ (w.heap.size + 1) 25 _ (0, 0) _ rfl HPU.out.1 Try.underlying25 rfl (by kernel_rfl) (.int .i64 0) rfl) rfl (.inl ⟨HOK.out, _, _, _, _, _, _, _, rfl, HGI5.out, HSM.out, HLY.out, HPU.out.2.1⟩)
end Go.Proofs.Ytmagigmcbegmiaa
