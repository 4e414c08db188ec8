/- graph.sorted, graph.Sort, graph.Merge. -/
import Derived.Test.YtmagigmcbegmiaaTw
import Derived.Test.YtmagigmcbegmiaaTc
namespace Go.Proofs.Ytmagigmcbegmiaa
open Go.RowKit Go.Lib Go.Shelf
set_option linter.unusedVariables false
set_option linter.unusedSimpArgs false
/-- sorted under way: the box, the list with its first v rows sorted. -/
structure SM (w wr : World) (R : Nat) (gb : Array Value) (l : List Ed3) : Prop where
  box : wr.heap[w.heap.size]? = some (.cells gb 25 (0, 0))
  arr : EArr wr R l
  bel : Below w.heap.size w wr
  lt : w.heap.size < R
theorem SM.turn {w wr wx : World} {R : Nat} {gb : Array Value} {l l' : List Ed3} (h : SM w wr R gb l) (hl : EArr wx R l') (hc : Chg (fun k => k = R) wr wx) : SM w wx R gb l' := by
  have := h.lt
  exact ⟨hc.heap h.box (by omega), hl, Chg.below h.bel hc (fun k hk => by omega) h.bel.size, h.lt⟩
set_option maxRecDepth 100000 in
set_option maxHeartbeats 4000000 in
theorem sorted_any (n : Nat) (va vb vc : Value) (st tl wt : List Int) (w : World) (hg : GIs w n va vb vc st tl wt) (hgd : Good n st tl wt) :
    Calls Try.prog 72 #[gAgg n va vb vc] w fun e w' => ∃ R, e = .returned (.slice (some ⟨R, 0, none⟩) tl.length tl.length) ∧ EArr w' R (sortE n st tl wt) ∧ Below w.heap.size w w' ∧ w.heap.size ≤ R := by
  obtain ⟨ao, ca, rfl⟩ := hg.s.shape
  obtain ⟨bo, cb, rfl⟩ := hg.t.shape
  obtain ⟨co, cc, rfl⟩ := hg.u.shape
  have hml := hgd.m_le
  have hn := hgd.n_le
  have HLI := hide (fun W h => listed_own n (.slice ao st.length ca) (.slice bo tl.length cb) (.slice co wt.length cc) st tl wt W h hgd)
  obtain ⟨W, hW⟩ : ∃ W, W = w.alloc (.cells #[.int .i64 n, .slice ao st.length ca, .slice bo tl.length cb, .slice co wt.length cc] 25) := ⟨_, rfl⟩
  have hbW : Below w.heap.size w W := by rw [hW]; exact below_alloc (Below.refl _ _) _
  have hA : W.heap[w.heap.size]? = some (.cells #[.int .i64 n, .slice ao st.length ca, .slice bo tl.length cb, .slice co wt.length cc] 25 (0, 0)) := by rw [hW]; exact heap_new _ _
  have hWs : W.heap.size = w.heap.size + 1 := by rw [hW]; simp
  have HG := hide hg
  have HGD := hide hgd
  have HBW := hide hbW
  have HA := hide hA
  have HWS := hide hWs
  have c0 := cell_of hA (i := 0) rfl
  have c1 := cell_of hA (i := 1) rfl
  have c2 := cell_of hA (i := 2) rfl
  have c3 := cell_of hA (i := 3) rfl
  unfold gAgg at HLI ⊢
  clear hg hgd hbW hA hWs
  go_enter Try.func72, Try.ntmps72
  go_upto_region 1 with fail
  rw [← hW]
  clear hW
  go_wp2_with fail
  refine (HLI.out W (HG.out.below HBW.out)).mono ?_
  rintro e w2 ⟨R, rfl, hE, hb2, hR⟩
  have HSM : Hid (SM w w2 R #[.int .i64 n, .slice ao st.length ca, .slice bo tl.length cb, .slice co wt.length cc] (sL n st tl wt 0)) := by
    refine ⟨(hb2.block _ (lt_of_heap HA.out)).trans HA.out, ?_, below_on HBW.out hb2, by have := HWS.out; omega⟩
    rw [sL_zero HGD.out]; exact hE
  have d0 : w2.cell? ⟨w.heap.size, 0, none⟩ = some (.int .i64 n) := cell_of HSM.out.box (i := 0) rfl
  obtain ⟨M, hM⟩ : ∃ M, M = tl.length := ⟨_, rfl⟩
  rw [← hM] at hml ⊢
  have HM := hide hM
  clear c0 c1 c2 c3 hE hb2 hR HLI HA HBW HWS hM
  go_wp2_with fail
  clear d0
  go_loopw [9, 4] (fun t _ wr => ∃ v : Nat, t = .int .i64 (v : Int) ∧ v ≤ n ∧ SM w wr R #[.int .i64 n, .slice ao st.length ca, .slice bo M cb, .slice co wt.length cc] (sL n st tl wt v)) (fun t _ _ => n - (RowKit.intOf t).toNat)
  case atStart => exact ⟨0, rfl, Nat.zero_le _, by rw [HM.out]; exact HSM.out⟩
  case round =>
    obtain ⟨v, rfl, hv, hsm⟩ := hrel
    have HN := hide hsm
    clear hsm HSM
    by_cases hlt : v < n
    · obtain ⟨A, C, e1, e2, e3⟩ := sL_split HGD.out v hlt
      obtain ⟨p, hp⟩ : ∃ p : Nat, at_ st v = (p : Int) := ⟨A.length, e3.symm⟩
      have hmo := HGD.out.mono v (v + 1) (by omega) (by omega)
      have hrg := HGD.out.range (v + 1) (by omega)
      obtain ⟨d, hd⟩ : ∃ d : Nat, at_ st (v + 1) = (p : Int) + (d : Int) := ⟨(at_ st (v + 1) - at_ st v).toNat, by omega⟩
      have hAl : A.length = p := by omega
      have hpd : p + d ≤ M := by have := HM.out; omega
      have hdl : (rowP st tl wt v).length = d := by rw [rowP_len]; omega
      obtain ⟨so, hso⟩ : ∃ so : Option Addr, so = (if M = p then some ⟨R, 0, none⟩ else (some (⟨R, 0, none⟩ : Addr)).map (·.add (p * 3))) := ⟨_, rfl⟩
      have hsl := part_runK 45 3 Try.underlying45 (fun w => Try.sizeOf50 w) (some ⟨R, 0, none⟩) M M p d hpd
      rw [← hso] at hsl
      have hsp : ∀ W, EArr W R (sL n st tl wt v) → Calls Try.prog 93 #[.slice so d (M - p), .func (.func 94) #[] #[]] W fun e w' => e = .returned (.tuple #[]) ∧ EArr w' R (sL n st tl wt (v + 1)) ∧ Chg (fun k => k = R) W w' := fun W hW => by
        rw [e1] at hW
        have := sortPart_any v A C (rowP st tl wt v) R (M - p) so W hW (by omega) (fun h0 => by rw [hso, if_neg (by omega), hAl, Option.map_some, Addr.add_lit, Nat.zero_add])
        rw [hdl] at this
        rw [e2]; exact this
      obtain ⟨v1, hv1⟩ : ∃ v1, v1 = v + 1 := ⟨_, rfl⟩
      obtain ⟨gs, os, cs, he, hgs, sx0⟩ := HG.out.s.cellAt v (by have := HGD.out.s_len; omega)
      simp only [Value.slice.injEq, true_and] at he
      obtain ⟨rfl, rfl⟩ := he
      have sy0 : w.cell? ⟨gs, os + v1, none⟩ = some (.int .i64 ((p : Int) + (d : Int))) := by
        obtain ⟨gs2, os2, cs2, he2, _, sy⟩ := HG.out.s.cellAt (v + 1) (by have := HGD.out.s_len; omega)
        simp only [Value.slice.injEq, Option.some.injEq, Addr.mk.injEq, true_and, and_true] at he2
        obtain ⟨⟨rfl, rfl⟩, _⟩ := he2
        rw [hd, ← hv1] at sy; exact sy
      rw [hp] at sx0
      have HSX : Hid (∀ X : World, SM w X R #[.int .i64 n, .slice (some ⟨gs, os, none⟩) st.length ca, .slice bo M cb, .slice co wt.length cc] (sL n st tl wt v) ∨ SM w X R #[.int .i64 n, .slice (some ⟨gs, os, none⟩) st.length ca, .slice bo M cb, .slice co wt.length cc] (sL n st tl wt v1) → X.cell? ⟨w.heap.size, 1, none⟩ = some (.slice (some ⟨gs, os, none⟩) st.length ca) ∧ X.cell? ⟨gs, os + v, none⟩ = some (.int .i64 (p : Int)) ∧ X.cell? ⟨gs, os + v1, none⟩ = some (.int .i64 ((p : Int) + (d : Int)))) := by
        intro X hX
        have hb : Below w.heap.size w X := hX.elim (·.bel) (·.bel)
        have hbx : X.heap[w.heap.size]? = some (.cells #[.int .i64 n, .slice (some ⟨gs, os, none⟩) st.length ca, .slice bo M cb, .slice co wt.length cc] 25 (0, 0)) := hX.elim (·.box) (·.box)
        exact ⟨cell_of hbx (i := 1) rfl, (below_cell hb (block_of_cell sx0)).trans sx0, (below_cell hb (block_of_cell sy0)).trans sy0⟩
      obtain ⟨b1, sx, sy⟩ := HSX.out wr (.inl HN.out)
      rw [← hv1] at hsp
      have HSP := hide hsp
      have hvl : (v : Int) < (st.length : Int) := by have := HGD.out.s_len; omega
      have hvl2 : (v1 : Int) < (st.length : Int) := by have := HGD.out.s_len; omega
      have hvi : (v : Int) < (n : Int) := by omega
      have hwv : IntKind.i64.wrap ((v : Int) + 1) = (v1 : Int) := by rw [hv1]; exact (IntWalk.i64_in _ (by omega)).trans (by omega)
      clear e1 e2 e3 hp hd hAl hpd hdl hso hmo hrg hsp sx0 sy0
      have HV1 := hide hv1
      clear hv1
      go_wp2_with fail
      refine wp_region_noPanic ?_
      go_region_held3 (fun z => z.cell? ⟨w.heap.size, 1, none⟩ = some (.slice (some ⟨gs, os, none⟩) st.length ca) ∧ z.cell? ⟨gs, os + v, none⟩ = some (.int .i64 (p : Int)) ∧ z.cell? ⟨gs, os + v1, none⟩ = some (.int .i64 ((p : Int) + (d : Int)))) (first | exact ⟨b1, sx, sy⟩ | exact HSX.out _ (.inr HN3.out))
        ((go_at_call 93; refine (HSP.out wr.drew HN.out.arr).mono ?_; rintro e w3 ⟨rfl, hE3, hC3⟩; have HN3 := hide (HN.out.turn hE3 (show Chg (fun k => k = R) wr w3 from ⟨hC3.os, hC3.tape, hC3.output, hC3.size, hC3.block⟩)); clear hE3 hC3))
      refine NoPanic.normal ?_
      go_wp2_with fail
      have hfin := HN3.out
      have hv1 := HV1.out
      exact ⟨⟨v1, by rw [hv1], by omega, hfin⟩, by simp [RowKit.intOf]; omega⟩
    · obtain rfl : n = v := by omega
      go_wp2_with fail
      go_ret
      have ha := HN.out.arr
      rw [sL_all] at ha
      have hlt := HN.out.lt
      rw [HM.out]
      exact ⟨R, rfl, ha, HN.out.bel, by omega⟩
theorem MT.turn {w x x' : World} {N : Int} {va vb vc : Value} {R : Nat} (h : MT w x N va vb vc) (hR : w.heap.size + 1 < R) (hc : Chg (fun k => k = R) x x') : MT w x' N va vb vc :=
  ⟨hc.heap h.bg (by omega), hc.heap h.rs (by omega), Chg.below h.bel hc (fun k hk => by omega) h.bel.size⟩
theorem Try.results35 : Try.f35.results = #[.cell 2 25, .tmp 3] := by kernel_rfl
theorem Try.results36 : Try.f36.results = #[.cell 2 25, .tmp 3] := by kernel_rfl
/-- A graph laid of a list of edges. -/
def LaidW (w : World) (n : Nat) (L : List Ed3) (e : Ending) (w' : World) : Prop :=
  ∃ va vb vc st tl wt nx, e = .returned (.tuple #[gAgg n va vb vc, .int .i64 0]) ∧ GIs w' n va vb vc st tl wt ∧ Summed n L.length (eFrom L) n st ∧ Laying n L.length (eFrom L) (eTo L) (eWt L) L.length nx tl wt ∧ Below w.heap.size w w'
theorem arr_call (n : Nat) (L : List Ed3) (ht : Takes n L) (x : World) (lb : Array Value) (hs : ∀ Tt : Nat → Prop, (∀ k, Tt k → x.heap.size ≤ k) → Gw Tt Try.prog 88 lb encE (upto (fEd (eFrom L) (eTo L) (eWt L)) L.length) x) :
    Calls Try.prog 61 #[.int .i64 n, .func (.func 88) #[] lb] x (ArrW x n L.length (eFrom L) (eTo L) (eWt L)) :=
  callsIn_wide.1 (arrange_any 0 n L.length 88 (enters_of Try.func88 (by kernel_rfl) rfl) lb (eFrom L) (eTo L) (eWt L) x ht.n_le ht.m_le (fun i hi => by have := ht.efr i hi; unfold eFrom; omega) (fun i hi => by have := ht.eto i hi; unfold eTo; omega) (fun i hi => ht.ewt i hi) hs)
set_option maxRecDepth 100000 in
set_option maxHeartbeats 4000000 in
theorem sort_good (n : Nat) (va vb vc : Value) (st tl wt : List Int) (w : World) (hg : GIs w n va vb vc st tl wt) (hgd : Good n st tl wt) (hwn : ∀ e, e < tl.length → 0 ≤ at_ wt e) :
    Calls Try.prog 35 #[gAgg n va vb vc] w (LaidW w n (sortE n st tl wt)) := by
  obtain ⟨ao, ca, rfl⟩ := hg.s.shape
  obtain ⟨bo, cb, rfl⟩ := hg.t.shape
  obtain ⟨co, cc, rfl⟩ := hg.u.shape
  have hml := hgd.m_le
  have hn := hgd.n_le
  have hchk := good_chk' hgd
  obtain ⟨⟨r1, r2⟩, hrr⟩ : ∃ r, chk n st tl wt = r := ⟨_, rfl⟩
  rw [hrr] at hchk
  simp only at hchk
  subst hchk
  have hck := (fun W h => check_all n (.slice ao st.length ca) (.slice bo tl.length cb) (.slice co wt.length cc) st tl wt W h (by have := hgd.s_len; omega) (by omega) (by have := hgd.w_len; omega))
  rw [hrr] at hck
  have HCK := hide hck
  have HTK := hide (sortE_takes hgd hwn)
  have HSL := hide (sortE_len hgd)
  have HSO := hide (fun W h => sorted_any n (.slice ao st.length ca) (.slice bo tl.length cb) (.slice co wt.length cc) st tl wt W h hgd)
  have HK1 := hide (MT.start w n (.slice ao st.length ca) (.slice bo tl.length cb) (.slice co wt.length cc))
  have HG := hide hg
  have c0 := cell_of HK1.out.bg (i := 0) rfl
  have c1 := cell_of HK1.out.bg (i := 1) rfl
  have c2 := cell_of HK1.out.bg (i := 2) rfl
  have c3 := cell_of HK1.out.bg (i := 3) rfl
  obtain ⟨L, hL⟩ : ∃ L, L = sortE n st tl wt := ⟨_, rfl⟩
  rw [← hL] at HTK HSL HSO ⊢
  clear hL
  have HAR := hide (fun x lb hs => arr_call n L HTK.out x lb hs)
  have HSQ := hide (fun ao c w0 x x' he hb hx => values_seq n ao c L w0 x x' HTK.out he hb hx)
  obtain ⟨M, hM⟩ : ∃ M, M = tl.length := ⟨_, rfl⟩
  rw [← hM] at HSL HSO hml
  unfold gAgg at HCK HSO ⊢
  rw [← hM] at HCK HG HK1 c2 ⊢
  clear hg hck hrr hgd hM hwn
  go_enter Try.func35, Try.ntmps35
  go_wp2_with fail
  generalize ((w.alloc (.cells #[.int .i64 n, .slice ao st.length ca, .slice bo M cb, .slice co wt.length cc] 25)).alloc (.cells #[.int .i64 0, .slice none 0 0, .slice none 0 0, .slice none 0 0] 25)) = w1 at c0 c1 c2 c3 HK1 ⊢
  refine (HCK.out w1 (HG.out.below HK1.out.bel)).mono ?_
  rintro e w2 ⟨rfl, hb2⟩
  have HK2 := hide (HK1.out.below hb2)
  have HS2 := hide (HSO.out w2.drew (HG.out.below HK2.out.drew.bel))
  have d0 := cell_of HK2.out.bg (i := 0) rfl
  have d1 := cell_of HK2.out.bg (i := 1) rfl
  have d2 := cell_of HK2.out.bg (i := 2) rfl
  have d3 := cell_of HK2.out.bg (i := 3) rfl
  clear c0 c1 c2 c3 HK1 hb2 HCK HG HSO
  go_wp2_with fail
  go_region_with (first
    | (go_at_call 72; refine HS2.out.mono ?_; rintro e7 w7 ⟨R, rfl, hE7, hb7, hR7⟩; have HK7 := hide (HK2.out.drew.below hb7); have HE7 := hide (hE7.whole HSL.out (by omega)); have f0 := cell_of HK7.out.bg (i := 0) rfl; clear hE7 hb7 hR7)
    | (go_at_call 62; refine (callsIn_wide.1 (values_any 0 (some ⟨R, 0, none⟩) M M _)).mono ?_; rintro e9 w9 ⟨rfl, hw9⟩; have HS9 := hide (HSQ.out (some ⟨R, 0, none⟩) M w7 w7 w9 (by rw [HSL.out]; exact HE7.out) (Below.refl _ _) (by rw [HSL.out]; exact hw9)); have HK9 := hide (show MT w w9 n (.slice ao st.length ca) (.slice bo M cb) (.slice co wt.length cc) from HK7.out.below (by rw [hw9]; exact below_alloc (Below.refl _ _) _)); have g0 := cell_of HK9.out.bg (i := 0) rfl; clear hw9)
    | (go_at_call 61; refine (HAR.out _ _ HS9.out).mono ?_; rintro e8 w8 ⟨va8, vb8, vc8, st8, tl8, wt8, nx8, rfl, hGI, hSm, hLy, hb8⟩; obtain ⟨ao8, ca8, rfl⟩ := (hGI w8 (fun _ _ => rfl)).s.shape; obtain ⟨bo8, cb8, rfl⟩ := (hGI w8 (fun _ _ => rfl)).t.shape; obtain ⟨co8, cc8, rfl⟩ := (hGI w8 (fun _ _ => rfl)).u.shape; have HK8 := hide (HK9.out.below hb8); have HGI := hide hGI; have HSM := hide hSm; have HLY := hide hLy; have b0 := cell_of HK8.out.bg (i := 0) rfl; have r0 := cell_of HK8.out.rs (i := 0) rfl; have r1 := cell_of HK8.out.rs (i := 1) rfl; have r2 := cell_of HK8.out.rs (i := 2) rfl; have r3 := cell_of HK8.out.rs (i := 3) rfl; have q0 := free_of HK8.out.rs 0; have q1 := free_of HK8.out.rs 1; have q2 := free_of HK8.out.rs 2; have q3 := free_of HK8.out.rs 3; clear hGI hSm hLy hb8; unfold gAgg))
  all_goals
    go_wp2
    have hlt : w.heap.size + 1 < w9.heap.size := lt_of_heap HK9.out.rs
    have HPU := HK8.out.put (.int .i64 n) (.slice ao8 st8.length ca8) (.slice bo8 tl8.length cb8) (.slice co8 wt8.length cc8)
    exact bodyPost_ret (results_cell2 Try.results35 _ _ (w.heap.size + 1) 25 _ (0, 0) _ rfl HPU.1 Try.underlying25 rfl (by kernel_rfl) (.int .i64 0) rfl) rfl ⟨_, _, _, _, _, _, _, rfl, HGI.out _ (fun k hk => HPU.2.2 k (by omega)), HSM.out, HLY.out, HPU.2.1⟩
end Go.Proofs.Ytmagigmcbegmiaa
