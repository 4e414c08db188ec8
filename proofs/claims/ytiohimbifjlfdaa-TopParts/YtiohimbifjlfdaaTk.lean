/- TopParts: the law. -/
import Derived.Test.YtiohimbifjlfdaaTq
import Derived.Test.YtiohimbifjlfdaaCp
import Derived.Test.YtiohimbifjlfdaaBl
import Derived.Deep.Cut
import Derived.Deep.CutRange
import Derived.BigRegion
import Derived.BigQuiet
namespace Go.Proofs.Ytiohimbifjlfdaa
open Go.RowKit Go.Lib
set_option linter.unusedVariables false
set_option linter.unusedSimpArgs false
theorem gbox_keep {W x : World} {A : Nat} {t : TypeId} {p : Array Value} (hA : W.heap[A]? = some (.cells p t (0, 0))) (h : Below W.heap.size W x) {j : Nat} {u : Value} (hu : p[j]? = some u) : x.cell? ⟨A, j, none⟩ = some u := cell_of ((h.block A (lt_of_heap hA)).trans hA) hu
/-- The places in memory, behind Z. -/
structure PM (Z wr : World) (L : List Int) : Prop where
  bel : Below Z.heap.size Z wr
  arr : Arr wr Z.heap.size L
theorem PM.on {Z wr X : World} {L : List Int} (h : PM Z wr L) (hb : Below wr.heap.size wr X) : PM Z X L := ⟨below_on h.bel hb, (hb.block _ (lt_of_heap h.arr)).trans h.arr⟩
theorem PM.put {Z wr : World} {L : List Int} (h : PM Z wr L) (i : Nat) (x : Int) : PM Z (wr.setCell ⟨Z.heap.size, i, none⟩ (.int .i64 x)) (L.set i x) := by
  have hc : Chg (fun k => k = Z.heap.size) wr (wr.setCell ⟨Z.heap.size, i, none⟩ (.int .i64 x)) := (Chg.refl (fun k => k = Z.heap.size) wr).setCell (p := ⟨Z.heap.size, i, none⟩) rfl _
  exact ⟨Chg.below h.bel hc (fun k hk => by omega) h.bel.size, h.arr.put i x⟩
set_option maxRecDepth 100000 in
set_option maxHeartbeats 64000000 in
theorem parts_top (N : Int) (ev : Value) (l : List Ed3) (a b : Int) (wv : Value) (ws : List Int) (w : World) (hr : EAt w ev l) (hlu : ∀ i, i < l.length → 0 ≤ (eAt l i).2.2) (hwv : RowAt .i64 w wv ws) :
    Calls Try.prog 3 #[.agg #[.int .i64 N, ev], .int .i64 a, .int .i64 b, wv] w fun e w' => e = .returned (.bool true) ∧ Below w.heap.size w w' := by
  obtain ⟨i3, hi3, hz3, hs3, hy3⟩ := info_parts Try.info3
  have HWL : Hid (ws.length ≤ 9223372036854775807) := by
    obtain ⟨_, _, he, q1, q2, _⟩ := hwv
    show _ ≤ _
    omega
  obtain ⟨wo, wc, rfl⟩ := hwv.shape
  obtain ⟨W, hW⟩ : ∃ W, W = w.alloc (.cells #[.int .i64 N, ev] 24) := ⟨_, rfl⟩
  have hbW : Below w.heap.size w W := by rw [hW]; exact below_alloc (Below.refl _ _) _
  have hA : W.heap[w.heap.size]? = some (.cells #[.int .i64 N, ev] 24 (0, 0)) := by rw [hW]; exact heap_new _ _
  have HBW := hide hbW
  have HBL := hide (build_law N ev l W (hr.below hbW) hlu)
  have HWV := hide (hwv.below hbW)
  have c0 := cell_of hA (i := 0) rfl
  have c1 := cell_of hA (i := 1) rfl
  have HPT := hide (fun X => parted_any X)
  clear hr hlu hwv hbW hA
  go_enter Try.func3, Try.ntmps3
  go_upto_region 1 with fail
  rw [← hW]
  clear hW
  go_wp2_with fail
  refine HBL.out.mono ?_
  rintro e w1 (⟨f, p, rfl, hf, hb⟩ | ⟨n, va, vb, vc, st, tl, wt, rfl, rfl, hgi, hgd, hwn, hb⟩)
  · unfold zeroG
    have hb1 := below_alloc hb (.cells #[.int .i64 0, .slice none 0 0, .slice none 0 0, .slice none 0 0] 28)
    have HBX := hide hb1
    have hfz : (f != 0) = true := by simpa using hf
    clear hb hb1 HBL
    go_wp2_with fail
    refine (HPT.out _).mono ?_
    rintro e w2 ⟨rfl, hb⟩
    go_wp2_with fail
    go_ret
    exact ⟨rfl, below_on HBW.out (below_on HBX.out hb)⟩
  · obtain ⟨ao, ca, rfl⟩ := hgi.s.shape
    obtain ⟨bo, cb, rfl⟩ := hgi.t.shape
    obtain ⟨co, cc, rfl⟩ := hgi.u.shape
    unfold gAgg
    go_upto_region 2 with fail
    obtain ⟨V, hV⟩ : ∃ V, V = w1.alloc (.cells #[.int .i64 n, .slice ao st.length ca, .slice bo tl.length cb, .slice co wt.length cc] 28) := ⟨_, rfl⟩
    have hbV : Below w1.heap.size w1 V := by rw [hV]; exact below_alloc (Below.refl _ _) _
    have hVA : V.heap[w1.heap.size]? = some (.cells #[.int .i64 n, .slice ao st.length ca, .slice bo tl.length cb, .slice co wt.length cc] 28 (0, 0)) := by rw [hV]; exact heap_new _ _
    rw [← hV]
    obtain ⟨gb, hgb⟩ : ∃ gb, gb = w1.heap.size := ⟨_, rfl⟩
    rw [← hgb] at hVA ⊢
    have HBV := hide (below_on hb hbV)
    have HK : Hid (∀ X, Below V.heap.size V X → X.cell? ⟨gb, 0, none⟩ = some (.int .i64 n) ∧ X.cell? ⟨gb, 1, none⟩ = some (.slice ao st.length ca) ∧ X.cell? ⟨gb, 2, none⟩ = some (.slice bo tl.length cb) ∧ X.cell? ⟨gb, 3, none⟩ = some (.slice co wt.length cc)) := fun X hX => ⟨gbox_keep hVA hX rfl, gbox_keep hVA hX rfl, gbox_keep hVA hX rfl, gbox_keep hVA hX rfl⟩
    have HG : Hid (∀ X, Below V.heap.size V X → GIs X n (.slice ao st.length ca) (.slice bo tl.length cb) (.slice co wt.length cc) st tl wt) := fun X hX => (hgi.below hbV).below hX
    have HGD := hide hgd; have HW := hide hwn
    have HWX : Hid (∀ X, Below V.heap.size V X → RowAt .i64 X (.slice wo ws.length wc) ws) := fun X hX => HWV.out.below (below_on HBV.out hX)
    have hnle := hgd.n_le; have hmle := hgd.m_le
    have HSZ := hide (And.intro hgd.s_len hgd.w_len)
    clear hgi hb hbV hV hVA hgb hgd hwn HBL HWV c0 c1
    obtain ⟨p0, p1, p2, p3⟩ := HK.out _ (Below.refl _ _)
    by_cases hn0 : n = 0
    · subst hn0
      clear p1 p2 p3
      go_wp2_with fail
      refine (HPT.out _).mono ?_
      rintro e w2 ⟨rfl, hb⟩
      go_wp2_with fail
      go_ret
      exact ⟨rfl, below_on HBW.out (below_on HBV.out hb)⟩
    · have hnz : ((n : Int) == 0) = false := by simp; omega
      have HCp : Hid (∀ X, Below V.heap.size V X → Calls Try.prog 7 #[.agg #[.int .i64 n, .slice ao st.length ca, .slice bo tl.length cb, .slice co wt.length cc]] X fun e w' => ∃ a b c, e = .returned (gAgg n a b c) ∧ GIs w' n a b c st tl wt ∧ Below X.heap.size X w') := fun X hX => copy_any n _ _ _ st tl wt X (HG.out X hX) (by have := HSZ.out.1; omega) (by omega) (by have := HSZ.out.2; omega)
      go_wp2_with fail
      refine (HCp.out _ (Below.refl _ _)).mono ?_
      rintro e w2 ⟨xa, xb, xc, rfl, hg2, hb⟩
      have HB2 := hide hb
      have HPA := hide (parts_any n xa xb xc st tl wt w2 hg2 (by have := HSZ.out.1; omega) (by omega) (by have := HSZ.out.2; omega) HW.out)
      rw [show prtA n st tl wt = (tab n (fun v => (numb (BG n st tl) v : Int)), 0) by unfold prtA; rw [if_pos (good_chk' HGD.out), Int.toNat_natCast]] at HPA
      clear p0 p1 p2 p3 hb hg2
      go_wp2_with fail
      refine HPA.out.mono ?_
      rintro e w3 ⟨v3, rfl, hr3, hb⟩
      obtain ⟨lo, lc, rfl⟩ := hr3.shape
      rw [tab_length] at hr3 ⊢
      have HB3 := hide (below_on HB2.out hb)
      have HL3 := hide hr3
      clear hb hr3 HPA HB2
      obtain ⟨p0, p1, p2, p3⟩ := HK.out _ HB3.out
      go_wp2_with fail
      refine (HCp.out _ HB3.out).mono ?_
      rintro e w4 ⟨xa, xb, xc, rfl, hg4, hb⟩
      have HB4 := hide (below_on HB3.out hb)
      have HL4 := hide (HL3.out.below hb)
      have HCD := hide (condense_good n xa xb xc st tl wt w4 hg4 HGD.out HW.out)
      clear p0 p1 p2 p3 hb hg4 HL3 HB3
      go_wp2_with fail
      refine HCD.out.mono ?_
      rintro e w5 ⟨hb, c, ya, yb, yc, st', tl', wt', qv, rfl, hgi, hcn, hrow⟩
      obtain ⟨do_, da, rfl⟩ := hgi.s.shape
      obtain ⟨eo, ea, rfl⟩ := hgi.t.shape
      obtain ⟨fo, fa, rfl⟩ := hgi.u.shape
      unfold gAgg
      have HCN := hide hcn
      go_upto_region 6 with fail
      obtain ⟨U, hU⟩ : ∃ U, U = w5.alloc (.cells #[.int .i64 c, .slice do_ st'.length da, .slice eo tl'.length ea, .slice fo wt'.length fa] 28) := ⟨_, rfl⟩
      have hbU : Below w5.heap.size w5 U := by rw [hU]; exact below_alloc (Below.refl _ _) _
      have hUA : U.heap[w5.heap.size]? = some (.cells #[.int .i64 c, .slice do_ st'.length da, .slice eo tl'.length ea, .slice fo wt'.length fa] 28 (0, 0)) := by rw [hU]; exact heap_new _ _
      rw [← hU]
      obtain ⟨db, hdb⟩ : ∃ db, db = w5.heap.size := ⟨_, rfl⟩
      rw [← hdb] at hUA ⊢
      have HBU := hide (below_on HB4.out (below_on hb hbU))
      have HKU : Hid (∀ X, Below U.heap.size U X → (X.cell? ⟨gb, 0, none⟩ = some (.int .i64 n) ∧ X.cell? ⟨gb, 1, none⟩ = some (.slice ao st.length ca) ∧ X.cell? ⟨gb, 2, none⟩ = some (.slice bo tl.length cb) ∧ X.cell? ⟨gb, 3, none⟩ = some (.slice co wt.length cc)) ∧ (X.cell? ⟨db, 0, none⟩ = some (.int .i64 c) ∧ X.cell? ⟨db, 1, none⟩ = some (.slice do_ st'.length da) ∧ X.cell? ⟨db, 2, none⟩ = some (.slice eo tl'.length ea) ∧ X.cell? ⟨db, 3, none⟩ = some (.slice fo wt'.length fa))) := fun X hX => ⟨HK.out X (below_on HBU.out hX), gbox_keep hUA hX rfl, gbox_keep hUA hX rfl, gbox_keep hUA hX rfl, gbox_keep hUA hX rfl⟩
      have HGU : Hid (∀ X, Below U.heap.size U X → GIs X n (.slice ao st.length ca) (.slice bo tl.length cb) (.slice co wt.length cc) st tl wt) := fun X hX => HG.out X (below_on HBU.out hX)
      have HDU : Hid (∀ X, Below U.heap.size U X → GIs X c (.slice do_ st'.length da) (.slice eo tl'.length ea) (.slice fo wt'.length fa) st' tl' wt') := fun X hX => (hgi.below hbU).below hX
      have HLU : Hid (∀ X, Below U.heap.size U X → RowAt .i64 X (.slice lo n lc) (tab n (fun v => (numb (BG n st tl) v : Int)))) := fun X hX => (HL4.out.below (below_on hb hbU)).below hX
      have HQU : Hid (∀ X, Below U.heap.size U X → RowAt .i64 X qv (tab n (fun v => (numb (BG n st tl) v : Int)))) := fun X hX => (hrow.below hbU).below hX
      have HWU : Hid (∀ X, Below U.heap.size U X → RowAt .i64 X (.slice wo ws.length wc) ws) := fun X hX => HWX.out X (below_on HBU.out hX)
      have HCU : Hid (∀ X, Below U.heap.size U X → Calls Try.prog 7 #[.agg #[.int .i64 n, .slice ao st.length ca, .slice bo tl.length cb, .slice co wt.length cc]] X fun e w' => ∃ a b c, e = .returned (gAgg n a b c) ∧ GIs w' n a b c st tl wt ∧ Below X.heap.size X w') := fun X hX => HCp.out X (below_on HBU.out hX)
      have hcs := hcn.good.1.s_len; have hcm := hcn.good.1.m_le; have hcw := hcn.good.1.w_len; have hcn0 := hcn.good.2.2
      have HOr : Hid (∀ X, Below U.heap.size U X → Calls Try.prog 9 #[.agg #[.int .i64 c, .slice do_ st'.length da, .slice eo tl'.length ea, .slice fo wt'.length fa]] X (LN X (ordA c st' tl' wt'))) := fun X hX => ord_any c _ _ _ st' tl' wt' X (HDU.out X hX) (by omega) (by omega) (by omega)
      have HCi : Hid (∀ X, Below U.heap.size U X → Calls Try.prog 10 #[.agg #[.int .i64 c, .slice do_ st'.length da, .slice eo tl'.length ea, .slice fo wt'.length fa]] X fun e w' => ∃ cv cl bb E, e = .returned (.tuple #[cv, .bool bb, .int .i64 E]) ∧ RowAt .i64 w' cv cl ∧ CA c st' tl' wt' cl bb E ∧ Below X.heap.size X w') := fun X hX => circle_any c _ _ _ st' tl' wt' X (HDU.out X hX) (by omega) (by omega) (by omega)
      clear hU hbU hUA hdb hgi hcn hrow hb HCD HL4 HB4 HK HG HWX HCp hcs hcm hcw
      obtain ⟨⟨p0, p1, p2, p3⟩, d0, d1, d2, d3⟩ := HKU.out _ (Below.refl _ _)
      have HFW : Hid (∀ x bb E, CA (c : Nat) st' tl' wt' x bb E → bb = false ∧ E = 0 ∧ (ordA c st' tl' wt').2 = 0 ∧ ∃ P, Fwd c st' tl' (ordA c st' tl' wt').1 P) := fun x bb E h => HCN.out.fwd h
      obtain ⟨ol, oe, hoo⟩ : ∃ ol oe, (ol, oe) = ordA (c : Int) st' tl' wt' := ⟨_, _, rfl⟩
      rw [← hoo] at HOr HFW
      clear hoo
      go_wp2_with fail
      refine (HOr.out _ (Below.refl _ _)).mono ?_
      rintro e w6 ⟨v6, rfl, hr6, hb⟩
      obtain ⟨oo, oc, rfl⟩ := hr6.shape
      have HB6 := hide hb
      have HO6 := hide hr6
      clear p0 p1 p2 p3 d0 d1 d2 d3 hb hr6 HOr
      obtain ⟨⟨p0, p1, p2, p3⟩, d0, d1, d2, d3⟩ := HKU.out _ HB6.out
      go_wp2_with fail
      refine (HCi.out _ HB6.out).mono ?_
      rintro e w7 ⟨cv, cl, bb, E7, rfl, _, hca, hb⟩
      obtain ⟨rfl, rfl, ho2, P, hP⟩ := HFW.out _ _ _ hca
      subst ho2
      have hol := hP.len
      have HB7 := hide (below_on HB6.out hb)
      have HO7 := hide (HO6.out.below hb)
      have HP := hide hP
      have HS7 := hide (lawSame_eq (.slice lo n lc) qv _ w7 (HLU.out _ (below_on HB6.out hb)) (HQU.out _ (below_on HB6.out hb)))
      rw [hol] at HO7 ⊢
      have HOL := hide hol
      clear p0 p1 p2 p3 d0 d1 d2 d3 hb hca hP hol HFW HCi HO6 HB6
      obtain ⟨⟨p0, p1, p2, p3⟩, d0, d1, d2, d3⟩ := HKU.out _ HB7.out
      have hnn : ((n : Int) != (n : Int)) = false := by simp
      have hcc : ((c : Int) != (c : Int)) = false := by simp
      go_wp2_with fail
      refine HS7.out.mono ?_
      rintro e w8 ⟨rfl, hb⟩
      have HB8 := hide (below_on HB7.out hb)
      replace HO7 := hide (HO7.out.below hb)
      clear p0 p1 p2 p3 d0 d1 d2 d3 hb HS7 HB7 HQU
      obtain ⟨⟨p0, p1, p2, p3⟩, d0, d1, d2, d3⟩ := HKU.out _ HB8.out
      go_wp2_with fail
      refine (rest_any a n (by omega) (by omega) w8).mono ?_
      rintro e w8' ⟨⟨v, hv, rfl⟩, hww⟩
      subst hww
      go_wp2_with fail
      refine (rest_any b n (by omega) (by omega) w8').mono ?_
      rintro e w8'' ⟨⟨u, hu, rfl⟩, hww⟩
      subst hww
      go_wp2_with fail
      refine (HCU.out _ HB8.out).mono ?_
      rintro e w9 ⟨xa, xb, xc, rfl, hg9, hb⟩
      have hb9 := below_alloc (Below.refl w9.heap.size w9) (.cells #[.int .i64 (v : Int)] 3)
      have HB9 := hide (below_on HB8.out (below_on hb hb9))
      replace HO7 := hide (HO7.out.below (below_on hb hb9))
      have HR9 := hide (callsIn_wide.1 (reach_good 0 n xa xb xc st tl wt (.slice (some ⟨w9.heap.size, 0, none⟩) 1 1) [(v : Int)] (w9.alloc (.cells #[.int .i64 (v : Int)] 3)) (hg9.below hb9) HGD.out (good_chk' HGD.out) (row_lit (l := [(v : Int)]) (heap_new _ _) (by simp)) (by simp) (fun i hi => by
        have : i = 0 := by simp at hi; omega
        subst this
        show IsV n (v : Int)
        exact ⟨by omega, by omega⟩)))
      clear p0 p1 p2 p3 d0 d1 d2 d3 hb hb9 hg9 HB8
      go_wp2_with fail
      refine HR9.out.mono ?_
      rintro e w10 ⟨RX, X, rfl, hX, hXl, hXr, hb⟩
      have HB10 := hide (below_on HB9.out hb)
      replace HO7 := hide (HO7.out.below hb)
      have HX := hide hX; have HXR := hide (And.intro hXl hXr)
      clear hb hX hXl hXr HR9 HB9
      obtain ⟨⟨p0, p1, p2, p3⟩, d0, d1, d2, d3⟩ := HKU.out _ HB10.out
      go_wp2_with fail
      refine (HCU.out _ HB10.out).mono ?_
      rintro e w11 ⟨xa, xb, xc, rfl, hg11, hb⟩
      have hb11 := below_alloc (Below.refl w11.heap.size w11) (.cells #[.int .i64 (u : Int)] 3)
      have HB11 := hide (below_on HB10.out (below_on hb hb11))
      replace HO7 := hide (HO7.out.below (below_on hb hb11))
      have HX11 : Hid (ArrB (w11.alloc (.cells #[.int .i64 (u : Int)] 3)) RX X) := ((below_on hb hb11).block _ (lt_of_heap HX.out)).trans HX.out
      have HR11 := hide (callsIn_wide.1 (reach_good 0 n xa xb xc st tl wt (.slice (some ⟨w11.heap.size, 0, none⟩) 1 1) [(u : Int)] (w11.alloc (.cells #[.int .i64 (u : Int)] 3)) (hg11.below hb11) HGD.out (good_chk' HGD.out) (row_lit (l := [(u : Int)]) (heap_new _ _) (by simp)) (by simp) (fun i hi => by
        have : i = 0 := by simp at hi; omega
        subst this
        show IsV n (u : Int)
        exact ⟨by omega, by omega⟩)))
      clear p0 p1 p2 p3 d0 d1 d2 d3 hb hb11 hg11 HB10 HX
      go_wp2_with fail
      refine HR11.out.mono ?_
      rintro e w12 ⟨RY, Y, rfl, hY, hYl, hYr, hb⟩
      have HB12 := hide (below_on HB11.out hb)
      replace HO7 := hide (HO7.out.below hb)
      have hX : ArrB w12 RX X := (hb.block _ (lt_of_heap HX11.out)).trans HX11.out
      have hkey := part_both HGD.out hv hu HXR.out.2 hYr
      have x1 := hX.cell u (by rw [HXR.out.1]; exact hu)
      have y1 := hY.cell v (by rw [hYl]; exact hv)
      clear hb hX hY hYl hYr HR11 HB11 HX11 HXR
      obtain ⟨⟨p0, p1, p2, p3⟩, d0, d1, d2, d3⟩ := HKU.out _ HB12.out
      obtain ⟨g, o, c1, he, _, lv⟩ := (HLU.out _ HB12.out).cellAt v (by rw [tab_length]; exact hv)
      rw [tab_length] at he
      simp only [Value.slice.injEq, true_and] at he
      obtain ⟨rfl, rfl⟩ := he
      obtain ⟨g1, o1, c1, he, _, lu⟩ := (HLU.out _ HB12.out).cellAt u (by rw [tab_length]; exact hu)
      rw [tab_length] at he
      simp only [Value.slice.injEq, Option.some.injEq, Addr.mk.injEq, and_true, true_and] at he
      obtain ⟨⟨rfl, rfl⟩, rfl⟩ := he
      rw [tab_at n _ v hv] at lv
      rw [tab_at n _ u hu] at lu
      have hvi : (v : Int) < (n : Int) := by omega
      have hui : (u : Int) < (n : Int) := by omega
      obtain ⟨z1, hz1⟩ : ∃ z1, z1 = numb (BG n st tl) v := ⟨_, rfl⟩
      obtain ⟨z2, hz2⟩ : ∃ z2, z2 = numb (BG n st tl) u := ⟨_, rfl⟩
      obtain ⟨bx, hbx⟩ : ∃ bx, bx = bAt X u := ⟨_, rfl⟩
      obtain ⟨by_, hby⟩ : ∃ by_, by_ = bAt Y v := ⟨_, rfl⟩
      rw [← hz1] at lv hkey
      rw [← hz2] at lu hkey
      rw [← hbx] at x1 hkey
      rw [← hby] at y1 hkey
      clear hz1 hz2 hbx hby p1 p2 p3 d1 d2 d3
      have heq : ((z1 : Int) == (z2 : Int)) = (bx && by_) := by
        rw [← hkey]
        by_cases h : z1 = z2
        · simp [h]
        · have : ¬ (z1 : Int) = (z2 : Int) := by omega
          simp [h, this]
      clear hkey
      have hff : ((false : Bool) != false) = false := rfl
      have htt : ((true : Bool) != true) = false := rfl
      have HC3 : (bx = false ∧ ((z1 : Int) == (z2 : Int)) = false) ∨ (bx = true ∧ by_ = false ∧ ((z1 : Int) == (z2 : Int)) = false) ∨ (bx = true ∧ by_ = true ∧ ((z1 : Int) == (z2 : Int)) = true) := by
        cases bx <;> cases by_ <;> simp_all
      clear heq
      go_upto_region 14 with fail
      go_cut [173] from 132 to 172 (fun t wx => t = .bool false ∧ ∃ q, wx = w12.drewN q)
      case first =>
        rcases HC3 with ⟨rfl, heq⟩ | ⟨rfl, rfl, heq⟩ | ⟨rfl, rfl, heq⟩
        all_goals
          go_quiet (fail)
          go_wp2_with fail
          go_meet
          exact ⟨rfl, _, rfl⟩
      case rest =>
        obtain ⟨rfl, nq, rfl⟩ := hcut
        clear HC3
        clear lv lu x1 y1 hff htt hnz hvi hui
        obtain ⟨Z, hZ⟩ : ∃ Z, Z = w12.drewN nq := ⟨_, rfl⟩
        have hbZ : Below w12.heap.size w12 Z := by rw [hZ]; exact below_drewN (Below.refl _ _) _
        have HBZ := hide (below_on HB12.out hbZ)
        have HOZ := hide (HO7.out.below hbZ)
        rw [← hZ]
        clear hZ hbZ p0 d0
        obtain ⟨⟨p0, p1, p2, p3⟩, d0, d1, d2, d3⟩ := HKU.out _ HBZ.out
        clear p0 p1 p2 p3 d1 d2 d3
        go_upto_region 17 with (first
          | (at_make; refine wpList_make_full _ rfl _ _ 25 rfl Z.heap.size 3 i3 (.int .i64 0) 1 Try.underlying25 hi3 hz3 hs3 _ _ _ _ c rfl rfl rfl rfl (by rw [hy3]; omega) (by unfold maxLen; omega) (Nat.le_refl _) ?_; intro w13 hown hgrow)
          | fail)
        have hbm : Below Z.heap.size Z w13 := (Below.refl _ _).grown hgrow (Nat.le_refl _) (by intro j hj; cases hj)
        have HPM : Hid (PM Z w13 (plL P c 0)) := by
          refine ⟨hbm, ?_⟩
          rw [plL_zero]
          exact arr_made hown
        clear hown hgrow hbm d0
        go_wp2_with fail
        go_loopw [29] (fun t wr => ∃ i : Nat, i ≤ c ∧ t = .int .i64 i ∧ PM Z wr (plL P c i)) (fun t _ => c - (RowKit.intOf t).toNat)
        case atStart => exact ⟨0, Nat.zero_le _, rfl, HPM.out⟩
        case round =>
          obtain ⟨i, hi, rfl, hpm⟩ := hrel
          have HPR := hide hpm
          clear hpm HPM
          by_cases hlt : i < c
          · obtain ⟨gl, o2, c2, he, _, hx⟩ := (HOZ.out.below HPR.out.bel).cellAt i (by rw [HOL.out]; exact hlt)
            rw [HOL.out] at he
            simp only [Value.slice.injEq, true_and] at he
            obtain ⟨rfl, rfl⟩ := he
            obtain ⟨q, hq1, hq2, hq3⟩ := HP.out.rng i hlt
            rw [hq1] at hx
            have hu : ∀ v, v < c → P v = i → v = q := fun v' hv' he => by
              have h1 := (HP.out.pos v' hv').2
              rw [he, hq1] at h1
              omega
            have HST := hide (plL_set hq3 hu)
            clear hq1 hq3 hu
            obtain ⟨⟨_, _, _, _⟩, d0, _, _, _⟩ := HKU.out _ (below_on HBZ.out HPR.out.bel)
            have hii : (i : Int) < (c : Int) := by omega
            have hq0 : ¬ (q : Int) < 0 := by omega
            have hqc : ¬ (c : Int) ≤ (q : Int) := by omega
            go_upto_region 20 with fail
            go_quiet (fail)
            obtain ⟨wr', hwr'⟩ : ∃ wr', wr' = wr.drewN nq := ⟨_, rfl⟩
            have HPR' := hide (show PM Z wr' (plL P c i) from HPR.out.on (by rw [hwr']; exact below_drewN (Below.refl _ _) _))
            have hx' : wr'.cell? ⟨gl, o2 + i, none⟩ = some (.int .i64 (q : Int)) := by rw [hwr']; exact hx
            have yc := HPR'.out.arr.cell q (by unfold plL; rw [tab_length]; exact hq2)
            have yf := HPR'.out.arr.free q
            rw [← hwr']
            clear hwr' hx HPR d0
            have hqi : (q : Int) < (c : Int) := by omega
            go_wp2_with fail
            refine ⟨⟨i + 1, by omega, by simp, ?_⟩, by simp [RowKit.intOf]; omega⟩
            rw [← HST.out]
            exact HPR'.out.put _ _
          · obtain rfl : c = i := by omega
            have HPF : Hid (PM Z wr (tab c (fun v => (P v : Int)))) := by
              show PM _ _ _
              rw [← plL_all (fun v hv => (HP.out.pos v hv).1)]; exact HPR.out
            clear HPR hi hlt
            go_wp2_with fail
            go_loopw [22, 30, 31, 32] (fun x t _ _ wr2 => ∃ v' k : Nat, x = .int .i64 (v' : Int) ∧ v' < n ∧ t = .int .i64 (k : Int) ∧ k ≤ ws.length ∧ PM Z wr2 (tab c (fun v => (P v : Int)))) (fun _ t _ _ _ => ws.length - (RowKit.intOf t).toNat)
            case atStart => exact ⟨v, 0, rfl, hv, rfl, Nat.zero_le _, HPF.out⟩
            case round =>
              clear hv HPF
              obtain ⟨v', k, rfl, hv, rfl, hk, hpm⟩ := hrel
              have HPR := hide hpm
              clear hpm
              have HBR := hide (below_on HBZ.out HPR.out.bel)
              by_cases hlt : k < ws.length
              · obtain ⟨⟨p0, p1, p2, p3⟩, d0, _, _, _⟩ := HKU.out _ HBR.out
                obtain ⟨gw, ow, cw, he, hcw, wx⟩ := (HWU.out _ HBR.out).cellAt k hlt
                simp only [Value.slice.injEq, true_and] at he
                obtain ⟨rfl, rfl⟩ := he
                have hkm : (k : Int) + 1 ≤ 9223372036854775807 := by have := HWL.out; omega
                by_cases hm0 : tl.length = 0
                · have hmz : ((tl.length : Int) == 0) = true := by rw [hm0]; rfl
                  clear p0 p1 p3 d0 wx
                  go_wp2_with fail
                  refine (HPT.out _).mono ?_
                  rintro e w20 ⟨rfl, hb⟩
                  go_wp2_with fail
                  go_ret
                  exact ⟨rfl, below_on HBW.out (below_on HBV.out (below_on HBU.out (below_on HBR.out hb)))⟩
                · have hmz : ((tl.length : Int) == 0) = false := by simp; exact fun h => hm0 (by rw [h]; rfl)
                  obtain ⟨y, hy⟩ : ∃ y, y = at_ ws k := ⟨_, rfl⟩
                  rw [← hy] at wx
                  clear hy p0 p1 p3 d0
                  have HRS := hide (fun X => rest_any y tl.length (by omega) (by omega) X)
                  go_upto_region 27 with fail
                  go_cut [31] from 214 to 221 (fun t wx => (∃ r : Nat, r < tl.length ∧ t = .int .i64 (r : Int)) ∧ wx = wr.drew)
                  case first =>
                    go_region_with (go_at_call 12; refine (HRS.out _).mono ?_; rintro e w21 ⟨⟨r, hr, rfl⟩, hw21⟩; subst hw21)
                    all_goals
                      go_wp2_with fail
                      go_meet
                      exact ⟨⟨r, hr, rfl⟩, rfl⟩
                  case rest =>
                    obtain ⟨⟨r, hr, rfl⟩, rfl⟩ := hcut
                    obtain ⟨wy, hwy⟩ : ∃ wy, wy = wr.drew := ⟨_, rfl⟩
                    have HPY := hide (show PM Z wy (tab c (fun v => (P v : Int))) from HPR.out.on (by rw [hwy]; exact below_drew (Below.refl _ _)))
                    rw [← hwy]
                    clear hwy wx p2 HPR HBR
                    have HBY := hide (below_on HBZ.out HPY.out.bel)
                    obtain ⟨⟨p0, p1, p2, p3⟩, d0, d1, d2, d3⟩ := HKU.out _ HBY.out
                    clear p0 p3 d1 d2 d3
                    obtain ⟨gs, os, cs, he, _, s0⟩ := (HGU.out _ HBY.out).s.cellAt v' (by rw [HSZ.out.1]; omega)
                    simp only [Value.slice.injEq, true_and] at he
                    obtain ⟨rfl, rfl⟩ := he
                    obtain ⟨gs1, os1, cs1, he, _, s1⟩ := (HGU.out _ HBY.out).s.cellAt (v' + 1) (by rw [HSZ.out.1]; omega)
                    simp only [Value.slice.injEq, Option.some.injEq, Addr.mk.injEq, and_true, true_and] at he
                    obtain ⟨⟨rfl, rfl⟩, rfl⟩ := he
                    obtain ⟨gt, ot, ct, he, _, t0⟩ := (HGU.out _ HBY.out).t.cellAt r hr
                    simp only [Value.slice.injEq, true_and] at he
                    obtain ⟨rfl, rfl⟩ := he
                    have hvs : ((v' : Int) + 1) < (st.length : Int) := by have := HSZ.out.1; omega
                    have hvs0 : (v' : Int) < (st.length : Int) := by omega
                    have hrl : (r : Int) < (tl.length : Int) := by omega
                    have HSR : Hid (at_ st v' ≤ (r : Int) → (r : Int) < at_ st (v' + 1) → src st n r = v') := fun h1 h2 => src_eq HGD.out hv h1 h2
                    obtain ⟨sv, hsv⟩ : ∃ sv, sv = at_ st v' := ⟨_, rfl⟩
                    obtain ⟨sw, hsw⟩ : ∃ sw, sw = at_ st (v' + 1) := ⟨_, rfl⟩
                    rw [← hsv] at s0 HSR
                    rw [← hsw] at s1 HSR
                    clear hsv hsw
                    by_cases h1 : sv ≤ (r : Int)
                    · by_cases h2 : (r : Int) < sw
                      · have hsr := HSR.out h1 h2
                        have hah := HCN.out.ahead HP.out hr
                        have htv := HGD.out.vtx r hr
                        have htn : tN tl r < n := by unfold tN; omega
                        have hte : at_ tl r = (tN tl r : Int) := by unfold tN; omega
                        rw [hte] at t0
                        rw [hsr] at hah
                        obtain ⟨t, ht⟩ : ∃ t, t = tN tl r := ⟨_, rfl⟩
                        rw [← ht] at t0 hah htn
                        clear htv hte hsr ht
                        have hz1 := HCN.out.lt v' hv
                        have hz2 := HCN.out.lt t htn
                        obtain ⟨gl, o2, c2, he, _, lv⟩ := (HLU.out _ HBY.out).cellAt v' (by rw [tab_length]; exact hv)
                        rw [tab_length] at he
                        simp only [Value.slice.injEq, Option.some.injEq, Addr.mk.injEq, and_true, true_and] at he
                        obtain ⟨⟨rfl, rfl⟩, rfl⟩ := he
                        obtain ⟨gl, o2, c2, he, _, lt⟩ := (HLU.out _ HBY.out).cellAt t (by rw [tab_length]; exact htn)
                        rw [tab_length] at he
                        simp only [Value.slice.injEq, Option.some.injEq, Addr.mk.injEq, and_true, true_and] at he
                        obtain ⟨⟨rfl, rfl⟩, rfl⟩ := he
                        rw [tab_at n _ v' hv] at lv
                        rw [tab_at n _ t htn] at lt
                        obtain ⟨y1, hy1⟩ : ∃ y1, y1 = numb (BG n st tl) v' := ⟨_, rfl⟩
                        obtain ⟨y2, hy2⟩ : ∃ y2, y2 = numb (BG n st tl) t := ⟨_, rfl⟩
                        rw [← hy1] at lv hah hz1
                        rw [← hy2] at lt hah hz2
                        clear hy1 hy2
                        have f1 := HPY.out.arr.cell y1 (by rw [tab_length]; exact hz1)
                        have f2 := HPY.out.arr.cell y2 (by rw [tab_length]; exact hz2)
                        rw [tab_at c _ y1 hz1] at f1
                        rw [tab_at c _ y2 hz2] at f2
                        obtain ⟨k1, hk1⟩ : ∃ k1, k1 = P y1 := ⟨_, rfl⟩
                        obtain ⟨k2, hk2⟩ : ∃ k2, k2 = P y2 := ⟨_, rfl⟩
                        rw [← hk1] at f1 hah
                        rw [← hk2] at f2 hah
                        clear hk1 hk2
                        have g1 : ¬ (y1 : Int) < 0 := by omega
                        have g2 : ¬ (c : Int) ≤ (y1 : Int) := by omega
                        have g3 : ¬ (y2 : Int) < 0 := by omega
                        have g4 : ¬ (c : Int) ≤ (y2 : Int) := by omega
                        have g5 : ¬ (k2 : Int) < (k1 : Int) := by omega
                        have g6 : (v' : Int) < (n : Int) := by omega
                        have g7 : (t : Int) < (n : Int) := by omega
                        have g8 : (y1 : Int) < (c : Int) := by omega
                        have g9 : (y2 : Int) < (c : Int) := by omega
                        clear hah
                        go_upto_region 30 with fail
                        go_quiet (fail)
                        go_wp2_with fail
                        exact ⟨⟨t, k + 1, rfl, htn, by simp, by omega, HPY.out.on (below_drewN (Below.refl _ _) _)⟩, by simp [RowKit.intOf]; omega⟩
                      · clear t0
                        go_wp2_with fail
                        exact ⟨⟨v', k + 1, rfl, hv, by simp, by omega, HPY.out⟩, by simp [RowKit.intOf]; omega⟩
                    · clear t0
                      go_wp2_with fail
                      exact ⟨⟨v', k + 1, rfl, hv, by simp, by omega, HPY.out⟩, by simp [RowKit.intOf]; omega⟩
              · obtain rfl : ws.length = k := by omega
                go_wp2_with fail
                refine (HPT.out _).mono ?_
                rintro e w20 ⟨rfl, hb⟩
                go_wp2_with fail
                go_ret
                exact ⟨rfl, below_on HBW.out (below_on HBV.out (below_on HBU.out (below_on HBR.out hb)))⟩
end Go.Proofs.Ytiohimbifjlfdaa
