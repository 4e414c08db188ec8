/- Longest, the program's. -/
import Derived.Test.YteblkbneghbcbaaLgOd
namespace Go.Proofs.Yteblkbneghbcbaa
open Go.RowKit Go.Lib
set_option linter.unusedVariables false
set_option linter.unusedSimpArgs false
theorem ordA_zero {N : Int} {st tl wt : List Int} (h : (ordA N st tl wt).2 = 0) : ∃ n : Nat, N = n ∧ Good n st tl wt ∧ Sq n st tl (ordA N st tl wt).1 := by
  by_cases hc : (chk N st tl wt).1 = 0
  · obtain ⟨n, rfl, hg⟩ := chk_good hc
    by_cases hl : (ordL n st tl).length < n
    · rw [ordA_few hc (ordL_fin n st tl) hl] at h; cases h
    · rw [ordA_all hc (ordL_fin n st tl) hl]
      exact ⟨n, rfl, hg, (ordL_fin n st tl).1⟩
  · rw [ordA_bad hc] at h; exact absurd h hc
theorem lngA_bad {N : Int} {st tl wt : List Int} (h : ¬ (ordA N st tl wt).2 = 0) : lngA N st tl wt = ([], (ordA N st tl wt).2) := by unfold lngA; rw [if_neg h]
theorem lngA_good {n : Nat} {st tl wt : List Int} (h : (ordA (n : Int) st tl wt).2 = 0) : lngA n st tl wt = (allL n st tl (ordA n st tl wt).1 (ordA n st tl wt).1.length, 0) := by unfold lngA; rw [if_pos h, Int.toNat_natCast]
structure LS (w1 wr : World) (D n : Nat) (b : Int) (L : List Int) : Prop where
  bel : Below w1.heap.size w1 wr
  arr : Arr wr D L
  bd : Bd n b L
theorem LS.on {w1 wr w' : World} {D n : Nat} {b : Int} {L : List Int} (h : LS w1 wr D n b L) (hb : Below wr.heap.size wr w') : LS w1 w' D n b L := ⟨below_on h.bel hb, (hb.block D (lt_of_heap h.arr)).trans h.arr, h.bd⟩
theorem LS.step {w1 wr : World} {D n u a : Nat} {b : Int} {L : List Int} (h : LS w1 wr D n b L) (hD : D = w1.heap.size) (hu : u < n) (ha : a < n) : LS w1 (wr.setCell ⟨D, a, none⟩ (.int .i64 (max (at_ L a) (at_ L u + 1)))) D n (b + 1) (stepL L u a) :=
  ⟨h.bel.setCell (p := ⟨D, a, none⟩) (by show w1.heap.size ≤ D; omega) _, h.arr.put a _, bd_step h.bd hu ha⟩
theorem stepL_same {n u a : Nat} {b : Int} {L : List Int} (h : Bd n b L) (ha : a < n) (hx : ¬ at_ L a < at_ L u + 1) : stepL L u a = L := by
  unfold stepL
  rw [show max (at_ L a) (at_ L u + 1) = at_ L a by omega]
  apply List.ext_getElem?
  intro i
  by_cases e : i = a
  · subst e
    rw [List.getElem?_set_self (by rw [h.1]; exact ha)]
    simp [at_, show i < L.length by rw [h.1]; exact ha]
  · rw [List.getElem?_set_ne (fun h => e h.symm)]
theorem allL_succ {n : Nat} {st tl l : List Int} {i u p r : Nat} (hu : at_ l i = (u : Int)) (hp : at_ st u = (p : Int)) (hr : at_ st (u + 1) = (p : Int) + (r : Int)) : allL n st tl l (i + 1) = rowL tl (allL n st tl l i) u p r := by
  show rowL tl (allL n st tl l i) (at_ l i).toNat (at_ st (at_ l i).toNat).toNat ((at_ st ((at_ l i).toNat + 1)).toNat - (at_ st (at_ l i).toNat).toNat) = _
  rw [hu, Int.toNat_natCast, hp, hr, Int.toNat_natCast]
  congr 1
  omega
theorem mulB {i j m n : Nat} (hi : i < n) (hj : j ≤ m) (hn : n ≤ 1048576) (hm : m ≤ 4194304) : i * m + j ≤ 4398046511104 := by
  have h1 : (i + 1) * m ≤ 1048576 * 4194304 := Nat.mul_le_mul (by omega) hm
  rw [Nat.succ_mul] at h1
  omega
set_option maxHeartbeats 8000000 in
set_option maxRecDepth 100000 in
theorem lng_any (N : Int) (va vb vc : Value) (st tl wt : List Int) (w : World) (hg : GIs w N va vb vc st tl wt) (hst : st.length ≤ 17592186044416) (hto : tl.length ≤ 17592186044416) (hwt : wt.length ≤ 17592186044416) :
    Calls Try.prog 22 #[gAgg N va vb vc] w (LN w (lngA N st tl wt)) := by
  obtain ⟨i3, hi3, hz3, hs3, hy3⟩ := info_parts Try.info3q
  obtain ⟨W, hW⟩ : ∃ W, W = w.alloc (.cells #[.int .i64 N, va, vb, vc] 25) := ⟨_, rfl⟩
  have hbW : Below w.heap.size w W := by rw [hW]; exact below_alloc (Below.refl _ _) _
  have hA : W.heap[w.heap.size]? = some (.cells #[.int .i64 N, va, vb, vc] 25 (0, 0)) := by rw [hW]; exact heap_new _ _
  have HA := hide hA; have HBW := hide hbW; have HG := hide hg
  have HOr := hide (ord_any N va vb vc st tl wt W (hg.below hbW) hst hto hwt)
  have HK : Hid (∀ X, Below W.heap.size W X → X.cell? ⟨w.heap.size, 0, none⟩ = some (.int .i64 N) ∧ X.cell? ⟨w.heap.size, 1, none⟩ = some va ∧ X.cell? ⟨w.heap.size, 2, none⟩ = some vb ∧ X.cell? ⟨w.heap.size, 3, none⟩ = some vc) := fun X hX => ⟨box_keep hA hX rfl, box_keep hA hX rfl, box_keep hA hX rfl, box_keep hA hX rfl⟩
  obtain ⟨l, E, hr⟩ : ∃ l E, (l, E) = ordA N st tl wt := ⟨_, _, rfl⟩
  have HR := hide hr
  unfold LN at HOr
  rw [← hr] at HOr
  clear hg hA hbW hr
  unfold gAgg at *
  go_enter Try.func22, Try.ntmps22
  go_upto_region 1 with fail
  rw [← hW]
  clear hW
  obtain ⟨p0, p1, p2, p3⟩ := HK.out _ (Below.refl _ _)
  go_wp2_with fail
  refine HOr.out.mono ?_
  rintro e w1 ⟨cv, rfl, hrow, hb1⟩
  have HB1 := hide hb1; have HRow := hide hrow
  clear p0 p1 p2 p3
  obtain ⟨p0, p1, p2, p3⟩ := HK.out _ hb1
  by_cases hz : E = 0
  · subst hz
    have hc0 : (ordA N st tl wt).2 = 0 := by rw [← HR.out]
    obtain ⟨n, rfl, hgood, hsq⟩ := ordA_zero hc0
    rw [← HR.out] at hsq
    have HLn : Hid (lngA n st tl wt = (allL n st tl l l.length, 0)) := by rw [lngA_good hc0, ← HR.out]; exact hide rfl
    have hrng := (Sq.rng n st tl hsq).1
    have hll := Sq.len n st tl hsq
    obtain ⟨ga, oa, ca, rfl, hca, _⟩ := HG.out.s.cellAt 0 (by rw [hgood.s_len]; omega)
    obtain ⟨bo, cb_, rfl⟩ := HG.out.t.shape
    obtain ⟨lo, lc, rfl⟩ := hrow.shape
    have hnl := hgood.n_le; have hml := hgood.m_le
    have hsl := hgood.s_len
    have HGd := hide hgood; have HRng := hide hrng
    have HS : Hid (RowAt .i64 w1 (.slice (some ⟨ga, oa, none⟩) st.length ca) st) := ((HG.out.below HBW.out).below HB1.out).s
    have HT : Hid (RowAt .i64 w1 (.slice bo tl.length cb_) tl) := ((HG.out.below HBW.out).below HB1.out).t
    obtain ⟨m, hm⟩ : ∃ m, m = tl.length := ⟨_, rfl⟩
    obtain ⟨kl, hkl⟩ : ∃ kl, kl = l.length := ⟨_, rfl⟩
    have hcb : m ≤ cb_ := by
      obtain ⟨_, _, he, h1, _⟩ := HT.out
      simp only [Value.slice.injEq] at he
      obtain ⟨_, _, rfl⟩ := he
      omega
    have HM := hide hm; have HKL := hide hkl
    rw [hsl] at HS hca
    rw [hsl] at p1
    rw [← hm] at HT hml p2
    rw [← hkl] at HRow hll ⊢
    rw [hsl, ← hm]
    have HCB := hide hcb; have HCA := hide hca; have HNL := hide hnl; have HML := hide hml; have HLL := hide hll
    have HB11 : Hid (Below w1.heap.size w1 w1) := Below.refl _ _
    have hb01 := hb1
    have hXW : w.heap.size < w1.heap.size := Nat.lt_of_lt_of_le (lt_of_heap HA.out) hb1.size
    have HBX : Hid (∀ X, Below w1.heap.size w1 X → X.cell? ⟨w.heap.size, 0, none⟩ = some (.int .i64 (n : Int)) ∧ X.cell? ⟨w.heap.size, 1, none⟩ = some (.slice (some ⟨ga, oa, none⟩) (n + 1) ca) ∧ X.cell? ⟨w.heap.size, 2, none⟩ = some (.slice bo m cb_)) := fun X hX => ⟨(below_cell hX hXW).trans p0, (below_cell hX hXW).trans p1, (below_cell hX hXW).trans p2⟩
    have HEnd : Hid (Below w.heap.size w w1) := below_on HBW.out hb1
    clear hb1 hb01 hgood hsq hrng hc0 hrow hsl hm hkl hcb HG HK p1 p2 p3 HOr HB1 hca hll
    go_upto_region 5 with (first
      | (at_make; refine wpList_make_full _ rfl _ _ 22 rfl w1.heap.size 3 i3 (.int .i64 0) 1 Try.underlying22 hi3 hz3 hs3 _ _ _ _ n rfl rfl rfl rfl (by rw [hy3]; have := HNL.out; omega) (by unfold maxLen; have := HNL.out; omega) (Nat.le_refl _) ?_; intro w2 hown hgrow)
      | fail)
    have hb2 : Below w1.heap.size w1 w2 := (Below.refl _ _).grown hgrow (Nat.le_refl _) (by intro j hj; cases hj)
    have HAr : Hid (Arr w2 w1.heap.size (allL n st tl l 0)) := arr_made hown
    have HB2 := hide hb2
    obtain ⟨D, hD⟩ : ∃ D, D = w1.heap.size := ⟨_, rfl⟩
    have HD := hide hD
    rw [← hD] at HAr ⊢
    clear hown hgrow hb2 hD p0
    go_wp2_with fail
    go_loopw [24] (fun t wr => ∃ i : Nat, i ≤ kl ∧ t = .int .i64 i ∧ LS w1 wr D n ((i * m : Nat) : Int) (allL n st tl l i)) (fun t _ => kl - (RowKit.intOf t).toNat)
    case atStart => exact ⟨0, Nat.zero_le _, rfl, HB2.out, HAr.out, by rw [Nat.zero_mul]; exact bd_zero n⟩
    case round =>
      obtain ⟨i, hi, rfl, hls⟩ := hrel
      have HLS := hide hls
      clear HAr HB2
      by_cases hlt : i < kl
      · obtain ⟨gl, ol, cl, he, hcc, hx⟩ := (HRow.out.below hls.bel).cellAt i (by have := HKL.out; omega)
        simp only [Value.slice.injEq] at he
        obtain ⟨rfl, hq7, rfl⟩ := he
        obtain ⟨u, hu⟩ : ∃ u : Nat, at_ l i = (u : Int) := ⟨(at_ l i).toNat, by have := HRng.out (at_ l i) (at_mem (by have := HKL.out; omega)); omega⟩
        have hun : u < n := by have := HRng.out (at_ l i) (at_mem (by have := HKL.out; omega)); omega
        rw [hu] at hx
        obtain ⟨p, hp⟩ : ∃ p : Nat, at_ st u = (p : Int) := ⟨(at_ st u).toNat, by have := HGd.out.range u (by omega); omega⟩
        obtain ⟨r, hr⟩ : ∃ r : Nat, at_ st (u + 1) = (p : Int) + (r : Int) := ⟨(at_ st (u + 1)).toNat - p, by have := HGd.out.step u hun; have := HGd.out.range (u + 1) (by omega); omega⟩
        have hpr : p + r ≤ m := by have := HGd.out.range (u + 1) (by omega); have := HM.out; omega
        have HNXT := hide (allL_succ (n := n) (tl := tl) hu hp hr)
        obtain ⟨ga2, oa2, ca2, he1, hca1, hx1⟩ := HS.out.cellAt u (by rw [HGd.out.s_len]; omega)
        obtain ⟨ga3, oa3, ca3, he2, _, hx2⟩ := HS.out.cellAt (u + 1) (by rw [HGd.out.s_len]; omega)
        simp only [Value.slice.injEq, Option.some.injEq, Addr.mk.injEq, and_true] at he1 he2
        obtain ⟨⟨rfl, rfl⟩, hq8, rfl⟩ := he1
        obtain ⟨⟨rfl, rfl⟩, hq9, rfl⟩ := he2
        rw [hp] at hx1
        rw [hr] at hx2
        have HX1 := hide hx1; have HX2 := hide hx2
        have s1 : wr.cell? ⟨ga, oa + u, none⟩ = some (.int .i64 (p : Int)) := (below_cell hls.bel (block_of_cell hx1)).trans hx1
        have s2 : wr.cell? ⟨ga, oa + (u + 1), none⟩ = some (.int .i64 ((p : Int) + (r : Int))) := (below_cell hls.bel (block_of_cell hx2)).trans hx2
        obtain ⟨b0, b1, b2⟩ := HBX.out _ hls.bel
        have hu1 : (u : Int) + 1 ≤ 9223372036854775807 := by have := HNL.out; omega
        have hw1 : IntKind.i64.wrap ((u : Int) + 1) = (u : Int) + 1 := IntWalk.i64_in _ (by have := HNL.out; omega)
        have hua : (u : Int) < ca := by have := HCA.out; omega
        have hua1 : (u : Int) + 1 < ca := by have := HCA.out; omega
        have hun1 : (u : Int) < (n : Int) + 1 := by omega
        have hun2 : (u : Int) + 1 < (n : Int) + 1 := by omega
        have hilc : (i : Int) < lc := by have := HKL.out; omega
        have him : (i : Int) + 1 ≤ 9223372036854775807 := by have := HLL.out; have := HNL.out; omega
        have hslr := part_run 22 Try.underlying22 (fun w => by rfl) bo m cb_ p r (by have := HCB.out; omega)
        have hrow := HT.out.part p r hpr
        obtain ⟨so, hso⟩ : ∃ so, so = (if cb_ = p then bo else bo.map (·.add (p * 1))) := ⟨_, rfl⟩
        rw [← hso] at hslr hrow
        obtain ⟨sc, hsc⟩ : ∃ sc, sc = cb_ - p := ⟨_, rfl⟩
        rw [← hsc] at hslr hrow
        have HROW := hide hrow
        clear hq7 hq8 hq9 hcc hca1 hu hp hr hx1 hx2 hso hsc hrow
        go_upto_region 8 with fail
        have y1 := gw_cell b1
        have y2 := gw_cell b2
        have y3 := gw_cell s1
        have y4 := gw_cell s2
        refine wp_region_gw (by kernel_rfl) (by kernel_rfl) ?_
        repeat (go_big_quiet_step (rfl))
        refine wpQuiet_nil ?_
        intro _ hw'
        obtain ⟨x, hw''⟩ := hw'
        subst hw''
        have HL2 : Hid (LS w1 x.world D n ((i * m + 0 : Nat) : Int) (rowL tl (allL n st tl l i) u p 0)) := HLS.out.on x.bel
        clear y1 y2 y3 y4 b0 b1 b2 s1 s2 hslr hx hls hw1 hua hua1 hun1 hun2
        generalize x.world = w9 at HL2 ⊢
        go_wp2_with fail
        go_loopw [43] (fun t wr => ∃ j : Nat, j ≤ r ∧ t = .int .i64 j ∧ LS w1 wr D n ((i * m + j : Nat) : Int) (rowL tl (allL n st tl l i) u p j)) (fun t _ => r - (RowKit.intOf t).toNat)
        case atStart => exact ⟨0, Nat.zero_le _, rfl, HL2.out⟩
        case round =>
          obtain ⟨j, hj, rfl, hlj⟩ := hrel
          have HLJ := hide hlj
          clear HL2
          by_cases hjr : j < r
          · obtain ⟨gs, os_, cs, he, hcc, hx⟩ := (HROW.out.below hlj.bel).cellAt j (by simp; have := HM.out; omega)
            simp only [Value.slice.injEq] at he
            obtain ⟨rfl, hlen9, hcc2⟩ := he
            subst hcc2
            rw [at_row _ _ _ _ hjr] at hx
            have hpm : p + j < tl.length := by have := HM.out; omega
            obtain ⟨a, ha⟩ : ∃ a : Nat, at_ tl (p + j) = (a : Int) := ⟨(at_ tl (p + j)).toNat, by have := HGd.out.vtx (p + j) hpm; omega⟩
            have han : a < n := by have := HGd.out.vtx (p + j) hpm; omega
            rw [ha] at hx
            have y0 := hlj.arr.cell a (by rw [hlj.bd.1]; exact han)
            have y1 := hlj.arr.cell u (by rw [hlj.bd.1]; exact hun)
            have yf := hlj.arr.free a
            have hbu := hlj.bd.2 u hun
            have hba := hlj.bd.2 a han
            have hmb := mulB (i := i) (j := j) (m := m) (n := n) (by have := HLL.out; omega) (by omega) HNL.out HML.out
            have HST : Hid (LS w1 (wr.setCell ⟨D, a, none⟩ (.int .i64 (max (at_ (rowL tl (allL n st tl l i) u p j) a) (at_ (rowL tl (allL n st tl l i) u p j) u + 1)))) D n ((i * m + (j + 1) : Nat) : Int) (rowL tl (allL n st tl l i) u p (j + 1))) := by
              have := HLJ.out.step HD.out hun han
              show LS w1 _ D n _ (stepL _ u (at_ tl (p + j)).toNat)
              rw [ha, Int.toNat_natCast]
              exact this
            generalize at_ (rowL tl (allL n st tl l i) u p j) a = xa at y0 hba HST
            generalize at_ (rowL tl (allL n st tl l i) u p j) u = xu at y1 hbu HST
            have hxm : xu + 1 ≤ 9223372036854775807 := by omega
            have hwx : IntKind.i64.wrap (xu + 1) = xu + 1 := IntWalk.i64_in _ (by omega)
            have hjm : (j : Int) + 1 ≤ 9223372036854775807 := by have := HML.out; omega
            have hjc : (j : Int) < sc := by simp at hcc; omega
            clear hlen9 hcc ha hpm hlj hbu hba hmb
            go_wp2_with fail
            go_region
            all_goals
              go_wp2_with fail
              refine ⟨⟨j + 1, Nat.succ_le_of_lt hjr, by go_num, ?_⟩, ?_⟩
              · exact HST.out.on (Below.refl _ _).drew
              · exact mdec hjr
          · have hjr2 : j = r := by omega
            have HE2 : Hid (LS w1 wr D n (((i + 1) * m : Nat) : Int) (allL n st tl l (i + 1))) := by
              have := HLJ.out
              rw [hjr2] at this
              rw [HNXT.out]
              exact ⟨this.bel, this.arr, this.bd.mono (by rw [Nat.succ_mul]; omega)⟩
            clear hlj
            go_wp2_with fail
            exact ⟨⟨i + 1, Nat.succ_le_of_lt hlt, by go_num, HE2.out⟩, mdec hlt⟩
      · clear hls
        have hik : i = kl := by omega
        have HAns := HLn
        rw [← HKL.out, ← hik] at HAns
        go_wp2_with fail
        go_ret2
        rw [HAns.out]
        refine ⟨_, rfl, HLS.out.arr.row HLS.out.bd.1 (by have := HNL.out; omega), below_on HEnd.out HLS.out.bel⟩
  · have HAns : Hid (lngA N st tl wt = ([], E)) := by
      rw [lngA_bad (by rw [← HR.out]; exact hz), ← HR.out]
      exact hide rfl
    have hzb : (E != 0) = true := by simpa using hz
    clear hb1
    go_wp2_with fail
    go_ret2
    rw [HAns.out]
    exact ⟨_, rfl, RowAt.nil _ _, below_on HBW.out HB1.out⟩
set_option maxHeartbeats 8000000 in
set_option maxRecDepth 100000 in
theorem refLng_any (N : Int) (va vb vc : Value) (st tl wt : List Int) (w : World) (hg : GIs w N va vb vc st tl wt) (hst : st.length ≤ 17592186044416) (hto : tl.length ≤ 17592186044416) (hwt : wt.length ≤ 17592186044416) :
    Calls Try.prog 23 #[gAgg N va vb vc] w (LN w (lngA N st tl wt)) := by
  obtain ⟨i3, hi3, hz3, hs3, hy3⟩ := info_parts Try.info3q
  obtain ⟨W, hW⟩ : ∃ W, W = w.alloc (.cells #[.int .i64 N, va, vb, vc] 25) := ⟨_, rfl⟩
  have hbW : Below w.heap.size w W := by rw [hW]; exact below_alloc (Below.refl _ _) _
  have hA : W.heap[w.heap.size]? = some (.cells #[.int .i64 N, va, vb, vc] 25 (0, 0)) := by rw [hW]; exact heap_new _ _
  have HA := hide hA; have HBW := hide hbW; have HG := hide hg
  have HOr := hide (refOrd_any N va vb vc st tl wt W (hg.below hbW) hst hto hwt)
  have HK : Hid (∀ X, Below W.heap.size W X → X.cell? ⟨w.heap.size, 0, none⟩ = some (.int .i64 N) ∧ X.cell? ⟨w.heap.size, 1, none⟩ = some va ∧ X.cell? ⟨w.heap.size, 2, none⟩ = some vb ∧ X.cell? ⟨w.heap.size, 3, none⟩ = some vc) := fun X hX => ⟨box_keep hA hX rfl, box_keep hA hX rfl, box_keep hA hX rfl, box_keep hA hX rfl⟩
  obtain ⟨l, E, hr⟩ : ∃ l E, (l, E) = ordA N st tl wt := ⟨_, _, rfl⟩
  have HR := hide hr
  unfold LN at HOr
  rw [← hr] at HOr
  clear hg hA hbW hr
  unfold gAgg at *
  go_enter Try.func23, Try.ntmps23
  go_upto_region 1 with fail
  rw [← hW]
  clear hW
  obtain ⟨p0, p1, p2, p3⟩ := HK.out _ (Below.refl _ _)
  go_wp2_with fail
  refine HOr.out.mono ?_
  rintro e w1 ⟨cv, rfl, hrow, hb1⟩
  have HB1 := hide hb1; have HRow := hide hrow
  clear p0 p1 p2 p3
  obtain ⟨p0, p1, p2, p3⟩ := HK.out _ hb1
  by_cases hz : E = 0
  · subst hz
    have hc0 : (ordA N st tl wt).2 = 0 := by rw [← HR.out]
    obtain ⟨n, rfl, hgood, hsq⟩ := ordA_zero hc0
    rw [← HR.out] at hsq
    have HLn : Hid (lngA n st tl wt = (allL n st tl l l.length, 0)) := by rw [lngA_good hc0, ← HR.out]; exact hide rfl
    have hrng := (Sq.rng n st tl hsq).1
    have hll := Sq.len n st tl hsq
    obtain ⟨ga, oa, ca, rfl, hca, _⟩ := HG.out.s.cellAt 0 (by rw [hgood.s_len]; omega)
    obtain ⟨bo, cb_, rfl⟩ := HG.out.t.shape
    obtain ⟨lo, lc, rfl⟩ := hrow.shape
    have hnl := hgood.n_le; have hml := hgood.m_le
    have hsl := hgood.s_len
    have HGd := hide hgood; have HRng := hide hrng
    have HS : Hid (RowAt .i64 w1 (.slice (some ⟨ga, oa, none⟩) st.length ca) st) := ((HG.out.below HBW.out).below HB1.out).s
    have HT : Hid (RowAt .i64 w1 (.slice bo tl.length cb_) tl) := ((HG.out.below HBW.out).below HB1.out).t
    obtain ⟨m, hm⟩ : ∃ m, m = tl.length := ⟨_, rfl⟩
    obtain ⟨kl, hkl⟩ : ∃ kl, kl = l.length := ⟨_, rfl⟩
    have hcb : m ≤ cb_ := by
      obtain ⟨_, _, he, h1, _⟩ := HT.out
      simp only [Value.slice.injEq] at he
      obtain ⟨_, _, rfl⟩ := he
      omega
    have HM := hide hm; have HKL := hide hkl
    rw [hsl] at HS hca
    rw [hsl] at p1
    rw [← hm] at HT hml p2
    rw [← hkl] at HRow hll ⊢
    rw [hsl, ← hm]
    have HCB := hide hcb; have HCA := hide hca; have HNL := hide hnl; have HML := hide hml; have HLL := hide hll
    have HB11 : Hid (Below w1.heap.size w1 w1) := Below.refl _ _
    have hb01 := hb1
    have hXW : w.heap.size < w1.heap.size := Nat.lt_of_lt_of_le (lt_of_heap HA.out) hb1.size
    have HBX : Hid (∀ X, Below w1.heap.size w1 X → X.cell? ⟨w.heap.size, 0, none⟩ = some (.int .i64 (n : Int)) ∧ X.cell? ⟨w.heap.size, 1, none⟩ = some (.slice (some ⟨ga, oa, none⟩) (n + 1) ca) ∧ X.cell? ⟨w.heap.size, 2, none⟩ = some (.slice bo m cb_)) := fun X hX => ⟨(below_cell hX hXW).trans p0, (below_cell hX hXW).trans p1, (below_cell hX hXW).trans p2⟩
    have HEnd : Hid (Below w.heap.size w w1) := below_on HBW.out hb1
    clear hb1 hb01 hgood hsq hrng hc0 hrow hsl hm hkl hcb HG HK p1 p2 p3 HOr HB1 hca hll
    go_upto_region 5 with (first
      | (at_make; refine wpList_make_full _ rfl _ _ 22 rfl w1.heap.size 3 i3 (.int .i64 0) 1 Try.underlying22 hi3 hz3 hs3 _ _ _ _ n rfl rfl rfl rfl (by rw [hy3]; have := HNL.out; omega) (by unfold maxLen; have := HNL.out; omega) (Nat.le_refl _) ?_; intro w2 hown hgrow)
      | fail)
    have hb2 : Below w1.heap.size w1 w2 := (Below.refl _ _).grown hgrow (Nat.le_refl _) (by intro j hj; cases hj)
    have HAr : Hid (Arr w2 w1.heap.size (allL n st tl l 0)) := arr_made hown
    have HB2 := hide hb2
    obtain ⟨D, hD⟩ : ∃ D, D = w1.heap.size := ⟨_, rfl⟩
    have HD := hide hD
    rw [← hD] at HAr ⊢
    clear hown hgrow hb2 hD p0
    go_wp2_with fail
    go_loopw [7] (fun t wr => ∃ i : Nat, i ≤ kl ∧ t = .int .i64 i ∧ LS w1 wr D n ((i * m : Nat) : Int) (allL n st tl l i)) (fun t _ => kl - (RowKit.intOf t).toNat)
    case atStart => exact ⟨0, Nat.zero_le _, rfl, HB2.out, HAr.out, by rw [Nat.zero_mul]; exact bd_zero n⟩
    case round =>
      obtain ⟨i, hi, rfl, hls⟩ := hrel
      have HLS := hide hls
      clear HAr HB2
      by_cases hlt : i < kl
      · obtain ⟨gl, ol, cl, he, hcc, hx⟩ := (HRow.out.below hls.bel).cellAt i (by have := HKL.out; omega)
        simp only [Value.slice.injEq] at he
        obtain ⟨rfl, hq7, rfl⟩ := he
        obtain ⟨u, hu⟩ : ∃ u : Nat, at_ l i = (u : Int) := ⟨(at_ l i).toNat, by have := HRng.out (at_ l i) (at_mem (by have := HKL.out; omega)); omega⟩
        have hun : u < n := by have := HRng.out (at_ l i) (at_mem (by have := HKL.out; omega)); omega
        rw [hu] at hx
        obtain ⟨p, hp⟩ : ∃ p : Nat, at_ st u = (p : Int) := ⟨(at_ st u).toNat, by have := HGd.out.range u (by omega); omega⟩
        obtain ⟨r, hr⟩ : ∃ r : Nat, at_ st (u + 1) = (p : Int) + (r : Int) := ⟨(at_ st (u + 1)).toNat - p, by have := HGd.out.step u hun; have := HGd.out.range (u + 1) (by omega); omega⟩
        have hpr : p + r ≤ m := by have := HGd.out.range (u + 1) (by omega); have := HM.out; omega
        have HNXT := hide (allL_succ (n := n) (tl := tl) hu hp hr)
        obtain ⟨ga2, oa2, ca2, he1, hca1, hx1⟩ := HS.out.cellAt u (by rw [HGd.out.s_len]; omega)
        obtain ⟨ga3, oa3, ca3, he2, _, hx2⟩ := HS.out.cellAt (u + 1) (by rw [HGd.out.s_len]; omega)
        simp only [Value.slice.injEq, Option.some.injEq, Addr.mk.injEq, and_true] at he1 he2
        obtain ⟨⟨rfl, rfl⟩, hq8, rfl⟩ := he1
        obtain ⟨⟨rfl, rfl⟩, hq9, rfl⟩ := he2
        rw [hp] at hx1
        rw [hr] at hx2
        have HX1 := hide hx1; have HX2 := hide hx2
        have s1 : wr.cell? ⟨ga, oa + u, none⟩ = some (.int .i64 (p : Int)) := (below_cell hls.bel (block_of_cell hx1)).trans hx1
        have s2 : wr.cell? ⟨ga, oa + (u + 1), none⟩ = some (.int .i64 ((p : Int) + (r : Int))) := (below_cell hls.bel (block_of_cell hx2)).trans hx2
        obtain ⟨b0, b1, b2⟩ := HBX.out _ hls.bel
        have hu1 : (u : Int) + 1 ≤ 9223372036854775807 := by have := HNL.out; omega
        have hw1 : IntKind.i64.wrap ((u : Int) + 1) = (u : Int) + 1 := IntWalk.i64_in _ (by have := HNL.out; omega)
        have hua : (u : Int) < ca := by have := HCA.out; omega
        have hua1 : (u : Int) + 1 < ca := by have := HCA.out; omega
        have hun1 : (u : Int) < (n : Int) + 1 := by omega
        have hun2 : (u : Int) + 1 < (n : Int) + 1 := by omega
        have hilc : (i : Int) < lc := by have := HKL.out; omega
        have him : (i : Int) + 1 ≤ 9223372036854775807 := by have := HLL.out; have := HNL.out; omega
        have HL2 : Hid (LS w1 wr D n ((i * m + 0 : Nat) : Int) (rowL tl (allL n st tl l i) u p 0)) := HLS.out
        clear hq7 hq8 hq9 hcc hca1 hu hp hr hx1 hx2 hls s2
        go_wp2_with fail
        clear b0 b1 b2 s1 hx
        go_loopw [9] (fun t wr => ∃ j : Nat, j ≤ r ∧ t = .int .i64 ((p + j : Nat) : Int) ∧ LS w1 wr D n ((i * m + j : Nat) : Int) (rowL tl (allL n st tl l i) u p j)) (fun t _ => p + r - (RowKit.intOf t).toNat)
        case atStart => exact ⟨0, Nat.zero_le _, rfl, HL2.out⟩
        case round =>
          obtain ⟨j, hj, rfl, hlj⟩ := hrel
          have HLJ := hide hlj
          clear HL2
          obtain ⟨b0, b1, b2⟩ := HBX.out _ hlj.bel
          have s2 : wr.cell? ⟨ga, oa + (u + 1), none⟩ = some (.int .i64 ((p : Int) + (r : Int))) := (below_cell hlj.bel (block_of_cell HX2.out)).trans HX2.out
          obtain ⟨e0, he0⟩ : ∃ e0 : Nat, e0 = p + j := ⟨_, rfl⟩
          obtain ⟨pr, hpr2⟩ : ∃ pr : Nat, pr = p + r := ⟨_, rfl⟩
          have hpi : (p : Int) + (r : Int) = (pr : Int) := by omega
          rw [hpi] at s2
          rw [← he0]
          by_cases hjr : j < r
          · obtain ⟨gs, os_, cs, he, hcc, hx⟩ := (HT.out.below hlj.bel).cellAt (p + j) (by have := HM.out; omega)
            simp only [Value.slice.injEq] at he
            obtain ⟨rfl, hlen9, hcc2⟩ := he
            subst hcc2
            have hpm : p + j < tl.length := by have := HM.out; omega
            obtain ⟨a, ha⟩ : ∃ a : Nat, at_ tl (p + j) = (a : Int) := ⟨(at_ tl (p + j)).toNat, by have := HGd.out.vtx (p + j) hpm; omega⟩
            have han : a < n := by have := HGd.out.vtx (p + j) hpm; omega
            rw [ha, ← he0] at hx
            have y0 := hlj.arr.cell a (by rw [hlj.bd.1]; exact han)
            have y1 := hlj.arr.cell u (by rw [hlj.bd.1]; exact hun)
            have yf := hlj.arr.free a
            have hbu := hlj.bd.2 u hun
            have hba := hlj.bd.2 a han
            have hmb := mulB (i := i) (j := j) (m := m) (n := n) (by have := HLL.out; omega) (by omega) HNL.out HML.out
            have HRJ : Hid (rowL tl (allL n st tl l i) u p (j + 1) = stepL (rowL tl (allL n st tl l i) u p j) u a) := by
              show stepL _ u (at_ tl (p + j)).toNat = _
              rw [ha, Int.toNat_natCast]
            have HST := hide (HLJ.out.step HD.out hun han)
            have HSM := hide (fun hx => stepL_same (u := u) HLJ.out.bd han hx)
            obtain ⟨R, hR⟩ : ∃ R, R = rowL tl (allL n st tl l i) u p j := ⟨_, rfl⟩
            rw [← hR] at HST HSM HRJ y0 y1 hbu hba HLJ
            generalize hxa : at_ R a = xa at y0 hba HST HSM
            generalize hxu : at_ R u = xu at y1 hbu HST HSM
            have hxm : xu + 1 ≤ 9223372036854775807 := by omega
            have hwx : IntKind.i64.wrap (xu + 1) = xu + 1 := IntWalk.i64_in _ (by omega)
            have hw64 : wrap64 (xu + 1) = xu + 1 := IntWalk.wrap64_in _ (by omega)
            have hem : (e0 : Int) + 1 ≤ 9223372036854775807 := by have := HML.out; omega
            have hec : (e0 : Int) < cb_ := by have := HCB.out; omega
            have helt : (e0 : Int) < (pr : Int) := by omega
            have helt2 : e0 < pr := by omega
            have hem2 : e0 < m := by omega
            have HMS : Hid (p + r - (e0 + 1) < p + r - e0) := by show _ < _; omega
            have HE0 := hide he0
            have HXA := hide (And.intro hxa hxu)
            clear hlen9 hcc ha hpm hlj hbu hba hmb he0 hpr2 hpi hR hxa hxu
            have z0 := gw_cell y0
            have z1 := gw_cell y1
            have z2 := gw_cell b2
            have z3 := gw_cell hx
            by_cases hlx : xa < xu + 1
            · have hmx : max xa (xu + 1) = xu + 1 := by omega
              rw [hmx] at HST
              clear hmx
              go_upto_region 12 with fail
              refine wp_region_gw (by kernel_rfl) (by kernel_rfl) ?_
              repeat (go_big_quiet_step (rfl))
              refine wpQuiet_nil ?_
              intro _ hw'
              obtain ⟨x, hw''⟩ := hw'
              subst hw''
              have v0 := z0 x
              have v1 := z1 x
              have v2 := z2 x
              have v3 := z3 x
              have vf := (HLJ.out.on x.bel).arr.free a
              have HSX : Hid (LS w1 (x.world.setCell ⟨D, a, none⟩ (.int .i64 (xu + 1))) D n ((i * m + (j + 1) : Nat) : Int) (stepL R u a)) := by
                have h1 := HST.out
                have h2 := HLJ.out.on x.bel
                exact ⟨h2.bel.setCell (p := ⟨D, a, none⟩) (by show w1.heap.size ≤ D; have := HD.out; omega) _, by
                  have h3 := h2.arr.put a (xu + 1)
                  have h4 : stepL R u a = R.set a (xu + 1) := by
                    unfold stepL
                    rw [HXA.out.1, HXA.out.2]
                    congr 1
                    omega
                  rw [h4]; exact h3, h1.bd⟩
              clear z0 z1 z2 z3 y0 y1 yf b0 b1 b2 s2 hx
              generalize x.world = w9 at v0 v1 v2 v3 vf HSX ⊢
              go_wp2_with fail
              go_region
              all_goals
                go_wp2_with fail
                refine ⟨⟨j + 1, Nat.succ_le_of_lt hjr, by have := HE0.out; go_num, ?_⟩, ?_⟩
                · rw [HRJ.out]; exact HSX.out.on (Below.refl _ _).drew
                · have := HMS.out
                  simp [RowKit.intOf]
                  omega
            · go_upto_region 12 with fail
              refine wp_region_gw (by kernel_rfl) (by kernel_rfl) ?_
              repeat (go_big_quiet_step (rfl))
              refine wpQuiet_nil ?_
              intro _ hw'
              obtain ⟨x, hw''⟩ := hw'
              subst hw''
              have HSX : Hid (LS w1 x.world D n ((i * m + (j + 1) : Nat) : Int) (stepL R u a)) := by
                rw [HSM.out hlx]
                have h2 := HLJ.out.on x.bel
                exact ⟨h2.bel, h2.arr, h2.bd.mono (by omega)⟩
              clear z0 z1 z2 z3 y0 y1 yf b0 b1 b2 s2 hx
              generalize x.world = w9 at HSX ⊢
              go_wp2_with fail
              refine ⟨⟨j + 1, Nat.succ_le_of_lt hjr, by have := HE0.out; go_num, ?_⟩, ?_⟩
              · rw [HRJ.out]; exact HSX.out
              · have := HMS.out
                simp [RowKit.intOf]
                omega
          · have hjr2 : j = r := by omega
            have HE2 : Hid (LS w1 wr D n (((i + 1) * m : Nat) : Int) (allL n st tl l (i + 1))) := by
              have := HLJ.out
              rw [hjr2] at this
              rw [HNXT.out]
              exact ⟨this.bel, this.arr, this.bd.mono (by rw [Nat.succ_mul]; omega)⟩
            have hne : e0 = pr := by omega
            subst hne
            have hlt2 : ¬ (e0 : Int) < (e0 : Int) := by omega
            clear hlj he0 hpr2 hpi hjr2
            go_wp2_with fail
            exact ⟨⟨i + 1, Nat.succ_le_of_lt hlt, by go_num, HE2.out⟩, mdec hlt⟩
      · clear hls
        have hik : i = kl := by omega
        have HAns := HLn
        rw [← HKL.out, ← hik] at HAns
        go_wp2_with fail
        go_ret2
        rw [HAns.out]
        refine ⟨_, rfl, HLS.out.arr.row HLS.out.bd.1 (by have := HNL.out; omega), below_on HEnd.out HLS.out.bel⟩
  · have HAns : Hid (lngA N st tl wt = ([], E)) := by
      rw [lngA_bad (by rw [← HR.out]; exact hz), ← HR.out]
      exact hide rfl
    have hzb : (E != 0) = true := by simpa using hz
    clear hb1
    go_wp2_with fail
    go_ret2
    rw [HAns.out]
    exact ⟨_, rfl, RowAt.nil _ _, below_on HBW.out HB1.out⟩
end Go.Proofs.Yteblkbneghbcbaa
