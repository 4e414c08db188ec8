/- The document's Merge and Edges. -/
import Derived.Test.YtmagigmcbegmiaaTb
namespace Go.Proofs.Ytmagigmcbegmiaa
open Go.RowKit Go.Lib
set_option linter.unusedVariables false
set_option linter.unusedSimpArgs false
/-- The list of few under way. -/
structure FW (w8 wr : World) (cv : Value) (d : List Ed3) : Prop where
  bel : Below w8.heap.size w8 wr
  own : EOwn wr w8.heap.size cv d
theorem FW.came {w8 X w' : World} {v v' : Value} {d : List Ed3} {p : Ed3} {o : Obj} (h : FW w8 X v d) (hown : w'.ownsRow w8.heap.size 50 3 v' (d.length + 1) (eCells d ++ [.int .i64 p.1, .int .i64 p.2.1, .int .u64 p.2.2])) (hgrow : (X.alloc o).grownBy w' v.ownBlock) : FW w8 w' v' (d ++ [p]) := by
  refine ⟨?_, ?_⟩
  · exact (below_alloc h.bel o).grown hgrow (by have := h.bel.size; simp; omega) (fun k e => (World.ownsRow.lt h.own k e).1)
  · unfold EOwn; rw [eCells_snoc]; simpa using hown
set_option maxRecDepth 100000 in
set_option maxHeartbeats 8000000 in
theorem mergeR_good (n : Nat) (va vb vc : Value) (st tl wt : List Int) (w : World) (hgi : GIs w n va vb vc st tl wt) (hg : Good n st tl wt) (hw : ∀ e, 0 ≤ at_ wt e) :
    Calls Try.prog 81 #[gAgg n va vb vc] w (LaidW w n (cpt (e3s (gEdges n st tl wt tl.length)))) := by
  obtain ⟨i0, hi, hz0, hz1, hz2⟩ := info_parts3 Try.info50'
  have hml := hg.m_le
  have hchk := good_chk' hg
  obtain ⟨⟨r1, r2⟩, hrr⟩ : ∃ r, chk n st tl wt = r := ⟨_, rfl⟩
  rw [hrr] at hchk
  simp only at hchk
  subst hchk
  have hck := (fun W h => refCheck_all n va vb vc st tl wt W h (by have := hg.s_len; have := hg.n_le; omega) (by omega) (by have := hg.w_len; omega))
  unfold ChkPost at hck
  rw [hrr] at hck
  have HCK := hide hck
  have HGI := hide hgi; have HG := hide hg
  have hmt := MT.start w n va vb vc
  have HMT := hide hmt
  have c0 := cell_of hmt.bg (i := 0) rfl
  have c1 := cell_of hmt.bg (i := 1) rfl
  have c2 := cell_of hmt.bg (i := 2) rfl
  have c3 := cell_of hmt.bg (i := 3) rfl
  have HTK : Hid (Takes n (cpt (e3s (gEdges n st tl wt tl.length)))) := by
    have := cpt_takes ((gEdges_takes hg hw).perm (e3s_perm _)) (by rw [← sort_same hg]; exact sortE_lxl)
    exact this
  have HED := hide (fun W h => edges_any n va vb vc st tl wt W h hg)
  have HSO := hide (fun X u B ho => sortedR n va vb vc st tl wt w X hgi hg u B ho)
  have hLn : (e3s (gEdges n st tl wt tl.length)).length = tl.length := by rw [e3s_length, gEdges_length]
  obtain ⟨L, hL⟩ : ∃ L, L = e3s (gEdges n st tl wt tl.length) := ⟨_, rfl⟩
  rw [← hL] at HTK HSO hLn ⊢
  unfold gAgg at HCK HED ⊢
  clear hgi hg hw hck hrr hmt hL
  go_enter Try.func81, Try.ntmps81
  go_upto_region 1 with fail
  generalize (w.alloc (.cells #[.int .i64 n, va, vb, vc] 25)).alloc (.cells #[.int .i64 0, .slice none 0 0, .slice none 0 0, .slice none 0 0] 25) = w1 at HMT c0 c1 c2 c3 ⊢
  go_wp2_with fail
  refine (HCK.out w1 (HGI.out.below HMT.out.bel)).mono ?_
  rintro e w2 ⟨rfl, hb2⟩
  have HM2 := hide (HMT.out.below hb2)
  clear hb2 HMT c0 c1 c2 c3 HCK
  have c0 := cell_of HM2.out.bg (i := 0) rfl
  have c1 := cell_of HM2.out.bg (i := 1) rfl
  have c2 := cell_of HM2.out.bg (i := 2) rfl
  have c3 := cell_of HM2.out.bg (i := 3) rfl
  have HE2 := hide (HED.out w2 (HGI.out.below HM2.out.bel))
  clear HED
  go_wp2_with fail
  refine HE2.out.mono ?_
  rintro e9 w9 ⟨cv, rfl, hown9, hb9⟩
  have HM9 := hide (HM2.out.below hb9)
  have HS9 := hide (HSO.out w9 cv _ hown9)
  clear hown9 hb9 c0 c1 c2 c3 HSO HE2 HM2
  go_wp2_with fail
  refine HS9.out.mono ?_
  rintro e8 w8 ⟨u8, rfl, hown8, hb8⟩
  obtain ⟨ao, c, rfl, hc8, hc63⟩ := EAt.shp hown8.eat'
  have HEA := hide hown8.eat'
  have HM8 := hide (HM9.out.below hb8)
  obtain ⟨m, hm⟩ : ∃ m, m = L.length := ⟨_, rfl⟩
  rw [← hm] at hc8 HEA hLn ⊢
  have HM := hide hm
  have hml2 : m ≤ 4194304 := by omega
  have HF0 : Hid (FW w8 w8 (.slice none 0 0) (cpt (L.take 0))) := ⟨Below.refl _ _, ⟨by simp [cpt, eCells], .inl ⟨rfl, by simp [cpt]⟩⟩⟩
  clear hown8 hb8 HM9 HS9 hm hml hLn
  have HMD := hide hml2; have HC8 := hide hc8; have HC6 := hide hc63
  go_wp2_with fail
  go_loopw [7, 8] (fun cv t wr => ∃ i : Nat, i ≤ m ∧ t = .int .i64 i ∧ FW w8 wr cv (cpt (L.take i))) (fun _ t _ => m - (RowKit.intOf t).toNat)
  case atStart => exact ⟨0, Nat.zero_le _, rfl, HF0.out⟩
  case round =>
    obtain ⟨i, hi_, rfl, hf⟩ := hrel
    have HFR := hide hf
    clear hf HF0
    by_cases him : i < m
    · obtain ⟨d, hd⟩ : ∃ d, d = cpt (L.take i) := ⟨_, rfl⟩
      have HDL : Hid (d.length ≤ 4194304) := by
        have := cpt_len_le (L.take i)
        rw [← hd, List.length_take] at this
        exact hide (by omega)
      rw [← hd] at HFR
      obtain ⟨g, o, rfl, p0, p1, p2⟩ := EAt.cl (HEA.out.below HFR.out.bel) (i := i) (by have := HM.out; omega)
      obtain ⟨x, hx⟩ : ∃ x, x = eAt L i := ⟨_, rfl⟩
      rw [← hx] at p0 p1 p2
      have q0 := gw_cellS p0
      have q1 := gw_cellS p1
      have q2 := gw_cellS p2
      have i1 : (i : Int) < (m : Int) := by omega
      have i2 : (i : Int) < (c : Int) := by omega
      by_cases hz : i = 0
      · have HEQ : Hid (cpt (L.take (i + 1)) = d ++ [x]) := hide (by
          rw [hd, hz, cpt_first L (by have := HM.out; omega), hx, hz]
          have h0 : 0 < L.length := by have := HM.out; omega
          have : L.take 1 = [eAt L 0] := by
            rw [show (1 : Nat) = 0 + 1 from rfl, List.take_add_one]
            simp [eAt, h0]
          rw [this]; simp [cpt])
        have hz2_ : (i : Int) = 0 := by omega
        clear hd hx
        go_wp2_with fail
        refine wp_region_gw (by kernel_rfl) (by kernel_rfl) ?_
        repeat (go_big_quiet_step (first
          | rfl))
        refine wpQuiet_nil ?_
        intro _ hw'
        obtain ⟨x', hw''⟩ := hw'
        subst hw''
        have HF4 : Hid (FW w8 x'.world u7 d) := ⟨below_on HFR.out.bel x'.bel, HFR.out.own.below x'.bel⟩
        have m0 := (below_cell x'.bel (lt_of_cellS p0)).trans p0
        have m1 := (below_cell x'.bel (lt_of_cellS p1)).trans p1
        have m2 := (below_cell x'.bel (lt_of_cellS p2)).trans p2
        generalize x'.world = W4 at HF4 m0 m1 m2 ⊢
        clear x'
        clear q0 q1 q2 p0 p1 p2 hz2_ hz
        go_wp2_with (at_builtin; refine wpList_append_own _ rfl (.tmp 57) (.tmp 62) 45 rfl _ 50 i0 (.agg #[.int .i64 0, .int .i64 0, .int .u64 0]) 3 24 Try.underlying45 hi hz0 hz1 hz2 rfl (by decide) _ _ _ rfl (World.ownsRow.alloc (show W4.ownsRow w8.heap.size 50 3 u7 d.length (eCells d) from HF4.out.own) _) ⟨W4.heap.size, 0, none⟩ 1 1 [.int .i64 x.1, .int .i64 x.2.1, .int .u64 x.2.2] rfl rfl (three_at W4 _ _ _ _) (by simp [Value.oneCell']) (by unfold maxLen; have := HDL.out; omega) (by have := HDL.out; omega) (by have := HF4.out.bel.size; simp; omega) ?_; intro v5 w5 hownB hgrowB hqB; have HR5 := hide (HF4.out.came hownB hgrowB); clear hownB hgrowB hqB)
        go_roundw
        case rel => exact ⟨i + 1, by omega, by simp, by rw [HEQ.out]; exact HR5.out⟩
        case measure => simp [RowKit.intOf]; omega
      · obtain ⟨k, hk⟩ : ∃ k : Nat, (i : Int) - 1 = (k : Int) := ⟨i - 1, by omega⟩
        have hzi : ¬ (i : Int) = 0 := by omega
        have hzb : ((i : Int) == 0) = false := by simp; omega
        have hzc : decide ((i : Int) = 0) = false := by simp; omega
        have hw1 : IntKind.i64.wrap ((i : Int) - 1) = (k : Int) := by rw [← hk]; exact IntWalk.i64_in _ (by omega)
        have k1 : (k : Int) < (m : Int) := by omega
        obtain ⟨g', o', he', r0, r1, r2_⟩ := EAt.cl (HEA.out.below HFR.out.bel) (i := k) (by have := HM.out; omega)
        simp only [Option.some.injEq, Addr.mk.injEq, and_true] at he'
        obtain ⟨rfl, rfl⟩ := he'
        obtain ⟨y, hy⟩ : ∃ y, y = eAt L k := ⟨_, rfl⟩
        rw [← hy] at r0 r1
        have s0 := gw_cellS r0
        have s1 := gw_cellS r1
        have HCT := hide (cpt_take L i (by omega) (by have := HM.out; omega))
        rw [show i - 1 = k by omega, ← hd, ← hx, ← hy] at HCT
        clear hd hx hy hk r2_
        by_cases h1 : x.1 = y.1
        · by_cases h2 : x.2.1 = y.2.1
          · have e1 : (x.1 != y.1) = false := by simp [h1]
            have e2 : (x.2.1 != y.2.1) = false := by simp [h2]
            have e3 : (x.1 == y.1) = true := by simp [h1]
            have e4 : (x.2.1 == y.2.1) = true := by simp [h2]
            have HEQ : Hid (cpt (L.take (i + 1)) = d) := by
              have := HCT.out
              rw [if_pos ((alk_iff _ _).2 ⟨h1, h2⟩), List.append_nil] at this
              exact this
            go_wp2_with fail
            refine wp_region_gw (by kernel_rfl) (by kernel_rfl) ?_
            repeat (go_big_quiet_step (first
              | rfl))
            refine wpQuiet_nil ?_
            intro _ hw'
            obtain ⟨x', hw''⟩ := hw'
            subst hw''
            have HF4 : Hid (FW w8 x'.world u7 d) := ⟨below_on HFR.out.bel x'.bel, HFR.out.own.below x'.bel⟩
            generalize x'.world = W4 at HF4 ⊢
            go_wp2_with fail
            exact ⟨⟨i + 1, by omega, by simp, by rw [HEQ.out]; exact HF4.out⟩, by simp [RowKit.intOf]; omega⟩
          · have e1 : (x.1 != y.1) = false := by simp [h1]
            have e2 : (x.2.1 != y.2.1) = true := by simp [h2]
            have e3 : (x.1 == y.1) = true := by simp [h1]
            have e4 : (x.2.1 == y.2.1) = false := by simp [h2]
            have HEQ : Hid (cpt (L.take (i + 1)) = d ++ [x]) := by
              have := HCT.out
              rw [if_neg (fun h => h2 ((alk_iff _ _).1 h).2)] at this
              exact this
            clear h1 h2
            go_wp2_with fail
            refine wp_region_gw (by kernel_rfl) (by kernel_rfl) ?_
            repeat (go_big_quiet_step (first
              | rfl))
            refine wpQuiet_nil ?_
            intro _ hw'
            obtain ⟨x', hw''⟩ := hw'
            subst hw''
            have HF4 : Hid (FW w8 x'.world u7 d) := ⟨below_on HFR.out.bel x'.bel, HFR.out.own.below x'.bel⟩
            have m0 := (below_cell x'.bel (lt_of_cellS p0)).trans p0
            have m1 := (below_cell x'.bel (lt_of_cellS p1)).trans p1
            have m2 := (below_cell x'.bel (lt_of_cellS p2)).trans p2
            generalize x'.world = W4 at HF4 m0 m1 m2 ⊢
            clear x'
            clear q0 q1 q2 p0 p1 p2 s0 s1 r0 r1
            go_wp2_with (at_builtin; refine wpList_append_own _ rfl (.tmp 57) (.tmp 62) 45 rfl _ 50 i0 (.agg #[.int .i64 0, .int .i64 0, .int .u64 0]) 3 24 Try.underlying45 hi hz0 hz1 hz2 rfl (by decide) _ _ _ rfl (World.ownsRow.alloc (show W4.ownsRow w8.heap.size 50 3 u7 d.length (eCells d) from HF4.out.own) _) ⟨W4.heap.size, 0, none⟩ 1 1 [.int .i64 x.1, .int .i64 x.2.1, .int .u64 x.2.2] rfl rfl (three_at W4 _ _ _ _) (by simp [Value.oneCell']) (by unfold maxLen; have := HDL.out; omega) (by have := HDL.out; omega) (by have := HF4.out.bel.size; simp; omega) ?_; intro v5 w5 hownB hgrowB hqB; have HR5 := hide (HF4.out.came hownB hgrowB); clear hownB hgrowB hqB)
            go_roundw
            case rel => exact ⟨i + 1, by omega, by simp, by rw [HEQ.out]; exact HR5.out⟩
            case measure => simp [RowKit.intOf]; omega
        · have e1 : (x.1 != y.1) = true := by simp [h1]
          have e3 : (x.1 == y.1) = false := by simp [h1]
          have HEQ : Hid (cpt (L.take (i + 1)) = d ++ [x]) := by
            have := HCT.out
            rw [if_neg (fun h => h1 ((alk_iff _ _).1 h).1)] at this
            exact this
          go_wp2_with fail
          refine wp_region_gw (by kernel_rfl) (by kernel_rfl) ?_
          repeat (go_big_quiet_step (first
            | rfl))
          refine wpQuiet_nil ?_
          intro _ hw'
          obtain ⟨x', hw''⟩ := hw'
          subst hw''
          have HF4 : Hid (FW w8 x'.world u7 d) := ⟨below_on HFR.out.bel x'.bel, HFR.out.own.below x'.bel⟩
          have m0 := (below_cell x'.bel (lt_of_cellS p0)).trans p0
          have m1 := (below_cell x'.bel (lt_of_cellS p1)).trans p1
          have m2 := (below_cell x'.bel (lt_of_cellS p2)).trans p2
          generalize x'.world = W4 at HF4 m0 m1 m2 ⊢
          clear x'
          clear q0 q1 q2 p0 p1 p2 s0 s1 r0 r1
          go_wp2_with (at_builtin; refine wpList_append_own _ rfl (.tmp 57) (.tmp 62) 45 rfl _ 50 i0 (.agg #[.int .i64 0, .int .i64 0, .int .u64 0]) 3 24 Try.underlying45 hi hz0 hz1 hz2 rfl (by decide) _ _ _ rfl (World.ownsRow.alloc (show W4.ownsRow w8.heap.size 50 3 u7 d.length (eCells d) from HF4.out.own) _) ⟨W4.heap.size, 0, none⟩ 1 1 [.int .i64 x.1, .int .i64 x.2.1, .int .u64 x.2.2] rfl rfl (three_at W4 _ _ _ _) (by simp [Value.oneCell']) (by unfold maxLen; have := HDL.out; omega) (by have := HDL.out; omega) (by have := HF4.out.bel.size; simp; omega) ?_; intro v5 w5 hownB hgrowB hqB; have HR5 := hide (HF4.out.came hownB hgrowB); clear hownB hgrowB hqB)
          go_roundw
          case rel => exact ⟨i + 1, by omega, by simp, by rw [HEQ.out]; exact HR5.out⟩
          case measure => simp [RowKit.intOf]; omega
    · have him2 : i = m := by omega
      have HFE : Hid (FW w8 wr u7 (cpt L)) := by
        have := HFR.out
        rw [him2, HM.out, List.take_length] at this
        exact this
      obtain ⟨ao8, c8, rfl, hc9, _⟩ := EAt.shp HFE.out.own.eat'
      have HLA := hide (laidO_any n ao8 c8 (cpt L) wr hc9 HFE.out.own.eat' HTK.out)
      unfold LaidPost at HLA
      have HMR := hide (HM8.out.below HFE.out.bel)
      have g0 := cell_of HMR.out.bg (i := 0) rfl
      clear hc9 HFE HFR
      go_wp2_with fail
      refine HLA.out.mono ?_
      rintro e7 w7 ⟨va7, vb7, vc7, st7, tl7, wt7, nx7, rfl, hgi7, hs7, hly7, hb7, ⟨g1, n1, k1, rfl, hn1⟩, ⟨g2, n2, k2, rfl, hn2⟩, ⟨g3, n3, k3, rfl, hn3⟩⟩
      have HM7 := hide (HMR.out.below hb7)
      have HG7 := hide hgi7; have HS7 := hide hs7; have HY7 := hide hly7; have HN1 := hide hn1; have HN2 := hide hn2; have HN3 := hide hn3
      have q0 := cell_of HM7.out.rs (i := 0) rfl; have q1 := cell_of HM7.out.rs (i := 1) rfl; have q2 := cell_of HM7.out.rs (i := 2) rfl; have q3 := cell_of HM7.out.rs (i := 3) rfl
      have z0 := free_of HM7.out.rs 0; have z1 := free_of HM7.out.rs 1; have z2 := free_of HM7.out.rs 2; have z3 := free_of HM7.out.rs 3
      have hput := hide (HM7.out.put (.int .i64 n) (.slice (some ⟨g1, 0, none⟩) n1 k1) (.slice (some ⟨g2, 0, none⟩) n2 k2) (.slice (some ⟨g3, 0, none⟩) n3 k3))
      clear hgi7 hs7 hly7 hb7 hn1 hn2 hn3
      unfold gAgg
      go_wp2_with fail
      have hlt : w.heap.size + 1 < wr.heap.size := lt_of_heap HMR.out.rs
      exact bodyPost_ret (results_cell2 Try.results81 _ _ (w.heap.size + 1) 25 _ (0, 0) _ rfl hput.out.1 Try.underlying25 rfl (by kernel_rfl) (.int .i64 0) rfl) rfl ⟨_, _, _, _, _, _, _, rfl, gis_put (Nat.lt_of_lt_of_le hlt HN1.out) (Nat.lt_of_lt_of_le hlt HN2.out) (Nat.lt_of_lt_of_le hlt HN3.out) HG7.out _ _ _ _, HS7.out, HY7.out, hput.out.2.1⟩
theorem own_shp {w : World} {B : Nat} {cv : Value} {n : Nat} {st tl wt : List Int} (h : w.ownsRow B 50 3 cv tl.length (eCells (gEdges n st tl wt tl.length))) : ∃ ao c, cv = .slice ao tl.length c := by
  have ho : EOwn w B cv (gEdges n st tl wt tl.length) := by unfold EOwn; rw [gEdges_length]; exact h
  obtain ⟨ao, c, e, _⟩ := EAt.shp ho.eat'
  rw [gEdges_length] at e
  exact ⟨ao, c, e⟩
def EdgesR (w : World) (n : Nat) (st tl wt : List Int) (e : Ending) (w' : World) : Prop :=
  ∃ cv, e = .returned (.tuple #[.agg #[.int .i64 n, cv], .int .i64 0]) ∧ EAt w' cv (gEdges n st tl wt tl.length) ∧ Below w.heap.size w w'
set_option maxRecDepth 100000 in
set_option maxHeartbeats 4000000 in
theorem edgesR_good (n : Nat) (va vb vc : Value) (st tl wt : List Int) (w : World) (hg : GIs w n va vb vc st tl wt) (hgd : Good n st tl wt) :
    Calls Try.prog 78 #[gAgg n va vb vc] w (EdgesR w n st tl wt) := by
  have hml := hgd.m_le
  have hn := hgd.n_le
  have hchk := good_chk' hgd
  obtain ⟨⟨r1, r2⟩, hrr⟩ : ∃ r, chk n st tl wt = r := ⟨_, rfl⟩
  rw [hrr] at hchk
  simp only at hchk
  subst hchk
  have hck := (fun W h => refCheck_all n va vb vc st tl wt W h (by have := hgd.s_len; omega) (by omega) (by have := hgd.w_len; omega))
  unfold ChkPost at hck
  rw [hrr] at hck
  have HCK := hide hck
  have HLI := hide (fun W h => edges_any n va vb vc st tl wt W h hgd)
  have HK1 := hide (ME.start w n va vb vc)
  have HG := hide hg
  have c0 := cell_of HK1.out.bg (i := 0) rfl
  have c1 := cell_of HK1.out.bg (i := 1) rfl
  have c2 := cell_of HK1.out.bg (i := 2) rfl
  have c3 := cell_of HK1.out.bg (i := 3) rfl
  unfold gAgg at HCK HLI ⊢
  clear hg hgd hck hrr
  go_enter Try.func78, Try.ntmps78
  go_upto_region 1 with fail
  generalize ((w.alloc (.cells #[.int .i64 n, va, vb, vc] 25)).alloc (.cells #[.int .i64 0, .slice none 0 0] 47)) = w1 at c0 c1 c2 c3 HK1 ⊢
  go_wp2_with fail
  refine (HCK.out w1 (HG.out.below HK1.out.bel)).mono ?_
  rintro e w2 ⟨rfl, hb2⟩
  have HK2 := hide (HK1.out.below hb2)
  have HLL := hide (HLI.out w2.drew (HG.out.below HK2.out.drew.bel))
  have d0 := cell_of HK2.out.bg (i := 0) rfl
  have d1 := cell_of HK2.out.bg (i := 1) rfl
  have d2 := cell_of HK2.out.bg (i := 2) rfl
  have d3 := cell_of HK2.out.bg (i := 3) rfl
  clear c0 c1 c2 c3 HK1 hb2 HCK HLI HG
  go_wp2_with fail
  go_region_with (go_at_call 97; refine HLL.out.mono ?_; rintro e9 w3 ⟨cv, rfl, hE, hb3⟩; obtain ⟨ao, c, rfl⟩ := own_shp hE; have HK3 := hide (HK2.out.drew.below hb3); have HE := hide hE; have b0 := cell_of HK3.out.bg (i := 0) rfl; have b1 := cell_of HK3.out.rs (i := 0) rfl; have b2 := cell_of HK3.out.rs (i := 1) rfl; have b3 := free_of HK3.out.rs 0; have b4 := free_of HK3.out.rs 1; clear hE hb3)
  all_goals
    go_wp2
    have hRs : w.heap.size + 1 < w2.drew.heap.size := lt_of_heap HK2.out.rs
    have HPU := HK3.out.put (.int .i64 n) (.slice ao tl.length c)
    have hE3 : EOwn ((w3.setCell ⟨w.heap.size + 1, 0, none⟩ (.int .i64 n)).setCell ⟨w.heap.size + 1, 1, none⟩ (.slice ao tl.length c)) (w2.drew.heap.size + 1) (.slice ao tl.length c) (gEdges n st tl wt tl.length) := by
      have ho : EOwn w3 (w2.drew.heap.size + 1) (.slice ao tl.length c) (gEdges n st tl wt tl.length) := by unfold EOwn; rw [gEdges_length]; exact HE.out
      refine ownA_stay ho (fun g hg => ?_)
      have := (World.ownsRow.lt ho g hg).1
      rw [Below.heap_setCell _ _ _ _ (by show g ≠ w.heap.size + 1; omega), Below.heap_setCell _ _ _ _ (by show g ≠ w.heap.size + 1; omega)]
    exact bodyPost_ret (results_cell2 Try.results78 _ _ (w.heap.size + 1) 47 _ (0, 0) _ rfl HPU.1 Try.underlying47 rfl (by kernel_rfl) (.int .i64 0) rfl) rfl ⟨_, rfl, hE3.eat', HPU.2.1⟩
end Go.Proofs.Ytmagigmcbegmiaa
