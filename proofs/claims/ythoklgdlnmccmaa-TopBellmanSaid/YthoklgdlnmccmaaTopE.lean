/- TopBellman: the walk. -/
import Derived.Test.YthoklgdlnmccmaaTopX
import Derived.Test.YthoklgdlnmccmaaWaysW
import Derived.BigRegion
import Derived.BigQuiet
namespace Go.Proofs.Ythoklgdlnmccmaa
open Go.RowKit Go.Lib
set_option linter.unusedVariables false
def BldPost (N : Int) (w : World) (e : Ending) (w' : World) : Prop :=
  (∃ f p : Int, e = .returned (.tuple #[zeroG, .int .i64 f, .int .i64 p]) ∧ f ≠ 0 ∧ Below w.heap.size w w') ∨
  (∃ (n : Nat) (va vb vc : Value) (st tl wt : List Int), N = n ∧ e = .returned (.tuple #[gAgg n va vb vc, .int .i64 0, .int .i64 0]) ∧ GIs w' n va vb vc st tl wt ∧ Good n st tl wt ∧ (∀ e, 0 ≤ at_ wt e ∧ at_ wt e ≤ 18446744073709551615) ∧ Below w.heap.size w w')
set_option maxRecDepth 100000 in
theorem build_size (N : Int) (ao : Option Addr) (m c : Nat) (w : World) (hN : N < 0 ∨ 1048576 < N) :
    Calls Try.prog 36 #[.agg #[.int .i64 N, .slice ao m c]] w fun e w' => e = .returned (.tuple #[zeroG, .int .i64 22, .int .i64 (-1)]) ∧ Below w.heap.size w w' := by
  obtain ⟨w1, hw1⟩ : ∃ w1, w1 = (w.alloc (.cells #[.int .i64 N, .slice ao m c] 64)).alloc (.cells #[.int .i64 0, .slice none 0 0, .slice none 0 0, .slice none 0 0] 32) := ⟨_, rfl⟩
  have hs : (w.alloc (.cells #[.int .i64 N, .slice ao m c] 64)).heap.size = w.heap.size + 1 := by simp
  have HB : Hid (Below w.heap.size w w1) := by rw [hw1]; exact below_alloc (below_alloc (Below.refl _ _) _) _
  have hbox : w1.heap[w.heap.size]? = some (.cells #[.int .i64 N, .slice ao m c] 64 (0, 0)) := by
    rw [hw1, heap_alloc_old _ _ (by rw [hs]; omega)]; exact heap_new _ _
  have hres : w1.heap[w.heap.size + 1]? = some (.cells #[.int .i64 0, .slice none 0 0, .slice none 0 0, .slice none 0 0] 32 (0, 0)) := by
    have := heap_new (w.alloc (.cells #[.int .i64 N, .slice ao m c] 64)) (.cells #[.int .i64 0, .slice none 0 0, .slice none 0 0, .slice none 0 0] 32)
    rw [hs] at this; rw [hw1]; exact this
  have HR := hide hres
  have b0 := cell_of hbox (i := 0) rfl
  have b1 := cell_of hbox (i := 1) rfl
  have r0 := cell_of hres (i := 0) rfl
  have r1 := cell_of hres (i := 1) rfl
  have r2 := cell_of hres (i := 2) rfl
  have r3 := cell_of hres (i := 3) rfl
  have q0 := free_of hres 0
  have q1 := free_of hres 1
  have q2 := free_of hres 2
  have q3 := free_of hres 3
  clear hs hbox hres
  rw [hw1] at b0 b1 r0 r1 r2 r3 q0 q1 q2 q3
  rcases hN with hN | hN
  · have hd : decide (N < 0) = true := decide_eq_true hN
    go_enter Try.func36, Try.ntmps36
    go_wp2_with fail
    rw [← hw1]
    exact bodyPost_ret (results_cell3 Try.results36 _ _ (w.heap.size + 1) 32 _ (0, 0) _ rfl HR.out Try.underlying32 rfl (by kernel_rfl) (.int .i64 22) (.int .i64 (-1)) rfl rfl) rfl ⟨rfl, HB.out⟩
  · have hd : decide (N < 0) = false := decide_eq_false (by omega)
    have hd2 : decide (N > 1048576) = true := decide_eq_true hN
    go_enter Try.func36, Try.ntmps36
    go_wp2_with fail
    rw [← hw1]
    exact bodyPost_ret (results_cell3 Try.results36 _ _ (w.heap.size + 1) 32 _ (0, 0) _ rfl HR.out Try.underlying32 rfl (by kernel_rfl) (.int .i64 22) (.int .i64 (-1)) rfl rfl) rfl ⟨rfl, HB.out⟩
theorem build_law (N : Int) (ev : Value) (l : List Ed3) (w : World) (hr : EAt w ev l) (hlu : ∀ i, i < l.length → 0 ≤ (eAt l i).2.2) :
    Calls Try.prog 36 #[.agg #[.int .i64 N, ev]] w (BldPost N w) := by
  obtain ⟨ao, c, rfl, hc, hcm, h3⟩ := id hr
  by_cases hN : N < 0 ∨ 1048576 < N
  · exact (build_size N ao l.length c w hN).mono fun e w' h => .inl ⟨22, -1, h.1, by decide, h.2⟩
  · obtain ⟨n, rfl⟩ := Int.eq_ofNat_of_zero_le (show 0 ≤ N by omega)
    refine (buildO_any n ao c l w hc (by omega) hr hlu hcm).mono ?_
    rintro e w' (⟨f, p, rfl, h1, h2⟩ | ⟨hT, va, vb, vc, st, tl, wt, nx, rfl, hg, hs, hy, hb⟩)
    · exact .inl ⟨f, p, rfl, h1, h2⟩
    · have hF : ∀ i, i < l.length → eFrom l i < n := fun i hi => by have := hT.efr i hi; unfold eFrom; omega
      have hgd := hy.good hs hF hT.n_le hT.m_le
      refine .inr ⟨n, va, vb, vc, st, tl, wt, rfl, rfl, hg, hgd, fun e => ?_, hb⟩
      by_cases he : e < l.length
      · have := hy.win e he
        have h2 := (hgd.vtx e (by rw [hy.tlen]; exact he)).2.2
        omega
      · have : at_ wt e = 0 := by
          unfold at_
          rw [List.getElem?_eq_none (by rw [hy.wlen]; omega)]
          rfl
        rw [this]; decide
/-- What the law keeps in memory: the graph in its box, the starts, the way. -/
structure BlM (w x : World) (B n : Nat) (va vb vc sv wv : Value) (st tl wt : List Int) (S : List Pr) (way : List Int) : Prop where
  box : x.heap[B]? = some (.cells #[.int .i64 n, va, vb, vc] 32 (0, 0))
  g : GIs x n va vb vc st tl wt
  s : SAt x sv S
  r : RowAt .i64 x wv way
  bel : Below w.heap.size w x
theorem BlM.below {w x x' : World} {B n : Nat} {va vb vc sv wv : Value} {st tl wt : List Int} {S : List Pr} {way : List Int} (h : BlM w x B n va vb vc sv wv st tl wt S way) (hb : Below x.heap.size x x') : BlM w x' B n va vb vc sv wv st tl wt S way :=
  ⟨(hb.block _ (lt_of_heap h.box)).trans h.box, h.g.below hb, h.s.below hb, h.r.below hb, below_on h.bel hb⟩
/-- Search and Rounds of the program, and the document's Search. -/
theorem three_good (n : Nat) (st tl wt : List Int) (k : Int) (S : List Pr) (h0 : srchNo n st tl wt k S = 0) (hg : Good n st tl wt) (hwb : ∀ e, 0 ≤ at_ wt e ∧ at_ wt e ≤ 18446744073709551615) (hSb : ∀ j, j < S.length → 0 ≤ (sAt S j).2 ∧ (sAt S j).2 ≤ 18446744073709551615) (hS : S.length * 16 ≤ 140737488353280) :
    ∃ F j, Found n st tl wt k S F ∧ j ≤ n ∧ (∀ a b c sv W, GIs W n a b c st tl wt → SAt W sv S → Calls Try.prog 33 #[gAgg n a b c, .int .i64 k, sv] W (SAns F 0 W)) ∧ (∀ a b c sv W, GIs W n a b c st tl wt → SAt W sv S → Calls Try.prog 41 #[gAgg n a b c, .int .i64 k, sv] W (RAns F ((j + 1 : Nat) : Int) 0 W)) ∧ (∀ a b c sv W, GIs W n a b c st tl wt → SAt W sv S → Calls Try.prog 39 #[gAgg n a b c, .int .i64 k, sv] W (SAns F 0 W)) := by
  obtain ⟨F, j, hF, hj, h1, h2⟩ := four_good n st tl wt k S h0 hg hwb hSb hS
  refine ⟨F, j, hF, hj, h1, h2, fun a b c sv W hG hs => ?_⟩
  have hn := hg.n_le
  have hm := hg.m_le
  refine (refSearch_good n a b c st tl wt k sv S W hG h0 (by have := hg.s_len; omega) (by omega) (by have := hg.w_len; omega) hwb hs (fun j hj => (hSb j hj).1) hS).mono ?_
  rintro e w' ⟨G, M, rfl, _, hA, hM, hb⟩
  obtain rfl := hM.only hF hwb hSb
  exact ⟨_, _, _, rfl, hA.row hM.len (by omega), hb⟩
theorem along_any (n : Nat) (va vb vc : Value) (st tl wt : List Int) (k : Int) (sv : Value) (S : List Pr) (wv : Value) (way : List Int) (w : World) (hg : GIs w n va vb vc st tl wt) (hgd : Good n st tl wt) (hwb : ∀ e, 0 ≤ at_ wt e ∧ at_ wt e ≤ 18446744073709551615)
    (hs : SAt w sv S) (hok : Sok n S) (hw : RowAt .i64 w wv way) (hwl : way.length * 8 ≤ 140737488351232) (hwi : ∀ i, -9223372036854775808 ≤ at_ way i ∧ at_ way i ≤ 9223372036854775807) :
    Calls Try.prog 56 #[gAgg n va vb vc, .agg (planC k sv), wv] w (AlW n st tl wt k S w) := by
  rcases Nat.eq_zero_or_pos S.length with h | h
  · obtain rfl : S = [] := List.eq_nil_of_length_eq_zero h
    obtain ⟨so, sc, rfl, _, _⟩ := hs.shape
    exact along_none n va vb vc st tl wt k so sc wv w
  · exact along_some n va vb vc st tl wt k sv S wv way w hg hgd hwb hs hok h hw hwl hwi
set_option maxRecDepth 100000 in
set_option maxHeartbeats 40000000 in
theorem bell_law (N : Int) (ev : Value) (l : List Ed3) (k : Int) (sv : Value) (S : List Pr) (wv : Value) (way : List Int) (w : World) (hr : EAt w ev l) (hlu : ∀ i, i < l.length → 0 ≤ (eAt l i).2.2)
    (hs : SAt w sv S) (hSb : ∀ j, j < S.length → 0 ≤ (sAt S j).2 ∧ (sAt S j).2 ≤ 18446744073709551615) (hS : S.length * 16 ≤ 140737488353280) (hw : RowAt .i64 w wv way) (hwl : way.length * 8 ≤ 140737488351232) (hwi : ∀ i, -9223372036854775808 ≤ at_ way i ∧ at_ way i ≤ 9223372036854775807) :
    Calls Try.prog 14 #[.agg #[.int .i64 N, ev], .int .i64 k, sv, wv] w fun e w' => e = .returned (.bool true) ∧ Below w.heap.size w w' := by
  obtain ⟨eo, ec, rfl, _, _, _⟩ := id hr
  obtain ⟨so, sc, rfl, hsc, hscm⟩ := hs.shape
  obtain ⟨wo, wc, rfl⟩ := hw.shape
  obtain ⟨w1, hw1⟩ : ∃ w1, w1 = w.alloc (.cells #[.int .i64 N, .slice eo l.length ec] 64) := ⟨_, rfl⟩
  have b1 : Below w.heap.size w w1 := by rw [hw1]; exact below_alloc (Below.refl _ _) _
  have hbox : w1.heap[w.heap.size]? = some (.cells #[.int .i64 N, .slice eo l.length ec] 64 (0, 0)) := by rw [hw1]; exact heap_new _ _
  have c0 := cell_of hbox (i := 0) rfl
  have c1 := cell_of hbox (i := 1) rfl
  rw [hw1] at c0 c1
  have HBD := hide (build_law N _ l w1 (hr.below b1) hlu)
  have HS1 := hide (hs.below b1)
  have HW1 := hide (hw.below b1)
  have HB1 := hide b1
  clear b1 hbox hr hlu hs hw
  go_enter Try.func14, Try.ntmps14
  go_wp2_with fail
  rw [← hw1]
  clear hw1 c0 c1
  refine HBD.out.mono ?_
  rintro e w2 (⟨f, p, rfl, hf, hb2⟩ | ⟨n, va, vb, vc, st, tl, wt, hNn, rfl, hg, hgd, hwb, hb2⟩)
  · have HB2 := hide (below_on HB1.out hb2)
    have hfb : (f != 0) = true := by simp [hf]
    have HB3 := hide (below_alloc HB2.out (.cells #[.int .i64 0, .slice none 0 0, .slice none 0 0, .slice none 0 0] 32))
    unfold zeroG
    clear HS1 HW1 HB1 hb2 HBD
    go_wp2_with fail
    refine (straight_any _).mono ?_
    rintro e w4 ⟨rfl, hb4⟩
    have HB4 := hide (below_on HB3.out hb4)
    go_wp2
    go_ret
    exact ⟨rfl, HB4.out⟩
  · subst hNn
    obtain ⟨ao, ca, rfl⟩ := hg.s.shape
    obtain ⟨bo, cb, rfl⟩ := hg.t.shape
    obtain ⟨co, cc, rfl⟩ := hg.u.shape
    have hn := hgd.n_le
    have hm := hgd.m_le
    have hst8 : st.length * 8 ≤ 140737488351232 := by have := hgd.s_len; omega
    have hto8 : tl.length * 8 ≤ 140737488351232 := by omega
    have hwt8 : wt.length * 8 ≤ 140737488351232 := by have := hgd.w_len; omega
    obtain ⟨w3, hw3⟩ : ∃ w3, w3 = w2.alloc (.cells #[.int .i64 n, .slice ao st.length ca, .slice bo tl.length cb, .slice co wt.length cc] 32) := ⟨_, rfl⟩
    have b3 : Below w2.heap.size w2 w3 := by rw [hw3]; exact below_alloc (Below.refl _ _) _
    have hbx : w3.heap[w2.heap.size]? = some (.cells #[.int .i64 n, .slice ao st.length ca, .slice bo tl.length cb, .slice co wt.length cc] 32 (0, 0)) := by rw [hw3]; exact heap_new _ _
    have HM3 : Hid (BlM w w3 w2.heap.size n (.slice ao st.length ca) (.slice bo tl.length cb) (.slice co wt.length cc) (.slice so S.length sc) (.slice wo way.length wc) st tl wt S way) :=
      ⟨hbx, hg.below b3, (HS1.out.below hb2).below b3, (HW1.out.below hb2).below b3, below_on (below_on HB1.out hb2) b3⟩
    have x0 := cell_of hbx (i := 0) rfl
    have x1 := cell_of hbx (i := 1) rfl
    have x2 := cell_of hbx (i := 2) rfl
    have x3 := cell_of hbx (i := 3) rfl
    have HCP := hide (fun W h => copy_any n (.slice ao st.length ca) (.slice bo tl.length cb) (.slice co wt.length cc) st tl wt W h hst8 hto8 hwt8)
    have HCS := hide (fun W h => copyStarts_any (.slice so S.length sc) S W h hS)
    clear b3 hbx HS1 HW1 HB1 hb2 HBD
    rw [hw3] at x0 x1 x2 x3
    by_cases h0 : srchNo n st tl wt k S = 0
    · obtain ⟨F, j, hF, hjn, hcS, hcR, hcQ⟩ := three_good n st tl wt k S h0 hgd hwb hSb hS
      have hok : Sok n S := by
        obtain ⟨m0, hm0, _, hsn⟩ := srch_good h0
        obtain rfl : n = m0 := by omega
        exact sok_of hsn (fun j hj => (hSb j hj).1)
      obtain ⟨hck, hfs⟩ := chk_of h0
      have HFL := hide hF.len
      have HSE := hide hcS
      have HRO := hide hcR
      have HQS := hide hcQ
      have HCT := hide (fun a b c sv lv W hG hs hl => tree_good n a b c st tl wt k sv S lv F W hG h0 hwb hs hSb hS hl hF)
      have HPT := hide (fun a b c bv by_ v W h1 h2 h3 h4 => path_good n a b c st tl wt bv by_ v W h1 hgd hck h2 h3 h4)
      have HAL := hide (fun W (h : BlM w W w2.heap.size n (.slice ao st.length ca) (.slice bo tl.length cb) (.slice co wt.length cc) (.slice so S.length sc) (.slice wo way.length wc) st tl wt S way) => along_any n _ _ _ st tl wt k _ S _ way W h.g hgd hwb h.s hok h.r hwl hwi)
      have HLE : Hid (∀ u x, Came n st tl wt k S u x → at_ F u ≤ x) := fun u x h => (hF.le hwb hSb h).1
      have HWAY := hide (fun D Y (h : Whole n st tl wt k S F D Y) v hv => way_ok hgd hwb hSb hF h (v := v) hv)
      have HRE := hide (fun pv pw t r jj lb W (h : BlM w W w2.heap.size n (.slice ao st.length ca) (.slice bo tl.length cb) (.slice co wt.length cc) (.slice so S.length sc) (.slice wo way.length wc) st tl wt S way) h1 h2 h3 h4 h5 h6 h7 h8 => reaches_any n _ _ _ st tl wt k _ S pv pw t r jj lb W h.g hgd hwb h.s hSb hS h1 h2 hfs h3 h4 h5 h6 h7 h8)
      have HFD := hide hF
      have HGD := hide hgd
      unfold gAgg at HCP HSE HRO HQS HCT HPT HAL HRE ⊢
      clear hg hwb hcS hcR hcQ hF hgd h0 hck hfs hok hSb hwi
      go_wp2_with fail
      rw [← hw3]
      clear hw3 x0 x1 x2 x3
      refine (HQS.out _ _ _ _ w3 HM3.out.g HM3.out.s).mono ?_
      rintro e w4 ⟨o4, n4, q4, rfl, hr4, hb4⟩
      have HM4 := hide (HM3.out.below hb4)
      have x0 := cell_of HM4.out.box (i := 0) rfl
      have x1 := cell_of HM4.out.box (i := 1) rfl
      have x2 := cell_of HM4.out.box (i := 2) rfl
      have x3 := cell_of HM4.out.box (i := 3) rfl
      obtain ⟨ao, ac, he4⟩ := hr4.shape
      simp only [Value.slice.injEq] at he4
      obtain ⟨rfl, rfl, rfl⟩ := he4
      rw [HFL.out] at hr4 ⊢
      have HA4 := hide hr4
      clear hb4 HM3 HQS hr4
      go_wp2_with fail
      refine (HCP.out w4 HM4.out.g).mono ?_
      rintro e w5 ⟨ga5, gb5, gc5, rfl, hg5, hb5⟩
      have HM5 := hide (HM4.out.below hb5)
      have HG5 := hide hg5
      have HA5 := hide (HA4.out.below hb5)
      clear hg5 hb5 HM4 x0 x1 x2 x3 HA4
      go_wp2_with fail
      refine (HCS.out w5 HM5.out.s).mono ?_
      rintro e w6 ⟨vs6, rfl, hs6, hb6⟩
      have HM6 := hide (HM5.out.below hb6)
      have HG6 := hide (HG5.out.below hb6)
      have HV6 := hide hs6
      have HA6 := hide (HA5.out.below hb6)
      clear hs6 hb6 HM5 HG5 HA5
      go_wp2_with fail
      refine (HSE.out _ _ _ _ w6 HG6.out HV6.out).mono ?_
      rintro e w7 ⟨o7, n7, q7, rfl, hr7, hb7⟩
      have HM7 := hide (HM6.out.below hb7)
      have HA7 := hide (HA6.out.below hb7)
      have x0 := cell_of HM7.out.box (i := 0) rfl
      have x1 := cell_of HM7.out.box (i := 1) rfl
      have x2 := cell_of HM7.out.box (i := 2) rfl
      have x3 := cell_of HM7.out.box (i := 3) rfl
      obtain ⟨lo, lc, he7⟩ := hr7.shape
      simp only [Value.slice.injEq] at he7
      obtain ⟨rfl, rfl, rfl⟩ := he7
      rw [HFL.out] at hr7 ⊢
      have HL7 := hide hr7
      clear hb7 HM6 HG6 HV6 HA6 HSE hr7
      go_wp2_with fail
      refine (HCP.out w7 HM7.out.g).mono ?_
      rintro e w8 ⟨ga8, gb8, gc8, rfl, hg8, hb8⟩
      have HM8 := hide (HM7.out.below hb8)
      have HG8 := hide hg8
      have HA8 := hide (HA7.out.below hb8)
      have HL8 := hide (HL7.out.below hb8)
      clear hg8 hb8 HM7 x0 x1 x2 x3 HA7 HL7
      go_wp2_with fail
      refine (HCS.out w8 HM8.out.s).mono ?_
      rintro e w9 ⟨vs9, rfl, hs9, hb9⟩
      have HM9 := hide (HM8.out.below hb9)
      have HG9 := hide (HG8.out.below hb9)
      have HV9 := hide hs9
      have HA9 := hide (HA8.out.below hb9)
      have HL9 := hide (HL8.out.below hb9)
      clear hs9 hb9 HM8 HG8 HA8 HL8
      go_wp2_with fail
      refine (HRO.out _ _ _ _ w9 HG9.out HV9.out).mono ?_
      rintro e w10 ⟨o10, n10, q10, rfl, hr10, hb10⟩
      have HM10 := hide (HM9.out.below hb10)
      have HA10 := hide (HA9.out.below hb10)
      have HL10 := hide (HL9.out.below hb10)
      obtain ⟨ro, rc, he10⟩ := hr10.shape
      simp only [Value.slice.injEq] at he10
      obtain ⟨rfl, rfl, rfl⟩ := he10
      rw [HFL.out] at hr10 ⊢
      have HR10 := hide hr10
      clear hb10 HM9 HG9 HV9 HA9 HL9 HRO hr10
      have hj1 : ((j + 1 : Nat) : Int) = (j : Int) + 1 := by omega
      rw [hj1]
      clear hj1
      have d1 : decide ((j : Int) + 1 < 1) = false := by simp; omega
      have d2 : decide ((j : Int) + 1 > (n : Int) + 1) = false := by simp; omega
      have d3 : decide ((n : Int) + 1 < (j : Int) + 1) = false := by simp; omega
      go_wp2_with fail
      refine (tWords_any _ _ F w10 HL10.out HR10.out).mono ?_
      rintro e w11 ⟨rfl, hb11⟩
      have HM11 := hide (HM10.out.below hb11)
      have HA11 := hide (HA10.out.below hb11)
      have HL11 := hide (HL10.out.below hb11)
      clear hb11 HM10 HA10 HL10 HR10
      go_wp2_with fail
      refine (tWords_any _ _ F w11 HL11.out HA11.out).mono ?_
      rintro e w12 ⟨rfl, hb12⟩
      have HM12 := hide (HM11.out.below hb12)
      have HA12 := hide (HA11.out.below hb12)
      have HL12 := hide (HL11.out.below hb12)
      have x0 := cell_of HM12.out.box (i := 0) rfl
      have x1 := cell_of HM12.out.box (i := 1) rfl
      have x2 := cell_of HM12.out.box (i := 2) rfl
      have x3 := cell_of HM12.out.box (i := 3) rfl
      clear hb12 HM11 HA11 HL11
      go_wp2_with fail
      clear d1 d2 d3
      refine (HAL.out w12 HM12.out).mono ?_
      rintro e w13 ⟨v13, x13, rfl, hb13, hal⟩
      have HM13 := hide (HM12.out.below hb13)
      have HA13 := hide (HA12.out.below hb13)
      have HL13 := hide (HL12.out.below hb13)
      clear x0 x1 x2 x3
      have x0 := cell_of HM13.out.box (i := 0) rfl
      have x1 := cell_of HM13.out.box (i := 1) rfl
      have x2 := cell_of HM13.out.box (i := 2) rfl
      have x3 := cell_of HM13.out.box (i := 3) rfl
      clear hb13 HM12 HA12 HL12 HAL
      rcases hal with rfl | ⟨u13, hu13, rfl, hcm⟩
      · skip
        go_wp2_with fail
        refine (HCP.out w13 HM13.out.g).mono ?_
        rintro e w14 ⟨ga14, gb14, gc14, rfl, hg14, hb14⟩
        have HM14 := hide (HM13.out.below hb14)
        have HG14 := hide hg14
        have HA14 := hide (HA13.out.below hb14)
        have HL14 := hide (HL13.out.below hb14)
        clear hg14 hb14 HM13 x0 x1 x2 x3 HA13 HL13
        go_wp2_with fail
        refine (HCS.out w14 HM14.out.s).mono ?_
        rintro e w15 ⟨vs15, rfl, hs15, hb15⟩
        have HM15 := hide (HM14.out.below hb15)
        have HG15 := hide (HG14.out.below hb15)
        have HV15 := hide hs15
        have HA15 := hide (HA14.out.below hb15)
        have HL15 := hide (HL14.out.below hb15)
        clear hs15 hb15 HM14 HG14 HA14 HL14
        go_wp2_with fail
        refine (HCT.out _ _ _ _ _ w15 HG15.out HV15.out HA15.out).mono ?_
        rintro e w16 ⟨GY, GD, Y, D, rfl, hAY, hAD, hWh, hb16⟩
        have HM16 := hide (HM15.out.below hb16)
        have HL16 := hide (HL15.out.below hb16)
        have HYL : Hid (Y.length = n) := by obtain ⟨dd, htd, _⟩ := hWh; exact htd.yl
        have HDL : Hid (D.length = n) := by obtain ⟨dd, htd, _⟩ := hWh; exact htd.dl
        have HWH := hide hWh
        have HAY16 := hide (hAY.row HYL.out (by omega))
        have HAD16 := hide (hAD.row HDL.out (by omega))
        have hnn : ((n : Int) != (n : Int)) = false := by simp
        have x0 := cell_of HM16.out.box (i := 0) rfl
        have x1 := cell_of HM16.out.box (i := 1) rfl
        have x2 := cell_of HM16.out.box (i := 2) rfl
        have x3 := cell_of HM16.out.box (i := 3) rfl
        clear hb16 HM15 HL15 HA15 HG15 HV15 hAY hAD hWh HCT HCS
        go_wp2_with fail
        clear x0 x1 x2 x3
        go_loopg [23] n (fun m t wr => ∃ v : Nat, m = n - v ∧ v ≤ n ∧ t = .int .i64 v ∧ Below w16.heap.size w16 wr)
        case atStart => exact ⟨0, by omega, by omega, rfl, Below.refl _ _⟩
        case round =>
          obtain ⟨v, hgk, hvn, rfl, hB⟩ := hrel
          have HBR := hide hB
          have HGK := hide hgk
          have HMR := hide (HM16.out.below hB)
          have x0 := cell_of HMR.out.box (i := 0) rfl
          have x1 := cell_of HMR.out.box (i := 1) rfl
          have x2 := cell_of HMR.out.box (i := 2) rfl
          have x3 := cell_of HMR.out.box (i := 3) rfl
          clear hgk hB
          by_cases hlt : v < n
          · obtain ⟨m, r, pw, hway⟩ := HWAY.out D Y HWH.out v hlt
            have hvi : (v : Int) < (n : Int) := by omega
            go_wp2_with fail
            refine (HCP.out wr HMR.out.g).mono ?_
            rintro e u1 ⟨a1, b1, c1, rfl, hg1, hu1⟩
            have HM1 := hide (HMR.out.below hu1)
            have HU1 := hide (below_on HBR.out hu1)
            have HPV := hide (HPT.out a1 b1 c1 _ Y v u1 hg1 (HAY16.out.below HU1.out) HYL.out hlt)
            rw [hway.pa] at HPV
            clear hg1 hu1 HMR x0 x1 x2 x3
            go_wp2_with fail
            refine HPV.out.mono ?_
            rintro e u2 ⟨pv, rfl, hpr, hu2⟩
            have HM2 := hide (HM1.out.below hu2)
            have HU2 := hide (below_on HU1.out hu2)
            obtain ⟨po, pc, rfl⟩ := hpr.shape
            have HWLN := hide hway.ln
            have hmn2 := dep_m hway HGD.out HWH.out hlt
            obtain ⟨g1, o1, c1, hs1, hc1, dv⟩ := (HAD16.out.below HU2.out).cellAt v (by rw [HDL.out]; exact hlt)
            simp only [Value.slice.injEq, Option.some.injEq, Addr.mk.injEq, and_true] at hs1
            obtain ⟨⟨rfl, rfl⟩, hs1a, hs1b⟩ := hs1
            rw [hway.dp, Nat.zero_add] at dv
            obtain ⟨g3, o3, c3, hs3, hc3, lv⟩ := (HL16.out.below HU2.out).cellAt v (by rw [HFL.out]; exact hlt)
            rw [HFL.out] at hs3
            simp only [Value.slice.injEq, true_and] at hs3
            obtain ⟨rfl, rfl⟩ := hs3
            have hmm : ((m : Int) != (m : Int)) = false := by simp
            have HRG : Hid (at_ F v ≠ Nev → ∀ x : GW u2, Calls Try.prog 57 #[.agg #[.int .i64 n, .slice ao st.length ca, .slice bo tl.length cb, .slice co wt.length cc], .int .i64 k, .slice so S.length sc, .slice po pw.length pc, .int .i64 v, .int .u64 (at_ F v)] x.world fun e w' => e = .returned (.bool true) ∧ Below x.world.heap.size x.world w') := fun hne x => by
              obtain ⟨jj, hjj, hsj⟩ := hway.st_ hne
              have hv7 : (sAt S jj).1 = (r : Int) := by rw [hsj]
              have hv8 : lenAns n st tl wt k (sAt S jj).2 pw = (at_ F v, 0) := by rw [hsj]; exact hway.le
              exact HRE.out _ pw v r jj (at_ F v) x.world (HM2.out.below x.bel) (hpr.below x.bel) (by rw [HWLN.out]; omega) hway.rn (fun h => hway.r0 (by rw [← HWLN.out]; exact h)) (fun h => hway.r1 (by rw [← HWLN.out]; exact h)) hjj hv7 hv8
            rw [HWLN.out] at HRG ⊢
            obtain ⟨yv, hyv⟩ : ∃ y, y = at_ F v := ⟨_, rfl⟩
            rw [← hyv] at lv HRG
            clear hway hpr hu2 HPV HM1 HU1 hc1 hc3 hs1a hs1b hyv
            by_cases hnv : yv = 18446744073709551615
            · have hnb : (yv != 18446744073709551615) = false := by simp [hnv]
              clear hnv HRG
              go_wp2_with fail
              go_quiet (fail)
              go_wp2_with fail
              go_roundg (n - (v + 1))
              case measure => have := HGK.out; omega
              case rel => exact ⟨v + 1, rfl, by omega, by simp, below_drewN HU2.out _⟩
            · have hnb : (yv != 18446744073709551615) = true := by simp [hnv]
              have HRC := hide (HRG.out (by unfold Nev; exact hnv))
              have s0 : ∀ x : GW u2, x.world.cell? ⟨g3, o3 + v, none⟩ = some (.int .u64 yv) := fun x => (below_cell x.bel (block_of_cell lv)).trans lv
              have s1 : ∀ x : GW u2, x.world.cell? ⟨w2.heap.size, 0, none⟩ = some (.int .i64 n) := fun x => cell_of (HM2.out.below x.bel).box rfl
              have s2 : ∀ x : GW u2, x.world.cell? ⟨w2.heap.size, 1, none⟩ = some (.slice ao st.length ca) := fun x => cell_of (HM2.out.below x.bel).box rfl
              have s3 : ∀ x : GW u2, x.world.cell? ⟨w2.heap.size, 2, none⟩ = some (.slice bo tl.length cb) := fun x => cell_of (HM2.out.below x.bel).box rfl
              have s4 : ∀ x : GW u2, x.world.cell? ⟨w2.heap.size, 3, none⟩ = some (.slice co wt.length cc) := fun x => cell_of (HM2.out.below x.bel).box rfl
              clear hnv HRG
              go_wp2_with fail
              refine wp_region_gw (by kernel_rfl) (by kernel_rfl) ?_
              repeat (go_big_quiet_step (first
                | (go_at_call 57; with_reducible exact gw_of (HRC.out _))
                | rfl))
              refine wpQuiet_nil ?_
              intro _ hw'
              obtain ⟨xg, hw''⟩ := hw'
              subst hw''
              have HBX := hide (below_on HU2.out xg.bel)
              generalize xg.world = wB at HBX ⊢
              clear s0 s1 s2 s3 s4 xg
              go_wp2_with fail
              go_roundg (n - (v + 1))
              case measure => have := HGK.out; omega
              case rel => exact ⟨v + 1, rfl, by omega, by simp, HBX.out⟩
          · obtain rfl : n = v := by omega
            have hvi : ¬ (n : Int) < (n : Int) := by omega
            have HBE := hide (below_on HM16.out.bel HBR.out)
            go_wp2_with fail
            refine (straight_any _).mono ?_
            rintro e u9 ⟨rfl, hb9⟩
            have HB9 := hide (below_on HBE.out hb9)
            go_wp2
            go_ret
            exact ⟨rfl, HB9.out⟩
      · have hle := HLE.out u13 x13 hcm
        obtain ⟨gl, ol, cl, hsl, hcl, dl⟩ := HL13.out.cellAt u13 (by rw [HFL.out]; exact hu13)
        rw [HFL.out] at hsl
        simp only [Value.slice.injEq, true_and] at hsl
        obtain ⟨rfl, rfl⟩ := hsl
        have hui : (u13 : Int) < (n : Int) := by omega
        generalize at_ F u13 = y13 at dl hle
        have hgt : decide (y13 > x13) = false := decide_eq_false (by omega)
        clear hcm hcl hle
        go_wp2_with fail
        clear dl hgt hui
        refine (HCP.out w13 HM13.out.g).mono ?_
        rintro e w14 ⟨ga14, gb14, gc14, rfl, hg14, hb14⟩
        have HM14 := hide (HM13.out.below hb14)
        have HG14 := hide hg14
        have HA14 := hide (HA13.out.below hb14)
        have HL14 := hide (HL13.out.below hb14)
        clear hg14 hb14 HM13 x0 x1 x2 x3 HA13 HL13
        go_wp2_with fail
        refine (HCS.out w14 HM14.out.s).mono ?_
        rintro e w15 ⟨vs15, rfl, hs15, hb15⟩
        have HM15 := hide (HM14.out.below hb15)
        have HG15 := hide (HG14.out.below hb15)
        have HV15 := hide hs15
        have HA15 := hide (HA14.out.below hb15)
        have HL15 := hide (HL14.out.below hb15)
        clear hs15 hb15 HM14 HG14 HA14 HL14
        go_wp2_with fail
        refine (HCT.out _ _ _ _ _ w15 HG15.out HV15.out HA15.out).mono ?_
        rintro e w16 ⟨GY, GD, Y, D, rfl, hAY, hAD, hWh, hb16⟩
        have HM16 := hide (HM15.out.below hb16)
        have HL16 := hide (HL15.out.below hb16)
        have HYL : Hid (Y.length = n) := by obtain ⟨dd, htd, _⟩ := hWh; exact htd.yl
        have HDL : Hid (D.length = n) := by obtain ⟨dd, htd, _⟩ := hWh; exact htd.dl
        have HWH := hide hWh
        have HAY16 := hide (hAY.row HYL.out (by omega))
        have HAD16 := hide (hAD.row HDL.out (by omega))
        have hnn : ((n : Int) != (n : Int)) = false := by simp
        have x0 := cell_of HM16.out.box (i := 0) rfl
        have x1 := cell_of HM16.out.box (i := 1) rfl
        have x2 := cell_of HM16.out.box (i := 2) rfl
        have x3 := cell_of HM16.out.box (i := 3) rfl
        clear hb16 HM15 HL15 HA15 HG15 HV15 hAY hAD hWh HCT HCS
        go_wp2_with fail
        clear x0 x1 x2 x3
        go_loopg [23] n (fun m t wr => ∃ v : Nat, m = n - v ∧ v ≤ n ∧ t = .int .i64 v ∧ Below w16.heap.size w16 wr)
        case atStart => exact ⟨0, by omega, by omega, rfl, Below.refl _ _⟩
        case round =>
          obtain ⟨v, hgk, hvn, rfl, hB⟩ := hrel
          have HBR := hide hB
          have HGK := hide hgk
          have HMR := hide (HM16.out.below hB)
          have x0 := cell_of HMR.out.box (i := 0) rfl
          have x1 := cell_of HMR.out.box (i := 1) rfl
          have x2 := cell_of HMR.out.box (i := 2) rfl
          have x3 := cell_of HMR.out.box (i := 3) rfl
          clear hgk hB
          by_cases hlt : v < n
          · obtain ⟨m, r, pw, hway⟩ := HWAY.out D Y HWH.out v hlt
            have hvi : (v : Int) < (n : Int) := by omega
            go_wp2_with fail
            refine (HCP.out wr HMR.out.g).mono ?_
            rintro e u1 ⟨a1, b1, c1, rfl, hg1, hu1⟩
            have HM1 := hide (HMR.out.below hu1)
            have HU1 := hide (below_on HBR.out hu1)
            have HPV := hide (HPT.out a1 b1 c1 _ Y v u1 hg1 (HAY16.out.below HU1.out) HYL.out hlt)
            rw [hway.pa] at HPV
            clear hg1 hu1 HMR x0 x1 x2 x3
            go_wp2_with fail
            refine HPV.out.mono ?_
            rintro e u2 ⟨pv, rfl, hpr, hu2⟩
            have HM2 := hide (HM1.out.below hu2)
            have HU2 := hide (below_on HU1.out hu2)
            obtain ⟨po, pc, rfl⟩ := hpr.shape
            have HWLN := hide hway.ln
            have hmn2 := dep_m hway HGD.out HWH.out hlt
            obtain ⟨g1, o1, c1, hs1, hc1, dv⟩ := (HAD16.out.below HU2.out).cellAt v (by rw [HDL.out]; exact hlt)
            simp only [Value.slice.injEq, Option.some.injEq, Addr.mk.injEq, and_true] at hs1
            obtain ⟨⟨rfl, rfl⟩, hs1a, hs1b⟩ := hs1
            rw [hway.dp, Nat.zero_add] at dv
            obtain ⟨g3, o3, c3, hs3, hc3, lv⟩ := (HL16.out.below HU2.out).cellAt v (by rw [HFL.out]; exact hlt)
            rw [HFL.out] at hs3
            simp only [Value.slice.injEq, Option.some.injEq, Addr.mk.injEq, and_true, true_and] at hs3
            obtain ⟨⟨rfl, rfl⟩, rfl⟩ := hs3
            have hmm : ((m : Int) != (m : Int)) = false := by simp
            have HRG : Hid (at_ F v ≠ Nev → ∀ x : GW u2, Calls Try.prog 57 #[.agg #[.int .i64 n, .slice ao st.length ca, .slice bo tl.length cb, .slice co wt.length cc], .int .i64 k, .slice so S.length sc, .slice po pw.length pc, .int .i64 v, .int .u64 (at_ F v)] x.world fun e w' => e = .returned (.bool true) ∧ Below x.world.heap.size x.world w') := fun hne x => by
              obtain ⟨jj, hjj, hsj⟩ := hway.st_ hne
              have hv7 : (sAt S jj).1 = (r : Int) := by rw [hsj]
              have hv8 : lenAns n st tl wt k (sAt S jj).2 pw = (at_ F v, 0) := by rw [hsj]; exact hway.le
              exact HRE.out _ pw v r jj (at_ F v) x.world (HM2.out.below x.bel) (hpr.below x.bel) (by rw [HWLN.out]; omega) hway.rn (fun h => hway.r0 (by rw [← HWLN.out]; exact h)) (fun h => hway.r1 (by rw [← HWLN.out]; exact h)) hjj hv7 hv8
            rw [HWLN.out] at HRG ⊢
            obtain ⟨yv, hyv⟩ : ∃ y, y = at_ F v := ⟨_, rfl⟩
            rw [← hyv] at lv HRG
            clear hway hpr hu2 HPV HM1 HU1 hc1 hc3 hs1a hs1b hyv
            by_cases hnv : yv = 18446744073709551615
            · have hnb : (yv != 18446744073709551615) = false := by simp [hnv]
              clear hnv HRG
              go_wp2_with fail
              go_quiet (fail)
              go_wp2_with fail
              go_roundg (n - (v + 1))
              case measure => have := HGK.out; omega
              case rel => exact ⟨v + 1, rfl, by omega, by simp, below_drewN HU2.out _⟩
            · have hnb : (yv != 18446744073709551615) = true := by simp [hnv]
              have HRC := hide (HRG.out (by unfold Nev; exact hnv))
              have s0 : ∀ x : GW u2, x.world.cell? ⟨gl, ol + v, none⟩ = some (.int .u64 yv) := fun x => (below_cell x.bel (block_of_cell lv)).trans lv
              have s1 : ∀ x : GW u2, x.world.cell? ⟨w2.heap.size, 0, none⟩ = some (.int .i64 n) := fun x => cell_of (HM2.out.below x.bel).box rfl
              have s2 : ∀ x : GW u2, x.world.cell? ⟨w2.heap.size, 1, none⟩ = some (.slice ao st.length ca) := fun x => cell_of (HM2.out.below x.bel).box rfl
              have s3 : ∀ x : GW u2, x.world.cell? ⟨w2.heap.size, 2, none⟩ = some (.slice bo tl.length cb) := fun x => cell_of (HM2.out.below x.bel).box rfl
              have s4 : ∀ x : GW u2, x.world.cell? ⟨w2.heap.size, 3, none⟩ = some (.slice co wt.length cc) := fun x => cell_of (HM2.out.below x.bel).box rfl
              clear hnv HRG
              go_wp2_with fail
              refine wp_region_gw (by kernel_rfl) (by kernel_rfl) ?_
              repeat (go_big_quiet_step (first
                | (go_at_call 57; with_reducible exact gw_of (HRC.out _))
                | rfl))
              refine wpQuiet_nil ?_
              intro _ hw'
              obtain ⟨xg, hw''⟩ := hw'
              subst hw''
              have HBX := hide (below_on HU2.out xg.bel)
              generalize xg.world = wB at HBX ⊢
              clear s0 s1 s2 s3 s4 xg
              go_wp2_with fail
              go_roundg (n - (v + 1))
              case measure => have := HGK.out; omega
              case rel => exact ⟨v + 1, rfl, by omega, by simp, HBX.out⟩
          · obtain rfl : n = v := by omega
            have hvi : ¬ (n : Int) < (n : Int) := by omega
            have HBE := hide (below_on HM16.out.bel HBR.out)
            go_wp2_with fail
            refine (straight_any _).mono ?_
            rintro e u9 ⟨rfl, hb9⟩
            have HB9 := hide (below_on HBE.out hb9)
            go_wp2
            go_ret
            exact ⟨rfl, HB9.out⟩
    · have HRS := hide (fun a b c v W hG hs => refSearch_bad n a b c st tl wt k v S W hG h0 (by omega) (by omega) (by omega) hs hS)
      have HSE := hide (fun a b c v W hG hs => rsearch_bad n a b c st tl wt k v S W hG (by omega) (by omega) (by omega) hs h0)
      have HRO := hide (fun a b c v W hG hs => rounds_bad n a b c st tl wt k v S W hG (by omega) (by omega) (by omega) hs h0)
      obtain ⟨x, hx⟩ : ∃ x, x = srchNo n st tl wt k S := ⟨_, rfl⟩
      rw [← hx] at HRS HSE HRO h0
      have hxb : (x != 0) = true := by simp [h0]
      have hxx : (x != x) = false := by simp
      unfold gAgg at HCP HRS HSE HRO ⊢
      clear hx hg hgd hwb
      go_wp2_with fail
      rw [← hw3]
      clear hw3 x0 x1 x2 x3
      refine (HRS.out _ _ _ _ w3 HM3.out.g HM3.out.s).mono ?_
      rintro e w4 ⟨rfl, hb4⟩
      have HM4 := hide (HM3.out.below hb4)
      have x0 := cell_of HM4.out.box (i := 0) rfl
      have x1 := cell_of HM4.out.box (i := 1) rfl
      have x2 := cell_of HM4.out.box (i := 2) rfl
      have x3 := cell_of HM4.out.box (i := 3) rfl
      clear hb4 HM3 HRS
      go_wp2_with fail
      refine (HCP.out w4 HM4.out.g).mono ?_
      rintro e w5 ⟨ga5, gb5, gc5, rfl, hg5, hb5⟩
      have HM5 := hide (HM4.out.below hb5)
      have HG5 := hide hg5
      clear hg5 hb5 HM4 x0 x1 x2 x3 
      go_wp2_with fail
      refine (HCS.out w5 HM5.out.s).mono ?_
      rintro e w6 ⟨vs6, rfl, hs6, hb6⟩
      have HM6 := hide (HM5.out.below hb6)
      have HG6 := hide (HG5.out.below hb6)
      have HV6 := hide hs6
      clear hs6 hb6 HM5 HG5 
      go_wp2_with fail
      refine (HSE.out _ _ _ _ w6 HG6.out HV6.out).mono ?_
      rintro e w7 ⟨rfl, hb7⟩
      have HM7 := hide (HM6.out.below hb7)
      have x0 := cell_of HM7.out.box (i := 0) rfl
      have x1 := cell_of HM7.out.box (i := 1) rfl
      have x2 := cell_of HM7.out.box (i := 2) rfl
      have x3 := cell_of HM7.out.box (i := 3) rfl
      clear hb7 HM6 HG6 HV6 HSE
      go_wp2_with fail
      refine (HCP.out w7 HM7.out.g).mono ?_
      rintro e w8 ⟨ga8, gb8, gc8, rfl, hg8, hb8⟩
      have HM8 := hide (HM7.out.below hb8)
      have HG8 := hide hg8
      clear hg8 hb8 HM7 x0 x1 x2 x3 
      go_wp2_with fail
      refine (HCS.out w8 HM8.out.s).mono ?_
      rintro e w9 ⟨vs9, rfl, hs9, hb9⟩
      have HM9 := hide (HM8.out.below hb9)
      have HG9 := hide (HG8.out.below hb9)
      have HV9 := hide hs9
      clear hs9 hb9 HM8 HG8 
      go_wp2_with fail
      refine (HRO.out _ _ _ _ w9 HG9.out HV9.out).mono ?_
      rintro e w10 ⟨rfl, hb10⟩
      have HB10 := hide (below_on HM9.out.bel hb10)
      clear hb10 HM9 HG9 HV9 HRO
      go_wp2_with fail
      refine (straight_any _).mono ?_
      rintro e w11 ⟨rfl, hb11⟩
      have HB11 := hide (below_on HB10.out hb11)
      go_wp2
      go_ret
      exact ⟨rfl, HB11.out⟩
end Go.Proofs.Ythoklgdlnmccmaa

/- Roads that come in, as they are read. -/
namespace Go.Proofs.Ythoklgdlnmccmaa
open Go.ChangeShapes Go.WideShapes Go.ChangeAt Go.RowKit Go.Deep
set_option linter.unusedVariables false
theorem Try.c61 : Try.prog.cellsOf 61 = 3 := by kernel_rfl
theorem Try.c62 : Try.prog.cellsOf 62 = 1 := by kernel_rfl
theorem Try.c64 : Try.prog.cellsOf 64 = 2 := by kernel_rfl
section
variable {H : Type} {enc : TypeId × Value → H} {w : World} {base : Nat} {held : Bool} {fuel : Nat} {cs : List Value} {y : DataW H × List MemPlace}
set_option maxRecDepth 100000 in
theorem open_edgeC (h : DataW.trod enc Try.prog w base (fun _ => true) held fuel 61 cs = some y) : ∃ p : Ed3, 0 ≤ p.2.2 ∧ cs[0]? = some (.int .i64 p.1) ∧ cs[1]? = some (.int .i64 p.2.1) ∧ cs[2]? = some (.int .u64 p.2.2) := by
  obtain ⟨xs, n, _, _, hlen, hxs, hel⟩ := DataW.trod_struct Try.underlying61 h
  rw [Try.c61] at hlen
  have hx : ∀ i, i < 3 → (xs[i]?).isSome = true := fun i hi => by rw [List.getElem?_eq_getElem (show i < xs.length by rw [hxs]; exact hi)]; rfl
  obtain ⟨k0, h0, _⟩ := one_int Try.underlying3 Try.c3 (hx 0 (by omega)) (hel 0 _ rfl)
  obtain ⟨k1, h1, _⟩ := one_int Try.underlying3 Try.c3 (hx 1 (by omega)) (hel 1 _ rfl)
  obtain ⟨k2, h2, w2⟩ := one_int Try.underlying22 Try.c22 (hx 2 (by omega)) (hel 2 _ rfl)
  obtain ⟨b0, b1⟩ := Go.bounds_u64 w2
  exact ⟨(k0, k1, k2), b0, h0, h1, h2⟩
set_option maxRecDepth 100000 in
theorem open_edges (hf : DataW.trod enc Try.prog w 0 (fun _ => true) held fuel 62 cs = some y) : ∃ (v : Value) (l : List Ed3), cs = [v] ∧ EAt w v l ∧ ∀ j, j < l.length → 0 ≤ (eAt l j).2.2 := by
  rcases open_slice Try.underlying62 hf with ⟨hcs, _⟩ | ⟨a, len, cap, m, n, D, Pl, hcs, _, hl, hm, hmm, hx, hel⟩
  · exact ⟨_, [], hcs, ⟨none, 0, rfl, Nat.le_refl _, Nat.zero_le _, fun k hk => absurd hk (Nat.not_lt_zero _)⟩, fun k hk => absurd hk (Nat.not_lt_zero _)⟩
  · simp only [if_true] at hmm
    subst hmm
    have each : ∀ k, k < len → ∃ o : Ed3, 0 ≤ o.2.2 ∧ ∃ g q, a = ⟨g, q, none⟩ ∧ w.cell? ⟨g, q + k * 3, none⟩ = some (.int .i64 o.1) ∧ w.cell? ⟨g, q + k * 3 + 1, none⟩ = some (.int .i64 o.2.1) ∧ w.cell? ⟨g, q + k * 3 + 2, none⟩ = some (.int .u64 o.2.2) := by
      intro k hk
      have hsp : a.spot = none := by
        obtain ⟨cs', h1, h2⟩ := hel 0 (by omega)
        rw [Try.c61] at h1
        obtain ⟨_, hlen, hc⟩ := World.cells?_some h1
        obtain ⟨o, hok, ho, _⟩ := open_edgeC h2
        have h0 := (hc 0 (by omega)).trans ho
        have := World.cell?_spot h0
        simpa [Addr.add] using this
      obtain ⟨cs', h1, h2⟩ := hel k (by omega)
      rw [Try.c61] at h1
      obtain ⟨_, hlen, hc⟩ := World.cells?_some h1
      obtain ⟨o, hok, ho0, ho1, ho2⟩ := open_edgeC h2
      obtain ⟨ab, aq, sp⟩ := a
      simp only at hsp
      subst hsp
      have e0 := (hc 0 (by omega)).trans ho0
      have e1 := (hc 1 (by omega)).trans ho1
      have e2 := (hc 2 (by omega)).trans ho2
      simp only [Addr.add_lit, Nat.add_zero] at e0 e1 e2
      exact ⟨o, hok, ab, aq, rfl, e0, e1, e2⟩
    have hin : Inhabited Ed3 := ⟨(0, 0, 0)⟩
    obtain ⟨f, hf⟩ := choose_lt (α := Ed3) (p := fun k o => 0 ≤ o.2.2 ∧ ∃ g q, a = ⟨g, q, none⟩ ∧ w.cell? ⟨g, q + k * 3, none⟩ = some (.int .i64 o.1) ∧ w.cell? ⟨g, q + k * 3 + 1, none⟩ = some (.int .i64 o.2.1) ∧ w.cell? ⟨g, q + k * 3 + 2, none⟩ = some (.int .u64 o.2.2)) each
    have hL : ((List.range len).map f).length = len := by simp
    have hA : ∀ k, k < len → eAt ((List.range len).map f) k = f k := fun k hk => by simp [eAt, hk]
    refine ⟨_, (List.range len).map f, hcs, ⟨some a, _, by rw [hL], by rw [hL]; exact hl, by simp only [maxLen] at hm; omega, fun k hk => ?_⟩, fun k hk => ?_⟩
    · rw [hL] at hk
      rw [hA k hk]
      obtain ⟨_, g, q, rfl, p1, p2, p3⟩ := hf k hk
      exact ⟨g, q, rfl, p1, p2, p3⟩
    · rw [hL] at hk
      rw [hA k hk]
      exact (hf k hk).1
end
set_option maxRecDepth 100000 in
theorem open_roads {H : Type} {enc : TypeId × Value → H} {base : Nat} {held : Bool} {W : World} {v : Value} {d : DataW H} {p : List MemPlace} (hv : Value.okWide Try.prog W .any base 64 v) (h : DataW.Trod enc Try.prog W 0 (fun _ => true) held 64 v d p) :
    ∃ N ev l, v = .agg #[.int .i64 N, ev] ∧ EAt W ev l ∧ ∀ j, j < l.length → 0 ≤ (eAt l j).2.2 := by
  obtain ⟨cs, rfl, hcs⟩ := okWide_struct Try.underlying64 hv
  obtain ⟨fuel, hf⟩ := h
  obtain ⟨xs, n, _, hx, hlen, hxs, hel⟩ := DataW.trod_struct Try.underlying64 hf
  rw [Try.c64] at hlen
  have hxx : ∀ i, i < 2 → (xs[i]?).isSome = true := fun i hi => by rw [List.getElem?_eq_getElem (show i < xs.length by rw [hxs]; exact hi)]; rfl
  obtain ⟨N, h0, w0⟩ := one_int Try.underlying3 Try.c3 (hxx 0 (by omega)) (hel 0 _ rfl)
  obtain ⟨q, hq⟩ := Option.isSome_iff_exists.1 (hxx 1 (by omega))
  have h1 : DataW.trod enc Try.prog W 0 (fun _ => true) held n 62 (((Value.agg cs).cells.toList.drop 1).take (Try.prog.cellsOf 62)) = some q := (hel 1 _ rfl).trans hq
  rw [Try.c62] at h1
  obtain ⟨ev, l, he, hE, hw⟩ := open_edges h1
  refine ⟨N, ev, l, ?_, hE, hw⟩
  congr 1
  have : cs.toList = [.int .i64 N, ev] := by
    have e2 : (((Value.agg cs).cells.toList.drop 1).take 1)[0]? = some ev := by rw [he]; rfl
    rw [List.getElem?_take_of_lt (by omega), List.getElem?_drop] at e2
    simp only [Value.cells] at h0 e2 hlen
    match hl : cs.toList, hlen with
    | [a, b], _ => simp [hl] at h0 e2; rw [h0, e2]
  rw [← Array.toList_inj, this]
end Go.Proofs.Ythoklgdlnmccmaa
