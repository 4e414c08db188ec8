import Derived.Test.YtdbphlafbehklaaTreeC
import Derived.Test.YtdbphlafbehklaaVHeld
/- voucher.Make and the reference's. -/
namespace Go.Proofs.Ytdbphlafbehklaa
open Go.RowKit Go.Lib
set_option linter.unusedVariables false
theorem results_cell2 {P : Program} {fn : Func} {p u : Tmp} {ty : TypeId} (h : fn.results = #[.cell p ty, .tmp u]) (tmps : Array Value) (w : World) (g : Nat) (t : TypeId) (cs : Array Value) (fr : Nat × Nat) (d : TypeDesc)
    (hp : tmps.getD p undef = .pointer (some ⟨g, 0, none⟩)) (hg : w.heap[g]? = some (.cells cs t fr))
    (hu : P.underlying ty = some d) (hd : (match d with | .struct _ | .array _ _ => true | _ => false) = true) (hi : (P.info? ty).map (·.size) = some cs.size) (x : Value) (hx : tmps.getD u undef = x) :
    (results fn tmps).run P w = .ok (.tuple #[.agg cs, x]) w := by
  subst hx
  have hp' : tmps[p]?.getD undef = .pointer (some ⟨g, 0, none⟩) := by simpa using hp
  simp only [results, h]
  simp [Result.andThen, hp', asAddr, run_loadVar_row w g t ty cs fr d hg hu hd hi]
/-- A voucher's lists, as a value. -/
def vAgg (a b c : Value) : Value := .agg #[a, b, c]
/-- Make's memory: the graph's box, the result. -/
structure MK (w x : World) (N : Int) (va vb vc : Value) : Prop where
  bg : x.heap[w.heap.size]? = some (.cells #[.int .i64 N, va, vb, vc] 32 (0, 0))
  rs : x.heap[w.heap.size + 1]? = some (.cells #[.slice none 0 0, .slice none 0 0, .slice none 0 0] 103 (0, 0))
  bel : Below w.heap.size w x
theorem MK.start (w : World) (N : Int) (va vb vc : Value) : MK w ((w.alloc (.cells #[.int .i64 N, va, vb, vc] 32)).alloc (.cells #[.slice none 0 0, .slice none 0 0, .slice none 0 0] 103)) N va vb vc := by
  have hs : (w.alloc (.cells #[.int .i64 N, va, vb, vc] 32)).heap.size = w.heap.size + 1 := by simp
  refine ⟨?_, ?_, below_alloc (below_alloc (Below.refl _ _) _) _⟩
  · rw [heap_alloc_old _ _ (by rw [hs]; omega)]; exact heap_new _ _
  · have := heap_new (w.alloc (.cells #[.int .i64 N, va, vb, vc] 32)) (.cells #[.slice none 0 0, .slice none 0 0, .slice none 0 0] 103)
    rw [hs] at this; exact this
theorem MK.below {w x x' : World} {N : Int} {va vb vc : Value} (h : MK w x N va vb vc) (hb : Below x.heap.size x x') : MK w x' N va vb vc :=
  ⟨(hb.block _ (lt_of_heap h.bg)).trans h.bg, (hb.block _ (lt_of_heap h.rs)).trans h.rs, below_on h.bel hb⟩
theorem MK.put {w x : World} {N : Int} {va vb vc : Value} (h : MK w x N va vb vc) (y0 y1 y2 : Value) :
    (((x.setCell ⟨w.heap.size + 1, 0, none⟩ y0).setCell ⟨w.heap.size + 1, 1, none⟩ y1).setCell ⟨w.heap.size + 1, 2, none⟩ y2).heap[w.heap.size + 1]? = some (.cells #[y0, y1, y2] 103 (0, 0)) ∧
    Below w.heap.size w (((x.setCell ⟨w.heap.size + 1, 0, none⟩ y0).setCell ⟨w.heap.size + 1, 1, none⟩ y1).setCell ⟨w.heap.size + 1, 2, none⟩ y2) ∧
    ∀ k, k ≠ w.heap.size + 1 → (((x.setCell ⟨w.heap.size + 1, 0, none⟩ y0).setCell ⟨w.heap.size + 1, 1, none⟩ y1).setCell ⟨w.heap.size + 1, 2, none⟩ y2).heap[k]? = x.heap[k]? := by
  refine ⟨by rw [heap_set (heap_set (heap_set h.rs _) _) _]; rfl, ?_, fun k hk => ?_⟩
  · exact ((h.bel.setCell (p := ⟨w.heap.size + 1, 0, none⟩) (by simp) _).setCell (p := ⟨w.heap.size + 1, 1, none⟩) (by simp) _).setCell (p := ⟨w.heap.size + 1, 2, none⟩) (by simp) _
  · rw [Below.heap_setCell _ _ _ _ (by exact hk), Below.heap_setCell _ _ _ _ (by exact hk), Below.heap_setCell _ _ _ _ (by exact hk)]
/-- What Make answers where the arguments may be. -/
def MadeW (w : World) (n : Nat) (st tl wt : List Int) (k : Int) (S : List Pr) (e : Ending) (w' : World) : Prop :=
  ∃ (G GY GD : Nat) (L Y D : List Int), e = .returned (.tuple #[.agg #[.slice (some ⟨G, 0, none⟩) n n, .slice (some ⟨GY, 0, none⟩) n n, .slice (some ⟨GD, 0, none⟩) n n], .int .i64 0]) ∧ ArrU w' G L ∧ Arr w' GY Y ∧ Arr w' GD D ∧ Found n st tl wt k S L ∧ Whole n st tl wt k S L D Y ∧ Below w.heap.size w w'
theorem Try.results59 : Try.f59.results = #[.cell 6 103, .tmp 7] := by kernel_rfl
theorem Try.results60 : Try.f60.results = #[.cell 6 103, .tmp 7] := by kernel_rfl
theorem arru_ne' {w : World} {G Z : Nat} {L : List Int} {cs : Array Value} {t : TypeId} {fr : Nat × Nat} (h : ArrU w G L) (h2 : w.heap[Z]? = some (.cells cs t fr)) (ht : t ≠ 22) : G ≠ Z := by
  rintro rfl
  unfold ArrU at h
  rw [h] at h2
  simp at h2
  exact ht h2.2.1.symm
theorem arr_ne' {w : World} {G Z : Nat} {L : List Int} {cs : Array Value} {t : TypeId} {fr : Nat × Nat} (h : Arr w G L) (h2 : w.heap[Z]? = some (.cells cs t fr)) (ht : t ≠ 3) : G ≠ Z := by
  rintro rfl
  unfold Arr at h
  rw [h] at h2
  simp at h2
  exact ht h2.2.1.symm
set_option maxRecDepth 100000 in
set_option maxHeartbeats 4000000 in
theorem make_good (n : Nat) (va vb vc : Value) (st tl wt : List Int) (k : Int) (sv : Value) (S : List Pr) (w : World) (hg : GIs w n va vb vc st tl wt) (hgd : Good n st tl wt) (hwb : ∀ e, 0 ≤ at_ wt e ∧ at_ wt e ≤ 18446744073709551615)
    (hs : SAt w sv S) (hok : Sok n S) (hS : S.length * 16 ≤ 140737488353280) (hno : srchNo n st tl wt k S = 0) :
    Calls Try.prog 59 #[gAgg n va vb vc, .int .i64 k, sv] w (MadeW w n st tl wt k S) := by
  obtain ⟨ao, ca, rfl⟩ := hg.s.shape
  obtain ⟨bo, cb, rfl⟩ := hg.t.shape
  obtain ⟨co, cc, rfl⟩ := hg.u.shape
  obtain ⟨so, sc, rfl, hsc, hscm⟩ := hs.shape
  have hSb : ∀ j, j < S.length → 0 ≤ (sAt S j).2 ∧ (sAt S j).2 ≤ 18446744073709551615 := fun j hj => by have := (hok j hj).2; omega
  have HSE := hide (fun a b c v W h h2 => rsearch_good n a b c st tl wt k v S W h hgd hwb h2 hok hS hno)
  have HTR := hide (fun a b c v lv L W h h2 h3 h4 => tree_good n a b c st tl wt k v S lv L W h hno hwb h2 hSb hS h3 h4)
  have HK1 := hide (MK.start w n (.slice ao st.length ca) (.slice bo tl.length cb) (.slice co wt.length cc))
  have HG := hide hg; have HS := hide hs
  have hn := hgd.n_le
  have c0 := cell_of HK1.out.bg (i := 0) rfl
  have c1 := cell_of HK1.out.bg (i := 1) rfl
  have c2 := cell_of HK1.out.bg (i := 2) rfl
  have c3 := cell_of HK1.out.bg (i := 3) rfl
  unfold gAgg at HSE HTR ⊢
  clear hg hs hgd hwb hok hno hSb
  go_enter Try.func59, Try.ntmps59
  go_wp2_with fail
  generalize ((w.alloc (.cells #[.int .i64 n, .slice ao st.length ca, .slice bo tl.length cb, .slice co wt.length cc] 32)).alloc (.cells #[.slice none 0 0, .slice none 0 0, .slice none 0 0] 103)) = w1 at c0 c1 c2 c3 HK1 ⊢
  refine (HSE.out _ _ _ _ w1 (HG.out.below HK1.out.bel) (HS.out.below HK1.out.bel)).mono ?_
  rintro e w2 ⟨G, L, rfl, hG, hA, hF, hb2⟩
  have HK2 := hide (HK1.out.below hb2)
  have HA2 := hide hA; have HF := hide hF
  have d0 := cell_of HK2.out.bg (i := 0) rfl
  have d1 := cell_of HK2.out.bg (i := 1) rfl
  have d2 := cell_of HK2.out.bg (i := 2) rfl
  have d3 := cell_of HK2.out.bg (i := 3) rfl
  clear c0 c1 c2 c3 HK1 hb2 hA hF hG HSE
  go_wp2_with fail
  refine (HTR.out _ _ _ _ _ L w2 (HG.out.below HK2.out.bel) (HS.out.below HK2.out.bel) (HA2.out.row HF.out.len (by omega)) HF.out).mono ?_
  rintro e w3 ⟨GY, GD, Y, D, rfl, hY, hD, hW, hb3⟩
  have HK3 := hide (HK2.out.below hb3)
  have HA3 : Hid (ArrU w3 G L) := (hb3.block _ (lt_of_heap HA2.out)).trans HA2.out
  have HY := hide hY; have HD := hide hD; have HW := hide hW
  have t0 := cell_of HK3.out.rs (i := 0) rfl
  have t1 := cell_of HK3.out.rs (i := 1) rfl
  have t2 := cell_of HK3.out.rs (i := 2) rfl
  have u0 := free_of HK3.out.rs 0
  have u1 := free_of HK3.out.rs 1
  have u2 := free_of HK3.out.rs 2
  have HPU := hide (HK3.out.put (.slice (some ⟨G, 0, none⟩) n n) (.slice (some ⟨GY, 0, none⟩) n n) (.slice (some ⟨GD, 0, none⟩) n n))
  clear hb3 hY hD hW d0 d1 d2 d3 HK2 HA2 HTR
  go_wp2
  exact bodyPost_ret (results_cell2 Try.results59 _ _ (w.heap.size + 1) 103 _ (0, 0) _ rfl HPU.out.1 Try.underlying103 rfl (by kernel_rfl) (.int .i64 0) rfl) rfl
    ⟨G, GY, GD, L, Y, D, rfl, (HPU.out.2.2 _ (arru_ne' HA3.out HK3.out.rs (by decide))).trans HA3.out, (HPU.out.2.2 _ (arr_ne' HY.out HK3.out.rs (by decide))).trans HY.out, (HPU.out.2.2 _ (arr_ne' HD.out HK3.out.rs (by decide))).trans HD.out, HF.out, HW.out, HPU.out.2.1⟩
set_option maxRecDepth 100000 in
set_option maxHeartbeats 4000000 in
theorem refMake_good (n : Nat) (va vb vc : Value) (st tl wt : List Int) (k : Int) (sv : Value) (S : List Pr) (w : World) (hg : GIs w n va vb vc st tl wt) (hgd : Good n st tl wt) (hwb : ∀ e, 0 ≤ at_ wt e ∧ at_ wt e ≤ 18446744073709551615)
    (hs : SAt w sv S) (hok : Sok n S) (hS : S.length * 16 ≤ 140737488353280) (hno : srchNo n st tl wt k S = 0) :
    Calls Try.prog 60 #[gAgg n va vb vc, .int .i64 k, sv] w (MadeW w n st tl wt k S) := by
  obtain ⟨ao, ca, rfl⟩ := hg.s.shape
  obtain ⟨bo, cb, rfl⟩ := hg.t.shape
  obtain ⟨co, cc, rfl⟩ := hg.u.shape
  obtain ⟨so, sc, rfl, hsc, hscm⟩ := hs.shape
  have hSb : ∀ j, j < S.length → 0 ≤ (sAt S j).2 ∧ (sAt S j).2 ≤ 18446744073709551615 := fun j hj => by have := (hok j hj).2; omega
  have HSE := hide (fun a b c v W h h2 => refSearch_good n a b c st tl wt k v S W h hno (by have := hgd.s_len; have := hgd.n_le; omega) (by have := hgd.m_le; omega) (by have := hgd.w_len; have := hgd.m_le; omega) hwb h2 (fun j hj => (hok j hj).2.1) hS)
  have HTR := hide (fun a b c v lv L W h h2 h3 h4 => refTree_good n a b c st tl wt k v S lv L W h hno hwb h2 hSb hS h3 h4)
  have HK1 := hide (MK.start w n (.slice ao st.length ca) (.slice bo tl.length cb) (.slice co wt.length cc))
  have HG := hide hg; have HS := hide hs
  have hn := hgd.n_le
  have c0 := cell_of HK1.out.bg (i := 0) rfl
  have c1 := cell_of HK1.out.bg (i := 1) rfl
  have c2 := cell_of HK1.out.bg (i := 2) rfl
  have c3 := cell_of HK1.out.bg (i := 3) rfl
  unfold gAgg at HSE HTR ⊢
  clear hg hs hgd hwb hok hno hSb
  go_enter Try.func60, Try.ntmps60
  go_wp2_with fail
  generalize ((w.alloc (.cells #[.int .i64 n, .slice ao st.length ca, .slice bo tl.length cb, .slice co wt.length cc] 32)).alloc (.cells #[.slice none 0 0, .slice none 0 0, .slice none 0 0] 103)) = w1 at c0 c1 c2 c3 HK1 ⊢
  refine (HSE.out _ _ _ _ w1 (HG.out.below HK1.out.bel) (HS.out.below HK1.out.bel)).mono ?_
  rintro e w2 ⟨G, L, rfl, hG, hA, hF, hb2⟩
  have HK2 := hide (HK1.out.below hb2)
  have HA2 := hide hA; have HF := hide hF
  have d0 := cell_of HK2.out.bg (i := 0) rfl
  have d1 := cell_of HK2.out.bg (i := 1) rfl
  have d2 := cell_of HK2.out.bg (i := 2) rfl
  have d3 := cell_of HK2.out.bg (i := 3) rfl
  clear c0 c1 c2 c3 HK1 hb2 hA hF hG HSE
  go_wp2_with fail
  refine (HTR.out _ _ _ _ _ L w2 (HG.out.below HK2.out.bel) (HS.out.below HK2.out.bel) (HA2.out.row HF.out.len (by omega)) HF.out).mono ?_
  rintro e w3 ⟨GY, GD, Y, D, rfl, hY, hD, hW, hb3⟩
  have HK3 := hide (HK2.out.below hb3)
  have HA3 : Hid (ArrU w3 G L) := (hb3.block _ (lt_of_heap HA2.out)).trans HA2.out
  have HY := hide hY; have HD := hide hD; have HW := hide hW
  have t0 := cell_of HK3.out.rs (i := 0) rfl
  have t1 := cell_of HK3.out.rs (i := 1) rfl
  have t2 := cell_of HK3.out.rs (i := 2) rfl
  have u0 := free_of HK3.out.rs 0
  have u1 := free_of HK3.out.rs 1
  have u2 := free_of HK3.out.rs 2
  have HPU := hide (HK3.out.put (.slice (some ⟨G, 0, none⟩) n n) (.slice (some ⟨GY, 0, none⟩) n n) (.slice (some ⟨GD, 0, none⟩) n n))
  clear hb3 hY hD hW d0 d1 d2 d3 HK2 HA2 HTR
  go_wp2
  exact bodyPost_ret (results_cell2 Try.results60 _ _ (w.heap.size + 1) 103 _ (0, 0) _ rfl HPU.out.1 Try.underlying103 rfl (by kernel_rfl) (.int .i64 0) rfl) rfl
    ⟨G, GY, GD, L, Y, D, rfl, (HPU.out.2.2 _ (arru_ne' HA3.out HK3.out.rs (by decide))).trans HA3.out, (HPU.out.2.2 _ (arr_ne' HY.out HK3.out.rs (by decide))).trans HY.out, (HPU.out.2.2 _ (arr_ne' HD.out HK3.out.rs (by decide))).trans HD.out, HF.out, HW.out, HPU.out.2.1⟩
set_option maxRecDepth 100000 in
set_option maxHeartbeats 4000000 in
theorem make_bad (N : Int) (va vb vc : Value) (st tl wt : List Int) (k : Int) (sv : Value) (S : List Pr) (w : World) (hg : GIs w N va vb vc st tl wt) (hst : st.length ≤ 17592186044416) (hto : tl.length ≤ 17592186044416) (hwt : wt.length ≤ 17592186044416) (hs : SAt w sv S) (hS : S.length * 16 ≤ 140737488353280) (hno : srchNo N st tl wt k S ≠ 0) :
    Calls Try.prog 59 #[gAgg N va vb vc, .int .i64 k, sv] w fun e w' => e = .returned (.tuple #[.agg #[.slice none 0 0, .slice none 0 0, .slice none 0 0], .int .i64 (srchNo N st tl wt k S)]) ∧ Below w.heap.size w w' := by
  obtain ⟨ao, ca, rfl⟩ := hg.s.shape
  obtain ⟨bo, cb, rfl⟩ := hg.t.shape
  obtain ⟨co, cc, rfl⟩ := hg.u.shape
  obtain ⟨so, sc, rfl, hsc, hscm⟩ := hs.shape
  have HSE := hide (fun a b c v W h h2 => rsearch_bad N a b c st tl wt k v S W h hst hto hwt h2 hno)
  have HK1 := hide (MK.start w N (.slice ao st.length ca) (.slice bo tl.length cb) (.slice co wt.length cc))
  have HG := hide hg; have HS := hide hs
  obtain ⟨x, hX⟩ : ∃ x, x = srchNo N st tl wt k S := ⟨_, rfl⟩
  rw [← hX] at HSE hno ⊢
  have hx : (x != 0) = true := by simp [hno]
  have c0 := cell_of HK1.out.bg (i := 0) rfl
  have c1 := cell_of HK1.out.bg (i := 1) rfl
  have c2 := cell_of HK1.out.bg (i := 2) rfl
  have c3 := cell_of HK1.out.bg (i := 3) rfl
  unfold gAgg at HSE ⊢
  clear hg hs hX hno
  go_enter Try.func59, Try.ntmps59
  go_wp2_with fail
  generalize ((w.alloc (.cells #[.int .i64 N, .slice ao st.length ca, .slice bo tl.length cb, .slice co wt.length cc] 32)).alloc (.cells #[.slice none 0 0, .slice none 0 0, .slice none 0 0] 103)) = w1 at c0 c1 c2 c3 HK1 ⊢
  refine (HSE.out _ _ _ _ w1 (HG.out.below HK1.out.bel) (HS.out.below HK1.out.bel)).mono ?_
  rintro e w2 ⟨rfl, hb2⟩
  have HK3 := hide (HK1.out.below hb2)
  have t0 := cell_of HK3.out.rs (i := 0) rfl
  have t1 := cell_of HK3.out.rs (i := 1) rfl
  have t2 := cell_of HK3.out.rs (i := 2) rfl
  have u0 := free_of HK3.out.rs 0
  have u1 := free_of HK3.out.rs 1
  have u2 := free_of HK3.out.rs 2
  have HPU := hide (HK3.out.put (.slice none 0 0) (.slice none 0 0) (.slice none 0 0))
  clear c0 c1 c2 c3 HK1 hb2 HSE
  go_wp2
  exact bodyPost_ret (results_cell2 Try.results59 _ _ (w.heap.size + 1) 103 _ (0, 0) _ rfl HPU.out.1 Try.underlying103 rfl (by kernel_rfl) (.int .i64 x) rfl) rfl ⟨rfl, HPU.out.2.1⟩
set_option maxRecDepth 100000 in
set_option maxHeartbeats 4000000 in
theorem refMake_bad (N : Int) (va vb vc : Value) (st tl wt : List Int) (k : Int) (sv : Value) (S : List Pr) (w : World) (hg : GIs w N va vb vc st tl wt) (hst : st.length ≤ 17592186044416) (hto : tl.length ≤ 17592186044416) (hwt : wt.length ≤ 17592186044416) (hs : SAt w sv S) (hS : S.length * 16 ≤ 140737488353280) (hno : srchNo N st tl wt k S ≠ 0) :
    Calls Try.prog 60 #[gAgg N va vb vc, .int .i64 k, sv] w fun e w' => e = .returned (.tuple #[.agg #[.slice none 0 0, .slice none 0 0, .slice none 0 0], .int .i64 (srchNo N st tl wt k S)]) ∧ Below w.heap.size w w' := by
  obtain ⟨ao, ca, rfl⟩ := hg.s.shape
  obtain ⟨bo, cb, rfl⟩ := hg.t.shape
  obtain ⟨co, cc, rfl⟩ := hg.u.shape
  obtain ⟨so, sc, rfl, hsc, hscm⟩ := hs.shape
  have HSE := hide (fun a b c v W h h2 => refSearch_bad N a b c st tl wt k v S W h hno hst hto hwt h2 hS)
  have HK1 := hide (MK.start w N (.slice ao st.length ca) (.slice bo tl.length cb) (.slice co wt.length cc))
  have HG := hide hg; have HS := hide hs
  obtain ⟨x, hX⟩ : ∃ x, x = srchNo N st tl wt k S := ⟨_, rfl⟩
  rw [← hX] at HSE hno ⊢
  have hx : (x != 0) = true := by simp [hno]
  have c0 := cell_of HK1.out.bg (i := 0) rfl
  have c1 := cell_of HK1.out.bg (i := 1) rfl
  have c2 := cell_of HK1.out.bg (i := 2) rfl
  have c3 := cell_of HK1.out.bg (i := 3) rfl
  unfold gAgg at HSE ⊢
  clear hg hs hX hno
  go_enter Try.func60, Try.ntmps60
  go_wp2_with fail
  generalize ((w.alloc (.cells #[.int .i64 N, .slice ao st.length ca, .slice bo tl.length cb, .slice co wt.length cc] 32)).alloc (.cells #[.slice none 0 0, .slice none 0 0, .slice none 0 0] 103)) = w1 at c0 c1 c2 c3 HK1 ⊢
  refine (HSE.out _ _ _ _ w1 (HG.out.below HK1.out.bel) (HS.out.below HK1.out.bel)).mono ?_
  rintro e w2 ⟨rfl, hb2⟩
  have HK3 := hide (HK1.out.below hb2)
  have t0 := cell_of HK3.out.rs (i := 0) rfl
  have t1 := cell_of HK3.out.rs (i := 1) rfl
  have t2 := cell_of HK3.out.rs (i := 2) rfl
  have u0 := free_of HK3.out.rs 0
  have u1 := free_of HK3.out.rs 1
  have u2 := free_of HK3.out.rs 2
  have HPU := hide (HK3.out.put (.slice none 0 0) (.slice none 0 0) (.slice none 0 0))
  clear c0 c1 c2 c3 HK1 hb2 HSE
  go_wp2
  exact bodyPost_ret (results_cell2 Try.results60 _ _ (w.heap.size + 1) 103 _ (0, 0) _ rfl HPU.out.1 Try.underlying103 rfl (by kernel_rfl) (.int .i64 x) rfl) rfl ⟨rfl, HPU.out.2.1⟩
set_option maxRecDepth 100000 in
theorem no_any (x : Int) (w : World) : Calls Try.prog 62 #[.int .i64 x] w fun e w' => e = .returned (.int .i64 x) ∧ w' = w := by
  go_enter Try.func62, Try.ntmps62
  go_wp2
  go_ret
  exact ⟨rfl, rfl⟩
set_option maxRecDepth 100000 in
set_option maxHeartbeats 4000000 in
theorem vsame_any (a b c a' b' c' : Value) (V Y D : List Int) (w : World) (h1 : RowAt .u64 w a V) (h2 : RowAt .i64 w b Y) (h3 : RowAt .i64 w c D) (h1' : RowAt .u64 w a' V) (h2' : RowAt .i64 w b' Y) (h3' : RowAt .i64 w c' D) :
    Calls Try.prog 61 #[.agg #[a, b, c], .agg #[a', b', c']] w fun e w' => e = .returned (.bool true) ∧ Below w.heap.size w w' := by
  obtain ⟨ao, ca, rfl⟩ := h1.shape
  obtain ⟨bo, cb, rfl⟩ := h2.shape
  obtain ⟨co, cc, rfl⟩ := h3.shape
  obtain ⟨ao', ca', rfl⟩ := h1'.shape
  obtain ⟨bo', cb', rfl⟩ := h2'.shape
  obtain ⟨co', cc', rfl⟩ := h3'.shape
  have hb1 := below_alloc (below_alloc (Below.refl w.heap.size w) (.cells #[.slice ao V.length ca, .slice bo Y.length cb, .slice co D.length cc] 103)) (.cells #[.slice ao' V.length ca', .slice bo' Y.length cb', .slice co' D.length cc'] 103)
  have hA : ((w.alloc (.cells #[.slice ao V.length ca, .slice bo Y.length cb, .slice co D.length cc] 103)).alloc (.cells #[.slice ao' V.length ca', .slice bo' Y.length cb', .slice co' D.length cc'] 103)).heap[w.heap.size]? = some (.cells #[.slice ao V.length ca, .slice bo Y.length cb, .slice co D.length cc] 103 (0, 0)) := by
    rw [heap_alloc_old _ _ (by simp)]; exact heap_new _ _
  have hB : ((w.alloc (.cells #[.slice ao V.length ca, .slice bo Y.length cb, .slice co D.length cc] 103)).alloc (.cells #[.slice ao' V.length ca', .slice bo' Y.length cb', .slice co' D.length cc'] 103)).heap[w.heap.size + 1]? = some (.cells #[.slice ao' V.length ca', .slice bo' Y.length cb', .slice co' D.length cc'] 103 (0, 0)) := by
    have := heap_new (w.alloc (.cells #[.slice ao V.length ca, .slice bo Y.length cb, .slice co D.length cc] 103)) (.cells #[.slice ao' V.length ca', .slice bo' Y.length cb', .slice co' D.length cc'] 103)
    simpa using this
  have H1 := hide (h1.below hb1); have H2 := hide (h2.below hb1); have H3 := hide (h3.below hb1); have H1' := hide (h1'.below hb1); have H2' := hide (h2'.below hb1); have H3' := hide (h3'.below hb1)
  have HB1 := hide hb1; have HA := hide hA; have HB := hide hB
  have a0 := cell_of hA (i := 0) rfl
  have b0 := cell_of hB (i := 0) rfl
  clear hb1 hA hB h1 h2 h3 h1' h2' h3'
  go_enter Try.func61, Try.ntmps61
  go_wp2_with fail
  generalize ((w.alloc (.cells #[.slice ao V.length ca, .slice bo Y.length cb, .slice co D.length cc] 103)).alloc (.cells #[.slice ao' V.length ca', .slice bo' Y.length cb', .slice co' D.length cc'] 103)) = w1 at H1 H2 H3 H1' H2' H3' HB1 HA HB a0 b0 ⊢
  refine (vWords_any _ _ V w1 H1.out H1'.out).mono ?_
  rintro e w2 ⟨rfl, hb2⟩
  have a1 := cell_of ((hb2.block _ (lt_of_heap HA.out)).trans HA.out) (i := 1) rfl
  have b1 := cell_of ((hb2.block _ (lt_of_heap HB.out)).trans HB.out) (i := 1) rfl
  have HB2 := hide hb2
  clear a0 b0 hb2
  go_wp2_with fail
  refine (vInts_any _ _ Y w2 (H2.out.below HB2.out) (H2'.out.below HB2.out)).mono ?_
  rintro e w3 ⟨rfl, hb3⟩
  have HB3 := hide (below_on HB2.out hb3)
  have a2 := cell_of ((HB3.out.block _ (lt_of_heap HA.out)).trans HA.out) (i := 2) rfl
  have b2 := cell_of ((HB3.out.block _ (lt_of_heap HB.out)).trans HB.out) (i := 2) rfl
  clear a1 b1 hb3
  go_wp2_with fail
  refine (vInts_any _ _ D w3 (H3.out.below HB3.out) (H3'.out.below HB3.out)).mono ?_
  rintro e w4 ⟨rfl, hb4⟩
  have HB4 := hide (below_on HB1.out (below_on HB3.out hb4))
  clear a2 b2 hb4
  go_wp2
  go_ret
  exact ⟨rfl, HB4.out⟩
end Go.Proofs.Ytdbphlafbehklaa

/- VoucherMakes: the walk. -/
namespace Go.Proofs.Ytdbphlafbehklaa
open Go.RowKit Go.Lib
set_option linter.unusedVariables false
theorem G2.low {w : World} {b b' g1 c1 g2 c2 g3 c3 : Nat} {st tl wt : List Int} (h : G2 w b g1 c1 g2 c2 g3 c3 st tl wt) (hb : b' ≤ b) : G2 w b' g1 c1 g2 c2 g3 c3 st tl wt := ⟨h.s, h.t, h.u, Nat.le_trans hb h.b1, Nat.le_trans hb h.b2, Nat.le_trans hb h.b3⟩
theorem V2.low {w : World} {b b' g1 c1 g2 c2 g3 c3 : Nat} {st tl wt : List Int} (h : V2 w b g1 c1 g2 c2 g3 c3 st tl wt) (hb : b' ≤ b) : V2 w b' g1 c1 g2 c2 g3 c3 st tl wt := ⟨h.s, h.t, h.u, Nat.le_trans hb h.b1, Nat.le_trans hb h.b2, Nat.le_trans hb h.b3⟩
theorem S2.low {w : World} {b b' g c : Nat} {S : List Pr} (h : S2 w b g c S) (hb : b' ≤ b) : S2 w b' g c S := ⟨h.all, h.le, h.cap, Nat.le_trans hb h.b1⟩
theorem box3 (w : World) (a b c : Value) : (w.alloc (.cells #[a, b, c] 103)).heap[w.heap.size]? = some (.cells #[a, b, c] 103 (0, 0)) := heap_new _ _
set_option maxRecDepth 100000 in
set_option maxHeartbeats 8000000 in
theorem makes_good (n : Nat) (va vb vc : Value) (st tl wt : List Int) (k : Int) (sv : Value) (S : List Pr) (w : World) (hg : GIs w n va vb vc st tl wt) (hgd : Good n st tl wt) (hwb : ∀ e, 0 ≤ at_ wt e ∧ at_ wt e ≤ 18446744073709551615)
    (hs : SAt w sv S) (hok : Sok n S) (hS : S.length * 16 ≤ 140737488353280) (hno : srchNo n st tl wt k S = 0) :
    Calls Try.prog 15 #[gAgg n va vb vc, .int .i64 k, sv] w fun e w' => e = .returned (.bool true) ∧ Below w.heap.size w w' := by
  have hn := hgd.n_le
  have hst : st.length * 8 ≤ 140737488351232 := by have := hgd.s_len; omega
  have hto : tl.length * 8 ≤ 140737488351232 := by have := hgd.m_le; omega
  have hwt : wt.length * 8 ≤ 140737488351232 := by have := hgd.w_len; have := hgd.m_le; omega
  obtain ⟨ao, ca, rfl⟩ := hg.s.shape
  obtain ⟨bo, cb, rfl⟩ := hg.t.shape
  obtain ⟨co, cc, rfl⟩ := hg.u.shape
  obtain ⟨so, sc, rfl, hsc, hscm⟩ := hs.shape
  obtain ⟨V, hV⟩ : ∃ V : List Int, V = [] := ⟨_, rfl⟩
  have hVn : V.length * 8 ≤ 140737488351232 := by rw [hV]; decide
  have HVU : Hid (∀ W : World, RowAt .u64 W (.slice none 0 0) V) := fun W => by rw [hV]; exact ⟨none, 0, rfl, by simp, by omega, fun _ => rfl, fun a ha => by cases ha⟩
  have HVI : Hid (∀ W : World, RowAt .i64 W (.slice none 0 0) V) := fun W => by rw [hV]; exact RowAt.nil W
  obtain ⟨c0, c1, c2, c3, hb1, hs1⟩ := boxed w (.int .i64 n) (.slice ao st.length ca) (.slice bo tl.length cb) (.slice co wt.length cc)
  have hbx : (w.alloc (.cells #[.int .i64 n, .slice ao st.length ca, .slice bo tl.length cb, .slice co wt.length cc] 32)).heap[w.heap.size]? = some (.cells #[.int .i64 n, .slice ao st.length ca, .slice bo tl.length cb, .slice co wt.length cc] 32 (0, 0)) := heap_new _ _
  have HO := hide (hold_any n _ _ _ st tl wt _ S _ _ _ V V V _ (hg.below hb1) hst hto hwt (hs.below hb1) hS (HVU.out _) (HVI.out _) (HVI.out _) hVn hVn hVn)
  have HMK := hide (fun a b c v W h h2 => make_good n a b c st tl wt k v S W h hgd hwb h2 hok hS hno)
  have HRM := hide (fun a b c v W h h2 => refMake_good n a b c st tl wt k v S W h hgd hwb h2 hok hS hno)
  have HG1 := hide (hg.below hb1)
  have HS1 := hide (hs.below hb1)
  have HB1 := hide hb1
  have HX1 := hide hbx
  have HD := hide hgd
  have HOK := hide hok
  have HWB := hide hwb
  unfold gAgg at HO HMK HRM ⊢
  clear hb1 hg hs hno hgd hwb hok hV hbx
  go_enter Try.func15, Try.ntmps15
  go_wp2_with fail
  generalize (w.alloc (.cells #[.int .i64 n, .slice ao st.length ca, .slice bo tl.length cb, .slice co wt.length cc] 32)) = w1 at c0 c1 c2 c3 hs1 HB1 HO HG1 HS1 HX1 ⊢
  refine HO.out.mono ?_
  rintro e w2 ⟨g1, c1', g2, c2', g3, c3', g4, c4, g5, c5, g6, c6, g7, c7, rfl, hG, hSS, hVV, hb2⟩
  have hb3 := below_alloc (Below.refl w2.heap.size w2) (.cells #[.int .i64 n, .slice (some ⟨g1, 0, none⟩) st.length c1', .slice (some ⟨g2, 0, none⟩) tl.length c2', .slice (some ⟨g3, 0, none⟩) wt.length c3', .slice (some ⟨g4, 0, none⟩) S.length c4, .slice (some ⟨g5, 0, none⟩) V.length c5, .slice (some ⟨g6, 0, none⟩) V.length c6, .slice (some ⟨g7, 0, none⟩) V.length c7] 105)
  have HH3 : Hid (HIs (w2.alloc (.cells #[.int .i64 n, .slice (some ⟨g1, 0, none⟩) st.length c1', .slice (some ⟨g2, 0, none⟩) tl.length c2', .slice (some ⟨g3, 0, none⟩) wt.length c3', .slice (some ⟨g4, 0, none⟩) S.length c4, .slice (some ⟨g5, 0, none⟩) V.length c5, .slice (some ⟨g6, 0, none⟩) V.length c6, .slice (some ⟨g7, 0, none⟩) V.length c7] 105)) w2.heap.size n g1 c1' g2 c2' g3 c3' g4 c4 g5 c5 g6 c6 g7 c7 st tl wt S V V V) :=
    ⟨heap_new _ _, (hG.below hb3).low (Nat.zero_le _), (hSS.below hb3).low (Nat.zero_le _), (hVV.below hb3).low (Nat.zero_le _)⟩
  have HB3 := hide (below_on hb2 hb3)
  have r0 := cell_of HH3.out.hh (i := 0) rfl
  have r1 := cell_of HH3.out.hh (i := 1) rfl
  have r2 := cell_of HH3.out.hh (i := 2) rfl
  have r3 := cell_of HH3.out.hh (i := 3) rfl
  have r4 := cell_of HH3.out.hh (i := 4) rfl
  clear hG hSS hVV hb2 hb3 c0 c1 c2 c3 HO
  go_wp2_with fail
  generalize hR : w2.heap.size = R at HH3 r0 r1 r2 r3 r4 ⊢
  generalize (w2.alloc (.cells #[.int .i64 n, .slice (some ⟨g1, 0, none⟩) st.length c1', .slice (some ⟨g2, 0, none⟩) tl.length c2', .slice (some ⟨g3, 0, none⟩) wt.length c3', .slice (some ⟨g4, 0, none⟩) S.length c4, .slice (some ⟨g5, 0, none⟩) V.length c5, .slice (some ⟨g6, 0, none⟩) V.length c6, .slice (some ⟨g7, 0, none⟩) V.length c7] 105)) = w3 at HH3 HB3 r0 r1 r2 r3 r4 ⊢
  clear hR w2
  refine (HMK.out _ _ _ _ w3 HH3.out.g.gis HH3.out.s.row).mono ?_
  rintro e w4 ⟨G, GY, GD, L, Y, D, rfl, hA, hAY, hAD, hF, hW, hb4⟩
  have hb5 := below_alloc hb4 (.cells #[.slice (some ⟨G, 0, none⟩) n n, .slice (some ⟨GY, 0, none⟩) n n, .slice (some ⟨GD, 0, none⟩) n n] 103)
  have hb45 := below_alloc (Below.refl w4.heap.size w4) (.cells #[.slice (some ⟨G, 0, none⟩) n n, .slice (some ⟨GY, 0, none⟩) n n, .slice (some ⟨GD, 0, none⟩) n n] 103)
  have HA5 : Hid (ArrU (w4.alloc (.cells #[.slice (some ⟨G, 0, none⟩) n n, .slice (some ⟨GY, 0, none⟩) n n, .slice (some ⟨GD, 0, none⟩) n n] 103)) G L) := (hb45.block _ (lt_of_heap hA)).trans hA
  have HY5 : Hid (Arr (w4.alloc (.cells #[.slice (some ⟨G, 0, none⟩) n n, .slice (some ⟨GY, 0, none⟩) n n, .slice (some ⟨GD, 0, none⟩) n n] 103)) GY Y) := (hb45.block _ (lt_of_heap hAY)).trans hAY
  have HD5 : Hid (Arr (w4.alloc (.cells #[.slice (some ⟨G, 0, none⟩) n n, .slice (some ⟨GY, 0, none⟩) n n, .slice (some ⟨GD, 0, none⟩) n n] 103)) GD D) := (hb45.block _ (lt_of_heap hAD)).trans hAD
  have HQ5 := hide (box3 w4 (.slice (some ⟨G, 0, none⟩) n n) (.slice (some ⟨GY, 0, none⟩) n n) (.slice (some ⟨GD, 0, none⟩) n n))
  have HB5 := hide (below_on HB3.out hb5)
  have HH5 := hide (HH3.out.below hb5)
  have HF := hide hF; have HW := hide hW
  have HYL : Hid (Y.length = n) := by obtain ⟨d, h1, _⟩ := hW; exact h1.yl
  have HDL : Hid (D.length = n) := by obtain ⟨d, h1, _⟩ := hW; exact h1.dl
  have HX5 := hide ((HB5.out.block _ (lt_of_heap HX1.out)).trans HX1.out)
  have d0 := cell_of HX5.out (i := 0) rfl
  have d1 := cell_of HX5.out (i := 1) rfl
  have d2 := cell_of HX5.out (i := 2) rfl
  have d3 := cell_of HX5.out (i := 3) rfl
  clear hA hAY hAD hF hW hb4 hb5 hb45 r0 r1 r2 r3 r4 HMK HH3 HB3
  go_wp2_with fail
  generalize hQ : w4.heap.size = Q1 at HQ5 ⊢
  generalize (w4.alloc (.cells #[.slice (some ⟨G, 0, none⟩) n n, .slice (some ⟨GY, 0, none⟩) n n, .slice (some ⟨GD, 0, none⟩) n n] 103)) = w5 at HA5 HY5 HD5 HQ5 HB5 HH5 HX5 d0 d1 d2 d3 ⊢
  clear hQ w4
  refine (HRM.out _ _ _ _ w5 (HG1.out.below HB5.out) (HS1.out.below HB5.out)).mono ?_
  rintro e w6 ⟨G', GY', GD', L', Y', D', rfl, hA, hAY, hAD, hF, hW, hb6⟩
  obtain rfl : L = L' := HF.out.only hF HWB.out (fun j hj => by have := (HOK.out j hj).2; omega)
  obtain ⟨rfl, rfl⟩ := Whole.only HD.out HW.out hW
  have hb7 := below_alloc hb6 (.cells #[.slice (some ⟨G', 0, none⟩) n n, .slice (some ⟨GY', 0, none⟩) n n, .slice (some ⟨GD', 0, none⟩) n n] 103)
  have hb67 := below_alloc (Below.refl w6.heap.size w6) (.cells #[.slice (some ⟨G', 0, none⟩) n n, .slice (some ⟨GY', 0, none⟩) n n, .slice (some ⟨GD', 0, none⟩) n n] 103)
  have HA7' : Hid (ArrU (w6.alloc (.cells #[.slice (some ⟨G', 0, none⟩) n n, .slice (some ⟨GY', 0, none⟩) n n, .slice (some ⟨GD', 0, none⟩) n n] 103)) G' L) := (hb67.block _ (lt_of_heap hA)).trans hA
  have HY7' : Hid (Arr (w6.alloc (.cells #[.slice (some ⟨G', 0, none⟩) n n, .slice (some ⟨GY', 0, none⟩) n n, .slice (some ⟨GD', 0, none⟩) n n] 103)) GY' Y) := (hb67.block _ (lt_of_heap hAY)).trans hAY
  have HD7' : Hid (Arr (w6.alloc (.cells #[.slice (some ⟨G', 0, none⟩) n n, .slice (some ⟨GY', 0, none⟩) n n, .slice (some ⟨GD', 0, none⟩) n n] 103)) GD' D) := (hb67.block _ (lt_of_heap hAD)).trans hAD
  have HA7 : Hid (ArrU (w6.alloc (.cells #[.slice (some ⟨G', 0, none⟩) n n, .slice (some ⟨GY', 0, none⟩) n n, .slice (some ⟨GD', 0, none⟩) n n] 103)) G L) := (hb7.block _ (lt_of_heap HA5.out)).trans HA5.out
  have HY7 : Hid (Arr (w6.alloc (.cells #[.slice (some ⟨G', 0, none⟩) n n, .slice (some ⟨GY', 0, none⟩) n n, .slice (some ⟨GD', 0, none⟩) n n] 103)) GY Y) := (hb7.block _ (lt_of_heap HY5.out)).trans HY5.out
  have HD7 : Hid (Arr (w6.alloc (.cells #[.slice (some ⟨G', 0, none⟩) n n, .slice (some ⟨GY', 0, none⟩) n n, .slice (some ⟨GD', 0, none⟩) n n] 103)) GD D) := (hb7.block _ (lt_of_heap HD5.out)).trans HD5.out
  have HQ7 := hide ((hb7.block _ (lt_of_heap HQ5.out)).trans HQ5.out)
  have HQ7' := hide (box3 w6 (.slice (some ⟨G', 0, none⟩) n n) (.slice (some ⟨GY', 0, none⟩) n n) (.slice (some ⟨GD', 0, none⟩) n n))
  have HB7 := hide (below_on HB5.out hb7)
  have HH7 := hide (HH5.out.below hb7)
  have q0 := cell_of HQ7.out (i := 0) rfl
  have q1 := cell_of HQ7.out (i := 1) rfl
  have q2 := cell_of HQ7.out (i := 2) rfl
  have s0 := cell_of HQ7'.out (i := 0) rfl
  have s1 := cell_of HQ7'.out (i := 1) rfl
  have s2 := cell_of HQ7'.out (i := 2) rfl
  clear hA hAY hAD hF hW hb6 hb7 hb67 d0 d1 d2 d3 HRM HH5 HB5 HA5 HY5 HD5 HQ5 HX5
  go_wp2_with fail
  generalize hQ' : w6.heap.size = Q2 at HQ7' s0 s1 s2 ⊢
  generalize (w6.alloc (.cells #[.slice (some ⟨G', 0, none⟩) n n, .slice (some ⟨GY', 0, none⟩) n n, .slice (some ⟨GD', 0, none⟩) n n] 103)) = w7 at HA7 HY7 HD7 HA7' HY7' HD7' HQ7 HQ7' HB7 HH7 q0 q1 q2 s0 s1 s2 ⊢
  clear hQ' w6
  refine (vsame_any _ _ _ _ _ _ L Y D w7 (HA7.out.row HF.out.len (by omega)) (HY7.out.row HYL.out (by omega)) (HD7.out.row HDL.out (by omega)) (HA7'.out.row HF.out.len (by omega)) (HY7'.out.row HYL.out (by omega)) (HD7'.out.row HDL.out (by omega))).mono ?_
  rintro e w8 ⟨rfl, hb8⟩
  have HB8 := hide (below_on HB7.out hb8)
  have HH8 := hide (HH7.out.below hb8)
  have HX8 := hide ((HB8.out.block _ (lt_of_heap HX1.out)).trans HX1.out)
  have d0 := cell_of HX8.out (i := 0) rfl
  have d1 := cell_of HX8.out (i := 1) rfl
  have d2 := cell_of HX8.out (i := 2) rfl
  have d3 := cell_of HX8.out (i := 3) rfl
  clear hb8 q0 q1 q2 s0 s1 s2 HQ7 HQ7' HA7 HY7 HD7 HA7' HY7' HD7' HB7 HH7
  go_wp2_with fail
  refine (no_any 0 w8).mono ?_
  rintro e w9 ⟨rfl, rfl⟩
  have HKP := hide (kept_any R n _ _ _ st tl wt _ S _ _ _ V V V g1 c1' g2 c2' g3 c3' g4 c4 g5 c5 g6 c6 g7 c7 _ HH8.out (HG1.out.below HB8.out) hst hto hwt (HS1.out.below HB8.out) hS (HVU.out _) (HVI.out _) (HVI.out _) hVn hVn hVn)
  unfold gAgg at HKP
  go_wp2_with fail
  refine HKP.out.mono ?_
  rintro e w10 ⟨rfl, hb10⟩
  have HEND := hide (below_on HB1.out (below_on HB8.out hb10))
  clear hb10 HKP
  go_wp2
  go_ret
  exact ⟨rfl, HEND.out⟩
set_option maxRecDepth 100000 in
set_option maxHeartbeats 8000000 in
theorem makes_bad (n : Int) (va vb vc : Value) (st tl wt : List Int) (k : Int) (sv : Value) (S : List Pr) (w : World) (hg : GIs w n va vb vc st tl wt) (hst : st.length * 8 ≤ 140737488351232) (hto : tl.length * 8 ≤ 140737488351232) (hwt : wt.length * 8 ≤ 140737488351232)
    (hs : SAt w sv S) (hS : S.length * 16 ≤ 140737488353280) (hno : srchNo n st tl wt k S ≠ 0) :
    Calls Try.prog 15 #[gAgg n va vb vc, .int .i64 k, sv] w fun e w' => e = .returned (.bool true) ∧ Below w.heap.size w w' := by
  obtain ⟨ao, ca, rfl⟩ := hg.s.shape
  obtain ⟨bo, cb, rfl⟩ := hg.t.shape
  obtain ⟨co, cc, rfl⟩ := hg.u.shape
  obtain ⟨so, sc, rfl, hsc, hscm⟩ := hs.shape
  obtain ⟨V, hV⟩ : ∃ V : List Int, V = [] := ⟨_, rfl⟩
  have hVn : V.length * 8 ≤ 140737488351232 := by rw [hV]; decide
  have HVU : Hid (∀ W : World, RowAt .u64 W (.slice none 0 0) V) := fun W => by rw [hV]; exact ⟨none, 0, rfl, by simp, by omega, fun _ => rfl, fun a ha => by cases ha⟩
  have HVI : Hid (∀ W : World, RowAt .i64 W (.slice none 0 0) V) := fun W => by rw [hV]; exact RowAt.nil W
  obtain ⟨c0, c1, c2, c3, hb1, hs1⟩ := boxed w (.int .i64 n) (.slice ao st.length ca) (.slice bo tl.length cb) (.slice co wt.length cc)
  have hbx : (w.alloc (.cells #[.int .i64 n, .slice ao st.length ca, .slice bo tl.length cb, .slice co wt.length cc] 32)).heap[w.heap.size]? = some (.cells #[.int .i64 n, .slice ao st.length ca, .slice bo tl.length cb, .slice co wt.length cc] 32 (0, 0)) := heap_new _ _
  have HO := hide (hold_any n _ _ _ st tl wt _ S _ _ _ V V V _ (hg.below hb1) hst hto hwt (hs.below hb1) hS (HVU.out _) (HVI.out _) (HVI.out _) hVn hVn hVn)
  have HMK := hide (fun a b c v W h h2 => make_bad n a b c st tl wt k v S W h (by omega) (by omega) (by omega) h2 hS hno)
  have HRM := hide (fun a b c v W h h2 => refMake_bad n a b c st tl wt k v S W h (by omega) (by omega) (by omega) h2 hS hno)
  have HG1 := hide (hg.below hb1)
  have HS1 := hide (hs.below hb1)
  have HB1 := hide hb1
  have HX1 := hide hbx
  obtain ⟨x, hx⟩ : ∃ x, x = srchNo n st tl wt k S := ⟨_, rfl⟩
  rw [← hx] at HMK HRM
  have hxx : (x == x) = true := by simp
  unfold gAgg at HO HMK HRM ⊢
  clear hb1 hg hs hno hV hbx hx
  go_enter Try.func15, Try.ntmps15
  go_wp2_with fail
  generalize (w.alloc (.cells #[.int .i64 n, .slice ao st.length ca, .slice bo tl.length cb, .slice co wt.length cc] 32)) = w1 at c0 c1 c2 c3 hs1 HB1 HO HG1 HS1 HX1 ⊢
  refine HO.out.mono ?_
  rintro e w2 ⟨g1, c1', g2, c2', g3, c3', g4, c4, g5, c5, g6, c6, g7, c7, rfl, hG, hSS, hVV, hb2⟩
  have hb3 := below_alloc (Below.refl w2.heap.size w2) (.cells #[.int .i64 n, .slice (some ⟨g1, 0, none⟩) st.length c1', .slice (some ⟨g2, 0, none⟩) tl.length c2', .slice (some ⟨g3, 0, none⟩) wt.length c3', .slice (some ⟨g4, 0, none⟩) S.length c4, .slice (some ⟨g5, 0, none⟩) V.length c5, .slice (some ⟨g6, 0, none⟩) V.length c6, .slice (some ⟨g7, 0, none⟩) V.length c7] 105)
  have HH3 : Hid (HIs (w2.alloc (.cells #[.int .i64 n, .slice (some ⟨g1, 0, none⟩) st.length c1', .slice (some ⟨g2, 0, none⟩) tl.length c2', .slice (some ⟨g3, 0, none⟩) wt.length c3', .slice (some ⟨g4, 0, none⟩) S.length c4, .slice (some ⟨g5, 0, none⟩) V.length c5, .slice (some ⟨g6, 0, none⟩) V.length c6, .slice (some ⟨g7, 0, none⟩) V.length c7] 105)) w2.heap.size n g1 c1' g2 c2' g3 c3' g4 c4 g5 c5 g6 c6 g7 c7 st tl wt S V V V) :=
    ⟨heap_new _ _, (hG.below hb3).low (Nat.zero_le _), (hSS.below hb3).low (Nat.zero_le _), (hVV.below hb3).low (Nat.zero_le _)⟩
  have HB3 := hide (below_on hb2 hb3)
  have r0 := cell_of HH3.out.hh (i := 0) rfl
  have r1 := cell_of HH3.out.hh (i := 1) rfl
  have r2 := cell_of HH3.out.hh (i := 2) rfl
  have r3 := cell_of HH3.out.hh (i := 3) rfl
  have r4 := cell_of HH3.out.hh (i := 4) rfl
  clear hG hSS hVV hb2 hb3 c0 c1 c2 c3 HO
  go_wp2_with fail
  generalize hR : w2.heap.size = R at HH3 r0 r1 r2 r3 r4 ⊢
  generalize (w2.alloc (.cells #[.int .i64 n, .slice (some ⟨g1, 0, none⟩) st.length c1', .slice (some ⟨g2, 0, none⟩) tl.length c2', .slice (some ⟨g3, 0, none⟩) wt.length c3', .slice (some ⟨g4, 0, none⟩) S.length c4, .slice (some ⟨g5, 0, none⟩) V.length c5, .slice (some ⟨g6, 0, none⟩) V.length c6, .slice (some ⟨g7, 0, none⟩) V.length c7] 105)) = w3 at HH3 HB3 r0 r1 r2 r3 r4 ⊢
  clear hR w2
  refine (HMK.out _ _ _ _ w3 HH3.out.g.gis HH3.out.s.row).mono ?_
  rintro e w4 ⟨rfl, hb4⟩
  have hb5 := below_alloc hb4 (.cells #[.slice none 0 0, .slice none 0 0, .slice none 0 0] 103)
  have HQ5 := hide (box3 w4 (.slice none 0 0) (.slice none 0 0) (.slice none 0 0))
  have HB5 := hide (below_on HB3.out hb5)
  have HH5 := hide (HH3.out.below hb5)
  have HX5 := hide ((HB5.out.block _ (lt_of_heap HX1.out)).trans HX1.out)
  have d0 := cell_of HX5.out (i := 0) rfl
  have d1 := cell_of HX5.out (i := 1) rfl
  have d2 := cell_of HX5.out (i := 2) rfl
  have d3 := cell_of HX5.out (i := 3) rfl
  clear hb4 hb5 r0 r1 r2 r3 r4 HMK HH3 HB3
  go_wp2_with fail
  generalize hQ : w4.heap.size = Q1 at HQ5 ⊢
  generalize (w4.alloc (.cells #[.slice none 0 0, .slice none 0 0, .slice none 0 0] 103)) = w5 at HQ5 HB5 HH5 HX5 d0 d1 d2 d3 ⊢
  clear hQ w4
  refine (HRM.out _ _ _ _ w5 (HG1.out.below HB5.out) (HS1.out.below HB5.out)).mono ?_
  rintro e w6 ⟨rfl, hb6⟩
  have hb7 := below_alloc hb6 (.cells #[.slice none 0 0, .slice none 0 0, .slice none 0 0] 103)
  have HQ7 := hide ((hb7.block _ (lt_of_heap HQ5.out)).trans HQ5.out)
  have HQ7' := hide (box3 w6 (.slice none 0 0) (.slice none 0 0) (.slice none 0 0))
  have HB7 := hide (below_on HB5.out hb7)
  have HH7 := hide (HH5.out.below hb7)
  have q0 := cell_of HQ7.out (i := 0) rfl
  have q1 := cell_of HQ7.out (i := 1) rfl
  have q2 := cell_of HQ7.out (i := 2) rfl
  have s0 := cell_of HQ7'.out (i := 0) rfl
  have s1 := cell_of HQ7'.out (i := 1) rfl
  have s2 := cell_of HQ7'.out (i := 2) rfl
  clear hb6 hb7 d0 d1 d2 d3 HRM HH5 HB5 HQ5 HX5
  go_wp2_with fail
  generalize hQ' : w6.heap.size = Q2 at HQ7' s0 s1 s2 ⊢
  generalize (w6.alloc (.cells #[.slice none 0 0, .slice none 0 0, .slice none 0 0] 103)) = w7 at HQ7 HQ7' HB7 HH7 q0 q1 q2 s0 s1 s2 ⊢
  clear hQ' w6
  refine (vsame_any _ _ _ _ _ _ V V V w7 (HVU.out _) (HVI.out _) (HVI.out _) (HVU.out _) (HVI.out _) (HVI.out _)).mono ?_
  rintro e w8 ⟨rfl, hb8⟩
  have HB8 := hide (below_on HB7.out hb8)
  have HH8 := hide (HH7.out.below hb8)
  have HX8 := hide ((HB8.out.block _ (lt_of_heap HX1.out)).trans HX1.out)
  have d0 := cell_of HX8.out (i := 0) rfl
  have d1 := cell_of HX8.out (i := 1) rfl
  have d2 := cell_of HX8.out (i := 2) rfl
  have d3 := cell_of HX8.out (i := 3) rfl
  clear hb8 q0 q1 q2 s0 s1 s2 HQ7 HQ7' HB7 HH7
  go_wp2_with fail
  refine (no_any x w8).mono ?_
  rintro e w9 ⟨rfl, rfl⟩
  have HKP := hide (kept_any R n _ _ _ st tl wt _ S _ _ _ V V V g1 c1' g2 c2' g3 c3' g4 c4 g5 c5 g6 c6 g7 c7 _ HH8.out (HG1.out.below HB8.out) hst hto hwt (HS1.out.below HB8.out) hS (HVU.out _) (HVI.out _) (HVI.out _) hVn hVn hVn)
  unfold gAgg at HKP
  go_wp2_with fail
  refine HKP.out.mono ?_
  rintro e w10 ⟨rfl, hb10⟩
  have HEND := hide (below_on HB1.out (below_on HB8.out hb10))
  clear hb10 HKP
  go_wp2
  go_ret
  exact ⟨rfl, HEND.out⟩
end Go.Proofs.Ytdbphlafbehklaa
