/- graph.Turn of a graph. -/
import Derived.Test.YthoklgdlnmccmaaArr2
import Derived.Test.YthoklgdlnmccmaaSearches
import Derived.BigRegion
import Derived.BigQuiet
namespace Go.Proofs.Ythoklgdlnmccmaa
open Go.RowKit Go.Lib
set_option linter.unusedVariables false
structure MT (w x : World) (N : Int) (va vb vc : Value) : Prop where
  bg : x.heap[w.heap.size]? = some (.cells #[.int .i64 N, va, vb, vc] 32 (0, 0))
  rs : x.heap[w.heap.size + 1]? = some (.cells #[.int .i64 0, .slice none 0 0, .slice none 0 0, .slice none 0 0] 32 (0, 0))
  bel : Below w.heap.size w x
theorem MT.start (w : World) (N : Int) (va vb vc : Value) : MT w ((w.alloc (.cells #[.int .i64 N, va, vb, vc] 32)).alloc (.cells #[.int .i64 0, .slice none 0 0, .slice none 0 0, .slice none 0 0] 32)) N va vb vc := by
  have hs : (w.alloc (.cells #[.int .i64 N, va, vb, vc] 32)).heap.size = w.heap.size + 1 := by simp
  refine ⟨?_, ?_, below_alloc (below_alloc (Below.refl _ _) _) _⟩
  · exact (Below.heap_alloc _ _ _ (by rw [hs]; omega)).trans (heap_new _ _)
  · have := heap_new (w.alloc (.cells #[.int .i64 N, va, vb, vc] 32)) (.cells #[.int .i64 0, .slice none 0 0, .slice none 0 0, .slice none 0 0] 32)
    rw [hs] at this; exact this
theorem MT.below {w x x' : World} {N : Int} {va vb vc : Value} (h : MT w x N va vb vc) (hb : Below x.heap.size x x') : MT w x' N va vb vc :=
  ⟨(hb.block _ (lt_of_heap h.bg)).trans h.bg, (hb.block _ (lt_of_heap h.rs)).trans h.rs, below_on h.bel hb⟩
theorem MT.drew {w x : World} {N : Int} {va vb vc : Value} (h : MT w x N va vb vc) : MT w x.drew N va vb vc := h.below (below_drew (Below.refl _ _))
theorem MT.put {w x : World} {N : Int} {va vb vc : Value} (h : MT w x N va vb vc) (y0 y1 y2 y3 : Value) :
    ((((x.setCell ⟨w.heap.size + 1, 0, none⟩ y0).setCell ⟨w.heap.size + 1, 1, none⟩ y1).setCell ⟨w.heap.size + 1, 2, none⟩ y2).setCell ⟨w.heap.size + 1, 3, none⟩ y3).heap[w.heap.size + 1]? = some (.cells #[y0, y1, y2, y3] 32 (0, 0)) ∧
    Below w.heap.size w ((((x.setCell ⟨w.heap.size + 1, 0, none⟩ y0).setCell ⟨w.heap.size + 1, 1, none⟩ y1).setCell ⟨w.heap.size + 1, 2, none⟩ y2).setCell ⟨w.heap.size + 1, 3, none⟩ y3) ∧
    ∀ k, k ≠ w.heap.size + 1 → ((((x.setCell ⟨w.heap.size + 1, 0, none⟩ y0).setCell ⟨w.heap.size + 1, 1, none⟩ y1).setCell ⟨w.heap.size + 1, 2, none⟩ y2).setCell ⟨w.heap.size + 1, 3, none⟩ y3).heap[k]? = x.heap[k]? := by
  refine ⟨by rw [heap_set (heap_set (heap_set (heap_set h.rs _) _) _) _]; rfl, ?_, fun k hk => ?_⟩
  · exact (((h.bel.setCell (p := ⟨w.heap.size + 1, 0, none⟩) (by simp) _).setCell (p := ⟨w.heap.size + 1, 1, none⟩) (by simp) _).setCell (p := ⟨w.heap.size + 1, 2, none⟩) (by simp) _).setCell (p := ⟨w.heap.size + 1, 3, none⟩) (by simp) _
  · rw [Below.heap_setCell _ _ _ _ (by exact hk), Below.heap_setCell _ _ _ _ (by exact hk), Below.heap_setCell _ _ _ _ (by exact hk), Below.heap_setCell _ _ _ _ (by exact hk)]
theorem good_chk' {n : Nat} {st tl wt : List Int} (h : Good n st tl wt) : (chk n st tl wt).1 = 0 := by
  have hf : Fits (n : Int) tl.length := ⟨by omega, by have := h.n_le; omega, h.m_le⟩
  unfold chk
  rw [if_pos hf, if_pos ⟨by rw [h.s_len]; omega, h.w_len⟩]
  have h1 : chkRows (n : Int).toNat tl.length st = none := by
    unfold chkRows
    exact first_none fun i hi => by
      rw [Int.toNat_natCast] at hi ⊢
      simpa [badRow] using h.rows i hi
  rw [h1]
  simp only [chkEdges]
  rw [first_none (p := badEdge (n : Int).toNat tl wt) fun e he => by
    rw [Int.toNat_natCast]
    simpa [badEdge] using h.edges e he]
theorem upto_congr {α : Type} {f g : Nat → α} {k : Nat} (h : ∀ i, i < k → f i = g i) : upto f k = upto g k := by
  unfold upto
  exact List.map_congr_left fun i hi => h i (List.mem_range.1 hi)
theorem Try.results48 : Try.f48.results = #[.cell 2 32, .tmp 3] := by kernel_rfl
def TurnW (w : World) (n : Nat) (st tl wt : List Int) (e : Ending) (w' : World) : Prop :=
  ∃ va vb vc st' tl' wt', e = .returned (.tuple #[gAgg n va vb vc, .int .i64 0]) ∧ GIs w' n va vb vc st' tl' wt' ∧ Good n st' tl' wt' ∧ Tur n st tl wt st' tl' wt' ∧ Tur n st' tl' wt' st tl wt ∧ Below w.heap.size w w'
/-- The two boxes behind which the function of the turned edges goes. -/
theorem turn_seq (n : Nat) (va vb vc : Value) (st tl wt : List Int) (w0 x x' : World) (hg : GIs w0 n va vb vc st tl wt) (hgd : Good n st tl wt) (hb : Below w0.heap.size w0 x)
    (hx : x' = (x.alloc (.cells #[.int .i64 n, va, vb, vc] 32)).alloc (.cells #[.func (.func 102) #[] #[]] 150)) :
    ∀ Tt : Nat → Prop, (∀ k, Tt k → x'.heap.size ≤ k) → Gv Tt Try.prog 132 #[.pointer (some ⟨x.heap.size, 0, none⟩), .pointer (some ⟨x.heap.size + 1, 0, none⟩)] encE (upto (fEd (tov tl) (src st n) (fun e => at_ wt e)) tl.length) x' := by
  intro Tt hT
  have hs : x'.heap.size = x.heap.size + 2 := by rw [hx]; simp
  have e1 : upto (fEd (tov tl) (src st n) (fun e => at_ wt e)) tl.length = upto (turnAt n st tl wt) tl.length := upto_congr fun i hi => by
    unfold fEd turnAt
    rw [(tov_lt hgd hi).2]
  rw [e1]
  have hB : x'.heap[x.heap.size]? = some (.cells #[.int .i64 n, va, vb, vc] 32 (0, 0)) := by
    rw [hx]; exact (Below.heap_alloc _ _ _ (by simp)).trans (heap_new _ _)
  have hC : x'.heap[x.heap.size + 1]? = some (.cells #[.func (.func 102) #[] #[]] 150 (0, 0)) := by
    have := heap_new (x.alloc (.cells #[.int .i64 n, va, vb, vc] 32)) (.cells #[.func (.func 102) #[] #[]] 150)
    rw [World.size_alloc] at this
    rw [hx]; exact this
  exact edgesT_gives Tt n va vb vc st tl wt x.heap.size (x.heap.size + 1) w0 x' hg hgd (by rw [hx]; exact below_alloc (below_alloc hb _) _) (fun k hk => by have := hT k hk; have := hb.size; omega) hB hC
set_option maxRecDepth 100000 in
set_option maxHeartbeats 4000000 in
theorem turn_good (n : Nat) (va vb vc : Value) (st tl wt : List Int) (w : World) (hg : GIs w n va vb vc st tl wt) (hgd : Good n st tl wt) (hwn : ∀ e, 0 ≤ at_ wt e) :
    Calls Try.prog 48 #[gAgg n va vb vc] w (TurnW w n st tl wt) := by
  obtain ⟨ao, ca, rfl⟩ := hg.s.shape
  obtain ⟨bo, cb, rfl⟩ := hg.t.shape
  obtain ⟨co, cc, rfl⟩ := hg.u.shape
  have hml := hgd.m_le
  have hn := hgd.n_le
  have hchk := good_chk' hgd
  obtain ⟨⟨r1, r2⟩, hrr⟩ : ∃ r, chk n st tl wt = r := ⟨_, rfl⟩
  rw [hrr] at hchk
  simp only at hchk
  subst hchk
  have hck := (fun W h => check_all n (.slice ao st.length ca) (.slice bo tl.length cb) (.slice co wt.length cc) st tl wt W h (by have := hgd.s_len; omega) (by omega) (by have := hgd.w_len; omega))
  rw [hrr] at hck
  have HCK := hide hck
  have HSQ := hide (fun x x' hb hx => turn_seq n (.slice ao st.length ca) (.slice bo tl.length cb) (.slice co wt.length cc) st tl wt w x x' hg hgd hb hx)
  have HAR := hide (fun x lb hs => callsIn_wide.1 (arrange_any 0 n tl.length lb (tov tl) (src st n) (fun e => at_ wt e) x hn hml (fun i hi => (tov_lt hgd hi).1) (fun i hi => src_lt hgd hi) (fun i hi => ⟨hwn i, (hgd.vtx i hi).2.2⟩) hs))
  have HLD := hide (fun st' nx tl' wt' h1 h2 => laid_tur (st' := st') (nx := nx) (tl' := tl') (wt' := wt') hgd h1 h2)
  have HK1 := hide (MT.start w n (.slice ao st.length ca) (.slice bo tl.length cb) (.slice co wt.length cc))
  have HG := hide hg
  have c0 := cell_of HK1.out.bg (i := 0) rfl
  have c1 := cell_of HK1.out.bg (i := 1) rfl
  have c2 := cell_of HK1.out.bg (i := 2) rfl
  have c3 := cell_of HK1.out.bg (i := 3) rfl
  unfold gAgg at HCK ⊢
  clear hg hck hrr
  go_enter Try.func48, Try.ntmps48
  go_wp2_with fail
  generalize ((w.alloc (.cells #[.int .i64 n, .slice ao st.length ca, .slice bo tl.length cb, .slice co wt.length cc] 32)).alloc (.cells #[.int .i64 0, .slice none 0 0, .slice none 0 0, .slice none 0 0] 32)) = w1 at c0 c1 c2 c3 HK1 ⊢
  refine (HCK.out w1 (HG.out.below HK1.out.bel)).mono ?_
  rintro e w2 ⟨rfl, hb2⟩
  have HK2 := hide (HK1.out.below hb2)
  have HS2 := hide (fun x' hx => HSQ.out w2.drew x' HK2.out.drew.bel hx)
  have d0 := cell_of HK2.out.bg (i := 0) rfl
  have d1 := cell_of HK2.out.bg (i := 1) rfl
  have d2 := cell_of HK2.out.bg (i := 2) rfl
  have d3 := cell_of HK2.out.bg (i := 3) rfl
  clear c0 c1 c2 c3 HK1 hb2 HCK HG HSQ hwn
  have HGD := hide hgd
  clear hgd
  go_wp2_with fail
  go_region_with (first
    | (go_at_call 104; refine (callsIn_wide.1 (edgesT_any 0 n (.slice ao st.length ca) (.slice bo tl.length cb) (.slice co wt.length cc) _)).mono ?_; rintro e9 w9 ⟨rfl, hw9⟩; have HS9 := hide (HS2.out w9 hw9); have HK9 := hide (show MT w w9 n (.slice ao st.length ca) (.slice bo tl.length cb) (.slice co wt.length cc) from HK2.out.drew.below (by rw [hw9]; exact below_alloc (below_alloc (Below.refl _ _) _) _)); have f0 := cell_of HK9.out.bg (i := 0) rfl; clear hw9)
    | (go_at_call 103; refine (HAR.out _ _ HS9.out).mono ?_; rintro e8 w8 ⟨va8, vb8, vc8, st8, tl8, wt8, nx8, rfl, hGI, hSm, hLy, hb8⟩; obtain ⟨ao8, ca8, rfl⟩ := (hGI w8 (fun _ _ => rfl)).s.shape; obtain ⟨bo8, cb8, rfl⟩ := (hGI w8 (fun _ _ => rfl)).t.shape; obtain ⟨co8, cc8, rfl⟩ := (hGI w8 (fun _ _ => rfl)).u.shape; have HK8 := hide (HK9.out.below hb8); have HGI := hide hGI; have HSM := hide hSm; have HLY := hide hLy; have b0 := cell_of HK8.out.bg (i := 0) rfl; have r0 := cell_of HK8.out.rs (i := 0) rfl; have r1 := cell_of HK8.out.rs (i := 1) rfl; have r2 := cell_of HK8.out.rs (i := 2) rfl; have r3 := cell_of HK8.out.rs (i := 3) rfl; have q0 := free_of HK8.out.rs 0; have q1 := free_of HK8.out.rs 1; have q2 := free_of HK8.out.rs 2; have q3 := free_of HK8.out.rs 3; clear hGI hSm hLy hb8; unfold gAgg))
  all_goals
    go_wp2
    have hlt : w.heap.size + 1 < w9.heap.size := lt_of_heap HK9.out.rs
    have HPU := HK8.out.put (.int .i64 n) (.slice ao8 st8.length ca8) (.slice bo8 tl8.length cb8) (.slice co8 wt8.length cc8)
    have hLT := HLD.out _ _ _ _ HSM.out HLY.out
    exact bodyPost_ret (results_cell2 Try.results48 _ _ (w.heap.size + 1) 32 _ (0, 0) _ rfl HPU.1 Try.underlying32 rfl (by kernel_rfl) (.int .i64 0) rfl) rfl ⟨_, _, _, _, _, _, rfl, HGI.out _ (fun k hk => HPU.2.2 k (by omega)), hLT.1, hLT.2.1, hLT.2.2, HPU.2.1⟩
end Go.Proofs.Ythoklgdlnmccmaa

/- RouteTurned: the walk. -/
namespace Go.Proofs.Ythoklgdlnmccmaa
open Go.RowKit Go.Lib
set_option linter.unusedVariables false
theorem one_sat (w : World) (s : Int) : SAt (w.alloc (.cells #[.int .i64 s, .int .u64 0] 41)) (.slice (some ⟨w.heap.size, 0, none⟩) 1 1) [(s, 0)] := by
  have hh := heap_new w (.cells #[.int .i64 s, .int .u64 0] 41)
  refine ⟨_, _, rfl, by simp, by decide, fun i hi => ⟨w.heap.size, 0, rfl, ?_, ?_⟩⟩
  · have : i = 0 := by simp at hi; omega
    subst this
    exact cell_of hh rfl
  · have : i = 0 := by simp at hi; omega
    subst this
    exact cell_of hh rfl
theorem none_sat (w : World) : SAt w (.slice none 0 0) [] := ⟨_, _, rfl, by decide, by decide, fun i hi => by simp at hi⟩
set_option maxRecDepth 100000 in
set_option maxHeartbeats 4000000 in
theorem turned_bad (N : Int) (va vb vc : Value) (st tl wt : List Int) (k s t : Int) (w : World) (hg : GIs w N va vb vc st tl wt) (hst : st.length * 8 ≤ 140737488351232) (hto : tl.length * 8 ≤ 140737488351232) (hwt : wt.length * 8 ≤ 140737488351232)
    (hwb : ∀ e, 0 ≤ at_ wt e ∧ at_ wt e ≤ 18446744073709551615) (hbad : ¬ (srchNo N st tl wt k [] = 0 ∧ k ≠ 4 ∧ 0 ≤ s ∧ 0 ≤ t ∧ s < N ∧ t < N)) :
    Calls Try.prog 12 #[gAgg N va vb vc, .int .i64 k, .int .i64 s, .int .i64 t] w fun e w' => e = .returned (.bool true) ∧ Below w.heap.size w w' := by
  obtain ⟨ao, ca, rfl⟩ := hg.s.shape
  obtain ⟨bo, cb, rfl⟩ := hg.t.shape
  obtain ⟨co, cc, rfl⟩ := hg.u.shape
  obtain ⟨c0, c1, c2, c3, hb1, hs1⟩ := boxed w (.int .i64 N) (.slice ao st.length ca) (.slice bo tl.length cb) (.slice co wt.length cc)
  have HF := hide (fits_law N _ _ _ st tl wt k _ [] _ (hg.below hb1) hst hto hwt (none_sat _) (fun j hj => by simp at hj) (by decide))
  have HSL := hide (fun (W : World) h hs => searches_law N (.slice ao st.length ca) (.slice bo tl.length cb) (.slice co wt.length cc) st tl wt k (.slice (some ⟨W.heap.size, 0, none⟩) 1 1) [(s, 0)] (W.alloc (.cells #[.int .i64 s, .int .u64 0] 41)) h hst hto hwt hs (fun j hj => by
    have : j = 0 := by simp at hj; omega
    subst this; simp [sAt]) (by simp) hwb)
  have HG1 := hide (hg.below hb1)
  have HB1 := hide hb1
  obtain ⟨b, hB⟩ : ∃ b, b = decide (srchNo N st tl wt k [] = 0) := ⟨_, rfl⟩
  rw [← hB] at HF
  have harm : b = false ∨ (b = true ∧ k = 4) ∨ (b = true ∧ (k == 4) = false ∧ decide (s < 0) = true) ∨ (b = true ∧ (k == 4) = false ∧ decide (s < 0) = false ∧ decide (t < 0) = true) ∨ (b = true ∧ (k == 4) = false ∧ decide (s < 0) = false ∧ decide (t < 0) = false ∧ decide (s ≥ N) = true) ∨ (b = true ∧ (k == 4) = false ∧ decide (s < 0) = false ∧ decide (t < 0) = false ∧ decide (s ≥ N) = false ∧ decide (t ≥ N) = true) := by
    cases b with
    | false => exact .inl rfl
    | true =>
      have h0 : srchNo N st tl wt k [] = 0 := of_decide_eq_true hB.symm
      right
      by_cases h1 : k = 4
      · exact .inl ⟨rfl, h1⟩
      · have e1 : (k == 4) = false := by simp [h1]
        right
        by_cases h2 : s < 0
        · exact .inl ⟨rfl, e1, decide_eq_true h2⟩
        · right
          by_cases h3 : t < 0
          · exact .inl ⟨rfl, e1, decide_eq_false h2, decide_eq_true h3⟩
          · right
            by_cases h4 : s ≥ N
            · exact .inl ⟨rfl, e1, decide_eq_false h2, decide_eq_false h3, decide_eq_true h4⟩
            · by_cases h5 : t ≥ N
              · exact .inr ⟨rfl, e1, decide_eq_false h2, decide_eq_false h3, decide_eq_false h4, decide_eq_true h5⟩
              · exact absurd ⟨h0, h1, by omega, by omega, by omega, by omega⟩ hbad
  unfold gAgg at HF HSL ⊢
  clear hb1 hB hg hbad hwb hst hto hwt
  go_enter Try.func12, Try.ntmps12
  go_wp2_with fail
  generalize (w.alloc (.cells #[.int .i64 N, .slice ao st.length ca, .slice bo tl.length cb, .slice co wt.length cc] 32)) = w1 at c0 c1 c2 c3 hs1 HB1 HF HG1 ⊢
  refine HF.out.mono ?_
  rintro e w2 ⟨rfl, hb2⟩
  obtain ⟨d0, d1, d2, d3⟩ := box_keep hs1 hb2 ⟨c0, c1, c2, c3⟩
  have HB2 := hide (below_on HB1.out hb2)
  have HG2 := hide (HG1.out.below hb2)
  have HC := hide (HSL.out w2 (HG2.out.below (below_alloc (Below.refl _ _) _)) (one_sat w2 s))
  clear c0 c1 c2 c3 hb2 HF HG1 HB1 HSL hs1
  rcases harm with rfl | ⟨rfl, rfl⟩ | ⟨rfl, h1, h2⟩ | ⟨rfl, h1, h2, h3⟩ | ⟨rfl, h1, h2, h3, h4⟩ | ⟨rfl, h1, h2, h3, h4, h5⟩
  all_goals
    go_wp2_with fail
    refine HC.out.mono ?_
    rintro e w3 ⟨rfl, hb3⟩
    have HB3 := hide (below_on (below_alloc HB2.out _) hb3)
    clear d0 d1 d2 d3 hb3 HC
    go_wp2
    go_ret
    exact ⟨rfl, HB3.out⟩
theorem srch_one {n : Nat} {st tl wt : List Int} {k : Int} {s : Nat} (hf : fstNo n st tl wt k = 0) (hs : s < n) : srchNo n st tl wt k [((s : Int), 0)] = 0 := by
  unfold srchNo
  rw [if_pos hf]
  refine st_none fun i hi => ?_
  have : i = 0 := by simp at hi; omega
  subst this
  unfold sBad
  rw [if_pos (by simp [sAt]; omega)]
  simp [sAt]
theorem srch_fst' {N : Int} {st tl wt : List Int} {k : Int} {S : List Pr} (h : srchNo N st tl wt k S = 0) : fstNo N st tl wt k = 0 := by
  unfold srchNo at h
  split at h
  · assumption
  · exact h
theorem fst_turned {n : Nat} {st tl wt st' tl' wt' : List Int} {k : Int} (hg : Good n st tl wt) (hg' : Good n st' tl' wt') (h : fstNo n st tl wt k = 0) : fstNo n st' tl' wt' k = 0 := by
  unfold fstNo at h ⊢
  rw [if_pos (good_chk' hg)] at h
  rw [if_pos (good_chk' hg')]
  exact h
theorem wts_turned {n : Nat} {st tl wt st' tl' wt' : List Int} (hg' : Good n st' tl' wt') (hT : Tur n st' tl' wt' st tl wt) (hw : ∀ e, 0 ≤ at_ wt e ∧ at_ wt e ≤ 18446744073709551615) : ∀ e, 0 ≤ at_ wt' e ∧ at_ wt' e ≤ 18446744073709551615 := by
  intro e
  by_cases he : e < tl'.length
  · obtain ⟨f, h1, h2, h3, h4⟩ := hT e he
    rw [← h4]; exact hw f
  · have : at_ wt' e = 0 := by
      unfold at_
      rw [List.getElem?_eq_none (by rw [hg'.w_len]; omega)]
      rfl
    rw [this]; decide
theorem one_ok {n s : Nat} (hs : s < n) : Sok n [((s : Int), 0)] := by
  intro j hj
  have : j = 0 := by simp at hj; omega
  subst this
  simp [sAt]
  omega
set_option maxRecDepth 100000 in
set_option maxHeartbeats 4000000 in
theorem turned_good (n : Nat) (va vb vc : Value) (st tl wt : List Int) (k : Int) (s t : Nat) (w : World) (hg : GIs w n va vb vc st tl wt) (hst : st.length * 8 ≤ 140737488351232) (hto : tl.length * 8 ≤ 140737488351232) (hwt : wt.length * 8 ≤ 140737488351232)
    (hwb : ∀ e, 0 ≤ at_ wt e ∧ at_ wt e ≤ 18446744073709551615) (hno : srchNo n st tl wt k [] = 0) (hk4 : k ≠ 4) (hs : s < n) (ht : t < n) :
    Calls Try.prog 12 #[gAgg n va vb vc, .int .i64 k, .int .i64 s, .int .i64 t] w fun e w' => e = .returned (.bool true) ∧ Below w.heap.size w w' := by
  obtain ⟨ao, ca, rfl⟩ := hg.s.shape
  obtain ⟨bo, cb, rfl⟩ := hg.t.shape
  obtain ⟨co, cc, rfl⟩ := hg.u.shape
  have hfst := srch_fst' hno
  obtain ⟨hkk, n', hnn, hgd⟩ := fst_good hfst
  obtain rfl : n = n' := by omega
  have hn := hgd.n_le
  have hk : k = 1 ∨ k = 2 ∨ k = 3 := by omega
  obtain ⟨c0, c1, c2, c3, hb1, hs1⟩ := boxed w (.int .i64 n) (.slice ao st.length ca) (.slice bo tl.length cb) (.slice co wt.length cc)
  have HF := hide (fits_law n _ _ _ st tl wt k _ [] _ (hg.below hb1) hst hto hwt (none_sat _) (fun j hj => by simp at hj) (by decide))
  rw [decide_eq_true hno] at HF
  have HTW := hide (fun W h => twin_any n (.slice ao st.length ca) (.slice bo tl.length cb) (.slice co wt.length cc) st tl wt W h hst hto hwt)
  have HTN := hide (fun a b c W h => turn_good n a b c st tl wt W h hgd (fun e => (hwb e).1))
  have HS1 := hide (fun a b c (W : World) h => rsearch_good n a b c st tl wt k (.slice (some ⟨W.heap.size, 0, none⟩) 1 1) [((s : Int), 0)] (W.alloc (.cells #[.int .i64 s, .int .u64 0] 41)) h hgd hwb (one_sat W s) (one_ok hs) (by simp) (srch_one hfst hs))
  have HS2 := hide (fun a b c (W : World) st' tl' wt' h hg' (hT : Tur n st' tl' wt' st tl wt) => rsearch_good n a b c st' tl' wt' k (.slice (some ⟨W.heap.size, 0, none⟩) 1 1) [((t : Int), 0)] (W.alloc (.cells #[.int .i64 t, .int .u64 0] 41)) h hg' (wts_turned hg' hT hwb) (one_sat W t) (one_ok ht) (by simp) (srch_one (fst_turned hgd hg' hfst) ht))
  have HEQ := hide (fun st' tl' wt' L M hg' (hT : Tur n st tl wt st' tl' wt') (hT' : Tur n st' tl' wt' st tl wt) hL hM => turned_eq (st' := st') (tl' := tl') (wt' := wt') (L := L) (M := M) hk hwb (wts_turned hg' hT' hwb) hs ht hT hT' hL hM)
  have HG1 := hide (hg.below hb1)
  have HB1 := hide hb1
  have h4 : (k == 4) = false := by simp [hk4]
  have g1 : decide ((s : Int) < 0) = false := decide_eq_false (by omega)
  have g2 : decide ((t : Int) < 0) = false := decide_eq_false (by omega)
  have g3 : decide ((s : Int) ≥ n) = false := decide_eq_false (by omega)
  have g4 : decide ((t : Int) ≥ n) = false := decide_eq_false (by omega)
  unfold gAgg at HF HTW HTN HS1 HS2 ⊢
  clear hb1 hg hwb hst hto hwt hno hfst hkk hnn hk hk4 hgd
  go_enter Try.func12, Try.ntmps12
  go_wp2_with fail
  generalize (w.alloc (.cells #[.int .i64 n, .slice ao st.length ca, .slice bo tl.length cb, .slice co wt.length cc] 32)) = w1 at c0 c1 c2 c3 hs1 HB1 HF HG1 ⊢
  refine HF.out.mono ?_
  rintro e w2 ⟨rfl, hb2⟩
  obtain ⟨d0, d1, d2, d3⟩ := box_keep hs1 hb2 ⟨c0, c1, c2, c3⟩
  have hs2 : w.heap.size < w2.heap.size := by have := hb2.size; omega
  have HB2 := hide (below_on HB1.out hb2)
  have HG2 := hide (HG1.out.below hb2)
  clear c0 c1 c2 c3 hb2 HF HG1 HB1 hs1
  go_wp2_with fail
  clear h4 g1 g2 g3 g4
  refine (HTW.out w2 HG2.out).mono ?_
  rintro e w3 ⟨g1, p1, g2, p2, g3, p3, rfl, ht3, hb3⟩
  have HX3 := hide (box_keep hs2 hb3 ⟨d0, d1, d2, d3⟩)
  have hs3 : w.heap.size < w3.heap.size := Nat.lt_of_lt_of_le hs2 hb3.size
  have HB3 := hide (below_on HB2.out hb3)
  have HG3 := hide (HG2.out.below hb3)
  have HT3 := hide ht3
  clear d0 d1 d2 d3 ht3 hb3 hs2 HB2 HG2
  unfold tAgg gAgg
  go_wp2_with fail
  refine (HTN.out _ _ _ w3 HT3.out.gis).mono ?_
  rintro e w4 ⟨va', vb', vc', st', tl', wt', rfl, hg4, hgd4, hTa, hTb, hb4⟩
  obtain ⟨ao', ca', rfl⟩ := hg4.s.shape
  obtain ⟨bo', cb', rfl⟩ := hg4.t.shape
  obtain ⟨co', cc', rfl⟩ := hg4.u.shape
  obtain ⟨w5, hw5⟩ : ∃ w5, w5 = w4.alloc (.cells #[.int .i64 n, .slice ao' st'.length ca', .slice bo' tl'.length cb', .slice co' wt'.length cc'] 32) := ⟨_, rfl⟩
  have b5 : Below w4.heap.size w4 w5 := by rw [hw5]; exact below_alloc (Below.refl _ _) _
  have hbx : w5.heap[w4.heap.size]? = some (.cells #[.int .i64 n, .slice ao' st'.length ca', .slice bo' tl'.length cb', .slice co' wt'.length cc'] 32 (0, 0)) := by rw [hw5]; exact heap_new _ _
  have HBX := hide hbx
  have b35 := below_on hb4 b5
  obtain ⟨d0, d1, d2, d3⟩ := box_keep hs3 b35 HX3.out
  have HX5 := hide (And.intro d0 (And.intro d1 (And.intro d2 d3)))
  have hs5 : w.heap.size < w5.heap.size := Nat.lt_of_lt_of_le hs3 b35.size
  have HB5 := hide (below_on HB3.out b35)
  have HG5 := hide (HG3.out.below b35)
  have HH5 := hide (hg4.below b5)
  have HGD4 := hide (And.intro hgd4 (And.intro hTa hTb))
  clear hg4 hgd4 hTa hTb hb4 b5 hbx b35 HX3 HB3 HG3 HT3 HTN hs3
  rw [hw5] at d0 d1 d2 d3
  unfold gAgg
  go_wp2_with fail
  rw [← hw5]
  clear hw5 d0 d1 d2 d3
  refine (HTW.out w5 HG5.out).mono ?_
  rintro e w6 ⟨k1, q1, k2, q2, k3, q3, rfl, ht6, hb6⟩
  have HB6 := hide (below_on HB5.out hb6)
  have HH6 := hide (HH5.out.below hb6)
  have HX6 := hide (box_keep hs5 hb6 HX5.out)
  have hs6 : w.heap.size < w6.heap.size := Nat.lt_of_lt_of_le hs5 hb6.size
  have HBX6 : Hid (w6.heap[w4.heap.size]? = _) := (hb6.block _ (lt_of_heap HBX.out)).trans HBX.out
  have HT6 := hide (ht6.below (below_alloc (Below.refl _ _) (.cells #[.int .i64 s, .int .u64 0] 41)))
  clear ht6 hb6 HB5 HH5 HX5 hs5 HBX HG5 HTW
  unfold tAgg gAgg
  go_wp2_with fail
  refine (HS1.out _ _ _ w6 HT6.out.gis).mono ?_
  rintro e w7 ⟨Ga, L, rfl, hGa, hA, hF, hb7⟩
  have b67 := below_on (below_alloc (Below.refl _ _) (.cells #[.int .i64 s, .int .u64 0] 41)) hb7
  have HB7 := hide (below_on HB6.out b67)
  have HH7 := hide ((HH6.out.below b67).below (below_alloc (Below.refl _ _) (.cells #[.int .i64 t, .int .u64 0] 41)))
  have HX7 := hide (box_keep hs6 b67 HX6.out)
  have hs7 : w.heap.size < w7.heap.size := Nat.lt_of_lt_of_le hs6 b67.size
  have hbx7 : w7.heap[w4.heap.size]? = _ := (b67.block _ (lt_of_heap HBX6.out)).trans HBX6.out
  have e0 := cell_of hbx7 (i := 0) rfl
  have e1 := cell_of hbx7 (i := 1) rfl
  have e2 := cell_of hbx7 (i := 2) rfl
  have e3 := cell_of hbx7 (i := 3) rfl
  have HA := hide hA; have HFA := hide hF
  clear hGa hA hF hb7 b67 HB6 HH6 HX6 hs6 HBX6 HT6 HS1 hbx7
  go_wp2_with fail
  refine (HS2.out _ _ _ w7 st' tl' wt' HH7.out HGD4.out.1 HGD4.out.2.2).mono ?_
  rintro e w8 ⟨Gb, M, rfl, hGb, hB, hFb, hb8⟩
  have b78 := below_on (below_alloc (Below.refl _ _) (.cells #[.int .i64 t, .int .u64 0] 41)) hb8
  have HB8 := hide (below_on HB7.out b78)
  obtain ⟨x0, _, _, _⟩ := box_keep hs7 b78 HX7.out
  have hA8 : ArrU w8 Ga L := (b78.block _ (lt_of_heap HA.out)).trans HA.out
  have a1 := hA8.cell t (by rw [HFA.out.len]; exact ht)
  have a2 := hB.cell s (by rw [hFb.len]; exact hs)
  have heq := HEQ.out st' tl' wt' L M HGD4.out.1 HGD4.out.2.1 HGD4.out.2.2 HFA.out hFb
  rw [heq] at a1
  generalize at_ M s = y at a1 a2
  have hti : (t : Int) < (n : Int) := by omega
  have hsi : (s : Int) < (n : Int) := by omega
  clear hGb hB hFb hb8 b78 HB7 HH7 HX7 hs7 e0 e1 e2 e3 HA HFA HS2 HEQ HGD4 hA8 heq
  go_wp2_with fail
  go_quiet (fail)
  go_wp2
  go_ret
  exact ⟨by simp, below_drewN HB8.out _⟩
theorem turned_law (N : Int) (va vb vc : Value) (st tl wt : List Int) (k s t : Int) (w : World) (hg : GIs w N va vb vc st tl wt) (hst : st.length * 8 ≤ 140737488351232) (hto : tl.length * 8 ≤ 140737488351232) (hwt : wt.length * 8 ≤ 140737488351232)
    (hwb : ∀ e, 0 ≤ at_ wt e ∧ at_ wt e ≤ 18446744073709551615) :
    Calls Try.prog 12 #[gAgg N va vb vc, .int .i64 k, .int .i64 s, .int .i64 t] w fun e w' => e = .returned (.bool true) ∧ Below w.heap.size w w' := by
  by_cases h : srchNo N st tl wt k [] = 0 ∧ k ≠ 4 ∧ 0 ≤ s ∧ 0 ≤ t ∧ s < N ∧ t < N
  · obtain ⟨h1, h2, h3, h4, h5, h6⟩ := h
    obtain ⟨n, rfl, _⟩ := (fst_good (srch_fst' h1)).2
    obtain ⟨a, rfl⟩ := Int.eq_ofNat_of_zero_le h3
    obtain ⟨b, rfl⟩ := Int.eq_ofNat_of_zero_le h4
    exact turned_good n va vb vc st tl wt k a b w hg hst hto hwt hwb h1 h2 (by omega) (by omega)
  · exact turned_bad N va vb vc st tl wt k s t w hg hst hto hwt hwb h
end Go.Proofs.Ythoklgdlnmccmaa
