/- graph.Turn of a graph. -/
import Derived.Test.YtehlciejhegndaaArr2
import Derived.Test.YtehlciejhegndaaRefS
import Derived.BigRegion
import Derived.BigQuiet
namespace Go.Proofs.Ytehlciejhegndaa
open Go.RowKit Go.Lib
set_option linter.unusedVariables false
theorem results_cell2 {P : Program} {fn : Func} {p u : Tmp} {ty : TypeId} (h : fn.results = #[.cell p ty, .tmp u]) (tmps : Array Value) (w : World) (g : Nat) (t : TypeId) (cs : Array Value) (fr : Nat × Nat) (d : TypeDesc)
    (hp : tmps.getD p undef = .pointer (some ⟨g, 0, none⟩)) (hg : w.heap[g]? = some (.cells cs t fr))
    (hu : P.underlying ty = some d) (hd : (match d with | .struct _ | .array _ _ => true | _ => false) = true) (hi : (P.info? ty).map (·.size) = some cs.size) (x : Value) (hx : tmps.getD u undef = x) :
    (results fn tmps).run P w = .ok (.tuple #[.agg cs, x]) w := by
  subst hx
  have hp' : tmps[p]?.getD undef = .pointer (some ⟨g, 0, none⟩) := by simpa using hp
  simp only [results, h]
  simp [Result.andThen, hp', asAddr, run_loadVar_row w g t ty cs fr d hg hu hd hi]
structure MT (w x : World) (N : Int) (va vb vc : Value) : Prop where
  bg : x.heap[w.heap.size]? = some (.cells #[.int .i64 N, va, vb, vc] 25 (0, 0))
  rs : x.heap[w.heap.size + 1]? = some (.cells #[.int .i64 0, .slice none 0 0, .slice none 0 0, .slice none 0 0] 25 (0, 0))
  bel : Below w.heap.size w x
theorem MT.start (w : World) (N : Int) (va vb vc : Value) : MT w ((w.alloc (.cells #[.int .i64 N, va, vb, vc] 25)).alloc (.cells #[.int .i64 0, .slice none 0 0, .slice none 0 0, .slice none 0 0] 25)) N va vb vc := by
  have hs : (w.alloc (.cells #[.int .i64 N, va, vb, vc] 25)).heap.size = w.heap.size + 1 := by simp
  refine ⟨?_, ?_, below_alloc (below_alloc (Below.refl _ _) _) _⟩
  · exact (Below.heap_alloc _ _ _ (by rw [hs]; omega)).trans (heap_new _ _)
  · have := heap_new (w.alloc (.cells #[.int .i64 N, va, vb, vc] 25)) (.cells #[.int .i64 0, .slice none 0 0, .slice none 0 0, .slice none 0 0] 25)
    rw [hs] at this; exact this
theorem MT.below {w x x' : World} {N : Int} {va vb vc : Value} (h : MT w x N va vb vc) (hb : Below x.heap.size x x') : MT w x' N va vb vc :=
  ⟨(hb.block _ (lt_of_heap h.bg)).trans h.bg, (hb.block _ (lt_of_heap h.rs)).trans h.rs, below_on h.bel hb⟩
theorem MT.drew {w x : World} {N : Int} {va vb vc : Value} (h : MT w x N va vb vc) : MT w x.drew N va vb vc := h.below (below_drew (Below.refl _ _))
theorem MT.put {w x : World} {N : Int} {va vb vc : Value} (h : MT w x N va vb vc) (y0 y1 y2 y3 : Value) :
    ((((x.setCell ⟨w.heap.size + 1, 0, none⟩ y0).setCell ⟨w.heap.size + 1, 1, none⟩ y1).setCell ⟨w.heap.size + 1, 2, none⟩ y2).setCell ⟨w.heap.size + 1, 3, none⟩ y3).heap[w.heap.size + 1]? = some (.cells #[y0, y1, y2, y3] 25 (0, 0)) ∧
    Below w.heap.size w ((((x.setCell ⟨w.heap.size + 1, 0, none⟩ y0).setCell ⟨w.heap.size + 1, 1, none⟩ y1).setCell ⟨w.heap.size + 1, 2, none⟩ y2).setCell ⟨w.heap.size + 1, 3, none⟩ y3) ∧
    ∀ k, k ≠ w.heap.size + 1 → ((((x.setCell ⟨w.heap.size + 1, 0, none⟩ y0).setCell ⟨w.heap.size + 1, 1, none⟩ y1).setCell ⟨w.heap.size + 1, 2, none⟩ y2).setCell ⟨w.heap.size + 1, 3, none⟩ y3).heap[k]? = x.heap[k]? := by
  refine ⟨by rw [heap_set (heap_set (heap_set (heap_set h.rs _) _) _) _]; rfl, ?_, fun k hk => ?_⟩
  · exact (((h.bel.setCell (p := ⟨w.heap.size + 1, 0, none⟩) (by simp) _).setCell (p := ⟨w.heap.size + 1, 1, none⟩) (by simp) _).setCell (p := ⟨w.heap.size + 1, 2, none⟩) (by simp) _).setCell (p := ⟨w.heap.size + 1, 3, none⟩) (by simp) _
  · rw [Below.heap_setCell _ _ _ _ (by exact hk), Below.heap_setCell _ _ _ _ (by exact hk), Below.heap_setCell _ _ _ _ (by exact hk), Below.heap_setCell _ _ _ _ (by exact hk)]
theorem good_chk' {n : Nat} {st tl wt : List Int} (h : Good n st tl wt) : (chk n st tl wt).1 = 0 := by
  have hf : Fits (n : Int) tl.length := ⟨by omega, by have := h.n_le; omega, h.m_le⟩
  unfold chk
  rw [if_pos hf, if_pos ⟨by rw [h.s_len]; omega, h.w_len⟩]
  have h1 : chkRows (n : Int).toNat tl.length st = none := by
    unfold chkRows
    exact first_none fun i hi => by
      rw [Int.toNat_natCast] at hi ⊢
      simpa [badRow] using h.rows i hi
  rw [h1]
  simp only [chkEdges]
  rw [first_none (p := badEdge (n : Int).toNat tl wt) fun e he => by
    rw [Int.toNat_natCast]
    simpa [badEdge] using h.edges e he]
theorem upto_congr {α : Type} {f g : Nat → α} {k : Nat} (h : ∀ i, i < k → f i = g i) : upto f k = upto g k := by
  unfold upto
  exact List.map_congr_left fun i hi => h i (List.mem_range.1 hi)
theorem Try.results47 : Try.f47.results = #[.cell 2 25, .tmp 3] := by kernel_rfl
/-- The lists of the turned graph, as they are laid. -/
def TrL (n : Nat) (st tl wt st' tl' wt' : List Int) : Prop := Summed n tl.length (tov tl) n st' ∧ ∃ nx, Laying n tl.length (tov tl) (src st n) (fun e => at_ wt e) tl.length nx tl' wt'
def TurnW (w : World) (n : Nat) (st tl wt : List Int) (e : Ending) (w' : World) : Prop :=
  ∃ va vb vc st' tl' wt', e = .returned (.tuple #[gAgg n va vb vc, .int .i64 0]) ∧ GIs w' n va vb vc st' tl' wt' ∧ Good n st' tl' wt' ∧ TrL n st tl wt st' tl' wt' ∧ Below w.heap.size w w'
/-- The two boxes behind which the function of the turned edges goes. -/
theorem turn_seq (n : Nat) (va vb vc : Value) (st tl wt : List Int) (w0 x x' : World) (hg : GIs w0 n va vb vc st tl wt) (hgd : Good n st tl wt) (hb : Below w0.heap.size w0 x)
    (hx : x' = (x.alloc (.cells #[.int .i64 n, va, vb, vc] 25)).alloc (.cells #[.func (.func 88) #[] #[]] 131)) :
    ∀ Tt : Nat → Prop, (∀ k, Tt k → x'.heap.size ≤ k) → Gv Tt Try.prog 114 #[.pointer (some ⟨x.heap.size, 0, none⟩), .pointer (some ⟨x.heap.size + 1, 0, none⟩)] encE (upto (fEd (tov tl) (src st n) (fun e => at_ wt e)) tl.length) x' := by
  intro Tt hT
  have hs : x'.heap.size = x.heap.size + 2 := by rw [hx]; simp
  have e1 : upto (fEd (tov tl) (src st n) (fun e => at_ wt e)) tl.length = upto (turnAt n st tl wt) tl.length := upto_congr fun i hi => by
    unfold fEd turnAt
    rw [(tov_lt hgd hi).2]
  rw [e1]
  have hB : x'.heap[x.heap.size]? = some (.cells #[.int .i64 n, va, vb, vc] 25 (0, 0)) := by
    rw [hx]; exact (Below.heap_alloc _ _ _ (by simp)).trans (heap_new _ _)
  have hC : x'.heap[x.heap.size + 1]? = some (.cells #[.func (.func 88) #[] #[]] 131 (0, 0)) := by
    have := heap_new (x.alloc (.cells #[.int .i64 n, va, vb, vc] 25)) (.cells #[.func (.func 88) #[] #[]] 131)
    rw [World.size_alloc] at this
    rw [hx]; exact this
  exact edgesT_gives Tt n va vb vc st tl wt x.heap.size (x.heap.size + 1) w0 x' hg hgd (by rw [hx]; exact below_alloc (below_alloc hb _) _) (fun k hk => by have := hT k hk; have := hb.size; omega) hB hC
set_option maxRecDepth 100000 in
set_option maxHeartbeats 4000000 in
theorem turn_good (n : Nat) (va vb vc : Value) (st tl wt : List Int) (w : World) (hg : GIs w n va vb vc st tl wt) (hgd : Good n st tl wt) (hwn : ∀ e, 0 ≤ at_ wt e) :
    Calls Try.prog 47 #[gAgg n va vb vc] w (TurnW w n st tl wt) := by
  obtain ⟨ao, ca, rfl⟩ := hg.s.shape
  obtain ⟨bo, cb, rfl⟩ := hg.t.shape
  obtain ⟨co, cc, rfl⟩ := hg.u.shape
  have hml := hgd.m_le
  have hn := hgd.n_le
  have hchk := good_chk' hgd
  obtain ⟨⟨r1, r2⟩, hrr⟩ : ∃ r, chk n st tl wt = r := ⟨_, rfl⟩
  rw [hrr] at hchk
  simp only at hchk
  subst hchk
  have hck := (fun W h => check_all n (.slice ao st.length ca) (.slice bo tl.length cb) (.slice co wt.length cc) st tl wt W h (by have := hgd.s_len; omega) (by omega) (by have := hgd.w_len; omega))
  rw [hrr] at hck
  have HCK := hide hck
  have HSQ := hide (fun x x' hb hx => turn_seq n (.slice ao st.length ca) (.slice bo tl.length cb) (.slice co wt.length cc) st tl wt w x x' hg hgd hb hx)
  have HAR := hide (fun x lb hs => callsIn_wide.1 (arrange_any 0 n tl.length lb (tov tl) (src st n) (fun e => at_ wt e) x hn hml (fun i hi => (tov_lt hgd hi).1) (fun i hi => src_lt hgd hi) (fun i hi => ⟨hwn i, (hgd.vtx i hi).2.2⟩) hs))
  have HLD := hide (fun st' nx tl' wt' h1 h2 => laid_tur (st' := st') (nx := nx) (tl' := tl') (wt' := wt') hgd h1 h2)
  have HK1 := hide (MT.start w n (.slice ao st.length ca) (.slice bo tl.length cb) (.slice co wt.length cc))
  have HG := hide hg
  have c0 := cell_of HK1.out.bg (i := 0) rfl
  have c1 := cell_of HK1.out.bg (i := 1) rfl
  have c2 := cell_of HK1.out.bg (i := 2) rfl
  have c3 := cell_of HK1.out.bg (i := 3) rfl
  unfold gAgg at HCK ⊢
  clear hg hck hrr
  go_enter Try.func47, Try.ntmps47
  go_wp2_with fail
  generalize ((w.alloc (.cells #[.int .i64 n, .slice ao st.length ca, .slice bo tl.length cb, .slice co wt.length cc] 25)).alloc (.cells #[.int .i64 0, .slice none 0 0, .slice none 0 0, .slice none 0 0] 25)) = w1 at c0 c1 c2 c3 HK1 ⊢
  refine (HCK.out w1 (HG.out.below HK1.out.bel)).mono ?_
  rintro e w2 ⟨rfl, hb2⟩
  have HK2 := hide (HK1.out.below hb2)
  have HS2 := hide (fun x' hx => HSQ.out w2.drew x' HK2.out.drew.bel hx)
  have d0 := cell_of HK2.out.bg (i := 0) rfl
  have d1 := cell_of HK2.out.bg (i := 1) rfl
  have d2 := cell_of HK2.out.bg (i := 2) rfl
  have d3 := cell_of HK2.out.bg (i := 3) rfl
  clear c0 c1 c2 c3 HK1 hb2 HCK HG HSQ hwn
  have HGD := hide hgd
  clear hgd
  go_wp2_with fail
  go_region_with (first
    | (go_at_call 90; refine (callsIn_wide.1 (edgesT_any 0 n (.slice ao st.length ca) (.slice bo tl.length cb) (.slice co wt.length cc) _)).mono ?_; rintro e9 w9 ⟨rfl, hw9⟩; have HS9 := hide (HS2.out w9 hw9); have HK9 := hide (show MT w w9 n (.slice ao st.length ca) (.slice bo tl.length cb) (.slice co wt.length cc) from HK2.out.drew.below (by rw [hw9]; exact below_alloc (below_alloc (Below.refl _ _) _) _)); have f0 := cell_of HK9.out.bg (i := 0) rfl; clear hw9)
    | (go_at_call 89; refine (HAR.out _ _ HS9.out).mono ?_; rintro e8 w8 ⟨va8, vb8, vc8, st8, tl8, wt8, nx8, rfl, hGI, hSm, hLy, hb8⟩; obtain ⟨ao8, ca8, rfl⟩ := (hGI w8 (fun _ _ => rfl)).s.shape; obtain ⟨bo8, cb8, rfl⟩ := (hGI w8 (fun _ _ => rfl)).t.shape; obtain ⟨co8, cc8, rfl⟩ := (hGI w8 (fun _ _ => rfl)).u.shape; have HK8 := hide (HK9.out.below hb8); have HGI := hide hGI; have HSM := hide hSm; have HLY := hide hLy; have b0 := cell_of HK8.out.bg (i := 0) rfl; have r0 := cell_of HK8.out.rs (i := 0) rfl; have r1 := cell_of HK8.out.rs (i := 1) rfl; have r2 := cell_of HK8.out.rs (i := 2) rfl; have r3 := cell_of HK8.out.rs (i := 3) rfl; have q0 := free_of HK8.out.rs 0; have q1 := free_of HK8.out.rs 1; have q2 := free_of HK8.out.rs 2; have q3 := free_of HK8.out.rs 3; clear hGI hSm hLy hb8; unfold gAgg))
  all_goals
    go_wp2
    have hlt : w.heap.size + 1 < w9.heap.size := lt_of_heap HK9.out.rs
    have HPU := HK8.out.put (.int .i64 n) (.slice ao8 st8.length ca8) (.slice bo8 tl8.length cb8) (.slice co8 wt8.length cc8)
    have hLT := HLD.out _ _ _ _ HSM.out HLY.out
    exact bodyPost_ret (results_cell2 Try.results47 _ _ (w.heap.size + 1) 25 _ (0, 0) _ rfl HPU.1 Try.underlying25 rfl (by kernel_rfl) (.int .i64 0) rfl) rfl ⟨_, _, _, _, _, _, rfl, HGI.out _ (fun k hk => HPU.2.2 k (by omega)), hLT.1, ⟨HSM.out, _, HLY.out⟩, HPU.2.1⟩
end Go.Proofs.Ytehlciejhegndaa

