/- route.Starts and the reference's. -/
import Derived.Test.YthoklgdlnmccmaaSRow
namespace Go.Proofs.Ythoklgdlnmccmaa
open Go.RowKit Go.Lib
set_option linter.unusedVariables false

theorem Try.info41 : (Try.prog.info? 41).map (fun i => (i.zero, i.size, i.bytes)) = some (some (.agg #[.int .i64 0, .int .u64 0]), 2, 16) := by kernel_rfl

/-- What a call of Starts has made: its list, its error. -/
def StPost (w : World) (l : List (Int × Int)) (no : Int) (e : Ending) (w' : World) : Prop := ∃ v, e = .returned (.tuple #[v, .int .i64 no]) ∧ SRow w' v l ∧ Below w.heap.size w w'

set_option maxRecDepth 100000 in
set_option maxHeartbeats 2000000 in
theorem starts_bad (N : Int) (va vb vc : Value) (st to wt : List Int) (k f : Int) (w : World) (hg : GIs w N va vb vc st to wt) (hst : st.length ≤ 17592186044416) (hto : to.length ≤ 17592186044416) (hwt : wt.length ≤ 17592186044416)
    (hbad : fstNo N st to wt k ≠ 0) : Calls Try.prog 23 #[gAgg N va vb vc, .int .i64 k, .int .i64 f] w (StPost w [] (fstNo N st to wt k)) := by
  obtain ⟨ao, ca, rfl⟩ := hg.s.shape
  obtain ⟨bo, cb, rfl⟩ := hg.t.shape
  obtain ⟨co, cc, rfl⟩ := hg.u.shape
  have HG := hide hg
  clear hg
  obtain ⟨c0, c1, c2, c3, hb1, hs1⟩ := boxed w (.int .i64 N) (.slice ao st.length ca) (.slice bo to.length cb) (.slice co wt.length cc)
  have HF := hide (graphNo_any N _ _ _ st to wt k _ (HG.out.below hb1) hst hto hwt)
  unfold gAgg at HF ⊢
  obtain ⟨x, hX⟩ : ∃ x, x = fstNo N st to wt k := ⟨_, rfl⟩
  rw [← hX] at HF hbad ⊢
  have hx : (x != 0) = true := by simp [hbad]
  have HB1 := hide hb1
  clear hb1 hX hbad
  go_enter Try.func23, Try.ntmps23
  go_wp2_with fail
  generalize (w.alloc (.cells #[.int .i64 N, .slice ao st.length ca, .slice bo to.length cb, .slice co wt.length cc] 32)) = w1 at c0 c1 c2 c3 hs1 HB1 HF ⊢
  refine HF.out.mono ?_
  rintro e w2 ⟨rfl, hb2⟩
  have HB2 := hide (below_on HB1.out hb2)
  clear c0 c1 c2 c3 hb2 HF
  go_wp2
  go_ret2
  exact ⟨_, rfl, SRow.nil _, HB2.out⟩

set_option maxRecDepth 100000 in
set_option maxHeartbeats 2000000 in
theorem starts_out (N : Int) (va vb vc : Value) (st to wt : List Int) (k f : Int) (w : World) (hg : GIs w N va vb vc st to wt) (hst : st.length ≤ 17592186044416) (hto : to.length ≤ 17592186044416) (hwt : wt.length ≤ 17592186044416)
    (hok : fstNo N st to wt k = 0) (hf : ¬ (0 ≤ f ∧ f < N)) : Calls Try.prog 23 #[gAgg N va vb vc, .int .i64 k, .int .i64 f] w (StPost w [] 30) := by
  obtain ⟨ao, ca, rfl⟩ := hg.s.shape
  obtain ⟨bo, cb, rfl⟩ := hg.t.shape
  obtain ⟨co, cc, rfl⟩ := hg.u.shape
  have HG := hide hg
  clear hg
  obtain ⟨c0, c1, c2, c3, hb1, hs1⟩ := boxed w (.int .i64 N) (.slice ao st.length ca) (.slice bo to.length cb) (.slice co wt.length cc)
  have HF := hide (graphNo_any N _ _ _ st to wt k _ (HG.out.below hb1) hst hto hwt)
  have HV := hide (fun w => isVtx_any N (.slice ao st.length ca) (.slice bo to.length cb) (.slice co wt.length cc) f w)
  rw [decide_eq_false hf] at HV
  unfold gAgg at HF HV ⊢
  rw [hok] at HF
  have HB1 := hide hb1
  clear hb1 hok hf
  go_enter Try.func23, Try.ntmps23
  go_wp2_with fail
  generalize (w.alloc (.cells #[.int .i64 N, .slice ao st.length ca, .slice bo to.length cb, .slice co wt.length cc] 32)) = w1 at c0 c1 c2 c3 hs1 HB1 HF ⊢
  refine HF.out.mono ?_
  rintro e w2 ⟨rfl, hb2⟩
  have d0 := (below_cell (o := 0) hb2 hs1).trans c0
  have d1 := (below_cell (o := 1) hb2 hs1).trans c1
  have d2 := (below_cell (o := 2) hb2 hs1).trans c2
  have d3 := (below_cell (o := 3) hb2 hs1).trans c3
  have HB2 := hide (below_on HB1.out hb2)
  clear c0 c1 c2 c3 hb2 HF
  go_wp2_with fail
  refine (HV.out _).mono ?_
  rintro e w3 ⟨rfl, hb3⟩
  have HB3 := hide (below_on HB2.out hb3)
  clear hb3 d0 d1 d2 d3
  go_wp2
  go_ret2
  exact ⟨_, rfl, SRow.nil _, HB3.out⟩

theorem one_start (w : World) (f : Int) : SRow (w.alloc (.cells #[.int .i64 f, .int .u64 0] 41)) (.slice (some ⟨w.heap.size, 0, none⟩) 1 1) [(f, 0)] := by
  have hh : (w.alloc (.cells #[.int .i64 f, .int .u64 0] 41)).heap[w.heap.size]? = some (.cells #[.int .i64 f, .int .u64 0] 41 (0, 0)) := heap_new _ _
  refine .inr ⟨w.heap.size, 1, rfl, by simp, by omega, fun i hi => ?_⟩
  have : i = 0 := by simpa using hi
  subst this
  exact ⟨cell_of hh rfl, cell_of hh rfl⟩

set_option maxRecDepth 100000 in
set_option maxHeartbeats 2000000 in
theorem starts_in (n : Nat) (va vb vc : Value) (st to wt : List Int) (k f : Int) (w : World) (hg : GIs w n va vb vc st to wt) (hst : st.length ≤ 17592186044416) (hto : to.length ≤ 17592186044416) (hwt : wt.length ≤ 17592186044416)
    (hok : fstNo n st to wt k = 0) (hn : n ≤ 1048576) (hf : 0 ≤ f ∧ f < n) : Calls Try.prog 23 #[gAgg n va vb vc, .int .i64 k, .int .i64 f] w (StPost w (startsL k n f) 0) := by
  obtain ⟨i0, hi, hz0, hz1, hz2⟩ := info_parts Try.info41
  obtain ⟨ao, ca, rfl⟩ := hg.s.shape
  obtain ⟨bo, cb, rfl⟩ := hg.t.shape
  obtain ⟨co, cc, rfl⟩ := hg.u.shape
  have HG := hide hg
  clear hg
  obtain ⟨c0, c1, c2, c3, hb1, hs1⟩ := boxed w (.int .i64 n) (.slice ao st.length ca) (.slice bo to.length cb) (.slice co wt.length cc)
  have HF := hide (graphNo_any n _ _ _ st to wt k _ (HG.out.below hb1) hst hto hwt)
  have HV := hide (fun w => isVtx_any n (.slice ao st.length ca) (.slice bo to.length cb) (.slice co wt.length cc) f w)
  rw [decide_eq_true hf] at HV
  unfold gAgg at HF HV ⊢
  rw [hok] at HF
  have HB1 := hide hb1
  clear hb1 hok hf
  by_cases hk : k = 4
  · subst hk
    unfold startsL
    rw [if_pos rfl]
    go_enter Try.func23, Try.ntmps23
    go_wp2_with fail
    generalize (w.alloc (.cells #[.int .i64 n, .slice ao st.length ca, .slice bo to.length cb, .slice co wt.length cc] 32)) = w1 at c0 c1 c2 c3 hs1 HB1 HF ⊢
    refine HF.out.mono ?_
    rintro e w2 ⟨rfl, hb2⟩
    have d0 := (below_cell (o := 0) hb2 hs1).trans c0
    have d1 := (below_cell (o := 1) hb2 hs1).trans c1
    have d2 := (below_cell (o := 2) hb2 hs1).trans c2
    have d3 := (below_cell (o := 3) hb2 hs1).trans c3
    have hs2 : w.heap.size < w2.heap.size := by have := hb2.size; omega
    have HB2 := hide (below_on HB1.out hb2)
    clear c0 c1 c2 c3 hb2 HF
    go_wp2_with fail
    refine (HV.out _).mono ?_
    rintro e w3 ⟨rfl, hb3⟩
    have e0 := (below_cell (o := 0) hb3 hs2).trans d0
    have hs3 : w.heap.size < w3.heap.size := by have := hb3.size; omega
    have HB3 := hide (below_on HB2.out hb3)
    clear hb3 d0 d1 d2 d3
    go_wp2_with (at_make; refine wpList_make_full _ rfl _ _ 33 rfl w3.heap.size 41 i0 (.agg #[.int .i64 0, .int .u64 0]) 2 Try.underlying33 hi hz0 hz1 _ _ _ _ n rfl rfl rfl rfl (by rw [hz2]; omega) (by unfold maxLen; omega) (Nat.le_refl _) ?_; intro w4 hown hgrow)
    have hA := filled_made hown
    have hB : Below w3.heap.size w3 w4 := (Below.refl _ _).grown hgrow (Nat.le_refl _) (by intro k hk; cases hk)
    have HA := hide hA; have HB := hide (below_on HB3.out hB)
    clear hA hB hown hgrow e0
    go_loopw [31] (fun t wr => ∃ i : Nat, i ≤ n ∧ t = .int .i64 i ∧ Filled wr w3.heap.size n i ∧ Below w.heap.size w wr) (fun t _ => n - (RowKit.intOf t).toNat)
    case atStart => exact ⟨0, by omega, rfl, HA.out, HB.out⟩
    case round =>
      obtain ⟨i, hin, rfl, hA, hB⟩ := hrel
      clear HA HB
      by_cases hlt : i < n
      · obtain ⟨⟨u, hu⟩, fu⟩ := hA.at_ (k := i * 2) (by omega)
        obtain ⟨⟨v, hv⟩, fv⟩ := hA.at_ (k := i * 2 + 1) (by omega)
        have HA := hide (hA.next hlt); have HB := hide hB
        clear hA hB
        go_wp2
        refine ⟨⟨i + 1, by omega, by simp, HA.out, ?_⟩, by simp [RowKit.intOf]; omega⟩
        exact (HB.out.setCell (p := ⟨w3.heap.size, i * 2, none⟩) (Nat.le_of_lt hs3) _).setCell (p := ⟨w3.heap.size, i * 2 + 1, none⟩) (Nat.le_of_lt hs3) _
      · obtain rfl : i = n := by omega
        go_wp2
        go_ret2
        exact ⟨_, rfl, hA.srow (by omega), hB⟩
  · have hkb : (k != 4) = true := by simp [hk]
    unfold startsL
    rw [if_neg hk]
    clear hk
    go_enter Try.func23, Try.ntmps23
    go_wp2_with fail
    generalize (w.alloc (.cells #[.int .i64 n, .slice ao st.length ca, .slice bo to.length cb, .slice co wt.length cc] 32)) = w1 at c0 c1 c2 c3 hs1 HB1 HF ⊢
    refine HF.out.mono ?_
    rintro e w2 ⟨rfl, hb2⟩
    have d0 := (below_cell (o := 0) hb2 hs1).trans c0
    have d1 := (below_cell (o := 1) hb2 hs1).trans c1
    have d2 := (below_cell (o := 2) hb2 hs1).trans c2
    have d3 := (below_cell (o := 3) hb2 hs1).trans c3
    have HB2 := hide (below_on HB1.out hb2)
    clear c0 c1 c2 c3 hb2 HF
    go_wp2_with fail
    refine (HV.out _).mono ?_
    rintro e w3 ⟨rfl, hb3⟩
    have HB3 := hide (below_on HB2.out hb3)
    clear hb3 d0 d1 d2 d3
    go_wp2
    go_ret2
    exact ⟨_, rfl, one_start _ f, below_alloc HB3.out _⟩
end Go.Proofs.Ythoklgdlnmccmaa
