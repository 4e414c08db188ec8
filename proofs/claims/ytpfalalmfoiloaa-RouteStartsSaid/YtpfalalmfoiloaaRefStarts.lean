/- The reference's Starts. -/
import Derived.Test.YtpfalalmfoiloaaStarts
namespace Go.Proofs.Ytpfalalmfoiloaa
open Go.RowKit Go.Lib
set_option linter.unusedVariables false

theorem own_below {w w1 w2 : World} {e : TypeId} {size n : Nat} {v : Value} {xs : List Value} {p : Obj} (hb1 : Below w.heap.size w w1) (h1 : w1.ownsRow w.heap.size e size v n xs) (hgrow : (w1.alloc p).grownBy w2 v.ownBlock) : Below w.heap.size w w2 := by
  refine (hb1.alloc hb1.size _).grown hgrow (by have := hb1.size; simp; omega) ?_
  intro j hj
  obtain ⟨_, ⟨rfl, _⟩ | ⟨g', cap, cur', rfl, hg', _⟩⟩ := h1
  · simp [Value.ownBlock] at hj
  · simp [Value.ownBlock] at hj; omega

set_option maxRecDepth 100000 in
set_option maxHeartbeats 2000000 in
theorem refStarts_bad (N : Int) (va vb vc : Value) (st to wt : List Int) (k f : Int) (w : World) (hg : GIs w N va vb vc st to wt) (hst : st.length ≤ 17592186044416) (hto : to.length ≤ 17592186044416) (hwt : wt.length ≤ 17592186044416)
    (hbad : fstNo N st to wt k ≠ 0) : Calls Try.prog 16 #[gAgg N va vb vc, .int .i64 k, .int .i64 f] w (StPost w [] (fstNo N st to wt k)) := by
  obtain ⟨ao, ca, rfl⟩ := hg.s.shape
  obtain ⟨bo, cb, rfl⟩ := hg.t.shape
  obtain ⟨co, cc, rfl⟩ := hg.u.shape
  have HG := hide hg
  clear hg
  obtain ⟨c0, c1, c2, c3, hb1, hs1⟩ := boxed w (.int .i64 N) (.slice ao st.length ca) (.slice bo to.length cb) (.slice co wt.length cc)
  have HF := hide (first_nil N _ _ _ st to wt k _ (HG.out.below hb1) hst hto hwt)
  unfold gAgg at HF ⊢
  obtain ⟨x, hX⟩ : ∃ x, x = fstNo N st to wt k := ⟨_, rfl⟩
  rw [← hX] at HF hbad ⊢
  have hx : (x != 0) = true := by simp [hbad]
  have HB1 := hide hb1
  clear hb1 hX hbad
  go_enter Try.func16, Try.ntmps16
  go_wp2_with fail
  generalize (w.alloc (.cells #[.int .i64 N, .slice ao st.length ca, .slice bo to.length cb, .slice co wt.length cc] 32)) = w1 at c0 c1 c2 c3 hs1 HB1 HF ⊢
  refine HF.out.mono ?_
  rintro e w2 ⟨rfl, hb2⟩
  have HB2 := hide (below_on HB1.out hb2)
  clear c0 c1 c2 c3 hb2 HF
  go_wp2
  go_ret2
  exact ⟨_, rfl, SRow.nil _, HB2.out⟩

set_option maxRecDepth 100000 in
set_option maxHeartbeats 2000000 in
theorem refStarts_out (N : Int) (va vb vc : Value) (st to wt : List Int) (k f : Int) (w : World) (hg : GIs w N va vb vc st to wt) (hst : st.length ≤ 17592186044416) (hto : to.length ≤ 17592186044416) (hwt : wt.length ≤ 17592186044416)
    (hok : fstNo N st to wt k = 0) (hf : ¬ (0 ≤ f ∧ f < N)) : Calls Try.prog 16 #[gAgg N va vb vc, .int .i64 k, .int .i64 f] w (StPost w [] 30) := by
  obtain ⟨ao, ca, rfl⟩ := hg.s.shape
  obtain ⟨bo, cb, rfl⟩ := hg.t.shape
  obtain ⟨co, cc, rfl⟩ := hg.u.shape
  have HG := hide hg
  clear hg
  obtain ⟨c0, c1, c2, c3, hb1, hs1⟩ := boxed w (.int .i64 N) (.slice ao st.length ca) (.slice bo to.length cb) (.slice co wt.length cc)
  have HF := hide (first_nil N _ _ _ st to wt k _ (HG.out.below hb1) hst hto hwt)
  have hh : f < 0 ∨ N ≤ f := by omega
  unfold gAgg at HF ⊢
  rw [hok] at HF
  have HB1 := hide hb1
  clear hb1 hok hf
  go_enter Try.func16, Try.ntmps16
  go_wp2_with fail
  generalize (w.alloc (.cells #[.int .i64 N, .slice ao st.length ca, .slice bo to.length cb, .slice co wt.length cc] 32)) = w1 at c0 c1 c2 c3 hs1 HB1 HF ⊢
  refine HF.out.mono ?_
  rintro e w2 ⟨rfl, hb2⟩
  have d0 := (below_cell (o := 0) hb2 hs1).trans c0
  have d1 := (below_cell (o := 1) hb2 hs1).trans c1
  have d2 := (below_cell (o := 2) hb2 hs1).trans c2
  have d3 := (below_cell (o := 3) hb2 hs1).trans c3
  have HB2 := hide (below_on HB1.out hb2)
  clear c0 c1 c2 c3 hb2 HF
  go_wp2
  all_goals first
    | (exfalso; omega)
    | (go_ret2; exact ⟨_, rfl, SRow.nil _, HB2.out⟩)

set_option maxRecDepth 100000 in
set_option maxHeartbeats 2000000 in
theorem refStarts_in (n : Nat) (va vb vc : Value) (st to wt : List Int) (k f : Int) (w : World) (hg : GIs w n va vb vc st to wt) (hst : st.length ≤ 17592186044416) (hto : to.length ≤ 17592186044416) (hwt : wt.length ≤ 17592186044416)
    (hok : fstNo n st to wt k = 0) (hn : n ≤ 1048576) (hf : 0 ≤ f ∧ f < n) : Calls Try.prog 16 #[gAgg n va vb vc, .int .i64 k, .int .i64 f] w (StPost w (startsL k n f) 0) := by
  obtain ⟨i0, hi, hz0, hz1, hz2⟩ := info_parts Try.info41
  obtain ⟨ao, ca, rfl⟩ := hg.s.shape
  obtain ⟨bo, cb, rfl⟩ := hg.t.shape
  obtain ⟨co, cc, rfl⟩ := hg.u.shape
  have HG := hide hg
  clear hg
  obtain ⟨c0, c1, c2, c3, hb1, hs1⟩ := boxed w (.int .i64 n) (.slice ao st.length ca) (.slice bo to.length cb) (.slice co wt.length cc)
  have HF := hide (first_nil n _ _ _ st to wt k _ (HG.out.below hb1) hst hto hwt)
  obtain ⟨hf0, hf1⟩ := hf
  unfold gAgg at HF ⊢
  rw [hok] at HF
  have HB1 := hide hb1
  clear hb1 hok
  by_cases hk : k = 4
  · subst hk
    unfold startsL
    rw [if_pos rfl]
    go_enter Try.func16, Try.ntmps16
    go_wp2_with fail
    generalize (w.alloc (.cells #[.int .i64 n, .slice ao st.length ca, .slice bo to.length cb, .slice co wt.length cc] 32)) = w1 at c0 c1 c2 c3 hs1 HB1 HF ⊢
    refine HF.out.mono ?_
    rintro e w2 ⟨rfl, hb2⟩
    have d0 := (below_cell (o := 0) hb2 hs1).trans c0
    have d1 := (below_cell (o := 1) hb2 hs1).trans c1
    have d2 := (below_cell (o := 2) hb2 hs1).trans c2
    have d3 := (below_cell (o := 3) hb2 hs1).trans c3
    have hs2 : w.heap.size < w2.heap.size := by have := hb2.size; omega
    have HB2 := hide (below_on HB1.out hb2)
    clear c0 c1 c2 c3 hb2 HF
    have HO : Hid (w2.ownsRow w2.heap.size 41 2 (.slice none 0 0) (upTo 0).length (sCells (upTo 0))) := World.ownsRow_nil _ _ _ _
    go_wp2
    go_loopw [10, 9] (fun t v wr => ∃ i : Nat, i ≤ n ∧ t = .int .i64 i ∧ wr.ownsRow w2.heap.size 41 2 v i (sCells (upTo i)) ∧ Below w2.heap.size w2 wr) (fun t _ _ => n - (RowKit.intOf t).toNat)
    case atStart => exact ⟨0, by omega, rfl, HO.out, Below.refl _ _⟩
    case round =>
      obtain ⟨i, hin, rfl, hA, hB⟩ := hrel
      have y0 := (below_cell (o := 0) hB hs2).trans d0
      by_cases hlt : i < n
      · have HA := hide hA; have HB := hide hB
        clear hA hB HO d0 d1 d2 d3
        have hB2 := HB.out.size
        go_wp2_with (at_builtin; refine wpList_append_own _ rfl (.tmp 36) (.tmp 41) 33 rfl _ 41 i0 (.agg #[.int .i64 0, .int .u64 0]) 2 16 Try.underlying33 hi hz0 hz1 hz2 rfl (by decide) _ _ _ rfl (HA.out.alloc _) ⟨wr.heap.size, 0, none⟩ 1 1 [.int .i64 (i : Int), .int .u64 (i : Int)] rfl rfl (two_at wr _ _ _) (by simp [Value.oneCell']) (by unfold maxLen; omega) (by omega) (by simp; omega) ?_; intro u1 w5 hown hgrow hq; have HO := hide hown; have HL := hide (own_below HB.out HA.out hgrow); clear hown hgrow hq)
        refine ⟨⟨i + 1, by omega, by simp, ?_, HL.out⟩, by simp [RowKit.intOf]; omega⟩
        rw [upTo_succ, sCells_snoc]
        exact HO.out
      · obtain rfl : i = n := by omega
        go_wp2
        go_ret2
        exact ⟨_, rfl, SRow.of_owns (by rw [upTo_length]; exact hA), below_on HB2.out hB⟩
  · have hkb : (k != 4) = true := by simp [hk]
    unfold startsL
    rw [if_neg hk]
    clear hk
    go_enter Try.func16, Try.ntmps16
    go_wp2_with fail
    generalize (w.alloc (.cells #[.int .i64 n, .slice ao st.length ca, .slice bo to.length cb, .slice co wt.length cc] 32)) = w1 at c0 c1 c2 c3 hs1 HB1 HF ⊢
    refine HF.out.mono ?_
    rintro e w2 ⟨rfl, hb2⟩
    have d0 := (below_cell (o := 0) hb2 hs1).trans c0
    have d1 := (below_cell (o := 1) hb2 hs1).trans c1
    have d2 := (below_cell (o := 2) hb2 hs1).trans c2
    have d3 := (below_cell (o := 3) hb2 hs1).trans c3
    have HB2 := hide (below_on HB1.out hb2)
    clear c0 c1 c2 c3 hb2 HF
    go_wp2
    go_ret2
    exact ⟨_, rfl, one_start _ f, below_alloc HB2.out _⟩
end Go.Proofs.Ytpfalalmfoiloaa
