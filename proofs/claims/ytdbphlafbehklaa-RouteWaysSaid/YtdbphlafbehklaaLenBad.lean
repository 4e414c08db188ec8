/- Length of what the graph or the kind bars, both; whatever is given. -/
import Derived.Test.YtdbphlafbehklaaRefLen
namespace Go.Proofs.Ytdbphlafbehklaa
open Go.RowKit Go.Lib
set_option linter.unusedVariables false

set_option maxRecDepth 100000 in
set_option maxHeartbeats 2000000 in
theorem length_bad (N : Int) (va vb vc : Value) (st to wt : List Int) (k l : Int) (wo : Option Addr) (wn wc : Nat) (w : World) (hg : GIs w N va vb vc st to wt) (hst : st.length ≤ 17592186044416) (hto : to.length ≤ 17592186044416) (hwt : wt.length ≤ 17592186044416)
    (hbad : fstNo N st to wt k ≠ 0) : Calls Try.prog 31 #[gAgg N va vb vc, .int .i64 k, .int .u64 l, .slice wo wn wc] w (LenPost w (0, fstNo N st to wt k)) := by
  obtain ⟨ao, ca, rfl⟩ := hg.s.shape
  obtain ⟨bo, cb, rfl⟩ := hg.t.shape
  obtain ⟨co, cc, rfl⟩ := hg.u.shape
  obtain ⟨c0, c1, c2, c3, hb1, hs1⟩ := boxed w (.int .i64 N) (.slice ao st.length ca) (.slice bo to.length cb) (.slice co wt.length cc)
  have HF := hide (graphNo_any N _ _ _ st to wt k _ (hg.below hb1) hst hto hwt)
  unfold gAgg at HF ⊢
  obtain ⟨x, hX⟩ : ∃ x, x = fstNo N st to wt k := ⟨_, rfl⟩
  rw [← hX] at HF hbad ⊢
  have hx : (x != 0) = true := by simp [hbad]
  have HB1 := hide hb1
  clear hb1 hX hbad hg
  go_enter Try.func31, Try.ntmps31
  go_wp2_with fail
  generalize (w.alloc (.cells #[.int .i64 N, .slice ao st.length ca, .slice bo to.length cb, .slice co wt.length cc] 32)) = w1 at c0 c1 c2 c3 hs1 HB1 HF ⊢
  refine HF.out.mono ?_
  rintro e w2 ⟨rfl, hb2⟩
  have HB2 := hide (below_on HB1.out hb2)
  clear c0 c1 c2 c3 hb2 HF
  go_wp2
  go_ret2
  exact ⟨rfl, HB2.out⟩
set_option maxRecDepth 100000 in
set_option maxHeartbeats 2000000 in
theorem refLength_bad (N : Int) (va vb vc : Value) (st to wt : List Int) (k l : Int) (wo : Option Addr) (wn wc : Nat) (w : World) (hg : GIs w N va vb vc st to wt) (hst : st.length ≤ 17592186044416) (hto : to.length ≤ 17592186044416) (hwt : wt.length ≤ 17592186044416)
    (hbad : fstNo N st to wt k ≠ 0) : Calls Try.prog 30 #[gAgg N va vb vc, .int .i64 k, .int .u64 l, .slice wo wn wc] w (LenPost w (0, fstNo N st to wt k)) := by
  obtain ⟨ao, ca, rfl⟩ := hg.s.shape
  obtain ⟨bo, cb, rfl⟩ := hg.t.shape
  obtain ⟨co, cc, rfl⟩ := hg.u.shape
  obtain ⟨c0, c1, c2, c3, hb1, hs1⟩ := boxed w (.int .i64 N) (.slice ao st.length ca) (.slice bo to.length cb) (.slice co wt.length cc)
  have HF := hide (first_nil N _ _ _ st to wt k _ (hg.below hb1) hst hto hwt)
  unfold gAgg at HF ⊢
  obtain ⟨x, hX⟩ : ∃ x, x = fstNo N st to wt k := ⟨_, rfl⟩
  rw [← hX] at HF hbad ⊢
  have hx : (x != 0) = true := by simp [hbad]
  have HB1 := hide hb1
  clear hb1 hX hbad hg
  go_enter Try.func30, Try.ntmps30
  go_wp2_with fail
  generalize (w.alloc (.cells #[.int .i64 N, .slice ao st.length ca, .slice bo to.length cb, .slice co wt.length cc] 32)) = w1 at c0 c1 c2 c3 hs1 HB1 HF ⊢
  refine HF.out.mono ?_
  rintro e w2 ⟨rfl, hb2⟩
  have HB2 := hide (below_on HB1.out hb2)
  clear c0 c1 c2 c3 hb2 HF
  go_wp2
  go_ret2
  exact ⟨rfl, HB2.out⟩

/-- What Length answers, of whatever it is given. -/
def lenAll (N : Int) (st to wt : List Int) (k l : Int) (way : List Int) : Int × Int := if fstNo N st to wt k = 0 then lenAns N.toNat st to wt k l way else (0, fstNo N st to wt k)
theorem length_any (N : Int) (va vb vc : Value) (st to wt : List Int) (k l : Int) (wv : Value) (way : List Int) (w : World) (hg : GIs w N va vb vc st to wt) (hst : st.length ≤ 17592186044416) (hto : to.length ≤ 17592186044416) (hwt2 : wt.length ≤ 17592186044416)
    (hw : RowAt .i64 w wv way) (hwl : way.length * 8 ≤ 140737488351232) (h0 : 0 ≤ l) (h1 : l ≤ 18446744073709551615) (hwt : ∀ e, 0 ≤ at_ wt e ∧ at_ wt e ≤ 18446744073709551615) :
    Calls Try.prog 31 #[gAgg N va vb vc, .int .i64 k, .int .u64 l, wv] w (LenPost w (lenAll N st to wt k l way)) := by
  unfold lenAll
  by_cases h : fstNo N st to wt k = 0
  · rw [if_pos h]
    obtain ⟨_, n, rfl, hgd⟩ := fst_good h
    exact length_good n va vb vc st to wt k l wv way w hg hgd h hw hwl h0 h1 hwt
  · rw [if_neg h]
    obtain ⟨wo, wc, rfl⟩ := hw.shape
    exact length_bad N va vb vc st to wt k l wo way.length wc w hg hst hto hwt2 h
theorem refLength_any (N : Int) (va vb vc : Value) (st to wt : List Int) (k l : Int) (wv : Value) (way : List Int) (w : World) (hg : GIs w N va vb vc st to wt) (hst : st.length ≤ 17592186044416) (hto : to.length ≤ 17592186044416) (hwt2 : wt.length ≤ 17592186044416)
    (hw : RowAt .i64 w wv way) (hwl : way.length * 8 ≤ 140737488351232) (h0 : 0 ≤ l) (h1 : l ≤ 18446744073709551615) (hwt : ∀ e, 0 ≤ at_ wt e ∧ at_ wt e ≤ 18446744073709551615) :
    Calls Try.prog 30 #[gAgg N va vb vc, .int .i64 k, .int .u64 l, wv] w (LenPost w (lenAll N st to wt k l way)) := by
  unfold lenAll
  by_cases h : fstNo N st to wt k = 0
  · rw [if_pos h]
    obtain ⟨_, n, rfl, hgd⟩ := fst_good h
    exact refLength_good n va vb vc st to wt k l wv way w hg hgd h hw hwl h0 h1 hwt
  · rw [if_neg h]
    obtain ⟨wo, wc, rfl⟩ := hw.shape
    exact refLength_bad N va vb vc st to wt k l wo way.length wc w hg hst hto hwt2 h
end Go.Proofs.Ytdbphlafbehklaa
