/- Path of what is barred, both; whatever is given. -/
import Derived.Test.YtpfalalmfoiloaaRefPath
namespace Go.Proofs.Ytpfalalmfoiloaa
open Go.RowKit Go.Lib
set_option linter.unusedVariables false

theorem fst_one {N : Int} {st to wt : List Int} : fstNo N st to wt 1 = (chk N st to wt).1 := by
  unfold fstNo
  by_cases h : (chk N st to wt).1 = 0
  · rw [if_pos h, h]; rfl
  · rw [if_neg h]

set_option maxRecDepth 100000 in
set_option maxHeartbeats 2000000 in
theorem path_bad (N : Int) (va vb vc : Value) (st to wt : List Int) (wo : Option Addr) (wn wc : Nat) (t : Int) (w : World) (hg : GIs w N va vb vc st to wt) (hst : st.length ≤ 17592186044416) (hto : to.length ≤ 17592186044416) (hwt : wt.length ≤ 17592186044416) (hc : (chk N st to wt).1 ≠ 0) :
    Calls Try.prog 22 #[gAgg N va vb vc, .slice wo wn wc, .int .i64 t] w (PathPost w ([], (chk N st to wt).1)) := by
  obtain ⟨ao, ca, rfl⟩ := hg.s.shape
  obtain ⟨bo, cb, rfl⟩ := hg.t.shape
  obtain ⟨co, cc, rfl⟩ := hg.u.shape
  obtain ⟨c0, c1, c2, c3, hb1, hs1⟩ := boxed w (.int .i64 N) (.slice ao st.length ca) (.slice bo to.length cb) (.slice co wt.length cc)
  have HF := hide (check_all N _ _ _ st to wt _ (hg.below hb1) hst hto hwt)
  obtain ⟨X, hX⟩ : ∃ X, X = chk N st to wt := ⟨_, rfl⟩
  rw [← hX] at HF hc ⊢
  obtain ⟨x, y⟩ := X
  have HB1 := hide hb1
  unfold gAgg at HF ⊢
  unfold ChkPost at HF
  have hx : (x != 0) = true := by simpa using hc
  clear hb1 hX hc hg
  go_enter Try.func22, Try.ntmps22
  go_wp2_with fail
  generalize (w.alloc (.cells #[.int .i64 N, .slice ao st.length ca, .slice bo to.length cb, .slice co wt.length cc] 32)) = w1 at c0 c1 c2 c3 hs1 HB1 HF ⊢
  refine HF.out.mono ?_
  rintro e w2 ⟨rfl, hb2⟩
  obtain ⟨x0, x1, x2, x3⟩ := box_keep hs1 hb2 ⟨c0, c1, c2, c3⟩
  have HB2 := hide (below_on HB1.out hb2)
  clear c0 c1 c2 c3 hb2 HF
  go_wp2
  go_ret2
  exact ⟨_, rfl, RowAt.nil _, HB2.out⟩

set_option maxRecDepth 100000 in
set_option maxHeartbeats 2000000 in
theorem path_list (N : Int) (va vb vc : Value) (st to wt : List Int) (wo : Option Addr) (wn wc : Nat) (t : Int) (w : World) (hg : GIs w N va vb vc st to wt) (hst : st.length ≤ 17592186044416) (hto : to.length ≤ 17592186044416) (hwt : wt.length ≤ 17592186044416) (hc : (chk N st to wt).1 = 0) (hl : ¬ (wn : Int) = N) :
    Calls Try.prog 22 #[gAgg N va vb vc, .slice wo wn wc, .int .i64 t] w (PathPost w ([], 34)) := by
  obtain ⟨ao, ca, rfl⟩ := hg.s.shape
  obtain ⟨bo, cb, rfl⟩ := hg.t.shape
  obtain ⟨co, cc, rfl⟩ := hg.u.shape
  obtain ⟨c0, c1, c2, c3, hb1, hs1⟩ := boxed w (.int .i64 N) (.slice ao st.length ca) (.slice bo to.length cb) (.slice co wt.length cc)
  have HF := hide (check_all N _ _ _ st to wt _ (hg.below hb1) hst hto hwt)
  obtain ⟨X, hX⟩ : ∃ X, X = chk N st to wt := ⟨_, rfl⟩
  rw [← hX] at HF hc
  obtain ⟨x, y⟩ := X
  have HB1 := hide hb1
  unfold gAgg at HF ⊢
  unfold ChkPost at HF
  obtain rfl : x = 0 := hc
  have hlb : ((wn : Int) != N) = true := by simp [hl]
  clear hb1 hX hg hl
  go_enter Try.func22, Try.ntmps22
  go_wp2_with fail
  generalize (w.alloc (.cells #[.int .i64 N, .slice ao st.length ca, .slice bo to.length cb, .slice co wt.length cc] 32)) = w1 at c0 c1 c2 c3 hs1 HB1 HF ⊢
  refine HF.out.mono ?_
  rintro e w2 ⟨rfl, hb2⟩
  obtain ⟨x0, x1, x2, x3⟩ := box_keep hs1 hb2 ⟨c0, c1, c2, c3⟩
  have HB2 := hide (below_on HB1.out hb2)
  clear c0 c1 c2 c3 hb2 HF
  go_wp2
  go_ret2
  exact ⟨_, rfl, RowAt.nil _, HB2.out⟩

set_option maxRecDepth 100000 in
set_option maxHeartbeats 2000000 in
theorem path_out (N : Int) (va vb vc : Value) (st to wt : List Int) (wo : Option Addr) (wn wc : Nat) (t : Int) (w : World) (hg : GIs w N va vb vc st to wt) (hst : st.length ≤ 17592186044416) (hto : to.length ≤ 17592186044416) (hwt : wt.length ≤ 17592186044416) (hc : (chk N st to wt).1 = 0) (hl : (wn : Int) = N) (ht : ¬ (0 ≤ t ∧ t < N)) :
    Calls Try.prog 22 #[gAgg N va vb vc, .slice wo wn wc, .int .i64 t] w (PathPost w ([], 30)) := by
  obtain ⟨ao, ca, rfl⟩ := hg.s.shape
  obtain ⟨bo, cb, rfl⟩ := hg.t.shape
  obtain ⟨co, cc, rfl⟩ := hg.u.shape
  obtain ⟨c0, c1, c2, c3, hb1, hs1⟩ := boxed w (.int .i64 N) (.slice ao st.length ca) (.slice bo to.length cb) (.slice co wt.length cc)
  have HF := hide (check_all N _ _ _ st to wt _ (hg.below hb1) hst hto hwt)
  obtain ⟨X, hX⟩ : ∃ X, X = chk N st to wt := ⟨_, rfl⟩
  rw [← hX] at HF hc
  obtain ⟨x, y⟩ := X
  have HB1 := hide hb1
  unfold gAgg at HF ⊢
  unfold ChkPost at HF
  have HV := hide (fun W => isVtx_any N (.slice ao st.length ca) (.slice bo to.length cb) (.slice co wt.length cc) t W)
  rw [decide_eq_false ht] at HV
  unfold gAgg at HV
  obtain rfl : x = 0 := hc
  have hlb : ((wn : Int) != N) = false := by simp [hl]
  clear hb1 hX hg hl ht
  go_enter Try.func22, Try.ntmps22
  go_wp2_with fail
  generalize (w.alloc (.cells #[.int .i64 N, .slice ao st.length ca, .slice bo to.length cb, .slice co wt.length cc] 32)) = w1 at c0 c1 c2 c3 hs1 HB1 HF ⊢
  refine HF.out.mono ?_
  rintro e w2 ⟨rfl, hb2⟩
  obtain ⟨x0, x1, x2, x3⟩ := box_keep hs1 hb2 ⟨c0, c1, c2, c3⟩
  have HB2 := hide (below_on HB1.out hb2)
  clear c0 c1 c2 c3 hb2 HF
  go_wp2_with fail
  refine (HV.out _).mono ?_
  rintro e w3 ⟨rfl, hb3⟩
  have HB3 := hide (below_on HB2.out hb3)
  clear hb3 x0 x1 x2 x3
  go_wp2
  go_ret2
  exact ⟨_, rfl, RowAt.nil _, HB3.out⟩

set_option maxRecDepth 100000 in
set_option maxHeartbeats 2000000 in
theorem refPath_bad (N : Int) (va vb vc : Value) (st to wt : List Int) (wo : Option Addr) (wn wc : Nat) (t : Int) (w : World) (hg : GIs w N va vb vc st to wt) (hst : st.length ≤ 17592186044416) (hto : to.length ≤ 17592186044416) (hwt : wt.length ≤ 17592186044416) (hc : (chk N st to wt).1 ≠ 0) :
    Calls Try.prog 20 #[gAgg N va vb vc, .slice wo wn wc, .int .i64 t] w (PathPost w ([], (chk N st to wt).1)) := by
  obtain ⟨ao, ca, rfl⟩ := hg.s.shape
  obtain ⟨bo, cb, rfl⟩ := hg.t.shape
  obtain ⟨co, cc, rfl⟩ := hg.u.shape
  obtain ⟨c0, c1, c2, c3, hb1, hs1⟩ := boxed w (.int .i64 N) (.slice ao st.length ca) (.slice bo to.length cb) (.slice co wt.length cc)
  have HF := hide (first_nil N _ _ _ st to wt 1 _ (hg.below hb1) hst hto hwt)
  rw [fst_one] at HF
  obtain ⟨X, hX⟩ : ∃ X, X = chk N st to wt := ⟨_, rfl⟩
  rw [← hX] at HF hc ⊢
  obtain ⟨x, y⟩ := X
  have HB1 := hide hb1
  unfold gAgg at HF ⊢
  have hx : (x != 0) = true := by simpa using hc
  clear hb1 hX hc hg
  go_enter Try.func20, Try.ntmps20
  go_wp2_with fail
  generalize (w.alloc (.cells #[.int .i64 N, .slice ao st.length ca, .slice bo to.length cb, .slice co wt.length cc] 32)) = w1 at c0 c1 c2 c3 hs1 HB1 HF ⊢
  refine HF.out.mono ?_
  rintro e w2 ⟨rfl, hb2⟩
  obtain ⟨x0, x1, x2, x3⟩ := box_keep hs1 hb2 ⟨c0, c1, c2, c3⟩
  have HB2 := hide (below_on HB1.out hb2)
  clear c0 c1 c2 c3 hb2 HF
  go_wp2
  go_ret2
  exact ⟨_, rfl, RowAt.nil _, HB2.out⟩

set_option maxRecDepth 100000 in
set_option maxHeartbeats 2000000 in
theorem refPath_list (N : Int) (va vb vc : Value) (st to wt : List Int) (wo : Option Addr) (wn wc : Nat) (t : Int) (w : World) (hg : GIs w N va vb vc st to wt) (hst : st.length ≤ 17592186044416) (hto : to.length ≤ 17592186044416) (hwt : wt.length ≤ 17592186044416) (hc : (chk N st to wt).1 = 0) (hl : ¬ (wn : Int) = N) :
    Calls Try.prog 20 #[gAgg N va vb vc, .slice wo wn wc, .int .i64 t] w (PathPost w ([], 34)) := by
  obtain ⟨ao, ca, rfl⟩ := hg.s.shape
  obtain ⟨bo, cb, rfl⟩ := hg.t.shape
  obtain ⟨co, cc, rfl⟩ := hg.u.shape
  obtain ⟨c0, c1, c2, c3, hb1, hs1⟩ := boxed w (.int .i64 N) (.slice ao st.length ca) (.slice bo to.length cb) (.slice co wt.length cc)
  have HF := hide (first_nil N _ _ _ st to wt 1 _ (hg.below hb1) hst hto hwt)
  rw [fst_one] at HF
  obtain ⟨X, hX⟩ : ∃ X, X = chk N st to wt := ⟨_, rfl⟩
  rw [← hX] at HF hc
  obtain ⟨x, y⟩ := X
  have HB1 := hide hb1
  unfold gAgg at HF ⊢
  obtain rfl : x = 0 := hc
  have hlb : ((wn : Int) != N) = true := by simp [hl]
  clear hb1 hX hg hl
  go_enter Try.func20, Try.ntmps20
  go_wp2_with fail
  generalize (w.alloc (.cells #[.int .i64 N, .slice ao st.length ca, .slice bo to.length cb, .slice co wt.length cc] 32)) = w1 at c0 c1 c2 c3 hs1 HB1 HF ⊢
  refine HF.out.mono ?_
  rintro e w2 ⟨rfl, hb2⟩
  obtain ⟨x0, x1, x2, x3⟩ := box_keep hs1 hb2 ⟨c0, c1, c2, c3⟩
  have HB2 := hide (below_on HB1.out hb2)
  clear c0 c1 c2 c3 hb2 HF
  go_wp2
  go_ret2
  exact ⟨_, rfl, RowAt.nil _, HB2.out⟩

set_option maxRecDepth 100000 in
set_option maxHeartbeats 2000000 in
theorem refPath_out (N : Int) (va vb vc : Value) (st to wt : List Int) (wo : Option Addr) (wn wc : Nat) (t : Int) (w : World) (hg : GIs w N va vb vc st to wt) (hst : st.length ≤ 17592186044416) (hto : to.length ≤ 17592186044416) (hwt : wt.length ≤ 17592186044416) (hc : (chk N st to wt).1 = 0) (hl : (wn : Int) = N) (ht : ¬ (0 ≤ t ∧ t < N)) :
    Calls Try.prog 20 #[gAgg N va vb vc, .slice wo wn wc, .int .i64 t] w (PathPost w ([], 30)) := by
  obtain ⟨ao, ca, rfl⟩ := hg.s.shape
  obtain ⟨bo, cb, rfl⟩ := hg.t.shape
  obtain ⟨co, cc, rfl⟩ := hg.u.shape
  obtain ⟨c0, c1, c2, c3, hb1, hs1⟩ := boxed w (.int .i64 N) (.slice ao st.length ca) (.slice bo to.length cb) (.slice co wt.length cc)
  have HF := hide (first_nil N _ _ _ st to wt 1 _ (hg.below hb1) hst hto hwt)
  rw [fst_one] at HF
  obtain ⟨X, hX⟩ : ∃ X, X = chk N st to wt := ⟨_, rfl⟩
  rw [← hX] at HF hc
  obtain ⟨x, y⟩ := X
  have HB1 := hide hb1
  unfold gAgg at HF ⊢
  obtain rfl : x = 0 := hc
  have hlb : ((wn : Int) != N) = false := by simp [hl]
  have htt : t < 0 ∨ N ≤ t := by omega
  clear hb1 hX hg hl ht
  go_enter Try.func20, Try.ntmps20
  go_wp2_with fail
  generalize (w.alloc (.cells #[.int .i64 N, .slice ao st.length ca, .slice bo to.length cb, .slice co wt.length cc] 32)) = w1 at c0 c1 c2 c3 hs1 HB1 HF ⊢
  refine HF.out.mono ?_
  rintro e w2 ⟨rfl, hb2⟩
  obtain ⟨x0, x1, x2, x3⟩ := box_keep hs1 hb2 ⟨c0, c1, c2, c3⟩
  have HB2 := hide (below_on HB1.out hb2)
  clear c0 c1 c2 c3 hb2 HF
  go_wp2
  all_goals first
    | (exfalso; omega)
    | (go_ret2; exact ⟨_, rfl, RowAt.nil _, HB2.out⟩)

/-- What Path answers, of whatever it is given. -/
def pathAll (N : Int) (st to wt by_ : List Int) (t : Int) : List Int × Int :=
  if (chk N st to wt).1 = 0 then (if (by_.length : Int) = N then (if 0 ≤ t ∧ t < N then pathAns N.toNat st to by_ t.toNat else ([], 30)) else ([], 34)) else ([], (chk N st to wt).1)

theorem path_any (N : Int) (va vb vc : Value) (st to wt : List Int) (bv : Value) (by_ : List Int) (t : Int) (w : World) (hg : GIs w N va vb vc st to wt) (hst : st.length ≤ 17592186044416) (hto : to.length ≤ 17592186044416) (hwt : wt.length ≤ 17592186044416) (hw : RowAt .i64 w bv by_) :
    Calls Try.prog 22 #[gAgg N va vb vc, bv, .int .i64 t] w (PathPost w (pathAll N st to wt by_ t)) := by
  unfold pathAll
  by_cases hc : (chk N st to wt).1 = 0
  · rw [if_pos hc]
    by_cases hl : (by_.length : Int) = N
    · rw [if_pos hl]
      by_cases ht : 0 ≤ t ∧ t < N
      · rw [if_pos ht]
        obtain ⟨n, rfl, hgd⟩ := chk_good hc
        obtain ⟨t', rfl⟩ : ∃ t' : Nat, t = t' := ⟨t.toNat, by omega⟩
        exact path_good n va vb vc st to wt bv by_ t' w hg hgd hc hw (by omega) (by omega)
      · rw [if_neg ht]
        obtain ⟨wo, wc, rfl⟩ := hw.shape
        exact path_out N va vb vc st to wt wo by_.length wc t w hg hst hto hwt hc hl ht
    · rw [if_neg hl]
      obtain ⟨wo, wc, rfl⟩ := hw.shape
      exact path_list N va vb vc st to wt wo by_.length wc t w hg hst hto hwt hc hl
  · rw [if_neg hc]
    obtain ⟨wo, wc, rfl⟩ := hw.shape
    exact path_bad N va vb vc st to wt wo by_.length wc t w hg hst hto hwt hc

theorem refPath_any (N : Int) (va vb vc : Value) (st to wt : List Int) (bv : Value) (by_ : List Int) (t : Int) (w : World) (hg : GIs w N va vb vc st to wt) (hst : st.length ≤ 17592186044416) (hto : to.length ≤ 17592186044416) (hwt : wt.length ≤ 17592186044416) (hw : RowAt .i64 w bv by_) :
    Calls Try.prog 20 #[gAgg N va vb vc, bv, .int .i64 t] w (PathPost w (pathAll N st to wt by_ t)) := by
  unfold pathAll
  by_cases hc : (chk N st to wt).1 = 0
  · rw [if_pos hc]
    by_cases hl : (by_.length : Int) = N
    · rw [if_pos hl]
      by_cases ht : 0 ≤ t ∧ t < N
      · rw [if_pos ht]
        obtain ⟨n, rfl, hgd⟩ := chk_good hc
        obtain ⟨t', rfl⟩ : ∃ t' : Nat, t = t' := ⟨t.toNat, by omega⟩
        exact refPath_good n va vb vc st to wt bv by_ t' w hg hgd hc hw (by omega) (by omega)
      · rw [if_neg ht]
        obtain ⟨wo, wc, rfl⟩ := hw.shape
        exact refPath_out N va vb vc st to wt wo by_.length wc t w hg hst hto hwt hc hl ht
    · rw [if_neg hl]
      obtain ⟨wo, wc, rfl⟩ := hw.shape
      exact refPath_list N va vb vc st to wt wo by_.length wc t w hg hst hto hwt hc hl
  · rw [if_neg hc]
    obtain ⟨wo, wc, rfl⟩ := hw.shape
    exact refPath_bad N va vb vc st to wt wo by_.length wc t w hg hst hto hwt hc
end Go.Proofs.Ytpfalalmfoiloaa
