/- route.Search. -/
import Derived.Test.YtehlciejhegndaaSearchWalk
import Derived.Test.YtehlciejhegndaaTermsS
namespace Go.Proofs.Ytehlciejhegndaa
open Go.RowKit Go.Lib
set_option linter.unusedVariables false

def SrOk (n : Nat) (st tl wt : List Int) (k : Int) (S : List Pr) (w : World) (e : Ending) (w' : World) : Prop :=
  ∃ G L, e = .returned (.tuple #[.slice (some ⟨G, 0, none⟩) n n, .int .i64 0]) ∧ w.heap.size ≤ G ∧ ArrU w' G L ∧ Found n st tl wt k S L ∧ Below w.heap.size w w'
set_option maxRecDepth 100000 in
set_option maxHeartbeats 2000000 in
theorem rsearch_good (n : Nat) (va vb vc : Value) (st tl wt : List Int) (k : Int) (sv : Value) (S : List Pr) (w : World) (hg : GIs w n va vb vc st tl wt) (hgd : Good n st tl wt) (hw : ∀ e, 0 ≤ at_ wt e ∧ at_ wt e ≤ 18446744073709551615)
    (hs : SAt w sv S) (hok : Sok n S) (hS : S.length * 16 ≤ 140737488353280) (hno : srchNo n st tl wt k S = 0) :
    Calls Try.prog 17 #[gAgg n va vb vc, .int .i64 k, sv] w (SrOk n st tl wt k S w) := by
  have hst : st.length ≤ 17592186044416 := by have := hgd.s_len; have := hgd.n_le; omega
  have hto : tl.length ≤ 17592186044416 := by have := hgd.m_le; omega
  have hwt2 : wt.length ≤ 17592186044416 := by have := hgd.w_len; omega
  obtain ⟨ao, ca, rfl⟩ := hg.s.shape
  obtain ⟨bo, cb, rfl⟩ := hg.t.shape
  obtain ⟨co, cc, rfl⟩ := hg.u.shape
  obtain ⟨so, sc, rfl, hsc, hscm⟩ := hs.shape
  obtain ⟨c0, c1, c2, c3, hb1, hs1⟩ := boxed w (.int .i64 n) (.slice ao st.length ca) (.slice bo tl.length cb) (.slice co wt.length cc)
  have HF := hide (termsS_any n _ _ _ st tl wt k _ S _ (hg.below hb1) hst hto hwt2 (hs.below hb1))
  rw [hno] at HF
  have HSE := hide (fun W a b => search_any2 n (.slice ao st.length ca) (.slice bo tl.length cb) (.slice co wt.length cc) st tl wt k (.slice so S.length sc) S W a hgd hw b hok hS)
  have HG1 := hide (hg.below hb1)
  have HS1 := hide (hs.below hb1)
  have HB1 := hide hb1
  unfold gAgg at HF HSE ⊢
  clear hb1 hg hs hgd hw hok hno hst hto hwt2
  go_enter Try.func17, Try.ntmps17
  go_wp2_with fail
  generalize (w.alloc (.cells #[.int .i64 n, .slice ao st.length ca, .slice bo tl.length cb, .slice co wt.length cc] 25)) = w1 at c0 c1 c2 c3 hs1 HB1 HG1 HS1 HF ⊢
  refine HF.out.mono ?_
  rintro e w2 ⟨rfl, hb2⟩
  obtain ⟨d0, d1, d2, d3⟩ := box_keep hs1 hb2 ⟨c0, c1, c2, c3⟩
  have HB2 := hide (below_on HB1.out hb2)
  have HG2 := hide (HG1.out.below hb2)
  have HS2 := hide (HS1.out.below hb2)
  have hs2 : w.heap.size ≤ w2.heap.size := by have := hb2.size; omega
  clear c0 c1 c2 c3 hb2 HF HG1 HS1 HB1
  go_wp2_with fail
  refine (HSE.out w2 HG2.out HS2.out).mono ?_
  rintro e w3 ⟨G, L, rfl, hG, hA, hFd, hb3⟩
  have HE : Hid (SrOk n st tl wt k S w (.returned (.tuple #[.slice (some ⟨G, 0, none⟩) n n, .int .i64 0])) w3) := ⟨G, L, rfl, by omega, hA, hFd, below_on HB2.out hb3⟩
  clear hA hFd hb3 d0 d1 d2 d3
  go_wp2
  go_ret2
  exact HE.out
set_option maxRecDepth 100000 in
set_option maxHeartbeats 2000000 in
theorem rsearch_bad (N : Int) (va vb vc : Value) (st tl wt : List Int) (k : Int) (sv : Value) (S : List Pr) (w : World) (hg : GIs w N va vb vc st tl wt) (hst : st.length ≤ 17592186044416) (hto : tl.length ≤ 17592186044416) (hwt : wt.length ≤ 17592186044416) (hs : SAt w sv S) (hno : srchNo N st tl wt k S ≠ 0) :
    Calls Try.prog 17 #[gAgg N va vb vc, .int .i64 k, sv] w fun e w' => e = .returned (.tuple #[.slice none 0 0, .int .i64 (srchNo N st tl wt k S)]) ∧ Below w.heap.size w w' := by
  obtain ⟨ao, ca, rfl⟩ := hg.s.shape
  obtain ⟨bo, cb, rfl⟩ := hg.t.shape
  obtain ⟨co, cc, rfl⟩ := hg.u.shape
  obtain ⟨so, sc, rfl, hsc, hscm⟩ := hs.shape
  obtain ⟨c0, c1, c2, c3, hb1, hs1⟩ := boxed w (.int .i64 N) (.slice ao st.length ca) (.slice bo tl.length cb) (.slice co wt.length cc)
  have HF := hide (termsS_any N _ _ _ st tl wt k _ S _ (hg.below hb1) hst hto hwt (hs.below hb1))
  obtain ⟨x, hX⟩ : ∃ x, x = srchNo N st tl wt k S := ⟨_, rfl⟩
  rw [← hX] at HF hno ⊢
  have hx : (x != 0) = true := by simp [hno]
  have HB1 := hide hb1
  unfold gAgg at HF ⊢
  clear hb1 hg hs hno hX
  go_enter Try.func17, Try.ntmps17
  go_wp2_with fail
  generalize (w.alloc (.cells #[.int .i64 N, .slice ao st.length ca, .slice bo tl.length cb, .slice co wt.length cc] 25)) = w1 at c0 c1 c2 c3 hs1 HB1 HF ⊢
  refine HF.out.mono ?_
  rintro e w2 ⟨rfl, hb2⟩
  have HB2 := hide (below_on HB1.out hb2)
  clear c0 c1 c2 c3 hb2 HF
  go_wp2
  go_ret2
  exact ⟨rfl, HB2.out⟩
end Go.Proofs.Ytehlciejhegndaa
