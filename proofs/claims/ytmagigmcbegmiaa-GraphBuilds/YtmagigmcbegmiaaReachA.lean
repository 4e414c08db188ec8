/- Both Reach: one answer. -/
import Derived.Test.YtmagigmcbegmiaaReachR
namespace Go.Proofs.Ytmagigmcbegmiaa
open Go.RowKit Go.Lib
set_option linter.unusedVariables false
/-- What Reach answers. -/
def RA (B : List Bool) (x : Int) (w : World) (e : Ending) (w' : World) : Prop :=
  ∃ o c, e = .returned (.tuple #[.slice o B.length c, .int .i64 x]) ∧ (∀ i, i < B.length → ∃ g, o = some ⟨g, 0, none⟩ ∧ w'.cell? ⟨g, i, none⟩ = some (.bool (bAt B i))) ∧ Below w.heap.size w w'
theorem ra_nil {x : Int} {w w' : World} {e : Ending} (he : e = .returned (.tuple #[.slice none 0 0, .int .i64 x])) (hb : Below w.heap.size w w') : RA [] x w e w' := ⟨none, 0, he, fun i hi => by simp at hi, hb⟩
theorem ra_good {n : Nat} {st tl fr : List Int} {B0 : List Bool} {w w' : World} {e : Ending} (h0 : B0.length = n) (hB : ∀ u, u < n → (bAt B0 u = true ↔ Rch n st tl fr u)) (h : ReachW w n st tl fr e w') : RA B0 0 w e w' := by
  obtain ⟨R, B, rfl, ha, hl, hw, hb⟩ := h
  obtain rfl : B = B0 := bools_eq hl h0 (fun u hu => (hw u hu).trans (hB u hu).symm)
  exact ⟨_, n, by rw [hl], fun i hi => ⟨R, rfl, ha.cell i hi⟩, hb⟩
theorem bools_are (n : Nat) (st tl fr : List Int) : ∃ B : List Bool, B.length = n ∧ ∀ u, u < n → (bAt B u = true ↔ Rch n st tl fr u) := by
  classical
  refine ⟨(List.range n).map (fun v => decide (Rch n st tl fr v)), by simp, fun u hu => ?_⟩
  simp [bAt, hu]
section
variable (N : Int) (va vb vc : Value) (st tl wt : List Int) (fv : Value) (fr : List Int) (w : World)
set_option maxRecDepth 100000 in
theorem reach_chk (hg : GIs w N va vb vc st tl wt) (hst : st.length ≤ 17592186044416) (hto : tl.length ≤ 17592186044416) (hwt : wt.length ≤ 17592186044416) (fo : Option Addr) (fl fc : Nat) (hno : (chk N st tl wt).1 ≠ 0) :
    Calls Try.prog 18 #[gAgg N va vb vc, .slice fo fl fc] w fun e w' => e = .returned (.tuple #[.slice none 0 0, .int .i64 (chk N st tl wt).1]) ∧ Below w.heap.size w w' := by
  obtain ⟨ao, ca, rfl⟩ := hg.s.shape
  obtain ⟨bo, cb, rfl⟩ := hg.t.shape
  obtain ⟨co, cc, rfl⟩ := hg.u.shape
  obtain ⟨c0, c1, c2, c3, hb1, hs1⟩ := boxed w (.int .i64 N) (.slice ao st.length ca) (.slice bo tl.length cb) (.slice co wt.length cc)
  have HCK := hide (check_all N _ _ _ st tl wt _ (hg.below hb1) hst hto hwt)
  obtain ⟨⟨r1, r2⟩, hrr⟩ : ∃ r, chk N st tl wt = r := ⟨_, rfl⟩
  rw [hrr] at HCK hno ⊢
  simp only at hno
  have hne : (r1 != 0) = true := by simp [hno]
  have HB1 := hide hb1
  unfold gAgg at HCK ⊢
  clear hg hb1 hrr hno
  go_enter Try.func18, Try.ntmps18
  go_wp2_with fail
  refine HCK.out.mono ?_
  rintro e w2 ⟨rfl, hb2⟩
  have HB2 := hide (below_on HB1.out hb2)
  clear hb2 c0 c1 c2 c3
  go_wp2
  go_ret2
  exact ⟨rfl, HB2.out⟩
set_option maxRecDepth 100000 in
theorem refReach_chk (hg : GIs w N va vb vc st tl wt) (hst : st.length ≤ 17592186044416) (hto : tl.length ≤ 17592186044416) (hwt : wt.length ≤ 17592186044416) (fo : Option Addr) (fl fc : Nat) (hno : (chk N st tl wt).1 ≠ 0) :
    Calls Try.prog 19 #[gAgg N va vb vc, .slice fo fl fc] w fun e w' => e = .returned (.tuple #[.slice none 0 0, .int .i64 (chk N st tl wt).1]) ∧ Below w.heap.size w w' := by
  obtain ⟨ao, ca, rfl⟩ := hg.s.shape
  obtain ⟨bo, cb, rfl⟩ := hg.t.shape
  obtain ⟨co, cc, rfl⟩ := hg.u.shape
  obtain ⟨c0, c1, c2, c3, hb1, hs1⟩ := boxed w (.int .i64 N) (.slice ao st.length ca) (.slice bo tl.length cb) (.slice co wt.length cc)
  have HCK := hide (refCheck_all N _ _ _ st tl wt _ (hg.below hb1) hst hto hwt)
  obtain ⟨⟨r1, r2⟩, hrr⟩ : ∃ r, chk N st tl wt = r := ⟨_, rfl⟩
  rw [hrr] at HCK hno ⊢
  simp only at hno
  have hne : (r1 != 0) = true := by simp [hno]
  have HB1 := hide hb1
  unfold gAgg at HCK ⊢
  clear hg hb1 hrr hno
  go_enter Try.func19, Try.ntmps19
  go_wp2_with fail
  refine HCK.out.mono ?_
  rintro e w2 ⟨rfl, hb2⟩
  have HB2 := hide (below_on HB1.out hb2)
  clear hb2 c0 c1 c2 c3
  go_wp2
  go_ret2
  exact ⟨rfl, HB2.out⟩
set_option maxRecDepth 100000 in
theorem reach_vertex (hg : GIs w N va vb vc st tl wt) (hst : st.length ≤ 17592186044416) (hto : tl.length ≤ 17592186044416) (hwt : wt.length ≤ 17592186044416) (hf : RowAt .i64 w fv fr) (hfl : fr.length * 8 ≤ 140737488351232) (hno : (chk N st tl wt).1 = 0) (hbad : 0 ≤ badIx N fr) :
    Calls Try.prog 18 #[gAgg N va vb vc, fv] w fun e w' => e = .returned (.tuple #[.slice none 0 0, .int .i64 30]) ∧ Below w.heap.size w w' := by
  obtain ⟨ao, ca, rfl⟩ := hg.s.shape
  obtain ⟨bo, cb, rfl⟩ := hg.t.shape
  obtain ⟨co, cc, rfl⟩ := hg.u.shape
  obtain ⟨fo, fc, rfl⟩ := hf.shape
  obtain ⟨w1, hw1⟩ : ∃ w1, w1 = w.alloc (.cells #[.int .i64 N, .slice ao st.length ca, .slice bo tl.length cb, .slice co wt.length cc] 25) := ⟨_, rfl⟩
  have b1 : Below w.heap.size w w1 := by rw [hw1]; exact below_alloc (Below.refl _ _) _
  have hx1 : w1.heap[w.heap.size]? = some (.cells #[.int .i64 N, .slice ao st.length ca, .slice bo tl.length cb, .slice co wt.length cc] 25 (0, 0)) := by rw [hw1]; exact heap_new _ _
  have c0 := cell_of hx1 (i := 0) rfl
  have c1 := cell_of hx1 (i := 1) rfl
  have c2 := cell_of hx1 (i := 2) rfl
  have c3 := cell_of hx1 (i := 3) rfl
  have HCK := hide (check_all N _ _ _ st tl wt w1 (hg.below b1) hst hto hwt)
  obtain ⟨⟨r1, r2⟩, hrr⟩ : ∃ r, chk N st tl wt = r := ⟨_, rfl⟩
  rw [hrr] at HCK hno
  simp only at hno
  subst hno
  have HCT := hide (fun W (hX : W.heap[w.heap.size]? = some (.cells #[.int .i64 N, .slice ao st.length ca, .slice bo tl.length cb, .slice co wt.length cc] 25 (0, 0))) (hb : Below w.heap.size w W) => contains_any N _ _ _ w.heap.size (.slice fo fr.length fc) fr W hX (hf.below hb) hfl)
  rw [decide_eq_true hbad] at HCT
  have HB1 := hide b1; have HX1 := hide hx1
  unfold gAgg at HCK ⊢
  clear hg hf hrr hbad b1 hx1
  rw [hw1] at c0 c1 c2 c3
  go_enter Try.func18, Try.ntmps18
  go_wp2_with fail
  rw [← hw1]
  clear hw1 c0 c1 c2 c3
  refine HCK.out.mono ?_
  rintro e w2 ⟨rfl, hb2⟩
  have HB2 := hide (below_on HB1.out hb2)
  have HX2 : Hid (w2.heap[w.heap.size]? = _) := (hb2.block _ (lt_of_heap HX1.out)).trans HX1.out
  clear hb2
  go_wp2_with fail
  refine (HCT.out w2 HX2.out HB2.out).mono ?_
  rintro e w3 ⟨rfl, hb3⟩
  have HB3 := hide (below_on HB2.out hb3)
  clear hb3
  go_wp2
  go_ret2
  exact ⟨rfl, HB3.out⟩
end
/-- Program and document: one answer. -/
theorem both_any (N : Int) (st tl wt fr : List Int) (hst : st.length ≤ 17592186044416) (hto : tl.length ≤ 17592186044416) (hwt : wt.length ≤ 17592186044416) (hfl : fr.length * 8 ≤ 140737488351232) :
    ∃ (B : List Bool) (x : Int), (∀ a b c v W, GIs W N a b c st tl wt → RowAt .i64 W v fr → Calls Try.prog 18 #[gAgg N a b c, v] W (RA B x W)) ∧ (∀ a b c v W, GIs W N a b c st tl wt → RowAt .i64 W v fr → Calls Try.prog 19 #[gAgg N a b c, v] W (RA B x W)) ∧ B.length ≤ 1048576 := by
  by_cases hno : (chk N st tl wt).1 = 0
  · obtain ⟨n, rfl, hgd⟩ := chk_good hno
    by_cases hbad : 0 ≤ badIx n fr
    · refine ⟨[], 30, fun a b c v W hG hf => (reach_vertex n a b c st tl wt v fr W hG hst hto hwt hf hfl hno hbad).mono fun e w' h => ra_nil h.1 h.2, fun a b c v W hG hf => (refReach_good n a b c st tl wt v fr W hG hgd hno hf hfl).mono ?_, by simp⟩
      rintro e w' (⟨_, h1, h2⟩ | ⟨h, _⟩)
      · exact ra_nil h1 h2
      · omega
    · obtain ⟨B, hB, hR⟩ := bools_are n st tl fr
      refine ⟨B, 0, fun a b c v W hG hf => (callsIn_wide.1 (reach_good 0 n a b c st tl wt v fr W hG hgd hno hf hfl (badIx_neg.1 (by omega)))).mono fun e w' h => ra_good hB hR h, fun a b c v W hG hf => (refReach_good n a b c st tl wt v fr W hG hgd hno hf hfl).mono ?_, by rw [hB]; exact hgd.n_le⟩
      rintro e w' (⟨h, _⟩ | ⟨_, h⟩)
      · omega
      · exact ra_good hB hR h
  · refine ⟨[], (chk N st tl wt).1, fun a b c v W hG hf => ?_, fun a b c v W hG hf => ?_, by simp⟩
    · obtain ⟨fo, fc, rfl⟩ := hf.shape
      exact (reach_chk N a b c st tl wt W hG hst hto hwt fo fr.length fc hno).mono fun e w' h => ra_nil h.1 h.2
    · obtain ⟨fo, fc, rfl⟩ := hf.shape
      exact (refReach_chk N a b c st tl wt W hG hst hto hwt fo fr.length fc hno).mono fun e w' h => ra_nil h.1 h.2
end Go.Proofs.Ytmagigmcbegmiaa
