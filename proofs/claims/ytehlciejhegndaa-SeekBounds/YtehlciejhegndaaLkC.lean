import Derived.Test.YtehlciejhegndaaTr
import Derived.Test.YtehlciejhegndaaCmP
import Derived.Test.YtehlciejhegndaaRefS
import Derived.BigRegion
import Derived.BigQuiet
import Derived.Test.YtehlciejhegndaaKp
import Derived.Test.YtehlciejhegndaaCheck
import Derived.Test.YtehlciejhegndaaCkG
import Derived.Test.YtehlciejhegndaaFaA
import Derived.Deep.Cut
import Derived.Deep.CutRange
import Derived.Test.YtehlciejhegndaaRwM
import Derived.Deep.Slices
import Derived.SizedLaws
import Derived.ProofKit
import Derived.OpenShut
/- The document's Labels and row. -/
namespace Go.Proofs.Ytehlciejhegndaa
open Go.RowKit Go.Lib
set_option linter.unusedVariables false
theorem one_sat (w : World) (s : Int) : SAt (w.alloc (.cells #[.int .i64 s, .int .u64 0] 47)) (.slice (some ⟨w.heap.size, 0, none⟩) 1 1) [(s, 0)] := by
  have hh := heap_new w (.cells #[.int .i64 s, .int .u64 0] 47)
  refine ⟨_, _, rfl, by simp, by decide, fun i hi => ⟨w.heap.size, 0, rfl, ?_, ?_⟩⟩
  · have : i = 0 := by simp at hi; omega
    subst this
    exact cell_of hh rfl
  · have : i = 0 := by simp at hi; omega
    subst this
    exact cell_of hh rfl
theorem ArrU.below {w w' : World} {g B : Nat} {l : List Int} (h : ArrU w g l) (k : Below B w w') (hb : g < B) : ArrU w' g l := (k.block g hb).trans h
def LabP (w : World) (n : Nat) (st tl wt : List Int) (f : Int) (e : Ending) (w' : World) : Prop := ∃ G L, e = .returned (.slice (some ⟨G, 0, none⟩) n n) ∧ w.heap.size ≤ G ∧ ArrU w' G L ∧ Found n st tl wt 1 (S0 [f]) L ∧ Below w.heap.size w w'
set_option maxRecDepth 100000 in
theorem labels_any (n : Nat) (va vb vc : Value) (st tl wt : List Int) (f : Int) (w : World) (hg : GIs w n va vb vc st tl wt) (hgd : Good n st tl wt) (hwb : ∀ e, 0 ≤ at_ wt e ∧ at_ wt e ≤ 18446744073709551615) (hf : IsV n f) :
    Calls Try.prog 36 #[gAgg n va vb vc, .int .i64 1, .int .i64 f] w (LabP w n st tl wt f) := by
  obtain ⟨ao, ca, rfl⟩ := hg.s.shape
  obtain ⟨bo, cb, rfl⟩ := hg.t.shape
  obtain ⟨co, cc, rfl⟩ := hg.u.shape
  obtain ⟨W, hW⟩ : ∃ W, W = (w.alloc (.cells #[.int .i64 n, .slice ao st.length ca, .slice bo tl.length cb, .slice co wt.length cc] 25)).alloc (.cells #[.int .i64 f, .int .u64 0] 47) := ⟨_, rfl⟩
  have hb : Below w.heap.size w W := by rw [hW]; exact below_alloc (below_alloc (Below.refl _ _) _) _
  have hs : SAt W (.slice (some ⟨w.heap.size + 1, 0, none⟩) 1 1) (S0 [f]) := by
    have := one_sat (w.alloc (.cells #[.int .i64 n, .slice ao st.length ca, .slice bo tl.length cb, .slice co wt.length cc] 25)) f
    rw [World.size_alloc] at this
    rw [hW]; exact this
  have hok : Sok n (S0 [f]) := Vs.sok (fun j hj => by
    have : j = 0 := by simp at hj; omega
    subst this
    have := hf
    unfold IsV at this
    simpa [at_] using this)
  have HC := hide (least_any n (.slice ao st.length ca) (.slice bo tl.length cb) (.slice co wt.length cc) st tl wt 1 _ _ W (hg.below hb) hgd hwb hs hok (by simp [S0]))
  have hb0 := heap_new w (.cells #[.int .i64 n, .slice ao st.length ca, .slice bo tl.length cb, .slice co wt.length cc] 25)
  have c0 := cell_of hb0 (i := 0) rfl; have c1 := cell_of hb0 (i := 1) rfl; have c2 := cell_of hb0 (i := 2) rfl; have c3 := cell_of hb0 (i := 3) rfl
  have HB := hide hb
  unfold gAgg at HC ⊢
  clear hs hok hg hgd hwb hb0 hb
  go_enter Try.func36, Try.ntmps36
  go_wp2_with fail
  rw [← hW]
  clear c0 c1 c2 c3 hW
  refine HC.out.mono ?_
  rintro e w2 ⟨G, L, rfl, h1, h2, h3, h4⟩
  have HG : Hid (w.heap.size ≤ G ∧ ArrU w2 G L ∧ Found n st tl wt 1 (S0 [f]) L ∧ Below w.heap.size w w2) := ⟨Nat.le_trans HB.out.size h1, h2, h3, below_on HB.out h4⟩
  clear h1 h2 h3 h4 HC
  go_wp2
  go_ret
  exact ⟨G, L, rfl, HG.out⟩
theorem turn_trl {n : Nat} {st tl wt st' tl' wt' nx : List Int} (hg : Good n st tl wt) (hs : Summed n tl.length (eFrom (swL (gEdges n st tl wt tl.length) tl.length)) n st') (hl : Laying n tl.length (eFrom (swL (gEdges n st tl wt tl.length) tl.length)) (eTo (swL (gEdges n st tl wt tl.length) tl.length)) (eWt (swL (gEdges n st tl wt tl.length) tl.length)) tl.length nx tl' wt') : TrL n st tl wt st' tl' wt' := by
  have h1 : ∀ i, i < tl.length → eFrom (swL (gEdges n st tl wt tl.length) tl.length) i = tov tl i := fun i hi => (sw_from hi).1
  have h2 : ∀ i, i < tl.length → eTo (swL (gEdges n st tl wt tl.length) tl.length) i = src st n i := fun i hi => (sw_from hi).2
  have h3 : ∀ i, i < tl.length → eWt (swL (gEdges n st tl wt tl.length) tl.length) i = at_ wt i := fun i hi => by
    have := swL_at (l := gEdges n st tl wt tl.length) (k := tl.length) (i := i) (by rw [gEdges_length]; exact hi)
    unfold eWt
    rw [this, if_pos hi]
    unfold swE
    rw [gEdges_at hi]
  exact ⟨hs.congr h1, nx, hl.congr h1 h2 h3⟩
def RowP (w : World) (n : Nat) (st tl wt : List Int) (f : Int) (e : Ending) (w' : World) : Prop := ∃ G1 L1 G2 L2 a b c, e = .returned (.tuple #[.slice (some ⟨G1, 0, none⟩) n n, .slice (some ⟨G2, 0, none⟩) n n]) ∧ ArrU w' G1 L1 ∧ ArrU w' G2 L2 ∧ TrL n st tl wt a b c ∧ Found n st tl wt 1 (S0 [f]) L1 ∧ Found n a b c 1 (S0 [f]) L2 ∧ Below w.heap.size w w'
set_option maxRecDepth 100000 in
set_option maxHeartbeats 4000000 in
theorem rrow_any (n : Nat) (va vb vc : Value) (st tl wt : List Int) (f : Int) (w : World) (hg : GIs w n va vb vc st tl wt) (hgd : Good n st tl wt) (hwb : ∀ e, 0 ≤ at_ wt e ∧ at_ wt e ≤ 18446744073709551615) (hf : IsV n f) :
    Calls Try.prog 59 #[gAgg n va vb vc, .int .i64 f] w (RowP w n st tl wt f) := by
  obtain ⟨ao, ca, rfl⟩ := hg.s.shape
  obtain ⟨bo, cb, rfl⟩ := hg.t.shape
  obtain ⟨co, cc, rfl⟩ := hg.u.shape
  obtain ⟨W, hW⟩ : ∃ W, W = w.alloc (.cells #[.int .i64 n, .slice ao st.length ca, .slice bo tl.length cb, .slice co wt.length cc] 25) := ⟨_, rfl⟩
  have hb : Below w.heap.size w W := by rw [hW]; exact below_alloc (Below.refl _ _) _
  have hb0 : W.heap[w.heap.size]? = some (.cells #[.int .i64 n, .slice ao st.length ca, .slice bo tl.length cb, .slice co wt.length cc] 25 (0, 0)) := by rw [hW]; exact heap_new _ _
  have c0 := cell_of hb0 (i := 0) rfl; have c1 := cell_of hb0 (i := 1) rfl; have c2 := cell_of hb0 (i := 2) rfl; have c3 := cell_of hb0 (i := 3) rfl
  have HC := hide (turnR_any n (.slice ao st.length ca) (.slice bo tl.length cb) (.slice co wt.length cc) st tl wt W (hg.below hb) hgd (fun e => (hwb e).1))
  have HB := hide hb; have HB0 := hide hb0
  have HL1 := hide (fun X (h : Below w.heap.size w X) => labels_any n (.slice ao st.length ca) (.slice bo tl.length cb) (.slice co wt.length cc) st tl wt f X (hg.below h) hgd hwb hf)
  have HGD := hide hgd; have HF := hide hf
  unfold gAgg at HC HL1 ⊢
  clear hg hgd hwb hb0 hb hf
  rw [hW] at c0 c1 c2 c3
  go_enter Try.func59, Try.ntmps59
  go_wp2_with fail
  rw [← hW]
  clear c0 c1 c2 c3 hW
  refine HC.out.mono ?_
  rintro e w2 ⟨va', vb', vc', st', tl', wt', nx, L, rfl, hg2, hL, hs, hl, hb2⟩
  subst hL
  have htr := turn_trl HGD.out hs hl
  obtain ⟨ao', ca', rfl⟩ := hg2.s.shape
  obtain ⟨bo', cb', rfl⟩ := hg2.t.shape
  obtain ⟨co', cc', rfl⟩ := hg2.u.shape
  obtain ⟨w3, hw3⟩ : ∃ w3, w3 = w2.alloc (.cells #[.int .i64 n, .slice ao' st'.length ca', .slice bo' tl'.length cb', .slice co' wt'.length cc'] 25) := ⟨_, rfl⟩
  have hb3 : Below w2.heap.size w2 w3 := by rw [hw3]; exact below_alloc (Below.refl _ _) _
  have hB3 : Below w.heap.size w w3 := below_on (below_on HB.out hb2) hb3
  have k0 : w3.heap[w.heap.size]? = some (.cells #[.int .i64 n, .slice ao st.length ca, .slice bo tl.length cb, .slice co wt.length cc] 25 (0, 0)) := (hb3.block _ (by have := lt_of_heap HB0.out; have := hb2.size; omega)).trans ((hb2.block _ (lt_of_heap HB0.out)).trans HB0.out)
  have k1 : w3.heap[w2.heap.size]? = some (.cells #[.int .i64 n, .slice ao' st'.length ca', .slice bo' tl'.length cb', .slice co' wt'.length cc'] 25 (0, 0)) := by rw [hw3]; exact heap_new _ _
  have HL2 := hide (fun X (h : Below w3.heap.size w3 X) => labels_any n (.slice ao' st'.length ca') (.slice bo' tl'.length cb') (.slice co' wt'.length cc') st' tl' wt' f X ((hg2.below hb3).below h) (htr.good HGD.out) htr.wts HF.out)
  have HB3 := hide hB3; have HK0 := hide k0; have HK1 := hide k1; have HTR := hide htr
  have HL3 := hide (fun X (h : Below w3.heap.size w3 X) => HL1.out X (below_on HB3.out h))
  unfold gAgg at HL2 ⊢
  clear hg2 hs hl hb2 hb3 hB3 htr HL1 HB HB0 HC k0 k1
  have d0 := cell_of HK0.out (i := 0) rfl; have d1 := cell_of HK0.out (i := 1) rfl; have d2 := cell_of HK0.out (i := 2) rfl; have d3 := cell_of HK0.out (i := 3) rfl
  have e0 := cell_of HK1.out (i := 0) rfl; have e1 := cell_of HK1.out (i := 1) rfl; have e2 := cell_of HK1.out (i := 2) rfl; have e3 := cell_of HK1.out (i := 3) rfl
  go_wp2_with fail
  rw [← hw3]
  clear hw3
  go_region_with (first
    | (go_at_call 36; (with_reducible show Calls _ 36 #[.agg #[_, .slice ao st.length ca, _, _], _, _] _ _); refine (HL3.out _ (below_drew (Below.refl _ _))).mono ?_; rintro e8 w4 ⟨G1, L1, rfl, g1, a1, f1, b1⟩; have HBc : Hid (Below w3.heap.size w3 w4) := below_on (below_drew (Below.refl _ _)) b1; have HA1 := hide (And.intro a1 f1); have q1 := (HBc.out.block _ (lt_of_heap HK1.out)).trans HK1.out; have x0 := cell_of q1 (i := 0) rfl; have x1 := cell_of q1 (i := 1) rfl; have x2 := cell_of q1 (i := 2) rfl; have x3 := cell_of q1 (i := 3) rfl; clear g1 a1 f1 b1 q1)
    | (go_at_call 36; (with_reducible show Calls _ 36 #[.agg #[_, .slice ao' st'.length ca', _, _], _, _] _ _); refine (HL2.out _ (below_drew (Below.refl _ _))).mono ?_; rintro e8 w4 ⟨G2, L2, rfl, g2, a2, f2, b2⟩; have HBc : Hid (Below w3.heap.size w3 w4) := below_on (below_drew (Below.refl _ _)) b2; have HA2 := hide (And.intro a2 f2); have q1 := (HBc.out.block _ (lt_of_heap HK0.out)).trans HK0.out; have x0 := cell_of q1 (i := 0) rfl; have x1 := cell_of q1 (i := 1) rfl; have x2 := cell_of q1 (i := 2) rfl; have x3 := cell_of q1 (i := 3) rfl; clear g2 a2 f2 b2 q1)
    | (go_at_call 36; (with_reducible show Calls _ 36 #[.agg #[_, .slice ao' st'.length ca', _, _], _, _] _ _); refine (HL2.out _ HBc.out).mono ?_; rintro e9 w5 ⟨G2, L2, rfl, g2, a2, f2, b2⟩; have HFN : Hid (ArrU w5 G1 L1 ∧ ArrU w5 G2 L2 ∧ Found n st tl wt 1 (S0 [f]) L1 ∧ Found n st' tl' wt' 1 (S0 [f]) L2 ∧ Below w.heap.size w w5) := ⟨HA1.out.1.below b2 (lt_of_heap HA1.out.1), a2, HA1.out.2, f2, below_on (below_on HB3.out HBc.out) b2⟩; clear g2 a2 f2 b2)
    | (go_at_call 36; (with_reducible show Calls _ 36 #[.agg #[_, .slice ao st.length ca, _, _], _, _] _ _); refine (HL3.out _ HBc.out).mono ?_; rintro e9 w5 ⟨G1, L1, rfl, g1, a1, f1, b1⟩; have HFN : Hid (ArrU w5 G1 L1 ∧ ArrU w5 G2 L2 ∧ Found n st tl wt 1 (S0 [f]) L1 ∧ Found n st' tl' wt' 1 (S0 [f]) L2 ∧ Below w.heap.size w w5) := ⟨a1, HA2.out.1.below b1 (lt_of_heap HA2.out.1), f1, HA2.out.2, below_on (below_on HB3.out HBc.out) b1⟩; clear g1 a1 f1 b1)
    | fail)
  all_goals
    go_wp2
    go_ret2
    exact ⟨_, _, _, _, st', tl', wt', rfl, HFN.out.1, HFN.out.2.1, HTR.out, HFN.out.2.2.1, HFN.out.2.2.2.1, HFN.out.2.2.2.2⟩
end Go.Proofs.Ytehlciejhegndaa

/- The document's same: whether two lists of words are alike. -/
namespace Go.Proofs.Ytehlciejhegndaa
open Go.RowKit Go.Lib
set_option linter.unusedVariables false
theorem at_ext {xs ys : List Int} (hl : xs.length = ys.length) (h : ∀ i, i < xs.length → at_ xs i = at_ ys i) : xs = ys := by
  apply List.ext_getElem hl
  intro i h1 h2
  have := h i h1
  unfold at_ at this
  rw [List.getElem?_eq_getElem h1, List.getElem?_eq_getElem h2] at this
  simpa using this
theorem mdec4 {i n : Nat} (h : i < n) : n - (RowKit.intOf (.int .i64 ((i : Int) + 1))).toNat < n - (RowKit.intOf (.int .i64 (i : Int))).toNat := by simp [RowKit.intOf]; omega
set_option maxRecDepth 100000 in
theorem sameB_any (v1 v2 : Value) (xs ys : List Int) (b : Bool) (w : World) (h1 : RowAt .u64 w v1 xs) (h2 : RowAt .u64 w v2 ys) (hb : b = true ↔ xs = ys) :
    Calls Try.prog 62 #[v1, v2] w fun e w' => e = .returned (.bool b) ∧ Below w.heap.size w w' := by
  have HNF : Hid (xs ≠ ys → b = false) := fun h => by
    cases b with
    | false => rfl
    | true => exact absurd (hb.1 rfl) h
  have HYF : Hid (xs = ys → b = true) := fun h => hb.2 h
  clear hb
  by_cases hl : xs.length = ys.length
  · by_cases hne : xs = []
    · subst hne
      have hy : ys = [] := List.eq_nil_of_length_eq_zero (by simpa using hl.symm)
      subst hy
      obtain ⟨a1, c1, rfl⟩ := h1.empty
      obtain ⟨a2, c2, rfl⟩ := h2.empty
      have hbt := HYF.out rfl
      rw [hbt]
      clear h1 h2 hbt
      go_enter Try.func62, Try.ntmps62
      go_wp2
      refine wp_loop_rounds 1 ?_
      rw [rounds_succ]
      go_wp2
      go_ret
      exact ⟨rfl, Below.refl _ _⟩
    · obtain ⟨g1, o1, c1, rfl, hc1, hm1, hcell1⟩ := h1.spot hne
      obtain ⟨g2, o2, c2, rfl, hc2, hm2, hcell2⟩ := h2.spot (by intro e; rw [e] at hl; exact hne (List.eq_nil_of_length_eq_zero hl))
      have HEX : Hid ((∀ i, i < xs.length → at_ xs i = at_ ys i) → b = true) := fun h => HYF.out (at_ext hl h)
      have HDF : Hid (∀ i, at_ xs i ≠ at_ ys i → b = false) := fun i h => HNF.out (fun e => h (by rw [e]))
      clear h1 h2 hne
      obtain ⟨n, hn⟩ : ∃ n, n = xs.length := ⟨_, rfl⟩
      have HL9 : Hid (xs.length = ys.length) := hl
      rw [← hl] at hc2 ⊢
      rw [← hn] at hcell1 hc1 hc2 HEX HL9 ⊢
      have H1 := hide hcell1; have H2 := hide hcell2
      clear hcell1 hcell2 hn hl HNF HYF
      go_enter Try.func62, Try.ntmps62
      go_wp2
      go_loopw [5] (fun t wr => ∃ k : Nat, k ≤ n ∧ t = .int .i64 k ∧ (∀ i, i < k → at_ xs i = at_ ys i) ∧ ∃ m, wr = w.drewN m) (fun t _ => n - (RowKit.intOf t).toNat)
      case atStart => exact ⟨0, by omega, rfl, fun i hi => absurd hi (Nat.not_lt_zero _), 0, rfl⟩
      case round =>
        obtain ⟨k, hk, rfl, hal, m, rfl⟩ := hrel
        have HAL := hide hal
        clear hal
        by_cases hlt : k < n
        · have d1 : w.cell? ⟨g1, o1 + k, none⟩ = some (.int .u64 (at_ xs k)) := H1.out k hlt
          have d2 : w.cell? ⟨g2, o2 + k, none⟩ = some (.int .u64 (at_ ys k)) := H2.out k (by rw [← HL9.out]; exact hlt)
          obtain ⟨x, hx⟩ : ∃ x, x = at_ xs k := ⟨_, rfl⟩
          obtain ⟨y, hy⟩ : ∃ y, y = at_ ys k := ⟨_, rfl⟩
          rw [← hx] at d1
          rw [← hy] at d2
          have HX := hide hx; have HY := hide hy
          clear hx hy
          by_cases hxy : x = y
          · subst hxy
            go_wp2_with fail
            go_region
            all_goals
              go_wp2
              exact ⟨⟨k + 1, hlt, by simp, fun i hi => by
                rcases Nat.lt_or_ge i k with q | q
                · exact HAL.out i q
                · obtain rfl : i = k := by omega
                  rw [← HX.out, ← HY.out], m + 1, rfl⟩, mdec4 hlt⟩
          · have HBF := hide (HDF.out k (by rw [← HX.out, ← HY.out]; exact hxy))
            go_wp2_with fail
            go_region
            all_goals
              go_wp2
              go_ret
              exact ⟨by rw [HBF.out]; rfl, below_drew (below_drewN (Below.refl _ _) _)⟩
        · obtain rfl : k = n := by omega
          have HBF := hide (HEX.out HAL.out)
          go_wp2
          go_ret
          exact ⟨by rw [HBF.out]; rfl, below_drewN (Below.refl _ _) _⟩
  · obtain ⟨a1, c1, rfl⟩ : ∃ ao c, v1 = .slice ao xs.length c := by obtain ⟨ao, c, h, _⟩ := h1; exact ⟨ao, c, h⟩
    obtain ⟨a2, c2, rfl⟩ : ∃ ao c, v2 = .slice ao ys.length c := by obtain ⟨ao, c, h, _⟩ := h2; exact ⟨ao, c, h⟩
    have hbf := HNF.out (fun e => hl (by rw [e]))
    rw [hbf]
    obtain ⟨n, hn⟩ : ∃ n, n = xs.length := ⟨_, rfl⟩
    obtain ⟨m, hm⟩ : ∃ m, m = ys.length := ⟨_, rfl⟩
    rw [← hn, ← hm] at hl ⊢
    clear h1 h2 hbf hn hm
    have hl2 : ¬ (n : Int) = (m : Int) := by omega
    go_enter Try.func62, Try.ntmps62
    go_wp2
    go_ret
    exact ⟨rfl, Below.refl _ _⟩
end Go.Proofs.Ytehlciejhegndaa

/- The document's Check of marks. -/
namespace Go.Proofs.Ytehlciejhegndaa
open Go.RowKit Go.Lib
set_option linter.unusedVariables false
set_option linter.unusedSimpArgs false
/-- What the document's Check answers. -/
def CkQ (N : Int) (st tl wt at' : List Int) (fr ts : List (List Int)) (e i : Int) : Prop :=
  ((chk N st tl wt).1 ≠ 0 ∧ e = (chk N st tl wt).1 ∧ i = 0) ∨
  ((chk N st tl wt).1 = 0 ∧ ¬ (fr.length = at'.length ∧ ts.length = at'.length) ∧ e = 34 ∧ i = 0) ∨
  ((chk N st tl wt).1 = 0 ∧ fr.length = at'.length ∧ ts.length = at'.length ∧ 64 < at'.length ∧ e = 22 ∧ i = 0) ∨
  ((chk N st tl wt).1 = 0 ∧ fr.length = at'.length ∧ ts.length = at'.length ∧ at'.length ≤ 64 ∧ ∀ (n : Nat) a b c, N = (n : Int) → TrL n st tl wt a b c → FstNo n st tl wt a b c at' fr ts at'.length e i)
theorem CkR.two {N : Int} {st tl wt at' : List Int} {fr ts : List (List Int)} {e i e' i' : Int} (h : CkR N st tl wt at' fr ts e i) (k : CkQ N st tl wt at' fr ts e' i') : e = e' ∧ i = i' := by
  rcases h with h | h | h | ⟨h1, h2, h3, h4, n, a, b, c, hn, ht, hf⟩
  · refine CkR.one (at' := at') (fr := fr) (ts := ts) (.inl h) ?_
    rcases k with k | k | k | ⟨k1, _⟩
    · exact .inl k
    · exact .inr (.inl k)
    · exact .inr (.inr (.inl k))
    · exact absurd k1 h.1
  · refine CkR.one (at' := at') (fr := fr) (ts := ts) (.inr (.inl h)) ?_
    rcases k with k | k | k | ⟨k1, k2, k3, _⟩
    · exact .inl k
    · exact .inr (.inl k)
    · exact .inr (.inr (.inl k))
    · exact absurd ⟨k2, k3⟩ h.2.1
  · refine CkR.one (at' := at') (fr := fr) (ts := ts) (.inr (.inr (.inl h))) ?_
    rcases k with k | k | k | ⟨k1, k2, k3, k4, _⟩
    · exact .inl k
    · exact .inr (.inl k)
    · exact .inr (.inr (.inl k))
    · exact absurd h.2.2.2.1 (by omega)
  · refine CkR.one (at' := at') (fr := fr) (ts := ts) (.inr (.inr (.inr ⟨h1, h2, h3, h4, n, a, b, c, hn, ht, hf⟩))) ?_
    rcases k with k | k | k | ⟨k1, k2, k3, k4, kf⟩
    · exact .inl k
    · exact .inr (.inl k)
    · exact .inr (.inr (.inl k))
    · exact .inr (.inr (.inr ⟨k1, k2, k3, k4, n, a, b, c, hn, ht, kf n a b c hn ht⟩))
def CkQP (w : World) (N : Int) (st tl wt at' : List Int) (fr ts : List (List Int)) (e : Ending) (w' : World) : Prop := ∃ e' i, e = .returned (.tuple #[.int .i64 e', .int .i64 i]) ∧ CkQ N st tl wt at' fr ts e' i ∧ Below w.heap.size w w'
set_option maxRecDepth 100000 in
set_option maxHeartbeats 4000000 in
theorem rckq_bad (N : Int) (va vb vc : Value) (st tl wt : List Int) (v0 v1 v2 : Value) (at' : List Int) (fr ts : List (List Int)) (w : World) (hg : GIs w N va vb vc st tl wt) (hst : st.length ≤ 17592186044416) (hto : tl.length ≤ 17592186044416) (hwt : wt.length ≤ 17592186044416) (hm : MkI w v0 v1 v2 at' fr ts)
    (hbad : (chk N st tl wt).1 ≠ 0 ∨ ¬ (fr.length = at'.length ∧ ts.length = at'.length) ∨ 64 < at'.length) :
    Calls Try.prog 28 #[gAgg N va vb vc, mAgg v0 v1 v2] w (CkQP w N st tl wt at' fr ts) := by
  obtain ⟨ao, ca, rfl⟩ := hm.a.shape
  obtain ⟨bo, cb, rfl⟩ := hm.f.shape
  obtain ⟨co, cc, rfl⟩ := hm.t.shape
  obtain ⟨sa, da, rfl⟩ := hg.s.shape
  obtain ⟨sb, db, rfl⟩ := hg.t.shape
  obtain ⟨sc, dc, rfl⟩ := hg.u.shape
  obtain ⟨W, hW⟩ : ∃ W, W = (w.alloc (.cells #[.int .i64 N, .slice sa st.length da, .slice sb tl.length db, .slice sc wt.length dc] 25)).alloc (.cells #[.slice ao at'.length ca, .slice bo fr.length cb, .slice co ts.length cc] 41) := ⟨_, rfl⟩
  obtain ⟨hA, hB, hbW⟩ := two_box w N _ _ _ _ _ _ W hW
  have HC := hide (refCheck_all N (.slice sa st.length da) (.slice sb tl.length db) (.slice sc wt.length dc) st tl wt W (hg.below hbW) hst hto hwt)
  obtain ⟨r1, r2, hrr⟩ : ∃ r1 r2, chk N st tl wt = (r1, r2) := ⟨_, _, rfl⟩
  have HR1 := hide (show (chk N st tl wt).1 = r1 by rw [hrr])
  rw [hrr] at HC hbad
  have c0 := cell_of hA (i := 0) rfl; have c1 := cell_of hA (i := 1) rfl; have c2 := cell_of hA (i := 2) rfl; have c3 := cell_of hA (i := 3) rfl
  have HB := hide hB; have HBW := hide hbW
  unfold ChkPost at HC
  unfold gAgg at HC ⊢
  unfold mAgg
  obtain ⟨p, hp⟩ : ∃ p, p = at'.length := ⟨_, rfl⟩
  obtain ⟨q, hq⟩ : ∃ q, q = fr.length := ⟨_, rfl⟩
  obtain ⟨r, hr⟩ : ∃ r, r = ts.length := ⟨_, rfl⟩
  have HP := hide hp; have HQ := hide hq; have HRR := hide hr
  rw [← hp, ← hq, ← hr] at hW HB hbad ⊢
  simp only at hbad
  clear hA hB hbW hg hm hrr hp hq hr
  rw [hW] at c0 c1 c2 c3
  go_enter Try.func28, Try.ntmps28
  go_wp2_with fail
  rw [← hW]
  clear hW c0 c1 c2 c3
  refine HC.out.mono ?_
  rintro e w2 ⟨rfl, hb2⟩
  have q2 := (hb2.block _ (lt_of_heap HB.out)).trans HB.out
  have m0 := cell_of q2 (i := 0) rfl; have m1 := cell_of q2 (i := 1) rfl; have m2 := cell_of q2 (i := 2) rfl
  have HB2 := hide (below_on HBW.out hb2)
  clear hb2 q2
  by_cases h1 : r1 = 0
  · subst h1
    have hbad2 : ¬ (q = p ∧ r = p) ∨ 64 < p := by
      rcases hbad with h | h
      · exact absurd rfl h
      · exact h
    clear hbad
    by_cases hqp : q = p
    · subst hqp
      by_cases hrp : r = q
      · subst hrp
        have h64 : 64 < r := by
          rcases hbad2 with h | h
          · exact absurd ⟨rfl, rfl⟩ h
          · exact h
        have h64i : (64 : Int) < (r : Int) := by omega
        clear hbad2
        go_wp2
        go_ret2
        exact ⟨22, 0, rfl, .inr (.inr (.inl ⟨HR1.out, by rw [← HQ.out, ← HP.out], by rw [← HRR.out, ← HP.out], by rw [← HP.out]; exact h64, rfl, rfl⟩)), HB2.out⟩
      · have hrpi : ¬ (r : Int) = (q : Int) := by omega
        clear hbad2
        go_wp2
        go_ret2
        exact ⟨34, 0, rfl, .inr (.inl ⟨HR1.out, fun h => hrp (by rw [HRR.out, HP.out]; exact h.2), rfl, rfl⟩), HB2.out⟩
    · have hqpi : ¬ (q : Int) = (p : Int) := by omega
      clear hbad2
      go_wp2
      go_ret2
      exact ⟨34, 0, rfl, .inr (.inl ⟨HR1.out, fun h => hqp (by rw [HQ.out, HP.out]; exact h.1), rfl, rfl⟩), HB2.out⟩
  · clear hbad
    go_wp2
    go_ret2
    exact ⟨r1, 0, rfl, .inl ⟨by rw [HR1.out]; exact h1, HR1.out.symm, rfl⟩, HB2.out⟩
theorem found_iff {n : Nat} {st tl wt L F : List Int} {v : Int} {b : Bool} (hw : ∀ e, 0 ≤ at_ wt e ∧ at_ wt e ≤ 18446744073709551615) (hL : Found n st tl wt 1 (S0 [v]) L) (hb : b = true ↔ Found n st tl wt 1 (S0 [v]) F) : b = true ↔ L = F := by
  rw [hb]
  constructor
  · intro h
    refine hL.only h hw (fun j hj => ?_)
    rw [S0_len] at hj
    rw [S0_at [v] j hj]
    simp
  · intro h
    rw [← h]; exact hL
set_option maxRecDepth 100000 in
set_option maxHeartbeats 8000000 in
theorem rckq_good (n : Nat) (va vb vc : Value) (st tl wt : List Int) (v0 v1 v2 : Value) (at' : List Int) (fr ts : List (List Int)) (w : World) (hg : GIs w n va vb vc st tl wt) (hgd : Good n st tl wt) (hchk : (chk n st tl wt).1 = 0) (hwb : ∀ e, 0 ≤ at_ wt e ∧ at_ wt e ≤ 18446744073709551615) (hm : MkI w v0 v1 v2 at' fr ts)
    (hfl : fr.length = at'.length) (htl : ts.length = at'.length) (h64 : at'.length ≤ 64) :
    Calls Try.prog 28 #[gAgg n va vb vc, mAgg v0 v1 v2] w (CkQP w n st tl wt at' fr ts) := by
  obtain ⟨ao, ca, rfl⟩ := hm.a.shape
  obtain ⟨bo, cb, rfl⟩ := hm.f.shape
  obtain ⟨co, cc, rfl⟩ := hm.t.shape
  obtain ⟨sa, da, rfl⟩ := hg.s.shape
  obtain ⟨sb, db, rfl⟩ := hg.t.shape
  obtain ⟨sc, dc, rfl⟩ := hg.u.shape
  have hn := hgd.n_le
  obtain ⟨W, hW⟩ : ∃ W, W = (w.alloc (.cells #[.int .i64 n, .slice sa st.length da, .slice sb tl.length db, .slice sc wt.length dc] 25)).alloc (.cells #[.slice ao at'.length ca, .slice bo fr.length cb, .slice co ts.length cc] 41) := ⟨_, rfl⟩
  obtain ⟨hA, hB, hbW⟩ := two_box w n _ _ _ _ _ _ W hW
  have HC := hide (refCheck_all n (.slice sa st.length da) (.slice sb tl.length db) (.slice sc wt.length dc) st tl wt W (hg.below hbW) (by have := hgd.s_len; omega) (by have := hgd.m_le; omega) (by have := hgd.w_len; have := hgd.m_le; omega))
  obtain ⟨r1, r2, hrr⟩ : ∃ r1 r2, chk n st tl wt = (r1, r2) := ⟨_, _, rfl⟩
  have HR1 := hide hchk
  rw [hrr] at HC hchk
  simp only at hchk
  subst hchk
  have HG := hide hg; have HGD := hide hgd; have HWB := hide hwb; have HM := hide hm
  have HFL := hide hfl; have HTL := hide htl
  have HA := hide hA; have HB := hide hB; have HBW := hide hbW
  have c0 := cell_of hA (i := 0) rfl; have c1 := cell_of hA (i := 1) rfl; have c2 := cell_of hA (i := 2) rfl; have c3 := cell_of hA (i := 3) rfl
  unfold ChkPost at HC
  unfold gAgg at HC ⊢
  unfold mAgg
  obtain ⟨p, hp⟩ : ∃ p, p = at'.length := ⟨_, rfl⟩
  have HP := hide hp
  rw [hfl, htl, ← hp] at hW HB ⊢
  rw [← hp] at h64
  clear hg hgd hwb hm hA hB hbW hrr hfl htl hp
  rw [hW] at c0 c1 c2 c3
  go_enter Try.func28, Try.ntmps28
  go_wp2_with fail
  rw [← hW]
  clear hW c0 c1 c2 c3
  refine HC.out.mono ?_
  rintro e w4 ⟨rfl, hb2⟩
  have q1 := (hb2.block _ (lt_of_heap HA.out)).trans HA.out
  have q2 := (hb2.block _ (lt_of_heap HB.out)).trans HB.out
  have HB4 := hide (below_on HBW.out hb2); have HX1 := hide q1; have HX2 := hide q2
  have m0 := cell_of q2 (i := 0) rfl; have m1 := cell_of q2 (i := 1) rfl; have m2 := cell_of q2 (i := 2) rfl
  have h64i : ¬ (64 : Int) < (p : Int) := by omega
  clear hb2 q1 q2 HA HB HBW HC
  go_wp2_with fail
  clear m0 m1 m2
  have HCE := hide (fun W (h : Below w4.heap.size w4 W) => And.intro ((h.block _ (lt_of_heap HX1.out)).trans HX1.out) ((h.block _ (lt_of_heap HX2.out)).trans HX2.out))
  have HMI := hide (fun W (h : Below w4.heap.size w4 W) => HM.out.below (below_on HB4.out h))
  have HGI := hide (fun W (h : Below w4.heap.size w4 W) => HG.out.below (below_on HB4.out h))
  go_loopw [8] (fun t wr => ∃ i : Nat, i ≤ p ∧ t = .int .i64 i ∧ Hid ((∀ a b c, TrL n st tl wt a b c → ∀ q, q < i → LmNo n st tl wt a b c (at_ at' q) (rowL fr q) (rowL ts q) 0) ∧ Below w4.heap.size w4 wr)) (fun t _ => p - (RowKit.intOf t).toNat)
  case atStart => exact ⟨0, Nat.zero_le _, rfl, fun _ _ _ _ q hq => absurd hq (Nat.not_lt_zero _), Below.refl _ _⟩
  case round =>
    obtain ⟨i, hip, rfl, HH⟩ := hrel
    have HEND : Hid (∀ (W : World) e', Below w4.heap.size w4 W → (∀ a b c, TrL n st tl wt a b c → LmNo n st tl wt a b c (at_ at' i) (rowL fr i) (rowL ts i) e') → e' ≠ 0 → i < p → CkQP w n st tl wt at' fr ts (.returned (.tuple #[.int .i64 e', .int .i64 i])) W) := fun W e' hb h1 h2 h3 => ⟨e', i, rfl, .inr (.inr (.inr ⟨HR1.out, HFL.out, HTL.out, by rw [← HP.out]; exact h64, fun n' a b c hn' ht => by
      obtain rfl : n = n' := by omega
      exact .inl ⟨i, by rw [← HP.out]; exact h3, HH.out.1 a b c ht, h1 a b c ht, h2, rfl⟩⟩)), below_on HB4.out hb⟩
    obtain ⟨e1, e2⟩ := HCE.out wr HH.out.2
    have m0 := cell_of e2 (i := 0) rfl
    by_cases hlt : i < p
    · have hii : (i : Int) < (p : Int) := by omega
      obtain ⟨ga, oa, ca', hsa, hca, d0⟩ := (HMI.out wr HH.out.2).a.cellAt i (by rw [← HP.out]; exact hlt)
      simp only [Value.slice.injEq] at hsa
      obtain ⟨rfl, _, rfl⟩ := hsa
      obtain ⟨gf, of_, vo, vc, rfl, d1, hrowF⟩ := (HMI.out wr HH.out.2).f.at (i := i) (by rw [HFL.out, ← HP.out]; exact hlt)
      obtain ⟨gt, ot, uo, uc, rfl, d2, hrowT⟩ := (HMI.out wr HH.out.2).t.at (i := i) (by rw [HTL.out, ← HP.out]; exact hlt)
      obtain ⟨v, hv⟩ : ∃ v, v = at_ at' i := ⟨_, rfl⟩
      have HV := hide hv
      rw [← hv] at d0 HEND
      have HRWF := hide hrowF; have HRWT := hide hrowT
      have HD0 := hide d0; have HD1 := hide d1; have HD2 := hide d2
      clear hv hca hrowF hrowT d1 d2 d0
      go_wp2_with fail
      have X0 := fun (x : GW wr) => (below_cell (o := 0) x.bel (lt_of_heap e1)).trans (cell_of e1 (i := 0) rfl)
      have X1 := fun (x : GW wr) => (below_cell (o := 1) x.bel (lt_of_heap e1)).trans (cell_of e1 (i := 1) rfl)
      have X2 := fun (x : GW wr) => (below_cell (o := 2) x.bel (lt_of_heap e1)).trans (cell_of e1 (i := 2) rfl)
      have X3 := fun (x : GW wr) => (below_cell (o := 3) x.bel (lt_of_heap e1)).trans (cell_of e1 (i := 3) rfl)
      have M0 := fun (x : GW wr) => (below_cell (o := 0) x.bel (lt_of_heap e2)).trans (cell_of e2 (i := 0) rfl)
      have Y0 : ∀ (x : GW wr), x.world.cell? ⟨ga, oa + i, none⟩ = some (.int .i64 v) := fun x => (below_cell x.bel (block_of_cell HD0.out)).trans HD0.out
      have HIV := hide (fun (x : GW wr) => rVtx_any n (.slice sa st.length da) (.slice sb tl.length db) (.slice sc wt.length dc) v x.world)
      unfold gAgg at HIV
      go_cut [53] from 46 to 52 (fun t wx => t = .bool (!(decide (0 ≤ v ∧ v < (n : Int)))) ∧ Below wr.heap.size wr wx)
      case first =>
        refine wp_region_gw (by kernel_rfl) (by kernel_rfl) ?_
        repeat (go_big_quiet_step (first
          | (go_at_call 58; exact gw_of (HIV.out _))
          | rfl))
        refine wpQuiet_nil ?_
        intro _ hw'
        obtain ⟨x, hw''⟩ := hw'
        subst hw''
        go_wp2_with fail
        go_meet
        case rel => exact ⟨by simp, x.bel⟩
      case rest =>
        obtain ⟨rfl, hb5⟩ := hcut
        have HB5 := hide hb5
        have HW5 := hide (below_on HH.out.2 hb5)
        clear hb5 X0 X1 X2 X3 M0 Y0 HIV e1 e2 m0
        by_cases hiv : IsV n v
        · have hde : (!(decide (0 ≤ v ∧ v < (n : Int)))) = false := by
            have : decide (0 ≤ v ∧ v < (n : Int)) = true := decide_eq_true hiv
            rw [this]; rfl
          rw [hde]
          clear hde
          go_wp2_with fail
          obtain ⟨e1, e2⟩ := HCE.out wc HW5.out
          obtain ⟨la, hla⟩ : ∃ la, la = (rowL fr i).length := ⟨_, rfl⟩
          obtain ⟨lb, hlb⟩ : ∃ lb, lb = (rowL ts i).length := ⟨_, rfl⟩
          have HLA := hide hla; have HLB := hide hlb
          have X1 := fun (x : GW wc) => (below_cell (o := 1) x.bel (lt_of_heap e2)).trans (cell_of e2 (i := 1) rfl)
          have X2 := fun (x : GW wc) => (below_cell (o := 2) x.bel (lt_of_heap e2)).trans (cell_of e2 (i := 2) rfl)
          have X0 := fun (x : GW wc) => (below_cell (o := 0) x.bel (lt_of_heap e1)).trans (cell_of e1 (i := 0) rfl)
          have Y1 : ∀ (x : GW wc), x.world.cell? ⟨gf, of_ + i, none⟩ = some (.slice vo la vc) := fun x => by rw [hla]; exact (below_cell (below_on HB5.out x.bel) (block_of_cell HD1.out)).trans HD1.out
          have Y2 : ∀ (x : GW wc), x.world.cell? ⟨gt, ot + i, none⟩ = some (.slice uo lb uc) := fun x => by rw [hlb]; exact (below_cell (below_on HB5.out x.bel) (block_of_cell HD2.out)).trans HD2.out
          clear e1 e2 hla hlb
          go_cut [74] from 55 to 73 (fun t wx => t = .bool (!(decide (la = n) && decide (lb = n))) ∧ Below wc.heap.size wc wx)
          case first =>
            by_cases ha : la = n
            · subst ha
              have g1 : ((la : Int) != (la : Int)) = false := by simp
              by_cases hb : lb = la
              · subst hb
                refine wp_region_gw (by kernel_rfl) (by kernel_rfl) ?_
                repeat (go_big_quiet_step (rfl))
                refine wpQuiet_nil ?_
                intro _ hw'
                obtain ⟨x, hw''⟩ := hw'
                subst hw''
                go_wp2_with fail
                go_meet
                case rel => exact ⟨by simp, x.bel⟩
              · have hbi : ¬ (lb : Int) = (la : Int) := by omega
                have g2 : ((lb : Int) != (la : Int)) = true := by simp [hbi]
                refine wp_region_gw (by kernel_rfl) (by kernel_rfl) ?_
                repeat (go_big_quiet_step (rfl))
                refine wpQuiet_nil ?_
                intro _ hw'
                obtain ⟨x, hw''⟩ := hw'
                subst hw''
                go_wp2_with fail
                go_meet
                case rel => exact ⟨by simp [hb], x.bel⟩
            · have hai : ¬ (la : Int) = (n : Int) := by omega
              have g2 : ((la : Int) != (n : Int)) = true := by simp [hai]
              refine wp_region_gw (by kernel_rfl) (by kernel_rfl) ?_
              repeat (go_big_quiet_step (rfl))
              refine wpQuiet_nil ?_
              intro _ hw'
              obtain ⟨x, hw''⟩ := hw'
              subst hw''
              go_wp2_with fail
              go_meet
              case rel => exact ⟨by simp [ha], x.bel⟩
          case rest =>
            obtain ⟨rfl, hb6⟩ := hcut
            have HN6 := hide hb6
            have HW6 := hide (below_on HW5.out hb6)
            clear hb6 X1 X2 X0 Y1 Y2
            by_cases hok : la = n ∧ lb = n
            · obtain ⟨ha, hb⟩ := hok
              have hde : (!(decide (la = n) && decide (lb = n))) = false := by simp [ha, hb]
              rw [hde]
              have hFl : (rowL fr i).length = n := by rw [← HLA.out]; exact ha
              have hTl : (rowL ts i).length = n := by rw [← HLB.out]; exact hb
              have HFN := hide (And.intro hFl hTl)
              have HRB : Hid (Below wr.heap.size wr wc) := below_on HB5.out HN6.out
              have HRW := hide (fun X (h : Below wc.heap.size wc X) => rrow_any n (.slice sa st.length da) (.slice sb tl.length db) (.slice sc wt.length dc) st tl wt v X (HGI.out X (below_on HW6.out h)) HGD.out HWB.out hiv)
              obtain ⟨e1, e2⟩ := HCE.out wc HW6.out
              have x0 := cell_of e1 (i := 0) rfl; have x1 := cell_of e1 (i := 1) rfl; have x2 := cell_of e1 (i := 2) rfl; have x3 := cell_of e1 (i := 3) rfl
              have m0 := cell_of e2 (i := 0) rfl
              have d0 := (below_cell HRB.out (block_of_cell HD0.out)).trans HD0.out
              unfold gAgg at HRW
              clear hde ha hb hFl hTl e1 e2
              go_wp2_with fail
              go_cut [9, 10] from 76 to 85 (fun t9 t10 wx => ∃ G1 L1 G2 L2 a b c, t9 = .slice (some ⟨G1, 0, none⟩) n n ∧ t10 = .slice (some ⟨G2, 0, none⟩) n n ∧ ArrU wx G1 L1 ∧ ArrU wx G2 L2 ∧ TrL n st tl wt a b c ∧ Found n st tl wt 1 (S0 [v]) L1 ∧ Found n a b c 1 (S0 [v]) L2 ∧ Below wc.heap.size wc wx)
              case first =>
                go_region_with (first
                  | (go_at_call 59; refine (HRW.out _ (below_drew (Below.refl _ _))).mono ?_; rintro e8 w8 ⟨G1, L1, G2, L2, a, b, c, rfl, k1, k2, k3, k4, k5, k6⟩; have HK := hide (And.intro k1 (And.intro k2 (And.intro k3 (And.intro k4 (And.intro k5 (below_on (below_drew (Below.refl wc.heap.size wc)) k6)))))); clear k1 k2 k3 k4 k5 k6)
                  | fail)
                all_goals
                  go_wp2_with fail
                  go_meet
                  case rel => exact ⟨G1, L1, G2, L2, a, b, c, rfl, rfl, HK.out⟩
              case rest =>
                obtain ⟨G1, L1, G2, L2, a, b, c, rfl, rfl, k1, k2, k3, k4, k5, hb7⟩ := hcut
                have HK := hide (And.intro k1 (And.intro k2 (And.intro k3 (And.intro k4 k5))))
                have HN7 := hide hb7
                have HW7 := hide (below_on HW6.out hb7)
                clear k1 k2 k3 k4 k5 hb7 x0 x1 x2 x3 m0 d0 HRW
                obtain ⟨b1, hb1⟩ := bool_of (Found n st tl wt 1 (S0 [v]) (rowL fr i))
                obtain ⟨b2, hb2⟩ := bool_of (Found n a b c 1 (S0 [v]) (rowL ts i))
                have HBB1 := hide hb1; have HBB2 := hide hb2
                have HRC : Hid (Below wr.heap.size wr wc) := below_on HRB.out HN7.out
                have HS1 := hide (fun X (h : Below wc.heap.size wc X) => sameB_any (.slice (some ⟨G1, 0, none⟩) n n) (.slice vo (rowL fr i).length vc) L1 (rowL fr i) b1 X ((HK.out.1.row HK.out.2.2.2.1.len (by omega)).below h) (HRWF.out.below (below_on HRC.out h)) (found_iff HWB.out HK.out.2.2.2.1 hb1))
                have HS2 := hide (fun X (h : Below wc.heap.size wc X) => sameB_any (.slice (some ⟨G2, 0, none⟩) n n) (.slice uo (rowL ts i).length uc) L2 (rowL ts i) b2 X ((HK.out.2.1.row HK.out.2.2.2.2.len (by omega)).below h) (HRWT.out.below (below_on HRC.out h)) (found_iff HK.out.2.2.1.wts HK.out.2.2.2.2 hb2))
                obtain ⟨e1, e2⟩ := HCE.out wc HW7.out
                have m1 := cell_of e2 (i := 1) rfl
                have d1 := (below_cell HRC.out (block_of_cell HD1.out)).trans HD1.out
                have HNO : Hid (∀ W, Below w4.heap.size w4 W → (b1 && b2) = false → CkQP w n st tl wt at' fr ts (.returned (.tuple #[.int .i64 53, .int .i64 i])) W) := fun W hbW hbb => HEND.out W 53 hbW (fun a' b' c' ht => by
                  obtain ⟨rfl, rfl, rfl⟩ := HK.out.2.2.1.one ht
                  refine .inr (.inr (.inl ⟨hiv, HFN.out.1, HFN.out.2, fun h => ?_, rfl⟩))
                  rw [HBB1.out.2 h.1, HBB2.out.2 h.2] at hbb
                  cases hbb) (by decide) hlt
                obtain ⟨lf, hlf⟩ : ∃ lf, lf = (rowL fr i).length := ⟨_, rfl⟩
                obtain ⟨lt, hlt2⟩ : ∃ lt, lt = (rowL ts i).length := ⟨_, rfl⟩
                have HLT := hide hlt2
                rw [← hlf] at HS1 d1
                rw [← hlt2] at HS2
                clear hb1 hb2 e1 e2 hlf hlt2
                go_wp2_with fail
                refine (HS1.out wc (Below.refl _ _)).mono ?_
                rintro e w8 ⟨rfl, hb8⟩
                have HN8 := hide hb8
                clear hb8 m1 d1
                cases b1 with
                | false =>
                  have HF := hide (HNO.out w8 (below_on HW7.out HN8.out) rfl)
                  go_wp2
                  go_ret2
                  exact HF.out
                | true =>
                  obtain ⟨e1, e2⟩ := HCE.out w8 (below_on HW7.out HN8.out)
                  have m2 := cell_of e2 (i := 2) rfl
                  have d2 := (below_cell (below_on HRC.out HN8.out) (block_of_cell HD2.out)).trans HD2.out
                  rw [← HLT.out] at d2
                  clear e1 e2
                  go_wp2_with fail
                  refine (HS2.out w8 HN8.out).mono ?_
                  rintro e w9 ⟨rfl, hb9⟩
                  have HN9 := hide (below_on HN8.out hb9)
                  clear hb9 m2 d2
                  cases b2 with
                  | false =>
                    have HF := hide (HNO.out w9 (below_on HW7.out HN9.out) rfl)
                    go_wp2
                    go_ret2
                    exact HF.out
                  | true =>
                    have HF : Hid (∀ a b c, TrL n st tl wt a b c → ∀ q, q < i + 1 → LmNo n st tl wt a b c (at_ at' q) (rowL fr q) (rowL ts q) 0) := fun a' b' c' ht q hq => by
                      rcases Nat.lt_or_ge q i with h | h
                      · exact HH.out.1 a' b' c' ht q h
                      · obtain rfl : q = i := by omega
                        obtain ⟨rfl, rfl, rfl⟩ := HK.out.2.2.1.one ht
                        rw [← HV.out]
                        exact .inr (.inr (.inr ⟨hiv, HFN.out.1, HFN.out.2, HBB1.out.1 (by trivial), HBB2.out.1 (by trivial), rfl⟩))
                    go_wp2
                    exact ⟨⟨i + 1, hlt, by simp, HF.out, below_on HW7.out HN9.out⟩, mdec3 hlt⟩
            · have hde : (!(decide (la = n) && decide (lb = n))) = true := by
                by_cases h1 : la = n
                · by_cases h2 : lb = n
                  · exact absurd ⟨h1, h2⟩ hok
                  · simp [h2]
                · simp [h1]
              rw [hde]
              have HF := hide (HEND.out wc 34 HW6.out (fun _ _ _ _ => .inr (.inl ⟨hiv, fun h => hok ⟨HLA.out.trans h.1, HLB.out.trans h.2⟩, rfl⟩)) (by decide) hlt)
              clear hde hok
              go_wp2
              go_ret2
              exact HF.out
        · have hde : (!(decide (0 ≤ v ∧ v < (n : Int)))) = true := by
            have : decide (0 ≤ v ∧ v < (n : Int)) = false := decide_eq_false hiv
            rw [this]; rfl
          rw [hde]
          have HF := hide (HEND.out wc 30 HW5.out (fun _ _ _ _ => .inl ⟨hiv, rfl⟩) (by decide) hlt)
          clear hde
          go_wp2
          go_ret2
          exact HF.out
    · obtain rfl : i = p := by omega
      have HF : Hid (CkQP w n st tl wt at' fr ts (.returned (.tuple #[.int .i64 0, .int .i64 0])) wr) := ⟨0, 0, rfl, .inr (.inr (.inr ⟨HR1.out, HFL.out, HTL.out, by rw [← HP.out]; exact h64, fun n' a b c hn' ht => by
        obtain rfl : n = n' := by omega
        exact .inr ⟨by rw [← HP.out]; exact HH.out.1 a b c ht, rfl, rfl⟩⟩)), below_on HB4.out HH.out.2⟩
      clear e1 e2
      go_wp2
      go_ret2
      exact HF.out
end Go.Proofs.Ytehlciejhegndaa

/- SeekChecks: the walk. -/
namespace Go.Proofs.Ytehlciejhegndaa
open Go.RowKit Go.Lib
set_option linter.unusedVariables false
set_option linter.unusedSimpArgs false
theorem ck_all (N : Int) (va vb vc : Value) (st tl wt : List Int) (v0 v1 v2 : Value) (at' : List Int) (fr ts : List (List Int)) (w : World) (hg : GIs w N va vb vc st tl wt) (hst : st.length ≤ 17592186044416) (hto : tl.length ≤ 17592186044416) (hwt : wt.length ≤ 17592186044416) (hwb : ∀ e, 0 ≤ at_ wt e ∧ at_ wt e ≤ 18446744073709551615) (hm : MkI w v0 v1 v2 at' fr ts)
    (hrF : ∀ i v, 0 ≤ at_ (rowL fr i) v ∧ at_ (rowL fr i) v ≤ Nev) (hrT : ∀ i v, 0 ≤ at_ (rowL ts i) v ∧ at_ (rowL ts i) v ≤ Nev) :
    Calls Try.prog 30 #[gAgg N va vb vc, mAgg v0 v1 v2] w (CkP w N st tl wt at' fr ts) := by
  by_cases hbad : (chk N st tl wt).1 ≠ 0 ∨ ¬ (fr.length = at'.length ∧ ts.length = at'.length) ∨ 64 < at'.length
  · exact ck_bad N va vb vc st tl wt v0 v1 v2 at' fr ts w hg hst hto hwt hm hbad
  · have h1 : (chk N st tl wt).1 = 0 := Classical.byContradiction fun h => hbad (.inl h)
    have h2 : fr.length = at'.length ∧ ts.length = at'.length := Classical.byContradiction fun h => hbad (.inr (.inl h))
    have h3 : at'.length ≤ 64 := Nat.le_of_not_lt fun h => hbad (.inr (.inr h))
    obtain ⟨n, rfl, hgd⟩ := chk_good h1
    exact ck_good n va vb vc st tl wt v0 v1 v2 at' fr ts w hg hgd h1 hwb hm h2.1 h2.2 h3 hrF hrT
theorem rckq_all (N : Int) (va vb vc : Value) (st tl wt : List Int) (v0 v1 v2 : Value) (at' : List Int) (fr ts : List (List Int)) (w : World) (hg : GIs w N va vb vc st tl wt) (hst : st.length ≤ 17592186044416) (hto : tl.length ≤ 17592186044416) (hwt : wt.length ≤ 17592186044416) (hwb : ∀ e, 0 ≤ at_ wt e ∧ at_ wt e ≤ 18446744073709551615) (hm : MkI w v0 v1 v2 at' fr ts) :
    Calls Try.prog 28 #[gAgg N va vb vc, mAgg v0 v1 v2] w (CkQP w N st tl wt at' fr ts) := by
  by_cases hbad : (chk N st tl wt).1 ≠ 0 ∨ ¬ (fr.length = at'.length ∧ ts.length = at'.length) ∨ 64 < at'.length
  · exact rckq_bad N va vb vc st tl wt v0 v1 v2 at' fr ts w hg hst hto hwt hm hbad
  · have h1 : (chk N st tl wt).1 = 0 := Classical.byContradiction fun h => hbad (.inl h)
    have h2 : fr.length = at'.length ∧ ts.length = at'.length := Classical.byContradiction fun h => hbad (.inr (.inl h))
    have h3 : at'.length ≤ 64 := Nat.le_of_not_lt fun h => hbad (.inr (.inr h))
    obtain ⟨n, rfl, hgd⟩ := chk_good h1
    exact rckq_good n va vb vc st tl wt v0 v1 v2 at' fr ts w hg hgd h1 hwb hm h2.1 h2.2 h3
set_option maxRecDepth 100000 in
set_option maxHeartbeats 8000000 in
theorem checks_law (N : Int) (va vb vc : Value) (st tl wt : List Int) (v0 v1 v2 : Value) (at' : List Int) (fr ts : List (List Int)) (w : World) (hg : GIs w N va vb vc st tl wt) (hst : st.length * 8 ≤ 140737488351232) (hto : tl.length * 8 ≤ 140737488351232) (hwt : wt.length * 8 ≤ 140737488351232) (hwb : ∀ e, 0 ≤ at_ wt e ∧ at_ wt e ≤ 18446744073709551615) (hm : MkI w v0 v1 v2 at' fr ts) (hmb : MkB at' fr ts)
    (hrF : ∀ i v, 0 ≤ at_ (rowL fr i) v ∧ at_ (rowL fr i) v ≤ Nev) (hrT : ∀ i v, 0 ≤ at_ (rowL ts i) v ∧ at_ (rowL ts i) v ≤ Nev) :
    Calls Try.prog 6 #[gAgg N va vb vc, mAgg v0 v1 v2] w fun e w' => e = .returned (.bool true) ∧ Below w.heap.size w w' := by
  obtain ⟨ao, ca, rfl⟩ := hm.a.shape
  obtain ⟨bo, cb, rfl⟩ := hm.f.shape
  obtain ⟨co, cc, rfl⟩ := hm.t.shape
  obtain ⟨sa, da, rfl⟩ := hg.s.shape
  obtain ⟨sb, db, rfl⟩ := hg.t.shape
  obtain ⟨sc, dc, rfl⟩ := hg.u.shape
  have HR := hide (fun W (hb : Below w.heap.size w W) => rckq_all N (.slice sa st.length da) (.slice sb tl.length db) (.slice sc wt.length dc) st tl wt (.slice ao at'.length ca) (.slice bo fr.length cb) (.slice co ts.length cc) at' fr ts W (hg.below hb) (by omega) (by omega) (by omega) hwb (hm.below hb))
  have HT := hide (fun W (hb : Below w.heap.size w W) => twin_any N (.slice sa st.length da) (.slice sb tl.length db) (.slice sc wt.length dc) st tl wt W (hg.below hb) hst hto hwt)
  have HM := hide (fun W (hb : Below w.heap.size w W) => marks_any (.slice ao at'.length ca) (.slice bo fr.length cb) (.slice co ts.length cc) at' fr ts W (hm.below hb) hmb)
  have HC := hide (fun W g1 c1 g2 c2 g3 c3 g0 c0 G1 C1 G2 C2 (ht : TIs W N g1 c1 g2 c2 g3 c3 st tl wt) (hk : MkM W g0 c0 G1 C1 G2 C2 at' fr ts) => ck_all N _ _ _ st tl wt _ _ _ at' fr ts W ht.gis (by omega) (by omega) (by omega) hwb hk.inc hrF hrT)
  have HK := hide (fun W g1 c1 g2 c2 g3 c3 (hb : Below w.heap.size w W) (ht : TIs W N g1 c1 g2 c2 g3 c3 st tl wt) => twinKept_any N (.slice sa st.length da) (.slice sb tl.length db) (.slice sc wt.length dc) st tl wt g1 c1 g2 c2 g3 c3 W ht (hg.below hb) hst hto hwt)
  have HKM := hide (fun W g0 c0 G1 C1 G2 C2 (hb : Below w.heap.size w W) (hk : MkM W g0 c0 G1 C1 G2 C2 at' fr ts) => marksKept_any g0 c0 G1 C1 G2 C2 (.slice ao at'.length ca) (.slice bo fr.length cb) (.slice co ts.length cc) at' fr ts W hk (hm.below hb) hmb)
  obtain ⟨W, hW⟩ : ∃ W, W = (w.alloc (.cells #[.int .i64 N, .slice sa st.length da, .slice sb tl.length db, .slice sc wt.length dc] 25)).alloc (.cells #[.slice ao at'.length ca, .slice bo fr.length cb, .slice co ts.length cc] 41) := ⟨_, rfl⟩
  obtain ⟨hA, hB, hbW⟩ := two_box w N _ _ _ _ _ _ W hW
  have HA := hide hA; have HB := hide hB; have HBW := hide hbW
  have c0 := cell_of hA (i := 0) rfl; have c1 := cell_of hA (i := 1) rfl; have c2 := cell_of hA (i := 2) rfl; have c3 := cell_of hA (i := 3) rfl
  have m0 := cell_of hB (i := 0) rfl; have m1 := cell_of hB (i := 1) rfl; have m2 := cell_of hB (i := 2) rfl
  unfold tAgg at HT HK
  unfold gAgg at HR HT HC HK ⊢
  unfold mAgg at HR HM HC HKM ⊢
  clear hA hB hbW hg hm hwb hrF hrT
  rw [hW] at c0 c1 c2 c3 m0 m1 m2
  go_enter Try.func6, Try.ntmps6
  go_wp2_with fail
  rw [← hW]
  clear hW c0 c1 c2 c3 m0 m1 m2
  refine (HR.out W HBW.out).mono ?_
  rintro e w2 ⟨f, j, rfl, hck, hb2⟩
  have HCQ := hide hck
  have q1 := (hb2.block _ (lt_of_heap HA.out)).trans HA.out
  have q2 := (hb2.block _ (lt_of_heap HB.out)).trans HB.out
  have HB2 := hide (below_on HBW.out hb2); have HQ1 := hide q1; have HQ2 := hide q2
  have c0 := cell_of q1 (i := 0) rfl; have c1 := cell_of q1 (i := 1) rfl; have c2 := cell_of q1 (i := 2) rfl; have c3 := cell_of q1 (i := 3) rfl
  clear hck hb2 q1 q2 HA HB HBW HR
  go_wp2_with fail
  clear c0 c1 c2 c3
  refine (HT.out w2 HB2.out).mono ?_
  rintro e w3 ⟨g1, e1, g2, e2, g3, e3, rfl, hti, hb3⟩
  obtain ⟨w4, hw4⟩ : ∃ w4, w4 = w3.alloc (.cells #[.int .i64 N, .slice (some ⟨g1, 0, none⟩) st.length e1, .slice (some ⟨g2, 0, none⟩) tl.length e2, .slice (some ⟨g3, 0, none⟩) wt.length e3] 25) := ⟨_, rfl⟩
  have hb4 : Below w3.heap.size w3 w4 := by rw [hw4]; exact below_alloc (Below.refl _ _) _
  have hb24 := below_on hb3 hb4
  have HTI := hide (hti.below hb4)
  have q1 := (hb24.block _ (lt_of_heap HQ1.out)).trans HQ1.out
  have q2 := (hb24.block _ (lt_of_heap HQ2.out)).trans HQ2.out
  have q3 : w4.heap[w3.heap.size]? = some (.cells #[.int .i64 N, .slice (some ⟨g1, 0, none⟩) st.length e1, .slice (some ⟨g2, 0, none⟩) tl.length e2, .slice (some ⟨g3, 0, none⟩) wt.length e3] 25 (0, 0)) := by rw [hw4]; exact heap_new _ _
  have HB4 := hide (below_on HB2.out hb24); have HP1 := hide q1; have HP2 := hide q2; have HP3 := hide q3
  have m0 := cell_of q2 (i := 0) rfl; have m1 := cell_of q2 (i := 1) rfl; have m2 := cell_of q2 (i := 2) rfl
  clear hti hb3 hb4 hb24 q1 q2 q3 HQ1 HQ2 HB2 HT
  rw [hw4] at m0 m1 m2
  go_wp2_with fail
  rw [← hw4]
  clear hw4 m0 m1 m2
  refine (HM.out w4 HB4.out).mono ?_
  rintro e w5 ⟨g0, d0, G1, C1, G2, C2, rfl, hmk, hb5⟩
  obtain ⟨w6, hw6⟩ : ∃ w6, w6 = w5.alloc (.cells #[.slice (some ⟨g0, 0, none⟩) at'.length d0, .slice (some ⟨G1, 0, none⟩) fr.length C1, .slice (some ⟨G2, 0, none⟩) ts.length C2] 41) := ⟨_, rfl⟩
  have hb6 : Below w5.heap.size w5 w6 := by rw [hw6]; exact below_alloc (Below.refl _ _) _
  have hb46 := below_on hb5 hb6
  have HMK := hide (hmk.below hb6)
  have HTK := hide (HTI.out.below hb46)
  have q1 := (hb46.block _ (lt_of_heap HP1.out)).trans HP1.out
  have q2 := (hb46.block _ (lt_of_heap HP2.out)).trans HP2.out
  have q3 := (hb46.block _ (lt_of_heap HP3.out)).trans HP3.out
  have q4 : w6.heap[w5.heap.size]? = some (.cells #[.slice (some ⟨g0, 0, none⟩) at'.length d0, .slice (some ⟨G1, 0, none⟩) fr.length C1, .slice (some ⟨G2, 0, none⟩) ts.length C2] 41 (0, 0)) := by rw [hw6]; exact heap_new _ _
  have HB6 := hide (below_on HB4.out hb46); have HS1 := hide q1; have HS2 := hide q2; have HS3 := hide q3; have HS4 := hide q4
  have t0 := cell_of q3 (i := 0) rfl; have t1 := cell_of q3 (i := 1) rfl; have t2 := cell_of q3 (i := 2) rfl; have t3 := cell_of q3 (i := 3) rfl
  have k0 := cell_of q4 (i := 0) rfl; have k1 := cell_of q4 (i := 1) rfl; have k2 := cell_of q4 (i := 2) rfl
  clear hmk hb5 hb6 hb46 q1 q2 q3 q4 HP1 HP2 HP3 HTI HB4 HM
  rw [hw6] at t0 t1 t2 t3 k0 k1 k2
  go_wp2_with fail
  rw [← hw6]
  clear hw6 t0 t1 t2 t3 k0 k1 k2
  refine (HC.out w6 _ _ _ _ _ _ _ _ _ _ _ _ HTK.out HMK.out).mono ?_
  rintro e w7 ⟨e', i', rfl, hcr, hb7⟩
  obtain ⟨rfl, rfl⟩ := hcr.two HCQ.out
  have q1 := (hb7.block _ (lt_of_heap HS1.out)).trans HS1.out
  have q2 := (hb7.block _ (lt_of_heap HS2.out)).trans HS2.out
  have q3 := (hb7.block _ (lt_of_heap HS3.out)).trans HS3.out
  have q4 := (hb7.block _ (lt_of_heap HS4.out)).trans HS4.out
  have HB7 := hide (below_on HB6.out hb7); have HU2 := hide q2; have HU4 := hide q4
  have HT7 := hide (HTK.out.below hb7); have HM7 := hide (HMK.out.below hb7)
  have t0 := cell_of q3 (i := 0) rfl; have t1 := cell_of q3 (i := 1) rfl; have t2 := cell_of q3 (i := 2) rfl; have t3 := cell_of q3 (i := 3) rfl
  have c0 := cell_of q1 (i := 0) rfl; have c1 := cell_of q1 (i := 1) rfl; have c2 := cell_of q1 (i := 2) rfl; have c3 := cell_of q1 (i := 3) rfl
  clear hb7 q1 q2 q3 q4 hcr HCQ HS1 HS2 HS3 HS4 HTK HMK HB6 HC
  go_wp2_with fail
  clear t0 t1 t2 t3 c0 c1 c2 c3
  refine (HK.out w7 _ _ _ _ _ _ HB7.out HT7.out).mono ?_
  rintro e w8 ⟨rfl, hb8⟩
  have q2 := (hb8.block _ (lt_of_heap HU2.out)).trans HU2.out
  have q4 := (hb8.block _ (lt_of_heap HU4.out)).trans HU4.out
  have HB8 := hide (below_on HB7.out hb8); have HM8 := hide (HM7.out.below hb8)
  have m0 := cell_of q2 (i := 0) rfl; have m1 := cell_of q2 (i := 1) rfl; have m2 := cell_of q2 (i := 2) rfl
  have k0 := cell_of q4 (i := 0) rfl; have k1 := cell_of q4 (i := 1) rfl; have k2 := cell_of q4 (i := 2) rfl
  clear hb8 q2 q4 HU2 HU4 HT7 HM7 HB7 HK
  go_wp2_with fail
  clear m0 m1 m2 k0 k1 k2
  refine (HKM.out w8 _ _ _ _ _ _ HB8.out HM8.out).mono ?_
  rintro e w9 ⟨rfl, hb9⟩
  have HB9 := hide (below_on HB8.out hb9)
  clear hb9
  go_wp2
  go_ret
  exact ⟨rfl, HB9.out⟩
end Go.Proofs.Ytehlciejhegndaa

/- Marks that come in, as they are read. -/
namespace Go.Proofs.Ytehlciejhegndaa
open Go.ChangeShapes Go.WideShapes Go.ChangeAt Go.RowKit Go.Deep
set_option linter.unusedVariables false
theorem Try.c39 : Try.prog.cellsOf 39 = 1 := by kernel_rfl
theorem Try.c41 : Try.prog.cellsOf 41 = 3 := by kernel_rfl
theorem Try.b23 : Try.prog.bytesOf 23 = 24 := by kernel_rfl
theorem weightsAll_mem {H : Type} {P : Program} {e : TypeId} {l : List (DataW H)} {d : DataW H} (hd : d ∈ l) {n : Nat} (hn : n ∈ d.weights P e) : n ∈ DataW.weightsAll P e l := by
  induction l with
  | nil => simp at hd
  | cons x l ih =>
    unfold DataW.weightsAll
    rcases List.mem_cons.1 hd with rfl | h
    · exact List.mem_append.2 (.inl hn)
    · exact List.mem_append.2 (.inr (ih h))
section
variable {H : Type} {enc : TypeId × Value → H} {w : World} {base : Nat} {held : Bool} {fuel : Nat} {cs : List Value} {y : DataW H × List MemPlace}
set_option maxRecDepth 100000 in
theorem open_rows (h : DataW.trod enc Try.prog w 0 (fun _ => true) held fuel 39 cs = some y) : ∃ v ls, cs = [v] ∧ RwsI w v ls ∧ (∀ i, ∀ x ∈ rowL ls i, (Lit.int .u64 x).wf = true) ∧ ∀ M, (∀ n ∈ (y.1).weights Try.prog 39, n ≤ M) → ls.length * 24 ≤ M ∧ ∀ i, i < ls.length → (rowL ls i).length * 8 ≤ M := by
  rcases open_slice1 Try.underlying39 Try.c23 h with ⟨hcs, _⟩ | ⟨a, len, cap, m, n, V, D, Pl, hcs, _, hl, hm, hmm, hx, hel⟩
  · exact ⟨_, [], hcs, ⟨none, 0, rfl, Nat.le_refl _, Nat.zero_le _, fun k hk => absurd hk (Nat.not_lt_zero _)⟩, fun i x hx => by simp [rowL] at hx, fun M _ => ⟨by simp, fun i hi => absurd hi (Nat.not_lt_zero _)⟩⟩
  · simp only [if_true] at hmm
    subst hmm
    have each : ∀ k, k < len → ∃ xs : List Int, RowAt .u64 w (V k) xs ∧ (∀ x ∈ xs, (Lit.int .u64 x).wf = true) ∧ ∀ M, (∀ n ∈ (D k).weights Try.prog 23, n ≤ M) → xs.length * 8 ≤ M := by
      intro k hk
      obtain ⟨v, xs, he, hr, hw, hM⟩ := open_row Try.underlying23 Try.underlying26 Try.c26 (hel k (by omega)).2
      simp only [List.cons.injEq, and_true] at he
      subst he
      rw [Try.b38] at hM
      exact ⟨xs, hr, hw, hM⟩
    obtain ⟨f, hf⟩ := choose_lt (α := List Int) (p := fun k xs => RowAt .u64 w (V k) xs ∧ (∀ x ∈ xs, (Lit.int .u64 x).wf = true) ∧ ∀ M, (∀ n ∈ (D k).weights Try.prog 23, n ≤ M) → xs.length * 8 ≤ M) each
    have hL : ((List.range len).map f).length = len := by simp
    have hA : ∀ k, k < len → rowL ((List.range len).map f) k = f k := fun k hk => by simp [rowL, hk]
    refine ⟨_, (List.range len).map f, hcs, ⟨some a, _, by rw [hL], by rw [hL]; exact hl, by simp only [maxLen] at hm; omega, fun k hk => ?_⟩, fun k x hx => ?_, fun M hM => ⟨?_, fun k hk => ?_⟩⟩
    · rw [hL] at hk
      rw [hA k hk]
      obtain ⟨ab, aq, sp⟩ := a
      have hc := (hel k (by omega)).1
      have hsp := World.cell?_spot (hel 0 (by omega)).1
      simp [Addr.add] at hsp
      subst hsp
      rw [Addr.add_lit] at hc
      exact ⟨ab, aq, V k, rfl, block_of_cell hc, hc, (hf k hk).1⟩
    · by_cases hk : k < len
      · rw [hA k hk] at hx
        exact (hf k hk).2.1 x hx
      · unfold rowL at hx
        rw [List.getElem?_eq_none (by rw [hL]; omega)] at hx
        simp at hx
    · have h1 := hM (len * Try.prog.bytesOf 23 + (m - len) * Try.prog.bytesOf 23) (by
        rw [hx]
        simp only [DataW.weights, Try.underlying39, List.length_map, List.length_range, List.mem_cons]
        left
        rw [Nat.add_mul])
      rw [Try.b23] at h1
      rw [hL]
      omega
    · rw [hL] at hk
      rw [hA k hk]
      refine (hf k hk).2.2 M (fun n hn => hM n ?_)
      rw [hx]
      simp only [DataW.weights, Try.underlying39, List.mem_cons, List.mem_append]
      exact .inr (.inl (weightsAll_mem (d := D k) (List.mem_map.2 ⟨k, List.mem_range.2 hk, rfl⟩) hn))
theorem list3 {l : List Value} {a b c : Value} (h : l.length = 3) (h0 : l[0]? = some a) (h1 : l[1]? = some b) (h2 : l[2]? = some c) : l = [a, b, c] := by
  match l, h with
  | [x, y, z], _ => simp at h0 h1 h2; subst h0 h1 h2; rfl
theorem one_rows {z : Option (DataW H × List MemPlace)} {o : Nat} (hy : z.isSome = true) (h : DataW.trod enc Try.prog w 0 (fun _ => true) held fuel 39 ((cs.drop o).take (Try.prog.cellsOf 39)) = z) :
    ∃ v ls q, cs[o]? = some v ∧ z = some q ∧ RwsI w v ls ∧ (∀ i, ∀ x ∈ rowL ls i, (Lit.int .u64 x).wf = true) ∧ ∀ M, (∀ n ∈ (q.1).weights Try.prog 39, n ≤ M) → ls.length * 24 ≤ M ∧ ∀ i, i < ls.length → (rowL ls i).length * 8 ≤ M := by
  obtain ⟨q, rfl⟩ := Option.isSome_iff_exists.1 hy
  rw [Try.c39] at h
  obtain ⟨v, ls, e1, hr, hw, hM⟩ := open_rows h
  refine ⟨v, ls, q, ?_, rfl, hr, hw, hM⟩
  have e2 : ((cs.drop o).take 1)[0]? = some v := by rw [e1]; rfl
  rw [List.getElem?_take_of_lt (by omega), List.getElem?_drop] at e2
  simpa using e2
end
theorem at_rng {l : List Int} (h : ∀ x ∈ l, (Lit.int .u64 x).wf = true) (v : Nat) : 0 ≤ at_ l v ∧ at_ l v ≤ Nev := by
  unfold at_ Nev
  cases q : l[v]? with
  | none => simp
  | some x =>
    have := Go.bounds_u64 (h x (List.mem_of_getElem? q))
    simp only [Option.getD_some]
    omega
set_option maxRecDepth 100000 in
theorem open_marks {H : Type} {enc : TypeId × Value → H} {base : Nat} {held : Bool} {W : World} {v : Value} {d : DataW H} {p : List MemPlace} (hv : Value.okWide Try.prog W .any base 41 v) (h : DataW.Trod enc Try.prog W 0 (fun _ => true) held 41 v d p)
    (hsz : ∀ n ∈ d.weights Try.prog 41, n ≤ reachBytes) :
    ∃ v0 v1 v2 at' fr ts, v = mAgg v0 v1 v2 ∧ MkI W v0 v1 v2 at' fr ts ∧ MkB at' fr ts ∧ (∀ i v, 0 ≤ at_ (rowL fr i) v ∧ at_ (rowL fr i) v ≤ Nev) ∧ (∀ i v, 0 ≤ at_ (rowL ts i) v ∧ at_ (rowL ts i) v ≤ Nev) := by
  obtain ⟨cs, rfl, hcs⟩ := okWide_struct Try.underlying41 hv
  obtain ⟨fuel, hf⟩ := h
  obtain ⟨xs, n, _, hx, hlen, hxs, hel⟩ := DataW.trod_struct Try.underlying41 hf
  rw [Try.c41] at hlen
  have hxx : ∀ i, i < 3 → (xs[i]?).isSome = true := fun i hi => by rw [List.getElem?_eq_getElem (show i < xs.length by rw [hxs]; exact hi)]; rfl
  obtain ⟨va, st, q1, h1, e1, r1, _, m1⟩ := one_row Try.underlying22 Try.underlying3 Try.c3 Try.c22 (hxx 0 (by omega)) (hel 0 _ rfl)
  obtain ⟨vb, fr, q2, h2, e2, r2, z2, m2⟩ := one_rows (hxx 1 (by omega)) (hel 1 _ rfl)
  obtain ⟨vc, ts, q3, h3, e3, r3, z3, m3⟩ := one_rows (hxx 2 (by omega)) (hel 2 _ rfl)
  have hl := list3 hlen h1 h2 h3
  simp only [Prod.mk.injEq] at hx
  have hw : ∀ (i : Nat) (t : TypeId) (q : DataW H × List MemPlace), ([22, 39, 39] : List TypeId)[i]? = some t → xs[i]? = some q → ∀ k ∈ (q.1).weights Try.prog t, k ≤ reachBytes := by
    intro i t q ht hq k hk
    refine hsz k ?_
    rw [hx.1]
    simp only [DataW.weights, Try.underlying41]
    refine DataW.weights_mem_each (j := i) (t := t) (d := q.1) ?_ ?_ k hk
    · exact ht
    · rw [List.getElem?_map, hq]; rfl
  have b1 := m1 reachBytes (hw 0 22 q1 rfl e1)
  have b2 := m2 reachBytes (hw 1 39 q2 rfl e2)
  have b3 := m3 reachBytes (hw 2 39 q3 rfl e3)
  rw [Try.b3] at b1
  simp only [reachBytes] at b1 b2 b3
  refine ⟨va, vb, vc, st, fr, ts, ?_, ⟨r1, r2, r3⟩, ⟨by omega, by have := b2.1; omega, by have := b3.1; omega, fun i hi => by have := b2.2 i hi; omega, fun i hi => by have := b3.2 i hi; omega⟩, fun i v => at_rng (z2 i) v, fun i v => at_rng (z3 i) v⟩
  unfold mAgg
  congr 1
  have : cs.toList = [va, vb, vc] := by simpa [Value.cells] using hl
  rw [← Array.toList_inj, this]
end Go.Proofs.Ytehlciejhegndaa
