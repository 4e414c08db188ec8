import Derived.Test.YtehlciejhegndaaLkC
import Derived.Test.YtehlciejhegndaaCkG
import Derived.Deep.Cut
import Derived.Deep.CutRange
/- lookOver, First, marked: what is wrong with a graph, two vertices, marks. -/
namespace Go.Proofs.Ytehlciejhegndaa
open Go.RowKit Go.Lib
set_option linter.unusedVariables false
set_option linter.unusedSimpArgs false
def LoR (N : Int) (st tl wt at' : List Int) (fr ts : List (List Int)) (f t e : Int) : Prop :=
  ((chk N st tl wt).1 ≠ 0 ∧ e = (chk N st tl wt).1) ∨ ((chk N st tl wt).1 = 0 ∧ ¬ (IsV N f ∧ IsV N t) ∧ e = 30) ∨ ((chk N st tl wt).1 = 0 ∧ IsV N f ∧ IsV N t ∧ ∃ i, CkR N st tl wt at' fr ts e i)
def LoQ (N : Int) (st tl wt at' : List Int) (fr ts : List (List Int)) (f t e : Int) : Prop :=
  ((chk N st tl wt).1 ≠ 0 ∧ e = (chk N st tl wt).1) ∨ ((chk N st tl wt).1 = 0 ∧ ¬ (IsV N f ∧ IsV N t) ∧ e = 30) ∨ ((chk N st tl wt).1 = 0 ∧ IsV N f ∧ IsV N t ∧ ∃ i, CkQ N st tl wt at' fr ts e i)
theorem LoR.two {N : Int} {st tl wt at' : List Int} {fr ts : List (List Int)} {f t e e' : Int} (h : LoR N st tl wt at' fr ts f t e) (k : LoQ N st tl wt at' fr ts f t e') : e = e' := by
  rcases h with ⟨h1, rfl⟩ | ⟨h1, h2, rfl⟩ | ⟨h1, h2, h3, i, h4⟩ <;> rcases k with ⟨k1, rfl⟩ | ⟨k1, k2, rfl⟩ | ⟨k1, k2, k3, j, k4⟩
  · rfl
  · exact absurd k1 h1
  · exact absurd k1 h1
  · exact absurd h1 k1
  · rfl
  · exact absurd ⟨k2, k3⟩ h2
  · exact absurd h1 k1
  · exact absurd ⟨h2, h3⟩ k2
  · exact (h4.two k4).1
def fsN (N : Int) (st tl wt : List Int) (f t : Int) : Int := if (chk N st tl wt).1 ≠ 0 then (chk N st tl wt).1 else if IsV N f ∧ IsV N t then 0 else 30
set_option maxRecDepth 100000 in
set_option maxHeartbeats 4000000 in
theorem first_any (N : Int) (va vb vc : Value) (st tl wt : List Int) (f t : Int) (w : World) (hg : GIs w N va vb vc st tl wt) (hst : st.length ≤ 17592186044416) (hto : tl.length ≤ 17592186044416) (hwt : wt.length ≤ 17592186044416) :
    Calls Try.prog 35 #[gAgg N va vb vc, .int .i64 1, .int .i64 f, .int .i64 t] w fun e w' => e = .returned (.int .i64 (fsN N st tl wt f t)) ∧ Below w.heap.size w w' := by
  obtain ⟨sa, da, rfl⟩ := hg.s.shape
  obtain ⟨sb, db, rfl⟩ := hg.t.shape
  obtain ⟨sc, dc, rfl⟩ := hg.u.shape
  obtain ⟨W, hW⟩ : ∃ W, W = w.alloc (.cells #[.int .i64 N, .slice sa st.length da, .slice sb tl.length db, .slice sc wt.length dc] 25) := ⟨_, rfl⟩
  have hbW : Below w.heap.size w W := by rw [hW]; exact below_alloc (Below.refl _ _) _
  have hA : W.heap[w.heap.size]? = some (.cells #[.int .i64 N, .slice sa st.length da, .slice sb tl.length db, .slice sc wt.length dc] 25 (0, 0)) := by rw [hW]; exact heap_new _ _
  have HC := hide (refCheck_all N (.slice sa st.length da) (.slice sb tl.length db) (.slice sc wt.length dc) st tl wt W (hg.below hbW) hst hto hwt)
  obtain ⟨r1, r2, hrr⟩ : ∃ r1 r2, chk N st tl wt = (r1, r2) := ⟨_, _, rfl⟩
  have HFS : Hid (fsN N st tl wt f t = if r1 ≠ 0 then r1 else if IsV N f ∧ IsV N t then 0 else 30) := by show fsN N st tl wt f t = _; unfold fsN; rw [hrr]
  rw [hrr] at HC
  have c0 := cell_of hA (i := 0) rfl; have c1 := cell_of hA (i := 1) rfl; have c2 := cell_of hA (i := 2) rfl; have c3 := cell_of hA (i := 3) rfl
  have HBW := hide hbW; have HA := hide hA
  have HV := hide (fun v X => rVtx_any N (.slice sa st.length da) (.slice sb tl.length db) (.slice sc wt.length dc) v X)
  unfold ChkPost at HC
  unfold gAgg at HC HV ⊢
  clear hA hbW hg hrr
  rw [hW] at c0 c1 c2 c3
  go_enter Try.func35, Try.ntmps35
  go_wp2_with fail
  rw [← hW]
  clear hW c0 c1 c2 c3
  refine HC.out.mono ?_
  rintro e w2 ⟨rfl, hb2⟩
  have q1 := (hb2.block _ (lt_of_heap HA.out)).trans HA.out
  have HQ := hide q1; have HB2 := hide (below_on HBW.out hb2)
  have c0 := cell_of q1 (i := 0) rfl; have c1 := cell_of q1 (i := 1) rfl; have c2 := cell_of q1 (i := 2) rfl; have c3 := cell_of q1 (i := 3) rfl
  clear hb2 q1 HC HA HBW
  by_cases h1 : r1 = 0
  · subst h1
    go_wp2_with fail
    clear c0 c1 c2 c3
    by_cases hf : IsV N f
    · have hde : decide (0 ≤ f ∧ f < N) = true := decide_eq_true hf
      refine (HV.out f w2).mono ?_
      rintro e w3 ⟨rfl, hb3⟩
      rw [hde]
      have q1 := (hb3.block _ (lt_of_heap HQ.out)).trans HQ.out
      have HB3 := hide (below_on HB2.out hb3)
      have c0 := cell_of q1 (i := 0) rfl; have c1 := cell_of q1 (i := 1) rfl; have c2 := cell_of q1 (i := 2) rfl; have c3 := cell_of q1 (i := 3) rfl
      clear hb3 q1 hde
      go_wp2_with fail
      clear c0 c1 c2 c3
      by_cases ht : IsV N t
      · have hde : decide (0 ≤ t ∧ t < N) = true := decide_eq_true ht
        refine (HV.out t w3).mono ?_
        rintro e w4 ⟨rfl, hb4⟩
        rw [hde]
        have HB4 := hide (below_on HB3.out hb4)
        have HE : Hid (fsN N st tl wt f t = 0) := by show fsN N st tl wt f t = 0; rw [HFS.out, if_neg (by simp), if_pos ⟨hf, ht⟩]
        clear hb4 hde
        go_wp2
        go_ret
        exact ⟨by rw [HE.out]; rfl, HB4.out⟩
      · have hde : decide (0 ≤ t ∧ t < N) = false := decide_eq_false ht
        refine (HV.out t w3).mono ?_
        rintro e w4 ⟨rfl, hb4⟩
        rw [hde]
        have HB4 := hide (below_on HB3.out hb4)
        have HE : Hid (fsN N st tl wt f t = 30) := by show fsN N st tl wt f t = 30; rw [HFS.out, if_neg (by simp), if_neg (fun h => ht h.2)]
        clear hb4 hde
        go_wp2
        go_ret
        exact ⟨by rw [HE.out]; rfl, HB4.out⟩
    · have hde : decide (0 ≤ f ∧ f < N) = false := decide_eq_false hf
      refine (HV.out f w2).mono ?_
      rintro e w3 ⟨rfl, hb3⟩
      rw [hde]
      have HB3 := hide (below_on HB2.out hb3)
      have HE : Hid (fsN N st tl wt f t = 30) := by show fsN N st tl wt f t = 30; rw [HFS.out, if_neg (by simp), if_neg (fun h => hf h.1)]
      clear hb3 hde
      go_wp2
      go_ret
      exact ⟨by rw [HE.out]; rfl, HB3.out⟩
  · have HE : Hid (fsN N st tl wt f t = r1) := by show fsN N st tl wt f t = r1; rw [HFS.out, if_pos h1]
    go_wp2
    go_ret
    exact ⟨by rw [HE.out]; rfl, HB2.out⟩
set_option maxRecDepth 100000 in
set_option maxHeartbeats 4000000 in
theorem marked_any (N : Int) (va vb vc : Value) (st tl wt : List Int) (v0 v1 v2 : Value) (at' : List Int) (fr ts : List (List Int)) (f t : Int) (w : World) (hg : GIs w N va vb vc st tl wt) (hst : st.length ≤ 17592186044416) (hto : tl.length ≤ 17592186044416) (hwt : wt.length ≤ 17592186044416) (hwb : ∀ e, 0 ≤ at_ wt e ∧ at_ wt e ≤ 18446744073709551615) (hm : MkI w v0 v1 v2 at' fr ts) :
    Calls Try.prog 67 #[gAgg N va vb vc, mAgg v0 v1 v2, .int .i64 f, .int .i64 t] w fun e w' => ∃ e', e = .returned (.int .i64 e') ∧ LoQ N st tl wt at' fr ts f t e' ∧ Below w.heap.size w w' := by
  obtain ⟨ao, ca, rfl⟩ := hm.a.shape
  obtain ⟨bo, cb, rfl⟩ := hm.f.shape
  obtain ⟨co, cc, rfl⟩ := hm.t.shape
  obtain ⟨sa, da, rfl⟩ := hg.s.shape
  obtain ⟨sb, db, rfl⟩ := hg.t.shape
  obtain ⟨sc, dc, rfl⟩ := hg.u.shape
  obtain ⟨W, hW⟩ : ∃ W, W = (w.alloc (.cells #[.int .i64 N, .slice sa st.length da, .slice sb tl.length db, .slice sc wt.length dc] 25)).alloc (.cells #[.slice ao at'.length ca, .slice bo fr.length cb, .slice co ts.length cc] 41) := ⟨_, rfl⟩
  obtain ⟨hA, hB, hbW⟩ := two_box w N _ _ _ _ _ _ W hW
  have HF := hide (first_any N (.slice sa st.length da) (.slice sb tl.length db) (.slice sc wt.length dc) st tl wt f t W (hg.below hbW) hst hto hwt)
  have HC := hide (fun X (hb : Below w.heap.size w X) => rckq_all N (.slice sa st.length da) (.slice sb tl.length db) (.slice sc wt.length dc) st tl wt (.slice ao at'.length ca) (.slice bo fr.length cb) (.slice co ts.length cc) at' fr ts X (hg.below hb) hst hto hwt hwb (hm.below hb))
  obtain ⟨r, hr⟩ : ∃ r, r = fsN N st tl wt f t := ⟨_, rfl⟩
  have HRR := hide hr
  have c0 := cell_of hA (i := 0) rfl; have c1 := cell_of hA (i := 1) rfl; have c2 := cell_of hA (i := 2) rfl; have c3 := cell_of hA (i := 3) rfl
  have HBW := hide hbW; have HA := hide hA; have HB := hide hB
  unfold gAgg at HF HC ⊢
  unfold mAgg at HC ⊢
  rw [← hr] at HF
  clear hA hB hbW hg hm hr hwb
  rw [hW] at c0 c1 c2 c3
  go_enter Try.func67, Try.ntmps67
  go_wp2_with fail
  rw [← hW]
  clear hW c0 c1 c2 c3
  refine HF.out.mono ?_
  rintro e w2 ⟨rfl, hb2⟩
  have q1 := (hb2.block _ (lt_of_heap HA.out)).trans HA.out
  have q2 := (hb2.block _ (lt_of_heap HB.out)).trans HB.out
  have HB2 := hide (below_on HBW.out hb2)
  have c0 := cell_of q1 (i := 0) rfl; have c1 := cell_of q1 (i := 1) rfl; have c2 := cell_of q1 (i := 2) rfl; have c3 := cell_of q1 (i := 3) rfl
  have m0 := cell_of q2 (i := 0) rfl; have m1 := cell_of q2 (i := 1) rfl; have m2 := cell_of q2 (i := 2) rfl
  clear hb2 q1 q2 HF HA HB HBW
  by_cases hr0 : r = 0
  · subst hr0
    have HZ : Hid ((chk N st tl wt).1 = 0 ∧ IsV N f ∧ IsV N t) := by
      have h := HRR.out
      unfold fsN at h
      split at h
      · exact absurd h.symm ‹_›
      · split at h
        · rename_i h1 h2; exact ⟨Classical.byContradiction fun q => h1 q, h2.1, h2.2⟩
        · exact absurd h (by decide)
    go_wp2_with fail
    clear c0 c1 c2 c3 m0 m1 m2
    refine (HC.out w2 HB2.out).mono ?_
    rintro e w3 ⟨e', i, rfl, hq, hb3⟩
    have HFN : Hid (LoQ N st tl wt at' fr ts f t e' ∧ Below w.heap.size w w3) := ⟨.inr (.inr ⟨HZ.out.1, HZ.out.2.1, HZ.out.2.2, i, hq⟩), below_on HB2.out hb3⟩
    clear hq hb3
    go_wp2
    go_ret
    exact ⟨e', rfl, HFN.out⟩
  · have HFN : Hid (LoQ N st tl wt at' fr ts f t r) := by
      have h := HRR.out
      unfold fsN at h
      split at h
      · rename_i h1; exact .inl ⟨h1, h⟩
      · split at h
        · exact absurd h hr0
        · rename_i h1 h2; exact .inr (.inl ⟨Classical.byContradiction fun q => h1 q, h2, h⟩)
    clear c0 c1 c2 c3 m0 m1 m2
    go_wp2
    go_ret
    exact ⟨r, rfl, HFN.out, HB2.out⟩
set_option maxRecDepth 100000 in
set_option maxHeartbeats 4000000 in
theorem lookO_any (N : Int) (va vb vc : Value) (st tl wt : List Int) (v0 v1 v2 : Value) (at' : List Int) (fr ts : List (List Int)) (f t : Int) (w : World) (hg : GIs w N va vb vc st tl wt) (hst : st.length ≤ 17592186044416) (hto : tl.length ≤ 17592186044416) (hwt : wt.length ≤ 17592186044416) (hwb : ∀ e, 0 ≤ at_ wt e ∧ at_ wt e ≤ 18446744073709551615) (hm : MkI w v0 v1 v2 at' fr ts)
    (hrF : ∀ i v, 0 ≤ at_ (rowL fr i) v ∧ at_ (rowL fr i) v ≤ Nev) (hrT : ∀ i v, 0 ≤ at_ (rowL ts i) v ∧ at_ (rowL ts i) v ≤ Nev) :
    Calls Try.prog 52 #[gAgg N va vb vc, mAgg v0 v1 v2, .int .i64 f, .int .i64 t] w fun e w' => ∃ e', e = .returned (.int .i64 e') ∧ LoR N st tl wt at' fr ts f t e' ∧ Below w.heap.size w w' := by
  obtain ⟨ao, ca, rfl⟩ := hm.a.shape
  obtain ⟨bo, cb, rfl⟩ := hm.f.shape
  obtain ⟨co, cc, rfl⟩ := hm.t.shape
  obtain ⟨sa, da, rfl⟩ := hg.s.shape
  obtain ⟨sb, db, rfl⟩ := hg.t.shape
  obtain ⟨sc, dc, rfl⟩ := hg.u.shape
  obtain ⟨W, hW⟩ : ∃ W, W = (w.alloc (.cells #[.int .i64 N, .slice sa st.length da, .slice sb tl.length db, .slice sc wt.length dc] 25)).alloc (.cells #[.slice ao at'.length ca, .slice bo fr.length cb, .slice co ts.length cc] 41) := ⟨_, rfl⟩
  obtain ⟨hA, hB, hbW⟩ := two_box w N _ _ _ _ _ _ W hW
  have HF := hide (check_all N (.slice sa st.length da) (.slice sb tl.length db) (.slice sc wt.length dc) st tl wt W (hg.below hbW) hst hto hwt)
  have HC := hide (fun X (hb : Below w.heap.size w X) => ck_all N (.slice sa st.length da) (.slice sb tl.length db) (.slice sc wt.length dc) st tl wt (.slice ao at'.length ca) (.slice bo fr.length cb) (.slice co ts.length cc) at' fr ts X (hg.below hb) hst hto hwt hwb (hm.below hb) hrF hrT)
  have HV := hide (fun v X => isVtx_any N (.slice sa st.length da) (.slice sb tl.length db) (.slice sc wt.length dc) v X)
  obtain ⟨r1, r2, hrr⟩ : ∃ r1 r2, chk N st tl wt = (r1, r2) := ⟨_, _, rfl⟩
  have HR1 := hide (show (chk N st tl wt).1 = r1 by rw [hrr])
  rw [hrr] at HF
  have c0 := cell_of hA (i := 0) rfl; have c1 := cell_of hA (i := 1) rfl; have c2 := cell_of hA (i := 2) rfl; have c3 := cell_of hA (i := 3) rfl
  have HBW := hide hbW; have HA := hide hA; have HB := hide hB
  unfold ChkPost at HF
  unfold gAgg at HF HC HV ⊢
  unfold mAgg at HC ⊢
  clear hA hB hbW hg hm hrr hwb hrF hrT
  rw [hW] at c0 c1 c2 c3
  go_enter Try.func52, Try.ntmps52
  go_wp2_with fail
  rw [← hW]
  clear hW c0 c1 c2 c3
  refine HF.out.mono ?_
  rintro e w2 ⟨rfl, hb2⟩
  have q1 := (hb2.block _ (lt_of_heap HA.out)).trans HA.out
  have q2 := (hb2.block _ (lt_of_heap HB.out)).trans HB.out
  have HB2 := hide (below_on HBW.out hb2); have HQ := hide q1; have HQ2 := hide q2
  have c0 := cell_of q1 (i := 0) rfl; have c1 := cell_of q1 (i := 1) rfl; have c2 := cell_of q1 (i := 2) rfl; have c3 := cell_of q1 (i := 3) rfl
  clear hb2 q1 q2 HF HA HB HBW
  by_cases h1 : r1 = 0
  · subst h1
    go_wp2_with fail
    clear c0 c1 c2 c3
    by_cases hf : IsV N f
    · have hde : decide (0 ≤ f ∧ f < N) = true := decide_eq_true hf
      refine (HV.out f w2).mono ?_
      rintro e w3 ⟨rfl, hb3⟩
      rw [hde]
      have q1 := (hb3.block _ (lt_of_heap HQ.out)).trans HQ.out
      have HB3 := hide (below_on HB2.out hb3); have HN3 := hide hb3
      have c0 := cell_of q1 (i := 0) rfl; have c1 := cell_of q1 (i := 1) rfl; have c2 := cell_of q1 (i := 2) rfl; have c3 := cell_of q1 (i := 3) rfl
      clear hb3 q1 hde
      go_wp2_with fail
      clear c0 c1 c2 c3
      by_cases ht : IsV N t
      · have hde : decide (0 ≤ t ∧ t < N) = true := decide_eq_true ht
        refine (HV.out t w3).mono ?_
        rintro e w4 ⟨rfl, hb4⟩
        rw [hde]
        have HB4 := hide (below_on HB3.out hb4)
        have hb24 := below_on HN3.out hb4
        have q1 := (hb24.block _ (lt_of_heap HQ.out)).trans HQ.out
        have q2 := (hb24.block _ (lt_of_heap HQ2.out)).trans HQ2.out
        have c0 := cell_of q1 (i := 0) rfl; have c1 := cell_of q1 (i := 1) rfl; have c2 := cell_of q1 (i := 2) rfl; have c3 := cell_of q1 (i := 3) rfl
        have m0 := cell_of q2 (i := 0) rfl; have m1 := cell_of q2 (i := 1) rfl; have m2 := cell_of q2 (i := 2) rfl
        clear hb4 hde hb24 q1 q2
        go_wp2_with fail
        clear c0 c1 c2 c3 m0 m1 m2
        refine (HC.out w4 HB4.out).mono ?_
        rintro e w5 ⟨e', i, rfl, hq, hb5⟩
        have HFN : Hid (LoR N st tl wt at' fr ts f t e' ∧ Below w.heap.size w w5) := ⟨.inr (.inr ⟨HR1.out, hf, ht, i, hq⟩), below_on HB4.out hb5⟩
        clear hq hb5
        go_wp2
        go_ret
        exact ⟨e', rfl, HFN.out⟩
      · have hde : decide (0 ≤ t ∧ t < N) = false := decide_eq_false ht
        refine (HV.out t w3).mono ?_
        rintro e w4 ⟨rfl, hb4⟩
        rw [hde]
        have HFN : Hid (LoR N st tl wt at' fr ts f t 30 ∧ Below w.heap.size w w4) := ⟨.inr (.inl ⟨HR1.out, fun h => ht h.2, rfl⟩), below_on HB3.out hb4⟩
        clear hb4 hde
        go_wp2
        go_ret
        exact ⟨30, rfl, HFN.out⟩
    · have hde : decide (0 ≤ f ∧ f < N) = false := decide_eq_false hf
      refine (HV.out f w2).mono ?_
      rintro e w3 ⟨rfl, hb3⟩
      rw [hde]
      have HFN : Hid (LoR N st tl wt at' fr ts f t 30 ∧ Below w.heap.size w w3) := ⟨.inr (.inl ⟨HR1.out, fun h => hf h.1, rfl⟩), below_on HB2.out hb3⟩
      clear hb3 hde
      go_wp2
      go_ret
      exact ⟨30, rfl, HFN.out⟩
  · have HFN : Hid (LoR N st tl wt at' fr ts f t r1) := .inl ⟨by rw [HR1.out]; exact h1, HR1.out.symm⟩
    clear c0 c1 c2 c3
    go_wp2
    go_ret
    exact ⟨r1, rfl, HFN.out, HB2.out⟩
end Go.Proofs.Ytehlciejhegndaa

/- seek.bound. -/
namespace Go.Proofs.Ytehlciejhegndaa
open Go.RowKit Go.Lib
set_option linter.unusedVariables false
set_option linter.unusedSimpArgs false
/-- How much a is above b, where neither is Never. -/
def mor (a b : Int) : Int := if a = Nev ∨ b = Nev ∨ a ≤ b then 0 else a - b
/-- A landmark that one is reached from (or reaches), the other not. -/
def stops (F T : List Int) (f t : Nat) : Prop := (at_ F f ≠ Nev ∧ at_ F t = Nev) ∨ (at_ T t ≠ Nev ∧ at_ T f = Nev)
def bst (fr ts : List (List Int)) (f t : Nat) : Nat → Int
  | 0 => 0
  | i + 1 => max (max (bst fr ts f t i) (mor (at_ (rowL fr i) t) (at_ (rowL fr i) f))) (mor (at_ (rowL ts i) f) (at_ (rowL ts i) t))
def BdA (fr ts : List (List Int)) (f t p : Nat) (x : Int) : Prop := (∃ i, i < p ∧ stops (rowL fr i) (rowL ts i) f t ∧ x = Nev) ∨ ((∀ i, i < p → ¬ stops (rowL fr i) (rowL ts i) f t) ∧ x = bst fr ts f t p)
theorem BdA.one {fr ts : List (List Int)} {f t p : Nat} {x y : Int} (h : BdA fr ts f t p x) (k : BdA fr ts f t p y) : x = y := by
  rcases h with ⟨i, h1, h2, rfl⟩ | ⟨h1, rfl⟩ <;> rcases k with ⟨j, k1, k2, rfl⟩ | ⟨k1, rfl⟩
  · rfl
  · exact absurd h2 (k1 i h1)
  · exact absurd k2 (h1 j k1)
  · rfl
theorem mor_nn (a b : Int) : 0 ≤ mor a b := by
  unfold mor; split <;> omega
theorem bst_nn (fr ts : List (List Int)) (f t : Nat) : ∀ i, 0 ≤ bst fr ts f t i
  | 0 => by simp [bst]
  | i + 1 => by
    have := bst_nn fr ts f t i
    unfold bst
    omega
theorem mor_le {a b : Int} (hb : 0 ≤ b) (ha : a ≤ Nev) : mor a b ≤ Nev := by
  unfold mor
  unfold Nev at *
  split <;> omega
theorem bst_le {fr ts : List (List Int)} {f t : Nat} (hF : ∀ i v, 0 ≤ at_ (rowL fr i) v ∧ at_ (rowL fr i) v ≤ Nev) (hT : ∀ i v, 0 ≤ at_ (rowL ts i) v ∧ at_ (rowL ts i) v ≤ Nev) : ∀ i, bst fr ts f t i ≤ Nev
  | 0 => by simp [bst, Nev]
  | i + 1 => by
    have h1 := bst_le (f := f) (t := t) hF hT i
    have h2 := mor_le (hF i f).1 (hF i t).2
    have h3 := mor_le (hT i t).1 (hT i f).2
    unfold bst
    omega
/-- One pair's part of the greatest. -/
theorem mor_near {a b m : Int} (h : b = Nev) (hm : 0 ≤ m) : max m (mor a b) = m := by
  unfold mor; rw [if_pos (.inr (.inl h))]; omega
theorem mor_low {a b m : Int} (h : ¬ b < a) (hm : 0 ≤ m) : max m (mor a b) = m := by
  unfold mor; rw [if_pos (.inr (.inr (by omega)))]; omega
theorem mor_up {a b : Int} (h1 : a ≠ Nev) (h2 : b ≠ Nev) (h : b < a) : mor a b = a - b := by
  unfold mor; rw [if_neg (by intro h'; rcases h' with h' | h' | h' <;> omega)]
def mid (M x y z u : Int) (j : Nat) : Int := if j = 0 then M else if j = 1 then max M (mor y x) else max (max M (mor y x)) (mor u z)
theorem mdecD {i n : Nat} (h : i < n) : n - (RowKit.intOf (.int .i64 ((i : Int) + 1))).toNat < n - (RowKit.intOf (.int .i64 (i : Int))).toNat := by simp [RowKit.intOf]; omega
set_option maxRecDepth 100000 in
set_option maxHeartbeats 8000000 in
theorem bound_any (n f t : Nat) (v0 v1 v2 : Value) (at' : List Int) (fr ts : List (List Int)) (w : World) (hm : MkI w v0 v1 v2 at' fr ts) (hfl : fr.length = at'.length) (htl : ts.length = at'.length) (h64 : at'.length ≤ 64) (hF : ∀ i, i < at'.length → (rowL fr i).length = n) (hT : ∀ i, i < at'.length → (rowL ts i).length = n) (hf : f < n) (ht : t < n)
    (hrF : ∀ i v, 0 ≤ at_ (rowL fr i) v ∧ at_ (rowL fr i) v ≤ Nev) (hrT : ∀ i v, 0 ≤ at_ (rowL ts i) v ∧ at_ (rowL ts i) v ≤ Nev) :
    Calls Try.prog 66 #[mAgg v0 v1 v2, .int .i64 f, .int .i64 t] w fun e w' => ∃ x, e = .returned (.int .u64 x) ∧ BdA fr ts f t at'.length x ∧ Below w.heap.size w w' := by
  obtain ⟨ao, ca, rfl⟩ := hm.a.shape
  obtain ⟨bo, cb, rfl⟩ := hm.f.shape
  obtain ⟨co, cc, rfl⟩ := hm.t.shape
  obtain ⟨w1, hw1⟩ : ∃ w1, w1 = w.alloc (.cells #[.slice ao at'.length ca, .slice bo fr.length cb, .slice co ts.length cc] 41) := ⟨_, rfl⟩
  have hb1 : Below w.heap.size w w1 := by rw [hw1]; exact below_alloc (Below.refl _ _) _
  have hB1 : w1.heap[w.heap.size]? = some (.cells #[.slice ao at'.length ca, .slice bo fr.length cb, .slice co ts.length cc] 41 (0, 0)) := by rw [hw1]; exact heap_new _ _
  have HM := hide hm; have HFL := hide hfl; have HTL := hide htl; have HF := hide hF; have HT := hide hT; have HRF := hide hrF; have HRT := hide hrT
  have HB1 := hide hb1; have HX1 := hide hB1
  have m0 := cell_of hB1 (i := 0) rfl
  obtain ⟨p, hp⟩ : ∃ p, p = at'.length := ⟨_, rfl⟩
  have HP := hide hp
  unfold mAgg
  rw [hfl, htl, ← hp] at hw1 HX1
  rw [hfl, htl, ← hp] at m0 ⊢
  rw [← hp] at h64
  clear hm hfl htl hF hT hrF hrT hb1 hB1 hp
  rw [hw1] at m0
  go_enter Try.func66, Try.ntmps66
  go_wp2_with fail
  rw [← hw1]
  clear hw1 m0
  go_loopw [16, 7] (fun q m wr => ∃ i : Nat, i ≤ p ∧ q = .int .i64 i ∧ m = .int .u64 (bst fr ts f t i) ∧ Hid ((∀ j, j < i → ¬ stops (rowL fr j) (rowL ts j) f t) ∧ Below w1.heap.size w1 wr)) (fun q _ _ => p - (RowKit.intOf q).toNat)
  case atStart => exact ⟨0, Nat.zero_le _, rfl, rfl, fun j hj => absurd hj (Nat.not_lt_zero _), Below.refl _ _⟩
  case round =>
    obtain ⟨i, hip, rfl, rfl, HH⟩ := hrel
    by_cases hlt : i < p
    · have hii : (i : Int) < (p : Int) := by omega
      have hbw := below_on HB1.out HH.out.2
      obtain ⟨gf, of_, vo, vc, rfl, d1, hrowF⟩ := (HM.out.below hbw).f.at (i := i) (by rw [HFL.out, ← HP.out]; exact hlt)
      obtain ⟨gt, ot, uo, uc, rfl, d2, hrowT⟩ := (HM.out.below hbw).t.at (i := i) (by rw [HTL.out, ← HP.out]; exact hlt)
      have hlF := HF.out i (by rw [← HP.out]; exact hlt)
      have hlT := HT.out i (by rw [← HP.out]; exact hlt)
      obtain ⟨a1, o1, k1, hs1, _, x1⟩ := hrowF.cellAt f (by omega)
      obtain ⟨a2, o2, k2, hs2, _, y1⟩ := hrowF.cellAt t (by omega)
      obtain ⟨a3, o3, k3, hs3, _, x2⟩ := hrowT.cellAt t (by omega)
      obtain ⟨a4, o4, k4, hs4, _, y2⟩ := hrowT.cellAt f (by omega)
      rw [hs1] at d1 hs2
      rw [hs3] at d2 hs4
      simp only [Value.slice.injEq, Option.some.injEq, Addr.mk.injEq, true_and, and_true] at hs2 hs4
      obtain ⟨⟨rfl, rfl⟩, rfl⟩ := hs2
      obtain ⟨⟨rfl, rfl⟩, rfl⟩ := hs4
      rw [hlF] at d1
      rw [hlT] at d2
      have e1 := (HH.out.2.block _ (lt_of_heap HX1.out)).trans HX1.out
      obtain ⟨x, hx⟩ : ∃ x, x = at_ (rowL fr i) f := ⟨_, rfl⟩
      obtain ⟨y, hy⟩ : ∃ y, y = at_ (rowL fr i) t := ⟨_, rfl⟩
      obtain ⟨z, hz⟩ : ∃ z, z = at_ (rowL ts i) t := ⟨_, rfl⟩
      obtain ⟨u, hu⟩ : ∃ u, u = at_ (rowL ts i) f := ⟨_, rfl⟩
      have hxr := HRF.out i f; have hyr := HRF.out i t; have hzr := HRT.out i t; have hur := HRT.out i f
      have hM0 := bst_nn fr ts f t i
      have hM1 := bst_le (f := f) (t := t) HRF.out HRT.out i
      have hst : stops (rowL fr i) (rowL ts i) f t ↔ (x ≠ Nev ∧ y = Nev) ∨ (z ≠ Nev ∧ u = Nev) := by unfold stops; rw [hx, hy, hz, hu]
      have hbs : bst fr ts f t (i + 1) = max (max (bst fr ts f t i) (mor y x)) (mor u z) := by rw [hx, hy, hz, hu]; rfl
      rw [← hx] at x1 hxr; rw [← hy] at y1 hyr; rw [← hz] at x2 hzr; rw [← hu] at y2 hur
      obtain ⟨M, hM⟩ : ∃ M, M = bst fr ts f t i := ⟨_, rfl⟩
      rw [← hM] at hM0 hM1 hbs ⊢
      have HST := hide hst; have HBS := hide hbs
      have HXR := hide hxr; have HYR := hide hyr; have HZR := hide hzr; have HUR := hide hur; have HM0 := hide hM0; have HM1 := hide hM1
      have C1 := fun (g : GW wr) => (below_cell (o := 1) g.bel (lt_of_heap e1)).trans (cell_of e1 (i := 1) rfl)
      have C2 := fun (g : GW wr) => (below_cell (o := 2) g.bel (lt_of_heap e1)).trans (cell_of e1 (i := 2) rfl)
      have D1 := fun (g : GW wr) => (below_cell g.bel (block_of_cell d1)).trans d1
      have D2 := fun (g : GW wr) => (below_cell g.bel (block_of_cell d2)).trans d2
      have X1 := fun (g : GW wr) => (below_cell g.bel (block_of_cell x1)).trans x1
      have Y1 := fun (g : GW wr) => (below_cell g.bel (block_of_cell y1)).trans y1
      have X2 := fun (g : GW wr) => (below_cell g.bel (block_of_cell x2)).trans x2
      have Y2 := fun (g : GW wr) => (below_cell g.bel (block_of_cell y2)).trans y2
      have hfi : (f : Int) < (n : Int) := by omega
      have hti : (t : Int) < (n : Int) := by omega
      clear hbw hrowF hrowT hlF hlT hs1 hs3 d1 d2 x1 y1 x2 y2 e1 hx hy hz hu hM hst hbs hxr hyr hzr hur hM0 hM1
      go_wp2_with fail
      go_cut [53, 54] from 19 to 52 (fun t53 t54 wx => t53 = .agg #[.int .u64 x, .int .u64 y, .int .u64 z, .int .u64 u] ∧ t54 = .int .i64 0 ∧ Below wr.heap.size wr wx)
      case first =>
        refine wp_region_gw (by kernel_rfl) (by kernel_rfl) ?_
        repeat (go_big_quiet_step (rfl))
        refine wpQuiet_nil ?_
        intro _ hw'
        obtain ⟨g, hw''⟩ := hw'
        subst hw''
        go_wp2_with fail
        go_meet
        case rel => exact ⟨rfl, rfl, g.bel⟩
      case rest =>
        obtain ⟨rfl, rfl, hb5⟩ := hcut
        have HB5 := hide (below_on HH.out.2 hb5)
        have HSTOP : Hid (∀ (W : World), (x ≠ Nev ∧ y = Nev) ∨ (z ≠ Nev ∧ u = Nev) → Below w1.heap.size w1 W → ∃ q, Ending.returned (Value.int .u64 18446744073709551615) = .returned (.int .u64 q) ∧ BdA fr ts f t p q ∧ Below w.heap.size w W) := fun W h hb => ⟨_, rfl, .inl ⟨i, hlt, HST.out.2 h, rfl⟩, below_on HB1.out hb⟩
        have ix0 : ∀ w : World, (Instr.index 150 (.agg #[.int .u64 x, .int .u64 y, .int .u64 z, .int .u64 u]) (.int .i64 0)).run Try.prog w = .ok (.agg #[.int .u64 x, .int .u64 y]) w := fun _ => by kernel_rfl
        have ix1 : ∀ w : World, (Instr.index 150 (.agg #[.int .u64 x, .int .u64 y, .int .u64 z, .int .u64 u]) (.int .i64 1)).run Try.prog w = .ok (.agg #[.int .u64 z, .int .u64 u]) w := fun _ => by kernel_rfl
        clear hb5 C1 C2 D1 D2 X1 Y1 X2 Y2
        go_wp2_with fail
        go_loopw [54, 7] (fun q m wx => ∃ j : Nat, j ≤ 2 ∧ q = .int .i64 j ∧ m = .int .u64 (mid M x y z u j) ∧ Hid ((1 ≤ j → ¬ (x ≠ Nev ∧ y = Nev)) ∧ (2 ≤ j → ¬ (z ≠ Nev ∧ u = Nev)) ∧ Below w1.heap.size w1 wx)) (fun q _ _ => 2 - (RowKit.intOf q).toNat)
        case atStart => exact ⟨0, by omega, rfl, by simp [mid], fun h => absurd h (by omega), fun h => absurd h (by omega), HB5.out⟩
        case round =>
          obtain ⟨j, hj, rfl, rfl, HJ⟩ := hrel
          have hM0 := HM0.out; have hM1 := HM1.out
          rcases (show j = 0 ∨ j = 1 ∨ j = 2 by omega) with rfl | rfl | rfl
          · have HMN : Hid (0 ≤ M) := HM0.out
            have HJN0 : Hid (¬ (x ≠ Nev ∧ y = Nev) → ∀ W, Below w1.heap.size w1 W → ((1 ≤ 1 → ¬ (x ≠ Nev ∧ y = Nev)) ∧ (2 ≤ 1 → ¬ (z ≠ Nev ∧ u = Nev)) ∧ Below w1.heap.size w1 W)) := fun h W hb => ⟨fun _ => h, fun h' => absurd h' (by omega), hb⟩
            rw [show ((0 : Nat) : Int) = 0 from rfl, show mid M x y z u 0 = M from rfl]
            clear hM0 hM1
            have HMID0 : Hid (∀ q, q = max M (mor y x) → q = mid M x y z u 1) := fun q h => by rw [h]; rfl
            have hnr := HXR.out; have hfr := HYR.out
            unfold Nev at hnr hfr
            have hb0 : (wr.alloc (.cells #[.int .u64 x, .int .u64 y] 149)).heap[wr.heap.size]? = some (.cells #[.int .u64 x, .int .u64 y] 149 (0, 0)) := heap_new _ _
            have b0 := cell_of hb0 (i := 0) rfl; have b1 := cell_of hb0 (i := 1) rfl
            have HBX : Hid (Below w1.heap.size w1 (wr.alloc (.cells #[.int .u64 x, .int .u64 y] 149)).drew) := below_drew (below_alloc HJ.out.2.2 _)
            clear hb0
            go_wp2_with fail
            go_region
            all_goals
              clear b0 b1
              by_cases hn : x = 18446744073709551615
              · subst hn
                go_wp2
                exact ⟨⟨1, by omega, by simp, congrArg (Value.int .u64) (HMID0.out _ (mor_near (a := y) (b := 18446744073709551615) rfl HMN.out).symm), HJN0.out (fun h => absurd rfl h.1) _ HBX.out⟩, by simp [RowKit.intOf]⟩
              · by_cases hf2 : y = 18446744073709551615
                · subst hf2
                  have HFN := hide (HSTOP.out _ (.inl ⟨hn, rfl⟩) HBX.out)
                  go_wp2
                  go_ret
                  exact HFN.out
                · by_cases hlt3 : x < y
                  · have hwr : IntKind.u64.wrap (y - x) = y - x := IntWalk.u64_in _ (by omega)
                    go_wp2
                    exact ⟨⟨1, by omega, by simp, congrArg (Value.int .u64) (HMID0.out (max M (y - x)) (by rw [mor_up (a := y) (b := x) hf2 hn hlt3])), HJN0.out (fun h => hf2 h.2) _ HBX.out⟩, by simp [RowKit.intOf]⟩
                  · go_wp2
                    exact ⟨⟨1, by omega, by simp, congrArg (Value.int .u64) (HMID0.out _ (mor_low (a := y) (b := x) hlt3 HMN.out).symm), HJN0.out (fun h => hf2 h.2) _ HBX.out⟩, by simp [RowKit.intOf]⟩
          · have HJ1 : Hid (¬ (x ≠ Nev ∧ y = Nev)) := HJ.out.1 (by omega)
            have HMN : Hid (0 ≤ max M (mor y x)) := by show 0 ≤ max M (mor y x); omega
            have HJN1 : Hid (¬ (z ≠ Nev ∧ u = Nev) → ∀ W, Below w1.heap.size w1 W → ((1 ≤ 2 → ¬ (x ≠ Nev ∧ y = Nev)) ∧ (2 ≤ 2 → ¬ (z ≠ Nev ∧ u = Nev)) ∧ Below w1.heap.size w1 W)) := fun h W hb => ⟨fun _ => HJ1.out, fun _ => h, hb⟩
            rw [show ((1 : Nat) : Int) = 1 from rfl, show mid M x y z u 1 = max M (mor y x) from rfl]
            obtain ⟨M1, hM1'⟩ : ∃ M1, M1 = max M (mor y x) := ⟨_, rfl⟩
            have HM1' := hide hM1'
            rw [← hM1'] at HMN ⊢
            clear hM0 hM1 hM1'
            have HMID1 : Hid (∀ q, q = max M1 (mor u z) → q = mid M x y z u 2) := fun q h => by rw [h]; rw [HM1'.out]; rfl
            have hnr := HZR.out; have hfr := HUR.out
            unfold Nev at hnr hfr
            have hb0 : (wr.alloc (.cells #[.int .u64 z, .int .u64 u] 149)).heap[wr.heap.size]? = some (.cells #[.int .u64 z, .int .u64 u] 149 (0, 0)) := heap_new _ _
            have b0 := cell_of hb0 (i := 0) rfl; have b1 := cell_of hb0 (i := 1) rfl
            have HBX : Hid (Below w1.heap.size w1 (wr.alloc (.cells #[.int .u64 z, .int .u64 u] 149)).drew) := below_drew (below_alloc HJ.out.2.2 _)
            clear hb0
            go_wp2_with fail
            go_region
            all_goals
              clear b0 b1
              by_cases hn : z = 18446744073709551615
              · subst hn
                go_wp2
                exact ⟨⟨2, by omega, by simp, congrArg (Value.int .u64) (HMID1.out _ (mor_near (a := u) (b := 18446744073709551615) rfl HMN.out).symm), HJN1.out (fun h => absurd rfl h.1) _ HBX.out⟩, by simp [RowKit.intOf]⟩
              · by_cases hf2 : u = 18446744073709551615
                · subst hf2
                  have HFN := hide (HSTOP.out _ (.inr ⟨hn, rfl⟩) HBX.out)
                  go_wp2
                  go_ret
                  exact HFN.out
                · by_cases hlt3 : z < u
                  · have hwr : IntKind.u64.wrap (u - z) = u - z := IntWalk.u64_in _ (by omega)
                    go_wp2
                    exact ⟨⟨2, by omega, by simp, congrArg (Value.int .u64) (HMID1.out (max M1 (u - z)) (by rw [mor_up (a := u) (b := z) hf2 hn hlt3])), HJN1.out (fun h => hf2 h.2) _ HBX.out⟩, by simp [RowKit.intOf]⟩
                  · go_wp2
                    exact ⟨⟨2, by omega, by simp, congrArg (Value.int .u64) (HMID1.out _ (mor_low (a := u) (b := z) hlt3 HMN.out).symm), HJN1.out (fun h => hf2 h.2) _ HBX.out⟩, by simp [RowKit.intOf]⟩
          · rw [show ((2 : Nat) : Int) = 2 from rfl, show mid M x y z u 2 = max (max M (mor y x)) (mor u z) from rfl, ← HBS.out]
            have HNS : Hid (∀ k, k < i + 1 → ¬ stops (rowL fr k) (rowL ts k) f t) := fun k hk => by
              rcases Nat.lt_or_ge k i with h | h
              · exact HH.out.1 k h
              · obtain rfl : k = i := by omega
                intro h'
                rcases HST.out.1 h' with h' | h'
                · exact HJ.out.1 (by omega) h'
                · exact HJ.out.2.1 (by omega) h'
            go_wp2
            exact ⟨⟨i + 1, hlt, by simp, rfl, HNS.out, HJ.out.2.2⟩, mdecD hlt⟩
    · obtain rfl : i = p := by omega
      have HFN : Hid (BdA fr ts f t i (bst fr ts f t i) ∧ Below w.heap.size w wr) := ⟨.inr ⟨HH.out.1, rfl⟩, below_on HB1.out HH.out.2⟩
      go_wp2
      go_ret
      exact ⟨_, rfl, HFN.out.1, HFN.out.2⟩
end Go.Proofs.Ytehlciejhegndaa

/- The document's Bound; seek.Bound. -/
namespace Go.Proofs.Ytehlciejhegndaa
open Go.RowKit Go.Lib
set_option linter.unusedVariables false
set_option linter.unusedSimpArgs false
theorem trl_ex {w : World} {n : Nat} {va vb vc : Value} {st tl wt : List Int} (hg : GIs w n va vb vc st tl wt) (hgd : Good n st tl wt) (hw : ∀ e, 0 ≤ at_ wt e) : ∃ a b c, TrL n st tl wt a b c := by
  obtain ⟨e, w', fr, ⟨_, _, _, a, b, c, _, _, _, ht, _⟩, _⟩ := turn_good n va vb vc st tl wt w hg hgd hw []
  exact ⟨a, b, c, ht⟩
theorem LmNo.zero {n : Nat} {st tl wt a b c : List Int} {v : Int} {F T : List Int} (h : LmNo n st tl wt a b c v F T 0) : F.length = n ∧ T.length = n := by
  rcases h with ⟨_, h⟩ | ⟨_, _, h⟩ | ⟨_, _, _, _, h⟩ | ⟨_, h1, h2, _⟩
  · cases h
  · cases h
  · cases h
  · exact ⟨h1, h2⟩
theorem FstNo.zero {n : Nat} {st tl wt a b c at' : List Int} {fr ts : List (List Int)} {k : Nat} {i : Int} (h : FstNo n st tl wt a b c at' fr ts k 0 i) : ∀ p, p < k → (rowL fr p).length = n ∧ (rowL ts p).length = n := by
  rcases h with ⟨_, _, _, _, h, _⟩ | ⟨h, _⟩
  · exact absurd rfl h
  · exact fun p hp => (h p hp).zero
/-- What marks that are right give. -/
def MkOk (n : Nat) (at' : List Int) (fr ts : List (List Int)) : Prop := fr.length = at'.length ∧ ts.length = at'.length ∧ at'.length ≤ 64 ∧ ∀ p, p < at'.length → (rowL fr p).length = n ∧ (rowL ts p).length = n
theorem CkR.ok {N : Int} {st tl wt at' : List Int} {fr ts : List (List Int)} {i : Int} {n : Nat} (hN : N = n) (h : CkR N st tl wt at' fr ts 0 i) : MkOk n at' fr ts := by
  rcases h with ⟨h1, h2, _⟩ | ⟨_, _, h, _⟩ | ⟨_, _, _, _, h, _⟩ | ⟨_, h2, h3, h4, n', a, b, c, hn, _, hf⟩
  · exact absurd h2.symm h1
  · cases h
  · cases h
  · obtain rfl : n = n' := by omega
    exact ⟨h2, h3, h4, hf.zero⟩
theorem CkQ.ok {N : Int} {st tl wt at' : List Int} {fr ts : List (List Int)} {i : Int} {n : Nat} {a b c : List Int} (hN : N = n) (ht : TrL n st tl wt a b c) (h : CkQ N st tl wt at' fr ts 0 i) : MkOk n at' fr ts := by
  rcases h with ⟨h1, h2, _⟩ | ⟨_, _, h, _⟩ | ⟨_, _, _, _, h, _⟩ | ⟨_, h2, h3, h4, hf⟩
  · exact absurd h2.symm h1
  · cases h
  · cases h
  · exact ⟨h2, h3, h4, (hf n a b c hN ht).zero⟩
set_option maxRecDepth 100000 in
theorem more_any (a b : Int) (w : World) (ha : 0 ≤ a ∧ a ≤ Nev) (hb : 0 ≤ b ∧ b ≤ Nev) :
    Calls Try.prog 68 #[.int .u64 a, .int .u64 b] w fun e w' => e = .returned (.int .u64 (mor a b)) ∧ Below w.heap.size w w' := by
  unfold Nev at ha hb
  by_cases h1 : a = 18446744073709551615
  · have HE : Hid (mor a b = 0) := by show mor a b = 0; unfold mor; rw [if_pos (.inl h1)]
    subst h1
    go_enter Try.func68, Try.ntmps68
    go_wp2
    go_ret
    exact ⟨by rw [HE.out]; rfl, Below.refl _ _⟩
  · by_cases h2 : b = 18446744073709551615
    · have HE : Hid (mor a b = 0) := by show mor a b = 0; unfold mor; rw [if_pos (.inr (.inl h2))]
      subst h2
      have g1 : (a == 18446744073709551615) = false := by simp [h1]
      go_enter Try.func68, Try.ntmps68
      go_wp2
      go_ret
      exact ⟨by rw [HE.out]; rfl, Below.refl _ _⟩
    · have g1 : (a == 18446744073709551615) = false := by simp [h1]
      have g2 : (b == 18446744073709551615) = false := by simp [h2]
      by_cases h3 : a ≤ b
      · have HE : Hid (mor a b = 0) := by show mor a b = 0; unfold mor; rw [if_pos (.inr (.inr h3))]
        go_enter Try.func68, Try.ntmps68
        go_wp2
        go_ret
        exact ⟨by rw [HE.out]; rfl, Below.refl _ _⟩
      · have HE : Hid (mor a b = a - b) := mor_up h1 h2 (by omega)
        have hwr : IntKind.u64.wrap (a - b) = a - b := IntWalk.u64_in _ (by omega)
        go_enter Try.func68, Try.ntmps68
        go_wp2
        go_ret
        exact ⟨by rw [HE.out]; rfl, Below.refl _ _⟩
def BnQ (N : Int) (st tl wt at' : List Int) (fr ts : List (List Int)) (f t x e : Int) : Prop := (LoQ N st tl wt at' fr ts f t e ∧ e ≠ 0 ∧ x = 0) ∨ (LoQ N st tl wt at' fr ts f t 0 ∧ e = 0 ∧ ∃ a b : Nat, f = a ∧ t = b ∧ BdA fr ts a b at'.length x)
def BnR (N : Int) (st tl wt at' : List Int) (fr ts : List (List Int)) (f t x e : Int) : Prop := (LoR N st tl wt at' fr ts f t e ∧ e ≠ 0 ∧ x = 0) ∨ (LoR N st tl wt at' fr ts f t 0 ∧ e = 0 ∧ ∃ a b : Nat, f = a ∧ t = b ∧ BdA fr ts a b at'.length x)
theorem BnR.two {N : Int} {st tl wt at' : List Int} {fr ts : List (List Int)} {f t x e x' e' : Int} (h : BnR N st tl wt at' fr ts f t x e) (k : BnQ N st tl wt at' fr ts f t x' e') : x = x' ∧ e = e' := by
  rcases h with ⟨h1, h2, rfl⟩ | ⟨h1, rfl, a, b, ha, hb, h2⟩ <;> rcases k with ⟨k1, k2, rfl⟩ | ⟨k1, rfl, a', b', ha', hb', k2⟩
  · exact ⟨rfl, h1.two k1⟩
  · exact absurd (h1.two k1) h2
  · exact absurd (h1.two k1).symm k2
  · obtain rfl : a = a' := by omega
    obtain rfl : b = b' := by omega
    exact ⟨h2.one k2, rfl⟩
theorem LoQ.vtx {N : Int} {st tl wt at' : List Int} {fr ts : List (List Int)} {f t : Int} (h : LoQ N st tl wt at' fr ts f t 0) : (chk N st tl wt).1 = 0 ∧ IsV N f ∧ IsV N t ∧ ∃ i, CkQ N st tl wt at' fr ts 0 i := by
  rcases h with ⟨h1, h2⟩ | ⟨_, _, h⟩ | ⟨h1, h2, h3, h4⟩
  · exact absurd h2.symm h1
  · cases h
  · exact ⟨h1, h2, h3, h4⟩
theorem LoR.vtx {N : Int} {st tl wt at' : List Int} {fr ts : List (List Int)} {f t : Int} (h : LoR N st tl wt at' fr ts f t 0) : (chk N st tl wt).1 = 0 ∧ IsV N f ∧ IsV N t ∧ ∃ i, CkR N st tl wt at' fr ts 0 i := by
  rcases h with ⟨h1, h2⟩ | ⟨_, _, h⟩ | ⟨h1, h2, h3, h4⟩
  · exact absurd h2.symm h1
  · cases h
  · exact ⟨h1, h2, h3, h4⟩
set_option maxRecDepth 100000 in
set_option maxHeartbeats 8000000 in
theorem rbound_any (N : Int) (va vb vc : Value) (st tl wt : List Int) (v0 v1 v2 : Value) (at' : List Int) (fr ts : List (List Int)) (f t : Int) (w : World) (hg : GIs w N va vb vc st tl wt) (hst : st.length ≤ 17592186044416) (hto : tl.length ≤ 17592186044416) (hwt : wt.length ≤ 17592186044416) (hwb : ∀ e, 0 ≤ at_ wt e ∧ at_ wt e ≤ 18446744073709551615) (hm : MkI w v0 v1 v2 at' fr ts)
    (hrF : ∀ i v, 0 ≤ at_ (rowL fr i) v ∧ at_ (rowL fr i) v ≤ Nev) (hrT : ∀ i v, 0 ≤ at_ (rowL ts i) v ∧ at_ (rowL ts i) v ≤ Nev) :
    Calls Try.prog 33 #[gAgg N va vb vc, mAgg v0 v1 v2, .int .i64 f, .int .i64 t] w fun e w' => ∃ x e', e = .returned (.tuple #[.int .u64 x, .int .i64 e']) ∧ BnQ N st tl wt at' fr ts f t x e' ∧ Below w.heap.size w w' := by
  have HTR : Hid (∀ n : Nat, N = n → (chk N st tl wt).1 = 0 → ∃ a b c, TrL n st tl wt a b c) := fun n hn h => by
    obtain ⟨n', hn', hgd⟩ := chk_good h
    obtain rfl : n = n' := by omega
    subst hn
    exact trl_ex hg hgd (fun e => (hwb e).1)
  obtain ⟨ao, ca, rfl⟩ := hm.a.shape
  obtain ⟨bo, cb, rfl⟩ := hm.f.shape
  obtain ⟨co, cc, rfl⟩ := hm.t.shape
  obtain ⟨sa, da, rfl⟩ := hg.s.shape
  obtain ⟨sb, db, rfl⟩ := hg.t.shape
  obtain ⟨sc, dc, rfl⟩ := hg.u.shape
  obtain ⟨W, hW⟩ : ∃ W, W = (w.alloc (.cells #[.int .i64 N, .slice sa st.length da, .slice sb tl.length db, .slice sc wt.length dc] 25)).alloc (.cells #[.slice ao at'.length ca, .slice bo fr.length cb, .slice co ts.length cc] 41) := ⟨_, rfl⟩
  obtain ⟨hA, hB, hbW⟩ := two_box w N _ _ _ _ _ _ W hW
  have HC := hide (marked_any N (.slice sa st.length da) (.slice sb tl.length db) (.slice sc wt.length dc) st tl wt (.slice ao at'.length ca) (.slice bo fr.length cb) (.slice co ts.length cc) at' fr ts f t W (hg.below hbW) hst hto hwt hwb (hm.below hbW))
  have c0 := cell_of hA (i := 0) rfl; have c1 := cell_of hA (i := 1) rfl; have c2 := cell_of hA (i := 2) rfl; have c3 := cell_of hA (i := 3) rfl
  have m0 := cell_of hB (i := 0) rfl; have m1 := cell_of hB (i := 1) rfl; have m2 := cell_of hB (i := 2) rfl
  have HBW := hide hbW; have HB := hide hB; have HM := hide hm; have HRF := hide hrF; have HRT := hide hrT
  unfold gAgg at HC ⊢
  unfold mAgg at HC ⊢
  clear hA hB hbW hg hm hwb hrF hrT
  rw [hW] at c0 c1 c2 c3 m0 m1 m2
  go_enter Try.func33, Try.ntmps33
  go_wp2_with fail
  rw [← hW]
  clear hW c0 c1 c2 c3 m0 m1 m2
  refine HC.out.mono ?_
  rintro e w2 ⟨e', rfl, hlo, hb2⟩
  have q2 := (hb2.block _ (lt_of_heap HB.out)).trans HB.out
  have HB2 := hide (below_on HBW.out hb2); have HX := hide q2; have HLO := hide hlo
  clear hb2 q2 HC HB HBW hlo
  by_cases he : e' = 0
  · subst he
    obtain ⟨hk0, hvf, hvt, ci, hcq⟩ := HLO.out.vtx
    obtain ⟨n, hN, _⟩ := chk_good hk0
    obtain ⟨a, b, c, htr⟩ := HTR.out n hN hk0
    obtain ⟨hfl, htl, h64, hlen⟩ := hcq.ok hN htr
    obtain ⟨f', hf'⟩ : ∃ f' : Nat, f = (f' : Int) := ⟨f.toNat, by have := hvf.1; omega⟩
    obtain ⟨t', ht'⟩ : ∃ t' : Nat, t = (t' : Int) := ⟨t.toNat, by have := hvt.1; omega⟩
    subst hf' ht'
    have hfn : f' < n := by have := hvf.2; omega
    have htn : t' < n := by have := hvt.2; omega
    have HFL := hide hfl; have HTL := hide htl; have HLEN := hide hlen
    obtain ⟨p, hp⟩ : ∃ p, p = at'.length := ⟨_, rfl⟩
    have HP := hide hp
    rw [hfl, htl, ← hp] at HX
    rw [← hp] at h64
    have HEND : Hid (∀ W x, Below w2.heap.size w2 W → BdA fr ts f' t' p x → BnQ N st tl wt at' fr ts f' t' x 0 ∧ Below w.heap.size w W) := fun W x hb hx => ⟨.inr ⟨HLO.out, rfl, f', t', rfl, rfl, by rw [← HP.out]; exact hx⟩, below_on HB2.out hb⟩
    rw [hfl, htl, ← hp]
    clear hk0 hvf hvt hcq hN htr hfl htl hlen hp
    go_wp2_with fail
    go_loopw [12, 11] (fun q m wr => ∃ i : Nat, i ≤ p ∧ q = .int .i64 i ∧ m = .int .u64 (bst fr ts f' t' i) ∧ Hid ((∀ j, j < i → ¬ stops (rowL fr j) (rowL ts j) f' t') ∧ Below w2.heap.size w2 wr)) (fun q _ _ => p - (RowKit.intOf q).toNat)
    case atStart => exact ⟨0, Nat.zero_le _, rfl, rfl, fun j hj => absurd hj (Nat.not_lt_zero _), Below.refl _ _⟩
    case round =>
      obtain ⟨i, hip, rfl, rfl, HH⟩ := hrel
      have e1 := (HH.out.2.block _ (lt_of_heap HX.out)).trans HX.out
      have m0 := cell_of e1 (i := 0) rfl; have m1 := cell_of e1 (i := 1) rfl; have m2 := cell_of e1 (i := 2) rfl
      clear e1
      by_cases hlt : i < p
      · have hii : (i : Int) < (p : Int) := by omega
        have hbw := below_on HB2.out HH.out.2
        obtain ⟨gf, of_, vo, vc, rfl, d1, hrowF⟩ := (HM.out.below hbw).f.at (i := i) (by rw [HFL.out, ← HP.out]; exact hlt)
        obtain ⟨gt, ot, uo, uc, rfl, d2, hrowT⟩ := (HM.out.below hbw).t.at (i := i) (by rw [HTL.out, ← HP.out]; exact hlt)
        obtain ⟨hlF, hlT⟩ := HLEN.out i (by rw [← HP.out]; exact hlt)
        obtain ⟨a1, o1, k1, hs1, _, x1⟩ := hrowF.cellAt f' (by omega)
        obtain ⟨a2, o2, k2, hs2, _, y1⟩ := hrowF.cellAt t' (by omega)
        obtain ⟨a3, o3, k3, hs3, _, x2⟩ := hrowT.cellAt t' (by omega)
        obtain ⟨a4, o4, k4, hs4, _, y2⟩ := hrowT.cellAt f' (by omega)
        rw [hs1] at d1 hs2
        rw [hs3] at d2 hs4
        simp only [Value.slice.injEq, Option.some.injEq, Addr.mk.injEq, true_and, and_true] at hs2 hs4
        obtain ⟨⟨rfl, rfl⟩, rfl⟩ := hs2
        obtain ⟨⟨rfl, rfl⟩, rfl⟩ := hs4
        rw [hlF] at d1
        rw [hlT] at d2
        obtain ⟨x, hx⟩ : ∃ x, x = at_ (rowL fr i) f' := ⟨_, rfl⟩
        obtain ⟨y, hy⟩ : ∃ y, y = at_ (rowL fr i) t' := ⟨_, rfl⟩
        obtain ⟨z, hz⟩ : ∃ z, z = at_ (rowL ts i) t' := ⟨_, rfl⟩
        obtain ⟨u, hu⟩ : ∃ u, u = at_ (rowL ts i) f' := ⟨_, rfl⟩
        have hxr := HRF.out i f'; have hyr := HRF.out i t'; have hzr := HRT.out i t'; have hur := HRT.out i f'
        have hM0 := bst_nn fr ts f' t' i
        have hst : stops (rowL fr i) (rowL ts i) f' t' ↔ (x ≠ Nev ∧ y = Nev) ∨ (z ≠ Nev ∧ u = Nev) := by unfold stops; rw [hx, hy, hz, hu]
        have hbs : bst fr ts f' t' (i + 1) = max (max (bst fr ts f' t' i) (mor y x)) (mor u z) := by rw [hx, hy, hz, hu]; rfl
        rw [← hx] at x1 hxr; rw [← hy] at y1 hyr; rw [← hz] at x2 hzr; rw [← hu] at y2 hur
        obtain ⟨M, hM⟩ : ∃ M, M = bst fr ts f' t' i := ⟨_, rfl⟩
        rw [← hM] at hM0 hbs ⊢
        have HST := hide hst; have HBS := hide hbs
        have HA1 := hide (fun X => more_any y x X hyr hxr)
        have HA2 := hide (fun X => more_any u z X hur hzr)
        obtain ⟨A, hA⟩ : ∃ A, A = mor y x := ⟨_, rfl⟩
        obtain ⟨B, hB⟩ : ∃ B, B = mor u z := ⟨_, rfl⟩
        rw [← hA] at HA1 HBS
        rw [← hB] at HA2 HBS
        have hfi : (f' : Int) < (n : Int) := by omega
        have hti : (t' : Int) < (n : Int) := by omega
        have HSTOP : Hid (∀ W, (x ≠ Nev ∧ y = Nev) ∨ (z ≠ Nev ∧ u = Nev) → Below w2.heap.size w2 W → BnQ N st tl wt at' fr ts f' t' 18446744073709551615 0 ∧ Below w.heap.size w W) := fun W h hb => HEND.out W _ hb (.inl ⟨i, hlt, HST.out.2 h, rfl⟩)
        have HNS : Hid (¬ ((x ≠ Nev ∧ y = Nev) ∨ (z ≠ Nev ∧ u = Nev)) → ∀ k, k < i + 1 → ¬ stops (rowL fr k) (rowL ts k) f' t') := fun hn k hk => by
          rcases Nat.lt_or_ge k i with h | h
          · exact HH.out.1 k h
          · obtain rfl : k = i := by omega
            exact fun h' => hn (HST.out.1 h')
        have HXC := hide (And.intro x1 (And.intro y1 (And.intro x2 y2)))
        clear hbw hrowF hrowT hlF hlT hs1 hs3 hx hy hz hu hM hst hbs hA hB hM0
        unfold Nev at hxr hyr hzr hur
        by_cases hnst : (x ≠ Nev ∧ y = Nev) ∨ (z ≠ Nev ∧ u = Nev)
        · have HFN := hide (HSTOP.out wr hnst HH.out.2)
          by_cases hxn : x = 18446744073709551615
          · subst hxn
            have hzu : z ≠ 18446744073709551615 ∧ u = 18446744073709551615 := by
              rcases hnst with h | h
              · exact absurd rfl h.1
              · exact h
            obtain ⟨hzn, rfl⟩ := hzu
            have g1 : (z != 18446744073709551615) = true := by simp [hzn]
            clear hnst
            go_wp2
            go_ret2
            exact ⟨_, _, rfl, HFN.out⟩
          · have g1 : (x != 18446744073709551615) = true := by simp [hxn]
            by_cases hyn : y = 18446744073709551615
            · subst hyn
              clear hnst
              go_wp2
              go_ret2
              exact ⟨_, _, rfl, HFN.out⟩
            · have hzu : z ≠ 18446744073709551615 ∧ u = 18446744073709551615 := by
                rcases hnst with h | h
                · exact absurd h.2 hyn
                · exact h
              obtain ⟨hzn, rfl⟩ := hzu
              have g2 : (y == 18446744073709551615) = false := by simp [hyn]
              have g3 : (z != 18446744073709551615) = true := by simp [hzn]
              clear hnst
              go_wp2
              go_ret2
              exact ⟨_, _, rfl, HFN.out⟩
        · have HN2 := hide (HNS.out hnst)
          clear HNS HSTOP
          go_upto_region 10 with fail
          go_cut [65] from 40 to 64 (fun t wx => t = .bool false ∧ wr = wx)
          case first =>
            by_cases hxn : x = 18446744073709551615
            · subst hxn
              by_cases hzn : z = 18446744073709551615
              · subst hzn
                go_wp2_with fail
                go_meet
                case rel => exact ⟨rfl, rfl⟩
              · have g1 : (z != 18446744073709551615) = true := by simp [hzn]
                have hun : u ≠ 18446744073709551615 := fun h => hnst (.inr ⟨hzn, h⟩)
                have g2 : (u == 18446744073709551615) = false := by simp [hun]
                go_wp2_with fail
                go_meet
                case rel => exact ⟨rfl, rfl⟩
            · have g1 : (x != 18446744073709551615) = true := by simp [hxn]
              have hyn : y ≠ 18446744073709551615 := fun h => hnst (.inl ⟨hxn, h⟩)
              have g2 : (y == 18446744073709551615) = false := by simp [hyn]
              by_cases hzn : z = 18446744073709551615
              · subst hzn
                go_wp2_with fail
                go_meet
                case rel => exact ⟨rfl, rfl⟩
              · have g3 : (z != 18446744073709551615) = true := by simp [hzn]
                have hun : u ≠ 18446744073709551615 := fun h => hnst (.inr ⟨hzn, h⟩)
                have g4 : (u == 18446744073709551615) = false := by simp [hun]
                go_wp2_with fail
                go_meet
                case rel => exact ⟨rfl, rfl⟩
          case rest =>
            obtain ⟨rfl, hwq⟩ := hcut
            subst hwq
            clear hnst hxr hyr hzr hur m0 m1 m2 d1 d2 x1 y1 x2 y2
            go_upto_region 12 with fail
            have X := fun (g : GW wr) => (below_cell (below_on (Below.refl wr.heap.size wr) g.bel) (block_of_cell HXC.out.1)).trans HXC.out.1
            have Y := fun (g : GW wr) => (below_cell (below_on (Below.refl wr.heap.size wr) g.bel) (block_of_cell HXC.out.2.1)).trans HXC.out.2.1
            go_cut [76] from 66 to 75 (fun t wx => t = .bool (decide (M < A)) ∧ Below wr.heap.size wr wx)
            case first =>
              refine wp_region_gw (by kernel_rfl) (by kernel_rfl) ?_
              repeat (go_big_quiet_step (first
                | (go_at_call 68; exact gw_of (HA1.out _))
                | rfl))
              refine wpQuiet_nil ?_
              intro _ hw'
              obtain ⟨g, hw''⟩ := hw'
              subst hw''
              go_wp2_with fail
              go_meet
              case rel => exact ⟨rfl, g.bel⟩
            case rest =>
              obtain ⟨rfl, hb⟩ := hcut
              obtain ⟨W1, hW1⟩ : ∃ W1, W1 = wc := ⟨_, rfl⟩
              rw [← hW1] at hb ⊢
              have HL := hide hb
              clear hW1 hb X Y
              by_cases hA : M < A
              · rw [decide_eq_true hA]
                have X := fun (g : GW W1) => (below_cell (below_on HL.out g.bel) (block_of_cell HXC.out.1)).trans HXC.out.1
                have Y := fun (g : GW W1) => (below_cell (below_on HL.out g.bel) (block_of_cell HXC.out.2.1)).trans HXC.out.2.1
                go_upto_region 13 with fail
                go_cut [11] from 77 to 85 (fun t wx => t = .int .u64 A ∧ Below W1.heap.size W1 wx)
                case first =>
                  refine wp_region_gw (by kernel_rfl) (by kernel_rfl) ?_
                  repeat (go_big_quiet_step (first
                    | (go_at_call 68; exact gw_of (HA1.out _))
                    | rfl))
                  refine wpQuiet_nil ?_
                  intro _ hw'
                  obtain ⟨g, hw''⟩ := hw'
                  subst hw''
                  go_wp2_with fail
                  go_meet
                  case rel => exact ⟨rfl, g.bel⟩
                case rest =>
                  obtain ⟨rfl, hb⟩ := hcut
                  obtain ⟨W2, hW2⟩ : ∃ W2, W2 = wc := ⟨_, rfl⟩
                  rw [← hW2] at hb ⊢
                  have HLL := hide (below_on HL.out hb)
                  clear hW2 hb X Y
                  have Za := fun (g : GW W2) => (below_cell (below_on HLL.out g.bel) (block_of_cell HXC.out.2.2.1)).trans HXC.out.2.2.1
                  have Va := fun (g : GW W2) => (below_cell (below_on HLL.out g.bel) (block_of_cell HXC.out.2.2.2)).trans HXC.out.2.2.2
                  go_upto_region 14 with fail
                  go_cut [96] from 86 to 95 (fun t wx => t = .bool (decide (A < B)) ∧ Below W2.heap.size W2 wx)
                  case first =>
                    refine wp_region_gw (by kernel_rfl) (by kernel_rfl) ?_
                    repeat (go_big_quiet_step (first
                      | (go_at_call 68; exact gw_of (HA2.out _))
                      | rfl))
                    refine wpQuiet_nil ?_
                    intro _ hw'
                    obtain ⟨g, hw''⟩ := hw'
                    subst hw''
                    go_wp2_with fail
                    go_meet
                    case rel => exact ⟨rfl, g.bel⟩
                  case rest =>
                    obtain ⟨rfl, hb⟩ := hcut
                    obtain ⟨Ua, hU⟩ : ∃ Ua, Ua = wc := ⟨_, rfl⟩
                    rw [← hU] at hb ⊢
                    have HLa := hide (below_on HLL.out hb)
                    clear hU hb Za Va
                    by_cases hB : A < B
                    · rw [decide_eq_true hB]
                      have Za := fun (g : GW Ua) => (below_cell (below_on HLa.out g.bel) (block_of_cell HXC.out.2.2.1)).trans HXC.out.2.2.1
                      have Va := fun (g : GW Ua) => (below_cell (below_on HLa.out g.bel) (block_of_cell HXC.out.2.2.2)).trans HXC.out.2.2.2
                      go_upto_region 15 with fail
                      refine wp_region_gw (by kernel_rfl) (by kernel_rfl) ?_
                      repeat (go_big_quiet_step (first
                        | (go_at_call 68; exact gw_of (HA2.out _))
                        | rfl))
                      refine wpQuiet_nil ?_
                      intro _ hw'
                      obtain ⟨g, hw''⟩ := hw'
                      subst hw''
                      have HEa := hide (below_on HLa.out g.bel)
                      clear Za Va
                      go_wp2
                      exact ⟨⟨i + 1, hlt, by simp, by rw [HBS.out, Int.max_eq_right (Int.le_of_lt hA), Int.max_eq_right (Int.le_of_lt hB)], HN2.out, below_on HH.out.2 HEa.out⟩, mdecD hlt⟩
                    · rw [decide_eq_false hB]
                      go_wp2
                      exact ⟨⟨i + 1, hlt, by simp, by rw [HBS.out, Int.max_eq_right (Int.le_of_lt hA), Int.max_eq_left (Int.not_lt.1 hB)], HN2.out, below_on HH.out.2 HLa.out⟩, mdecD hlt⟩
              · rw [decide_eq_false hA]
                have Zb := fun (g : GW W1) => (below_cell (below_on HL.out g.bel) (block_of_cell HXC.out.2.2.1)).trans HXC.out.2.2.1
                have Vb := fun (g : GW W1) => (below_cell (below_on HL.out g.bel) (block_of_cell HXC.out.2.2.2)).trans HXC.out.2.2.2
                go_upto_region 14 with fail
                go_cut [96] from 86 to 95 (fun t wx => t = .bool (decide (M < B)) ∧ Below W1.heap.size W1 wx)
                case first =>
                  refine wp_region_gw (by kernel_rfl) (by kernel_rfl) ?_
                  repeat (go_big_quiet_step (first
                    | (go_at_call 68; exact gw_of (HA2.out _))
                    | rfl))
                  refine wpQuiet_nil ?_
                  intro _ hw'
                  obtain ⟨g, hw''⟩ := hw'
                  subst hw''
                  go_wp2_with fail
                  go_meet
                  case rel => exact ⟨rfl, g.bel⟩
                case rest =>
                  obtain ⟨rfl, hb⟩ := hcut
                  obtain ⟨Ub, hU⟩ : ∃ Ub, Ub = wc := ⟨_, rfl⟩
                  rw [← hU] at hb ⊢
                  have HLb := hide (below_on HL.out hb)
                  clear hU hb Zb Vb
                  by_cases hB : M < B
                  · rw [decide_eq_true hB]
                    have Zb := fun (g : GW Ub) => (below_cell (below_on HLb.out g.bel) (block_of_cell HXC.out.2.2.1)).trans HXC.out.2.2.1
                    have Vb := fun (g : GW Ub) => (below_cell (below_on HLb.out g.bel) (block_of_cell HXC.out.2.2.2)).trans HXC.out.2.2.2
                    go_upto_region 15 with fail
                    refine wp_region_gw (by kernel_rfl) (by kernel_rfl) ?_
                    repeat (go_big_quiet_step (first
                      | (go_at_call 68; exact gw_of (HA2.out _))
                      | rfl))
                    refine wpQuiet_nil ?_
                    intro _ hw'
                    obtain ⟨g, hw''⟩ := hw'
                    subst hw''
                    have HEb := hide (below_on HLb.out g.bel)
                    clear Zb Vb
                    go_wp2
                    exact ⟨⟨i + 1, hlt, by simp, by rw [HBS.out, Int.max_eq_left (Int.not_lt.1 hA), Int.max_eq_right (Int.le_of_lt hB)], HN2.out, below_on HH.out.2 HEb.out⟩, mdecD hlt⟩
                  · rw [decide_eq_false hB]
                    go_wp2
                    exact ⟨⟨i + 1, hlt, by simp, by rw [HBS.out, Int.max_eq_left (Int.not_lt.1 hA), Int.max_eq_left (Int.not_lt.1 hB)], HN2.out, below_on HH.out.2 HLb.out⟩, mdecD hlt⟩
      · obtain rfl : i = p := by omega
        have HFN := hide (HEND.out wr _ HH.out.2 (.inr ⟨HH.out.1, rfl⟩))
        go_wp2
        go_ret2
        exact ⟨_, _, rfl, HFN.out⟩
  · have HFN : Hid (BnQ N st tl wt at' fr ts f t 0 e' ∧ Below w.heap.size w w2) := ⟨.inl ⟨HLO.out, he, rfl⟩, HB2.out⟩
    go_wp2
    go_ret2
    exact ⟨0, e', rfl, HFN.out⟩
end Go.Proofs.Ytehlciejhegndaa

/- SeekBounds: seek.Bound; the walk. -/
namespace Go.Proofs.Ytehlciejhegndaa
open Go.RowKit Go.Lib
set_option linter.unusedVariables false
set_option linter.unusedSimpArgs false
set_option maxRecDepth 100000 in
set_option maxHeartbeats 4000000 in
theorem bnd_any (N : Int) (va vb vc : Value) (st tl wt : List Int) (v0 v1 v2 : Value) (at' : List Int) (fr ts : List (List Int)) (f t : Int) (w : World) (hg : GIs w N va vb vc st tl wt) (hst : st.length ≤ 17592186044416) (hto : tl.length ≤ 17592186044416) (hwt : wt.length ≤ 17592186044416) (hwb : ∀ e, 0 ≤ at_ wt e ∧ at_ wt e ≤ 18446744073709551615) (hm : MkI w v0 v1 v2 at' fr ts)
    (hrF : ∀ i v, 0 ≤ at_ (rowL fr i) v ∧ at_ (rowL fr i) v ≤ Nev) (hrT : ∀ i v, 0 ≤ at_ (rowL ts i) v ∧ at_ (rowL ts i) v ≤ Nev) :
    Calls Try.prog 32 #[gAgg N va vb vc, mAgg v0 v1 v2, .int .i64 f, .int .i64 t] w fun e w' => ∃ x e', e = .returned (.tuple #[.int .u64 x, .int .i64 e']) ∧ BnR N st tl wt at' fr ts f t x e' ∧ Below w.heap.size w w' := by
  obtain ⟨ao, ca, rfl⟩ := hm.a.shape
  obtain ⟨bo, cb, rfl⟩ := hm.f.shape
  obtain ⟨co, cc, rfl⟩ := hm.t.shape
  obtain ⟨sa, da, rfl⟩ := hg.s.shape
  obtain ⟨sb, db, rfl⟩ := hg.t.shape
  obtain ⟨sc, dc, rfl⟩ := hg.u.shape
  obtain ⟨W, hW⟩ : ∃ W, W = (w.alloc (.cells #[.int .i64 N, .slice sa st.length da, .slice sb tl.length db, .slice sc wt.length dc] 25)).alloc (.cells #[.slice ao at'.length ca, .slice bo fr.length cb, .slice co ts.length cc] 41) := ⟨_, rfl⟩
  obtain ⟨hA, hB, hbW⟩ := two_box w N _ _ _ _ _ _ W hW
  have HC := hide (lookO_any N (.slice sa st.length da) (.slice sb tl.length db) (.slice sc wt.length dc) st tl wt (.slice ao at'.length ca) (.slice bo fr.length cb) (.slice co ts.length cc) at' fr ts f t W (hg.below hbW) hst hto hwt hwb (hm.below hbW) hrF hrT)
  have HD : Hid (∀ X (hb : Below w.heap.size w X) (n a b : Nat), MkOk n at' fr ts → a < n → b < n → Calls Try.prog 66 #[mAgg (.slice ao at'.length ca) (.slice bo fr.length cb) (.slice co ts.length cc), .int .i64 a, .int .i64 b] X fun e w' => ∃ x, e = .returned (.int .u64 x) ∧ BdA fr ts a b at'.length x ∧ Below X.heap.size X w') := fun X hb n a b hk ha hb' => bound_any n a b _ _ _ at' fr ts X (hm.below hb) hk.1 hk.2.1 hk.2.2.1 (fun i hi => (hk.2.2.2 i hi).1) (fun i hi => (hk.2.2.2 i hi).2) ha hb' hrF hrT
  have c0 := cell_of hA (i := 0) rfl; have c1 := cell_of hA (i := 1) rfl; have c2 := cell_of hA (i := 2) rfl; have c3 := cell_of hA (i := 3) rfl
  have m0 := cell_of hB (i := 0) rfl; have m1 := cell_of hB (i := 1) rfl; have m2 := cell_of hB (i := 2) rfl
  have HBW := hide hbW; have HB := hide hB
  unfold gAgg at HC ⊢
  unfold mAgg at HC HD ⊢
  clear hA hB hbW hg hm hwb hrF hrT
  rw [hW] at c0 c1 c2 c3 m0 m1 m2
  go_enter Try.func32, Try.ntmps32
  go_wp2_with fail
  rw [← hW]
  clear hW c0 c1 c2 c3 m0 m1 m2
  refine HC.out.mono ?_
  rintro e w2 ⟨e', rfl, hlo, hb2⟩
  have q2 := (hb2.block _ (lt_of_heap HB.out)).trans HB.out
  have HB2 := hide (below_on HBW.out hb2); have HLO := hide hlo
  have m0 := cell_of q2 (i := 0) rfl; have m1 := cell_of q2 (i := 1) rfl; have m2 := cell_of q2 (i := 2) rfl
  clear hb2 q2 HC HB HBW hlo
  by_cases he : e' = 0
  · subst he
    obtain ⟨hk0, hvf, hvt, ci, hcq⟩ := HLO.out.vtx
    obtain ⟨n, hN, _⟩ := chk_good hk0
    have hok := hcq.ok hN
    obtain ⟨f', hf'⟩ : ∃ f' : Nat, f = (f' : Int) := ⟨f.toNat, by have := hvf.1; omega⟩
    obtain ⟨t', ht'⟩ : ∃ t' : Nat, t = (t' : Int) := ⟨t.toNat, by have := hvt.1; omega⟩
    subst hf' ht'
    have HE := hide (HD.out w2 HB2.out n f' t' hok (by have := hvf.2; omega) (by have := hvt.2; omega))
    clear hk0 hvf hvt hcq hN hok HD
    go_wp2_with fail
    clear m0 m1 m2
    refine HE.out.mono ?_
    rintro e w3 ⟨x, rfl, hbd, hb3⟩
    have HFN : Hid (BnR N st tl wt at' fr ts f' t' x 0 ∧ Below w.heap.size w w3) := ⟨.inr ⟨HLO.out, rfl, f', t', rfl, rfl, hbd⟩, below_on HB2.out hb3⟩
    clear hbd hb3
    go_wp2
    go_ret2
    exact ⟨x, 0, rfl, HFN.out⟩
  · have HFN : Hid (BnR N st tl wt at' fr ts f t 0 e' ∧ Below w.heap.size w w2) := ⟨.inl ⟨HLO.out, he, rfl⟩, HB2.out⟩
    clear m0 m1 m2
    go_wp2
    go_ret2
    exact ⟨0, e', rfl, HFN.out⟩
set_option maxRecDepth 100000 in
set_option maxHeartbeats 8000000 in
theorem bounds_law (f t : Int) (N : Int) (va vb vc : Value) (st tl wt : List Int) (v0 v1 v2 : Value) (at' : List Int) (fr ts : List (List Int)) (w : World) (hg : GIs w N va vb vc st tl wt) (hst : st.length * 8 ≤ 140737488351232) (hto : tl.length * 8 ≤ 140737488351232) (hwt : wt.length * 8 ≤ 140737488351232) (hwb : ∀ e, 0 ≤ at_ wt e ∧ at_ wt e ≤ 18446744073709551615) (hm : MkI w v0 v1 v2 at' fr ts) (hmb : MkB at' fr ts)
    (hrF : ∀ i v, 0 ≤ at_ (rowL fr i) v ∧ at_ (rowL fr i) v ≤ Nev) (hrT : ∀ i v, 0 ≤ at_ (rowL ts i) v ∧ at_ (rowL ts i) v ≤ Nev) :
    Calls Try.prog 8 #[gAgg N va vb vc, mAgg v0 v1 v2, .int .i64 f, .int .i64 t] w fun e w' => e = .returned (.bool true) ∧ Below w.heap.size w w' := by
  obtain ⟨ao, ca, rfl⟩ := hm.a.shape
  obtain ⟨bo, cb, rfl⟩ := hm.f.shape
  obtain ⟨co, cc, rfl⟩ := hm.t.shape
  obtain ⟨sa, da, rfl⟩ := hg.s.shape
  obtain ⟨sb, db, rfl⟩ := hg.t.shape
  obtain ⟨sc, dc, rfl⟩ := hg.u.shape
  have HR := hide (fun W (hb : Below w.heap.size w W) => rbound_any N (.slice sa st.length da) (.slice sb tl.length db) (.slice sc wt.length dc) st tl wt (.slice ao at'.length ca) (.slice bo fr.length cb) (.slice co ts.length cc) at' fr ts f t W (hg.below hb) (by omega) (by omega) (by omega) hwb (hm.below hb) hrF hrT)
  have HT := hide (fun W (hb : Below w.heap.size w W) => twin_any N (.slice sa st.length da) (.slice sb tl.length db) (.slice sc wt.length dc) st tl wt W (hg.below hb) hst hto hwt)
  have HM := hide (fun W (hb : Below w.heap.size w W) => marks_any (.slice ao at'.length ca) (.slice bo fr.length cb) (.slice co ts.length cc) at' fr ts W (hm.below hb) hmb)
  have HC := hide (fun W g1 c1 g2 c2 g3 c3 g0 c0 G1 C1 G2 C2 (ht : TIs W N g1 c1 g2 c2 g3 c3 st tl wt) (hk : MkM W g0 c0 G1 C1 G2 C2 at' fr ts) => bnd_any N _ _ _ st tl wt _ _ _ at' fr ts f t W ht.gis (by omega) (by omega) (by omega) hwb hk.inc hrF hrT)
  have HK := hide (fun W g1 c1 g2 c2 g3 c3 (hb : Below w.heap.size w W) (ht : TIs W N g1 c1 g2 c2 g3 c3 st tl wt) => twinKept_any N (.slice sa st.length da) (.slice sb tl.length db) (.slice sc wt.length dc) st tl wt g1 c1 g2 c2 g3 c3 W ht (hg.below hb) hst hto hwt)
  have HKM := hide (fun W g0 c0 G1 C1 G2 C2 (hb : Below w.heap.size w W) (hk : MkM W g0 c0 G1 C1 G2 C2 at' fr ts) => marksKept_any g0 c0 G1 C1 G2 C2 (.slice ao at'.length ca) (.slice bo fr.length cb) (.slice co ts.length cc) at' fr ts W hk (hm.below hb) hmb)
  obtain ⟨W, hW⟩ : ∃ W, W = (w.alloc (.cells #[.int .i64 N, .slice sa st.length da, .slice sb tl.length db, .slice sc wt.length dc] 25)).alloc (.cells #[.slice ao at'.length ca, .slice bo fr.length cb, .slice co ts.length cc] 41) := ⟨_, rfl⟩
  obtain ⟨hA, hB, hbW⟩ := two_box w N _ _ _ _ _ _ W hW
  have HA := hide hA; have HB := hide hB; have HBW := hide hbW
  have c0 := cell_of hA (i := 0) rfl; have c1 := cell_of hA (i := 1) rfl; have c2 := cell_of hA (i := 2) rfl; have c3 := cell_of hA (i := 3) rfl
  have m0 := cell_of hB (i := 0) rfl; have m1 := cell_of hB (i := 1) rfl; have m2 := cell_of hB (i := 2) rfl
  unfold tAgg at HT HK
  unfold gAgg at HR HT HC HK ⊢
  unfold mAgg at HR HM HC HKM ⊢
  clear hA hB hbW hg hm hwb hrF hrT
  rw [hW] at c0 c1 c2 c3 m0 m1 m2
  go_enter Try.func8, Try.ntmps8
  go_wp2_with fail
  rw [← hW]
  clear hW c0 c1 c2 c3 m0 m1 m2
  refine (HR.out W HBW.out).mono ?_
  rintro e w2 ⟨xx, jj, rfl, hck, hb2⟩
  have HCQ := hide hck
  have q1 := (hb2.block _ (lt_of_heap HA.out)).trans HA.out
  have q2 := (hb2.block _ (lt_of_heap HB.out)).trans HB.out
  have HB2 := hide (below_on HBW.out hb2); have HQ1 := hide q1; have HQ2 := hide q2
  have c0 := cell_of q1 (i := 0) rfl; have c1 := cell_of q1 (i := 1) rfl; have c2 := cell_of q1 (i := 2) rfl; have c3 := cell_of q1 (i := 3) rfl
  clear hck hb2 q1 q2 HA HB HBW HR
  go_wp2_with fail
  clear c0 c1 c2 c3
  refine (HT.out w2 HB2.out).mono ?_
  rintro e w3 ⟨g1, e1, g2, e2, g3, e3, rfl, hti, hb3⟩
  obtain ⟨w4, hw4⟩ : ∃ w4, w4 = w3.alloc (.cells #[.int .i64 N, .slice (some ⟨g1, 0, none⟩) st.length e1, .slice (some ⟨g2, 0, none⟩) tl.length e2, .slice (some ⟨g3, 0, none⟩) wt.length e3] 25) := ⟨_, rfl⟩
  have hb4 : Below w3.heap.size w3 w4 := by rw [hw4]; exact below_alloc (Below.refl _ _) _
  have hb24 := below_on hb3 hb4
  have HTI := hide (hti.below hb4)
  have q1 := (hb24.block _ (lt_of_heap HQ1.out)).trans HQ1.out
  have q2 := (hb24.block _ (lt_of_heap HQ2.out)).trans HQ2.out
  have q3 : w4.heap[w3.heap.size]? = some (.cells #[.int .i64 N, .slice (some ⟨g1, 0, none⟩) st.length e1, .slice (some ⟨g2, 0, none⟩) tl.length e2, .slice (some ⟨g3, 0, none⟩) wt.length e3] 25 (0, 0)) := by rw [hw4]; exact heap_new _ _
  have HB4 := hide (below_on HB2.out hb24); have HP1 := hide q1; have HP2 := hide q2; have HP3 := hide q3
  have m0 := cell_of q2 (i := 0) rfl; have m1 := cell_of q2 (i := 1) rfl; have m2 := cell_of q2 (i := 2) rfl
  clear hti hb3 hb4 hb24 q1 q2 q3 HQ1 HQ2 HB2 HT
  rw [hw4] at m0 m1 m2
  go_wp2_with fail
  rw [← hw4]
  clear hw4 m0 m1 m2
  refine (HM.out w4 HB4.out).mono ?_
  rintro e w5 ⟨g0, d0, G1, C1, G2, C2, rfl, hmk, hb5⟩
  obtain ⟨w6, hw6⟩ : ∃ w6, w6 = w5.alloc (.cells #[.slice (some ⟨g0, 0, none⟩) at'.length d0, .slice (some ⟨G1, 0, none⟩) fr.length C1, .slice (some ⟨G2, 0, none⟩) ts.length C2] 41) := ⟨_, rfl⟩
  have hb6 : Below w5.heap.size w5 w6 := by rw [hw6]; exact below_alloc (Below.refl _ _) _
  have hb46 := below_on hb5 hb6
  have HMK := hide (hmk.below hb6)
  have HTK := hide (HTI.out.below hb46)
  have q1 := (hb46.block _ (lt_of_heap HP1.out)).trans HP1.out
  have q2 := (hb46.block _ (lt_of_heap HP2.out)).trans HP2.out
  have q3 := (hb46.block _ (lt_of_heap HP3.out)).trans HP3.out
  have q4 : w6.heap[w5.heap.size]? = some (.cells #[.slice (some ⟨g0, 0, none⟩) at'.length d0, .slice (some ⟨G1, 0, none⟩) fr.length C1, .slice (some ⟨G2, 0, none⟩) ts.length C2] 41 (0, 0)) := by rw [hw6]; exact heap_new _ _
  have HB6 := hide (below_on HB4.out hb46); have HS1 := hide q1; have HS2 := hide q2; have HS3 := hide q3; have HS4 := hide q4
  have t0 := cell_of q3 (i := 0) rfl; have t1 := cell_of q3 (i := 1) rfl; have t2 := cell_of q3 (i := 2) rfl; have t3 := cell_of q3 (i := 3) rfl
  have k0 := cell_of q4 (i := 0) rfl; have k1 := cell_of q4 (i := 1) rfl; have k2 := cell_of q4 (i := 2) rfl
  clear hmk hb5 hb6 hb46 q1 q2 q3 q4 HP1 HP2 HP3 HTI HB4 HM
  rw [hw6] at t0 t1 t2 t3 k0 k1 k2
  go_wp2_with fail
  rw [← hw6]
  clear hw6 t0 t1 t2 t3 k0 k1 k2
  refine (HC.out w6 _ _ _ _ _ _ _ _ _ _ _ _ HTK.out HMK.out).mono ?_
  rintro e w7 ⟨x', e', rfl, hcr, hb7⟩
  obtain ⟨rfl, rfl⟩ := hcr.two HCQ.out
  have q1 := (hb7.block _ (lt_of_heap HS1.out)).trans HS1.out
  have q2 := (hb7.block _ (lt_of_heap HS2.out)).trans HS2.out
  have q3 := (hb7.block _ (lt_of_heap HS3.out)).trans HS3.out
  have q4 := (hb7.block _ (lt_of_heap HS4.out)).trans HS4.out
  have HB7 := hide (below_on HB6.out hb7); have HU2 := hide q2; have HU4 := hide q4
  have HT7 := hide (HTK.out.below hb7); have HM7 := hide (HMK.out.below hb7)
  have t0 := cell_of q3 (i := 0) rfl; have t1 := cell_of q3 (i := 1) rfl; have t2 := cell_of q3 (i := 2) rfl; have t3 := cell_of q3 (i := 3) rfl
  have c0 := cell_of q1 (i := 0) rfl; have c1 := cell_of q1 (i := 1) rfl; have c2 := cell_of q1 (i := 2) rfl; have c3 := cell_of q1 (i := 3) rfl
  clear hb7 q1 q2 q3 q4 hcr HCQ HS1 HS2 HS3 HS4 HTK HMK HB6 HC
  go_wp2_with fail
  clear t0 t1 t2 t3 c0 c1 c2 c3
  refine (HK.out w7 _ _ _ _ _ _ HB7.out HT7.out).mono ?_
  rintro e w8 ⟨rfl, hb8⟩
  have q2 := (hb8.block _ (lt_of_heap HU2.out)).trans HU2.out
  have q4 := (hb8.block _ (lt_of_heap HU4.out)).trans HU4.out
  have HB8 := hide (below_on HB7.out hb8); have HM8 := hide (HM7.out.below hb8)
  have m0 := cell_of q2 (i := 0) rfl; have m1 := cell_of q2 (i := 1) rfl; have m2 := cell_of q2 (i := 2) rfl
  have k0 := cell_of q4 (i := 0) rfl; have k1 := cell_of q4 (i := 1) rfl; have k2 := cell_of q4 (i := 2) rfl
  clear hb8 q2 q4 HU2 HU4 HT7 HM7 HB7 HK
  go_wp2_with fail
  clear m0 m1 m2 k0 k1 k2
  refine (HKM.out w8 _ _ _ _ _ _ HB8.out HM8.out).mono ?_
  rintro e w9 ⟨rfl, hb9⟩
  have HB9 := hide (below_on HB8.out hb9)
  clear hb9
  go_wp2
  go_ret
  exact ⟨rfl, HB9.out⟩
end Go.Proofs.Ytehlciejhegndaa
