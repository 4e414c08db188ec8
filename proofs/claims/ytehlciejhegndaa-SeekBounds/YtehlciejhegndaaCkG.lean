import Derived.Test.YtehlciejhegndaaRwM
import Derived.Test.YtehlciejhegndaaAd
import Derived.Test.YtehlciejhegndaaChecks
import Derived.BigRegion
import Derived.BigQuiet
import Derived.Test.YtehlciejhegndaaTurnW
import Derived.Deep.Cut
import Derived.Deep.CutRange
/- seek.Check: the arms without a loop. -/
namespace Go.Proofs.Ytehlciejhegndaa
open Go.RowKit Go.Lib
set_option linter.unusedVariables false
set_option linter.unusedSimpArgs false
/-- Two boxes: a graph's and marks'. -/
theorem two_box (w : World) (N : Int) (va vb vc v0 v1 v2 : Value) (W : World) (hW : W = (w.alloc (.cells #[.int .i64 N, va, vb, vc] 25)).alloc (.cells #[v0, v1, v2] 41)) :
    W.heap[w.heap.size]? = some (.cells #[.int .i64 N, va, vb, vc] 25 (0, 0)) ∧ W.heap[w.heap.size + 1]? = some (.cells #[v0, v1, v2] 41 (0, 0)) ∧ Below w.heap.size w W := by
  subst hW
  refine ⟨(Below.heap_alloc _ _ _ (by simp)).trans (heap_new w _), ?_, below_alloc (below_alloc (Below.refl _ _) _) _⟩
  have := heap_new (w.alloc (.cells #[.int .i64 N, va, vb, vc] 25)) (.cells #[v0, v1, v2] 41)
  simpa using this
def CkP (w : World) (N : Int) (st tl wt at' : List Int) (fr ts : List (List Int)) (e : Ending) (w' : World) : Prop := ∃ e' i, e = .returned (.tuple #[.int .i64 e', .int .i64 i]) ∧ CkR N st tl wt at' fr ts e' i ∧ Below w.heap.size w w'
set_option maxRecDepth 100000 in
set_option maxHeartbeats 4000000 in
theorem ck_bad (N : Int) (va vb vc : Value) (st tl wt : List Int) (v0 v1 v2 : Value) (at' : List Int) (fr ts : List (List Int)) (w : World) (hg : GIs w N va vb vc st tl wt) (hst : st.length ≤ 17592186044416) (hto : tl.length ≤ 17592186044416) (hwt : wt.length ≤ 17592186044416) (hm : MkI w v0 v1 v2 at' fr ts)
    (hbad : (chk N st tl wt).1 ≠ 0 ∨ ¬ (fr.length = at'.length ∧ ts.length = at'.length) ∨ 64 < at'.length) :
    Calls Try.prog 30 #[gAgg N va vb vc, mAgg v0 v1 v2] w (CkP w N st tl wt at' fr ts) := by
  obtain ⟨ao, ca, rfl⟩ := hm.a.shape
  obtain ⟨bo, cb, rfl⟩ := hm.f.shape
  obtain ⟨co, cc, rfl⟩ := hm.t.shape
  obtain ⟨sa, da, rfl⟩ := hg.s.shape
  obtain ⟨sb, db, rfl⟩ := hg.t.shape
  obtain ⟨sc, dc, rfl⟩ := hg.u.shape
  obtain ⟨W, hW⟩ : ∃ W, W = (w.alloc (.cells #[.int .i64 N, .slice sa st.length da, .slice sb tl.length db, .slice sc wt.length dc] 25)).alloc (.cells #[.slice ao at'.length ca, .slice bo fr.length cb, .slice co ts.length cc] 41) := ⟨_, rfl⟩
  obtain ⟨hA, hB, hbW⟩ := two_box w N _ _ _ _ _ _ W hW
  have HC := hide (check_all N (.slice sa st.length da) (.slice sb tl.length db) (.slice sc wt.length dc) st tl wt W (hg.below hbW) hst hto hwt)
  obtain ⟨r1, r2, hrr⟩ : ∃ r1 r2, chk N st tl wt = (r1, r2) := ⟨_, _, rfl⟩
  have HR1 := hide (show (chk N st tl wt).1 = r1 by rw [hrr])
  rw [hrr] at HC hbad
  have c0 := cell_of hA (i := 0) rfl; have c1 := cell_of hA (i := 1) rfl; have c2 := cell_of hA (i := 2) rfl; have c3 := cell_of hA (i := 3) rfl
  have HB := hide hB; have HBW := hide hbW
  unfold ChkPost at HC
  unfold gAgg at HC ⊢
  unfold mAgg
  obtain ⟨p, hp⟩ : ∃ p, p = at'.length := ⟨_, rfl⟩
  obtain ⟨q, hq⟩ : ∃ q, q = fr.length := ⟨_, rfl⟩
  obtain ⟨r, hr⟩ : ∃ r, r = ts.length := ⟨_, rfl⟩
  have HP := hide hp; have HQ := hide hq; have HRR := hide hr
  rw [← hp, ← hq, ← hr] at hW HB hbad ⊢
  simp only at hbad
  clear hA hB hbW hg hm hrr hp hq hr
  rw [hW] at c0 c1 c2 c3
  go_enter Try.func30, Try.ntmps30
  go_wp2_with fail
  rw [← hW]
  clear hW c0 c1 c2 c3
  refine HC.out.mono ?_
  rintro e w2 ⟨rfl, hb2⟩
  have q2 := (hb2.block _ (lt_of_heap HB.out)).trans HB.out
  have m0 := cell_of q2 (i := 0) rfl; have m1 := cell_of q2 (i := 1) rfl; have m2 := cell_of q2 (i := 2) rfl
  have HB2 := hide (below_on HBW.out hb2)
  clear hb2 q2
  by_cases h1 : r1 = 0
  · subst h1
    have hbad2 : ¬ (q = p ∧ r = p) ∨ 64 < p := by
      rcases hbad with h | h
      · exact absurd rfl h
      · exact h
    clear hbad
    by_cases hqp : q = p
    · subst hqp
      by_cases hrp : r = q
      · subst hrp
        have h64 : 64 < r := by
          rcases hbad2 with h | h
          · exact absurd ⟨rfl, rfl⟩ h
          · exact h
        have h64i : (64 : Int) < (r : Int) := by omega
        clear hbad2
        go_wp2
        go_ret2
        exact ⟨22, 0, rfl, .inr (.inr (.inl ⟨HR1.out, by rw [← HQ.out, ← HP.out], by rw [← HRR.out, ← HP.out], by rw [← HP.out]; exact h64, rfl, rfl⟩)), HB2.out⟩
      · have hrpi : ¬ (r : Int) = (q : Int) := by omega
        clear hbad2
        go_wp2
        go_ret2
        exact ⟨34, 0, rfl, .inr (.inl ⟨HR1.out, fun h => hrp (by rw [HRR.out, HP.out]; exact h.2), rfl, rfl⟩), HB2.out⟩
    · have hqpi : ¬ (q : Int) = (p : Int) := by omega
      clear hbad2
      go_wp2
      go_ret2
      exact ⟨34, 0, rfl, .inr (.inl ⟨HR1.out, fun h => hqp (by rw [HQ.out, HP.out]; exact h.1), rfl, rfl⟩), HB2.out⟩
  · clear hbad
    go_wp2
    go_ret2
    exact ⟨r1, 0, rfl, .inl ⟨by rw [HR1.out]; exact h1, HR1.out.symm, rfl⟩, HB2.out⟩
set_option maxRecDepth 100000 in
set_option maxHeartbeats 4000000 in
theorem rck_bad (N : Int) (va vb vc : Value) (st tl wt : List Int) (v0 v1 v2 : Value) (at' : List Int) (fr ts : List (List Int)) (w : World) (hg : GIs w N va vb vc st tl wt) (hst : st.length ≤ 17592186044416) (hto : tl.length ≤ 17592186044416) (hwt : wt.length ≤ 17592186044416) (hm : MkI w v0 v1 v2 at' fr ts)
    (hbad : (chk N st tl wt).1 ≠ 0 ∨ ¬ (fr.length = at'.length ∧ ts.length = at'.length) ∨ 64 < at'.length) :
    Calls Try.prog 28 #[gAgg N va vb vc, mAgg v0 v1 v2] w (CkP w N st tl wt at' fr ts) := by
  obtain ⟨ao, ca, rfl⟩ := hm.a.shape
  obtain ⟨bo, cb, rfl⟩ := hm.f.shape
  obtain ⟨co, cc, rfl⟩ := hm.t.shape
  obtain ⟨sa, da, rfl⟩ := hg.s.shape
  obtain ⟨sb, db, rfl⟩ := hg.t.shape
  obtain ⟨sc, dc, rfl⟩ := hg.u.shape
  obtain ⟨W, hW⟩ : ∃ W, W = (w.alloc (.cells #[.int .i64 N, .slice sa st.length da, .slice sb tl.length db, .slice sc wt.length dc] 25)).alloc (.cells #[.slice ao at'.length ca, .slice bo fr.length cb, .slice co ts.length cc] 41) := ⟨_, rfl⟩
  obtain ⟨hA, hB, hbW⟩ := two_box w N _ _ _ _ _ _ W hW
  have HC := hide (refCheck_all N (.slice sa st.length da) (.slice sb tl.length db) (.slice sc wt.length dc) st tl wt W (hg.below hbW) hst hto hwt)
  obtain ⟨r1, r2, hrr⟩ : ∃ r1 r2, chk N st tl wt = (r1, r2) := ⟨_, _, rfl⟩
  have HR1 := hide (show (chk N st tl wt).1 = r1 by rw [hrr])
  rw [hrr] at HC hbad
  have c0 := cell_of hA (i := 0) rfl; have c1 := cell_of hA (i := 1) rfl; have c2 := cell_of hA (i := 2) rfl; have c3 := cell_of hA (i := 3) rfl
  have HB := hide hB; have HBW := hide hbW
  unfold ChkPost at HC
  unfold gAgg at HC ⊢
  unfold mAgg
  obtain ⟨p, hp⟩ : ∃ p, p = at'.length := ⟨_, rfl⟩
  obtain ⟨q, hq⟩ : ∃ q, q = fr.length := ⟨_, rfl⟩
  obtain ⟨r, hr⟩ : ∃ r, r = ts.length := ⟨_, rfl⟩
  have HP := hide hp; have HQ := hide hq; have HRR := hide hr
  rw [← hp, ← hq, ← hr] at hW HB hbad ⊢
  simp only at hbad
  clear hA hB hbW hg hm hrr hp hq hr
  rw [hW] at c0 c1 c2 c3
  go_enter Try.func28, Try.ntmps28
  go_wp2_with fail
  rw [← hW]
  clear hW c0 c1 c2 c3
  refine HC.out.mono ?_
  rintro e w2 ⟨rfl, hb2⟩
  have q2 := (hb2.block _ (lt_of_heap HB.out)).trans HB.out
  have m0 := cell_of q2 (i := 0) rfl; have m1 := cell_of q2 (i := 1) rfl; have m2 := cell_of q2 (i := 2) rfl
  have HB2 := hide (below_on HBW.out hb2)
  clear hb2 q2
  by_cases h1 : r1 = 0
  · subst h1
    have hbad2 : ¬ (q = p ∧ r = p) ∨ 64 < p := by
      rcases hbad with h | h
      · exact absurd rfl h
      · exact h
    clear hbad
    by_cases hqp : q = p
    · subst hqp
      by_cases hrp : r = q
      · subst hrp
        have h64 : 64 < r := by
          rcases hbad2 with h | h
          · exact absurd ⟨rfl, rfl⟩ h
          · exact h
        have h64i : (64 : Int) < (r : Int) := by omega
        clear hbad2
        go_wp2
        go_ret2
        exact ⟨22, 0, rfl, .inr (.inr (.inl ⟨HR1.out, by rw [← HQ.out, ← HP.out], by rw [← HRR.out, ← HP.out], by rw [← HP.out]; exact h64, rfl, rfl⟩)), HB2.out⟩
      · have hrpi : ¬ (r : Int) = (q : Int) := by omega
        clear hbad2
        go_wp2
        go_ret2
        exact ⟨34, 0, rfl, .inr (.inl ⟨HR1.out, fun h => hrp (by rw [HRR.out, HP.out]; exact h.2), rfl, rfl⟩), HB2.out⟩
    · have hqpi : ¬ (q : Int) = (p : Int) := by omega
      clear hbad2
      go_wp2
      go_ret2
      exact ⟨34, 0, rfl, .inr (.inl ⟨HR1.out, fun h => hqp (by rw [HQ.out, HP.out]; exact h.1), rfl, rfl⟩), HB2.out⟩
  · clear hbad
    go_wp2
    go_ret2
    exact ⟨r1, 0, rfl, .inl ⟨by rw [HR1.out]; exact h1, HR1.out.symm, rfl⟩, HB2.out⟩
end Go.Proofs.Ytehlciejhegndaa

/- seek.Check of a graph that is one. -/
namespace Go.Proofs.Ytehlciejhegndaa
open Go.RowKit Go.Lib
set_option linter.unusedVariables false
set_option linter.unusedSimpArgs false
theorem bool_of (p : Prop) : ∃ b : Bool, (b = true ↔ p) := by
  by_cases h : p
  · exact ⟨true, by simp [h]⟩
  · exact ⟨false, by simp [h]⟩
theorem RwsI.at {w : World} {ao : Option Addr} {n c : Nat} {ls : List (List Int)} (h : RwsI w (.slice ao n c) ls) {i : Nat} (hi : i < ls.length) : ∃ g o vo vc, ao = some ⟨g, o, none⟩ ∧ w.cell? ⟨g, o + i, none⟩ = some (.slice vo (rowL ls i).length vc) ∧ RowAt .u64 w (.slice vo (rowL ls i).length vc) (rowL ls i) := by
  obtain ⟨ao', c', he, _, _, h3⟩ := h
  simp only [Value.slice.injEq] at he
  obtain ⟨rfl, _, _⟩ := he
  obtain ⟨g, o, vi, e1, _, e3, e4⟩ := h3 i hi
  obtain ⟨vo, vc, rfl⟩ := e4.shape
  exact ⟨g, o, vo, vc, e1, e3, e4⟩
set_option maxRecDepth 100000 in
set_option maxHeartbeats 8000000 in
theorem ck_good (n : Nat) (va vb vc : Value) (st tl wt : List Int) (v0 v1 v2 : Value) (at' : List Int) (fr ts : List (List Int)) (w : World) (hg : GIs w n va vb vc st tl wt) (hgd : Good n st tl wt) (hchk : (chk n st tl wt).1 = 0) (hwb : ∀ e, 0 ≤ at_ wt e ∧ at_ wt e ≤ 18446744073709551615) (hm : MkI w v0 v1 v2 at' fr ts)
    (hfl : fr.length = at'.length) (htl : ts.length = at'.length) (h64 : at'.length ≤ 64) (hrF : ∀ i v, 0 ≤ at_ (rowL fr i) v ∧ at_ (rowL fr i) v ≤ Nev) (hrT : ∀ i v, 0 ≤ at_ (rowL ts i) v ∧ at_ (rowL ts i) v ≤ Nev) :
    Calls Try.prog 30 #[gAgg n va vb vc, mAgg v0 v1 v2] w (CkP w n st tl wt at' fr ts) := by
  obtain ⟨ao, ca, rfl⟩ := hm.a.shape
  obtain ⟨bo, cb, rfl⟩ := hm.f.shape
  obtain ⟨co, cc, rfl⟩ := hm.t.shape
  obtain ⟨sa, da, rfl⟩ := hg.s.shape
  obtain ⟨sb, db, rfl⟩ := hg.t.shape
  obtain ⟨sc, dc, rfl⟩ := hg.u.shape
  have hn := hgd.n_le
  obtain ⟨W, hW⟩ : ∃ W, W = (w.alloc (.cells #[.int .i64 n, .slice sa st.length da, .slice sb tl.length db, .slice sc wt.length dc] 25)).alloc (.cells #[.slice ao at'.length ca, .slice bo fr.length cb, .slice co ts.length cc] 41) := ⟨_, rfl⟩
  obtain ⟨hA, hB, hbW⟩ := two_box w n _ _ _ _ _ _ W hW
  have HC := hide (check_all n (.slice sa st.length da) (.slice sb tl.length db) (.slice sc wt.length dc) st tl wt W (hg.below hbW) (by have := hgd.s_len; omega) (by have := hgd.m_le; omega) (by have := hgd.w_len; have := hgd.m_le; omega))
  obtain ⟨r1, r2, hrr⟩ : ∃ r1 r2, chk n st tl wt = (r1, r2) := ⟨_, _, rfl⟩
  have HR1 := hide hchk
  rw [hrr] at HC hchk
  simp only at hchk
  subst hchk
  have HT := hide (fun X (h : Below w.heap.size w X) => turn_good n (.slice sa st.length da) (.slice sb tl.length db) (.slice sc wt.length dc) st tl wt X (hg.below h) hgd (fun e => (hwb e).1))
  have HG := hide hg; have HGD := hide hgd; have HWB := hide hwb; have HM := hide hm
  have HRF := hide hrF; have HRT := hide hrT; have HFL := hide hfl; have HTL := hide htl
  have HA := hide hA; have HB := hide hB; have HBW := hide hbW
  have c0 := cell_of hA (i := 0) rfl; have c1 := cell_of hA (i := 1) rfl; have c2 := cell_of hA (i := 2) rfl; have c3 := cell_of hA (i := 3) rfl
  unfold ChkPost at HC
  unfold gAgg at HC HT ⊢
  unfold mAgg
  obtain ⟨p, hp⟩ : ∃ p, p = at'.length := ⟨_, rfl⟩
  have HP := hide hp
  rw [hfl, htl, ← hp] at hW HB ⊢
  rw [← hp] at h64
  clear hg hgd hwb hm hA hB hbW hrr hrF hrT hfl htl hp
  rw [hW] at c0 c1 c2 c3
  go_enter Try.func30, Try.ntmps30
  go_wp2_with fail
  rw [← hW]
  clear hW c0 c1 c2 c3
  refine HC.out.mono ?_
  rintro e w2 ⟨rfl, hb2⟩
  have q1 := (hb2.block _ (lt_of_heap HA.out)).trans HA.out
  have q2 := (hb2.block _ (lt_of_heap HB.out)).trans HB.out
  have HB2 := hide (below_on HBW.out hb2); have HQ1 := hide q1; have HQ2 := hide q2
  have HT2 := hide (HT.out w2 HB2.out)
  have m0 := cell_of q2 (i := 0) rfl; have m1 := cell_of q2 (i := 1) rfl; have m2 := cell_of q2 (i := 2) rfl
  have c0 := cell_of q1 (i := 0) rfl; have c1 := cell_of q1 (i := 1) rfl; have c2 := cell_of q1 (i := 2) rfl; have c3 := cell_of q1 (i := 3) rfl
  have h64i : ¬ (64 : Int) < (p : Int) := by omega
  clear hb2 q1 q2 HA HB HBW HC HT
  go_wp2_with fail
  refine HT2.out.mono ?_
  rintro e w3 ⟨ta, tb, tc, st', tl', wt', rfl, hg3, hgd3, htr, hb3⟩
  obtain ⟨xa, ya, rfl⟩ := hg3.s.shape
  obtain ⟨xb, yb, rfl⟩ := hg3.t.shape
  obtain ⟨xc, yc, rfl⟩ := hg3.u.shape
  obtain ⟨w4, hw4⟩ : ∃ w4, w4 = w3.alloc (.cells #[.int .i64 n, .slice xa st'.length ya, .slice xb tl'.length yb, .slice xc wt'.length yc] 25) := ⟨_, rfl⟩
  have hb4 : Below w3.heap.size w3 w4 := by rw [hw4]; exact below_alloc (Below.refl _ _) _
  have hT4 : w4.heap[w3.heap.size]? = some (.cells #[.int .i64 n, .slice xa st'.length ya, .slice xb tl'.length yb, .slice xc wt'.length yc] 25 (0, 0)) := by rw [hw4]; exact heap_new _ _
  have q1 := (hb4.block _ (by have := lt_of_heap HQ1.out; have := hb3.size; omega)).trans ((hb3.block _ (lt_of_heap HQ1.out)).trans HQ1.out)
  have q2 := (hb4.block _ (by have := lt_of_heap HQ2.out; have := hb3.size; omega)).trans ((hb3.block _ (lt_of_heap HQ2.out)).trans HQ2.out)
  have HB4 := hide (below_on (below_on HB2.out hb3) hb4)
  have HX1 := hide q1; have HX2 := hide q2; have HX3 := hide hT4
  have HG4 := hide (hg3.below hb4); have HGD4 := hide hgd3; have HTR := hide htr
  have x0 := cell_of q2 (i := 0) rfl
  clear hg3 hgd3 htr hb3 hb4 hT4 q1 q2 HT2 m0 m1 m2 c0 c1 c2 c3 HQ1 HQ2 HB2
  rw [hw4] at x0
  unfold gAgg
  go_wp2_with fail
  rw [← hw4]
  clear hw4 x0
  have HCE := hide (fun W (h : Below w4.heap.size w4 W) => And.intro ((h.block _ (lt_of_heap HX1.out)).trans HX1.out) (And.intro ((h.block _ (lt_of_heap HX2.out)).trans HX2.out) ((h.block _ (lt_of_heap HX3.out)).trans HX3.out)))
  have HMI := hide (fun W (h : Below w4.heap.size w4 W) => HM.out.below (below_on HB4.out h))
  have HGI := hide (fun W (h : Below w4.heap.size w4 W) => HG.out.below (below_on HB4.out h))
  have HGT := hide (fun W (h : Below w4.heap.size w4 W) => HG4.out.below h)
  go_loopw [48] (fun t wr => ∃ i : Nat, i ≤ p ∧ t = .int .i64 i ∧ Hid ((∀ q, q < i → LmNo n st tl wt st' tl' wt' (at_ at' q) (rowL fr q) (rowL ts q) 0) ∧ Below w4.heap.size w4 wr)) (fun t _ => p - (RowKit.intOf t).toNat)
  case atStart => exact ⟨0, Nat.zero_le _, rfl, fun q hq => absurd hq (Nat.not_lt_zero _), Below.refl _ _⟩
  case round =>
    obtain ⟨i, hip, rfl, HH⟩ := hrel
    have HEND : Hid (∀ (W : World) e', Below w4.heap.size w4 W → LmNo n st tl wt st' tl' wt' (at_ at' i) (rowL fr i) (rowL ts i) e' → e' ≠ 0 → i < p → CkP w n st tl wt at' fr ts (.returned (.tuple #[.int .i64 e', .int .i64 i])) W) := fun W e' hb h1 h2 h3 => ⟨e', i, rfl, .inr (.inr (.inr ⟨HR1.out, HFL.out, HTL.out, by rw [← HP.out]; exact h64, n, st', tl', wt', rfl, HTR.out, .inl ⟨i, by rw [← HP.out]; exact h3, HH.out.1, h1, h2, rfl⟩⟩)), below_on HB4.out hb⟩
    by_cases hlt : i < p
    · have hii : (i : Int) < (p : Int) := by omega
      obtain ⟨ga, oa, ca', hsa, hca, d0⟩ := (HMI.out wr HH.out.2).a.cellAt i (by rw [← HP.out]; exact hlt)
      simp only [Value.slice.injEq] at hsa
      obtain ⟨rfl, _, rfl⟩ := hsa
      obtain ⟨gf, of_, vo, vc, rfl, d1, hrowF⟩ := (HMI.out wr HH.out.2).f.at (i := i) (by rw [HFL.out, ← HP.out]; exact hlt)
      obtain ⟨gt, ot, uo, uc, rfl, d2, hrowT⟩ := (HMI.out wr HH.out.2).t.at (i := i) (by rw [HTL.out, ← HP.out]; exact hlt)
      obtain ⟨v, hv⟩ : ∃ v, v = at_ at' i := ⟨_, rfl⟩
      have HV := hide hv
      rw [← hv] at d0 HEND
      obtain ⟨e1, e2, e3⟩ := HCE.out wr HH.out.2
      have c0 := cell_of e1 (i := 0) rfl; have c1 := cell_of e1 (i := 1) rfl; have c2 := cell_of e1 (i := 2) rfl; have c3 := cell_of e1 (i := 3) rfl
      have HIV := hide (isVtx_any n (.slice sa st.length da) (.slice sb tl.length db) (.slice sc wt.length dc) v wr)
      have HRWF := hide hrowF; have HRWT := hide hrowT
      have HD1 := hide d1; have HD2 := hide d2
      clear hv hca hrowF hrowT e1 e2 e3 d1 d2
      unfold gAgg at HIV
      go_wp2_with fail
      clear c0 c1 c2 c3 d0
      by_cases hiv : IsV n v
      · have hde : decide (0 ≤ v ∧ v < (n : Int)) = true := decide_eq_true hiv
        rw [hde] at HIV
        refine HIV.out.mono ?_
        rintro e w5 ⟨rfl, hb5⟩
        have HB5 := hide (hb5)
        have HW5 := hide (below_on HH.out.2 hb5)
        obtain ⟨e1, e2, e3⟩ := HCE.out w5 HW5.out
        clear hb5 hde HIV
        go_wp2_with fail
        obtain ⟨la, hla⟩ : ∃ la, la = (rowL fr i).length := ⟨_, rfl⟩
        obtain ⟨lb, hlb⟩ : ∃ lb, lb = (rowL ts i).length := ⟨_, rfl⟩
        have HLA := hide hla; have HLB := hide hlb
        have X1 := fun (x : GW w5) => (below_cell (o := 1) x.bel (lt_of_heap e2)).trans (cell_of e2 (i := 1) rfl)
        have X2 := fun (x : GW w5) => (below_cell (o := 2) x.bel (lt_of_heap e2)).trans (cell_of e2 (i := 2) rfl)
        have X0 := fun (x : GW w5) => (below_cell (o := 0) x.bel (lt_of_heap e1)).trans (cell_of e1 (i := 0) rfl)
        have Y1 : ∀ (x : GW w5), x.world.cell? ⟨gf, of_ + i, none⟩ = some (.slice vo la vc) := fun x => by rw [hla]; exact (below_cell (below_on HB5.out x.bel) (block_of_cell HD1.out)).trans HD1.out
        have Y2 : ∀ (x : GW w5), x.world.cell? ⟨gt, ot + i, none⟩ = some (.slice uo lb uc) := fun x => by rw [hlb]; exact (below_cell (below_on HB5.out x.bel) (block_of_cell HD2.out)).trans HD2.out
        have HE := hide (And.intro e1 (And.intro e2 e3))
        clear e1 e2 e3 hla hlb
        go_cut [59] from 60 to 79 (fun t wx => t = .bool (!(decide (la = n) && decide (lb = n))) ∧ Below w5.heap.size w5 wx)
        case first =>
          by_cases ha : la = n
          · subst ha
            have g1 : ((la : Int) != (la : Int)) = false := by simp
            by_cases hb : lb = la
            · subst hb
              refine wp_region_gw (by kernel_rfl) (by kernel_rfl) ?_
              repeat (go_big_quiet_step (rfl))
              refine wpQuiet_nil ?_
              intro _ hw'
              obtain ⟨x, hw''⟩ := hw'
              subst hw''
              go_wp2_with fail
              go_meet
              case rel => exact ⟨by simp, x.bel⟩
            · have hbi : ¬ (lb : Int) = (la : Int) := by omega
              have g2 : ((lb : Int) != (la : Int)) = true := by simp [hbi]
              refine wp_region_gw (by kernel_rfl) (by kernel_rfl) ?_
              repeat (go_big_quiet_step (rfl))
              refine wpQuiet_nil ?_
              intro _ hw'
              obtain ⟨x, hw''⟩ := hw'
              subst hw''
              go_wp2_with fail
              go_meet
              case rel => exact ⟨by simp [hb], x.bel⟩
          · have hai : ¬ (la : Int) = (n : Int) := by omega
            have g2 : ((la : Int) != (n : Int)) = true := by simp [hai]
            refine wp_region_gw (by kernel_rfl) (by kernel_rfl) ?_
            repeat (go_big_quiet_step (rfl))
            refine wpQuiet_nil ?_
            intro _ hw'
            obtain ⟨x, hw''⟩ := hw'
            subst hw''
            go_wp2_with fail
            go_meet
            case rel => exact ⟨by simp [ha], x.bel⟩
        case rest =>
          obtain ⟨rfl, hb6⟩ := hcut
          have HW6 := hide (below_on HW5.out hb6)
          have HN6 := hide hb6
          clear hb6 X1 X2 X0 Y1 Y2
          by_cases hok : la = n ∧ lb = n
          · obtain ⟨ha, hb⟩ := hok
            have hde : (!(decide (la = n) && decide (lb = n))) = false := by simp [ha, hb]
            rw [hde]
            obtain ⟨f, hvf⟩ : ∃ f : Nat, v = (f : Int) := ⟨v.toNat, by have := hiv.1; omega⟩
            subst hvf
            have hfn : f < n := by have := hiv.2; omega
            obtain ⟨b1, hb1⟩ : ∃ b1 : Bool, (b1 = true ↔ Found n st tl wt 1 (S0 [(f : Int)]) (rowL fr i)) := bool_of _
            obtain ⟨b2, hb2⟩ : ∃ b2 : Bool, (b2 = true ↔ Found n st' tl' wt' 1 (S0 [(f : Int)]) (rowL ts i)) := bool_of _
            have hFl : (rowL fr i).length = n := by rw [← HLA.out]; exact ha
            have hTl : (rowL ts i).length = n := by rw [← HLB.out]; exact hb
            have HRB : Hid (Below wr.heap.size wr wc) := below_on HB5.out HN6.out
            have HA1 := hide (fun (x : GW wc) => areDist_any n (.slice sa st.length da) (.slice sb tl.length db) (.slice sc wt.length dc) st tl wt f (.slice vo (rowL fr i).length vc) (rowL fr i) b1 x.world (HGI.out x.world (below_on HW6.out x.bel)) HGD.out HWB.out hfn (HRWF.out.below (below_on HRB.out x.bel)) hFl (fun v _ => HRF.out i v) hb1)
            have HA2 := hide (fun (x : GW wc) => areDist_any n (.slice xa st'.length ya) (.slice xb tl'.length yb) (.slice xc wt'.length yc) st' tl' wt' f (.slice uo (rowL ts i).length uc) (rowL ts i) b2 x.world (HGT.out x.world (below_on HW6.out x.bel)) HGD4.out HTR.out.wts hfn (HRWT.out.below (below_on HRB.out x.bel)) hTl (fun v _ => HRT.out i v) hb2)
            obtain ⟨e1, e2, e3⟩ := HCE.out wc HW6.out
            have X0 := fun (x : GW wc) => (below_cell (o := 0) x.bel (lt_of_heap e1)).trans (cell_of e1 (i := 0) rfl)
            have X1 := fun (x : GW wc) => (below_cell (o := 1) x.bel (lt_of_heap e1)).trans (cell_of e1 (i := 1) rfl)
            have X2 := fun (x : GW wc) => (below_cell (o := 2) x.bel (lt_of_heap e1)).trans (cell_of e1 (i := 2) rfl)
            have X3 := fun (x : GW wc) => (below_cell (o := 3) x.bel (lt_of_heap e1)).trans (cell_of e1 (i := 3) rfl)
            have Z0 := fun (x : GW wc) => (below_cell (o := 0) x.bel (lt_of_heap e3)).trans (cell_of e3 (i := 0) rfl)
            have Z1 := fun (x : GW wc) => (below_cell (o := 1) x.bel (lt_of_heap e3)).trans (cell_of e3 (i := 1) rfl)
            have Z2 := fun (x : GW wc) => (below_cell (o := 2) x.bel (lt_of_heap e3)).trans (cell_of e3 (i := 2) rfl)
            have Z3 := fun (x : GW wc) => (below_cell (o := 3) x.bel (lt_of_heap e3)).trans (cell_of e3 (i := 3) rfl)
            have M1 := fun (x : GW wc) => (below_cell (o := 1) x.bel (lt_of_heap e2)).trans (cell_of e2 (i := 1) rfl)
            have M2 := fun (x : GW wc) => (below_cell (o := 2) x.bel (lt_of_heap e2)).trans (cell_of e2 (i := 2) rfl)
            have Y1 : ∀ (x : GW wc), x.world.cell? ⟨gf, of_ + i, none⟩ = some (.slice vo (rowL fr i).length vc) := fun x => (below_cell (below_on HRB.out x.bel) (block_of_cell HD1.out)).trans HD1.out
            have Y2 : ∀ (x : GW wc), x.world.cell? ⟨gt, ot + i, none⟩ = some (.slice uo (rowL ts i).length uc) := fun x => (below_cell (below_on HRB.out x.bel) (block_of_cell HD2.out)).trans HD2.out
            have HBB1 := hide hb1; have HBB2 := hide hb2; have HFN := hide (And.intro hFl hTl)
            unfold gAgg at HA1 HA2
            obtain ⟨lf, hlf⟩ : ∃ lf, lf = (rowL fr i).length := ⟨_, rfl⟩
            obtain ⟨lt, hlt2⟩ : ∃ lt, lt = (rowL ts i).length := ⟨_, rfl⟩
            rw [← hlf] at HA1 Y1
            rw [← hlt2] at HA2 Y2
            clear e1 e2 e3 hb1 hb2 hde ha hb hFl hTl hlf hlt2 hfn
            go_wp2_with fail
            go_cut [81] from 82 to 101 (fun t wx => t = .bool (!(b1 && b2)) ∧ Below wc.heap.size wc wx)
            case first =>
              cases b1
              · refine wp_region_gw (by kernel_rfl) (by kernel_rfl) ?_
                repeat (go_big_quiet_step (first
                  | (go_at_call 64; exact gw_of (HA1.out _))
                  | rfl))
                refine wpQuiet_nil ?_
                intro _ hw'
                obtain ⟨x, hw''⟩ := hw'
                subst hw''
                go_wp2_with fail
                go_meet
                case rel => exact ⟨rfl, x.bel⟩
              · cases b2 <;>
                · refine wp_region_gw (by kernel_rfl) (by kernel_rfl) ?_
                  repeat (go_big_quiet_step (first
                    | (go_at_call 64; (with_reducible show Calls _ 64 #[.agg #[_, .slice sa st.length da, _, _], _, _] _ _); exact gw_of (HA1.out _))
                    | (go_at_call 64; (with_reducible show Calls _ 64 #[.agg #[_, .slice xa st'.length ya, _, _], _, _] _ _); exact gw_of (HA2.out _))
                    | rfl))
                  refine wpQuiet_nil ?_
                  intro _ hw'
                  obtain ⟨x, hw''⟩ := hw'
                  subst hw''
                  go_wp2_with fail
                  go_meet
                  case rel => exact ⟨rfl, x.bel⟩
            case rest =>
              obtain ⟨rfl, hb7⟩ := hcut
              have HW7 := hide (below_on HW6.out hb7)
              clear hb7 X0 X1 X2 X3 Z0 Z1 Z2 Z3 M1 M2 Y1 Y2 HA1 HA2
              cases b1
              · have HF := hide (HEND.out wc 53 HW7.out (.inr (.inr (.inl ⟨hiv, HFN.out.1, HFN.out.2, fun h => Bool.noConfusion (HBB1.out.2 h.1), rfl⟩))) (by decide) hlt)
                go_wp2
                go_ret2
                exact HF.out
              · cases b2
                · have HF := hide (HEND.out wc 53 HW7.out (.inr (.inr (.inl ⟨hiv, HFN.out.1, HFN.out.2, fun h => Bool.noConfusion (HBB2.out.2 h.2), rfl⟩))) (by decide) hlt)
                  go_wp2
                  go_ret2
                  exact HF.out
                · have HF : Hid (∀ q, q < i + 1 → LmNo n st tl wt st' tl' wt' (at_ at' q) (rowL fr q) (rowL ts q) 0) := fun q hq => by
                    rcases Nat.lt_or_ge q i with h | h
                    · exact HH.out.1 q h
                    · obtain rfl : q = i := by omega
                      rw [← HV.out]
                      exact .inr (.inr (.inr ⟨hiv, HFN.out.1, HFN.out.2, HBB1.out.1 rfl, HBB2.out.1 rfl, rfl⟩))
                  go_wp2
                  exact ⟨⟨i + 1, hlt, by simp, HF.out, HW7.out⟩, mdec3 hlt⟩
          · have hde : (!(decide (la = n) && decide (lb = n))) = true := by
              by_cases h1 : la = n
              · by_cases h2 : lb = n
                · exact absurd ⟨h1, h2⟩ hok
                · simp [h2]
              · simp [h1]
            rw [hde]
            have HF := hide (HEND.out wc 34 HW6.out (.inr (.inl ⟨hiv, fun h => hok ⟨HLA.out.trans h.1, HLB.out.trans h.2⟩, rfl⟩)) (by decide) hlt)
            clear hde hok
            go_wp2
            go_ret2
            exact HF.out
      · have hde : decide (0 ≤ v ∧ v < (n : Int)) = false := decide_eq_false hiv
        rw [hde] at HIV
        refine HIV.out.mono ?_
        rintro e w5 ⟨rfl, hb5⟩
        have HF := hide (HEND.out w5 30 (below_on HH.out.2 hb5) (.inl ⟨hiv, rfl⟩) (by decide) hlt)
        clear hb5 hde HIV
        go_wp2
        go_ret2
        exact HF.out
    · obtain rfl : i = p := by omega
      have HF : Hid (CkP w n st tl wt at' fr ts (.returned (.tuple #[.int .i64 0, .int .i64 0])) wr) := ⟨0, 0, rfl, .inr (.inr (.inr ⟨HR1.out, HFL.out, HTL.out, by rw [← HP.out]; exact h64, n, st', tl', wt', rfl, HTR.out, .inr ⟨by rw [← HP.out]; exact HH.out.1, rfl, rfl⟩⟩)), below_on HB4.out HH.out.2⟩
      go_wp2
      go_ret2
      exact HF.out
end Go.Proofs.Ytehlciejhegndaa
