import Derived.Test.YtehlciejhegndaaLbK
import Derived.Test.YtehlciejhegndaaRwM
import Derived.Deep.Slices
import Derived.SizedLaws
import Derived.ProofKit
import Derived.OpenShut
/- SeekChecks: the walk. -/
namespace Go.Proofs.Ytehlciejhegndaa
open Go.RowKit Go.Lib
set_option linter.unusedVariables false
set_option linter.unusedSimpArgs false
theorem ck_all (N : Int) (va vb vc : Value) (st tl wt : List Int) (v0 v1 v2 : Value) (at' : List Int) (fr ts : List (List Int)) (w : World) (hg : GIs w N va vb vc st tl wt) (hst : st.length ≤ 17592186044416) (hto : tl.length ≤ 17592186044416) (hwt : wt.length ≤ 17592186044416) (hwb : ∀ e, 0 ≤ at_ wt e ∧ at_ wt e ≤ 18446744073709551615) (hm : MkI w v0 v1 v2 at' fr ts)
    (hrF : ∀ i v, 0 ≤ at_ (rowL fr i) v ∧ at_ (rowL fr i) v ≤ Nev) (hrT : ∀ i v, 0 ≤ at_ (rowL ts i) v ∧ at_ (rowL ts i) v ≤ Nev) :
    Calls Try.prog 30 #[gAgg N va vb vc, mAgg v0 v1 v2] w (CkP w N st tl wt at' fr ts) := by
  by_cases hbad : (chk N st tl wt).1 ≠ 0 ∨ ¬ (fr.length = at'.length ∧ ts.length = at'.length) ∨ 64 < at'.length
  · exact ck_bad N va vb vc st tl wt v0 v1 v2 at' fr ts w hg hst hto hwt hm hbad
  · have h1 : (chk N st tl wt).1 = 0 := Classical.byContradiction fun h => hbad (.inl h)
    have h2 : fr.length = at'.length ∧ ts.length = at'.length := Classical.byContradiction fun h => hbad (.inr (.inl h))
    have h3 : at'.length ≤ 64 := Nat.le_of_not_lt fun h => hbad (.inr (.inr h))
    obtain ⟨n, rfl, hgd⟩ := chk_good h1
    exact ck_good n va vb vc st tl wt v0 v1 v2 at' fr ts w hg hgd h1 hwb hm h2.1 h2.2 h3 hrF hrT
theorem rckq_all (N : Int) (va vb vc : Value) (st tl wt : List Int) (v0 v1 v2 : Value) (at' : List Int) (fr ts : List (List Int)) (w : World) (hg : GIs w N va vb vc st tl wt) (hst : st.length ≤ 17592186044416) (hto : tl.length ≤ 17592186044416) (hwt : wt.length ≤ 17592186044416) (hwb : ∀ e, 0 ≤ at_ wt e ∧ at_ wt e ≤ 18446744073709551615) (hm : MkI w v0 v1 v2 at' fr ts) :
    Calls Try.prog 28 #[gAgg N va vb vc, mAgg v0 v1 v2] w (CkQP w N st tl wt at' fr ts) := by
  by_cases hbad : (chk N st tl wt).1 ≠ 0 ∨ ¬ (fr.length = at'.length ∧ ts.length = at'.length) ∨ 64 < at'.length
  · exact rckq_bad N va vb vc st tl wt v0 v1 v2 at' fr ts w hg hst hto hwt hm hbad
  · have h1 : (chk N st tl wt).1 = 0 := Classical.byContradiction fun h => hbad (.inl h)
    have h2 : fr.length = at'.length ∧ ts.length = at'.length := Classical.byContradiction fun h => hbad (.inr (.inl h))
    have h3 : at'.length ≤ 64 := Nat.le_of_not_lt fun h => hbad (.inr (.inr h))
    obtain ⟨n, rfl, hgd⟩ := chk_good h1
    exact rckq_good n va vb vc st tl wt v0 v1 v2 at' fr ts w hg hgd h1 hwb hm h2.1 h2.2 h3
set_option maxRecDepth 100000 in
set_option maxHeartbeats 8000000 in
theorem checks_law (N : Int) (va vb vc : Value) (st tl wt : List Int) (v0 v1 v2 : Value) (at' : List Int) (fr ts : List (List Int)) (w : World) (hg : GIs w N va vb vc st tl wt) (hst : st.length * 8 ≤ 140737488351232) (hto : tl.length * 8 ≤ 140737488351232) (hwt : wt.length * 8 ≤ 140737488351232) (hwb : ∀ e, 0 ≤ at_ wt e ∧ at_ wt e ≤ 18446744073709551615) (hm : MkI w v0 v1 v2 at' fr ts) (hmb : MkB at' fr ts)
    (hrF : ∀ i v, 0 ≤ at_ (rowL fr i) v ∧ at_ (rowL fr i) v ≤ Nev) (hrT : ∀ i v, 0 ≤ at_ (rowL ts i) v ∧ at_ (rowL ts i) v ≤ Nev) :
    Calls Try.prog 6 #[gAgg N va vb vc, mAgg v0 v1 v2] w fun e w' => e = .returned (.bool true) ∧ Below w.heap.size w w' := by
  obtain ⟨ao, ca, rfl⟩ := hm.a.shape
  obtain ⟨bo, cb, rfl⟩ := hm.f.shape
  obtain ⟨co, cc, rfl⟩ := hm.t.shape
  obtain ⟨sa, da, rfl⟩ := hg.s.shape
  obtain ⟨sb, db, rfl⟩ := hg.t.shape
  obtain ⟨sc, dc, rfl⟩ := hg.u.shape
  have HR := hide (fun W (hb : Below w.heap.size w W) => rckq_all N (.slice sa st.length da) (.slice sb tl.length db) (.slice sc wt.length dc) st tl wt (.slice ao at'.length ca) (.slice bo fr.length cb) (.slice co ts.length cc) at' fr ts W (hg.below hb) (by omega) (by omega) (by omega) hwb (hm.below hb))
  have HT := hide (fun W (hb : Below w.heap.size w W) => twin_any N (.slice sa st.length da) (.slice sb tl.length db) (.slice sc wt.length dc) st tl wt W (hg.below hb) hst hto hwt)
  have HM := hide (fun W (hb : Below w.heap.size w W) => marks_any (.slice ao at'.length ca) (.slice bo fr.length cb) (.slice co ts.length cc) at' fr ts W (hm.below hb) hmb)
  have HC := hide (fun W g1 c1 g2 c2 g3 c3 g0 c0 G1 C1 G2 C2 (ht : TIs W N g1 c1 g2 c2 g3 c3 st tl wt) (hk : MkM W g0 c0 G1 C1 G2 C2 at' fr ts) => ck_all N _ _ _ st tl wt _ _ _ at' fr ts W ht.gis (by omega) (by omega) (by omega) hwb hk.inc hrF hrT)
  have HK := hide (fun W g1 c1 g2 c2 g3 c3 (hb : Below w.heap.size w W) (ht : TIs W N g1 c1 g2 c2 g3 c3 st tl wt) => twinKept_any N (.slice sa st.length da) (.slice sb tl.length db) (.slice sc wt.length dc) st tl wt g1 c1 g2 c2 g3 c3 W ht (hg.below hb) hst hto hwt)
  have HKM := hide (fun W g0 c0 G1 C1 G2 C2 (hb : Below w.heap.size w W) (hk : MkM W g0 c0 G1 C1 G2 C2 at' fr ts) => marksKept_any g0 c0 G1 C1 G2 C2 (.slice ao at'.length ca) (.slice bo fr.length cb) (.slice co ts.length cc) at' fr ts W hk (hm.below hb) hmb)
  obtain ⟨W, hW⟩ : ∃ W, W = (w.alloc (.cells #[.int .i64 N, .slice sa st.length da, .slice sb tl.length db, .slice sc wt.length dc] 25)).alloc (.cells #[.slice ao at'.length ca, .slice bo fr.length cb, .slice co ts.length cc] 41) := ⟨_, rfl⟩
  obtain ⟨hA, hB, hbW⟩ := two_box w N _ _ _ _ _ _ W hW
  have HA := hide hA; have HB := hide hB; have HBW := hide hbW
  have c0 := cell_of hA (i := 0) rfl; have c1 := cell_of hA (i := 1) rfl; have c2 := cell_of hA (i := 2) rfl; have c3 := cell_of hA (i := 3) rfl
  have m0 := cell_of hB (i := 0) rfl; have m1 := cell_of hB (i := 1) rfl; have m2 := cell_of hB (i := 2) rfl
  unfold tAgg at HT HK
  unfold gAgg at HR HT HC HK ⊢
  unfold mAgg at HR HM HC HKM ⊢
  clear hA hB hbW hg hm hwb hrF hrT
  rw [hW] at c0 c1 c2 c3 m0 m1 m2
  go_enter Try.func6, Try.ntmps6
  go_wp2_with fail
  rw [← hW]
  clear hW c0 c1 c2 c3 m0 m1 m2
  refine (HR.out W HBW.out).mono ?_
  rintro e w2 ⟨f, j, rfl, hck, hb2⟩
  have HCQ := hide hck
  have q1 := (hb2.block _ (lt_of_heap HA.out)).trans HA.out
  have q2 := (hb2.block _ (lt_of_heap HB.out)).trans HB.out
  have HB2 := hide (below_on HBW.out hb2); have HQ1 := hide q1; have HQ2 := hide q2
  have c0 := cell_of q1 (i := 0) rfl; have c1 := cell_of q1 (i := 1) rfl; have c2 := cell_of q1 (i := 2) rfl; have c3 := cell_of q1 (i := 3) rfl
  clear hck hb2 q1 q2 HA HB HBW HR
  go_wp2_with fail
  clear c0 c1 c2 c3
  refine (HT.out w2 HB2.out).mono ?_
  rintro e w3 ⟨g1, e1, g2, e2, g3, e3, rfl, hti, hb3⟩
  obtain ⟨w4, hw4⟩ : ∃ w4, w4 = w3.alloc (.cells #[.int .i64 N, .slice (some ⟨g1, 0, none⟩) st.length e1, .slice (some ⟨g2, 0, none⟩) tl.length e2, .slice (some ⟨g3, 0, none⟩) wt.length e3] 25) := ⟨_, rfl⟩
  have hb4 : Below w3.heap.size w3 w4 := by rw [hw4]; exact below_alloc (Below.refl _ _) _
  have hb24 := below_on hb3 hb4
  have HTI := hide (hti.below hb4)
  have q1 := (hb24.block _ (lt_of_heap HQ1.out)).trans HQ1.out
  have q2 := (hb24.block _ (lt_of_heap HQ2.out)).trans HQ2.out
  have q3 : w4.heap[w3.heap.size]? = some (.cells #[.int .i64 N, .slice (some ⟨g1, 0, none⟩) st.length e1, .slice (some ⟨g2, 0, none⟩) tl.length e2, .slice (some ⟨g3, 0, none⟩) wt.length e3] 25 (0, 0)) := by rw [hw4]; exact heap_new _ _
  have HB4 := hide (below_on HB2.out hb24); have HP1 := hide q1; have HP2 := hide q2; have HP3 := hide q3
  have m0 := cell_of q2 (i := 0) rfl; have m1 := cell_of q2 (i := 1) rfl; have m2 := cell_of q2 (i := 2) rfl
  clear hti hb3 hb4 hb24 q1 q2 q3 HQ1 HQ2 HB2 HT
  rw [hw4] at m0 m1 m2
  go_wp2_with fail
  rw [← hw4]
  clear hw4 m0 m1 m2
  refine (HM.out w4 HB4.out).mono ?_
  rintro e w5 ⟨g0, d0, G1, C1, G2, C2, rfl, hmk, hb5⟩
  obtain ⟨w6, hw6⟩ : ∃ w6, w6 = w5.alloc (.cells #[.slice (some ⟨g0, 0, none⟩) at'.length d0, .slice (some ⟨G1, 0, none⟩) fr.length C1, .slice (some ⟨G2, 0, none⟩) ts.length C2] 41) := ⟨_, rfl⟩
  have hb6 : Below w5.heap.size w5 w6 := by rw [hw6]; exact below_alloc (Below.refl _ _) _
  have hb46 := below_on hb5 hb6
  have HMK := hide (hmk.below hb6)
  have HTK := hide (HTI.out.below hb46)
  have q1 := (hb46.block _ (lt_of_heap HP1.out)).trans HP1.out
  have q2 := (hb46.block _ (lt_of_heap HP2.out)).trans HP2.out
  have q3 := (hb46.block _ (lt_of_heap HP3.out)).trans HP3.out
  have q4 : w6.heap[w5.heap.size]? = some (.cells #[.slice (some ⟨g0, 0, none⟩) at'.length d0, .slice (some ⟨G1, 0, none⟩) fr.length C1, .slice (some ⟨G2, 0, none⟩) ts.length C2] 41 (0, 0)) := by rw [hw6]; exact heap_new _ _
  have HB6 := hide (below_on HB4.out hb46); have HS1 := hide q1; have HS2 := hide q2; have HS3 := hide q3; have HS4 := hide q4
  have t0 := cell_of q3 (i := 0) rfl; have t1 := cell_of q3 (i := 1) rfl; have t2 := cell_of q3 (i := 2) rfl; have t3 := cell_of q3 (i := 3) rfl
  have k0 := cell_of q4 (i := 0) rfl; have k1 := cell_of q4 (i := 1) rfl; have k2 := cell_of q4 (i := 2) rfl
  clear hmk hb5 hb6 hb46 q1 q2 q3 q4 HP1 HP2 HP3 HTI HB4 HM
  rw [hw6] at t0 t1 t2 t3 k0 k1 k2
  go_wp2_with fail
  rw [← hw6]
  clear hw6 t0 t1 t2 t3 k0 k1 k2
  refine (HC.out w6 _ _ _ _ _ _ _ _ _ _ _ _ HTK.out HMK.out).mono ?_
  rintro e w7 ⟨e', i', rfl, hcr, hb7⟩
  obtain ⟨rfl, rfl⟩ := hcr.two HCQ.out
  have q1 := (hb7.block _ (lt_of_heap HS1.out)).trans HS1.out
  have q2 := (hb7.block _ (lt_of_heap HS2.out)).trans HS2.out
  have q3 := (hb7.block _ (lt_of_heap HS3.out)).trans HS3.out
  have q4 := (hb7.block _ (lt_of_heap HS4.out)).trans HS4.out
  have HB7 := hide (below_on HB6.out hb7); have HU2 := hide q2; have HU4 := hide q4
  have HT7 := hide (HTK.out.below hb7); have HM7 := hide (HMK.out.below hb7)
  have t0 := cell_of q3 (i := 0) rfl; have t1 := cell_of q3 (i := 1) rfl; have t2 := cell_of q3 (i := 2) rfl; have t3 := cell_of q3 (i := 3) rfl
  have c0 := cell_of q1 (i := 0) rfl; have c1 := cell_of q1 (i := 1) rfl; have c2 := cell_of q1 (i := 2) rfl; have c3 := cell_of q1 (i := 3) rfl
  clear hb7 q1 q2 q3 q4 hcr HCQ HS1 HS2 HS3 HS4 HTK HMK HB6 HC
  go_wp2_with fail
  clear t0 t1 t2 t3 c0 c1 c2 c3
  refine (HK.out w7 _ _ _ _ _ _ HB7.out HT7.out).mono ?_
  rintro e w8 ⟨rfl, hb8⟩
  have q2 := (hb8.block _ (lt_of_heap HU2.out)).trans HU2.out
  have q4 := (hb8.block _ (lt_of_heap HU4.out)).trans HU4.out
  have HB8 := hide (below_on HB7.out hb8); have HM8 := hide (HM7.out.below hb8)
  have m0 := cell_of q2 (i := 0) rfl; have m1 := cell_of q2 (i := 1) rfl; have m2 := cell_of q2 (i := 2) rfl
  have k0 := cell_of q4 (i := 0) rfl; have k1 := cell_of q4 (i := 1) rfl; have k2 := cell_of q4 (i := 2) rfl
  clear hb8 q2 q4 HU2 HU4 HT7 HM7 HB7 HK
  go_wp2_with fail
  clear m0 m1 m2 k0 k1 k2
  refine (HKM.out w8 _ _ _ _ _ _ HB8.out HM8.out).mono ?_
  rintro e w9 ⟨rfl, hb9⟩
  have HB9 := hide (below_on HB8.out hb9)
  clear hb9
  go_wp2
  go_ret
  exact ⟨rfl, HB9.out⟩
end Go.Proofs.Ytehlciejhegndaa

/- Marks that come in, as they are read. -/
namespace Go.Proofs.Ytehlciejhegndaa
open Go.ChangeShapes Go.WideShapes Go.ChangeAt Go.RowKit Go.Deep
set_option linter.unusedVariables false
theorem Try.c39 : Try.prog.cellsOf 39 = 1 := by kernel_rfl
theorem Try.c41 : Try.prog.cellsOf 41 = 3 := by kernel_rfl
theorem Try.b23 : Try.prog.bytesOf 23 = 24 := by kernel_rfl
theorem weightsAll_mem {H : Type} {P : Program} {e : TypeId} {l : List (DataW H)} {d : DataW H} (hd : d ∈ l) {n : Nat} (hn : n ∈ d.weights P e) : n ∈ DataW.weightsAll P e l := by
  induction l with
  | nil => simp at hd
  | cons x l ih =>
    unfold DataW.weightsAll
    rcases List.mem_cons.1 hd with rfl | h
    · exact List.mem_append.2 (.inl hn)
    · exact List.mem_append.2 (.inr (ih h))
section
variable {H : Type} {enc : TypeId × Value → H} {w : World} {base : Nat} {held : Bool} {fuel : Nat} {cs : List Value} {y : DataW H × List MemPlace}
set_option maxRecDepth 100000 in
theorem open_rows (h : DataW.trod enc Try.prog w 0 (fun _ => true) held fuel 39 cs = some y) : ∃ v ls, cs = [v] ∧ RwsI w v ls ∧ (∀ i, ∀ x ∈ rowL ls i, (Lit.int .u64 x).wf = true) ∧ ∀ M, (∀ n ∈ (y.1).weights Try.prog 39, n ≤ M) → ls.length * 24 ≤ M ∧ ∀ i, i < ls.length → (rowL ls i).length * 8 ≤ M := by
  rcases open_slice1 Try.underlying39 Try.c23 h with ⟨hcs, _⟩ | ⟨a, len, cap, m, n, V, D, Pl, hcs, _, hl, hm, hmm, hx, hel⟩
  · exact ⟨_, [], hcs, ⟨none, 0, rfl, Nat.le_refl _, Nat.zero_le _, fun k hk => absurd hk (Nat.not_lt_zero _)⟩, fun i x hx => by simp [rowL] at hx, fun M _ => ⟨by simp, fun i hi => absurd hi (Nat.not_lt_zero _)⟩⟩
  · simp only [if_true] at hmm
    subst hmm
    have each : ∀ k, k < len → ∃ xs : List Int, RowAt .u64 w (V k) xs ∧ (∀ x ∈ xs, (Lit.int .u64 x).wf = true) ∧ ∀ M, (∀ n ∈ (D k).weights Try.prog 23, n ≤ M) → xs.length * 8 ≤ M := by
      intro k hk
      obtain ⟨v, xs, he, hr, hw, hM⟩ := open_row Try.underlying23 Try.underlying26 Try.c26 (hel k (by omega)).2
      simp only [List.cons.injEq, and_true] at he
      subst he
      rw [Try.b38] at hM
      exact ⟨xs, hr, hw, hM⟩
    obtain ⟨f, hf⟩ := choose_lt (α := List Int) (p := fun k xs => RowAt .u64 w (V k) xs ∧ (∀ x ∈ xs, (Lit.int .u64 x).wf = true) ∧ ∀ M, (∀ n ∈ (D k).weights Try.prog 23, n ≤ M) → xs.length * 8 ≤ M) each
    have hL : ((List.range len).map f).length = len := by simp
    have hA : ∀ k, k < len → rowL ((List.range len).map f) k = f k := fun k hk => by simp [rowL, hk]
    refine ⟨_, (List.range len).map f, hcs, ⟨some a, _, by rw [hL], by rw [hL]; exact hl, by simp only [maxLen] at hm; omega, fun k hk => ?_⟩, fun k x hx => ?_, fun M hM => ⟨?_, fun k hk => ?_⟩⟩
    · rw [hL] at hk
      rw [hA k hk]
      obtain ⟨ab, aq, sp⟩ := a
      have hc := (hel k (by omega)).1
      have hsp := World.cell?_spot (hel 0 (by omega)).1
      simp [Addr.add] at hsp
      subst hsp
      rw [Addr.add_lit] at hc
      exact ⟨ab, aq, V k, rfl, block_of_cell hc, hc, (hf k hk).1⟩
    · by_cases hk : k < len
      · rw [hA k hk] at hx
        exact (hf k hk).2.1 x hx
      · unfold rowL at hx
        rw [List.getElem?_eq_none (by rw [hL]; omega)] at hx
        simp at hx
    · have h1 := hM (len * Try.prog.bytesOf 23 + (m - len) * Try.prog.bytesOf 23) (by
        rw [hx]
        simp only [DataW.weights, Try.underlying39, List.length_map, List.length_range, List.mem_cons]
        left
        rw [Nat.add_mul])
      rw [Try.b23] at h1
      rw [hL]
      omega
    · rw [hL] at hk
      rw [hA k hk]
      refine (hf k hk).2.2 M (fun n hn => hM n ?_)
      rw [hx]
      simp only [DataW.weights, Try.underlying39, List.mem_cons, List.mem_append]
      exact .inr (.inl (weightsAll_mem (d := D k) (List.mem_map.2 ⟨k, List.mem_range.2 hk, rfl⟩) hn))
theorem list3 {l : List Value} {a b c : Value} (h : l.length = 3) (h0 : l[0]? = some a) (h1 : l[1]? = some b) (h2 : l[2]? = some c) : l = [a, b, c] := by
  match l, h with
  | [x, y, z], _ => simp at h0 h1 h2; subst h0 h1 h2; rfl
theorem one_rows {z : Option (DataW H × List MemPlace)} {o : Nat} (hy : z.isSome = true) (h : DataW.trod enc Try.prog w 0 (fun _ => true) held fuel 39 ((cs.drop o).take (Try.prog.cellsOf 39)) = z) :
    ∃ v ls q, cs[o]? = some v ∧ z = some q ∧ RwsI w v ls ∧ (∀ i, ∀ x ∈ rowL ls i, (Lit.int .u64 x).wf = true) ∧ ∀ M, (∀ n ∈ (q.1).weights Try.prog 39, n ≤ M) → ls.length * 24 ≤ M ∧ ∀ i, i < ls.length → (rowL ls i).length * 8 ≤ M := by
  obtain ⟨q, rfl⟩ := Option.isSome_iff_exists.1 hy
  rw [Try.c39] at h
  obtain ⟨v, ls, e1, hr, hw, hM⟩ := open_rows h
  refine ⟨v, ls, q, ?_, rfl, hr, hw, hM⟩
  have e2 : ((cs.drop o).take 1)[0]? = some v := by rw [e1]; rfl
  rw [List.getElem?_take_of_lt (by omega), List.getElem?_drop] at e2
  simpa using e2
end
theorem at_rng {l : List Int} (h : ∀ x ∈ l, (Lit.int .u64 x).wf = true) (v : Nat) : 0 ≤ at_ l v ∧ at_ l v ≤ Nev := by
  unfold at_ Nev
  cases q : l[v]? with
  | none => simp
  | some x =>
    have := Go.bounds_u64 (h x (List.mem_of_getElem? q))
    simp only [Option.getD_some]
    omega
set_option maxRecDepth 100000 in
theorem open_marks {H : Type} {enc : TypeId × Value → H} {base : Nat} {held : Bool} {W : World} {v : Value} {d : DataW H} {p : List MemPlace} (hv : Value.okWide Try.prog W .any base 41 v) (h : DataW.Trod enc Try.prog W 0 (fun _ => true) held 41 v d p)
    (hsz : ∀ n ∈ d.weights Try.prog 41, n ≤ reachBytes) :
    ∃ v0 v1 v2 at' fr ts, v = mAgg v0 v1 v2 ∧ MkI W v0 v1 v2 at' fr ts ∧ MkB at' fr ts ∧ (∀ i v, 0 ≤ at_ (rowL fr i) v ∧ at_ (rowL fr i) v ≤ Nev) ∧ (∀ i v, 0 ≤ at_ (rowL ts i) v ∧ at_ (rowL ts i) v ≤ Nev) := by
  obtain ⟨cs, rfl, hcs⟩ := okWide_struct Try.underlying41 hv
  obtain ⟨fuel, hf⟩ := h
  obtain ⟨xs, n, _, hx, hlen, hxs, hel⟩ := DataW.trod_struct Try.underlying41 hf
  rw [Try.c41] at hlen
  have hxx : ∀ i, i < 3 → (xs[i]?).isSome = true := fun i hi => by rw [List.getElem?_eq_getElem (show i < xs.length by rw [hxs]; exact hi)]; rfl
  obtain ⟨va, st, q1, h1, e1, r1, _, m1⟩ := one_row Try.underlying22 Try.underlying3 Try.c3 Try.c22 (hxx 0 (by omega)) (hel 0 _ rfl)
  obtain ⟨vb, fr, q2, h2, e2, r2, z2, m2⟩ := one_rows (hxx 1 (by omega)) (hel 1 _ rfl)
  obtain ⟨vc, ts, q3, h3, e3, r3, z3, m3⟩ := one_rows (hxx 2 (by omega)) (hel 2 _ rfl)
  have hl := list3 hlen h1 h2 h3
  simp only [Prod.mk.injEq] at hx
  have hw : ∀ (i : Nat) (t : TypeId) (q : DataW H × List MemPlace), ([22, 39, 39] : List TypeId)[i]? = some t → xs[i]? = some q → ∀ k ∈ (q.1).weights Try.prog t, k ≤ reachBytes := by
    intro i t q ht hq k hk
    refine hsz k ?_
    rw [hx.1]
    simp only [DataW.weights, Try.underlying41]
    refine DataW.weights_mem_each (j := i) (t := t) (d := q.1) ?_ ?_ k hk
    · exact ht
    · rw [List.getElem?_map, hq]; rfl
  have b1 := m1 reachBytes (hw 0 22 q1 rfl e1)
  have b2 := m2 reachBytes (hw 1 39 q2 rfl e2)
  have b3 := m3 reachBytes (hw 2 39 q3 rfl e3)
  rw [Try.b3] at b1
  simp only [reachBytes] at b1 b2 b3
  refine ⟨va, vb, vc, st, fr, ts, ?_, ⟨r1, r2, r3⟩, ⟨by omega, by have := b2.1; omega, by have := b3.1; omega, fun i hi => by have := b2.2 i hi; omega, fun i hi => by have := b3.2 i hi; omega⟩, fun i v => at_rng (z2 i) v, fun i v => at_rng (z3 i) v⟩
  unfold mAgg
  congr 1
  have : cs.toList = [va, vb, vc] := by simpa [Value.cells] using hl
  rw [← Array.toList_inj, this]
end Go.Proofs.Ytehlciejhegndaa
