import Derived.Test.YthoklgdlnmccmaaProvG
import Derived.Test.YthoklgdlnmccmaaWaysW
/- What Make makes holds: plain. -/
namespace Go.Proofs.Ythoklgdlnmccmaa
open Go.RowKit Go.Lib
set_option linter.unusedVariables false
section
variable {n : Nat} {st tl wt : List Int} {k : Int} {S : List Pr} {V Y D B : List Int}
theorem abP_of {p v : Nat} (h : ∀ e, e < p → abE n st tl wt k V e v = false) : abP n st tl wt k V p v = false := by
  induction p with
  | zero => rfl
  | succ p ih => simp only [abP, Bool.or_eq_false_iff]; exact ⟨ih fun e he => h e (by omega), h p (by omega)⟩
theorem tiP_of {p v e : Nat} (he : e < p) (h : tiE n st tl wt k V Y D e v = true) : tiP n st tl wt k V Y D p v = true := by
  induction p with
  | zero => omega
  | succ p ih =>
    simp only [tiP, Bool.or_eq_true]
    rcases Nat.lt_or_ge e p with h1 | h1
    · exact .inl (ih h1)
    · obtain rfl : e = p := by omega
      exact .inr h
theorem whole_ok (hgd : Good n st tl wt) (hwb : ∀ e, 0 ≤ at_ wt e ∧ at_ wt e ≤ 18446744073709551615) (hSb : ∀ j, j < S.length → 0 ≤ (sAt S j).2 ∧ (sAt S j).2 ≤ 18446744073709551615) (hB : Beg n S B S.length) (hF : Found n st tl wt k S V) (hW : Whole n st tl wt k S V D Y) : ∀ v, v < n → okAt n st tl wt k V Y D B v = true := by
  intro v hvl
  obtain ⟨d, hT, hst⟩ := hW
  have hle : at_ V v ≤ at_ B v := by
    by_cases hb : at_ B v = Nev
    · rw [hb]; exact (hF.rng v hvl).2
    · obtain ⟨i, hi, hs⟩ := hB.att v hvl hb
      obtain ⟨u, hu, h1, h2⟩ := hF.sts i hi
      rw [hs] at h1 h2
      simp only at h1 h2
      have : u = v := by omega
      subst this
      exact h2
  have hab : abP n st tl wt k V tl.length v = false := abP_of fun e he => by
    unfold abE
    refine decide_eq_false fun ⟨h1, h2, h3⟩ => ?_
    have := hF.bell e he
    rw [h1] at this
    omega
  unfold okAt hv
  rw [if_neg (by omega), hab]
  simp only [Bool.false_eq_true, if_false]
  have hde := hT.de v hvl
  have hye := hT.ye v hvl
  have hno := dep_all hgd hwb hSb hF hst hvl
  rcases dep_range (n := n) (st := st) (tl := tl) (wt := wt) (k := k) (S := S) (L := V) d v with h1 | ⟨h1, h2⟩
  · exact absurd h1 hno
  · obtain ⟨t, ht⟩ : ∃ t : Nat, dep n st tl wt k S V d v = (t : Int) := ⟨(dep n st tl wt k S V d v).toNat, by omega⟩
    cases t with
    | zero =>
      obtain ⟨hr, hy⟩ := dep_zero (by simpa using ht)
      rw [if_pos (by rw [hye, hy])]
      refine decide_eq_true ⟨by rw [hde, ht]; rfl, ?_⟩
      rcases hr with hr | ⟨j, hj, hs⟩
      · have := (hB.rng v hvl).2
        rw [hr] at hle ⊢
        omega
      · obtain ⟨u, hu, h3, h4⟩ := hB.sts j hj
        rw [hs] at h3 h4
        simp only at h3 h4
        have : u = v := by omega
        subst this
        omega
    | succ t =>
      obtain ⟨e, he, h3, h4, h5, h6⟩ := dep_edge ht
      rw [if_neg (by rw [hye, h3]; omega)]
      refine tiP_of he ?_
      unfold tiE
      have hs := hT.de _ (src_lt hgd he)
      refine decide_eq_true ⟨h4, h5.1, by rw [hye, h3], by rw [h5.2, h4], by rw [hs, h6]; omega, by rw [hde, ht]; omega, by rw [hde, ht, hs, h6]; omega⟩
/-- One label changed, and it holds no more. -/
theorem not_other (hgd : Good n st tl wt) (hwb : ∀ e, 0 ≤ at_ wt e ∧ at_ wt e ≤ 18446744073709551615) (hSb : ∀ j, j < S.length → 0 ≤ (sAt S j).2 ∧ (sAt S j).2 ≤ 18446744073709551615) (hB : Beg n S B S.length) (hF : Found n st tl wt k S V) {i : Nat} {x : Int} (hi : i < n) (hx : 0 ≤ x ∧ x ≤ 18446744073709551615) (hne : at_ V i ≠ x) : ∃ v, v < n ∧ ckAns (okAt n st tl wt k (V.set i x) Y D B) n = (53, (v : Int)) := by
  have hVb : ∀ v, 0 ≤ at_ V v ∧ at_ V v ≤ 18446744073709551615 := fun v => by
    rcases Nat.lt_or_ge v n with h | h
    · exact hF.rng v h
    · unfold at_; rw [List.getElem?_eq_none (by rw [hF.len]; exact h)]; exact ⟨Int.le_refl _, by decide⟩
  have hsb : ∀ v, 0 ≤ at_ (V.set i x) v ∧ at_ (V.set i x) v ≤ 18446744073709551615 := fun v => by
    rw [at_set _ _ _ _ (by rw [hF.len]; exact hi)]
    split
    · exact hx
    · exact hVb v
  cases hf : first (fun v => !okAt n st tl wt k (V.set i x) Y D B v) n with
  | some v => exact ⟨v, (first_of_some hf).1, by unfold ckAns; rw [hf]⟩
  | none =>
    have hall : ∀ v, v < n → okAt n st tl wt k (V.set i x) Y D B v = true := fun v hv => by
      have := first_none_of hf v hv
      simpa using this
    have h1 := ok_found hgd hB (by rw [List.length_set]; exact hF.len) hsb hall
    have h2 := hF.only h1 hwb hSb
    have h3 := at_set V i i x (by rw [hF.len]; exact hi)
    rw [if_pos rfl, ← h2] at h3
    exact absurd h3 hne
theorem whole_lens (hgd : Good n st tl wt) (hW : Whole n st tl wt k S V D Y) : D.length = n ∧ Y.length = n ∧ ∀ v, at_ D v ≤ 9223372036854775807 := by
  obtain ⟨d, hT, hst⟩ := hW
  refine ⟨hT.dl, hT.yl, fun v => ?_⟩
  rcases Nat.lt_or_ge v n with h | h
  · rw [hT.de v h]
    rcases dep_range (n := n) (st := st) (tl := tl) (wt := wt) (k := k) (S := S) (L := V) d v with h1 | ⟨h1, h2⟩
    · omega
    · obtain ⟨t, ht⟩ : ∃ t : Nat, dep n st tl wt k S V d v = (t : Int) := ⟨(dep n st tl wt k S V d v).toNat, by omega⟩
      have := dep_few hgd h ht
      have := hgd.n_le
      omega
  · unfold at_; rw [List.getElem?_eq_none (by rw [hT.dl]; exact h)]; decide
end
end Go.Proofs.Ythoklgdlnmccmaa

/- VoucherHolds: the walk. -/
namespace Go.Proofs.Ythoklgdlnmccmaa
open Go.RowKit Go.Lib
set_option linter.unusedVariables false
/-- The graph's box, the voucher's box and lists. -/
structure QM (w x : World) (n : Nat) (va vb vc : Value) (Bv G GY GD : Nat) (L Y D : List Int) : Prop where
  bg : x.heap[w.heap.size]? = some (.cells #[.int .i64 n, va, vb, vc] 32 (0, 0))
  bv : x.heap[Bv]? = some (.cells #[.slice (some ⟨G, 0, none⟩) n n, .slice (some ⟨GY, 0, none⟩) n n, .slice (some ⟨GD, 0, none⟩) n n] 103 (0, 0))
  g : ArrU x G L
  y : Arr x GY Y
  d : Arr x GD D
  bel : Below w.heap.size w x
  gl : w.heap.size ≤ G
theorem QM.below {w x x' : World} {n : Nat} {va vb vc : Value} {Bv G GY GD : Nat} {L Y D : List Int} (h : QM w x n va vb vc Bv G GY GD L Y D) (hb : Below x.heap.size x x') : QM w x' n va vb vc Bv G GY GD L Y D :=
  ⟨(hb.block _ (lt_of_heap h.bg)).trans h.bg, (hb.block _ (lt_of_heap h.bv)).trans h.bv, (hb.block _ (lt_of_heap h.g)).trans h.g, (hb.block _ (lt_of_heap h.y)).trans h.y, (hb.block _ (lt_of_heap h.d)).trans h.d, below_on h.bel hb, h.gl⟩
theorem uCells_set (l : List Int) (i : Nat) (x : Int) : (uCells l).setIfInBounds i (.int .u64 x) = uCells (l.set i x) := by simp [uCells, List.map_set]
theorem QM.put {w x : World} {n : Nat} {va vb vc : Value} {Bv G GY GD : Nat} {L Y D : List Int} (h : QM w x n va vb vc Bv G GY GD L Y D) (i : Nat) (z : Int) : QM w (x.setCell ⟨G, i, none⟩ (.int .u64 z)) n va vb vc Bv G GY GD (L.set i z) Y D := by
  have hg := h.g
  have n1 : GY ≠ G := by rintro rfl; have := h.y; unfold Arr at this; unfold ArrU at hg; rw [hg] at this; simp at this
  have n2 : GD ≠ G := by rintro rfl; have := h.d; unfold Arr at this; unfold ArrU at hg; rw [hg] at this; simp at this
  have n3 : w.heap.size ≠ G := by intro e; have := h.bg; unfold ArrU at hg; rw [e, hg] at this; simp at this
  have n4 : Bv ≠ G := by rintro rfl; have := h.bv; unfold ArrU at hg; rw [hg] at this; simp at this
  refine ⟨(Below.heap_setCell _ _ _ _ n3).trans h.bg, (Below.heap_setCell _ _ _ _ n4).trans h.bv, ?_, (Below.heap_setCell _ _ _ _ n1).trans h.y, (Below.heap_setCell _ _ _ _ n2).trans h.d, h.bel.setCell (p := ⟨G, i, none⟩) h.gl _, h.gl⟩
  have := heap_set (i := i) h.g (.int .u64 z)
  rw [uCells_set] at this
  exact this
set_option maxRecDepth 100000 in
set_option maxHeartbeats 8000000 in
theorem holds_bad (N : Int) (va vb vc : Value) (st tl wt : List Int) (k : Int) (sv : Value) (S : List Pr) (at0 z : Int) (w : World) (hg : GIs w N va vb vc st tl wt) (hs : SAt w sv S)
    (hst : st.length ≤ 17592186044416) (hto : tl.length ≤ 17592186044416) (hwt : wt.length ≤ 17592186044416) (hS : S.length * 16 ≤ 140737488353280) (hno : srchNo N st tl wt k S ≠ 0) :
    Calls Try.prog 18 #[gAgg N va vb vc, .int .i64 k, sv, .int .i64 at0, .int .u64 z] w fun e w' => e = .returned (.bool true) ∧ Below w.heap.size w w' := by
  obtain ⟨ao, ca, rfl⟩ := hg.s.shape
  obtain ⟨bo, cb, rfl⟩ := hg.t.shape
  obtain ⟨co, cc, rfl⟩ := hg.u.shape
  obtain ⟨so, sc, rfl, hsc, hscm⟩ := hs.shape
  have HMK := hide (fun W g s => make_bad N (.slice ao st.length ca) (.slice bo tl.length cb) (.slice co wt.length cc) st tl wt k (.slice so S.length sc) S W g hst hto hwt s hS hno)
  have HSE := hide (fun W g s => rsearch_bad N (.slice ao st.length ca) (.slice bo tl.length cb) (.slice co wt.length cc) st tl wt k (.slice so S.length sc) S W g hst hto hwt s hno)
  obtain ⟨x, hx⟩ : ∃ x, x = srchNo N st tl wt k S := ⟨_, rfl⟩
  rw [← hx] at HMK HSE hno
  have HG := hide hg; have HS := hide hs
  have HBG : Hid ((w.alloc (.cells #[.int .i64 N, .slice ao st.length ca, .slice bo tl.length cb, .slice co wt.length cc] 32)).heap[w.heap.size]? = some (.cells #[.int .i64 N, .slice ao st.length ca, .slice bo tl.length cb, .slice co wt.length cc] 32 (0, 0))) := heap_new _ _
  have HB1 : Hid (Below w.heap.size w (w.alloc (.cells #[.int .i64 N, .slice ao st.length ca, .slice bo tl.length cb, .slice co wt.length cc] 32))) := below_alloc (Below.refl _ _) _
  unfold gAgg at *
  clear hg hs hst hto hwt hx hS
  go_enter Try.func18, Try.ntmps18
  go_wp2_with fail
  generalize (w.alloc (.cells #[.int .i64 N, .slice ao st.length ca, .slice bo tl.length cb, .slice co wt.length cc] 32)) = w1 at HBG HB1 ⊢
  refine (heads_any' w1).mono ?_
  rintro e w2 ⟨rfl, hb2⟩
  have HBG2 : Hid (w2.heap[w.heap.size]? = _) := (hb2.block _ (lt_of_heap HBG.out)).trans HBG.out
  have HB2 := hide (below_on HB1.out hb2)
  have c0 := cell_of HBG2.out (i := 0) rfl
  have c1 := cell_of HBG2.out (i := 1) rfl
  have c2 := cell_of HBG2.out (i := 2) rfl
  have c3 := cell_of HBG2.out (i := 3) rfl
  clear hb2 HBG HB1
  go_wp2_with fail
  refine (HMK.out w2 (HG.out.below HB2.out) (HS.out.below HB2.out)).mono ?_
  rintro e w3 ⟨rfl, hb3⟩
  obtain ⟨w4, hw4⟩ : ∃ w4, w4 = w3.alloc (.cells #[.slice none 0 0, .slice none 0 0, .slice none 0 0] 103) := ⟨_, rfl⟩
  have b4 : Below w3.heap.size w3 w4 := by rw [hw4]; exact below_alloc (Below.refl _ _) _
  have HBV : Hid (w4.heap[w3.heap.size]? = some (.cells #[.slice none 0 0, .slice none 0 0, .slice none 0 0] 103 (0, 0))) := by rw [hw4]; exact heap_new _ _
  have b24 := below_on hb3 b4
  have HBG4 : Hid (w4.heap[w.heap.size]? = _) := (b24.block _ (lt_of_heap HBG2.out)).trans HBG2.out
  have HB4 := hide (below_on HB2.out b24)
  have d0 := cell_of HBG4.out (i := 0) rfl
  have d1 := cell_of HBG4.out (i := 1) rfl
  have d2 := cell_of HBG4.out (i := 2) rfl
  have d3 := cell_of HBG4.out (i := 3) rfl
  rw [hw4] at d0 d1 d2 d3
  clear hb3 b4 b24 HBG2 HB2 HMK c0 c1 c2 c3
  go_wp2_with fail
  rw [← hw4] at *
  clear hw4 d0 d1 d2 d3
  refine (HSE.out w4 (HG.out.below HB4.out) (HS.out.below HB4.out)).mono ?_
  rintro e w5 ⟨rfl, hb5⟩
  have HBV5 : Hid (w5.heap[w3.heap.size]? = _) := (hb5.block _ (lt_of_heap HBV.out)).trans HBV.out
  have v0 := cell_of HBV5.out (i := 0) rfl
  have v1 := cell_of HBV5.out (i := 1) rfl
  have v2 := cell_of HBV5.out (i := 2) rfl
  have HB5 := hide (below_on HB4.out hb5)
  clear hb5 HB4 HBV HBG4 HSE
  go_wp2_with (go_at_call 62; refine (no_any _ _).mono ?_; rintro e9 w9 ⟨rfl, h9⟩; obtain rfl := h9.symm)
  go_ret
  exact ⟨rfl, HB5.out⟩
set_option maxRecDepth 100000 in
set_option maxHeartbeats 8000000 in
theorem holds_good (n : Nat) (va vb vc : Value) (st tl wt : List Int) (k : Int) (sv : Value) (S : List Pr) (at0 z : Int) (w : World) (hg : GIs w n va vb vc st tl wt) (hs : SAt w sv S)
    (hgd : Good n st tl wt) (hwb : ∀ e, 0 ≤ at_ wt e ∧ at_ wt e ≤ 18446744073709551615) (hSb : ∀ j, j < S.length → 0 ≤ (sAt S j).2 ∧ (sAt S j).2 ≤ 18446744073709551615) (hS : S.length * 16 ≤ 140737488353280) (hno : srchNo n st tl wt k S = 0) (hz : 0 ≤ z ∧ z ≤ 18446744073709551615) (ha : -9223372036854775808 ≤ at0 ∧ at0 ≤ 9223372036854775807) :
    Calls Try.prog 18 #[gAgg n va vb vc, .int .i64 k, sv, .int .i64 at0, .int .u64 z] w fun e w' => e = .returned (.bool true) ∧ Below w.heap.size w w' := by
  obtain ⟨ao, ca, rfl⟩ := hg.s.shape
  obtain ⟨bo, cb, rfl⟩ := hg.t.shape
  obtain ⟨co, cc, rfl⟩ := hg.u.shape
  obtain ⟨so, sc, rfl, hsc, hscm⟩ := hs.shape
  obtain ⟨F, j, hF, hjn, hse, hrn⟩ := four_good n st tl wt k S hno hgd hwb hSb hS
  obtain ⟨m, hm, _, hsn⟩ := srch_good hno
  obtain rfl : n = m := by omega
  have hok := sok_of hsn (fun j hj => (hSb j hj).1)
  obtain ⟨B, hB⟩ := beg_is hok
  have hn := hgd.n_le
  have hmk : ∀ W, GIs W n (.slice ao st.length ca) (.slice bo tl.length cb) (.slice co wt.length cc) st tl wt → SAt W (.slice so S.length sc) S → Calls Try.prog 59 #[gAgg n (.slice ao st.length ca) (.slice bo tl.length cb) (.slice co wt.length cc), .int .i64 k, .slice so S.length sc] W (fun e w' => ∃ (G GY GD : Nat) (Y D : List Int), e = .returned (.tuple #[.agg #[.slice (some ⟨G, 0, none⟩) n n, .slice (some ⟨GY, 0, none⟩) n n, .slice (some ⟨GD, 0, none⟩) n n], .int .i64 0]) ∧ ArrU w' G F ∧ Arr w' GY Y ∧ Arr w' GD D ∧ Whole n st tl wt k S F D Y ∧ Below W.heap.size W w' ∧ W.heap.size ≤ G) := fun W g s => by
    refine (make_new n (.slice ao st.length ca) (.slice bo tl.length cb) (.slice co wt.length cc) st tl wt k (.slice so S.length sc) S W g hgd hwb s hok hS hno).mono ?_
    rintro e w' ⟨G, GY, GD, L, Y, D, rfl, h1, h2, h3, h4, h5, h6, h7⟩
    obtain rfl := h4.only hF hwb hSb
    exact ⟨G, GY, GD, Y, D, rfl, h1, h2, h3, h5, h6, h7⟩
  have HMK := hide hmk
  have HSE := hide (fun W g s => hse (.slice ao st.length ca) (.slice bo tl.length cb) (.slice co wt.length cc) (.slice so S.length sc) W g s)
  have HTR := hide (fun lv W g s r => tree_good n (.slice ao st.length ca) (.slice bo tl.length cb) (.slice co wt.length cc) st tl wt k (.slice so S.length sc) S lv F W g hno hwb s hSb hS r hF)
  have hFb : ∀ v, 0 ≤ at_ F v ∧ at_ F v ≤ 18446744073709551615 := fun v => by
    rcases Nat.lt_or_ge v n with h | h
    · exact hF.rng v h
    · unfold at_; rw [List.getElem?_eq_none (by rw [hF.len]; exact h)]; exact ⟨Int.le_refl _, by decide⟩
  have HCK := hide (fun l1 l2 l3 V Y D W g s r1 r2 r3 hV hY hD hVb hDb => check_good n (.slice ao st.length ca) (.slice bo tl.length cb) (.slice co wt.length cc) st tl wt k (.slice so S.length sc) S l1 l2 l3 V Y D B W g hgd hwb s hok hS hno (kind_in hno) hB r1 r2 r3 hV hY hD hVb hDb)
  have HOK := hide (fun Y D (hW : Whole n st tl wt k S F D Y) => whole_ok hgd hwb hSb hB hF hW)
  have HNO := hide (fun Y D i (x : Int) (hi : i < n) hx (hne : at_ F i ≠ x) => not_other (Y := Y) (D := D) hgd hwb hSb hB hF hi hx hne)
  have HEN := hide (fun l1 l2 l3 Y D W g r2 r3 hY hD ht => ends_any n (.slice ao st.length ca) (.slice bo tl.length cb) (.slice co wt.length cc) st tl wt l1 l2 l3 Y D W g hgd (chk_of hno).1 r2 r3 hY hD ht)
  have HWO := hide (fun (Y D Y2 D2 : List Int) (h : Whole n st tl wt k S F D Y) (g : Whole n st tl wt k S F D2 Y2) => h.only hgd g)
  have HFB := hide hFb
  have HFL := hide hF.len
  have HDP := hide (fun (Y D : List Int) (hW : Whole n st tl wt k S F D Y) => whole_lens hgd hW)
  have HG := hide hg; have HS := hide hs
  have HBG : Hid ((w.alloc (.cells #[.int .i64 n, .slice ao st.length ca, .slice bo tl.length cb, .slice co wt.length cc] 32)).heap[w.heap.size]? = some (.cells #[.int .i64 n, .slice ao st.length ca, .slice bo tl.length cb, .slice co wt.length cc] 32 (0, 0))) := heap_new _ _
  have HB1 : Hid (Below w.heap.size w (w.alloc (.cells #[.int .i64 n, .slice ao st.length ca, .slice bo tl.length cb, .slice co wt.length cc] 32))) := below_alloc (Below.refl _ _) _
  unfold gAgg at *
  clear hg hs hgd hwb hSb hS hno hF hjn hse hrn hm hsn hok hB hmk hFb
  go_enter Try.func18, Try.ntmps18
  go_wp2_with fail
  generalize (w.alloc (.cells #[.int .i64 n, .slice ao st.length ca, .slice bo tl.length cb, .slice co wt.length cc] 32)) = w1 at HBG HB1 ⊢
  refine (heads_any' w1).mono ?_
  rintro e w2 ⟨rfl, hb2⟩
  have HBG2 : Hid (w2.heap[w.heap.size]? = _) := (hb2.block _ (lt_of_heap HBG.out)).trans HBG.out
  have HB2 := hide (below_on HB1.out hb2)
  have c0 := cell_of HBG2.out (i := 0) rfl
  have c1 := cell_of HBG2.out (i := 1) rfl
  have c2 := cell_of HBG2.out (i := 2) rfl
  have c3 := cell_of HBG2.out (i := 3) rfl
  clear hb2 HBG HB1
  go_wp2_with fail
  refine (HMK.out w2 (HG.out.below HB2.out) (HS.out.below HB2.out)).mono ?_
  rintro e w3 ⟨G, GY, GD, Y, D, rfl, h1, h2, h3, hW, hb3, hGl⟩
  obtain ⟨w4, hw4⟩ : ∃ w4, w4 = w3.alloc (.cells #[.slice (some ⟨G, 0, none⟩) n n, .slice (some ⟨GY, 0, none⟩) n n, .slice (some ⟨GD, 0, none⟩) n n] 103) := ⟨_, rfl⟩
  have b4 : Below w3.heap.size w3 w4 := by rw [hw4]; exact below_alloc (Below.refl _ _) _
  have b24 := below_on hb3 b4
  have HQ4 : Hid (QM w w4 n (.slice ao st.length ca) (.slice bo tl.length cb) (.slice co wt.length cc) w3.heap.size G GY GD F Y D) := ⟨(b24.block _ (lt_of_heap HBG2.out)).trans HBG2.out, by rw [hw4]; exact heap_new _ _, (b4.block _ (lt_of_heap h1)).trans h1, (b4.block _ (lt_of_heap h2)).trans h2, (b4.block _ (lt_of_heap h3)).trans h3, below_on HB2.out b24, Nat.le_trans HB2.out.size hGl⟩
  have HW := hide hW
  have d0 := cell_of HQ4.out.bg (i := 0) rfl
  have d1 := cell_of HQ4.out.bg (i := 1) rfl
  have d2 := cell_of HQ4.out.bg (i := 2) rfl
  have d3 := cell_of HQ4.out.bg (i := 3) rfl
  rw [hw4] at d0 d1 d2 d3
  clear hb3 b4 b24 HBG2 HB2 HMK h1 h2 h3 hW hGl c0 c1 c2 c3
  go_wp2_with fail
  rw [← hw4] at *
  clear hw4 d0 d1 d2 d3
  refine (HSE.out w4 (HG.out.below HQ4.out.bel) (HS.out.below HQ4.out.bel)).mono ?_
  rintro e w5 ⟨lo, ln, lc, rfl, hL, hb5⟩
  have HQ5 := hide (HQ4.out.below hb5)
  have HL5 := hide hL
  have c0 := cell_of HQ5.out.bg (i := 0) rfl
  have c1 := cell_of HQ5.out.bg (i := 1) rfl
  have c2 := cell_of HQ5.out.bg (i := 2) rfl
  have c3 := cell_of HQ5.out.bg (i := 3) rfl
  clear hb5 hL HQ4 HSE
  go_wp2_with (go_at_call 62; refine (no_any _ _).mono ?_; rintro e9 w9 ⟨rfl, h9⟩; obtain rfl := h9.symm)
  refine (HTR.out _ w5 (HG.out.below HQ5.out.bel) (HS.out.below HQ5.out.bel) HL5.out).mono ?_
  rintro e w6 ⟨ty, td, Y2, D2, rfl, h1, h2, hW2, hb6⟩
  obtain ⟨hD2, hY2⟩ := HWO.out Y D Y2 D2 HW.out hW2
  subst hD2 hY2
  have HQ6 := hide (HQ5.out.below hb6)
  have HL6 := hide (HL5.out.below hb6)
  have HTY := hide h1
  have HTD := hide h2
  have d0 := cell_of HQ6.out.bg (i := 0) rfl
  have d1 := cell_of HQ6.out.bg (i := 1) rfl
  have d2 := cell_of HQ6.out.bg (i := 2) rfl
  have d3 := cell_of HQ6.out.bg (i := 3) rfl
  have d4 := cell_of HQ6.out.bv (i := 0) rfl
  have d5 := cell_of HQ6.out.bv (i := 1) rfl
  have d6 := cell_of HQ6.out.bv (i := 2) rfl
  clear hb6 h1 h2 hW2 HQ5 HL5 HTR c0 c1 c2 c3
  obtain ⟨lD, lY, hDb⟩ := HDP.out Y D HW.out
  have HLD := hide lD; have HLY := hide lY; have HDB := hide hDb
  have hck := HCK.out (.slice (some ⟨G, 0, none⟩) n n) (.slice (some ⟨GY, 0, none⟩) n n) (.slice (some ⟨GD, 0, none⟩) n n) F Y D w6 (HG.out.below HQ6.out.bel) (HS.out.below HQ6.out.bel) (HQ6.out.g.row HFL.out (by omega)) (HQ6.out.y.row HLY.out (by omega)) (HQ6.out.d.row HLD.out (by omega)) HFL.out HLY.out HLD.out HFB.out HDB.out
  rw [ck_none (HOK.out Y D HW.out)] at hck
  have HC6 := hide hck
  have HTO := hide (ok_to (HOK.out Y D HW.out))
  clear hck lD lY hDb HOK
  go_wp2_with (go_at_call 62; refine (no_any _ _).mono ?_; rintro e9 w9 ⟨rfl, h9⟩; obtain rfl := h9.symm)
  refine HC6.out.mono ?_
  rintro e w7 ⟨rfl, hb7⟩
  have HQ7 := hide (HQ6.out.below hb7)
  have HL7 := hide (HL6.out.below hb7)
  have HTY7 : Hid (Arr w7 ty Y) := (hb7.block _ (lt_of_heap HTY.out)).trans HTY.out
  have HTD7 : Hid (Arr w7 td D) := (hb7.block _ (lt_of_heap HTD.out)).trans HTD.out
  have c0 := cell_of HQ7.out.bg (i := 0) rfl
  have c1 := cell_of HQ7.out.bg (i := 1) rfl
  have c2 := cell_of HQ7.out.bg (i := 2) rfl
  have c3 := cell_of HQ7.out.bg (i := 3) rfl
  have c4 := cell_of HQ7.out.bv (i := 0) rfl
  have c5 := cell_of HQ7.out.bv (i := 1) rfl
  have c6 := cell_of HQ7.out.bv (i := 2) rfl
  clear hb7 HQ6 HL6 HTY HTD HC6 d0 d1 d2 d3 d4 d5 d6
  go_wp2_with (go_at_call 62; refine (no_any _ _).mono ?_; rintro e9 w9 ⟨rfl, h9⟩; obtain rfl := h9.symm)
  refine (vWords_any _ _ F w7 (HQ7.out.g.row HFL.out (by omega)) HL7.out).mono ?_
  rintro e w8 ⟨rfl, hb8⟩
  have HQ8 := hide (HQ7.out.below hb8)
  have HTY8 : Hid (Arr w8 ty Y) := (hb8.block _ (lt_of_heap HTY7.out)).trans HTY7.out
  have HTD8 : Hid (Arr w8 td D) := (hb8.block _ (lt_of_heap HTD7.out)).trans HTD7.out
  have d0 := cell_of HQ8.out.bg (i := 0) rfl
  have d1 := cell_of HQ8.out.bg (i := 1) rfl
  have d2 := cell_of HQ8.out.bg (i := 2) rfl
  have d3 := cell_of HQ8.out.bg (i := 3) rfl
  have d4 := cell_of HQ8.out.bv (i := 0) rfl
  have d5 := cell_of HQ8.out.bv (i := 1) rfl
  have d6 := cell_of HQ8.out.bv (i := 2) rfl
  clear hb8 HQ7 HL7 HTY7 HTD7 c0 c1 c2 c3 c4 c5 c6
  go_wp2_with fail
  refine (vInts_any _ _ Y w8 (HQ8.out.y.row HLY.out (by omega)) (HTY8.out.row HLY.out (by omega))).mono ?_
  rintro e w9 ⟨rfl, hb9⟩
  have HQ9 := hide (HQ8.out.below hb9)
  have HTD9 : Hid (Arr w9 td D) := (hb9.block _ (lt_of_heap HTD8.out)).trans HTD8.out
  have c0 := cell_of HQ9.out.bg (i := 0) rfl
  have c1 := cell_of HQ9.out.bg (i := 1) rfl
  have c2 := cell_of HQ9.out.bg (i := 2) rfl
  have c3 := cell_of HQ9.out.bg (i := 3) rfl
  have c4 := cell_of HQ9.out.bv (i := 0) rfl
  have c5 := cell_of HQ9.out.bv (i := 1) rfl
  have c6 := cell_of HQ9.out.bv (i := 2) rfl
  clear hb9 HQ8 HTY8 HTD8 d0 d1 d2 d3 d4 d5 d6
  go_wp2_with fail
  refine (vInts_any _ _ D w9 (HQ9.out.d.row HLD.out (by omega)) (HTD9.out.row HLD.out (by omega))).mono ?_
  rintro e w10 ⟨rfl, hb10⟩
  have HQ10 := hide (HQ9.out.below hb10)
  have d0 := cell_of HQ10.out.bg (i := 0) rfl
  have d1 := cell_of HQ10.out.bg (i := 1) rfl
  have d2 := cell_of HQ10.out.bg (i := 2) rfl
  have d3 := cell_of HQ10.out.bg (i := 3) rfl
  have d4 := cell_of HQ10.out.bv (i := 0) rfl
  have d5 := cell_of HQ10.out.bv (i := 1) rfl
  have d6 := cell_of HQ10.out.bv (i := 2) rfl
  clear hb10 HQ9 HTD9 c0 c1 c2 c3 c4 c5 c6
  go_wp2_with fail
  refine (HEN.out _ _ _ Y D w10 (HG.out.below HQ10.out.bel) (HQ10.out.y.row HLY.out (by omega)) (HQ10.out.d.row HLD.out (by omega)) HLY.out HLD.out HTO.out).mono ?_
  rintro e w11 ⟨rfl, hb11⟩
  have HQ11 := hide (HQ10.out.below hb11)
  have c0 := cell_of HQ11.out.bg (i := 0) rfl
  have c1 := cell_of HQ11.out.bg (i := 1) rfl
  have c2 := cell_of HQ11.out.bg (i := 2) rfl
  have c3 := cell_of HQ11.out.bg (i := 3) rfl
  have c4 := cell_of HQ11.out.bv (i := 0) rfl
  have c5 := cell_of HQ11.out.bv (i := 1) rfl
  have c6 := cell_of HQ11.out.bv (i := 2) rfl
  clear hb11 HQ10 HEN HTO d0 d1 d2 d3 d4 d5 d6
  by_cases hn0 : n = 0
  · subst hn0
    go_wp2_with fail
    go_ret
    exact ⟨rfl, HQ11.out.bel⟩
  · have hnz : (n : Int) ≠ 0 := by omega
    have hr1 : at0.tmod (n : Int) < (n : Int) := Int.tmod_lt_of_pos _ (by omega)
    have hr2 : -(n : Int) < at0.tmod (n : Int) := by
      have := Int.lt_tmod_of_pos at0 (b := (n : Int)) (by omega)
      exact this
    by_cases hneg : at0.tmod (n : Int) < 0
    · obtain ⟨i, hi⟩ : ∃ i : Nat, at0.tmod (n : Int) + n = (i : Int) := ⟨(at0.tmod (n : Int) + n).toNat, by omega⟩
      have hin : i < n := by omega
      have hii : (i : Int) < (n : Int) := by omega
      have l1 := HQ11.out.g.cell i (by rw [HFL.out]; exact hin)
      have l2 := HQ11.out.g.free i
      by_cases hq : at_ F i = z
      · rw [hq] at l1
        go_wp2_with fail
        go_ret
        exact ⟨rfl, HQ11.out.bel⟩
      · obtain ⟨y, hy⟩ : ∃ y, y = at_ F i := ⟨_, rfl⟩
        rw [← hy] at l1 hq
        obtain ⟨vv, hvv, hck⟩ := HNO.out Y D i z hin hz (by rw [← hy]; exact hq)
        have HQ12 := hide (HQ11.out.put i z)
        have hcc := HCK.out (.slice (some ⟨G, 0, none⟩) n n) (.slice (some ⟨GY, 0, none⟩) n n) (.slice (some ⟨GD, 0, none⟩) n n) (F.set i z) Y D _ (HG.out.below HQ12.out.bel) (HS.out.below HQ12.out.bel) (HQ12.out.g.row (by rw [List.length_set]; exact HFL.out) (by omega)) (HQ12.out.y.row HLY.out (by omega)) (HQ12.out.d.row HLD.out (by omega)) (by rw [List.length_set]; exact HFL.out) HLY.out HLD.out (fun v => by
          rw [at_set _ _ _ _ (by rw [HFL.out]; exact hin)]
          split
          · exact hz
          · exact HFB.out v) HDB.out
        rw [hck] at hcc
        have HCC := hide hcc
        have e0 := cell_of HQ12.out.bg (i := 0) rfl
        have e1 := cell_of HQ12.out.bg (i := 1) rfl
        have e2 := cell_of HQ12.out.bg (i := 2) rfl
        have e3 := cell_of HQ12.out.bg (i := 3) rfl
        have e4 := cell_of HQ12.out.bv (i := 0) rfl
        have e5 := cell_of HQ12.out.bv (i := 1) rfl
        have e6 := cell_of HQ12.out.bv (i := 2) rfl
        clear hcc hck hy HNO HCK
        go_wp2_with fail
        refine HCC.out.mono ?_
        rintro e w13 ⟨rfl, hb13⟩
        have HB13 := hide (below_on HQ12.out.bel hb13)
        clear hb13 HQ12 HCC e0 e1 e2 e3 e4 e5 e6
        go_wp2_with (go_at_call 62; refine (no_any _ _).mono ?_; rintro e9 w9 ⟨rfl, h9⟩; obtain rfl := h9.symm)
        go_ret
        exact ⟨rfl, HB13.out⟩
    · obtain ⟨i, hi⟩ : ∃ i : Nat, at0.tmod (n : Int) = (i : Int) := ⟨(at0.tmod (n : Int)).toNat, by omega⟩
      have hin : i < n := by omega
      have hii : (i : Int) < (n : Int) := by omega
      have l1 := HQ11.out.g.cell i (by rw [HFL.out]; exact hin)
      have l2 := HQ11.out.g.free i
      rw [hi] at hr1 hr2 hneg
      by_cases hq : at_ F i = z
      · rw [hq] at l1
        go_wp2_with fail
        go_ret
        exact ⟨rfl, HQ11.out.bel⟩
      · obtain ⟨y, hy⟩ : ∃ y, y = at_ F i := ⟨_, rfl⟩
        rw [← hy] at l1 hq
        obtain ⟨vv, hvv, hck⟩ := HNO.out Y D i z hin hz (by rw [← hy]; exact hq)
        have HQ12 := hide (HQ11.out.put i z)
        have hcc := HCK.out (.slice (some ⟨G, 0, none⟩) n n) (.slice (some ⟨GY, 0, none⟩) n n) (.slice (some ⟨GD, 0, none⟩) n n) (F.set i z) Y D _ (HG.out.below HQ12.out.bel) (HS.out.below HQ12.out.bel) (HQ12.out.g.row (by rw [List.length_set]; exact HFL.out) (by omega)) (HQ12.out.y.row HLY.out (by omega)) (HQ12.out.d.row HLD.out (by omega)) (by rw [List.length_set]; exact HFL.out) HLY.out HLD.out (fun v => by
          rw [at_set _ _ _ _ (by rw [HFL.out]; exact hin)]
          split
          · exact hz
          · exact HFB.out v) HDB.out
        rw [hck] at hcc
        have HCC := hide hcc
        have e0 := cell_of HQ12.out.bg (i := 0) rfl
        have e1 := cell_of HQ12.out.bg (i := 1) rfl
        have e2 := cell_of HQ12.out.bg (i := 2) rfl
        have e3 := cell_of HQ12.out.bg (i := 3) rfl
        have e4 := cell_of HQ12.out.bv (i := 0) rfl
        have e5 := cell_of HQ12.out.bv (i := 1) rfl
        have e6 := cell_of HQ12.out.bv (i := 2) rfl
        clear hcc hck hy HNO HCK
        go_wp2_with fail
        refine HCC.out.mono ?_
        rintro e w13 ⟨rfl, hb13⟩
        have HB13 := hide (below_on HQ12.out.bel hb13)
        clear hb13 HQ12 HCC e0 e1 e2 e3 e4 e5 e6
        go_wp2_with (go_at_call 62; refine (no_any _ _).mono ?_; rintro e9 w9 ⟨rfl, h9⟩; obtain rfl := h9.symm)
        go_ret
        exact ⟨rfl, HB13.out⟩
end Go.Proofs.Ythoklgdlnmccmaa
