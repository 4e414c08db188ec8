import Derived.Test.YthoklgdlnmccmaaTreeB
import Derived.Test.YthoklgdlnmccmaaPathPlain
import Derived.Test.YthoklgdlnmccmaaTreeC
import Derived.Test.YthoklgdlnmccmaaLenB
import Derived.Deep.CutRange
/- RouteWays: the ways of a whole tree. Plain. -/
namespace Go.Proofs.Ythoklgdlnmccmaa
set_option linter.unusedVariables false
section
variable {n : Nat} {st tl wt : List Int} {k : Int} {S : List Pr} {L D Y : List Int} {d u v t m : Nat}
theorem dep_fwd (h : dep n st tl wt k S L d v ≠ -1) (j : Nat) : dep n st tl wt k S L (d + j) v = dep n st tl wt k S L d v := by
  induction j with
  | zero => rfl
  | succ j ih =>
    have h1 : dep n st tl wt k S L (d + j) v ≠ -1 := by rw [ih]; exact h
    rw [show d + (j + 1) = d + j + 1 by omega, (dep_old h1).1, ih]
theorem dep_back (h : dep n st tl wt k S L d v = (t : Int)) : dep n st tl wt k S L t v = (t : Int) := by
  induction d with
  | zero =>
    have h1 := dep_range (n := n) (st := st) (tl := tl) (wt := wt) (k := k) (S := S) (L := L) 0 v
    have : t = 0 := by rcases h1 with h1 | h1 <;> omega
    subst this; exact h
  | succ d ih =>
    by_cases h0 : dep n st tl wt k S L d v = -1
    · have h1 := dep_range (n := n) (st := st) (tl := tl) (wt := wt) (k := k) (S := S) (L := L) (d + 1) v
      have h2 : t = d + 1 := by
        have h3 := h
        rw [dep, if_neg (fun h4 => h4 h0)] at h3
        split at h3 <;> omega
      subst h2; exact h
    · rw [(dep_old h0).1] at h; exact ih h
theorem dep_edge (h : dep n st tl wt k S L d v = ((m + 1 : Nat) : Int)) : ∃ e, e < tl.length ∧ byE n st tl wt k S L d v = (e : Int) ∧ tov tl e = v ∧ Tg n st tl wt k L e ∧ dep n st tl wt k S L d (src st n e) = (m : Int) := by
  induction d with
  | zero =>
    have h1 := dep_range (n := n) (st := st) (tl := tl) (wt := wt) (k := k) (S := S) (L := L) 0 v
    rcases h1 with h1 | h1 <;> omega
  | succ d ih =>
    by_cases h0 : dep n st tl wt k S L d v = -1
    · cases hp : pk n st tl wt k L (dep n st tl wt k S L d) d v with
      | none =>
        have := (dep_none h0 fun e' he' => pk_none hp he').1
        omega
      | some e =>
        obtain ⟨he, hq⟩ := pk_some hp
        have h1 : dep n st tl wt k S L (d + 1) v = ((d + 1 : Nat) : Int) ∧ byE n st tl wt k S L (d + 1) v = (e : Int) := by
          have hn : ¬ (dep n st tl wt k S L d v ≠ -1) := fun h2 => h2 h0
          rw [dep, byE, if_neg hn, if_neg hn, hp]; exact ⟨rfl, rfl⟩
        have hm : m = d := by omega
        subst hm
        refine ⟨e, he, h1.2, hq.1, hq.2.1, ?_⟩
        have h3 := hq.2.2
        rw [(dep_old (by omega)).1]; exact h3
    · rw [(dep_old h0).1] at h
      obtain ⟨e, he, h1, h2, h3, h4⟩ := ih h
      refine ⟨e, he, by rw [(dep_old h0).2]; exact h1, h2, h3, ?_⟩
      rw [(dep_old (by omega)).1]; exact h4
theorem dep_zero (h : dep n st tl wt k S L d v = 0) : Root S L v ∧ byE n st tl wt k S L d v = -1 := by
  induction d with
  | zero =>
    rw [dep] at h
    split at h
    · rename_i h1; exact ⟨rootB_iff.1 h1, rfl⟩
    · omega
  | succ d ih =>
    by_cases h0 : dep n st tl wt k S L d v = -1
    · rw [dep, if_neg (fun h4 => h4 h0)] at h
      split at h <;> omega
    · rw [(dep_old h0).1] at h
      obtain ⟨a, b⟩ := ih h
      exact ⟨a, by rw [(dep_old h0).2]; exact b⟩
/-- Behind a tight edge from a vertex that has a depth stands one. -/
theorem dep_on {e : Nat} (hg : Good n st tl wt) (hs : Still n st tl wt k S L d) (he : e < tl.length) (ht : Tg n st tl wt k L e) (hu : dep n st tl wt k S L d (src st n e) ≠ -1) : dep n st tl wt k S L d (tov tl e) ≠ -1 := by
  have hv := (tov_lt hg he).1
  have hr := dep_range (n := n) (st := st) (tl := tl) (wt := wt) (k := k) (S := S) (L := L) d (src st n e)
  obtain ⟨t, h1⟩ : ∃ t : Nat, dep n st tl wt k S L d (src st n e) = (t : Int) := ⟨(dep n st tl wt k S L d (src st n e)).toNat, by rcases hr with h | h <;> first | exact absurd h hu | omega⟩
  have htd : t ≤ d := by rcases hr with h | h <;> omega
  have h2 := dep_back h1
  have h3 : dep n st tl wt k S L (t + 1) (tov tl e) ≠ -1 := by
    by_cases h0 : dep n st tl wt k S L t (tov tl e) = -1
    · intro h4
      rw [dep, if_neg (fun h5 => h5 h0)] at h4
      split at h4
      · omega
      · rename_i h6
        cases hp : pk n st tl wt k L (dep n st tl wt k S L t) t (tov tl e) with
        | none => exact pk_none hp he ⟨rfl, ht, h2⟩
        | some x => rw [hp] at h6; exact h6 rfl
    · rw [(dep_old h0).1]; exact h0
  rcases Nat.lt_or_ge t d with h4 | h4
  · have := dep_fwd h3 (d - (t + 1))
    rw [show t + 1 + (d - (t + 1)) = d by omega] at this
    rw [this]; exact h3
  · obtain rfl : t = d := by omega
    rw [← hs _ hv]; exact h3
/-- Each vertex has a depth. -/
theorem dep_all (hg : Good n st tl wt) (hwb : ∀ e, 0 ≤ at_ wt e ∧ at_ wt e ≤ 18446744073709551615) (hS : ∀ j, j < S.length → 0 ≤ (sAt S j).2 ∧ (sAt S j).2 ≤ 18446744073709551615) (hf : Found n st tl wt k S L) (hs : Still n st tl wt k S L d) (hv : v < n) : dep n st tl wt k S L d v ≠ -1 := by
  have root : ∀ u, Root S L u → dep n st tl wt k S L d u ≠ -1 := fun u hu => by
    have h0 : dep n st tl wt k S L 0 u = 0 := by rw [dep, if_pos (rootB_iff.2 hu)]
    have := dep_fwd (d := 0) (by rw [h0]; omega) d
    rw [Nat.zero_add, h0] at this
    rw [this]; omega
  have key : ∀ m : Nat, ∀ u x, Came n st tl wt k S u x → u < n → x = at_ L u → (at_ L u).toNat < m → dep n st tl wt k S L d u ≠ -1 := by
    intro m
    induction m with
    | zero => intro u x _ _ _ h; omega
    | succ m ih =>
      intro u x hc
      induction hc with
      | start j v x hj hv hs2 =>
        intro _ hx _
        exact root v (.inr ⟨j, hj, by rw [hs2, hx]⟩)
      | edge e y he hy hc ih2 =>
        intro hu hx hm
        have hsn := src_lt hg he
        have h1 := hf.le hwb hS hc
        have hb := hf.bell e he
        have hmono := ext_mono (k := k) h1.2.2 h1.1 (hwb e).1
        have hge := ext_ge (k := k) (l := at_ L (src st n e)) (x := at_ wt e) (by have := (hf.rng _ hsn).2; unfold Nev at this; omega) (hwb e).1
        have hge2 := ext_ge (k := k) (l := y) (x := at_ wt e) h1.2.2 (hwb e).1
        have hr := hf.rng _ hsn
        have hne : at_ L (src st n e) ≠ Nev := by unfold Nev at hy ⊢; omega
        have htg : Tg n st tl wt k L e := ⟨hne, by omega⟩
        refine dep_on hg hs he htg ?_
        by_cases hyl : y = at_ L (src st n e)
        · exact ih2 hsn hyl (by omega)
        · exact ih _ _ (hf.came _ hsn hne) hsn rfl (by omega)
  by_cases hn : at_ L v = Nev
  · exact root v (.inl hn)
  · exact key ((at_ L v).toNat + 1) v _ (hf.came v hv hn) hv rfl (by omega)
theorem dep_few (hg : Good n st tl wt) (hv : v < n) (h : dep n st tl wt k S L d v = (t : Int)) : t ≤ n := by
  rcases Nat.lt_or_ge n t with h1 | h1
  · exfalso
    have h2 := dep_back h
    have h3 := ((still_at (k := k) (S := S) (L := L) hg).on hg (t - n)).2 v hv
    rw [show n + (t - n) = t by omega] at h3
    have h4 := dep_range (n := n) (st := st) (tl := tl) (wt := wt) (k := k) (S := S) (L := L) n v
    rcases h4 with h4 | h4 <;> omega
  · exact h1
/-- What the law asks of the way to v: so long as the depth; from a root; along tight edges. -/
structure WayOk (n : Nat) (st tl wt : List Int) (k : Int) (S : List Pr) (L D Y : List Int) (v m r : Nat) (way : List Int) : Prop where
  dp : at_ D v = (m : Int)
  pa : pathAns n st tl Y v = (way, 0)
  ln : way.length = m
  rn : r < n
  r0 : m = 0 → r = v
  r1 : 0 < m → ∃ e, e < tl.length ∧ at_ way 0 = (e : Int) ∧ src st n e = r
  le : lenAns n st tl wt k (at_ L r) way = (at_ L v, 0)
  st_ : at_ L v ≠ Nev → ∃ j, j < S.length ∧ sAt S j = ((r : Int), at_ L r)
theorem rev_at {l : List Int} {i : Nat} (h : i < l.length) : at_ l.reverse i = at_ l (l.length - 1 - i) := by
  unfold at_
  rw [List.getElem?_reverse h]
theorem back_at (by_ : List Int) (t j i : Nat) (h : i < j) : at_ (back n st by_ t j) i = at_ by_ (vs n st by_ t i) := by
  show (back n st by_ t j)[i]?.getD 0 = _
  unfold back
  simp [h]
theorem way_ok (hg : Good n st tl wt) (hwb : ∀ e, 0 ≤ at_ wt e ∧ at_ wt e ≤ 18446744073709551615) (hS : ∀ j, j < S.length → 0 ≤ (sAt S j).2 ∧ (sAt S j).2 ≤ 18446744073709551615) (hf : Found n st tl wt k S L) (hw : Whole n st tl wt k S L D Y) (hv : v < n) : ∃ m r way, WayOk n st tl wt k S L D Y v m r way := by
  obtain ⟨d, htd, hst⟩ := hw
  have hr := dep_range (n := n) (st := st) (tl := tl) (wt := wt) (k := k) (S := S) (L := L) d v
  have hne := dep_all hg hwb hS hf hst hv
  obtain ⟨m, hm⟩ : ∃ m : Nat, dep n st tl wt k S L d v = (m : Int) := ⟨(dep n st tl wt k S L d v).toNat, by rcases hr with h | h <;> first | exact absurd h hne | omega⟩
  have hmn := dep_few hg hv hm
  -- step by step back
  have step : ∀ j, j ≤ m → vs n st Y v j < n ∧ dep n st tl wt k S L d (vs n st Y v j) = ((m - j : Nat) : Int) := by
    intro j
    induction j with
    | zero => exact fun _ => ⟨hv, hm⟩
    | succ j ih =>
      intro hj
      obtain ⟨h1, h2⟩ := ih (by omega)
      obtain ⟨e, he, h3, h4, h5, h6⟩ := dep_edge (m := m - (j + 1)) (by rw [h2]; congr 1; omega)
      have h7 : vs n st Y v (j + 1) = src st n e := by
        show src st n (at_ Y (vs n st Y v j)).toNat = _
        rw [htd.ye _ h1, h3]; rfl
      rw [h7]
      exact ⟨src_lt hg he, h6⟩
  have edge : ∀ j, j < m → ∃ e, e < tl.length ∧ at_ Y (vs n st Y v j) = (e : Int) ∧ tov tl e = vs n st Y v j ∧ Tg n st tl wt k L e ∧ src st n e = vs n st Y v (j + 1) := by
    intro j hj
    obtain ⟨h1, h2⟩ := step j (by omega)
    obtain ⟨e, he, h3, h4, h5, h6⟩ := dep_edge (m := m - (j + 1)) (by rw [h2]; congr 1; omega)
    have h8 : at_ Y (vs n st Y v j) = (e : Int) := by rw [htd.ye _ h1, h3]
    refine ⟨e, he, h8, h4, h5, ?_⟩
    show _ = src st n (at_ Y (vs n st Y v j)).toNat
    rw [h8]; rfl
  obtain ⟨hrn, hrd⟩ := step m (Nat.le_refl _)
  rw [Nat.sub_self] at hrd
  obtain ⟨hroot, hby⟩ := dep_zero hrd
  have hp0 : ∀ i, i < m → pNo n st tl Y v i = 0 := fun i hi => by
    obtain ⟨e, he, h1, h2, _, _⟩ := edge i hi
    have h3 := (tov_lt hg he).2
    rw [pNo_on (by rw [h1]; omega) (by rw [h1]; exact ⟨by omega, by omega, by rw [Int.toNat_natCast, h3, h2]⟩), if_neg (by omega)]
  have hp1 : pNo n st tl Y v m = 1 := pNo_end (by rw [htd.ye _ hrn, hby])
  have hpa : pathAns n st tl Y v = ((back n st Y v m).reverse, 0) := by
    rw [path_at hmn (by rw [hp1]; omega) hp0, if_pos hp1]
  have hlen : (back n st Y v m).reverse.length = m := by rw [List.length_reverse, back_length]
  have wat_ : ∀ i, i < m → at_ (back n st Y v m).reverse i = at_ Y (vs n st Y v (m - 1 - i)) := fun i hi => by
    rw [rev_at (by rw [back_length]; exact hi), back_length, back_at _ _ _ _ (by omega)]
  refine ⟨m, vs n st Y v m, (back n st Y v m).reverse, by rw [htd.de v hv, hm], hpa, hlen, hrn, fun h => by rw [h]; rfl, fun h => ?_, ?_, fun hn => ?_⟩
  · obtain ⟨e, he, h1, h2, _, h4⟩ := edge (m - 1) (by omega)
    refine ⟨e, he, ?_, ?_⟩
    · rw [wat_ 0 h, Nat.sub_zero]; exact h1
    · rw [h4, show m - 1 + 1 = m by omega]
  · have hs0 : ∀ i, i < (back n st Y v m).reverse.length → stepNo n st tl (back n st Y v m).reverse i = 0 := fun i hi => by
      rw [hlen] at hi
      obtain ⟨e, he, h1, h2, _, h4⟩ := edge (m - 1 - i) (by omega)
      have h5 : at_ (back n st Y v m).reverse i = (e : Int) := by rw [wat_ i hi]; exact h1
      refine step_in (by rw [h5]; omega) fun h6 => h6.2 ?_
      obtain ⟨e2, he2, g1, g2, _, g4⟩ := edge (m - 1 - (i - 1)) (by omega)
      have g5 : at_ (back n st Y v m).reverse (i - 1) = (e2 : Int) := by rw [wat_ (i - 1) (by omega)]; exact g1
      rw [h5, g5, Int.toNat_natCast, Int.toNat_natCast, (tov_lt hg he2).2, g2, h4]
      congr 2
      omega
    rw [len_none hs0, hlen]
    have hl : ∀ i, i ≤ m → lab k (at_ L (vs n st Y v m)) wt (back n st Y v m).reverse i = at_ L (vs n st Y v (m - i)) := by
      intro i
      induction i with
      | zero => exact fun _ => rfl
      | succ i ih =>
        intro hi
        obtain ⟨e, he, h1, h2, h3, h4⟩ := edge (m - 1 - i) (by omega)
        have h5 : at_ (back n st Y v m).reverse i = (e : Int) := by rw [wat_ i (by omega)]; exact h1
        rw [lab, ih (by omega), h5, Int.toNat_natCast]
        have h6 := h3.2
        rw [h4, h2] at h6
        rw [show m - 1 - i + 1 = m - i by omega] at h6
        rw [show m - (i + 1) = m - 1 - i by omega]
        exact h6
    rw [hl m (Nat.le_refl _), Nat.sub_self]
    rfl
  · have hrne : at_ L (vs n st Y v m) ≠ Nev := by
      rcases Nat.eq_zero_or_pos m with h0 | h0
      · rw [h0]; exact hn
      · obtain ⟨e, he, h1, h2, h3, h4⟩ := edge (m - 1) (by omega)
        have := h3.1
        rwa [h4, show m - 1 + 1 = m by omega] at this
    rcases hroot with h1 | h1
    · exact absurd h1 hrne
    · exact h1
end
end Go.Proofs.Ythoklgdlnmccmaa

/- RouteWays where the arguments have an error. -/
namespace Go.Proofs.Ythoklgdlnmccmaa
open Go.RowKit Go.Lib
set_option linter.unusedVariables false

set_option maxRecDepth 100000 in
set_option maxHeartbeats 4000000 in
theorem ways_bad (N : Int) (va vb vc : Value) (st tl wt : List Int) (k : Int) (sv : Value) (S : List Pr) (w : World) (hg : GIs w N va vb vc st tl wt) (hst : st.length * 8 ≤ 140737488351232) (hto : tl.length * 8 ≤ 140737488351232) (hwt : wt.length * 8 ≤ 140737488351232)
    (hs : SAt w sv S) (hw : ∀ j, j < S.length → 0 ≤ (sAt S j).2) (hS : S.length * 16 ≤ 140737488353280) (hno : srchNo N st tl wt k S ≠ 0) :
    Calls Try.prog 11 #[gAgg N va vb vc, .int .i64 k, sv] w fun e w' => e = .returned (.bool true) ∧ Below w.heap.size w w' := by
  obtain ⟨ao, ca, rfl⟩ := hg.s.shape
  obtain ⟨bo, cb, rfl⟩ := hg.t.shape
  obtain ⟨co, cc, rfl⟩ := hg.u.shape
  obtain ⟨so, sc, rfl, hsc, hscm⟩ := hs.shape
  have HSE := hide (fun a b c W h h2 => rounds_bad N a b c st tl wt k (.slice so S.length sc) S W h (by omega) (by omega) (by omega) h2 hno)
  obtain ⟨c0, c1, c2, c3, hb1, hs1⟩ := boxed w (.int .i64 N) (.slice ao st.length ca) (.slice bo tl.length cb) (.slice co wt.length cc)
  have HF := hide (fits_law N _ _ _ st tl wt k _ S _ (hg.below hb1) hst hto hwt (hs.below hb1) hw hS)
  rw [decide_eq_false hno] at HF
  have HG1 := hide (hg.below hb1)
  have HS1 := hide (hs.below hb1)
  have HB1 := hide hb1
  obtain ⟨x, hX⟩ : ∃ x, x = srchNo N st tl wt k S := ⟨_, rfl⟩
  rw [← hX] at HSE hno
  have hx : (x != 0) = true := by simp [hno]
  unfold gAgg at HF HSE ⊢
  clear hb1 hX hg hs hw hno
  go_enter Try.func11, Try.ntmps11
  go_wp2_with fail
  generalize (w.alloc (.cells #[.int .i64 N, .slice ao st.length ca, .slice bo tl.length cb, .slice co wt.length cc] 32)) = w1 at c0 c1 c2 c3 hs1 HB1 HF HG1 HS1 ⊢
  refine HF.out.mono ?_
  rintro e w2 ⟨rfl, hb2⟩
  obtain ⟨d0, d1, d2, d3⟩ := box_keep hs1 hb2 ⟨c0, c1, c2, c3⟩
  have HB2 := hide (below_on HB1.out hb2)
  have HG2 := hide (HG1.out.below hb2)
  have HS2 := hide (HS1.out.below hb2)
  clear c0 c1 c2 c3 hb2 HF HG1 HB1 HS1
  go_wp2_with fail
  have HTW := hide (twin_any N _ _ _ st tl wt w2 HG2.out hst hto hwt)
  unfold gAgg at HTW
  refine HTW.out.mono ?_
  rintro e w3 ⟨g1, p1, g2, p2, g3, p3, rfl, ht, hb3⟩
  have HB3 := hide (below_on HB2.out hb3)
  have HS3 := hide (HS2.out.below hb3)
  have HT3 := hide ht
  clear d0 d1 d2 d3 hb3 HTW ht HG2 HB2 HS2
  unfold tAgg gAgg
  go_wp2_with fail
  refine (HSE.out _ _ _ _ HT3.out.gis HS3.out).mono ?_
  rintro e w4 ⟨rfl, hb4⟩
  have HB4 := hide (below_on HB3.out hb4)
  clear hb4
  go_wp2
  go_ret
  exact ⟨rfl, HB4.out⟩
end Go.Proofs.Ythoklgdlnmccmaa

/- RouteWays: the walk. -/
namespace Go.Proofs.Ythoklgdlnmccmaa
open Go.RowKit Go.Lib
set_option linter.unusedVariables false

set_option maxRecDepth 100000 in
set_option maxHeartbeats 2000000 in
/-- The law's starting. -/
theorem starting_any (sv : Value) (S : List Pr) (v : Nat) (x : Int) (w : World) (hs : SAt w sv S) (hS : S.length * 16 ≤ 140737488353280) :
    Calls Try.prog 47 #[sv, .int .i64 (v : Int), .int .u64 x] w fun e w' => e = .returned (.bool (hasS S v x)) ∧ w' = w := by
  obtain ⟨so, sc, rfl, hsc, hscm⟩ := hs.shape
  have HC := hide (fun (i : Nat) (hi : i < S.length) => hs.cellAt i hi)
  have HY := hide (fun j hj h => hasS_yes (S := S) (v := v) (x := x) (j := j) hj h)
  have HN := hide (fun h => hasS_no (S := S) (v := v) (x := x) h)
  obtain ⟨r, hr⟩ : ∃ r, r = hasS S v x := ⟨_, rfl⟩
  rw [← hr] at HY HN ⊢
  obtain ⟨M, hM⟩ : ∃ M, M = S.length := ⟨_, rfl⟩
  rw [← hM] at HC HY HN hsc hS ⊢
  clear hr hM hs
  go_enter Try.func47, Try.ntmps47
  go_wp2
  go_loopw [7] (fun t wr => ∃ i : Nat, i ≤ M ∧ t = .int .i64 i ∧ (∀ j, j < i → sAt S j ≠ ((v : Int), x)) ∧ wr = w) (fun t _ => M - (RowKit.intOf t).toNat)
  case atStart => exact ⟨0, by omega, rfl, fun j hj => by omega, rfl⟩
  case round =>
    obtain ⟨i, hi, rfl, hno, rfl⟩ := hrel
    have HNO := hide hno
    clear hno
    by_cases hlt : i < M
    · obtain ⟨gb, ob, hsb, b0, b1⟩ := HC.out i hlt
      subst hsb
      have hiM : (i : Int) < (M : Int) := by omega
      obtain ⟨p, hp⟩ : ∃ p, p = (sAt S i).1 := ⟨_, rfl⟩
      obtain ⟨q, hq⟩ : ∃ q, q = (sAt S i).2 := ⟨_, rfl⟩
      rw [← hp] at b0
      rw [← hq] at b1
      have HPQ : Hid (sAt S i = (p, q)) := by show _ = _; rw [hp, hq]
      clear hp hq
      have HNX : Hid (¬ (p = (v : Int) ∧ q = x) → ∀ j, j < i + 1 → sAt S j ≠ ((v : Int), x)) := fun h j hj => by
        rcases Nat.lt_or_ge j i with h3 | h3
        · exact HNO.out j h3
        · obtain rfl : j = i := by omega
          rw [HPQ.out]
          intro h4
          simp only [Prod.mk.injEq] at h4
          exact h h4
      by_cases h1 : p = (v : Int)
      · have hb1 : (p == (v : Int)) = true := by simp [h1]
        by_cases h2 : q = x
        · have hb2 : (q == x) = true := by simp [h2]
          have HR := hide (HY.out i hlt (by rw [HPQ.out, h1, h2]))
          clear h1 h2
          go_wp2
          go_ret
          rw [HR.out]
          exact ⟨rfl, rfl⟩
        · have hb2 : (q == x) = false := by simp [h2]
          have HN2 := hide (HNX.out fun h => h2 h.2)
          clear h1 h2
          go_wp2
          exact ⟨⟨i + 1, by omega, by simp, HN2.out, by simp⟩, by simp [RowKit.intOf]; omega⟩
      · have hb1 : (p == (v : Int)) = false := by simp [h1]
        have HN2 := hide (HNX.out fun h => h1 h.1)
        clear h1
        go_wp2
        exact ⟨⟨i + 1, by omega, by simp, HN2.out, by simp⟩, by simp [RowKit.intOf]; omega⟩
    · obtain rfl : i = M := by omega
      have hki : ¬ (i : Int) < (i : Int) := by omega
      have HR := hide (HN.out HNO.out)
      go_wp2
      go_ret
      rw [HR.out]
      exact ⟨rfl, rfl⟩
theorem chk_of {N : Int} {st tl wt : List Int} {k : Int} {S : List Pr} (h : srchNo N st tl wt k S = 0) : (chk N st tl wt).1 = 0 ∧ fstNo N st tl wt k = 0 := by
  have hf : fstNo N st tl wt k = 0 := by
    unfold srchNo at h
    by_cases hc : fstNo N st tl wt k = 0
    · exact hc
    · rw [if_neg hc] at h; exact h
  refine ⟨?_, hf⟩
  unfold fstNo at hf
  by_cases hc : (chk N st tl wt).1 = 0
  · exact hc
  · rw [if_neg hc] at hf; exact hf
theorem fst_found {n : Nat} {st tl wt : List Int} {k : Int} {S : List Pr} {L : List Int} {j : Nat} (hg : Good n st tl wt) (hwb : ∀ e, 0 ≤ at_ wt e ∧ at_ wt e ≤ 18446744073709551615) (hS : ∀ j, j < S.length → 0 ≤ (sAt S j).2 ∧ (sAt S j).2 ≤ 18446744073709551615) (h : LL n st tl wt k S L) (hj : Fst n st tl wt k L j) : Found n st tl wt k S (rnd n st tl wt k L j) ∧ j ≤ n := by
  have hl := rnd_ll hg hwb h j
  obtain ⟨more, h2⟩ := swp_is hg hwb hl (Nat.le_refl tl.length)
  refine ⟨?_, rnd_few hg hwb hS h j hj.2⟩
  cases more with
  | false => exact hl.found (h2.no rfl).2 hwb hS
  | true =>
    have h3 := h2.yes rfl
    have h4 := hj.1
    rw [rnd] at h4
    rw [h4] at h3
    omega
/-- The four calls where nothing is wrong. -/
theorem four_good (n : Nat) (st tl wt : List Int) (k : Int) (S : List Pr) (h0 : srchNo n st tl wt k S = 0) (hg : Good n st tl wt) (hwb : ∀ e, 0 ≤ at_ wt e ∧ at_ wt e ≤ 18446744073709551615) (hSb : ∀ j, j < S.length → 0 ≤ (sAt S j).2 ∧ (sAt S j).2 ≤ 18446744073709551615) (hS : S.length * 16 ≤ 140737488353280) :
    ∃ F j, Found n st tl wt k S F ∧ j ≤ n ∧ (∀ a b c sv W, GIs W n a b c st tl wt → SAt W sv S → Calls Try.prog 33 #[gAgg n a b c, .int .i64 k, sv] W (SAns F 0 W)) ∧ (∀ a b c sv W, GIs W n a b c st tl wt → SAt W sv S → Calls Try.prog 41 #[gAgg n a b c, .int .i64 k, sv] W (RAns F ((j + 1 : Nat) : Int) 0 W)) := by
  obtain ⟨m, hm, _, hsn⟩ := srch_good h0
  obtain rfl : n = m := by omega
  have hok := sok_of hsn (fun j hj => (hSb j hj).1)
  obtain ⟨L, hB⟩ := beg_is hok
  obtain ⟨F, hF⟩ := found_is (k := k) hg hwb hSb _ L (Nat.le_refl _) (LL.beg hB)
  obtain ⟨j, hj⟩ := fst_is (k := k) hg hwb hSb (LL.beg hB)
  obtain ⟨hf2, hjn⟩ := fst_found hg hwb hSb (LL.beg hB) hj
  have hFr := hf2.only hF hwb hSb
  have hn : n ≤ 9223372036854775807 := by have := hg.n_le; omega
  refine ⟨F, j, hF, hjn, fun a b c sv W hG hs => ?_, fun a b c sv W hG hs => ?_⟩
  · refine (rsearch_good n a b c st tl wt k sv S W hG hg hwb hs hok hS h0).mono ?_
    rintro e w' ⟨G, M, rfl, _, hA, hM, hb⟩
    obtain rfl := hM.only hF hwb hSb
    exact ⟨_, _, _, rfl, hA.row hM.len hn, hb⟩
  · refine (rounds_good n a b c st tl wt k sv S W hG hg hwb hs hok hS h0).mono ?_
    rintro e w' ⟨G, i, L', rfl, _, hb, hA, hF2, h1, h2, h3⟩
    obtain rfl := hb.only hB
    obtain rfl := fst_only ⟨h1, h2⟩ hj
    rw [hFr] at hA
    exact ⟨_, _, _, rfl, hA.row hF.len hn, h3⟩
theorem dep_m {n : Nat} {st tl wt : List Int} {k : Int} {S : List Pr} {L D Y : List Int} {v m r : Nat} {way : List Int} (h : WayOk n st tl wt k S L D Y v m r way) (hg : Good n st tl wt) (hw : Whole n st tl wt k S L D Y) (hv : v < n) : m ≤ n := by
  obtain ⟨d, htd, _⟩ := hw
  exact dep_few hg hv (by rw [← htd.de v hv]; exact h.dp)
set_option maxRecDepth 100000 in
set_option maxHeartbeats 40000000 in
theorem ways_good (n : Nat) (va vb vc : Value) (st tl wt : List Int) (k : Int) (sv : Value) (S : List Pr) (w : World) (hg : GIs w n va vb vc st tl wt) (h0 : srchNo n st tl wt k S = 0) (hgd : Good n st tl wt)
    (hs : SAt w sv S) (hw : ∀ j, j < S.length → 0 ≤ (sAt S j).2 ∧ (sAt S j).2 ≤ 18446744073709551615) (hS : S.length * 16 ≤ 140737488353280) (hwb : ∀ e, 0 ≤ at_ wt e ∧ at_ wt e ≤ 18446744073709551615) :
    Calls Try.prog 11 #[gAgg n va vb vc, .int .i64 k, sv] w fun e w' => e = .returned (.bool true) ∧ Below w.heap.size w w' := by
  obtain ⟨F, j, hF, hjn, hcS, hcR⟩ := four_good n st tl wt k S h0 hgd hwb hw hS
  have hn := hgd.n_le
  have hm := hgd.m_le
  have HFL := hide hF.len
  have hst8 : st.length * 8 ≤ 140737488351232 := by have := hgd.s_len; omega
  have hto8 : tl.length * 8 ≤ 140737488351232 := by omega
  have hwt8 : wt.length * 8 ≤ 140737488351232 := by have := hgd.w_len; omega
  obtain ⟨hck, hfs⟩ := chk_of h0
  have HCS := hide hcS
  have HCR := hide hcR
  have HCT := hide (fun a b c sv lv W hG hs hl => tree_good n a b c st tl wt k sv S lv F W hG h0 hwb hs hw hS hl hF)
  have HPT := hide (fun a b c bv by_ v W h1 h2 h3 h4 => path_good n a b c st tl wt bv by_ v W h1 hgd hck h2 h3 h4)
  have HLN := hide (fun a b c l u way W h hu hwl h0' h1' => length_any n a b c st tl wt k l u way W h (by omega) (by omega) (by omega) hu hwl h0' h1' hwb)
  have HTW := hide (fun a b c W h => twin_any n a b c st tl wt W h hst8 hto8 hwt8)
  have HSC := hide (fun v W h => startsC_any v S W h hS)
  have HFR := hide (fun a b c W h => from_any n a b c st tl wt W h hgd)
  have HSA := hide (fun v (u : Nat) x W h => starting_any v S u x W h hS)
  have HWAY := hide (fun D Y (h : Whole n st tl wt k S F D Y) v hv => way_ok hgd hwb hw hF h (v := v) hv)
  have HFD := hide hF
  have HGD := hide hgd
  have HFS := hide hfs
  obtain ⟨ao, ca, rfl⟩ := hg.s.shape
  obtain ⟨bo, cb, rfl⟩ := hg.t.shape
  obtain ⟨co, cc, rfl⟩ := hg.u.shape
  obtain ⟨so, sc, rfl, hsc, hscm⟩ := hs.shape
  obtain ⟨c0, c1, c2, c3, hb1, hs1⟩ := boxed w (.int .i64 n) (.slice ao st.length ca) (.slice bo tl.length cb) (.slice co wt.length cc)
  have HFI := hide (fits_law n _ _ _ st tl wt k _ S _ (hg.below hb1) hst8 hto8 hwt8 (hs.below hb1) (fun j hj => (hw j hj).1) hS)
  rw [decide_eq_true h0] at HFI
  have HG1 := hide (hg.below hb1)
  have HS1 := hide (hs.below hb1)
  have HB1 := hide hb1
  have HX1 := hide (And.intro c0 (And.intro c1 (And.intro c2 c3)))
  unfold gAgg at HFI HCS HCR HCT HPT HLN HTW HFR ⊢
  clear hb1 hg hs hw hwb hcS hcR hF hgd h0 hck hfs
  go_enter Try.func11, Try.ntmps11
  go_wp2_with fail
  generalize (w.alloc (.cells #[.int .i64 n, .slice ao st.length ca, .slice bo tl.length cb, .slice co wt.length cc] 32)) = w1 at c0 c1 c2 c3 hs1 HB1 HG1 HS1 HX1 HFI ⊢
  refine HFI.out.mono ?_
  rintro e w2 ⟨rfl, hb2⟩
  have HX2 := hide (box_keep hs1 hb2 HX1.out)
  have hs2 : w.heap.size < w2.heap.size := by have := hb2.size; omega
  have HB2 := hide (below_on HB1.out hb2)
  have HG2 := hide (HG1.out.below hb2)
  have HS2 := hide (HS1.out.below hb2)
  clear hb2 HB1 HG1 HS1 HX1 hs1 
  clear c0 c1 c2 c3 HFI
  obtain ⟨x0, x1, x2, x3⟩ := HX2.out
  go_wp2_with fail
  refine (HTW.out _ _ _ w2 HG2.out).mono ?_
  rintro e w3 ⟨g3a, p3a, g3b, p3b, g3c, p3c, rfl, ht3, hb3⟩
  have HX3 := hide (box_keep hs2 hb3 HX2.out)
  have hs3 : w.heap.size < w3.heap.size := by have := hb3.size; omega
  have HB3 := hide (below_on HB2.out hb3)
  have HG3 := hide (HG2.out.below hb3)
  have HS3 := hide (HS2.out.below hb3)
  have HT3 := hide ht3
  clear hb3 HB2 HG2 HS2 HX2 hs2 
  clear ht3 x0 x1 x2 x3
  unfold tAgg gAgg
  go_wp2_with fail
  refine (HSC.out _ w3 HS3.out).mono ?_
  rintro e w4 ⟨g4s, c4s, rfl, hgs4, hss4, hb4⟩
  have HX4 := hide (box_keep hs3 hb4 HX3.out)
  have hs4 : w.heap.size < w4.heap.size := by have := hb4.size; omega
  have HB4 := hide (below_on HB3.out hb4)
  have HG4 := hide (HG3.out.below hb4)
  have HS4 := hide (HS3.out.below hb4)
  have HT4 := hide (HT3.out.below hb4)
  have HC4 := hide hss4
  clear hb4 HB3 HG3 HS3 HX3 hs3 HT3
  clear hss4 hgs4
  go_wp2_with fail
  refine (HCS.out _ _ _ _ w4 HT4.out.gis HC4.out).mono ?_
  rintro e w5 ⟨o5, n5, q5, rfl, hr5, hb5⟩
  have HX5 := hide (box_keep hs4 hb5 HX4.out)
  have hs5 : w.heap.size < w5.heap.size := by have := hb5.size; omega
  have HB5 := hide (below_on HB4.out hb5)
  have HG5 := hide (HG4.out.below hb5)
  have HS5 := hide (HS4.out.below hb5)
  have HL5 := hide hr5
  clear hb5 HB4 HG4 HS4 HX4 hs4 HT4 HC4
  clear hr5
  obtain ⟨x0, x1, x2, x3⟩ := HX5.out
  go_wp2_with fail
  refine (HTW.out _ _ _ w5 HG5.out).mono ?_
  rintro e w6 ⟨g6a, p6a, g6b, p6b, g6c, p6c, rfl, ht6, hb6⟩
  have HX6 := hide (box_keep hs5 hb6 HX5.out)
  have hs6 : w.heap.size < w6.heap.size := by have := hb6.size; omega
  have HB6 := hide (below_on HB5.out hb6)
  have HG6 := hide (HG5.out.below hb6)
  have HS6 := hide (HS5.out.below hb6)
  have HL6 := hide (HL5.out.below hb6)
  have HT6 := hide ht6
  clear hb6 HB5 HG5 HS5 HX5 hs5 HL5
  clear ht6 x0 x1 x2 x3
  unfold tAgg gAgg
  go_wp2_with fail
  refine (HSC.out _ w6 HS6.out).mono ?_
  rintro e w7 ⟨g7s, c7s, rfl, hgs7, hss7, hb7⟩
  have HX7 := hide (box_keep hs6 hb7 HX6.out)
  have hs7 : w.heap.size < w7.heap.size := by have := hb7.size; omega
  have HB7 := hide (below_on HB6.out hb7)
  have HG7 := hide (HG6.out.below hb7)
  have HS7 := hide (HS6.out.below hb7)
  have HL7 := hide (HL6.out.below hb7)
  have HT7 := hide (HT6.out.below hb7)
  have HC7 := hide hss7
  clear hb7 HB6 HG6 HS6 HX6 hs6 HL6 HT6
  clear hss7 hgs7
  go_wp2_with fail
  refine (HCR.out _ _ _ _ w7 HT7.out.gis HC7.out).mono ?_
  rintro e w8 ⟨o8, n8, q8, rfl, hr8, hb8⟩
  have HX8 := hide (box_keep hs7 hb8 HX7.out)
  have hs8 : w.heap.size < w8.heap.size := by have := hb8.size; omega
  have HB8 := hide (below_on HB7.out hb8)
  have HG8 := hide (HG7.out.below hb8)
  have HS8 := hide (HS7.out.below hb8)
  have HL8 := hide (HL7.out.below hb8)
  have HM8 := hide hr8
  clear hb8 HB7 HG7 HS7 HX7 hs7 HL7 HT7 HC7
  clear hr8
  have hj1 : ((j + 1 : Nat) : Int) = (j : Int) + 1 := by omega
  rw [hj1]
  clear hj1
  have d1 : decide ((j : Int) + 1 < 1) = false := by simp; omega
  have d2 : decide ((j : Int) + 1 > (n : Int) + 1) = false := by simp; omega
  have d3 : decide ((n : Int) + 1 < (j : Int) + 1) = false := by simp; omega
  go_wp2_with fail
  refine (sameU_any _ _ F w8 HL8.out HM8.out).mono ?_
  rintro e w9 ⟨rfl, hb9⟩
  have HX9 := hide (box_keep hs8 hb9 HX8.out)
  have hs9 : w.heap.size < w9.heap.size := by have := hb9.size; omega
  have HB9 := hide (below_on HB8.out hb9)
  have HG9 := hide (HG8.out.below hb9)
  have HS9 := hide (HS8.out.below hb9)
  have HL9 := hide (HL8.out.below hb9)
  clear hb9 HB8 HG8 HS8 HX8 hs8 HL8 HM8
  obtain ⟨x0, x1, x2, x3⟩ := HX9.out
  go_wp2_with fail
  refine (HTW.out _ _ _ w9 HG9.out).mono ?_
  rintro e w10 ⟨g10a, p10a, g10b, p10b, g10c, p10c, rfl, ht10, hb10⟩
  have HX10 := hide (box_keep hs9 hb10 HX9.out)
  have hs10 : w.heap.size < w10.heap.size := by have := hb10.size; omega
  have HB10 := hide (below_on HB9.out hb10)
  have HG10 := hide (HG9.out.below hb10)
  have HS10 := hide (HS9.out.below hb10)
  have HL10 := hide (HL9.out.below hb10)
  have HT10 := hide ht10
  clear hb10 HB9 HG9 HS9 HX9 hs9 HL9
  clear ht10 x0 x1 x2 x3
  unfold tAgg gAgg
  go_wp2_with fail
  refine (HSC.out _ w10 HS10.out).mono ?_
  rintro e w11 ⟨g11s, c11s, rfl, hgs11, hss11, hb11⟩
  have HX11 := hide (box_keep hs10 hb11 HX10.out)
  have hs11 : w.heap.size < w11.heap.size := by have := hb11.size; omega
  have HB11 := hide (below_on HB10.out hb11)
  have HG11 := hide (HG10.out.below hb11)
  have HS11 := hide (HS10.out.below hb11)
  have HL11 := hide (HL10.out.below hb11)
  have HT11 := hide (HT10.out.below hb11)
  have HC11 := hide hss11
  clear hb11 HB10 HG10 HS10 HX10 hs10 HL10 HT10
  clear hss11 hgs11
  go_wp2_with fail
  refine (words_any _ F w11 HL11.out (by rw [HFL.out]; omega)).mono ?_
  rintro e w12 ⟨g12w, c12w, rfl, hgw12, hmw12, hb12⟩
  have HX12 := hide (box_keep hs11 hb12 HX11.out)
  have hs12 : w.heap.size < w12.heap.size := by have := hb12.size; omega
  have HB12 := hide (below_on HB11.out hb12)
  have HG12 := hide (HG11.out.below hb12)
  have HS12 := hide (HS11.out.below hb12)
  have HL12 := hide (HL11.out.below hb12)
  have HT12 := hide (HT11.out.below hb12)
  have HC12 := hide (HC11.out.below hb12)
  have HW12 := hide hmw12
  clear hb12 HB11 HG11 HS11 HX11 hs11 HL11 HT11 HC11
  clear hmw12 hgw12
  go_wp2_with fail
  refine (HCT.out _ _ _ _ _ w12 HT12.out.gis HC12.out HW12.out.row).mono ?_
  rintro e w13 ⟨GY, GD, Y, D, rfl, hAY, hAD, hWh, hb13⟩
  have HX13 := hide (box_keep hs12 hb13 HX12.out)
  have hs13 : w.heap.size < w13.heap.size := by have := hb13.size; omega
  have HB13 := hide (below_on HB12.out hb13)
  have HG13 := hide (HG12.out.below hb13)
  have HS13 := hide (HS12.out.below hb13)
  have HL13 := hide (HL12.out.below hb13)
  have HY13 := hide hAY
  have HD13 := hide hAD
  clear hb13 HB12 HG12 HS12 HX12 hs12 HL12 HT12 HC12 HW12
  have HYL : Hid (Y.length = n) := by obtain ⟨dd, htd, _⟩ := hWh; exact htd.yl
  have HDL : Hid (D.length = n) := by obtain ⟨dd, htd, _⟩ := hWh; exact htd.dl
  have HWH := hide hWh
  have HAY13 := hide (hAY.row HYL.out (by omega))
  have HAD13 := hide (hAD.row HDL.out (by omega))
  clear hAY hAD hWh HY13 HD13
  have hnn : ((n : Int) != (n : Int)) = false := by simp
  obtain ⟨x0, x1, x2, x3⟩ := HX13.out
  go_wp2_with fail
  refine (HFR.out _ _ _ w13 HG13.out).mono ?_
  rintro e w14 ⟨gf, rfl, hF14, hb14⟩
  have HX14 := hide (box_keep hs13 hb14 HX13.out)
  have hs14 : w.heap.size < w14.heap.size := by have := hb14.size; omega
  have HB14 := hide (below_on HB13.out hb14)
  have HG14 := hide (HG13.out.below hb14)
  have HS14 := hide (HS13.out.below hb14)
  have HL14 := hide (HL13.out.below hb14)
  have HAY14 := hide (HAY13.out.below hb14)
  have HAD14 := hide (HAD13.out.below hb14)
  have HFR14 := hide hF14
  clear hb14 HB13 HG13 HS13 HX13 hs13 HL13 HAY13 HAD13
  clear hF14 x0 x1 x2 x3
  obtain ⟨lo5, lc5, he5⟩ := HL14.out.shape
  simp only [Value.slice.injEq] at he5
  obtain ⟨rfl, rfl, rfl⟩ := he5
  rw [HFL.out] at HL14 ⊢
  clear HCS HCR HCT HFR
  go_wp2_with fail
  go_loopg [18] n (fun m t wr => ∃ v : Nat, m = n - v ∧ v ≤ n ∧ t = .int .i64 v ∧ Below w14.heap.size w14 wr)
  case atStart => exact ⟨0, by omega, by omega, rfl, Below.refl _ _⟩
  case round =>
    obtain ⟨v, hgk, hvn, rfl, hB⟩ := hrel
    obtain ⟨x0, x1, x2, x3⟩ := box_keep hs14 hB HX14.out
    have HBR := hide hB
    have HGK := hide hgk
    have hsr : w.heap.size < wr.heap.size := by have := hB.size; omega
    have HXR := hide (box_keep hs14 hB HX14.out)
    clear hgk
    by_cases hlt : v < n
    · obtain ⟨m, r, way, hway⟩ := HWAY.out D Y HWH.out v hlt
      have hvi : (v : Int) < (n : Int) := by omega
      have HTV := hide (HTW.out _ _ _ wr (HG14.out.below hB))
      clear hB
      go_wp2_with fail
      refine HTV.out.mono ?_
      rintro e u1 ⟨ga1, pa1, gb1, pb1, gc1, pc1, rfl, ht1, hu1⟩
      have HT1 := hide ht1
      have HU1 := hide (below_on HBR.out hu1)
      have HX1 := hide (box_keep hsr hu1 HXR.out)
      have hs1u : w.heap.size < u1.heap.size := by have := hu1.size; omega
      clear ht1 hu1 HTV x0 x1 x2 x3
      unfold tAgg gAgg
      go_wp2_with fail
      refine (ints_any _ Y u1 (HAY14.out.below HU1.out) (by rw [HYL.out]; omega)).mono ?_
      rintro e u2 ⟨gi, ci, rfl, hgi, hmi, hu2⟩
      have HT2 := hide (HT1.out.below hu2)
      have HU2 := hide (below_on HU1.out hu2)
      have HX2 := hide (box_keep hs1u hu2 HX1.out)
      have hs2u : w.heap.size < u2.heap.size := by have := hu2.size; omega
      have HI2 := hide hmi
      clear hmi hgi hu2 HT1 HU1 HX1
      have HPV := hide (HPT.out _ _ _ _ Y v u2 HT2.out.gis HI2.out.row HYL.out hlt)
      rw [hway.pa] at HPV
      rw [HYL.out] at HPV ⊢
      go_wp2_with fail
      refine HPV.out.mono ?_
      rintro e u3 ⟨pv, rfl, hpr, hu3⟩
      have HU3 := hide (below_on HU2.out hu3)
      have HX3 := hide (box_keep hs2u hu3 HX2.out)
      have hs3u : w.heap.size < u3.heap.size := by have := hu3.size; omega
      obtain ⟨wo, wc, rfl⟩ := hpr.shape
      have HWLN := hide hway.ln
      have hprC := hide (fun i (hi : i < way.length) => hpr.cellAt i hi)
      have HPR := hide hpr
      rw [HWLN.out] at hprC ⊢
      obtain ⟨g1, o1, c1, hs1, hc1, dv⟩ := (HAD14.out.below HU3.out).cellAt v (by rw [HDL.out]; exact hlt)
      simp only [Value.slice.injEq, Option.some.injEq, Addr.mk.injEq, and_true] at hs1
      obtain ⟨⟨rfl, rfl⟩, hs1a, hs1b⟩ := hs1
      rw [hway.dp, Nat.zero_add] at dv
      obtain ⟨g2, o2, c2, hs2, hc2, lr⟩ := (HL14.out.below HU3.out).cellAt r (by rw [HFL.out]; exact hway.rn)
      obtain ⟨g3, o3, c3, hs3, hc3, lv⟩ := (HL14.out.below HU3.out).cellAt v (by rw [HFL.out]; exact hlt)
      rw [HFL.out] at hs2 hs3
      simp only [Value.slice.injEq, true_and] at hs2
      obtain ⟨rfl, rfl⟩ := hs2
      simp only [Value.slice.injEq, Option.some.injEq, Addr.mk.injEq, and_true, true_and] at hs3
      obtain ⟨⟨rfl, rfl⟩, hs3b⟩ := hs3
      have hrn := hway.rn
      have hri : (r : Int) < (n : Int) := by omega
      have hmm : ((m : Int) != (m : Int)) = false := by simp
      have hrr := HFD.out.rng r hrn
      have HLV := hide (fun a b c u W h hu => HLN.out a b c (at_ F r) u way W h hu (by rw [HWLN.out]; have := dep_m hway HGD.out HWH.out hlt; omega) hrr.1 (by have := hrr.2; unfold Nev at this; omega))
      have hla : lenAll n st tl wt k (at_ F r) way = (at_ F v, 0) := by
        unfold lenAll
        rw [if_pos HFS.out, Int.toNat_natCast]
        exact hway.le
      rw [hla] at HLV
      have HSTA := hide (hway.st_)
      have HR0 := hide hway.r0
      have HR1 := hide hway.r1
      have hmn2 := dep_m hway HGD.out HWH.out hlt
      obtain ⟨yr, hyr⟩ : ∃ y, y = at_ F r := ⟨_, rfl⟩
      have HYR := hide hyr
      rw [← hyr] at lr HLV
      obtain ⟨yv, hyv⟩ : ∃ y, y = at_ F v := ⟨_, rfl⟩
      have HYV := hide hyv
      rw [← hyv] at lv HLV
      clear hway hla hu3 hpr HPV HT2 HU2 HX2 HI2 hc1 hc2 hc3 hs1a hs1b hs3b hyr hyv hrr
      have HPR2 : Hid (RowAt .i64 u3 (.slice wo m wc) way) := by have := HPR.out; rwa [HWLN.out] at this
      have HIN := hide (fun W h => ints_any (.slice wo m wc) way W h (by rw [HWLN.out]; omega))
      have HFR3 := hide (HFR14.out.below HU3.out)
      go_upto_if 140 with fail
      go_cut [21] from 111 to 198 (fun x wx => x = .int .i64 (r : Int) ∧ wx = u3)
      case first =>
        rcases Nat.eq_zero_or_pos m with h0 | h0
        · have hm0 : ¬ (0 : Int) < (m : Int) := by omega
          have hd0 : decide ((m : Int) > 0) = false := by simp; omega
          have hd1 : decide ((0 : Int) < (m : Int)) = false := by simp; omega
          have HRV := hide (HR0.out h0)
          clear h0
          go_wp2
          go_meet
          case rel => exact ⟨by rw [HRV.out], rfl⟩
        · obtain ⟨e9, he9, hw0, hsr9⟩ := HR1.out h0
          obtain ⟨g4, o4, c4, hs4, hc4, w0⟩ := hprC.out 0 h0
          rw [hw0, Nat.add_zero] at w0
          simp only [Value.slice.injEq] at hs4
          obtain ⟨rfl, hs4a, rfl⟩ := hs4
          obtain ⟨g5, o5, c5, hs5, hc5, f0⟩ := HFR3.out.cellAt e9 (by rw [tab_length]; exact he9)
          simp only [Value.slice.injEq, Option.some.injEq, Addr.mk.injEq, and_true] at hs5
          obtain ⟨⟨rfl, rfl⟩, hs5a, hs5b⟩ := hs5
          rw [tab_at _ _ _ he9, Nat.zero_add, hsr9] at f0
          have hm0 : (0 : Int) < (m : Int) := by omega
          have hd0 : decide ((m : Int) > 0) = true := by simp; omega
          have he9i : (e9 : Int) < (tl.length : Int) := by omega
          clear hs4a hs5a hs5b hc4 hc5 hw0 hsr9 h0 hprC
          go_wp2
          go_meet
          case rel => exact ⟨rfl, rfl⟩
      case rest =>
        obtain ⟨rfl, rfl⟩ := hcut
        go_wp2_with fail
        have HKE : Hid (∀ W, Below wc.heap.size wc W → (W.cell? ⟨w.heap.size, 0, none⟩ = some (.int .i64 n) ∧ W.cell? ⟨w.heap.size, 1, none⟩ = some (.slice ao st.length ca) ∧ W.cell? ⟨w.heap.size, 2, none⟩ = some (.slice bo tl.length cb) ∧ W.cell? ⟨w.heap.size, 3, none⟩ = some (.slice co wt.length cc)) ∧ W.cell? ⟨g2, o2 + r, none⟩ = some (.int .u64 yr)) := fun W h => ⟨box_keep hs3u h HX3.out, (below_cell h (block_of_cell lr)).trans lr⟩
        have HGq := hide (HG14.out.below HU3.out)
        obtain ⟨x0, x1, x2, x3⟩ := HX3.out
        go_cut [22, 20] from 111 to 198 (fun t u wx => t = .int .u64 yv ∧ u = .int .i64 0 ∧ Below wc.heap.size wc wx)
        case first =>
          refine wp_region_noPanic ?_
          go_region_held3 (fun x => (x.cell? ⟨w.heap.size, 0, none⟩ = some (.int .i64 n) ∧ x.cell? ⟨w.heap.size, 1, none⟩ = some (.slice ao st.length ca) ∧ x.cell? ⟨w.heap.size, 2, none⟩ = some (.slice bo tl.length cb) ∧ x.cell? ⟨w.heap.size, 3, none⟩ = some (.slice co wt.length cc)) ∧ x.cell? ⟨g2, o2 + r, none⟩ = some (.int .u64 yr))
            (first | go_keep | exact HKE.out _ HBT.out | exact HKE.out _ HBI.out | exact HKE.out _ HBL.out)
            (first
              | (go_at_call 22; refine (HTW.out _ _ _ _ (by first | exact HGq.out.below HBI.out | exact HGq.out.below (below_drew (Below.refl _ _)))).mono ?_; rintro e wT ⟨g11, p11, g12, p12, g13, p13, rfl, hT, hbT⟩; have HT := hide hT; have HbT := hide hbT; have HBT : Hid (Below wc.heap.size wc wT) := (by first | exact below_on HBI.out hbT | exact below_on (below_drew (Below.refl _ _)) hbT); clear hT hbT)
              | (go_at_call 26; refine (HIN.out _ (by first | exact HPR2.out.below HBT.out | exact HPR2.out.below (below_drew (Below.refl _ _)))).mono ?_; rintro e wI ⟨g21, p21, rfl, hdr, hI, hbI⟩; have HI := hide hI; have HbI := hide hbI; have HBI : Hid (Below wc.heap.size wc wI) := (by first | exact below_on HBT.out hbI | exact below_on (below_drew (Below.refl _ _)) hbI); clear hI hbI hdr)
              | (go_at_call 31; refine (HLV.out _ _ _ _ _ (by first | exact HT.out.gis | exact (HT.out.below HbI.out).gis) (by first | exact HI.out.row | exact (HI.out.below HbT.out).row)).mono ?_; rintro e wL ⟨rfl, hbL⟩; have HBL : Hid (Below wc.heap.size wc wL) := (by first | exact below_on HBT.out hbL | exact below_on HBI.out hbL); clear hbL))
          all_goals
            refine NoPanic.normal ?_
            go_wp2_with fail
            go_meet
            case rel => exact ⟨rfl, rfl, HBL.out⟩
        case rest =>
          obtain ⟨rfl, rfl, hbx⟩ := hcut
          have HBW := hide (below_on HU3.out hbx)
          have lv2 := (below_cell hbx (block_of_cell lv)).trans lv
          have lr2 := (below_cell hbx (block_of_cell lr)).trans lr
          have HST := hide (HSA.out _ r yr wc (HS14.out.below HBW.out))
          have hyy : (yv != yv) = false := by simp
          clear hbx lv lr HKE HGq HIN x0 x1 x2 x3 dv hprC
          by_cases hnv : yv = 18446744073709551615
          · have hnb : (yv != 18446744073709551615) = false := by simp [hnv]
            clear hnv
            go_wp2_with fail
            go_roundg (n - (v + 1))
            case measure => have := HGK.out; omega
            case rel => exact ⟨v + 1, rfl, by omega, by simp, HBW.out⟩
          · have hnb : (yv != 18446744073709551615) = true := by simp [hnv]
            obtain ⟨j2, hj2, hj3⟩ := HSTA.out (by rw [← HYV.out]; exact hnv)
            have hhs := hasS_yes (x := yr) hj2 (by rw [HYR.out]; exact hj3)
            rw [hhs] at HST
            clear hnv hj2 hj3 hhs
            go_wp2_with fail
            refine HST.out.mono ?_
            rintro e u9 ⟨rfl, rfl⟩
            go_wp2_with fail
            go_roundg (n - (v + 1))
            case measure => have := HGK.out; omega
            case rel => exact ⟨v + 1, rfl, by omega, by simp, HBW.out⟩
    · obtain rfl : v = n := by omega
      have hvi : ¬ (v : Int) < (v : Int) := by omega
      clear hB
      go_wp2
      go_ret
      exact ⟨rfl, below_on HB14.out HBR.out⟩
end Go.Proofs.Ythoklgdlnmccmaa
