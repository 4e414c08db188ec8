import Derived.Test.YtehlciejhegndaaEdgeless
import Derived.Test.YtehlciejhegndaaFound
import Derived.BigQuiet
import Derived.Deep.LoopGhost
/- The reference's longer: labels of ways with one edge more. -/
namespace Go.Proofs.Ytehlciejhegndaa
open Go.RowKit Go.Lib
set_option linter.unusedVariables false

/-- The labels M, made of L by the first i edges; whether any is less. -/
structure Lng (n : Nat) (st tl wt : List Int) (k : Int) (L M : List Int) (i : Nat) (less : Bool) : Prop where
  len : M.length = n
  le : ∀ v, v < n → at_ M v ≤ at_ L v ∧ 0 ≤ at_ M v
  rel : ∀ e, e < i → at_ M (tov tl e) ≤ ext k (at_ L (src st n e)) (at_ wt e)
  att : ∀ v, v < n → at_ M v = at_ L v ∨ ∃ e, e < tl.length ∧ tov tl e = v ∧ at_ M v = ext k (at_ L (src st n e)) (at_ wt e) ∧ at_ M v < at_ L v
  no : less = false → ∀ v, v < n → at_ M v = at_ L v
  yes : less = true → ∃ v, v < n ∧ at_ M v < at_ L v
section
variable {n : Nat} {st tl wt : List Int} {k : Int} {L M : List Int} {i : Nat} {less : Bool}
theorem Lng.zero (hl : L.length = n) (hr : ∀ v, v < n → 0 ≤ at_ L v ∧ at_ L v ≤ Nev) : Lng n st tl wt k L L 0 false :=
  ⟨hl, fun v hv => ⟨Int.le_refl _, (hr v hv).1⟩, fun e he => by omega, fun v _ => .inl rfl, fun _ v _ => rfl, fun h => by cases h⟩
theorem Lng.skip (h : Lng n st tl wt k L M i less) (hx : ¬ ext k (at_ L (src st n i)) (at_ wt i) < at_ M (tov tl i)) : Lng n st tl wt k L M (i + 1) less :=
  ⟨h.len, h.le, fun e he => by
    rcases Nat.lt_or_ge e i with h1 | h1
    · exact h.rel e h1
    · obtain rfl : e = i := by omega
      omega, h.att, h.no, h.yes⟩
theorem Lng.lower (h : Lng n st tl wt k L M i less) (hi : i < tl.length) (hv : tov tl i < n) (hx0 : 0 ≤ ext k (at_ L (src st n i)) (at_ wt i)) (hx : ext k (at_ L (src st n i)) (at_ wt i) < at_ M (tov tl i)) : Lng n st tl wt k L (M.set (tov tl i) (ext k (at_ L (src st n i)) (at_ wt i))) (i + 1) true := by
  have A : ∀ j, at_ (M.set (tov tl i) (ext k (at_ L (src st n i)) (at_ wt i))) j = if j = tov tl i then ext k (at_ L (src st n i)) (at_ wt i) else at_ M j := fun j => at_set _ _ _ _ (by rw [h.len]; exact hv)
  have hl := h.le (tov tl i) hv
  refine ⟨by rw [List.length_set]; exact h.len, fun v hv2 => ?_, fun e he => ?_, fun v hv2 => ?_, (fun hf => by cases hf), fun _ => ⟨tov tl i, hv, by rw [A, if_pos rfl]; omega⟩⟩
  · rw [A]
    by_cases e : v = tov tl i
    · rw [if_pos e]; subst e; omega
    · rw [if_neg e]; exact h.le v hv2
  · rw [A]
    by_cases e2 : tov tl e = tov tl i
    · rw [if_pos e2]
      rcases Nat.lt_or_ge e i with h1 | h1
      · have := h.rel e h1; rw [e2] at this; omega
      · obtain rfl : e = i := by omega
        exact Int.le_refl _
    · rw [if_neg e2]
      rcases Nat.lt_or_ge e i with h1 | h1
      · exact h.rel e h1
      · obtain rfl : e = i := by omega
        exact absurd rfl e2
  · rw [A]
    by_cases e : v = tov tl i
    · rw [if_pos e]
      subst e
      exact .inr ⟨i, hi, rfl, rfl, by omega⟩
    · rw [if_neg e]
      exact h.att v hv2
end

def LongPost (w : World) (n : Nat) (st tl wt : List Int) (k : Int) (L : List Int) (e : Ending) (w' : World) : Prop :=
  ∃ G' M less, e = .returned (.tuple #[.slice (some ⟨G', 0, none⟩) n n, .bool less]) ∧ w.heap.size ≤ G' ∧ ArrU w' G' M ∧ Lng n st tl wt k L M tl.length less ∧ Below w.heap.size w w'
set_option maxRecDepth 100000 in
set_option maxHeartbeats 4000000 in
theorem longer_any (n : Nat) (va vb vc : Value) (st tl wt : List Int) (k : Int) (gf G : Nat) (L : List Int) (w : World) (hg : GIs w n va vb vc st tl wt) (hgd : Good n st tl wt) (hwb : ∀ e, 0 ≤ at_ wt e ∧ at_ wt e ≤ 18446744073709551615)
    (hF : RowAt .i64 w (.slice (some ⟨gf, 0, none⟩) tl.length tl.length) (tab tl.length fun p => (src st n p : Int))) (hA0 : ArrU w G L) (hL0 : L.length = n) (hr : ∀ v, v < n → 0 ≤ at_ L v ∧ at_ L v ≤ Nev) :
    Calls Try.prog 106 #[gAgg n va vb vc, .slice (some ⟨gf, 0, none⟩) tl.length tl.length, .int .i64 k, .slice (some ⟨G, 0, none⟩) n n] w (LongPost w n st tl wt k L) := by
  have hn := hgd.n_le
  have hm := hgd.m_le
  obtain ⟨i0, hi, hz0, hz1, hz2⟩ := info_parts Try.info26
  obtain ⟨ao, ca, rfl⟩ := hg.s.shape
  obtain ⟨bo, cb, rfl⟩ := hg.t.shape
  obtain ⟨co, cc, rfl⟩ := hg.u.shape
  obtain ⟨c0, c1, c2, c3, hb1, hs1⟩ := boxed w (.int .i64 n) (.slice ao st.length ca) (.slice bo tl.length cb) (.slice co wt.length cc)
  have HB1 := hide hb1
  have hGw := lt_of_heap hA0
  have HA1 : Hid (ArrU (w.alloc (.cells #[.int .i64 n, .slice ao st.length ca, .slice bo tl.length cb, .slice co wt.length cc] 25)) G L) := (hb1.block G hGw).trans hA0
  have hG1 : G < (w.alloc (.cells #[.int .i64 n, .slice ao st.length ca, .slice bo tl.length cb, .slice co wt.length cc] 25)).heap.size := by simp; omega
  have HG1 := hide (hg.below hb1)
  have HF1 := hide (hF.below hb1)
  have HD := hide hgd
  have HWB := hide hwb
  have HR := hide hr
  have HLZ := hide (Lng.zero (st := st) (tl := tl) (wt := wt) (k := k) hL0 hr)
  unfold gAgg
  clear hb1 hA0 hg hF hgd hwb hr c0 c1
  go_enter Try.func106, Try.ntmps106
  go_wp2_with (at_make; generalize (w.alloc (.cells #[.int .i64 n, .slice ao st.length ca, .slice bo tl.length cb, .slice co wt.length cc] 25)) = w1 at c2 c3 hs1 HB1 HA1 hG1 HG1 HF1 ⊢; refine wpList_make_full _ rfl _ _ 23 rfl w1.heap.size 26 i0 (.int .u64 0) 1 Try.underlying23 hi hz0 hz1 _ _ _ _ n rfl rfl rfl rfl (by rw [hz2]; omega) (by unfold maxLen; omega) (Nat.le_refl _) ?_; intro w2 hown hgrow)
  have hA := arru_made hown
  have hB : Below w1.heap.size w1 w2 := (Below.refl _ _).grown hgrow (Nat.le_refl _) (by intro k hk; cases hk)
  have HA := hide hA; have HB := hide hB
  clear hA hB hown hgrow
  go_loopw [11] (fun t wr => ∃ (i : Nat) (M : List Int), i ≤ n ∧ t = .int .i64 i ∧ ArrU wr w1.heap.size M ∧ M.length = n ∧ (∀ v, v < i → at_ M v = at_ L v) ∧ Below w1.heap.size w1 wr) (fun t _ => n - (RowKit.intOf t).toNat)
  case atStart => exact ⟨0, _, by omega, rfl, HA.out, tab_length _ _, fun v hv => by omega, HB.out⟩
  case round =>
    obtain ⟨i, M, hin, rfl, hA, hM, hMe, hB⟩ := hrel
    clear HA HB
    by_cases hlt : i < n
    · have hcl := hA.cell i (by omega)
      have hfr := hA.free i
      have hrd : wr.cell? ⟨G, i, none⟩ = some (.int .u64 (at_ L i)) := (below_cell hB hG1).trans (HA1.out.cell i (by omega))
      have HA := hide (hA.put i (at_ L i)); have HB := hide hB
      have HM := hide (show (M.set i (at_ L i)).length = n by rw [List.length_set]; exact hM)
      have HME : Hid (∀ v, v < i + 1 → at_ (M.set i (at_ L i)) v = at_ L v) := fun v hv => by
        rw [at_set _ _ _ _ (by omega)]
        by_cases e : v = i
        · rw [if_pos e, e]
        · rw [if_neg e]; exact hMe v (by omega)
      obtain ⟨z, hz⟩ : ∃ z, z = at_ L i := ⟨_, rfl⟩
      rw [← hz] at hrd HA HM HME
      clear hA hB hM hz hMe
      go_wp2
      exact ⟨⟨i + 1, _, by omega, by simp, HA.out, HM.out, HME.out, HB.out.setCell (p := ⟨w1.heap.size, i, none⟩) (Nat.le_refl _) _⟩, by simp [RowKit.intOf]; omega⟩
    · obtain rfl : i = n := by omega
      obtain rfl : M = L := by
        apply List.ext_getElem?
        intro j
        rcases Nat.lt_or_ge j i with hj | hj
        · have h1 := hMe j hj
          unfold at_ at h1
          rw [List.getElem?_eq_getElem (by omega), List.getElem?_eq_getElem (by omega)] at h1 ⊢
          simp only [Option.getD_some] at h1
          rw [h1]
        · rw [List.getElem?_eq_none (by omega), List.getElem?_eq_none (by omega)]
      have HA := hide hA; have HB := hide hB
      clear hA hB hM hMe hlt
      go_wp2_with fail
      go_loopw [12, 13] (fun x t wr => ∃ (e : Nat) (N : List Int) (less : Bool), e ≤ tl.length ∧ x = .bool less ∧ t = .int .i64 e ∧ ArrU wr w1.heap.size N ∧ Lng i st tl wt k M N e less ∧ Below w1.heap.size w1 wr) (fun _ t _ => tl.length - (RowKit.intOf t).toNat)
      case atStart => exact ⟨0, M, false, by omega, rfl, rfl, HA.out, HLZ.out, HB.out⟩
      case round =>
        obtain ⟨e, N, less, hem, rfl, rfl, hA, hLg, hB⟩ := hrel
        clear HA HB HLZ
        obtain ⟨d2, d3⟩ := And.intro ((below_cell (o := 2) hB hs1).trans c2) ((below_cell (o := 3) hB hs1).trans c3)
        by_cases hlt2 : e < tl.length
        · have hGI := HG1.out.below hB
          obtain ⟨gb, ob, cb', heb, _, hcb, htc⟩ := hGI.t.spot (by intro h; rw [h] at hlt2; simp at hlt2)
          obtain ⟨gc, oc, cc', hec, _, hcc, hwc⟩ := hGI.u.spot (by intro h; have := HD.out.w_len; rw [h] at this; simp at this; omega)
          simp only [Value.slice.injEq, true_and] at heb hec
          obtain ⟨rfl, rfl⟩ := heb
          obtain ⟨rfl, rfl⟩ := hec
          have t0 := htc e hlt2
          have hwl2 : e < wt.length := by have := HD.out.w_len; omega
          have x0 := hwc e hwl2
          obtain ⟨gF, oF, cF, heF, _, _, hfc⟩ := (HF1.out.below hB).spot (by intro h; have h1 := tab_length tl.length (fun p => (src st i p : Int)); rw [h] at h1; simp at h1; omega)
          rw [tab_length] at heF hfc
          simp only [Value.slice.injEq, Option.some.injEq, Addr.mk.injEq, true_and, and_true] at heF
          obtain ⟨⟨rfl, rfl⟩, hdrop⟩ := heF
          clear hdrop
          have s0 := hfc e hlt2
          rw [show (tab tl.length fun p => (src st i p : Int))[e]?.getD 0 = at_ (tab tl.length fun p => (src st i p : Int)) e from rfl, tab_at _ _ _ hlt2, Nat.zero_add] at s0
          have hun := src_lt HD.out hlt2
          obtain ⟨htn, htv⟩ := tov_lt HD.out hlt2
          rw [show tl[e]?.getD 0 = (tov tl e : Int) from htv] at t0
          rw [show wt[e]?.getD 0 = at_ wt e from rfl] at x0
          have f0 : wr.cell? ⟨G, src st i e, none⟩ = some (.int .u64 (at_ M (src st i e))) := (below_cell hB hG1).trans (HA1.out.cell _ (by omega))
          have hNl := hLg.len
          have f1 := hA.cell (tov tl e) (by omega)
          have f1f := hA.free (tov tl e)
          have hru := HR.out _ hun
          have hwe := HWB.out e
          have hxb := ext_bound (k := k) hru.1 (show at_ M (src st i e) ≤ 18446744073709551615 by have := hru.2; unfold Nev at this; omega) hwe.1 hwe.2
          have HSK := hide (fun h => hLg.skip h)
          have HLW := hide (fun h => hLg.lower hlt2 htn hxb.1 h)
          have HPT := hide (hA.put (tov tl e) (ext k (at_ M (src st i e)) (at_ wt e)))
          have HAA := hide hA
          have HBB := hide hB
          have HEX := hide (fun W => refExtend_any k (at_ M (src st i e)) (at_ wt e) W hru.1 (by have := hru.2; unfold Nev at this; omega) hwe.1 hwe.2)
          obtain ⟨x, hx⟩ : ∃ x, x = ext k (at_ M (src st i e)) (at_ wt e) := ⟨_, rfl⟩
          rw [← hx] at HEX HSK HLW HPT hxb
          obtain ⟨u, hu⟩ : ∃ u, u = src st i e := ⟨_, rfl⟩
          rw [← hu] at s0 f0 hun HEX hru
          obtain ⟨y, hy⟩ : ∃ y, y = at_ M u := ⟨_, rfl⟩
          rw [← hy] at f0 HEX hru
          obtain ⟨t, ht⟩ : ∃ t, t = tov tl e := ⟨_, rfl⟩
          rw [← ht] at t0 f1 f1f HSK HLW HPT htn
          obtain ⟨z, hz⟩ : ∃ z, z = at_ N t := ⟨_, rfl⟩
          rw [← hz] at f1 HSK HLW
          obtain ⟨wz, hwz⟩ : ∃ wz, wz = at_ wt e := ⟨_, rfl⟩
          rw [← hwz] at x0 HEX hwe
          have hlI : (e : Int) < (tl.length : Int) := by omega
          clear hLg hA hB hx hu hy ht hz hwz htv hGI htc hwc hfc hNl hcb hcc
          go_wp2_with fail
          go_quiet (first | (go_at_call 86; exact (HEX.out _).mono fun _ _ h => ⟨h.1, _, h.2⟩))
          by_cases hc : x < z
          · have hd : decide (x < z) = true := decide_eq_true hc
            have HL2 := hide (HLW.out hc)
            clear HSK HLW
            go_wp2_with fail
            go_roundw
            case rel => exact ⟨e + 1, _, true, by omega, rfl, by simp, HPT.out, HL2.out, (below_drewN HBB.out _).setCell (p := ⟨w1.heap.size, t, none⟩) (Nat.le_refl _) _⟩
            case measure => simp [RowKit.intOf]; omega
          · have hd : decide (x < z) = false := decide_eq_false hc
            have HL2 := hide (HSK.out (by omega))
            clear HSK HLW
            go_wp2_with fail
            go_roundw
            case rel => exact ⟨e + 1, N, less, by omega, rfl, by simp, HAA.out, HL2.out, below_drewN HBB.out _⟩
            case measure => simp [RowKit.intOf]; omega
        · obtain rfl : e = tl.length := by omega
          have HAA := hide hA; have HLG := hide hLg; have HBB := hide hB
          have hli : ¬ (tl.length : Int) < (tl.length : Int) := by omega
          clear hA hLg hB hlt2
          go_wp2
          go_ret2
          exact ⟨w1.heap.size, N, less, rfl, by have := HB1.out.size; omega, HAA.out, HLG.out, below_on HB1.out HBB.out⟩
end Go.Proofs.Ytehlciejhegndaa

/- The reference's search, with edges. -/
namespace Go.Proofs.Ytehlciejhegndaa
open Go.RowKit Go.Lib
set_option linter.unusedVariables false

set_option maxRecDepth 100000 in
set_option maxHeartbeats 8000000 in
theorem begin_beg (n : Nat) (va vb vc : Value) (sv : Value) (S : List Pr) (w : World) (hn : n ≤ 1048576) (hs : SAt w sv S) (hok : Sok n S) (hS : S.length * 16 ≤ 140737488353280) :
    Calls Try.prog 105 #[gAgg n va vb vc, sv] w fun e w' => ∃ G L, e = .returned (.slice (some ⟨G, 0, none⟩) n n) ∧ w.heap.size ≤ G ∧ ArrU w' G L ∧ Beg n S L S.length ∧ Below w.heap.size w w' := by
  obtain ⟨i0, hi, hz0, hz1, hz2⟩ := info_parts Try.info26
  obtain ⟨so, sc, rfl, hsc, hscm⟩ := hs.shape
  obtain ⟨c0, c1, c2, c3, hb1, hs1⟩ := boxed w (.int .i64 n) va vb vc
  have HB1 := hide hb1
  have HS1 := hide (hs.below hb1)
  have HOK := hide hok
  unfold gAgg
  clear hb1 hs hok c1 c2 c3
  go_enter Try.func105, Try.ntmps105
  go_wp2_with (at_make; generalize (w.alloc (.cells #[.int .i64 n, va, vb, vc] 25)) = w1 at c0 hs1 HB1 HS1 ⊢; refine wpList_make_full _ rfl _ _ 23 rfl w1.heap.size 26 i0 (.int .u64 0) 1 Try.underlying23 hi hz0 hz1 _ _ _ _ n rfl rfl rfl rfl (by rw [hz2]; omega) (by unfold maxLen; omega) (Nat.le_refl _) ?_; intro w2 hown hgrow)
  have hA := arru_made hown
  have hB : Below w1.heap.size w1 w2 := (Below.refl _ _).grown hgrow (Nat.le_refl _) (by intro k hk; cases hk)
  have HA := hide hA; have HB := hide hB
  clear hA hB hown hgrow
  go_loopw [6] (fun t wr => ∃ (i : Nat) (L : List Int), i ≤ n ∧ t = .int .i64 i ∧ ArrU wr w1.heap.size L ∧ L.length = n ∧ (∀ v, v < i → at_ L v = Nev) ∧ Below w1.heap.size w1 wr) (fun t _ => n - (RowKit.intOf t).toNat)
  case atStart => exact ⟨0, _, by omega, rfl, HA.out, tab_length _ _, (fun v hv => by omega), HB.out⟩
  case round =>
    obtain ⟨i, L, hin, rfl, hA, hL, hE, hB⟩ := hrel
    clear HA HB
    have x0 := (below_cell (o := 0) hB hs1).trans c0
    by_cases hlt : i < n
    · have hcl := hA.cell i (by omega)
      have hfr := hA.free i
      have HA := hide (hA.put i 18446744073709551615); have HB := hide hB
      have HL := hide (show (L.set i 18446744073709551615).length = n by rw [List.length_set]; exact hL)
      have HE : Hid (∀ v, v < i + 1 → at_ (L.set i 18446744073709551615) v = Nev) := fun v hv => by
        rw [at_set _ _ _ _ (by omega)]
        by_cases e : v = i
        · rw [if_pos e]; rfl
        · rw [if_neg e]; exact hE v (by omega)
      clear hA hB hL hE
      go_wp2
      exact ⟨⟨i + 1, _, by omega, by simp, HA.out, HL.out, HE.out, HB.out.setCell (p := ⟨w1.heap.size, i, none⟩) (Nat.le_refl _) _⟩, by simp [RowKit.intOf]; omega⟩
    · obtain rfl : i = n := by omega
      have hBG : Beg i S L 0 := by
        have e : L = tab i (fun _ => Nev) := by
          apply List.ext_getElem?
          intro j
          rcases Nat.lt_or_ge j i with hj | hj
          · have h1 := hE j hj
            have h2 := tab_at i (fun _ => Nev) j hj
            unfold at_ at h1 h2
            rw [List.getElem?_eq_getElem (by omega)] at h1 ⊢
            rw [List.getElem?_eq_getElem (by rw [tab_length]; omega)] at h2 ⊢
            simp only [Option.getD_some] at h1 h2
            rw [h1, h2]
          · rw [List.getElem?_eq_none (by omega), List.getElem?_eq_none (by rw [tab_length]; omega)]
        rw [e]
        exact beg_zero i S
      have HA := hide hA; have HB := hide hB; have HL := hide hBG
      clear hE hBG
      obtain ⟨M, hM⟩ : ∃ M, M = S.length := ⟨_, rfl⟩
      rw [← hM] at hsc hS HS1 ⊢
      have HM := hide hM
      clear hA hB hM hL
      obtain ⟨wq, hwq⟩ : ∃ wq, wq = wr := ⟨_, rfl⟩
      subst hwq
      go_wp2
      go_loopw [7] (fun t wr => ∃ (j : Nat) (L : List Int), j ≤ M ∧ t = .int .i64 j ∧ ArrU wr w1.heap.size L ∧ Beg i S L j ∧ Below w1.heap.size w1 wr) (fun t _ => M - (RowKit.intOf t).toNat)
      case atStart => exact ⟨0, _, by omega, rfl, HA.out, HL.out, HB.out⟩
      case round =>
        obtain ⟨j, L, hjM, rfl, hA, hL, hB⟩ := hrel
        by_cases hlt2 : j < M
        · obtain ⟨g, o, he, p0, p1⟩ := (HS1.out.below hB).cellAt j (by have := HM.out; omega)
          subst he
          obtain ⟨v, hv⟩ : ∃ v : Nat, (sAt S j).1 = (v : Int) := ⟨((sAt S j).1).toNat, by have := (HOK.out j (by have := HM.out; omega)).1; omega⟩
          have hvn : v < i := by have := (HOK.out j (by have := HM.out; omega)).1; omega
          rw [hv] at p0
          have hLl := hL.len
          have f0 := hA.cell v (by omega)
          have ff := hA.free v
          obtain ⟨y, hy⟩ : ∃ y, y = (sAt S j).2 := ⟨_, rfl⟩
          rw [← hy] at p1
          obtain ⟨z, hz⟩ : ∃ z, z = at_ L v := ⟨_, rfl⟩
          rw [← hz] at f0
          have HA3 := hide hA; have HB3 := hide hB; have HL3 := hide hL
          have HL5 := hide (beg_step hL (by have := HM.out; omega) HOK.out hv)
          rw [← hy, ← hz] at HL5
          have hji : (j : Int) < (M : Int) := by omega
          have hvi : (v : Int) < (i : Int) := by omega
          have HZ := hide hz
          clear hA hB hL hy hz HA HB HL
          by_cases hc : y < z
          · have hd : decide (y < z) = true := decide_eq_true hc
            have HL4 : Hid (Beg i S (L.set v y) (j + 1)) := by have h9 := HL5.out; rw [Int.min_eq_right (by omega)] at h9; exact h9
            go_wp2_with fail
            go_quiet (fail)
            go_wp2_with fail
            go_region
            all_goals
              go_wp2
              exact ⟨⟨j + 1, _, by omega, by simp, ArrU.put (show ArrU (wr.drewN _) _ _ from HA3.out) v y, HL4.out, (below_drewN HB3.out _).setCell (p := ⟨w1.heap.size, v, none⟩) (Nat.le_refl _) _⟩, by simp [RowKit.intOf]; omega⟩
          · have hd : decide (y < z) = false := decide_eq_false hc
            have HL3 : Hid (Beg i S L (j + 1)) := by
              have h9 := HL5.out
              rw [Int.min_eq_left (by omega), HZ.out] at h9
              have e : L.set v (at_ L v) = L := by
                unfold at_
                rw [List.getElem?_eq_getElem (by omega)]
                exact List.set_getElem_self _
              rw [e] at h9
              exact h9
            go_wp2_with fail
            go_quiet (fail)
            go_wp2
            exact ⟨⟨j + 1, L, by omega, by simp, show ArrU (wr.drewN _) _ _ from HA3.out, HL3.out, below_drewN HB3.out _⟩, by simp [RowKit.intOf]; omega⟩
        · obtain rfl : j = M := by omega
          go_wp2
          go_ret
          exact ⟨w1.heap.size, L, rfl, by have := HB1.out.size; omega, hA, by rw [← HM.out]; exact hL, below_on HB1.out hB⟩


/-- Labels on their way: each comes along a way. -/
structure LL (n : Nat) (st tl wt : List Int) (k : Int) (S : List Pr) (L : List Int) : Prop where
  len : L.length = n
  rng : ∀ v, v < n → 0 ≤ at_ L v ∧ at_ L v ≤ Nev
  sts : ∀ j, j < S.length → ∃ v : Nat, v < n ∧ (sAt S j).1 = (v : Int) ∧ at_ L v ≤ (sAt S j).2
  came : ∀ v, v < n → at_ L v ≠ Nev → Came n st tl wt k S v (at_ L v)
def sm (L : List Int) : Nat → Nat
  | 0 => 0
  | v + 1 => sm L v + (at_ L v).toNat
theorem sm_le {L M : List Int} {n : Nat} (h : ∀ v, v < n → at_ M v ≤ at_ L v) : sm M n ≤ sm L n := by
  induction n with
  | zero => exact Nat.le_refl _
  | succ n ih =>
    have h1 := ih (fun v hv => h v (by omega))
    have h2 := h n (by omega)
    rw [sm, sm]
    omega
theorem sm_lt {L M : List Int} {n v : Nat} (h : ∀ v, v < n → at_ M v ≤ at_ L v ∧ 0 ≤ at_ M v) (hv : v < n) (hl : at_ M v < at_ L v) : sm M n < sm L n := by
  induction n with
  | zero => omega
  | succ n ih =>
    rw [sm, sm]
    rcases Nat.lt_or_ge v n with h1 | h1
    · have h2 := ih (fun v hv => h v (by omega)) h1
      have h3 := h n (by omega)
      omega
    · obtain rfl : v = n := by omega
      have h2 := sm_le (L := L) (M := M) (n := v) (fun u hu => (h u (by omega)).1)
      have h3 := h v (by omega)
      omega
section
variable {n : Nat} {st tl wt : List Int} {k : Int} {S : List Pr} {L M : List Int} {less : Bool}
theorem LL.beg (h : Beg n S L S.length) : LL n st tl wt k S L :=
  ⟨h.len, h.rng, h.sts, fun v hv hne => by
    obtain ⟨j, hj, hs⟩ := h.att v hv hne
    exact Came.start j v _ hj hv hs⟩
theorem LL.next (h : LL n st tl wt k S L) (hg : Good n st tl wt) (hl : Lng n st tl wt k L M tl.length less) : LL n st tl wt k S M := by
  refine ⟨hl.len, fun v hv => ?_, fun j hj => ?_, fun v hv hne => ?_⟩
  · have h1 := hl.le v hv
    have h2 := h.rng v hv
    omega
  · obtain ⟨v, hv, h1, h2⟩ := h.sts j hj
    have h3 := hl.le v hv
    exact ⟨v, hv, h1, by omega⟩
  · rcases hl.att v hv with h1 | ⟨e, he, h1, h2, h3⟩
    · rw [h1] at hne ⊢
      exact h.came v hv hne
    · have hs := src_lt hg he
      have hnv : at_ L (src st n e) ≠ Nev := by
        intro hn
        rw [hn] at h2
        have h4 : ext k Nev (at_ wt e) = Nev := by unfold ext Nev; rw [if_pos rfl]
        rw [h4] at h2
        have h5 := h.rng v hv
        omega
      have h6 : Came n st tl wt k S (tov tl e) (ext k (at_ L (src st n e)) (at_ wt e)) := Came.edge e _ he hnv (h.came _ hs hnv)
      rw [h1, ← h2] at h6
      exact h6
theorem LL.le (hf : LL n st tl wt k S L) (hb : ∀ e, e < tl.length → at_ L (tov tl e) ≤ ext k (at_ L (src st n e)) (at_ wt e)) (hw : ∀ e, 0 ≤ at_ wt e ∧ at_ wt e ≤ 18446744073709551615) (hS : ∀ j, j < S.length → 0 ≤ (sAt S j).2 ∧ (sAt S j).2 ≤ 18446744073709551615) {v : Nat} {x : Int} (h : Came n st tl wt k S v x) :
    at_ L v ≤ x ∧ 0 ≤ x ∧ x ≤ 18446744073709551615 := by
  induction h with
  | start j v x hj hv hs =>
    obtain ⟨u, _, h2, h3⟩ := hf.sts j hj
    have h4 := hS j hj
    rw [hs] at h2 h3 h4
    simp only at h2 h3 h4
    have : u = v := by omega
    subst this
    exact ⟨h3, h4.1, h4.2⟩
  | edge e x he hx h ih =>
    have hm := ext_mono (k := k) ih.2.2 ih.1 (hw e).1
    have hbd := ext_bound (k := k) ih.2.1 ih.2.2 (hw e).1 (hw e).2
    exact ⟨Int.le_trans (hb e he) hm, hbd.1, hbd.2⟩
theorem LL.found (hf : LL n st tl wt k S L) (hb : ∀ e, e < tl.length → at_ L (tov tl e) ≤ ext k (at_ L (src st n e)) (at_ wt e)) (hw : ∀ e, 0 ≤ at_ wt e ∧ at_ wt e ≤ 18446744073709551615) (hS : ∀ j, j < S.length → 0 ≤ (sAt S j).2 ∧ (sAt S j).2 ≤ 18446744073709551615) : Found n st tl wt k S L := by
  refine ⟨hf.len, hf.rng, hb, fun v hv hne => ?_, hf.sts, hf.came⟩
  have hc := hf.came v hv hne
  generalize hx : at_ L v = x at hc
  cases hc with
  | start j _ _ hj hv2 hs => exact .inl ⟨j, hj, by rw [hs]⟩
  | edge e y he hy h =>
    right
    refine ⟨e, he, rfl, ?_⟩
    have h1 := hf.le hb hw hS h
    have h2 := ext_mono (k := k) h1.2.2 h1.1 (hw e).1
    have h3 := hb e he
    omega
theorem Lng.same (h : Lng n st tl wt k L M tl.length false) (hl : L.length = n) : M = L := by
  apply List.ext_getElem?
  intro j
  have hM := h.len
  rcases Nat.lt_or_ge j n with hj | hj
  · have h1 := h.no rfl j hj
    unfold at_ at h1
    rw [List.getElem?_eq_getElem (by omega), List.getElem?_eq_getElem (by omega)] at h1 ⊢
    simp only [Option.getD_some] at h1
    rw [h1]
  · rw [List.getElem?_eq_none (by omega), List.getElem?_eq_none (by omega)]
end

/-- The loop: labels, whether it goes on, how many rounds at the most. -/
structure LS1 (n : Nat) (st tl wt : List Int) (k : Int) (S : List Pr) (w : World) (m G : Nat) (more : Bool) (wr : World) : Prop where
  ex : ∃ L, ArrU wr G L ∧ LL n st tl wt k S L ∧ (more = false → ∀ e, e < tl.length → at_ L (tov tl e) ≤ ext k (at_ L (src st n e)) (at_ wt e)) ∧ sm L n + (if more then 1 else 0) = m
  bel : Below w.heap.size w wr
set_option maxRecDepth 100000 in
set_option maxHeartbeats 4000000 in
theorem least_any (n : Nat) (va vb vc : Value) (st tl wt : List Int) (k : Int) (sv : Value) (S : List Pr) (w : World) (hg : GIs w n va vb vc st tl wt) (hgd : Good n st tl wt) (hwb : ∀ e, 0 ≤ at_ wt e ∧ at_ wt e ≤ 18446744073709551615) (hs : SAt w sv S) (hok : Sok n S) (hS : S.length * 16 ≤ 140737488353280) :
    Calls Try.prog 69 #[gAgg n va vb vc, .int .i64 k, sv] w fun e w' => ∃ G L, e = .returned (.slice (some ⟨G, 0, none⟩) n n) ∧ w.heap.size ≤ G ∧ ArrU w' G L ∧ Found n st tl wt k S L ∧ Below w.heap.size w w' := by
  have hn := hgd.n_le
  obtain ⟨ao, ca, rfl⟩ := hg.s.shape
  obtain ⟨bo, cb, rfl⟩ := hg.t.shape
  obtain ⟨co, cc, rfl⟩ := hg.u.shape
  obtain ⟨so, sc, rfl, hsc, hscm⟩ := hs.shape
  obtain ⟨c0, c1, c2, c3, hb1, hs1⟩ := boxed w (.int .i64 n) (.slice ao st.length ca) (.slice bo tl.length cb) (.slice co wt.length cc)
  have HFR := hide (from_any n _ _ _ st tl wt _ (hg.below hb1) hgd)
  have HBE := hide (fun W h => begin_beg n (.slice ao st.length ca) (.slice bo tl.length cb) (.slice co wt.length cc) (.slice so S.length sc) S W hn h hok hS)
  have HLO := hide (fun gf G L W a b c d e => longer_any n (.slice ao st.length ca) (.slice bo tl.length cb) (.slice co wt.length cc) st tl wt k gf G L W a hgd hwb b c d e)
  have HSB : Hid (∀ j, j < S.length → 0 ≤ (sAt S j).2 ∧ (sAt S j).2 ≤ 18446744073709551615) := fun j hj => by have := (hok j hj).2; omega
  have HB1 := hide hb1
  have HS1 := hide (hs.below hb1)
  have HG1 := hide (hg.below hb1)
  have HD := hide hgd
  have HWB := hide hwb
  unfold gAgg at HFR HBE HLO ⊢
  clear hb1 hg hs hok hgd hwb
  go_enter Try.func69, Try.ntmps69
  go_wp2_with fail
  generalize (w.alloc (.cells #[.int .i64 n, .slice ao st.length ca, .slice bo tl.length cb, .slice co wt.length cc] 25)) = w1 at c0 c1 c2 c3 hs1 HB1 HS1 HFR HG1 ⊢
  refine HFR.out.mono ?_
  rintro e w2 ⟨gf, rfl, hF2, hb2⟩
  obtain ⟨x0, x1, x2, x3⟩ := box_keep hs1 hb2 ⟨c0, c1, c2, c3⟩
  have HBX := hide (box_keep hs1 hb2 ⟨c0, c1, c2, c3⟩)
  have HB2 := hide (below_on HB1.out hb2)
  have HS2 := hide (HS1.out.below hb2)
  have HG2 := hide (HG1.out.below hb2)
  have HF2 := hide hF2
  have hs2 : w.heap.size < w2.heap.size := by have := hb2.size; omega
  clear c0 c1 c2 c3 hb2 hF2 HFR HS1 HB1 HG1 hs1
  go_wp2_with fail
  refine (HBE.out w2 HS2.out).mono ?_
  rintro e w3 ⟨G, L, rfl, hG3, hA3, hBeg, hb3⟩
  have HX3 := hide (box_keep hs2 hb3 HBX.out)
  have HG3 := hide (HG2.out.below hb3)
  have HF3 := hide (HF2.out.below hb3)
  have hs3 : w.heap.size < w3.heap.size := by have := hb3.size; omega
  have HB3 := hide (below_on HB2.out hb3)
  have HST : Hid (LS1 n st tl wt k S w3 (sm L n + 1) G true w3) := ⟨⟨L, hA3, LL.beg hBeg, (fun h => by cases h), rfl⟩, Below.refl _ _⟩
  clear x0 x1 x2 x3 hA3 hBeg hb3 HBE HB2 HS2 HG2 HF2 HBX
  go_wp2_with fail
  go_loopg [8, 9] (sm L n + 1) (fun m x y wr => ∃ (G : Nat) (more : Bool), x = .slice (some ⟨G, 0, none⟩) n n ∧ y = .bool more ∧ w.heap.size ≤ G ∧ LS1 n st tl wt k S w3 m G more wr)
  case atStart => exact ⟨G, true, rfl, rfl, by omega, HST.out⟩
  case round =>
    clear HST hG3
    obtain ⟨G, more, rfl, rfl, hG, ⟨L, hA, hL, hmo, hm⟩, hB⟩ := hrel
    cases more with
    | false =>
      have HEND : Hid (Found n st tl wt k S L) := hL.found (hmo rfl) HWB.out HSB.out
      have HA := hide hA
      have HB := hide (below_on HB3.out hB)
      clear hA hL hmo hm hB
      go_wp2
      go_ret
      exact ⟨G, L, rfl, hG, HA.out, HEND.out, HB.out⟩
    | true =>
      obtain ⟨x0, x1, x2, x3⟩ := box_keep hs3 hB HX3.out
      have HL := hide hL; have HM := hide hm; have HB := hide hB
      have HC := hide (HLO.out gf G L wr (HG3.out.below hB) (HF3.out.below hB) hA hL.len hL.rng)
      clear hA hL hmo hm hB
      go_wp2_with fail
      refine HC.out.mono ?_
      rintro e w4 ⟨G', M, less, rfl, hG4, hA4, hM4, hb4⟩
      have HB4 := hide (below_on HB.out hb4)
      have HGG : Hid (w.heap.size ≤ G') := by have := HB.out.size; show _ ≤ _; omega
      have HMM : Hid (sm M n + (if less then 1 else 0) < gk) := by
        have h1 := HM.out
        cases less with
        | true =>
          obtain ⟨v, hv, h2⟩ := hM4.yes rfl
          have h3 := sm_lt hM4.le hv h2
          simp at h1
          show _ < _
          simp
          omega
        | false =>
          have h3 := hM4.same HL.out.len
          subst h3
          simp at h1
          show _ < _
          simp
          omega
      have HLS : Hid (LS1 n st tl wt k S w3 (sm M n + (if less then 1 else 0)) G' less w4) := by
        refine ⟨⟨M, hA4, HL.out.next HD.out hM4, fun hl => ?_, rfl⟩, HB4.out⟩
        subst hl
        have h3 := hM4.same HL.out.len
        subst h3
        exact hM4.rel
      clear hA4 hM4 hb4 hG4 x0 x1 x2 x3
      go_wp2
      go_roundg (sm M n + (if less then 1 else 0))
      case measure => exact HMM.out
      case rel => exact ⟨G', less, rfl, rfl, HGG.out, HLS.out⟩
end Go.Proofs.Ytehlciejhegndaa

/- The reference's Rounds. -/
namespace Go.Proofs.Ytehlciejhegndaa
open Go.RowKit Go.Lib
set_option linter.unusedVariables false

/-- The labels behind the first i edges of a round. -/
def swp (n : Nat) (st tl wt : List Int) (k : Int) (L : List Int) : Nat → List Int
  | 0 => L
  | i + 1 => if ext k (at_ (swp n st tl wt k L i) (src st n i)) (at_ wt i) < at_ (swp n st tl wt k L i) (tov tl i) then (swp n st tl wt k L i).set (tov tl i) (ext k (at_ (swp n st tl wt k L i) (src st n i)) (at_ wt i)) else swp n st tl wt k L i
/-- The labels behind j rounds. -/
def rnd (n : Nat) (st tl wt : List Int) (k : Int) (L : List Int) : Nat → List Int
  | 0 => L
  | j + 1 => swp n st tl wt k (rnd n st tl wt k L j) tl.length
section
variable {n : Nat} {st tl wt : List Int} {k : Int} {S : List Pr} {L M : List Int} {i : Nat} {more : Bool}
theorem LL.edge (h : LL n st tl wt k S L) (hg : Good n st tl wt) (hwb : ∀ e, 0 ≤ at_ wt e ∧ at_ wt e ≤ 18446744073709551615) (he : i < tl.length) (hx : ext k (at_ L (src st n i)) (at_ wt i) < at_ L (tov tl i)) : LL n st tl wt k S (L.set (tov tl i) (ext k (at_ L (src st n i)) (at_ wt i))) := by
  have hv : tov tl i < n := (tov_lt hg he).1
  have hs := src_lt hg he
  have A : ∀ j, at_ (L.set (tov tl i) (ext k (at_ L (src st n i)) (at_ wt i))) j = if j = tov tl i then ext k (at_ L (src st n i)) (at_ wt i) else at_ L j := fun j => at_set _ _ _ _ (by rw [h.len]; exact hv)
  have hb := ext_bound (k := k) (h.rng _ hs).1 (h.rng _ hs).2 (hwb i).1 (hwb i).2
  have hr := h.rng _ hv
  refine ⟨by rw [List.length_set]; exact h.len, fun v hv2 => ?_, fun j hj => ?_, fun v hv2 hne => ?_⟩
  · rw [A]
    by_cases e : v = tov tl i
    · rw [if_pos e]; exact hb
    · rw [if_neg e]; exact h.rng v hv2
  · obtain ⟨v, hv2, h1, h2⟩ := h.sts j hj
    refine ⟨v, hv2, h1, ?_⟩
    rw [A]
    by_cases e : v = tov tl i
    · rw [if_pos e]; subst e; omega
    · rw [if_neg e]; exact h2
  · rw [A] at hne ⊢
    by_cases e : v = tov tl i
    · rw [if_pos e] at hne ⊢
      subst e
      have hnv : at_ L (src st n i) ≠ Nev := by
        intro hn
        rw [hn] at hx
        have h4 : ext k Nev (at_ wt i) = Nev := by unfold ext Nev; rw [if_pos rfl]
        rw [h4] at hx
        omega
      exact Came.edge i _ he hnv (h.came _ hs hnv)
    · rw [if_neg e] at hne ⊢
      exact h.came v hv2 hne
/-- Within a round: the labels now, whether any was lowered. -/
structure Swp (n : Nat) (st tl wt : List Int) (k : Int) (S : List Pr) (L M : List Int) (i : Nat) (more : Bool) : Prop where
  eq : M = swp n st tl wt k L i
  ll : LL n st tl wt k S M
  no : more = false → M = L ∧ ∀ e, e < i → at_ L (tov tl e) ≤ ext k (at_ L (src st n e)) (at_ wt e)
  yes : more = true → sm M n < sm L n
  le : sm M n ≤ sm L n
theorem Swp.zero (h : LL n st tl wt k S L) : Swp n st tl wt k S L L 0 false := ⟨rfl, h, fun _ => ⟨rfl, fun e he => by omega⟩, (fun h => by cases h), Nat.le_refl _⟩
theorem Swp.skip (h : Swp n st tl wt k S L M i more) (hx : ¬ ext k (at_ M (src st n i)) (at_ wt i) < at_ M (tov tl i)) : Swp n st tl wt k S L M (i + 1) more := by
  refine ⟨?_, h.ll, fun hm => ⟨(h.no hm).1, fun e he => ?_⟩, h.yes, h.le⟩
  · rw [swp, ← h.eq, if_neg hx]
  · rcases Nat.lt_or_ge e i with h1 | h1
    · exact (h.no hm).2 e h1
    · obtain rfl : e = i := by omega
      rw [(h.no hm).1] at hx
      omega
theorem Swp.lower (h : Swp n st tl wt k S L M i more) (hg : Good n st tl wt) (hwb : ∀ e, 0 ≤ at_ wt e ∧ at_ wt e ≤ 18446744073709551615) (he : i < tl.length) (hx : ext k (at_ M (src st n i)) (at_ wt i) < at_ M (tov tl i)) : Swp n st tl wt k S L (M.set (tov tl i) (ext k (at_ M (src st n i)) (at_ wt i))) (i + 1) true := by
  have hl := h.ll.edge hg hwb he hx
  have hv : tov tl i < n := (tov_lt hg he).1
  have A : ∀ j, at_ (M.set (tov tl i) (ext k (at_ M (src st n i)) (at_ wt i))) j = if j = tov tl i then ext k (at_ M (src st n i)) (at_ wt i) else at_ M j := fun j => at_set _ _ _ _ (by rw [h.ll.len]; exact hv)
  have hlt : sm (M.set (tov tl i) (ext k (at_ M (src st n i)) (at_ wt i))) n < sm M n := by
    refine sm_lt (v := tov tl i) (fun v hv2 => ⟨?_, (hl.rng v hv2).1⟩) hv ?_
    · rw [A]
      by_cases e : v = tov tl i
      · rw [if_pos e]; subst e; omega
      · rw [if_neg e]; exact Int.le_refl _
    · rw [A, if_pos rfl]; exact hx
  have h2 := h.le
  exact ⟨by rw [swp, ← h.eq, if_pos hx], hl, (fun hf => by cases hf), (fun _ => by omega), by omega⟩
end
/-- Between two rounds. -/
structure RS2 (n : Nat) (st tl wt : List Int) (k : Int) (S : List Pr) (w : World) (G : Nat) (L : List Int) (m j : Nat) (more : Bool) (wr : World) : Prop where
  arr : ArrU wr G (rnd n st tl wt k L j)
  ll : LL n st tl wt k S (rnd n st tl wt k L j)
  ch : more = true → ∀ i, i < j → rnd n st tl wt k L (i + 1) ≠ rnd n st tl wt k L i
  fin : more = false → ∃ i, j = i + 1 ∧ rnd n st tl wt k L (i + 1) = rnd n st tl wt k L i ∧ (∀ h, h < i → rnd n st tl wt k L (h + 1) ≠ rnd n st tl wt k L h) ∧ ∀ e, e < tl.length → at_ (rnd n st tl wt k L i) (tov tl e) ≤ ext k (at_ (rnd n st tl wt k L i) (src st n e)) (at_ wt e)
  me : sm (rnd n st tl wt k L j) n + (if more then 1 else 0) = m
  bel : Below w.heap.size w wr
def RndPost (w : World) (n : Nat) (st tl wt : List Int) (k : Int) (S : List Pr) (e : Ending) (w' : World) : Prop :=
  ∃ (G j : Nat) (L : List Int), e = .returned (.tuple #[.slice (some ⟨G, 0, none⟩) n n, .int .i64 ((j + 1 : Nat) : Int), .int .i64 0]) ∧ w.heap.size ≤ G ∧ Beg n S L S.length ∧ ArrU w' G (rnd n st tl wt k L j) ∧ Found n st tl wt k S (rnd n st tl wt k L j) ∧ rnd n st tl wt k L (j + 1) = rnd n st tl wt k L j ∧ (∀ i, i < j → rnd n st tl wt k L (i + 1) ≠ rnd n st tl wt k L i) ∧ Below w.heap.size w w'
end Go.Proofs.Ytehlciejhegndaa

/- How many rounds: at the most one for each vertex, and one. Plain. -/
namespace Go.Proofs.Ytehlciejhegndaa
open Go.RowKit Go.Lib
set_option linter.unusedVariables false
section
variable {n : Nat} {st tl wt : List Int} {k : Int} {S : List Pr} {L M F : List Int} {i : Nat}
theorem swp_is (hg : Good n st tl wt) (hwb : ∀ e, 0 ≤ at_ wt e ∧ at_ wt e ≤ 18446744073709551615) (h : LL n st tl wt k S L) (hi : i ≤ tl.length) : ∃ more, Swp n st tl wt k S L (swp n st tl wt k L i) i more := by
  induction i with
  | zero => exact ⟨false, Swp.zero h⟩
  | succ i ih =>
    obtain ⟨more, h1⟩ := ih (by omega)
    by_cases hx : ext k (at_ (swp n st tl wt k L i) (src st n i)) (at_ wt i) < at_ (swp n st tl wt k L i) (tov tl i)
    · have h2 := h1.lower hg hwb (by omega) hx
      exact ⟨true, by rw [swp, if_pos hx]; exact h2⟩
    · have h2 := h1.skip hx
      exact ⟨more, by rw [swp, if_neg hx]; exact h2⟩
theorem found_is (hg : Good n st tl wt) (hwb : ∀ e, 0 ≤ at_ wt e ∧ at_ wt e ≤ 18446744073709551615) (hS : ∀ j, j < S.length → 0 ≤ (sAt S j).2 ∧ (sAt S j).2 ≤ 18446744073709551615) : ∀ (m : Nat) (L : List Int), sm L n ≤ m → LL n st tl wt k S L → ∃ F, Found n st tl wt k S F := by
  intro m
  induction m with
  | zero =>
    intro L hm h
    obtain ⟨more, h1⟩ := swp_is hg hwb h (Nat.le_refl _)
    cases more with
    | true => have := h1.yes rfl; omega
    | false => exact ⟨L, h.found (h1.no rfl).2 hwb hS⟩
  | succ m ih =>
    intro L hm h
    obtain ⟨more, h1⟩ := swp_is hg hwb h (Nat.le_refl _)
    cases more with
    | true => exact ih _ (by have := h1.yes rfl; omega) h1.ll
    | false => exact ⟨L, h.found (h1.no rfl).2 hwb hS⟩
/-- The labels of a graph lie at or above the least. -/
theorem LL.above (h : LL n st tl wt k S M) (hf : Found n st tl wt k S F) (hwb : ∀ e, 0 ≤ at_ wt e ∧ at_ wt e ≤ 18446744073709551615) (hS : ∀ j, j < S.length → 0 ≤ (sAt S j).2 ∧ (sAt S j).2 ≤ 18446744073709551615) {v : Nat} (hv : v < n) : at_ F v ≤ at_ M v := by
  by_cases hn : at_ M v = Nev
  · rw [hn]; exact (hf.rng v hv).2
  · exact (hf.le hwb hS (h.came v hv hn)).1
/-- Along a way to a vertex that is not settled: one that lies lower, or an edge from a settled vertex to one that is not. -/
theorem unsettled (hg : Good n st tl wt) (h : LL n st tl wt k S M) (hf : Found n st tl wt k S F) (hwb : ∀ e, 0 ≤ at_ wt e ∧ at_ wt e ≤ 18446744073709551615) (hS : ∀ j, j < S.length → 0 ≤ (sAt S j).2 ∧ (sAt S j).2 ≤ 18446744073709551615) {v : Nat} {x : Int} (hc : Came n st tl wt k S v x) (hu : at_ M v ≠ at_ F v) :
    (∃ z, z < n ∧ at_ M z ≠ at_ F z ∧ at_ F z < x) ∨ ∃ e, e < tl.length ∧ at_ M (src st n e) = at_ F (src st n e) ∧ at_ M (tov tl e) ≠ at_ F (tov tl e) ∧ ext k (at_ F (src st n e)) (at_ wt e) ≤ x := by
  induction hc with
  | start j v x hj hv hs =>
    left
    obtain ⟨u, hun, h2, h3⟩ := h.sts j hj
    rw [hs] at h2 h3
    simp only at h2 h3
    have : u = v := by omega
    subst this
    have h4 := h.above hf hwb hS hv
    exact ⟨u, hv, hu, by omega⟩
  | edge e y he hy hc ih =>
    have h1 := hf.le hwb hS hc
    by_cases hs : at_ M (src st n e) = at_ F (src st n e)
    · exact .inr ⟨e, he, hs, hu, ext_mono h1.2.2 h1.1 (hwb e).1⟩
    · have h2 := ext_ge (k := k) h1.2.2 (hwb e).1
      rcases ih hs with ⟨z, a, b, c⟩ | ⟨e', a, b, c, d⟩
      · exact .inl ⟨z, a, b, by omega⟩
      · exact .inr ⟨e', a, b, c, by omega⟩
/-- How many of the first m are not settled. -/
def uns (M F : List Int) : Nat → Nat
  | 0 => 0
  | v + 1 => uns M F v + (if at_ M v = at_ F v then 0 else 1)
theorem uns_le (m : Nat) : uns M F m ≤ m := by
  induction m with
  | zero => exact Nat.le_refl _
  | succ m ih => rw [uns]; split <;> omega
theorem uns_mono {m : Nat} (h : ∀ v, v < m → at_ M v = at_ F v → at_ L v = at_ F v) : uns L F m ≤ uns M F m := by
  induction m with
  | zero => exact Nat.le_refl _
  | succ m ih =>
    have h1 := ih (fun v hv => h v (by omega))
    have h2 := h m (by omega)
    rw [uns, uns]
    by_cases h3 : at_ M m = at_ F m
    · rw [if_pos h3, if_pos (h2 h3)]; omega
    · rw [if_neg h3]; split <;> omega
theorem uns_lt {m z : Nat} (h : ∀ v, v < m → at_ M v = at_ F v → at_ L v = at_ F v) (hz : z < m) (h1 : at_ M z ≠ at_ F z) (h2 : at_ L z = at_ F z) : uns L F m < uns M F m := by
  induction m with
  | zero => omega
  | succ m ih =>
    rw [uns, uns]
    rcases Nat.lt_or_ge z m with h3 | h3
    · have h4 := ih (fun v hv => h v (by omega)) h3
      by_cases h5 : at_ M m = at_ F m
      · rw [if_pos h5, if_pos (h m (by omega) h5)]; omega
      · rw [if_neg h5]; split <;> omega
    · obtain rfl : z = m := by omega
      have h4 := uns_mono (M := M) (L := L) (F := F) (m := z) (fun v hv => h v (by omega))
      rw [if_neg h1, if_pos h2]
      omega
/-- Of those that are not settled, one whose least label is least. -/
theorem least_uns : ∀ m : Nat, (∃ v, v < m ∧ at_ M v ≠ at_ F v) → ∃ v, v < m ∧ at_ M v ≠ at_ F v ∧ ∀ u, u < m → at_ M u ≠ at_ F u → at_ F v ≤ at_ F u := by
  intro m
  induction m with
  | zero => rintro ⟨v, hv, _⟩; omega
  | succ m ih =>
    rintro ⟨v, hv, hne⟩
    by_cases h1 : ∃ v, v < m ∧ at_ M v ≠ at_ F v
    · obtain ⟨a, ha, hb, hc⟩ := ih h1
      by_cases h2 : at_ M m ≠ at_ F m ∧ at_ F m < at_ F a
      · refine ⟨m, by omega, h2.1, fun u hu hn => ?_⟩
        rcases Nat.lt_or_ge u m with h3 | h3
        · have := hc u h3 hn; omega
        · obtain rfl : u = m := by omega
          exact Int.le_refl _
      · refine ⟨a, by omega, hb, fun u hu hn => ?_⟩
        rcases Nat.lt_or_ge u m with h3 | h3
        · exact hc u h3 hn
        · obtain rfl : u = m := by omega
          have : ¬ at_ F u < at_ F a := fun h => h2 ⟨hn, h⟩
          omega
    · have hvm : v = m := by
        rcases Nat.lt_or_ge v m with h3 | h3
        · exact absurd ⟨v, h3, hne⟩ h1
        · omega
      subst hvm
      refine ⟨v, by omega, hne, fun u hu hn => ?_⟩
      rcases Nat.lt_or_ge u v with h3 | h3
      · exact absurd ⟨u, h3, hn⟩ h1
      · obtain rfl : u = v := by omega
        exact Int.le_refl _
/-- A round lowers, and an edge's end lies at or below what the edge makes of a settled label. -/
theorem swp_le (hg : Good n st tl wt) (h : LL n st tl wt k S M) (hwb : ∀ e, 0 ≤ at_ wt e ∧ at_ wt e ≤ 18446744073709551615) (hi : i ≤ tl.length) (v : Nat) : at_ (swp n st tl wt k M i) v ≤ at_ M v := by
  induction i with
  | zero => exact Int.le_refl _
  | succ i ih =>
    have h1 := ih (by omega)
    rw [swp]
    by_cases hx : ext k (at_ (swp n st tl wt k M i) (src st n i)) (at_ wt i) < at_ (swp n st tl wt k M i) (tov tl i)
    · rw [if_pos hx]
      obtain ⟨more, h2⟩ := swp_is hg hwb h (show i ≤ tl.length by omega)
      rw [at_set _ _ _ _ (by rw [h2.ll.len]; exact (tov_lt hg (by omega)).1)]
      by_cases e : v = tov tl i
      · rw [if_pos e]; subst e; omega
      · rw [if_neg e]; exact h1
    · rw [if_neg hx]; exact h1
theorem swp_end (hg : Good n st tl wt) (h : LL n st tl wt k S M) (hwb : ∀ e, 0 ≤ at_ wt e ∧ at_ wt e ≤ 18446744073709551615) {e : Nat} (he : e < i) (hi : i ≤ tl.length) : at_ (swp n st tl wt k M i) (tov tl e) ≤ ext k (at_ M (src st n e)) (at_ wt e) := by
  induction i with
  | zero => omega
  | succ i ih =>
    obtain ⟨more, h2⟩ := swp_is hg hwb h (show i ≤ tl.length by omega)
    have hle := swp_le hg h hwb (show i ≤ tl.length by omega) (src st n i)
    have hm := ext_mono (k := k) (h.rng _ (src_lt hg (show i < tl.length by omega))).2 hle (hwb i).1
    rw [swp]
    by_cases hx : ext k (at_ (swp n st tl wt k M i) (src st n i)) (at_ wt i) < at_ (swp n st tl wt k M i) (tov tl i)
    · rw [if_pos hx, at_set _ _ _ _ (by rw [h2.ll.len]; exact (tov_lt hg (by omega)).1)]
      by_cases e2 : tov tl e = tov tl i
      · rw [if_pos e2]
        rcases Nat.lt_or_ge e i with h3 | h3
        · have := ih h3 (by omega); rw [e2] at this; omega
        · obtain rfl : e = i := by omega
          exact hm
      · rw [if_neg e2]
        rcases Nat.lt_or_ge e i with h3 | h3
        · exact ih h3 (by omega)
        · obtain rfl : e = i := by omega
          exact absurd rfl e2
    · rw [if_neg hx]
      rcases Nat.lt_or_ge e i with h3 | h3
      · exact ih h3 (by omega)
      · obtain rfl : e = i := by omega
        omega
/-- Each round settles one vertex more, as long as any is not settled. -/
theorem settles (hg : Good n st tl wt) (h : LL n st tl wt k S M) (hf : Found n st tl wt k S F) (hwb : ∀ e, 0 ≤ at_ wt e ∧ at_ wt e ≤ 18446744073709551615) (hS : ∀ j, j < S.length → 0 ≤ (sAt S j).2 ∧ (sAt S j).2 ≤ 18446744073709551615) (hu : ∃ v, v < n ∧ at_ M v ≠ at_ F v) :
    uns (swp n st tl wt k M tl.length) F n < uns M F n := by
  obtain ⟨v, hv, hne, hmin⟩ := least_uns n hu
  have hle := fun u (hu : u < n) => h.above hf hwb hS hu
  obtain ⟨more, h2⟩ := swp_is hg hwb h (Nat.le_refl tl.length)
  have hFv : at_ F v ≠ Nev := by
    intro hn
    have h3 := hle v hv
    have h4 := (h.rng v hv).2
    omega
  rcases unsettled hg h hf hwb hS (hf.came v hv hFv) hne with ⟨z, a, b, c⟩ | ⟨e, a, b, c, d⟩
  · have := hmin z a b; omega
  · have ht := (tov_lt hg a).1
    have h5 := hmin _ ht c
    have h6 := swp_end hg h hwb a (Nat.le_refl _)
    rw [b] at h6
    have h7 := h2.ll.above hf hwb hS ht
    refine uns_lt (z := tov tl e) (fun u hu2 he => ?_) ht c (by omega)
    have h8 := swp_le hg h hwb (Nat.le_refl _) u
    have h9 := h2.ll.above hf hwb hS hu2
    omega
theorem rnd_ll (hg : Good n st tl wt) (hwb : ∀ e, 0 ≤ at_ wt e ∧ at_ wt e ≤ 18446744073709551615) (h : LL n st tl wt k S L) (j : Nat) : LL n st tl wt k S (rnd n st tl wt k L j) := by
  induction j with
  | zero => exact h
  | succ j ih =>
    obtain ⟨more, h2⟩ := swp_is hg hwb ih (Nat.le_refl tl.length)
    exact h2.ll
/-- No more rounds that change a label than vertices. -/
theorem rnd_few (hg : Good n st tl wt) (hwb : ∀ e, 0 ≤ at_ wt e ∧ at_ wt e ≤ 18446744073709551615) (hS : ∀ j, j < S.length → 0 ≤ (sAt S j).2 ∧ (sAt S j).2 ≤ 18446744073709551615) (h : LL n st tl wt k S L) (j : Nat) (hc : ∀ i, i < j → rnd n st tl wt k L (i + 1) ≠ rnd n st tl wt k L i) : j ≤ n := by
  obtain ⟨F, hf⟩ := found_is hg hwb hS _ L (Nat.le_refl _) h
  have key : ∀ i, i ≤ j → uns (rnd n st tl wt k L i) F n + i ≤ n := by
    intro i
    induction i with
    | zero => intro _; exact uns_le n
    | succ i ih =>
      intro hi
      have h1 := ih (by omega)
      have hl := rnd_ll hg hwb h i
      by_cases hu : ∃ v, v < n ∧ at_ (rnd n st tl wt k L i) v ≠ at_ F v
      · have h2 := settles hg hl hf hwb hS hu
        rw [rnd]
        omega
      · exfalso
        apply hc i (by omega)
        obtain ⟨more, h2⟩ := swp_is hg hwb hl (Nat.le_refl tl.length)
        cases more with
        | false => rw [rnd]; exact (h2.no rfl).1
        | true =>
          have h3 := h2.yes rfl
          have h4 : sm (rnd n st tl wt k L i) n ≤ sm (swp n st tl wt k (rnd n st tl wt k L i) tl.length) n := sm_le fun v hv => by
            have h5 := h2.ll.above hf hwb hS hv
            have h6 : at_ (rnd n st tl wt k L i) v = at_ F v := Decidable.byContradiction fun hn => hu ⟨v, hv, hn⟩
            omega
          omega
  have := key j (Nat.le_refl _)
  omega
/-- The labels of the starts are the only ones. -/
theorem Beg.only (h : Beg n S L S.length) (g : Beg n S M S.length) : L = M := by
  have key : ∀ {A B : List Int}, Beg n S A S.length → Beg n S B S.length → ∀ v, v < n → at_ A v ≤ at_ B v := by
    intro A B ha hb v hv
    by_cases hn : at_ B v = Nev
    · rw [hn]; exact (ha.rng v hv).2
    · obtain ⟨j, hj, hs⟩ := hb.att v hv hn
      obtain ⟨u, hu, h1, h2⟩ := ha.sts j hj
      rw [hs] at h1 h2
      simp only at h1 h2
      have : u = v := by omega
      subst this
      exact h2
  apply List.ext_getElem?
  intro j
  have hL := h.len
  have hM := g.len
  rcases Nat.lt_or_ge j n with hj | hj
  · have h1 := key h g j hj
    have h2 := key g h j hj
    have h3 : at_ L j = at_ M j := by omega
    unfold at_ at h3
    rw [List.getElem?_eq_getElem (by omega), List.getElem?_eq_getElem (by omega)] at h3 ⊢
    simp only [Option.getD_some] at h3
    rw [h3]
  · rw [List.getElem?_eq_none (by omega), List.getElem?_eq_none (by omega)]
end
end Go.Proofs.Ytehlciejhegndaa
