import Derived.Test.YteblkbneghbcbaaIoK
import Derived.Test.YteblkbneghbcbaaMq
import Derived.Test.YteblkbneghbcbaaPtG
import Derived.Test.YteblkbneghbcbaaNp2
import Derived.Test.YteblkbneghbcbaaBr
/- Condense. -/
namespace Go.Proofs.Yteblkbneghbcbaa
open Go.RowKit Go.Lib
set_option linter.unusedVariables false
set_option linter.unusedSimpArgs false
theorem EAt.of_owns {w : World} {B : Nat} {v : Value} {l : List Ed3} (h : w.ownsRow B 60 3 v l.length (eCells l)) : EAt w v l := by
  obtain ⟨h0, ⟨rfl, hn⟩ | ⟨g, cap, cur, rfl, hg, hc, h1, h2, h3, h4⟩⟩ := h
  · obtain rfl : l = [] := List.eq_nil_of_length_eq_zero hn
    exact ⟨none, 0, rfl, Nat.le_refl _, by decide, fun i hi => absurd hi (Nat.not_lt_zero _)⟩
  · refine ⟨_, cap, rfl, h1, h2, fun i hi => ⟨g, 0, rfl, ?_⟩⟩
    obtain ⟨p, q, r⟩ := eCells_at l i hi
    rw [← h4, List.getElem?_take_of_lt (by omega)] at p q r
    rw [Nat.zero_add]
    exact ⟨cell_of hc (by simpa using p), cell_of hc (by simpa using q), cell_of hc (by simpa using r)⟩
theorem cntL_mono {B : Nat → Nat → Prop} {j k : Nat} (h : j ≤ k) : cntL B j ≤ cntL B k := by
  induction k with
  | zero => have : j = 0 := by omega
            subst this; exact Nat.le_refl _
  | succ k ih =>
    rcases Nat.lt_or_ge j (k + 1) with h1 | h1
    · have := ih (by omega)
      rw [cntL_succ]; omega
    · have : j = k + 1 := by omega
      subst this; exact Nat.le_refl _
theorem numb_lt {B : Nat → Nat → Prop} (hE : Eqv B) {n v : Nat} (hv : v < n) : numb B v < cntL B n := by
  have h1 := (lea_spec hE v).1
  have h2 := cntL_mono (B := B) (show lea B v + 1 ≤ n by omega)
  rw [cntL_succ, if_pos (lea_lea hE v)] at h2
  unfold numb
  omega
/-- The lightest edges between the parts of a graph. -/
noncomputable def lwG (n : Nat) (st tl wt : List Int) : Nat → Nat → Option Int := lwt (fun e => numb (BG n st tl) (src st n e)) (fun e => numb (BG n st tl) (tN tl e)) (fun e => at_ wt e) tl.length
noncomputable def edG (n : Nat) (st tl wt : List Int) : List Ed3 := kE (lwG n st tl wt) (cntL (BG n st tl) n) (cntL (BG n st tl) n)
theorem edG_takes {n : Nat} {st tl wt : List Int} (hg : Good n st tl wt) (hw : ∀ e, 0 ≤ at_ wt e) : Takes (cntL (BG n st tl) n) (edG n st tl wt) := by
  have hm : (edG n st tl wt).length ≤ tl.length := kE_few
  have hin : ∀ i, i < (edG n st tl wt).length → ∃ p q x, p < cntL (BG n st tl) n ∧ q < cntL (BG n st tl) n ∧ lwG n st tl wt p q = some x ∧ eAt (edG n st tl wt) i = ((p : Int), (q : Int), x) := fun i hi => by
    obtain ⟨p, hp, q, hq, x, hx, hE⟩ := mem_kE.1 (List.getElem_mem hi)
    exact ⟨p, q, x, hp, hq, hx, by unfold eAt; rw [List.getElem?_eq_getElem hi, hE]; rfl⟩
  refine ⟨Nat.le_trans (cntL_le _) hg.n_le, Nat.le_trans hm hg.m_le, fun i hi => ?_, fun i hi => ?_, fun i hi => ?_⟩
  · obtain ⟨p, q, x, hp, hq, hx, hE⟩ := hin i hi
    rw [hE]; simp only; omega
  · obtain ⟨p, q, x, hp, hq, hx, hE⟩ := hin i hi
    rw [hE]; simp only; omega
  · obtain ⟨p, q, x, hp, hq, hx, hE⟩ := hin i hi
    rw [hE]
    simp only
    obtain ⟨_, j, hj, _, _, h4⟩ := lwt_val (F := fun e => numb (BG n st tl) (src st n e)) (T := fun e => numb (BG n st tl) (tN tl e)) (Wt := fun e => at_ wt e) (k := tl.length) (p := p) (q := q) (by have := hx; unfold lwG at this; rw [this]; simp)
    have h5 : some x = some (at_ wt j) := by rw [← hx]; exact h4
    injection h5 with h5
    rw [h5]
    exact ⟨hw j, (hg.vtx j hj).2.2⟩
/-- What Condense answers. -/
def CdW (w : World) (N : Int) (st tl wt : List Int) (e : Ending) (w' : World) : Prop :=
  Below w.heap.size w w' ∧ ((∃ n : Nat, N = n ∧ Good n st tl wt ∧ ∃ va vb vc st' tl' wt' nx pv, e = .returned (.tuple #[gAgg (cntL (BG n st tl) n : Nat) va vb vc, pv, .int .i64 0]) ∧ GIs w' (cntL (BG n st tl) n : Nat) va vb vc st' tl' wt' ∧ Summed (cntL (BG n st tl) n) (edG n st tl wt).length (eFrom (edG n st tl wt)) (cntL (BG n st tl) n) st' ∧ Laying (cntL (BG n st tl) n) (edG n st tl wt).length (eFrom (edG n st tl wt)) (eTo (edG n st tl wt)) (eWt (edG n st tl wt)) (edG n st tl wt).length nx tl' wt' ∧ RowAt .i64 w' pv (tab n (fun v => (numb (BG n st tl) v : Int)))) ∨
    ((chk N st tl wt).1 ≠ 0 ∧ e = .returned (.tuple #[gAgg 0 (.slice none 0 0) (.slice none 0 0) (.slice none 0 0), .slice none 0 0, .int .i64 (chk N st tl wt).1])))
theorem Try.results17 : Try.f17.results = #[.cell 2 25, .tmp 3, .tmp 4] := by kernel_rfl
set_option maxHeartbeats 8000000 in
set_option maxRecDepth 100000 in
theorem condense_any (N : Int) (va vb vc : Value) (st tl wt : List Int) (w : World) (hg : GIs w N va vb vc st tl wt) (hst : st.length ≤ 17592186044416) (hto : tl.length ≤ 17592186044416) (hwt : wt.length ≤ 17592186044416) (hw : ∀ e, 0 ≤ at_ wt e) :
    Calls Try.prog 17 #[gAgg N va vb vc] w (CdW w N st tl wt) := by
  obtain ⟨W, hW⟩ : ∃ W, W = (w.alloc (.cells #[.int .i64 N, va, vb, vc] 25)).alloc (.cells #[.int .i64 0, .slice none 0 0, .slice none 0 0, .slice none 0 0] 25) := ⟨_, rfl⟩
  have hMT : MT w W N va vb vc := by rw [hW]; exact MT.start w N va vb vc
  have HMT := hide hMT; have HG := hide hg; have HW := hide hw
  have HCk := hide (check_all N va vb vc st tl wt W (hg.below hMT.bel) hst hto hwt)
  obtain ⟨r1, r2, hr⟩ : ∃ r1 r2, (r1, r2) = chk N st tl wt := ⟨_, _, rfl⟩
  have HR := hide hr
  unfold ChkPost at HCk
  rw [← hr] at HCk
  have p0 := cell_of hMT.bg (i := 0) rfl
  have p1 := cell_of hMT.bg (i := 1) rfl
  have p2 := cell_of hMT.bg (i := 2) rfl
  have p3 := cell_of hMT.bg (i := 3) rfl
  clear hg hr hw hMT
  unfold gAgg at *
  go_enter Try.func17, Try.ntmps17
  go_upto_region 1 with fail
  rw [← hW]
  clear hW
  go_wp2_with fail
  refine HCk.out.mono ?_
  rintro e w1 ⟨rfl, hb1⟩
  have HM1 := hide (HMT.out.below hb1)
  clear p0 p1 p2 p3 hb1 HMT HCk
  have p0 := cell_of HM1.out.bg (i := 0) rfl
  have p1 := cell_of HM1.out.bg (i := 1) rfl
  have p2 := cell_of HM1.out.bg (i := 2) rfl
  have p3 := cell_of HM1.out.bg (i := 3) rfl
  by_cases hz : r1 = 0
  · subst hz
    have hc0 : (chk N st tl wt).1 = 0 := by rw [← HR.out]
    obtain ⟨n, rfl, hgood⟩ := chk_good hc0
    have HTo := hide (together_any n va vb vc st tl wt w1 (HG.out.below HM1.out.bel) hgood HW.out)
    have hnl := hgood.n_le
    unfold gAgg at HTo
    have HGD := hide hgood; have HNL := hide hnl
    clear hc0
    go_wp2_with fail
    refine HTo.out.mono ?_
    rintro e w2 ⟨A, G, rfl, harr, hA2, hb2, hg1, hg2⟩
    have HM2 := hide (HM1.out.below hb2)
    have HNu := hide (numbered_new n (.slice (some ⟨A, 0, none⟩) n n) (tab n G) (BG n st tl) w2 hnl (tab_length n G) (harr.row (tab_length n G) (by omega)) (Bo.eqv _) (fun v hv => by rw [tab_at n G v hv]; exact hg1 v hv) (fun u v hu hv => by rw [tab_at n G u hu, tab_at n G v hv]; exact hg2 u v hu hv))
    clear p0 p1 p2 p3 hb2 harr hg1 hg2 HTo HM1 hnl hgood
    go_wp2_with fail
    refine HNu.out.mono ?_
    rintro e w3 ⟨Pb, rfl, harr3, hPb, hb3⟩
    have hrow := harr3.row (tab_length n _) (by have := HNL.out; omega)
    have HM3 := hide (HM2.out.below hb3); have HRow := hide harr3
    have HPb : Hid (w.heap.size + 1 < Pb) := by show _ < _; have := lt_of_heap HM2.out.rs; omega
    obtain ⟨c, hc⟩ : ∃ c, c = cntL (BG n st tl) n := ⟨_, rfl⟩
    rw [← hc]
    have HC := hide hc
    have HCL : Hid (c ≤ 1048576) := by show _ ≤ _; rw [hc]; exact Nat.le_trans (cntL_le _) HNL.out
    have HLi := hide (lightest_any n c va vb vc (.slice (some ⟨Pb, 0, none⟩) n n) st tl wt (numb (BG n st tl)) w3 (HG.out.below HM3.out.bel) HGD.out hrow (fun v hv => by rw [hc]; exact numb_lt (Bo.eqv _) hv) HCL.out HW.out)
    have p0 := cell_of HM3.out.bg (i := 0) rfl
    have p1 := cell_of HM3.out.bg (i := 1) rfl
    have p2 := cell_of HM3.out.bg (i := 2) rfl
    have p3 := cell_of HM3.out.bg (i := 3) rfl
    unfold gAgg at HLi
    clear hb3 hrow harr3 hPb HNu HM2 hc
    go_wp2_with fail
    refine HLi.out.mono ?_
    rintro e w4 ⟨Mb, rfl, hMb, hmp, hb4⟩
    have HM4 := hide (HM3.out.below hb4); have HR4 : Hid (Arr w4 Pb _) := (hb4.block _ (lt_of_heap HRow.out)).trans HRow.out
    have HIo := hide (inOrder_any w4 Mb tl.length c (lwG n st tl wt) hmp HCL.out HGD.out.m_le (by rw [HC.out]; exact Nat.le_trans kE_few HGD.out.m_le))
    rw [show kE (lwG n st tl wt) c c = edG n st tl wt by rw [HC.out]; rfl] at HIo
    clear p0 p1 p2 p3 hmp hb4 HLi HM3
    go_wp2_with fail
    refine HIo.out.mono ?_
    rintro e w5 ⟨ev, rfl, hown5, hb5⟩
    have HM5 := hide (HM4.out.below hb5); have HR5 : Hid (Arr w5 Pb _) := (hb5.block _ (lt_of_heap HR4.out)).trans HR4.out
    obtain ⟨eo, ec, rfl⟩ : ∃ eo ec, ev = .slice eo (edG n st tl wt).length ec := by
      obtain ⟨_, ⟨rfl, h0⟩ | ⟨g, cap, cur, rfl, _⟩⟩ := hown5
      · exact ⟨_, _, by rw [h0]⟩
      · exact ⟨_, _, rfl⟩
    have HBu := hide (build_good c eo ec (edG n st tl wt) w5 (EAt.of_owns hown5) (by rw [HC.out]; exact edG_takes HGD.out HW.out))
    clear hown5 hb5 HIo HM4
    go_wp2_with fail
    refine HBu.out.mono ?_
    rintro e w6 ⟨va6, vb6, vc6, st6, tl6, wt6, nx6, rfl, hgi6, hsm6, hly6, hb6⟩
    have HM6 := hide (HM5.out.below hb6); have HR6 : Hid (Arr w6 Pb _) := (hb6.block _ (lt_of_heap HR5.out)).trans HR5.out; have HLT5 := hide (lt_of_heap HM5.out.rs); have HGZ := hide hgi6; have HGI6 := hide (hgi6 w6 (Nat.le_refl _) (fun _ _ _ => rfl)); have HSL := hide (And.intro hsm6 hly6)
    obtain ⟨ao6, ca6, rfl⟩ := HGI6.out.s.shape
    obtain ⟨bo6, cb6, rfl⟩ := HGI6.out.t.shape
    obtain ⟨co6, cc6, rfl⟩ := HGI6.out.u.shape
    clear hgi6 hsm6 hly6 hb6 HBu HM5
    unfold gAgg
    obtain ⟨w7, hw7⟩ : ∃ w7, w7 = w6.alloc (.cells #[.int .i64 (c : Int), .slice ao6 st6.length ca6, .slice bo6 tl6.length cb6, .slice co6 wt6.length cc6] 25) := ⟨_, rfl⟩
    have hb7 : Below w6.heap.size w6 w7 := by rw [hw7]; exact below_alloc (Below.refl _ _) _
    have HM7 := hide (HM6.out.below hb7)
    have HB7 := hide hb7
    have r0 := cell_of HM7.out.rs (i := 0) rfl
    have r1 := cell_of HM7.out.rs (i := 1) rfl
    have r2' := cell_of HM7.out.rs (i := 2) rfl
    have r3 := cell_of HM7.out.rs (i := 3) rfl
    have q0 := free_of HM7.out.rs 0
    have q1 := free_of HM7.out.rs 1
    have q2 := free_of HM7.out.rs 2
    have q3 := free_of HM7.out.rs 3
    clear hb7
    go_upto_region 6 with fail
    rw [← hw7]
    have hn7 : w7.heap[w6.heap.size]? = some (.cells #[.int .i64 (c : Int), .slice ao6 st6.length ca6, .slice bo6 tl6.length cb6, .slice co6 wt6.length cc6] 25 (0, 0)) := by rw [hw7]; exact heap_new _ _
    have n0 := cell_of hn7 (i := 0) rfl
    have n1 := cell_of hn7 (i := 1) rfl
    have n2 := cell_of hn7 (i := 2) rfl
    have n3 := cell_of hn7 (i := 3) rfl
    clear hw7 hn7
    go_wp2_with fail
    have HPU := HM7.out.put (.int .i64 (c : Int)) (.slice ao6 st6.length ca6) (.slice bo6 tl6.length cb6) (.slice co6 wt6.length cc6)
    have hc := HC.out
    subst hc
    refine bodyPost_ret (results_cell3 Try.results17 _ _ (w.heap.size + 1) 25 _ (0, 0) _ rfl HPU.1 Try.underlying25 rfl (by kernel_rfl) (.slice (some ⟨Pb, 0, none⟩) n n) (.int .i64 0) rfl rfl) rfl ⟨HPU.2.1, .inl ⟨n, rfl, HGD.out, _, _, _, _, _, _, nx6, _, rfl, HGZ.out _ ?_ ?_, HSL.out.1, HSL.out.2, ?_⟩⟩
    · simp only [World.setCell, Array.size_modify]; exact HB7.out.size
    · intro k hk1 hk2
      rw [HPU.2.2 k (by have := HLT5.out; omega)]
      exact HB7.out.block k hk2
    · have h1 : Arr w7 Pb (tab n (fun v => (numb (BG n st tl) v : Int))) := (HB7.out.block _ (lt_of_heap HR6.out)).trans HR6.out
      exact Arr.row ((HPU.2.2 Pb (by have := HPb.out; omega)).trans h1) (tab_length n _) (by have := HNL.out; omega)
  · have hzb : (r1 != 0) = true := by simpa using hz
    have HAns : Hid ((chk N st tl wt).1 = r1) := by rw [← HR.out]; exact hide rfl
    have HZ := hide hz
    have t0 := cell_of HM1.out.rs (i := 0) rfl
    have t1 := cell_of HM1.out.rs (i := 1) rfl
    have t2 := cell_of HM1.out.rs (i := 2) rfl
    have t3 := cell_of HM1.out.rs (i := 3) rfl
    have q0 := free_of HM1.out.rs 0
    have q1 := free_of HM1.out.rs 1
    have q2 := free_of HM1.out.rs 2
    have q3 := free_of HM1.out.rs 3
    clear hz
    go_wp2_with fail
    have HPU := HM1.out.put (.int .i64 0) (.slice none 0 0) (.slice none 0 0) (.slice none 0 0)
    refine bodyPost_ret (results_cell3 Try.results17 _ _ (w.heap.size + 1) 25 _ (0, 0) _ rfl HPU.1 Try.underlying25 rfl (by kernel_rfl) (.slice none 0 0) (.int .i64 r1) rfl rfl) rfl ⟨HPU.2.1, .inr ⟨?_, ?_⟩⟩
    · rw [HAns.out]; exact HZ.out
    · rw [HAns.out]; rfl
end Go.Proofs.Yteblkbneghbcbaa

/- The document's Condense: count, and what it has in memory. -/
namespace Go.Proofs.Yteblkbneghbcbaa
open Go.RowKit Go.Lib
set_option linter.unusedVariables false
set_option linter.unusedSimpArgs false
theorem numb_old {B : Nat → Nat → Prop} (hE : Eqv B) {k : Nat} (h : lea B k ≠ k) : numb B k + 1 ≤ cntL B k := by
  have h1 := (lea_spec hE k).1
  have h2 := cntL_mono (B := B) (show lea B k + 1 ≤ k by omega)
  rw [cntL_succ, if_pos (lea_lea hE k)] at h2
  exact h2
set_option maxRecDepth 100000 in
set_option maxHeartbeats 2000000 in
theorem count_any (n : Nat) (pv : Value) (B : Nat → Nat → Prop) (hE : Eqv B) (hn : n ≤ 1048576) (w : World) (h : RowAt .i64 w pv (tab n (fun v => (numb B v : Int)))) :
    Calls Try.prog 47 #[pv] w fun e w' => e = .returned (.int .i64 (cntL B n : Int)) ∧ w' = w := by
  obtain ⟨po, pc, rfl⟩ := h.shape
  rw [tab_length] at h ⊢
  have H := hide h; have HE := hide hE; have HN := hide hn
  clear h hE
  go_enter Try.func47, Try.ntmps47
  go_wp2_with fail
  go_loopw [3, 4] (fun t u wr => ∃ k : Nat, u = .int .i64 (k : Int) ∧ k ≤ n ∧ t = .int .i64 (cntL B k : Int) ∧ wr = w) (fun _ u _ => n - (RowKit.intOf u).toNat)
  case atStart => exact ⟨0, rfl, Nat.zero_le _, rfl, rfl⟩
  case round =>
    obtain ⟨k, rfl, hk, rfl, hww⟩ := hrel
    subst hww
    by_cases hlt : k < n
    · obtain ⟨g, o, c, he, _, d⟩ := H.out.cellAt k (by rw [tab_length]; exact hlt)
      rw [tab_length] at he
      simp only [Value.slice.injEq, true_and] at he
      obtain ⟨rfl, rfl⟩ := he
      rw [tab_at n _ k hlt] at d
      have hki : (k : Int) < (n : Int) := by omega
      by_cases hl : lea B k = k
      · have h1 : numb B k = cntL B k := numb_new hl
        have h2 : cntL B (k + 1) = cntL B k + 1 := by rw [cntL_succ, if_pos hl]
        have hcb : cntL B k ≤ 1048576 := Nat.le_trans (cntL_le k) (by have := HN.out; omega)
        rw [h1] at d
        obtain ⟨x, hx⟩ : ∃ x, x = cntL B k := ⟨_, rfl⟩
        rw [← hx] at d hcb h2 ⊢
        have H2 := hide h2
        have hgt : (x : Int) < (x : Int) + 1 := by omega
        clear h1 h2 hx hl
        go_wp2_with fail
        exact ⟨⟨k + 1, by simp, by omega, by rw [H2.out]; simp, by first | rfl | trivial⟩, by simp [RowKit.intOf]; omega⟩
      · have h1 := numb_old HE.out hl
        have h2 : cntL B (k + 1) = cntL B k := by rw [cntL_succ, if_neg hl]; rfl
        have hcb : cntL B k ≤ 1048576 := Nat.le_trans (cntL_le k) (by have := HN.out; omega)
        obtain ⟨x, hx⟩ : ∃ x, x = cntL B k := ⟨_, rfl⟩
        obtain ⟨y, hy⟩ : ∃ y, y = numb B k := ⟨_, rfl⟩
        rw [← hx] at hcb h2 h1 ⊢
        rw [← hy] at d h1
        have H2 := hide h2
        have hgt : ¬ (x : Int) < (y : Int) + 1 := by omega
        have hyb : y ≤ 1048576 := by omega
        clear h1 h2 hx hy hl
        go_wp2_with fail
        exact ⟨⟨k + 1, by simp, by omega, by rw [H2.out], by first | rfl | trivial⟩, by simp [RowKit.intOf]; omega⟩
    · obtain rfl : n = k := by omega
      go_wp2_with fail
      go_ret
      exact ⟨rfl, rfl⟩
/-- Rows of other parts add nothing. -/
theorem lwt_row {F T : Nat → Nat} {Wt : Nat → Int} {p a b : Nat} (hab : a ≤ b) (h : ∀ e, a ≤ e → e < b → F e ≠ p) (q : Nat) : lwt F T Wt b p q = lwt F T Wt a p q := by
  induction b with
  | zero => have : a = 0 := by omega
            subst this; rfl
  | succ b ih =>
    rcases Nat.lt_or_ge a (b + 1) with h1 | h1
    · rw [lwt_other (fun hc => h b (by omega) (by omega) hc.1)]
      exact ih (by omega) (fun e h2 h3 => h e h2 (by omega))
    · have : a = b + 1 := by omega
      subst this; rfl
end Go.Proofs.Yteblkbneghbcbaa

/- The document's Condense. -/
namespace Go.Proofs.Yteblkbneghbcbaa
open Go.RowKit Go.Lib
set_option linter.unusedVariables false
set_option linter.unusedSimpArgs false
theorem run_makeUL (k : Nat) (hk : k ≤ 4194305) (w : World) :
    (Instr.makeSlice 23 (.int .i64 k) (.int .i64 k)).run Try.prog w = .ok (.slice (some ⟨w.heap.size, 0, none⟩) k k) (w.alloc (.cells (madeCells #[.int .u64 0] k) 58)) := by
  obtain ⟨i0, hi, hz0, hz1, hz2⟩ := info_parts Try.info58
  have h := run_make (P := Try.prog) w 23 58 i0 (.int .u64 0) Try.underlying23 hi hz0 .i64 .i64 k k (by omega) (Int.le_refl _) (by rw [hz2]; omega) (by omega)
  rw [hz1] at h
  simp only [Int.toNat_natCast, Nat.mul_one] at h
  exact h
/-- The edges so far, in their box. -/
structure D1 (w2 wr : World) (c : Nat) (ev : Value) (E : List Ed3) : Prop where
  bel : Below w2.heap.size w2 wr
  rbx : wr.heap[w2.heap.size]? = some (.cells #[.int .i64 (c : Int), ev] 55 (0, 0))
  own : wr.ownsRow (w2.heap.size + 1) 60 3 ev E.length (eCells E)
/-- And what a row has: which parts, and the lightest. -/
structure D2 (w2 wr : World) (c Hb Bb : Nat) (ev : Value) (E : List Ed3) (h : Nat → Option Int) : Prop where
  d1 : D1 w2 wr c ev E
  hb : BArr wr Hb (btab c (fun q => (h q).isSome))
  bb : ArrU wr Bb (tab c (fun q => (h q).getD 0))
  lo : w2.heap.size < Hb ∧ w2.heap.size < Bb
section
variable {w2 wr X : World} {c Hb Bb : Nat} {ev : Value} {E : List Ed3} {h : Nat → Option Int}
theorem D1.on (d : D1 w2 wr c ev E) (hb : Below wr.heap.size wr X) : D1 w2 X c ev E :=
  ⟨below_on d.bel hb, (hb.block _ (lt_of_heap d.rbx)).trans d.rbx, own_chg (S := fun _ => False) d.own (Chg.of_below hb) (fun _ _ h => h)⟩
theorem D2.on (d : D2 w2 wr c Hb Bb ev E h) (hb : Below wr.heap.size wr X) : D2 w2 X c Hb Bb ev E h :=
  ⟨d.d1.on hb, (hb.block _ (lt_of_heap d.hb)).trans d.hb, (hb.block _ (lt_of_heap d.bb)).trans d.bb, d.lo⟩
theorem D2.ne (d : D2 w2 wr c Hb Bb ev E h) : Hb ≠ Bb ∧ some Hb ≠ ev.ownBlock ∧ some Bb ≠ ev.ownBlock := by
  refine ⟨fun e => ?_, own_block_ne d.d1.own d.hb (by decide), own_block_ne d.d1.own d.bb (by decide)⟩
  have h1 := d.hb
  have h2 := d.bb
  unfold BArr at h1
  unfold ArrU at h2
  rw [e, h2] at h1
  simp only [Option.some.injEq, Obj.cells.injEq] at h1
  exact absurd h1.2.1 (by decide)
theorem D1.chg {S : Nat → Prop} (d : D1 w2 wr c ev E) (hc : Chg S wr X) (h1 : ∀ k, S k → w2.heap.size < k) (h2 : ∀ k, ev.ownBlock = some k → ¬ S k) : D1 w2 X c ev E :=
  ⟨Chg.below d.bel hc (fun k hk => Nat.le_of_lt (h1 k hk)) d.bel.size, hc.heap d.rbx (fun hs => by have := h1 _ hs; omega), own_chg d.own hc h2⟩
/-- Part q has an edge of weight x now. -/
theorem D2.put (d : D2 w2 wr c Hb Bb ev E h) (q : Nat) (x : Int) {h' : Nat → Option Int} (hh : h' = fun r => if r = q then some x else h r) : D2 w2 ((wr.setCell ⟨Hb, q, none⟩ (.bool true)).setCell ⟨Bb, q, none⟩ (.int .u64 x)) c Hb Bb ev E h' := by
  subst hh
  obtain ⟨n1, n2, n3⟩ := d.ne
  have c1 : Chg (fun k => k = Hb) wr (wr.setCell ⟨Hb, q, none⟩ (.bool true)) := (Chg.refl (fun k => k = Hb) wr).setCell (p := ⟨Hb, q, none⟩) rfl _
  have c2 : Chg (fun k => k = Bb) (wr.setCell ⟨Hb, q, none⟩ (.bool true)) ((wr.setCell ⟨Hb, q, none⟩ (.bool true)).setCell ⟨Bb, q, none⟩ (.int .u64 x)) := (Chg.refl (fun k => k = Bb) _).setCell (p := ⟨Bb, q, none⟩) rfl _
  have d1 := (d.d1.chg c1 (fun k hk => by rw [hk]; exact d.lo.1) (fun k hk e => n2 (by rw [← e]; exact hk.symm))).chg c2 (fun k hk => by rw [hk]; exact d.lo.2) (fun k hk e => n3 (by rw [← e]; exact hk.symm))
  refine ⟨d1, ?_, ?_, d.lo⟩
  · have h1 := d.hb.put q true
    have h2 : BArr ((wr.setCell ⟨Hb, q, none⟩ (.bool true)).setCell ⟨Bb, q, none⟩ (.int .u64 x)) Hb _ := c2.heap h1 n1
    have e : (fun v => if v = q then true else (h v).isSome) = (fun r => (if r = q then some x else h r).isSome) := by
      funext r; by_cases e : r = q <;> simp [e]
    rw [e] at h2
    exact h2
  · have h1 : ArrU (wr.setCell ⟨Hb, q, none⟩ (.bool true)) Bb _ := c1.heap d.bb (fun e => n1 e.symm)
    have h2 := h1.put q x
    rw [tab_set] at h2
    have e : (fun v => if v = q then x else (h v).getD 0) = (fun r => (if r = q then some x else h r).getD 0) := by
      funext r; by_cases e : r = q <;> simp [e]
    rw [e] at h2
    exact h2
end
theorem made_ul (n : Nat) : madeCells #[.int .u64 0] n = uCells (tab n (fun _ => 0)) := by
  apply Array.ext'
  simp [madeCells, uCells, tab]
  intro i hi
  simp [Nat.mod_one]
theorem D1.rows {w2 wr : World} {c : Nat} {ev : Value} {E : List Ed3} (d : D1 w2 wr c ev E) : D2 w2 ((wr.alloc (.cells (madeCells #[.bool false] c) 4)).alloc (.cells (madeCells #[.int .u64 0] c) 58)) c wr.heap.size (wr.heap.size + 1) ev E (fun _ => none) := by
  have h1 := lt_of_heap d.rbx
  have hb : Below wr.heap.size wr ((wr.alloc (.cells (madeCells #[.bool false] c) 4)).alloc (.cells (madeCells #[.int .u64 0] c) 58)) := below_alloc (below_alloc (Below.refl _ _) _) _
  refine ⟨d.on hb, ?_, ?_, by omega, by omega⟩
  · have := heap_new wr (.cells (madeCells #[.bool false] c) 4)
    rw [made_bar] at this
    exact (Below.heap_alloc _ _ _ (by simp)).trans (by rw [made_bar]; exact this)
  · have := heap_new (wr.alloc (.cells (madeCells #[.bool false] c) 4)) (.cells (madeCells #[.int .u64 0] c) 58)
    rw [World.size_alloc, made_ul] at this
    rw [made_ul]
    exact this
theorem lwt_at {F T : Nat → Nat} {Wt : Nat → Int} {k P Q : Nat} {x : Int} (h : lwt F T Wt (k + 1) = fun a b => if a = P ∧ b = Q then some x else lwt F T Wt k a b) : (fun q => lwt F T Wt (k + 1) P q) = fun r => if r = Q then some x else (fun q => lwt F T Wt k P q) r := by
  funext r
  rw [h]
  simp
theorem D2.more {w2 wr X Y : World} {c Hb Bb g cap k : Nat} {ev : Value} {E : List Ed3} {h : Nat → Option Int} {x : Ed3} (d : D2 w2 wr c Hb Bb ev E h) (hk : k = E.length) (hb : Below wr.heap.size wr X) (hg : X.grownBy Y ev.ownBlock) (hown : Y.ownsRow (w2.heap.size + 1) 60 3 (.slice (some ⟨g, 0, none⟩) (k + 1) cap) (k + 1) (eCells E ++ [.int .i64 x.1, .int .i64 x.2.1, .int .u64 x.2.2])) :
    (Y.cell? ⟨w2.heap.size, 1, none⟩ = some ev ∧ Y.frozen? ⟨w2.heap.size, 1, none⟩ = false) ∧ D2 w2 (Y.setCell ⟨w2.heap.size, 1, none⟩ (.slice (some ⟨g, 0, none⟩) (k + 1) cap)) c Hb Bb (.slice (some ⟨g, 0, none⟩) (k + 1) cap) (E ++ [x]) h := by
  obtain ⟨n1, n2, n3⟩ := d.ne
  have hlt : ∀ j, ev.ownBlock = some j → w2.heap.size + 1 ≤ j := fun j hj => (World.ownsRow.lt d.d1.own j hj).1
  have hc : Chg (fun j => ev.ownBlock = some j) wr Y := (Chg.of_below hb).grown hg (fun j hj => .inl hj)
  have hY := hc.heap d.d1.rbx (fun hh => by have := hlt _ hh; omega)
  have hgl : w2.heap.size + 1 ≤ g := (World.ownsRow.lt hown g rfl).1
  have h3 : Chg (fun j => j = w2.heap.size) Y (Y.setCell ⟨w2.heap.size, 1, none⟩ (.slice (some ⟨g, 0, none⟩) (k + 1) cap)) := (Chg.refl (fun j => j = w2.heap.size) Y).setCell (p := ⟨w2.heap.size, 1, none⟩) rfl _
  refine ⟨⟨cell_of hY rfl, free_of hY 1⟩, ⟨⟨?_, heap_set hY _, ?_⟩, ?_, ?_, d.lo⟩⟩
  · exact Chg.below (Chg.below d.d1.bel hc (fun j hj => by have := hlt j hj; omega) d.d1.bel.size) h3 (fun j hj => by omega) (Nat.le_trans d.d1.bel.size hc.size)
  · rw [List.length_append, List.length_singleton, ← hk, show eCells (E ++ [x]) = eCells E ++ [.int .i64 x.1, .int .i64 x.2.1, .int .u64 x.2.2] by simp [eCells]]
    exact own_chg (S := fun j => j = w2.heap.size) hown h3 (fun j hj => by cases hj; show ¬ g = w2.heap.size; omega)
  · exact h3.heap (hc.heap d.hb (fun hh => n2 hh.symm)) (by have := d.lo.1; omega)
  · exact h3.heap (hc.heap d.bb (fun hh => n3 hh.symm)) (by have := d.lo.2; omega)
theorem Try.results18 : Try.f18.results = #[.cell 2 25, .tmp 3, .tmp 4] := by kernel_rfl
set_option maxHeartbeats 16000000 in
set_option maxRecDepth 100000 in
theorem condenseR_any (N : Int) (va vb vc : Value) (st tl wt : List Int) (w : World) (hg : GIs w N va vb vc st tl wt) (hst : st.length ≤ 17592186044416) (hto : tl.length ≤ 17592186044416) (hwt : wt.length ≤ 17592186044416) (hw : ∀ e, 0 ≤ at_ wt e) :
    Calls Try.prog 18 #[gAgg N va vb vc] w (CdW w N st tl wt) := by
  obtain ⟨i0, hi, hz0, hz1, hz2⟩ := info_parts Try.info60
  obtain ⟨W, hW⟩ : ∃ W, W = (w.alloc (.cells #[.int .i64 N, va, vb, vc] 25)).alloc (.cells #[.int .i64 0, .slice none 0 0, .slice none 0 0, .slice none 0 0] 25) := ⟨_, rfl⟩
  have hMT : MT w W N va vb vc := by rw [hW]; exact MT.start w N va vb vc
  have HMT := hide hMT; have HG := hide hg; have HW := hide hw
  have HPa := hide (partsR_any N va vb vc st tl wt W (hg.below hMT.bel) hst hto hwt hw)
  have p0 := cell_of hMT.bg (i := 0) rfl
  have p1 := cell_of hMT.bg (i := 1) rfl
  have p2 := cell_of hMT.bg (i := 2) rfl
  have p3 := cell_of hMT.bg (i := 3) rfl
  clear hg hw hMT
  unfold gAgg at *
  by_cases hz : (chk N st tl wt).1 = 0
  · obtain ⟨n, rfl, hgood⟩ := chk_good hz
    have HPa2 := hide (partsR_new n _ _ _ st tl wt W (HG.out.below HMT.out.bel) hgood HW.out)
    unfold gAgg at HPa2
    clear HPa
    have HGD := hide hgood; have HNL := hide hgood.n_le; have HML := hide hgood.m_le
    obtain ⟨ga, oa, ca, rfl, hca, _⟩ := HG.out.s.cellAt 0 (by rw [hgood.s_len]; omega)
    obtain ⟨bo, cb, rfl⟩ := HG.out.t.shape
    obtain ⟨co, cc, rfl⟩ := HG.out.u.shape
    clear hz hgood hca
    go_enter Try.func18, Try.ntmps18
    go_upto_region 1 with fail
    rw [← hW]
    clear hW
    go_wp2_with fail
    refine HPa2.out.mono ?_
    rintro e w1 ⟨Pb, rfl, harr, hPb, hb1⟩
    obtain ⟨po, pc, hsl, hrow⟩ : ∃ po pc, Value.slice (some ⟨Pb, 0, none⟩) n n = .slice po n pc ∧ RowAt .i64 w1 (.slice po n pc) (tab n (fun v => (numb (BG n st tl) v : Int))) := ⟨_, _, rfl, harr.row (tab_length n _) (by have := HNL.out; omega)⟩
    rw [hsl]
    have HSL0 := hide hsl; have HARR := hide harr
    have HPB : Hid (w.heap.size + 1 < Pb) := by show _ < _; have := lt_of_heap HMT.out.rs; omega
    have HM1 := hide (HMT.out.below hb1); have HRow := hide hrow
    have HCo := hide (count_any n (.slice po n pc) (BG n st tl) (Bo.eqv _) HNL.out w1 hrow)
    clear p0 p1 p2 p3 hb1 hrow HMT HPa2 hsl harr hPb
    go_wp2_with fail
    refine HCo.out.mono ?_
    rintro e w1' ⟨rfl, hww⟩
    subst hww
    clear HCo
    obtain ⟨c, hc⟩ : ∃ c, c = cntL (BG n st tl) n := ⟨_, rfl⟩
    obtain ⟨nb, hnb⟩ : ∃ nb : Nat → Nat, nb = numb (BG n st tl) := ⟨_, rfl⟩
    have HNBL : Hid (∀ v, v < n → nb v < c) := fun v hv => by rw [hc, hnb]; exact numb_lt (Bo.eqv _) hv
    rw [← hc]
    have HC := hide hc
    have hcl : c ≤ 1048576 := by rw [hc]; exact Nat.le_trans (cntL_le _) HNL.out
    have HCL := hide hcl
    have HRow2 : Hid (RowAt .i64 w1' (.slice po n pc) (tab n (fun v => (nb v : Int)))) := by rw [hnb]; exact HRow.out
    have HNB := hide hnb
    obtain ⟨F, hF⟩ : ∃ F : Nat → Nat, F = fun e => nb (src st n e) := ⟨_, rfl⟩
    obtain ⟨T, hT⟩ : ∃ T : Nat → Nat, T = fun e => nb (tN tl e) := ⟨_, rfl⟩
    obtain ⟨Wt, hWt⟩ : ∃ Wt : Nat → Int, Wt = fun e => at_ wt e := ⟨_, rfl⟩
    have HFe : Hid (∀ e, F e = nb (src st n e)) := fun e => by rw [hF]
    have HTe : Hid (∀ e, T e = nb (tN tl e)) := fun e => by rw [hT]
    have HWe : Hid (∀ e, at_ wt e = Wt e) := fun e => by rw [hWt]
    have HLW : Hid (lwG n st tl wt = lwt F T Wt tl.length) := by show _ = _; rw [hF, hT, hWt, hnb]; rfl
    have HKN : Hid (∀ p, (kE (lwt F T Wt tl.length) c p).length ≤ 4194304) := fun p => Nat.le_trans kE_few HML.out
    clear hc hnb hF hT hWt HRow
    have HD0 : Hid (D1 w1' (w1'.alloc (.cells #[.int .i64 (c : Int), .slice none 0 0] 55)) c (.slice none 0 0) (kE (lwt F T Wt tl.length) c 0)) := ⟨below_alloc (Below.refl _ _) _, heap_new _ _, ⟨rfl, .inl ⟨rfl, rfl⟩⟩⟩
    go_upto_region 6 with fail
    obtain ⟨w2, hw2⟩ : ∃ w2, w2 = w1'.alloc (.cells #[.int .i64 (c : Int), .slice none 0 0] 55) := ⟨_, rfl⟩
    rw [← hw2] at HD0 ⊢
    clear hw2
    go_wp2_with fail
    have HKW : Hid (∀ X, Below w1'.heap.size w1' X → X.cell? ⟨w.heap.size, 0, none⟩ = some (.int .i64 (n : Int)) ∧ X.cell? ⟨w.heap.size, 1, none⟩ = some (.slice (some ⟨ga, oa, none⟩) st.length ca) ∧ X.cell? ⟨w.heap.size, 2, none⟩ = some (.slice bo tl.length cb) ∧ X.cell? ⟨w.heap.size, 3, none⟩ = some (.slice co wt.length cc)) := fun X hX => by
      have h1 := HM1.out.below hX
      exact ⟨cell_of h1.bg rfl, cell_of h1.bg rfl, cell_of h1.bg rfl, cell_of h1.bg rfl⟩
    have HGW : Hid (∀ X, Below w1'.heap.size w1' X → GIs X n (.slice (some ⟨ga, oa, none⟩) st.length ca) (.slice bo tl.length cb) (.slice co wt.length cc) st tl wt) := fun X hX => HG.out.below (HM1.out.below hX).bel
    have HPW : Hid (∀ X, Below w1'.heap.size w1' X → ∀ v, v < n → ∃ g o, po = some ⟨g, o, none⟩ ∧ X.cell? ⟨g, o + v, none⟩ = some (.int .i64 (nb v : Int))) := fun X hX v hv => by
      obtain ⟨g, o, c9, he, _, d⟩ := (HRow2.out.below hX).cellAt v (by rw [tab_length]; exact hv)
      rw [tab_at n _ v hv] at d
      simp only [Value.slice.injEq] at he
      exact ⟨g, o, he.1, d⟩
    have hmkB := run_makeL c (by omega)
    have hmkU := run_makeUL c (by omega)
    go_loopw [9] (fun t wr => ∃ (p : Nat) (ev : Value), t = .int .i64 (p : Int) ∧ p ≤ c ∧ D1 w1' wr c ev (kE (lwt F T Wt tl.length) c p)) (fun t _ => c - (RowKit.intOf t).toNat)
    case atStart => exact ⟨0, _, rfl, Nat.zero_le _, HD0.out⟩
    case round =>
      obtain ⟨p, ev, rfl, hpc, hd1⟩ := hrel
      have HD1 := hide hd1
      clear hd1 HD0
      by_cases hlt : p < c
      · have hpi : (p : Int) < (c : Int) := by omega
        obtain ⟨X, hX⟩ : ∃ X, X = (wr.alloc (.cells (madeCells #[.bool false] c) 4)).alloc (.cells (madeCells #[.int .u64 0] c) 58) := ⟨_, rfl⟩
        obtain ⟨Hb, hHb⟩ : ∃ Hb, Hb = wr.heap.size := ⟨_, rfl⟩
        have HD2 : Hid (D2 w1' X c Hb (Hb + 1) ev (kE (lwt F T Wt tl.length) c p) (fun q => lwt F T Wt 0 p q)) := by rw [hX, hHb]; exact HD1.out.rows
        clear HD1
        go_upto_region 11 with fail
        rw [← hX, ← hHb]
        clear hX hHb
        go_wp2_with fail
        have HZ : Hid (sN st 0 = 0) := by show _ = _; unfold sN; rw [HGD.out.zero]; rfl
        go_loopw [12] (fun t wr => ∃ v : Nat, t = .int .i64 (v : Int) ∧ v ≤ n ∧ D2 w1' wr c Hb (Hb + 1) ev (kE (lwt F T Wt tl.length) c p) (fun q => lwt F T Wt (sN st v) p q)) (fun t _ => n - (RowKit.intOf t).toNat)
        case atStart => exact ⟨0, rfl, Nat.zero_le _, by rw [HZ.out]; exact HD2.out⟩
        case round =>
          obtain ⟨v, rfl, hvn, hd2⟩ := hrel
          have HDV := hide hd2
          clear hd2 HD2 HZ
          obtain ⟨c0, c1, c2, c3⟩ := HKW.out wr HDV.out.d1.bel
          by_cases hlv : v < n
          · have hvi : (v : Int) < (n : Int) := by omega
            obtain ⟨gp, op, hpo, z1⟩ := HPW.out wr HDV.out.d1.bel v hlv
            subst hpo
            obtain ⟨P, hP⟩ : ∃ P, P = nb v := ⟨_, rfl⟩
            rw [← hP] at z1
            have HPP := hide hP
            obtain ⟨a0, ha0⟩ : ∃ a0, a0 = sN st v := ⟨_, rfl⟩
            obtain ⟨a1, ha1⟩ : ∃ a1, a1 = sN st (v + 1) := ⟨_, rfl⟩
            have hv0 : at_ st v = (a0 : Int) := by rw [ha0]; unfold sN; have := HGD.out.range v (by omega); omega
            have hv1 : at_ st (v + 1) = (a1 : Int) := by rw [ha1]; unfold sN; have := HGD.out.range (v + 1) (by omega); omega
            have h01 : a0 ≤ a1 := by have := HGD.out.step v hlv; omega
            have h1m : a1 ≤ tl.length := by have := HGD.out.range (v + 1) (by omega); omega
            have HSR : Hid (∀ e, a0 ≤ e → e < a1 → src st n e = v) := fun e h1 h2 => src_eq HGD.out hlv (by omega) (by omega)
            have HA1 := hide ha1
            rw [← ha0] at HDV
            have hvb : v ≤ 1048576 := by have := HNL.out; omega
            by_cases hPp : P = p
            · subst hPp
              have hPb : ((P : Int) != (P : Int)) = false := by simp
              have HSC : Hid (∀ X, Below w1'.heap.size w1' X → X.cell? ⟨ga, oa + v, none⟩ = some (.int .i64 (a0 : Int)) ∧ X.cell? ⟨ga, oa + (v + 1), none⟩ = some (.int .i64 (a1 : Int))) := fun X hX => by
                obtain ⟨g1, o1, c1, e1, _, x1⟩ := (HGW.out X hX).s.cellAt v (by rw [HGD.out.s_len]; omega)
                obtain ⟨g2, o2, c2, e2, _, x2⟩ := (HGW.out X hX).s.cellAt (v + 1) (by rw [HGD.out.s_len]; omega)
                simp only [Value.slice.injEq, Option.some.injEq, Addr.mk.injEq, and_true, true_and] at e1 e2
                obtain ⟨⟨rfl, rfl⟩, _⟩ := e1
                obtain ⟨⟨rfl, rfl⟩, _⟩ := e2
                rw [hv0] at x1; rw [hv1] at x2
                exact ⟨x1, x2⟩
              obtain ⟨x1, x2⟩ := HSC.out wr HDV.out.d1.bel
              have hvs : (v : Int) < (st.length : Int) := by rw [HGD.out.s_len]; omega
              have hvs1 : (v : Int) + 1 < (st.length : Int) := by rw [HGD.out.s_len]; omega
              clear hP ha0 ha1 hv0 hv1
              go_wp2_with fail
              clear x1 x2 c0 c1 c2 c3 z1
              go_loopw [13] (fun t wr => ∃ e : Nat, t = .int .i64 (e : Int) ∧ a0 ≤ e ∧ e ≤ a1 ∧ D2 w1' wr c Hb (Hb + 1) ev (kE (lwt F T Wt tl.length) c P) (fun q => lwt F T Wt e P q)) (fun t _ => a1 - (RowKit.intOf t).toNat)
              case atStart => exact ⟨a0, rfl, Nat.le_refl _, h01, HDV.out⟩
              case round =>
                obtain ⟨e, rfl, he0, he1, hde⟩ := hrel
                have HDE := hide hde
                clear hde HDV
                obtain ⟨x1, x2⟩ := HSC.out wr HDE.out.d1.bel
                obtain ⟨c0, c1, c2, c3⟩ := HKW.out wr HDE.out.d1.bel
                by_cases hle : e < a1
                · have hei : (e : Int) < (a1 : Int) := by omega
                  have hetl : e < tl.length := by omega
                  have hewl : e < wt.length := by rw [HGD.out.w_len]; exact hetl
                  have hemi : (e : Int) < (tl.length : Int) := by omega
                  have hewi : (e : Int) < (wt.length : Int) := by omega
                  obtain ⟨u, hu⟩ : ∃ u, u = tN tl e := ⟨_, rfl⟩
                  have htv := HGD.out.vtx e hetl
                  have hun : u < n := by rw [hu]; unfold tN; omega
                  have hui : (u : Int) < (n : Int) := by omega
                  obtain ⟨gt, ot, ct, e3, _, y1⟩ := (HGW.out wr HDE.out.d1.bel).t.cellAt e hetl
                  simp only [Value.slice.injEq, true_and] at e3
                  obtain ⟨rfl, rfl⟩ := e3
                  rw [show at_ tl e = (u : Int) by rw [hu]; unfold tN; omega] at y1
                  obtain ⟨gw, ow, cw, e6, _, y3⟩ := (HGW.out wr HDE.out.d1.bel).u.cellAt e hewl
                  simp only [Value.slice.injEq, true_and] at e6
                  obtain ⟨rfl, rfl⟩ := e6
                  obtain ⟨gp2, op2, hpo2, z2⟩ := HPW.out wr HDE.out.d1.bel u hun
                  simp only [Option.some.injEq, Addr.mk.injEq, and_true] at hpo2
                  obtain ⟨rfl, rfl⟩ := hpo2
                  obtain ⟨Q, hQ⟩ : ∃ Q, Q = nb u := ⟨_, rfl⟩
                  rw [← hQ] at z2
                  have hQc : Q < c := by rw [hQ]; exact HNBL.out u hun
                  have hQi : (Q : Int) < (c : Int) := by omega
                  have HFE : Hid (F e = P) := by show _ = _; rw [HFe.out, HSR.out e he0 hle, ← HPP.out]
                  have HTE : Hid (T e = Q) := by show _ = _; rw [HTe.out, ← hu, hQ]
                  rw [HWe.out e] at y3
                  obtain ⟨we, hwe⟩ : ∃ we, we = Wt e := ⟨_, rfl⟩
                  rw [← hwe] at y3
                  have HWE := hide hwe
                  have y0 := HDE.out.hb.cell Q hQc
                  have yf := HDE.out.hb.free Q
                  have b0 := HDE.out.bb.cell Q (by rw [tab_length]; exact hQc)
                  rw [tab_at c _ Q hQc] at b0
                  have bf := HDE.out.bb.free Q
                  have heb : e ≤ 4194304 := by have := HML.out; omega
                  have HET := hide hetl
                  clear htv hu hQ hwe
                  by_cases hQP : Q = P
                  · have hqb : ((Q : Int) != (P : Int)) = false := by rw [hQP]; simp
                    have HDN : Hid (D2 w1' wr c Hb (Hb + 1) ev (kE (lwt F T Wt tl.length) c P) (fun q => lwt F T Wt (e + 1) P q)) := by
                      rw [lwt_step_eq (show F e = T e by rw [HFE.out, HTE.out, hQP])]; exact HDE.out
                    clear hQP y0 b0 yf bf
                    go_upto_region 19 with fail
                    go_quiet (fail)
                    have HDQ := hide (HDN.out.on (below_drewN (Below.refl _ _) nq))
                    go_wp2_with fail
                    exact ⟨⟨e + 1, by simp, by omega, by omega, HDQ.out⟩, by simp [RowKit.intOf]; omega⟩
                  · have hqb : ((Q : Int) != (P : Int)) = true := by simp; omega
                    have hgw : gw < w1'.heap.size := by
                      obtain ⟨g7, o7, c7, e7, _, y7⟩ := (HGW.out w1' (Below.refl _ _)).u.cellAt e (by rw [HGD.out.w_len]; exact HET.out)
                      simp only [Value.slice.injEq, Option.some.injEq, Addr.mk.injEq, and_true, true_and] at e7
                      obtain ⟨⟨rfl, rfl⟩, _⟩ := e7
                      exact block_of_cell y7
                    have hlo1 := HDE.out.lo.1
                    have hbs := lt_of_heap HM1.out.bg
                    have hne : ¬ Hb = Hb + 1 := by omega
                    have hne1 : ¬ w.heap.size = Hb := by omega
                    have hne2 : ¬ gw = Hb := by omega
                    have hne3 : ¬ Hb + 1 = Hb := by omega
                    clear hgw hlo1 hbs
                    cases hf : lwt F T Wt e P Q with
                    | none =>
                      rw [hf] at y0 b0
                      simp only [Option.isSome_none, Option.getD_none] at y0 b0
                      have HEQ := hide (lwt_at (lwt_step_none HFE.out HTE.out (fun e => hQP e.symm) hf))
                      clear hf hQP
                      go_upto_region 19 with fail
                      go_quiet (fail)
                      have HDQ := hide ((HDE.out.on (below_drewN (Below.refl _ _) nq)).put Q we (h' := fun q => lwt F T Wt (e + 1) P q) (by rw [HWE.out]; exact HEQ.out))
                      go_wp2_with fail
                      exact ⟨⟨e + 1, by simp, by omega, by omega, HDQ.out⟩, by simp [RowKit.intOf]; omega⟩
                    | some x =>
                      rw [hf] at y0 b0
                      simp only [Option.isSome_some, Option.getD_some] at y0 b0
                      by_cases hlw : we < x
                      · have hlb : decide (we < x) = true := by simpa using hlw
                        have HEQ := hide (lwt_at (lwt_step_less HFE.out HTE.out (fun e => hQP e.symm) hf (by rw [← HWE.out]; exact hlw)))
                        clear hf hQP
                        go_upto_region 19 with fail
                        go_quiet (fail)
                        have HDQ := hide ((HDE.out.on (below_drewN (Below.refl _ _) nq)).put Q we (h' := fun q => lwt F T Wt (e + 1) P q) (by rw [HWE.out]; exact HEQ.out))
                        go_wp2_with fail
                        exact ⟨⟨e + 1, by simp, by omega, by omega, HDQ.out⟩, by simp [RowKit.intOf]; omega⟩
                      · have hlb : decide (we < x) = false := by simpa using hlw
                        have HDN : Hid (D2 w1' wr c Hb (Hb + 1) ev (kE (lwt F T Wt tl.length) c P) (fun q => lwt F T Wt (e + 1) P q)) := by
                          rw [lwt_step_more HFE.out HTE.out (fun e => hQP e.symm) hf (by rw [← HWE.out]; exact hlw)]; exact HDE.out
                        clear hf hQP
                        go_upto_region 19 with fail
                        go_quiet (fail)
                        have HDQ := hide (HDN.out.on (below_drewN (Below.refl _ _) nq))
                        go_wp2_with fail
                        exact ⟨⟨e + 1, by simp, by omega, by omega, HDQ.out⟩, by simp [RowKit.intOf]; omega⟩
                · obtain rfl : a1 = e := by omega
                  have HDN : Hid (D2 w1' wr c Hb (Hb + 1) ev (kE (lwt F T Wt tl.length) c P) (fun q => lwt F T Wt (sN st (v + 1)) P q)) := by rw [← HA1.out]; exact HDE.out
                  clear HDE
                  go_wp2_with fail
                  exact ⟨⟨v + 1, by simp, by omega, HDN.out⟩, by simp [RowKit.intOf]; omega⟩
            · have hPb : ((P : Int) != (p : Int)) = true := by simp; omega
              have HDN : Hid (D2 w1' wr c Hb (Hb + 1) ev (kE (lwt F T Wt tl.length) c p) (fun q => lwt F T Wt (sN st (v + 1)) p q)) := by
                have e : (fun q => lwt F T Wt (sN st (v + 1)) p q) = (fun q => lwt F T Wt a0 p q) := by
                  funext q
                  rw [← HA1.out]
                  exact lwt_row h01 (fun e h1 h2 => by rw [HFe.out, HSR.out e h1 h2, ← HPP.out]; exact hPp) q
                rw [e]; exact HDV.out
              clear HDV hPp hP ha0 ha1 hv0 hv1
              go_wp2_with fail
              exact ⟨⟨v + 1, by simp, by omega, HDN.out⟩, by simp [RowKit.intOf]; omega⟩
          · obtain rfl : n = v := by omega
            have HDF : Hid (D2 w1' wr c Hb (Hb + 1) ev (kE (lwt F T Wt tl.length) c p) (fun q => lwt F T Wt tl.length p q)) := by
              have e1 : sN st n = tl.length := by unfold sN; rw [HGD.out.last]; rfl
              have := HDV.out; rw [e1] at this; exact this
            clear HDV
            go_wp2_with fail
            clear c0 c1 c2 c3
            obtain ⟨f, hf⟩ : ∃ f, f = lwt F T Wt tl.length := ⟨_, rfl⟩
            rw [← hf] at HDF HKN HLW
            have HF4 := hide hf
            clear hf
            go_loopw [15] (fun t wr => ∃ (q : Nat) (ev : Value), t = .int .i64 (q : Int) ∧ q ≤ c ∧ D2 w1' wr c Hb (Hb + 1) ev (kE f c p ++ rowE' f p q) (fun r => f p r)) (fun t _ => c - (RowKit.intOf t).toNat)
            case atStart => exact ⟨0, ev, rfl, Nat.zero_le _, by rw [show kE f c p ++ rowE' f p 0 = kE f c p by simp [rowE']]; exact HDF.out⟩
            case round =>
              obtain ⟨q, ev4, rfl, hqc, hd4⟩ := hrel
              have HD4 := hide hd4
              clear hd4 HDF
              by_cases hlq : q < c
              · have hqi : (q : Int) < (c : Int) := by omega
                have y0 := HD4.out.hb.cell q hlq
                have b0 := HD4.out.bb.cell q (by rw [tab_length]; exact hlq)
                rw [tab_at c _ q hlq] at b0
                cases hfq : f p q with
                | none =>
                  rw [hfq] at y0 b0
                  simp only [Option.isSome_none] at y0
                  have HDN : Hid (D2 w1' wr c Hb (Hb + 1) ev4 (kE f c p ++ rowE' f p (q + 1)) (fun r => f p r)) := by
                    have e : rowE' f p (q + 1) = rowE' f p q := by show rowE' f p q ++ oneE f p q = _; unfold oneE; rw [hfq]; simp
                    rw [e]; exact HD4.out
                  clear hfq
                  go_wp2_with fail
                  exact ⟨⟨q + 1, ev4, by simp, by omega, HDN.out⟩, by simp [RowKit.intOf]; omega⟩
                | some x =>
                  rw [hfq] at y0 b0
                  simp only [Option.isSome_some, Option.getD_some] at y0 b0
                  have HER : Hid (rowE' f p (q + 1) = rowE' f p q ++ [((p : Int), (q : Int), x)]) := by show rowE' f p q ++ oneE f p q = _; unfold oneE; rw [hfq]
                  have r1 := cell_of HD4.out.d1.rbx (i := 1) rfl
                  obtain ⟨k, hk⟩ : ∃ k, k = (kE f c p ++ rowE' f p q).length := ⟨_, rfl⟩
                  have hkb : k + 1 ≤ 4194304 := by
                    have h1 : kE f c (p + 1) = kE f c p ++ rowE' f p c := rfl
                    have h2 : ∀ j, q + 1 ≤ j → (rowE' f p (q + 1)).length ≤ (rowE' f p j).length := fun j hj => by
                      induction j with
                      | zero => omega
                      | succ j ih =>
                        rcases Nat.lt_or_ge q j with h3 | h3
                        · have := ih (by omega)
                          show _ ≤ (rowE' f p j ++ oneE f p j).length
                          rw [List.length_append]; omega
                        · have : q = j := by omega
                          subst this; exact Nat.le_refl _
                    have h4 := h2 c (by omega)
                    have h5 := HKN.out (p + 1)
                    rw [h1, List.length_append] at h5
                    rw [HER.out, List.length_append, List.length_singleton] at h4
                    rw [hk, List.length_append]
                    omega
                  have HOE : Hid (wr.ownsRow (w1'.heap.size + 1) 60 3 ev4 k (eCells (kE f c p ++ rowE' f p q))) := by have := HD4.out.d1.own; rw [← hk] at this; exact this
                  obtain ⟨eo, ec, rfl⟩ : ∃ eo ec, ev4 = .slice eo k ec := by
                    obtain ⟨_, ⟨rfl, h0⟩ | ⟨g, cap, cur, rfl, _⟩⟩ := HOE.out
                    · exact ⟨_, _, by rw [h0]⟩
                    · exact ⟨_, _, rfl⟩
                  have HKL := hide hk; have HKB := hide hkb
                  have hsz := lt_of_heap HD4.out.d1.rbx
                  have HSZ := hide hsz
                  have r1a : (wr.alloc (.cells #[.int .i64 (p : Int), .int .i64 (q : Int), .int .u64 x] 60)).cell? ⟨w1'.heap.size, 1, none⟩ = some (.slice eo k ec) := (below_cell (below_alloc (Below.refl _ _) _) hsz).trans r1
                  clear hfq hk hkb hsz
                  go_upto_region 26 with fail
                  refine wp_region_noPanic ?_
                  go_region_law ((refine step_append_lies _ (by rfl) _ _ _ (by rfl) (w1'.heap.size + 1) 60 i0 (.agg #[.int .i64 0, .int .i64 0, .int .u64 0]) 3 24 Try.underlying53 hi hz0 hz1 hz2 rfl (by omega) (.slice eo k ec) k (eCells (kE f c p ++ rowE' f p q)) (by rfl) (by first | exact (HOE.out.alloc _).drew | exact HOE.out.drew.alloc _) ⟨wr.heap.size, 0, none⟩ 1 1 [.int .i64 (p : Int), .int .i64 (q : Int), .int .u64 x] (by rfl) (by rfl) (by first | exact three_at' wr _ _ _ _ | exact three_at wr.drew _ _ _ _) (by simp [Value.oneCell']) (by omega) (by unfold maxLen; have := HKB.out; omega) (by have := HKB.out; omega) (by have := HSZ.out; simp; omega) (wr.heap.size + 1) (by simp) ?_; intro g8 cap8 w8 hown hgrow hat hlt2; obtain ⟨⟨z0, zf⟩, hmore⟩ := HD4.out.more (x := ((p : Int), (q : Int), x)) HKL.out (by first | exact (below_alloc (Below.refl _ _) _).drew | exact below_alloc (Below.refl _ _).drew _) hgrow hown; have HMO := hide hmore; clear hown hgrow hat hlt2 hmore))
                  all_goals (
                    refine NoPanic.normal ?_
                    go_wp2_with fail
                    have hmo := HMO.out
                    rw [List.append_assoc, ← HER.out] at hmo
                    exact ⟨⟨q + 1, _, by simp, by omega, hmo⟩, by simp [RowKit.intOf]; omega⟩)
              · obtain rfl : c = q := by omega
                have HDN : Hid (D1 w1' wr c ev4 (kE (lwt F T Wt tl.length) c (p + 1))) := by rw [← HF4.out]; exact HD4.out.d1
                clear HD4
                go_wp2_with fail
                exact ⟨⟨p + 1, ev4, by simp, by omega, HDN.out⟩, by simp [RowKit.intOf]; omega⟩
      · obtain rfl : c = p := by omega
        have HED : Hid (kE (lwt F T Wt tl.length) c c = edG n st tl wt) := by show _ = _; rw [← HLW.out, HC.out]; rfl
        rw [HED.out] at HD1
        have r0 := cell_of HD1.out.rbx (i := 0) rfl
        have r1 := cell_of HD1.out.rbx (i := 1) rfl
        obtain ⟨eo, ec, rfl⟩ : ∃ eo ec, ev = .slice eo (edG n st tl wt).length ec := by
          obtain ⟨_, ⟨rfl, h0⟩ | ⟨g, cap, cur, rfl, _⟩⟩ := HD1.out.own
          · exact ⟨_, _, by rw [h0]⟩
          · exact ⟨_, _, rfl⟩
        have HBu := hide (buildR_good c eo ec (edG n st tl wt) wr (EAt.of_owns HD1.out.own) (by rw [HC.out]; exact edG_takes HGD.out HW.out))
        go_wp2_with fail
        refine HBu.out.mono ?_
        rintro e w6 ⟨va6, vb6, vc6, st6, tl6, wt6, nx6, rfl, hgi6, hsm6, hly6, hb6, hna, hnb2, hnc⟩
        have HM6 := hide (HM1.out.below (HD1.out.bel.trans (hb6.mono HD1.out.bel.size))); have HGI6 := hide hgi6; have HSL := hide (And.intro hsm6 hly6)
        have HB16 := hide (HD1.out.bel.trans (hb6.mono HD1.out.bel.size))
        have HNA := hide (And.intro hna (And.intro hnb2 hnc))
        obtain ⟨ao6, ca6, rfl⟩ := HGI6.out.s.shape
        obtain ⟨bo6, cb6, rfl⟩ := HGI6.out.t.shape
        obtain ⟨co6, cc6, rfl⟩ := HGI6.out.u.shape
        have HRS := hide (Nat.lt_of_lt_of_le (lt_of_heap HM1.out.rs) HD1.out.bel.size)
        clear hgi6 hsm6 hly6 hb6 HBu r0 r1 hna hnb2 hnc
        unfold gAgg
        obtain ⟨w7, hw7⟩ : ∃ w7, w7 = w6.alloc (.cells #[.int .i64 (c : Int), .slice ao6 st6.length ca6, .slice bo6 tl6.length cb6, .slice co6 wt6.length cc6] 25) := ⟨_, rfl⟩
        have hb7 : Below w6.heap.size w6 w7 := by rw [hw7]; exact below_alloc (Below.refl _ _) _
        have HM7 := hide (HM6.out.below hb7)
        have HB7 := hide hb7
        have r0 := cell_of HM7.out.rs (i := 0) rfl
        have r1 := cell_of HM7.out.rs (i := 1) rfl
        have r2 := cell_of HM7.out.rs (i := 2) rfl
        have r3 := cell_of HM7.out.rs (i := 3) rfl
        have q0 := free_of HM7.out.rs 0
        have q1 := free_of HM7.out.rs 1
        have q2 := free_of HM7.out.rs 2
        have q3 := free_of HM7.out.rs 3
        clear hb7
        go_upto_region 28 with fail
        rw [← hw7]
        have hn7 : w7.heap[w6.heap.size]? = some (.cells #[.int .i64 (c : Int), .slice ao6 st6.length ca6, .slice bo6 tl6.length cb6, .slice co6 wt6.length cc6] 25 (0, 0)) := by rw [hw7]; exact heap_new _ _
        have n0 := cell_of hn7 (i := 0) rfl
        have n1 := cell_of hn7 (i := 1) rfl
        have n2 := cell_of hn7 (i := 2) rfl
        have n3 := cell_of hn7 (i := 3) rfl
        clear hw7 hn7
        go_wp2_with fail
        have HPU := HM7.out.put (.int .i64 (c : Int)) (.slice ao6 st6.length ca6) (.slice bo6 tl6.length cb6) (.slice co6 wt6.length cc6)
        have hg7 := HGI6.out.below HB7.out
        have h7a : Arr w7 Pb (tab n (fun v => (numb (BG n st tl) v : Int))) := (HB7.out.block _ (Nat.lt_of_lt_of_le (lt_of_heap HARR.out) HB16.out.size)).trans ((HB16.out.block _ (lt_of_heap HARR.out)).trans HARR.out)
        have hc := HC.out
        subst hc
        refine bodyPost_ret (results_cell3 Try.results18 _ _ (w.heap.size + 1) 25 _ (0, 0) _ rfl HPU.1 Try.underlying25 rfl (by kernel_rfl) (.slice po n pc) (.int .i64 0) rfl rfl) rfl ⟨HPU.2.1, .inl ⟨n, rfl, HGD.out, _, _, _, _, _, _, nx6, _, rfl, ⟨hg7.s.but HNA.out.1 HRS.out HPU.2.2, hg7.t.but HNA.out.2.1 HRS.out HPU.2.2, hg7.u.but HNA.out.2.2 HRS.out HPU.2.2⟩, HSL.out.1, HSL.out.2, ?_⟩⟩
        rw [← HSL0.out]
        exact Arr.row ((HPU.2.2 Pb (by have := HPB.out; omega)).trans h7a) (tab_length n _) (by have := HNL.out; omega)
  · obtain ⟨r1, hr1⟩ : ∃ r1, r1 = (chk N st tl wt).1 := ⟨_, rfl⟩
    rw [show prtA N st tl wt = ([], r1) by unfold prtA; rw [if_neg hz, hr1]] at HPa
    have hzb : (r1 != 0) = true := by rw [hr1]; simpa using hz
    have HAns := hide hr1
    have HZ := hide hz
    clear hz hr1
    go_enter Try.func18, Try.ntmps18
    go_upto_region 1 with fail
    rw [← hW]
    clear hW
    go_wp2_with fail
    refine HPa.out.mono ?_
    rintro e w1 ⟨pv, rfl, hrow, hb1⟩
    have HM1 := hide (HMT.out.below hb1)
    obtain ⟨po, pc, rfl⟩ := hrow.shape
    have t0 := cell_of HM1.out.rs (i := 0) rfl
    have t1 := cell_of HM1.out.rs (i := 1) rfl
    have t2 := cell_of HM1.out.rs (i := 2) rfl
    have t3 := cell_of HM1.out.rs (i := 3) rfl
    have q0 := free_of HM1.out.rs 0
    have q1 := free_of HM1.out.rs 1
    have q2 := free_of HM1.out.rs 2
    have q3 := free_of HM1.out.rs 3
    clear p0 p1 p2 p3 hb1 hrow HMT HPa
    go_wp2_with fail
    have HPU := HM1.out.put (.int .i64 0) (.slice none 0 0) (.slice none 0 0) (.slice none 0 0)
    refine bodyPost_ret (results_cell3 Try.results18 _ _ (w.heap.size + 1) 25 _ (0, 0) _ rfl HPU.1 Try.underlying25 rfl (by kernel_rfl) (.slice none 0 0) (.int .i64 r1) rfl rfl) rfl ⟨HPU.2.1, .inr ⟨?_, ?_⟩⟩
    · exact HZ.out
    · rw [← HAns.out]; rfl
end Go.Proofs.Yteblkbneghbcbaa

/- StrongCondenses. -/
namespace Go.Proofs.Yteblkbneghbcbaa
open Go.RowKit Go.Lib
set_option linter.unusedVariables false
set_option linter.unusedSimpArgs false
theorem eq_of_at {l m : List Int} (hl : l.length = m.length) (h : ∀ i, i < l.length → at_ l i = at_ m i) : l = m := by
  apply List.ext_getElem hl
  intro i h1 h2
  have := h i h1
  unfold at_ at this
  rw [List.getElem?_eq_getElem h1, List.getElem?_eq_getElem h2] at this
  simpa using this
theorem summed_one {n m : Nat} {F : Nat → Nat} {a b : List Int} (h : Summed n m F n a) (k : Summed n m F n b) : a = b :=
  eq_of_at (by rw [h.1, k.1]) (fun i hi => by rw [h.1] at hi; rw [h.2.1 i (by omega), k.2.1 i (by omega)])
theorem laying_one {n m : Nat} {F T : Nat → Nat} {W : Nat → Int} {x y tl wt tl2 wt2 : List Int} (h : Laying n m F T W m x tl wt) (k : Laying n m F T W m y tl2 wt2) : tl = tl2 ∧ wt = wt2 := by
  have hs : ∀ i, i < m → ∃ j, j < m ∧ place F m j = i := fun i hi => inj_surj m (place F m) (fun i hi => place_lt hi) (fun i j hi hj hij => by
    rcases Nat.lt_trichotomy i j with h1 | h1 | h1
    · exact absurd hij (place_inj hj h1)
    · exact h1
    · exact absurd hij.symm (place_inj hi h1)) i hi
  refine ⟨eq_of_at (by rw [h.tlen, k.tlen]) fun i hi => ?_, eq_of_at (by rw [h.wlen, k.wlen]) fun i hi => ?_⟩
  · obtain ⟨j, hj, rfl⟩ := hs i (by rw [h.tlen] at hi; exact hi)
    rw [h.tla j hj, k.tla j hj]
  · obtain ⟨j, hj, rfl⟩ := hs i (by rw [h.wlen] at hi; exact hi)
    rw [h.wta j hj, k.wta j hj]
/-- What Condense answers, in numbers. -/
def CdA (N : Int) (st tl wt : List Int) (C : Int) (a b d l : List Int) (E : Int) : Prop :=
  (∃ n : Nat, N = n ∧ Good n st tl wt ∧ C = (cntL (BG n st tl) n : Nat) ∧ Summed (cntL (BG n st tl) n) (edG n st tl wt).length (eFrom (edG n st tl wt)) (cntL (BG n st tl) n) a ∧ (∃ nx, Laying (cntL (BG n st tl) n) (edG n st tl wt).length (eFrom (edG n st tl wt)) (eTo (edG n st tl wt)) (eWt (edG n st tl wt)) (edG n st tl wt).length nx b d) ∧ l = tab n (fun v => (numb (BG n st tl) v : Int)) ∧ E = 0) ∨
  ((chk N st tl wt).1 ≠ 0 ∧ C = 0 ∧ a = [] ∧ b = [] ∧ d = [] ∧ l = [] ∧ E = (chk N st tl wt).1)
theorem CdA.one {N : Int} {st tl wt : List Int} {C C2 : Int} {a b d l a2 b2 d2 l2 : List Int} {E E2 : Int} (h : CdA N st tl wt C a b d l E) (k : CdA N st tl wt C2 a2 b2 d2 l2 E2) : C = C2 ∧ a = a2 ∧ b = b2 ∧ d = d2 ∧ l = l2 ∧ E = E2 := by
  rcases h with ⟨n, rfl, hg, rfl, h1, ⟨nx, h2⟩, rfl, rfl⟩ | ⟨hz, rfl, rfl, rfl, rfl, rfl, rfl⟩
  · rcases k with ⟨n2, e2, hg2, rfl, k1, ⟨nx2, k2⟩, rfl, rfl⟩ | ⟨hz, _⟩
    · have : n = n2 := by omega
      subst this
      obtain ⟨e3, e4⟩ := laying_one h2 k2
      exact ⟨rfl, summed_one h1 k1, e3, e4, rfl, rfl⟩
    · exact absurd (good_chk' hg) hz
  · rcases k with ⟨n2, e2, hg2, _⟩ | ⟨_, rfl, rfl, rfl, rfl, rfl, rfl⟩
    · rw [e2] at hz; exact absurd (good_chk' hg2) hz
    · exact ⟨rfl, rfl, rfl, rfl, rfl, rfl⟩
theorem CdW.num {w w' : World} {N : Int} {st tl wt : List Int} {e : Ending} (h : CdW w N st tl wt e w') : Below w.heap.size w w' ∧ ∃ C va vb vc a b d pv l E, e = .returned (.tuple #[gAgg C va vb vc, pv, .int .i64 E]) ∧ GIs w' C va vb vc a b d ∧ RowAt .i64 w' pv l ∧ CdA N st tl wt C a b d l E := by
  obtain ⟨hb, ⟨n, rfl, hg, va, vb, vc, st', tl', wt', nx, pv, rfl, h1, h2, h3, h4⟩ | ⟨hz, rfl⟩⟩ := h
  · exact ⟨hb, _, va, vb, vc, st', tl', wt', pv, _, 0, rfl, h1, h4, .inl ⟨n, rfl, hg, rfl, h2, ⟨nx, h3⟩, rfl, rfl⟩⟩
  · exact ⟨hb, 0, _, _, _, [], [], [], _, [], _, rfl, ⟨RowAt.nil _ _, RowAt.nil _ _, RowAt.nil _ _⟩, RowAt.nil _ _, .inr ⟨hz, rfl, rfl, rfl, rfl, rfl, rfl⟩⟩
set_option maxHeartbeats 8000000 in
set_option maxRecDepth 100000 in
theorem condenses_law (N : Int) (va vb vc : Value) (st tl wt : List Int) (w : World) (hg : GIs w N va vb vc st tl wt) (hst : st.length * 8 ≤ 140737488351232) (hto : tl.length * 8 ≤ 140737488351232) (hwt : wt.length * 8 ≤ 140737488351232) (hw : ∀ e, 0 ≤ at_ wt e) :
    Calls Try.prog 4 #[gAgg N va vb vc] w fun e w' => e = .returned (.bool true) ∧ Below w.heap.size w w' := by
  obtain ⟨W, hW⟩ : ∃ W, W = w.alloc (.cells #[.int .i64 N, va, vb, vc] 25) := ⟨_, rfl⟩
  have hbW : Below w.heap.size w W := by rw [hW]; exact below_alloc (Below.refl _ _) _
  have hA : W.heap[w.heap.size]? = some (.cells #[.int .i64 N, va, vb, vc] 25 (0, 0)) := by rw [hW]; exact heap_new _ _
  have HBW := hide hbW
  have HG := hide (hg.below hbW)
  have HTw := hide (twin_any N va vb vc st tl wt W (hg.below hbW) hst hto hwt)
  have HK : Hid (∀ X, Below W.heap.size W X → X.cell? ⟨w.heap.size, 0, none⟩ = some (.int .i64 N) ∧ X.cell? ⟨w.heap.size, 1, none⟩ = some va ∧ X.cell? ⟨w.heap.size, 2, none⟩ = some vb ∧ X.cell? ⟨w.heap.size, 3, none⟩ = some vc) := fun X hX => ⟨box_keep hA hX rfl, box_keep hA hX rfl, box_keep hA hX rfl, box_keep hA hX rfl⟩
  have B1 : Hid (st.length ≤ 17592186044416) := by show _ ≤ _; omega
  have B2 : Hid (tl.length ≤ 17592186044416) := by show _ ≤ _; omega
  have B3 : Hid (wt.length ≤ 17592186044416) := by show _ ≤ _; omega
  have HW := hide hw
  clear hg hA hbW hst hto hwt hw
  unfold gAgg at *
  go_enter Try.func4, Try.ntmps4
  go_upto_region 1 with fail
  rw [← hW]
  clear hW
  obtain ⟨p0, p1, p2, p3⟩ := HK.out _ (Below.refl _ _)
  go_wp2_with fail
  refine HTw.out.mono ?_
  rintro e w1 ⟨g1, c1, g2, c2, g3, c3, rfl, htis, hb1⟩
  unfold tAgg gAgg
  have HT := hide htis; have HB1 := hide hb1
  clear p0 p1 p2 p3 hb1 htis HTw
  go_upto_region 2 with fail
  obtain ⟨V, hV⟩ : ∃ V, V = w1.alloc (.cells #[.int .i64 N, .slice (some ⟨g1, 0, none⟩) st.length c1, .slice (some ⟨g2, 0, none⟩) tl.length c2, .slice (some ⟨g3, 0, none⟩) wt.length c3] 25) := ⟨_, rfl⟩
  have hbV : Below w1.heap.size w1 V := by rw [hV]; exact below_alloc (Below.refl _ _) _
  have hVA : V.heap[w1.heap.size]? = some (.cells #[.int .i64 N, .slice (some ⟨g1, 0, none⟩) st.length c1, .slice (some ⟨g2, 0, none⟩) tl.length c2, .slice (some ⟨g3, 0, none⟩) wt.length c3] 25 (0, 0)) := by rw [hV]; exact heap_new _ _
  rw [← hV]
  have HTV := hide (HT.out.below hbV)
  have HBV := hide (below_on HB1.out hbV)
  obtain ⟨bx, hbx⟩ : ∃ bx, bx = w1.heap.size := ⟨_, rfl⟩
  rw [← hbx] at hVA ⊢
  have HK2 : Hid (∀ X, Below V.heap.size V X → (X.cell? ⟨w.heap.size, 0, none⟩ = some (.int .i64 N) ∧ X.cell? ⟨w.heap.size, 1, none⟩ = some va ∧ X.cell? ⟨w.heap.size, 2, none⟩ = some vb ∧ X.cell? ⟨w.heap.size, 3, none⟩ = some vc) ∧ (X.cell? ⟨bx, 0, none⟩ = some (.int .i64 N) ∧ X.cell? ⟨bx, 1, none⟩ = some (.slice (some ⟨g1, 0, none⟩) st.length c1) ∧ X.cell? ⟨bx, 2, none⟩ = some (.slice (some ⟨g2, 0, none⟩) tl.length c2) ∧ X.cell? ⟨bx, 3, none⟩ = some (.slice (some ⟨g3, 0, none⟩) wt.length c3))) := fun X hX => ⟨HK.out X (below_on HBV.out hX), box_keep hVA hX rfl, box_keep hVA hX rfl, box_keep hVA hX rfl, box_keep hVA hX rfl⟩
  have HOr : Hid (∀ X, Below V.heap.size V X → Calls Try.prog 17 #[.agg #[.int .i64 N, .slice (some ⟨g1, 0, none⟩) st.length c1, .slice (some ⟨g2, 0, none⟩) tl.length c2, .slice (some ⟨g3, 0, none⟩) wt.length c3]] X (CdW X N st tl wt)) := fun X hX => condense_any N _ _ _ st tl wt X (HTV.out.below hX).gis B1.out B2.out B3.out HW.out
  have HRO : Hid (∀ X, Below V.heap.size V X → Calls Try.prog 18 #[.agg #[.int .i64 N, va, vb, vc]] X (CdW X N st tl wt)) := fun X hX => condenseR_any N _ _ _ st tl wt X (HG.out.below (below_on HBV.out hX)) B1.out B2.out B3.out HW.out
  have HKp : Hid (∀ X, Below V.heap.size V X → Calls Try.prog 16 #[.agg #[.int .i64 N, .slice (some ⟨g1, 0, none⟩) st.length c1, .slice (some ⟨g2, 0, none⟩) tl.length c2, .slice (some ⟨g3, 0, none⟩) wt.length c3], .agg #[.int .i64 N, va, vb, vc]] X fun e w' => e = .returned (.bool true) ∧ Below X.heap.size X w') := fun X hX => kept_any N va vb vc st tl wt g1 c1 g2 c2 g3 c3 X (HTV.out.below hX) (HG.out.below (below_on HBV.out hX))
  clear hV hbV hVA hbx HT HB1
  have HBX : Hid (Below V.heap.size V V) := Below.refl _ _
  obtain ⟨⟨p0, p1, p2, p3⟩, q0, q1, q2, q3⟩ := HK2.out _ HBX.out
  go_wp2_with fail
  refine (HOr.out _ HBX.out).mono ?_
  intro e w2 hcd
  obtain ⟨hb, C, xa, xb, xc, a, b, d, pv, l, E, rfl, hgi, hrow, hca⟩ := hcd.num
  obtain ⟨ao2, ca2, rfl⟩ := hgi.s.shape
  obtain ⟨bo2, cb2, rfl⟩ := hgi.t.shape
  obtain ⟨co2, cc2, rfl⟩ := hgi.u.shape
  replace HBX := hide (below_on HBX.out hb)
  have HGI2 := hide hgi; have HV2 := hide hrow; have HCA := hide hca
  clear p0 p1 p2 p3 q0 q1 q2 q3 hb hrow hgi hca hcd
  unfold gAgg
  go_upto_region 3 with fail
  obtain ⟨V2, hV2⟩ : ∃ V2, V2 = w2.alloc (.cells #[.int .i64 C, .slice ao2 a.length ca2, .slice bo2 b.length cb2, .slice co2 d.length cc2] 25) := ⟨_, rfl⟩
  have hbV2 : Below w2.heap.size w2 V2 := by rw [hV2]; exact below_alloc (Below.refl _ _) _
  have hA2 : V2.heap[w2.heap.size]? = some (.cells #[.int .i64 C, .slice ao2 a.length ca2, .slice bo2 b.length cb2, .slice co2 d.length cc2] 25 (0, 0)) := by rw [hV2]; exact heap_new _ _
  rw [← hV2]
  obtain ⟨b2, hb2⟩ : ∃ b2, b2 = w2.heap.size := ⟨_, rfl⟩
  rw [← hb2] at hA2 ⊢
  replace HBX := hide (below_on HBX.out hbV2)
  replace HGI2 := hide (HGI2.out.below hbV2)
  replace HV2 := hide (HV2.out.below hbV2)
  have HK3 : Hid (∀ X, Below V2.heap.size V2 X → X.cell? ⟨b2, 0, none⟩ = some (.int .i64 C) ∧ X.cell? ⟨b2, 1, none⟩ = some (.slice ao2 a.length ca2) ∧ X.cell? ⟨b2, 2, none⟩ = some (.slice bo2 b.length cb2) ∧ X.cell? ⟨b2, 3, none⟩ = some (.slice co2 d.length cc2)) := fun X hX => ⟨box_keep hA2 hX rfl, box_keep hA2 hX rfl, box_keep hA2 hX rfl, box_keep hA2 hX rfl⟩
  clear hV2 hbV2 hA2 hb2
  obtain ⟨⟨p0, p1, p2, p3⟩, q0, q1, q2, q3⟩ := HK2.out _ HBX.out
  go_wp2_with fail
  refine (HRO.out _ HBX.out).mono ?_
  intro e w3 hcd
  obtain ⟨hb, C3, xa3, xb3, xc3, a3, b3, d3, pv3, l3, E3, rfl, hgi3, hrow3, hca3⟩ := hcd.num
  obtain ⟨e1, e2, e3, e4, e5, e6⟩ := HCA.out.one hca3
  subst e1 e2 e3 e4 e5 e6
  obtain ⟨ao3, ca3, rfl⟩ := hgi3.s.shape
  obtain ⟨bo3, cb3, rfl⟩ := hgi3.t.shape
  obtain ⟨co3, cc3, rfl⟩ := hgi3.u.shape
  have HB3 := hide hb
  replace HBX := hide (below_on HBX.out hb)
  have HGI3 := hide hgi3; have HV3 := hide hrow3
  replace HGI2 := hide (HGI2.out.below hb)
  replace HV2 := hide (HV2.out.below hb)
  clear p0 p1 p2 p3 q0 q1 q2 q3 hb hrow3 hgi3 hca3 hcd HCA
  unfold gAgg
  go_upto_region 4 with fail
  obtain ⟨V3, hV3⟩ : ∃ V3, V3 = w3.alloc (.cells #[.int .i64 C, .slice ao3 a.length ca3, .slice bo3 b.length cb3, .slice co3 d.length cc3] 25) := ⟨_, rfl⟩
  have hbV3 : Below w3.heap.size w3 V3 := by rw [hV3]; exact below_alloc (Below.refl _ _) _
  have hA3 : V3.heap[w3.heap.size]? = some (.cells #[.int .i64 C, .slice ao3 a.length ca3, .slice bo3 b.length cb3, .slice co3 d.length cc3] 25 (0, 0)) := by rw [hV3]; exact heap_new _ _
  rw [← hV3]
  obtain ⟨k3, hk3⟩ : ∃ k3, k3 = w3.heap.size := ⟨_, rfl⟩
  rw [← hk3] at hA3 ⊢
  replace HBX := hide (below_on HBX.out hbV3)
  replace HB3 := hide (below_on HB3.out hbV3)
  replace HGI2 := hide (HGI2.out.below hbV3)
  replace HV2 := hide (HV2.out.below hbV3)
  replace HGI3 := hide (HGI3.out.below hbV3)
  replace HV3 := hide (HV3.out.below hbV3)
  have HSA := hide (same_any C _ _ _ _ _ _ a b d V3 HGI2.out HGI3.out)
  unfold gAgg at HSA
  have s0 := cell_of hA3 (i := 0) rfl
  have s1 := cell_of hA3 (i := 1) rfl
  have s2 := cell_of hA3 (i := 2) rfl
  have s3 := cell_of hA3 (i := 3) rfl
  obtain ⟨t0, t1, t2, t3⟩ := HK3.out V3 HB3.out
  clear hV3 hbV3 hA3 hk3
  go_wp2_with fail
  refine HSA.out.mono ?_
  rintro e w4 ⟨rfl, hb⟩
  replace HBX := hide (below_on HBX.out hb)
  have HS1 := hide (lawSame_eq pv pv3 l w4 (HV2.out.below hb) (HV3.out.below hb))
  clear hb s0 s1 s2 s3 t0 t1 t2 t3 HSA
  go_wp2_with fail
  refine HS1.out.mono ?_
  rintro e w5 ⟨rfl, hb⟩
  replace HBX := hide (below_on HBX.out hb)
  clear hb HS1
  go_wp2_with fail
  refine (no_any E w5).mono ?_
  rintro e w5' ⟨rfl, hww⟩
  subst hww
  obtain ⟨⟨p0, p1, p2, p3⟩, q0, q1, q2, q3⟩ := HK2.out _ HBX.out
  go_wp2_with fail
  refine (HKp.out _ HBX.out).mono ?_
  rintro e w8 ⟨rfl, hb⟩
  replace HBX := hide (below_on HBX.out hb)
  clear hb p0 p1 p2 p3 q0 q1 q2 q3
  go_wp2_with fail
  go_ret
  exact ⟨rfl, below_on HBW.out (below_on HBV.out HBX.out)⟩
end Go.Proofs.Yteblkbneghbcbaa
