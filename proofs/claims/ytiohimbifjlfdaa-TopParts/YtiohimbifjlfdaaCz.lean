import Derived.Test.YtiohimbifjlfdaaIoK
import Derived.Test.YtiohimbifjlfdaaMq
import Derived.Test.YtiohimbifjlfdaaPtG
import Derived.Test.YtiohimbifjlfdaaNp2
import Derived.Test.YtiohimbifjlfdaaBr
/- Condense. -/
namespace Go.Proofs.Ytiohimbifjlfdaa
open Go.RowKit Go.Lib
set_option linter.unusedVariables false
set_option linter.unusedSimpArgs false
theorem EAt.of_owns {w : World} {B : Nat} {v : Value} {l : List Ed3} (h : w.ownsRow B 48 3 v l.length (eCells l)) : EAt w v l := by
  obtain ⟨h0, ⟨rfl, hn⟩ | ⟨g, cap, cur, rfl, hg, hc, h1, h2, h3, h4⟩⟩ := h
  · obtain rfl : l = [] := List.eq_nil_of_length_eq_zero hn
    exact ⟨none, 0, rfl, Nat.le_refl _, by decide, fun i hi => absurd hi (Nat.not_lt_zero _)⟩
  · refine ⟨_, cap, rfl, h1, h2, fun i hi => ⟨g, 0, rfl, ?_⟩⟩
    obtain ⟨p, q, r⟩ := eCells_at l i hi
    rw [← h4, List.getElem?_take_of_lt (by omega)] at p q r
    rw [Nat.zero_add]
    exact ⟨cell_of hc (by simpa using p), cell_of hc (by simpa using q), cell_of hc (by simpa using r)⟩
theorem cntL_mono {B : Nat → Nat → Prop} {j k : Nat} (h : j ≤ k) : cntL B j ≤ cntL B k := by
  induction k with
  | zero => have : j = 0 := by omega
            subst this; exact Nat.le_refl _
  | succ k ih =>
    rcases Nat.lt_or_ge j (k + 1) with h1 | h1
    · have := ih (by omega)
      rw [cntL_succ]; omega
    · have : j = k + 1 := by omega
      subst this; exact Nat.le_refl _
theorem numb_lt {B : Nat → Nat → Prop} (hE : Eqv B) {n v : Nat} (hv : v < n) : numb B v < cntL B n := by
  have h1 := (lea_spec hE v).1
  have h2 := cntL_mono (B := B) (show lea B v + 1 ≤ n by omega)
  rw [cntL_succ, if_pos (lea_lea hE v)] at h2
  unfold numb
  omega
/-- The lightest edges between the parts of a graph. -/
noncomputable def lwG (n : Nat) (st tl wt : List Int) : Nat → Nat → Option Int := lwt (fun e => numb (BG n st tl) (src st n e)) (fun e => numb (BG n st tl) (tN tl e)) (fun e => at_ wt e) tl.length
noncomputable def edG (n : Nat) (st tl wt : List Int) : List Ed3 := kE (lwG n st tl wt) (cntL (BG n st tl) n) (cntL (BG n st tl) n)
theorem edG_takes {n : Nat} {st tl wt : List Int} (hg : Good n st tl wt) (hw : ∀ e, 0 ≤ at_ wt e) : Takes (cntL (BG n st tl) n) (edG n st tl wt) := by
  have hm : (edG n st tl wt).length ≤ tl.length := kE_few
  have hin : ∀ i, i < (edG n st tl wt).length → ∃ p q x, p < cntL (BG n st tl) n ∧ q < cntL (BG n st tl) n ∧ lwG n st tl wt p q = some x ∧ eAt (edG n st tl wt) i = ((p : Int), (q : Int), x) := fun i hi => by
    obtain ⟨p, hp, q, hq, x, hx, hE⟩ := mem_kE.1 (List.getElem_mem hi)
    exact ⟨p, q, x, hp, hq, hx, by unfold eAt; rw [List.getElem?_eq_getElem hi, hE]; rfl⟩
  refine ⟨Nat.le_trans (cntL_le _) hg.n_le, Nat.le_trans hm hg.m_le, fun i hi => ?_, fun i hi => ?_, fun i hi => ?_⟩
  · obtain ⟨p, q, x, hp, hq, hx, hE⟩ := hin i hi
    rw [hE]; simp only; omega
  · obtain ⟨p, q, x, hp, hq, hx, hE⟩ := hin i hi
    rw [hE]; simp only; omega
  · obtain ⟨p, q, x, hp, hq, hx, hE⟩ := hin i hi
    rw [hE]
    simp only
    obtain ⟨_, j, hj, _, _, h4⟩ := lwt_val (F := fun e => numb (BG n st tl) (src st n e)) (T := fun e => numb (BG n st tl) (tN tl e)) (Wt := fun e => at_ wt e) (k := tl.length) (p := p) (q := q) (by have := hx; unfold lwG at this; rw [this]; simp)
    have h5 : some x = some (at_ wt j) := by rw [← hx]; exact h4
    injection h5 with h5
    rw [h5]
    exact ⟨hw j, (hg.vtx j hj).2.2⟩
/-- What Condense answers. -/
def CdW (w : World) (N : Int) (st tl wt : List Int) (e : Ending) (w' : World) : Prop :=
  Below w.heap.size w w' ∧ ((∃ n : Nat, N = n ∧ Good n st tl wt ∧ ∃ va vb vc st' tl' wt' nx pv, e = .returned (.tuple #[gAgg (cntL (BG n st tl) n : Nat) va vb vc, pv, .int .i64 0]) ∧ GIs w' (cntL (BG n st tl) n : Nat) va vb vc st' tl' wt' ∧ Summed (cntL (BG n st tl) n) (edG n st tl wt).length (eFrom (edG n st tl wt)) (cntL (BG n st tl) n) st' ∧ Laying (cntL (BG n st tl) n) (edG n st tl wt).length (eFrom (edG n st tl wt)) (eTo (edG n st tl wt)) (eWt (edG n st tl wt)) (edG n st tl wt).length nx tl' wt' ∧ RowAt .i64 w' pv (tab n (fun v => (numb (BG n st tl) v : Int)))) ∨
    ((chk N st tl wt).1 ≠ 0 ∧ e = .returned (.tuple #[gAgg 0 (.slice none 0 0) (.slice none 0 0) (.slice none 0 0), .slice none 0 0, .int .i64 (chk N st tl wt).1])))
theorem Try.results8 : Try.f8.results = #[.cell 2 28, .tmp 3, .tmp 4] := by kernel_rfl
set_option maxHeartbeats 8000000 in
set_option maxRecDepth 100000 in
theorem condense_any (N : Int) (va vb vc : Value) (st tl wt : List Int) (w : World) (hg : GIs w N va vb vc st tl wt) (hst : st.length ≤ 17592186044416) (hto : tl.length ≤ 17592186044416) (hwt : wt.length ≤ 17592186044416) (hw : ∀ e, 0 ≤ at_ wt e) :
    Calls Try.prog 8 #[gAgg N va vb vc] w (CdW w N st tl wt) := by
  obtain ⟨W, hW⟩ : ∃ W, W = (w.alloc (.cells #[.int .i64 N, va, vb, vc] 28)).alloc (.cells #[.int .i64 0, .slice none 0 0, .slice none 0 0, .slice none 0 0] 28) := ⟨_, rfl⟩
  have hMT : MT w W N va vb vc := by rw [hW]; exact MT.start w N va vb vc
  have HMT := hide hMT; have HG := hide hg; have HW := hide hw
  have HCk := hide (check_all N va vb vc st tl wt W (hg.below hMT.bel) hst hto hwt)
  obtain ⟨r1, r2, hr⟩ : ∃ r1 r2, (r1, r2) = chk N st tl wt := ⟨_, _, rfl⟩
  have HR := hide hr
  unfold ChkPost at HCk
  rw [← hr] at HCk
  have p0 := cell_of hMT.bg (i := 0) rfl
  have p1 := cell_of hMT.bg (i := 1) rfl
  have p2 := cell_of hMT.bg (i := 2) rfl
  have p3 := cell_of hMT.bg (i := 3) rfl
  clear hg hr hw hMT
  unfold gAgg at *
  go_enter Try.func8, Try.ntmps8
  go_upto_region 1 with fail
  rw [← hW]
  clear hW
  go_wp2_with fail
  refine HCk.out.mono ?_
  rintro e w1 ⟨rfl, hb1⟩
  have HM1 := hide (HMT.out.below hb1)
  clear p0 p1 p2 p3 hb1 HMT HCk
  have p0 := cell_of HM1.out.bg (i := 0) rfl
  have p1 := cell_of HM1.out.bg (i := 1) rfl
  have p2 := cell_of HM1.out.bg (i := 2) rfl
  have p3 := cell_of HM1.out.bg (i := 3) rfl
  by_cases hz : r1 = 0
  · subst hz
    have hc0 : (chk N st tl wt).1 = 0 := by rw [← HR.out]
    obtain ⟨n, rfl, hgood⟩ := chk_good hc0
    have HTo := hide (together_any n va vb vc st tl wt w1 (HG.out.below HM1.out.bel) hgood HW.out)
    have hnl := hgood.n_le
    unfold gAgg at HTo
    have HGD := hide hgood; have HNL := hide hnl
    clear hc0
    go_wp2_with fail
    refine HTo.out.mono ?_
    rintro e w2 ⟨A, G, rfl, harr, hA2, hb2, hg1, hg2⟩
    have HM2 := hide (HM1.out.below hb2)
    have HNu := hide (numbered_new n (.slice (some ⟨A, 0, none⟩) n n) (tab n G) (BG n st tl) w2 hnl (tab_length n G) (harr.row (tab_length n G) (by omega)) (Bo.eqv _) (fun v hv => by rw [tab_at n G v hv]; exact hg1 v hv) (fun u v hu hv => by rw [tab_at n G u hu, tab_at n G v hv]; exact hg2 u v hu hv))
    clear p0 p1 p2 p3 hb2 harr hg1 hg2 HTo HM1 hnl hgood
    go_wp2_with fail
    refine HNu.out.mono ?_
    rintro e w3 ⟨Pb, rfl, harr3, hPb, hb3⟩
    have hrow := harr3.row (tab_length n _) (by have := HNL.out; omega)
    have HM3 := hide (HM2.out.below hb3); have HRow := hide harr3
    have HPb : Hid (w.heap.size + 1 < Pb) := by show _ < _; have := lt_of_heap HM2.out.rs; omega
    obtain ⟨c, hc⟩ : ∃ c, c = cntL (BG n st tl) n := ⟨_, rfl⟩
    rw [← hc]
    have HC := hide hc
    have HCL : Hid (c ≤ 1048576) := by show _ ≤ _; rw [hc]; exact Nat.le_trans (cntL_le _) HNL.out
    have HLi := hide (lightest_any n c va vb vc (.slice (some ⟨Pb, 0, none⟩) n n) st tl wt (numb (BG n st tl)) w3 (HG.out.below HM3.out.bel) HGD.out hrow (fun v hv => by rw [hc]; exact numb_lt (Bo.eqv _) hv) HCL.out HW.out)
    have p0 := cell_of HM3.out.bg (i := 0) rfl
    have p1 := cell_of HM3.out.bg (i := 1) rfl
    have p2 := cell_of HM3.out.bg (i := 2) rfl
    have p3 := cell_of HM3.out.bg (i := 3) rfl
    unfold gAgg at HLi
    clear hb3 hrow harr3 hPb HNu HM2 hc
    go_wp2_with fail
    refine HLi.out.mono ?_
    rintro e w4 ⟨Mb, rfl, hMb, hmp, hb4⟩
    have HM4 := hide (HM3.out.below hb4); have HR4 : Hid (Arr w4 Pb _) := (hb4.block _ (lt_of_heap HRow.out)).trans HRow.out
    have HIo := hide (inOrder_any w4 Mb tl.length c (lwG n st tl wt) hmp HCL.out HGD.out.m_le (by rw [HC.out]; exact Nat.le_trans kE_few HGD.out.m_le))
    rw [show kE (lwG n st tl wt) c c = edG n st tl wt by rw [HC.out]; rfl] at HIo
    clear p0 p1 p2 p3 hmp hb4 HLi HM3
    go_wp2_with fail
    refine HIo.out.mono ?_
    rintro e w5 ⟨ev, rfl, hown5, hb5⟩
    have HM5 := hide (HM4.out.below hb5); have HR5 : Hid (Arr w5 Pb _) := (hb5.block _ (lt_of_heap HR4.out)).trans HR4.out
    obtain ⟨eo, ec, rfl⟩ : ∃ eo ec, ev = .slice eo (edG n st tl wt).length ec := by
      obtain ⟨_, ⟨rfl, h0⟩ | ⟨g, cap, cur, rfl, _⟩⟩ := hown5
      · exact ⟨_, _, by rw [h0]⟩
      · exact ⟨_, _, rfl⟩
    have HBu := hide (build_good c eo ec (edG n st tl wt) w5 (EAt.of_owns hown5) (by rw [HC.out]; exact edG_takes HGD.out HW.out))
    clear hown5 hb5 HIo HM4
    go_wp2_with fail
    refine HBu.out.mono ?_
    rintro e w6 ⟨va6, vb6, vc6, st6, tl6, wt6, nx6, rfl, hgi6, hsm6, hly6, hb6⟩
    have HM6 := hide (HM5.out.below hb6); have HR6 : Hid (Arr w6 Pb _) := (hb6.block _ (lt_of_heap HR5.out)).trans HR5.out; have HLT5 := hide (lt_of_heap HM5.out.rs); have HGZ := hide hgi6; have HGI6 := hide (hgi6 w6 (Nat.le_refl _) (fun _ _ _ => rfl)); have HSL := hide (And.intro hsm6 hly6)
    obtain ⟨ao6, ca6, rfl⟩ := HGI6.out.s.shape
    obtain ⟨bo6, cb6, rfl⟩ := HGI6.out.t.shape
    obtain ⟨co6, cc6, rfl⟩ := HGI6.out.u.shape
    clear hgi6 hsm6 hly6 hb6 HBu HM5
    unfold gAgg
    obtain ⟨w7, hw7⟩ : ∃ w7, w7 = w6.alloc (.cells #[.int .i64 (c : Int), .slice ao6 st6.length ca6, .slice bo6 tl6.length cb6, .slice co6 wt6.length cc6] 28) := ⟨_, rfl⟩
    have hb7 : Below w6.heap.size w6 w7 := by rw [hw7]; exact below_alloc (Below.refl _ _) _
    have HM7 := hide (HM6.out.below hb7)
    have HB7 := hide hb7
    have r0 := cell_of HM7.out.rs (i := 0) rfl
    have r1 := cell_of HM7.out.rs (i := 1) rfl
    have r2' := cell_of HM7.out.rs (i := 2) rfl
    have r3 := cell_of HM7.out.rs (i := 3) rfl
    have q0 := free_of HM7.out.rs 0
    have q1 := free_of HM7.out.rs 1
    have q2 := free_of HM7.out.rs 2
    have q3 := free_of HM7.out.rs 3
    clear hb7
    go_upto_region 6 with fail
    rw [← hw7]
    have hn7 : w7.heap[w6.heap.size]? = some (.cells #[.int .i64 (c : Int), .slice ao6 st6.length ca6, .slice bo6 tl6.length cb6, .slice co6 wt6.length cc6] 28 (0, 0)) := by rw [hw7]; exact heap_new _ _
    have n0 := cell_of hn7 (i := 0) rfl
    have n1 := cell_of hn7 (i := 1) rfl
    have n2 := cell_of hn7 (i := 2) rfl
    have n3 := cell_of hn7 (i := 3) rfl
    clear hw7 hn7
    go_wp2_with fail
    have HPU := HM7.out.put (.int .i64 (c : Int)) (.slice ao6 st6.length ca6) (.slice bo6 tl6.length cb6) (.slice co6 wt6.length cc6)
    have hc := HC.out
    subst hc
    refine bodyPost_ret (results_cell3 Try.results8 _ _ (w.heap.size + 1) 28 _ (0, 0) _ rfl HPU.1 Try.underlying28 rfl (by kernel_rfl) (.slice (some ⟨Pb, 0, none⟩) n n) (.int .i64 0) rfl rfl) rfl ⟨HPU.2.1, .inl ⟨n, rfl, HGD.out, _, _, _, _, _, _, nx6, _, rfl, HGZ.out _ ?_ ?_, HSL.out.1, HSL.out.2, ?_⟩⟩
    · simp only [World.setCell, Array.size_modify]; exact HB7.out.size
    · intro k hk1 hk2
      rw [HPU.2.2 k (by have := HLT5.out; omega)]
      exact HB7.out.block k hk2
    · have h1 : Arr w7 Pb (tab n (fun v => (numb (BG n st tl) v : Int))) := (HB7.out.block _ (lt_of_heap HR6.out)).trans HR6.out
      exact Arr.row ((HPU.2.2 Pb (by have := HPb.out; omega)).trans h1) (tab_length n _) (by have := HNL.out; omega)
  · have hzb : (r1 != 0) = true := by simpa using hz
    have HAns : Hid ((chk N st tl wt).1 = r1) := by rw [← HR.out]; exact hide rfl
    have HZ := hide hz
    have t0 := cell_of HM1.out.rs (i := 0) rfl
    have t1 := cell_of HM1.out.rs (i := 1) rfl
    have t2 := cell_of HM1.out.rs (i := 2) rfl
    have t3 := cell_of HM1.out.rs (i := 3) rfl
    have q0 := free_of HM1.out.rs 0
    have q1 := free_of HM1.out.rs 1
    have q2 := free_of HM1.out.rs 2
    have q3 := free_of HM1.out.rs 3
    clear hz
    go_wp2_with fail
    have HPU := HM1.out.put (.int .i64 0) (.slice none 0 0) (.slice none 0 0) (.slice none 0 0)
    refine bodyPost_ret (results_cell3 Try.results8 _ _ (w.heap.size + 1) 28 _ (0, 0) _ rfl HPU.1 Try.underlying28 rfl (by kernel_rfl) (.slice none 0 0) (.int .i64 r1) rfl rfl) rfl ⟨HPU.2.1, .inr ⟨?_, ?_⟩⟩
    · rw [HAns.out]; exact HZ.out
    · rw [HAns.out]; rfl
end Go.Proofs.Ytiohimbifjlfdaa

/- The document's Condense: count, and what it has in memory. -/
namespace Go.Proofs.Ytiohimbifjlfdaa
open Go.RowKit Go.Lib
set_option linter.unusedVariables false
set_option linter.unusedSimpArgs false
theorem numb_old {B : Nat → Nat → Prop} (hE : Eqv B) {k : Nat} (h : lea B k ≠ k) : numb B k + 1 ≤ cntL B k := by
  have h1 := (lea_spec hE k).1
  have h2 := cntL_mono (B := B) (show lea B k + 1 ≤ k by omega)
  rw [cntL_succ, if_pos (lea_lea hE k)] at h2
  exact h2
/-- Rows of other parts add nothing. -/
theorem lwt_row {F T : Nat → Nat} {Wt : Nat → Int} {p a b : Nat} (hab : a ≤ b) (h : ∀ e, a ≤ e → e < b → F e ≠ p) (q : Nat) : lwt F T Wt b p q = lwt F T Wt a p q := by
  induction b with
  | zero => have : a = 0 := by omega
            subst this; rfl
  | succ b ih =>
    rcases Nat.lt_or_ge a (b + 1) with h1 | h1
    · rw [lwt_other (fun hc => h b (by omega) (by omega) hc.1)]
      exact ih (by omega) (fun e h2 h3 => h e h2 (by omega))
    · have : a = b + 1 := by omega
      subst this; rfl
end Go.Proofs.Ytiohimbifjlfdaa

/- The document's Condense. -/
namespace Go.Proofs.Ytiohimbifjlfdaa
open Go.RowKit Go.Lib
set_option linter.unusedVariables false
set_option linter.unusedSimpArgs false
theorem run_makeUL (k : Nat) (hk : k ≤ 4194305) (w : World) :
    (Instr.makeSlice 26 (.int .i64 k) (.int .i64 k)).run Try.prog w = .ok (.slice (some ⟨w.heap.size, 0, none⟩) k k) (w.alloc (.cells (madeCells #[.int .u64 0] k) 46)) := by
  obtain ⟨i0, hi, hz0, hz1, hz2⟩ := info_parts Try.info46
  have h := run_make (P := Try.prog) w 26 46 i0 (.int .u64 0) Try.underlying26 hi hz0 .i64 .i64 k k (by omega) (Int.le_refl _) (by rw [hz2]; omega) (by omega)
  rw [hz1] at h
  simp only [Int.toNat_natCast, Nat.mul_one] at h
  exact h
/-- The edges so far, in their box. -/
structure D1 (w2 wr : World) (c : Nat) (ev : Value) (E : List Ed3) : Prop where
  bel : Below w2.heap.size w2 wr
  rbx : wr.heap[w2.heap.size]? = some (.cells #[.int .i64 (c : Int), ev] 24 (0, 0))
  own : wr.ownsRow (w2.heap.size + 1) 48 3 ev E.length (eCells E)
/-- And what a row has: which parts, and the lightest. -/
structure D2 (w2 wr : World) (c Hb Bb : Nat) (ev : Value) (E : List Ed3) (h : Nat → Option Int) : Prop where
  d1 : D1 w2 wr c ev E
  hb : BArr wr Hb (btab c (fun q => (h q).isSome))
  bb : ArrU wr Bb (tab c (fun q => (h q).getD 0))
  lo : w2.heap.size < Hb ∧ w2.heap.size < Bb
section
variable {w2 wr X : World} {c Hb Bb : Nat} {ev : Value} {E : List Ed3} {h : Nat → Option Int}
theorem D1.on (d : D1 w2 wr c ev E) (hb : Below wr.heap.size wr X) : D1 w2 X c ev E :=
  ⟨below_on d.bel hb, (hb.block _ (lt_of_heap d.rbx)).trans d.rbx, own_chg (S := fun _ => False) d.own (Chg.of_below hb) (fun _ _ h => h)⟩
theorem D2.on (d : D2 w2 wr c Hb Bb ev E h) (hb : Below wr.heap.size wr X) : D2 w2 X c Hb Bb ev E h :=
  ⟨d.d1.on hb, (hb.block _ (lt_of_heap d.hb)).trans d.hb, (hb.block _ (lt_of_heap d.bb)).trans d.bb, d.lo⟩
theorem D2.ne (d : D2 w2 wr c Hb Bb ev E h) : Hb ≠ Bb ∧ some Hb ≠ ev.ownBlock ∧ some Bb ≠ ev.ownBlock := by
  refine ⟨fun e => ?_, own_block_ne d.d1.own d.hb (by decide), own_block_ne d.d1.own d.bb (by decide)⟩
  have h1 := d.hb
  have h2 := d.bb
  unfold BArr at h1
  unfold ArrU at h2
  rw [e, h2] at h1
  simp only [Option.some.injEq, Obj.cells.injEq] at h1
  exact absurd h1.2.1 (by decide)
theorem D1.chg {S : Nat → Prop} (d : D1 w2 wr c ev E) (hc : Chg S wr X) (h1 : ∀ k, S k → w2.heap.size < k) (h2 : ∀ k, ev.ownBlock = some k → ¬ S k) : D1 w2 X c ev E :=
  ⟨Chg.below d.bel hc (fun k hk => Nat.le_of_lt (h1 k hk)) d.bel.size, hc.heap d.rbx (fun hs => by have := h1 _ hs; omega), own_chg d.own hc h2⟩
/-- Part q has an edge of weight x now. -/
theorem D2.put (d : D2 w2 wr c Hb Bb ev E h) (q : Nat) (x : Int) {h' : Nat → Option Int} (hh : h' = fun r => if r = q then some x else h r) : D2 w2 ((wr.setCell ⟨Hb, q, none⟩ (.bool true)).setCell ⟨Bb, q, none⟩ (.int .u64 x)) c Hb Bb ev E h' := by
  subst hh
  obtain ⟨n1, n2, n3⟩ := d.ne
  have c1 : Chg (fun k => k = Hb) wr (wr.setCell ⟨Hb, q, none⟩ (.bool true)) := (Chg.refl (fun k => k = Hb) wr).setCell (p := ⟨Hb, q, none⟩) rfl _
  have c2 : Chg (fun k => k = Bb) (wr.setCell ⟨Hb, q, none⟩ (.bool true)) ((wr.setCell ⟨Hb, q, none⟩ (.bool true)).setCell ⟨Bb, q, none⟩ (.int .u64 x)) := (Chg.refl (fun k => k = Bb) _).setCell (p := ⟨Bb, q, none⟩) rfl _
  have d1 := (d.d1.chg c1 (fun k hk => by rw [hk]; exact d.lo.1) (fun k hk e => n2 (by rw [← e]; exact hk.symm))).chg c2 (fun k hk => by rw [hk]; exact d.lo.2) (fun k hk e => n3 (by rw [← e]; exact hk.symm))
  refine ⟨d1, ?_, ?_, d.lo⟩
  · have h1 := d.hb.put q true
    have h2 : BArr ((wr.setCell ⟨Hb, q, none⟩ (.bool true)).setCell ⟨Bb, q, none⟩ (.int .u64 x)) Hb _ := c2.heap h1 n1
    have e : (fun v => if v = q then true else (h v).isSome) = (fun r => (if r = q then some x else h r).isSome) := by
      funext r; by_cases e : r = q <;> simp [e]
    rw [e] at h2
    exact h2
  · have h1 : ArrU (wr.setCell ⟨Hb, q, none⟩ (.bool true)) Bb _ := c1.heap d.bb (fun e => n1 e.symm)
    have h2 := h1.put q x
    rw [tab_set] at h2
    have e : (fun v => if v = q then x else (h v).getD 0) = (fun r => (if r = q then some x else h r).getD 0) := by
      funext r; by_cases e : r = q <;> simp [e]
    rw [e] at h2
    exact h2
end
theorem made_ul (n : Nat) : madeCells #[.int .u64 0] n = uCells (tab n (fun _ => 0)) := by
  apply Array.ext'
  simp [madeCells, uCells, tab]
  intro i hi
  simp [Nat.mod_one]
theorem D1.rows {w2 wr : World} {c : Nat} {ev : Value} {E : List Ed3} (d : D1 w2 wr c ev E) : D2 w2 ((wr.alloc (.cells (madeCells #[.bool false] c) 4)).alloc (.cells (madeCells #[.int .u64 0] c) 46)) c wr.heap.size (wr.heap.size + 1) ev E (fun _ => none) := by
  have h1 := lt_of_heap d.rbx
  have hb : Below wr.heap.size wr ((wr.alloc (.cells (madeCells #[.bool false] c) 4)).alloc (.cells (madeCells #[.int .u64 0] c) 46)) := below_alloc (below_alloc (Below.refl _ _) _) _
  refine ⟨d.on hb, ?_, ?_, by omega, by omega⟩
  · have := heap_new wr (.cells (madeCells #[.bool false] c) 4)
    rw [made_bar] at this
    exact (Below.heap_alloc _ _ _ (by simp)).trans (by rw [made_bar]; exact this)
  · have := heap_new (wr.alloc (.cells (madeCells #[.bool false] c) 4)) (.cells (madeCells #[.int .u64 0] c) 46)
    rw [World.size_alloc, made_ul] at this
    rw [made_ul]
    exact this
theorem lwt_at {F T : Nat → Nat} {Wt : Nat → Int} {k P Q : Nat} {x : Int} (h : lwt F T Wt (k + 1) = fun a b => if a = P ∧ b = Q then some x else lwt F T Wt k a b) : (fun q => lwt F T Wt (k + 1) P q) = fun r => if r = Q then some x else (fun q => lwt F T Wt k P q) r := by
  funext r
  rw [h]
  simp
theorem D2.more {w2 wr X Y : World} {c Hb Bb g cap k : Nat} {ev : Value} {E : List Ed3} {h : Nat → Option Int} {x : Ed3} (d : D2 w2 wr c Hb Bb ev E h) (hk : k = E.length) (hb : Below wr.heap.size wr X) (hg : X.grownBy Y ev.ownBlock) (hown : Y.ownsRow (w2.heap.size + 1) 48 3 (.slice (some ⟨g, 0, none⟩) (k + 1) cap) (k + 1) (eCells E ++ [.int .i64 x.1, .int .i64 x.2.1, .int .u64 x.2.2])) :
    (Y.cell? ⟨w2.heap.size, 1, none⟩ = some ev ∧ Y.frozen? ⟨w2.heap.size, 1, none⟩ = false) ∧ D2 w2 (Y.setCell ⟨w2.heap.size, 1, none⟩ (.slice (some ⟨g, 0, none⟩) (k + 1) cap)) c Hb Bb (.slice (some ⟨g, 0, none⟩) (k + 1) cap) (E ++ [x]) h := by
  obtain ⟨n1, n2, n3⟩ := d.ne
  have hlt : ∀ j, ev.ownBlock = some j → w2.heap.size + 1 ≤ j := fun j hj => (World.ownsRow.lt d.d1.own j hj).1
  have hc : Chg (fun j => ev.ownBlock = some j) wr Y := (Chg.of_below hb).grown hg (fun j hj => .inl hj)
  have hY := hc.heap d.d1.rbx (fun hh => by have := hlt _ hh; omega)
  have hgl : w2.heap.size + 1 ≤ g := (World.ownsRow.lt hown g rfl).1
  have h3 : Chg (fun j => j = w2.heap.size) Y (Y.setCell ⟨w2.heap.size, 1, none⟩ (.slice (some ⟨g, 0, none⟩) (k + 1) cap)) := (Chg.refl (fun j => j = w2.heap.size) Y).setCell (p := ⟨w2.heap.size, 1, none⟩) rfl _
  refine ⟨⟨cell_of hY rfl, free_of hY 1⟩, ⟨⟨?_, heap_set hY _, ?_⟩, ?_, ?_, d.lo⟩⟩
  · exact Chg.below (Chg.below d.d1.bel hc (fun j hj => by have := hlt j hj; omega) d.d1.bel.size) h3 (fun j hj => by omega) (Nat.le_trans d.d1.bel.size hc.size)
  · rw [List.length_append, List.length_singleton, ← hk, show eCells (E ++ [x]) = eCells E ++ [.int .i64 x.1, .int .i64 x.2.1, .int .u64 x.2.2] by simp [eCells]]
    exact own_chg (S := fun j => j = w2.heap.size) hown h3 (fun j hj => by cases hj; show ¬ g = w2.heap.size; omega)
  · exact h3.heap (hc.heap d.hb (fun hh => n2 hh.symm)) (by have := d.lo.1; omega)
  · exact h3.heap (hc.heap d.bb (fun hh => n3 hh.symm)) (by have := d.lo.2; omega)
end Go.Proofs.Ytiohimbifjlfdaa

/- StrongCondenses. -/
namespace Go.Proofs.Ytiohimbifjlfdaa
open Go.RowKit Go.Lib
set_option linter.unusedVariables false
set_option linter.unusedSimpArgs false
theorem eq_of_at {l m : List Int} (hl : l.length = m.length) (h : ∀ i, i < l.length → at_ l i = at_ m i) : l = m := by
  apply List.ext_getElem hl
  intro i h1 h2
  have := h i h1
  unfold at_ at this
  rw [List.getElem?_eq_getElem h1, List.getElem?_eq_getElem h2] at this
  simpa using this
theorem summed_one {n m : Nat} {F : Nat → Nat} {a b : List Int} (h : Summed n m F n a) (k : Summed n m F n b) : a = b :=
  eq_of_at (by rw [h.1, k.1]) (fun i hi => by rw [h.1] at hi; rw [h.2.1 i (by omega), k.2.1 i (by omega)])
theorem laying_one {n m : Nat} {F T : Nat → Nat} {W : Nat → Int} {x y tl wt tl2 wt2 : List Int} (h : Laying n m F T W m x tl wt) (k : Laying n m F T W m y tl2 wt2) : tl = tl2 ∧ wt = wt2 := by
  have hs : ∀ i, i < m → ∃ j, j < m ∧ place F m j = i := fun i hi => inj_surj m (place F m) (fun i hi => place_lt hi) (fun i j hi hj hij => by
    rcases Nat.lt_trichotomy i j with h1 | h1 | h1
    · exact absurd hij (place_inj hj h1)
    · exact h1
    · exact absurd hij.symm (place_inj hi h1)) i hi
  refine ⟨eq_of_at (by rw [h.tlen, k.tlen]) fun i hi => ?_, eq_of_at (by rw [h.wlen, k.wlen]) fun i hi => ?_⟩
  · obtain ⟨j, hj, rfl⟩ := hs i (by rw [h.tlen] at hi; exact hi)
    rw [h.tla j hj, k.tla j hj]
  · obtain ⟨j, hj, rfl⟩ := hs i (by rw [h.wlen] at hi; exact hi)
    rw [h.wta j hj, k.wta j hj]
/-- What Condense answers, in numbers. -/
def CdA (N : Int) (st tl wt : List Int) (C : Int) (a b d l : List Int) (E : Int) : Prop :=
  (∃ n : Nat, N = n ∧ Good n st tl wt ∧ C = (cntL (BG n st tl) n : Nat) ∧ Summed (cntL (BG n st tl) n) (edG n st tl wt).length (eFrom (edG n st tl wt)) (cntL (BG n st tl) n) a ∧ (∃ nx, Laying (cntL (BG n st tl) n) (edG n st tl wt).length (eFrom (edG n st tl wt)) (eTo (edG n st tl wt)) (eWt (edG n st tl wt)) (edG n st tl wt).length nx b d) ∧ l = tab n (fun v => (numb (BG n st tl) v : Int)) ∧ E = 0) ∨
  ((chk N st tl wt).1 ≠ 0 ∧ C = 0 ∧ a = [] ∧ b = [] ∧ d = [] ∧ l = [] ∧ E = (chk N st tl wt).1)
theorem CdA.one {N : Int} {st tl wt : List Int} {C C2 : Int} {a b d l a2 b2 d2 l2 : List Int} {E E2 : Int} (h : CdA N st tl wt C a b d l E) (k : CdA N st tl wt C2 a2 b2 d2 l2 E2) : C = C2 ∧ a = a2 ∧ b = b2 ∧ d = d2 ∧ l = l2 ∧ E = E2 := by
  rcases h with ⟨n, rfl, hg, rfl, h1, ⟨nx, h2⟩, rfl, rfl⟩ | ⟨hz, rfl, rfl, rfl, rfl, rfl, rfl⟩
  · rcases k with ⟨n2, e2, hg2, rfl, k1, ⟨nx2, k2⟩, rfl, rfl⟩ | ⟨hz, _⟩
    · have : n = n2 := by omega
      subst this
      obtain ⟨e3, e4⟩ := laying_one h2 k2
      exact ⟨rfl, summed_one h1 k1, e3, e4, rfl, rfl⟩
    · exact absurd (good_chk' hg) hz
  · rcases k with ⟨n2, e2, hg2, _⟩ | ⟨_, rfl, rfl, rfl, rfl, rfl, rfl⟩
    · rw [e2] at hz; exact absurd (good_chk' hg2) hz
    · exact ⟨rfl, rfl, rfl, rfl, rfl, rfl⟩
theorem CdW.num {w w' : World} {N : Int} {st tl wt : List Int} {e : Ending} (h : CdW w N st tl wt e w') : Below w.heap.size w w' ∧ ∃ C va vb vc a b d pv l E, e = .returned (.tuple #[gAgg C va vb vc, pv, .int .i64 E]) ∧ GIs w' C va vb vc a b d ∧ RowAt .i64 w' pv l ∧ CdA N st tl wt C a b d l E := by
  obtain ⟨hb, ⟨n, rfl, hg, va, vb, vc, st', tl', wt', nx, pv, rfl, h1, h2, h3, h4⟩ | ⟨hz, rfl⟩⟩ := h
  · exact ⟨hb, _, va, vb, vc, st', tl', wt', pv, _, 0, rfl, h1, h4, .inl ⟨n, rfl, hg, rfl, h2, ⟨nx, h3⟩, rfl, rfl⟩⟩
  · exact ⟨hb, 0, _, _, _, [], [], [], _, [], _, rfl, ⟨RowAt.nil _ _, RowAt.nil _ _, RowAt.nil _ _⟩, RowAt.nil _ _, .inr ⟨hz, rfl, rfl, rfl, rfl, rfl, rfl⟩⟩
end Go.Proofs.Ytiohimbifjlfdaa
