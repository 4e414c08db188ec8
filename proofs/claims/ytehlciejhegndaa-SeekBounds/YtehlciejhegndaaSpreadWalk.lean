/- spread: the walk. -/
import Derived.Test.YtehlciejhegndaaSpread
namespace Go.Proofs.Ytehlciejhegndaa
open Go.RowKit Go.Lib
set_option linter.unusedVariables false

set_option maxRecDepth 100000 in
set_option maxHeartbeats 8000000 in
theorem spread_any (n : Nat) (va vb vc : Value) (st tl wt : List Int) (k : Int) (S : List Pr) (w0 w : World) (Q B G V M u i0 : Nat) (v : Value) (q : List Pr) (L : List Int) (D : Nat → Bool) (b : Int) (P : Nat)
    (hg : GIs w0 n va vb vc st tl wt) (hgd : Good n st tl wt) (hw : ∀ e, 0 ≤ at_ wt e ∧ at_ wt e ≤ 18446744073709551615) (hb0 : Below w0.heap.size w0 w) (hsm : SM w Q B G V n v q L) (hp : Hp q) (hu : u < n) (hi0 : (i0 : Int) = at_ st u)
    (hdj : DJ n st tl wt k S L q D b P (some (u, i0))) (hb : b = at_ L u) (hcnt : n + tl.length + q.length = M + P) (hq0 : w0.heap.size ≤ Q) (hg0 : w0.heap.size ≤ G) (hbb0 : w0.heap.size ≤ B) :
    Calls Try.prog 98 #[gAgg n va vb vc, .int .i64 k, .slice (some ⟨G, 0, none⟩) n n, .int .i64 (u : Int), .func (.func 94) #[] #[.pointer (some ⟨Q + 1, 0, none⟩), .pointer (some ⟨V, 0, none⟩)]] w (SpreadPost n st tl wt k S w Q B G V v D b M u) := by
  obtain ⟨ga, oa, ca, rfl, hca, hcm, hcell⟩ := hg.s.spot (by intro e; have := hgd.s_len; rw [e] at this; simp at this)
  obtain ⟨bo, cb, rfl⟩ := hg.t.shape
  obtain ⟨co, cc, rfl⟩ := hg.u.shape
  have hn := hgd.n_le
  have hm := hgd.m_le
  have hsl := hgd.s_len
  have hslH := hide hsl
  rw [hsl] at hca hcell ⊢
  have hga : ga < w0.heap.size := block_of_cell (hcell 0 (by omega))
  have HS := hide (fun W (h : Below w0.heap.size w0 W) i (hi : i < n + 1) => show W.cell? ⟨ga, oa + i, none⟩ = some (.int .i64 (at_ st i)) from (below_cell h hga).trans (hcell i (by omega)))
  have HGT := hide (fun W (h : Below w0.heap.size w0 W) i (hi : i < tl.length) => (hg.t.below h).cellAt i hi)
  have HGU := hide (fun W (h : Below w0.heap.size w0 W) i (hi : i < wt.length) => (hg.u.below h).cellAt i hi)
  obtain ⟨c0, c1, c2, c3, hb1, hs1⟩ := boxed w (.int .i64 n) (.slice (some ⟨ga, oa, none⟩) (n + 1) ca) (.slice bo tl.length cb) (.slice co wt.length cc)
  have hbx : (w.alloc (.cells #[.int .i64 n, .slice (some ⟨ga, oa, none⟩) (n + 1) ca, .slice bo tl.length cb, .slice co wt.length cc] 25)).heap[w.heap.size]? = some (.cells #[.int .i64 n, .slice (some ⟨ga, oa, none⟩) (n + 1) ca, .slice bo tl.length cb, .slice co wt.length cc] 25 (0, 0)) := heap_new _ _
  have HSI : Hid (SI n st tl wt k S w0 (w.alloc (.cells #[.int .i64 n, .slice (some ⟨ga, oa, none⟩) (n + 1) ca, .slice bo tl.length cb, .slice co wt.length cc] 25)) (w.alloc (.cells #[.int .i64 n, .slice (some ⟨ga, oa, none⟩) (n + 1) ca, .slice bo tl.length cb, .slice co wt.length cc] 25)) Q B G V w.heap.size M u v D b (.cells #[.int .i64 n, .slice (some ⟨ga, oa, none⟩) (n + 1) ca, .slice bo tl.length cb, .slice co wt.length cc] 25 (0, 0)) i0 v q L P) :=
    ⟨hsm.below hb1, hp, hdj, by rw [hi0]; exact Int.le_refl _, by rw [hi0]; exact hgd.step u hu, hb, hcnt, Chg.refl _ _, fun k hk => .inr (.inl hk), below_on hb0 hb1, hbx⟩
  have hvb : ∀ k, v.ownBlock = some k → B ≤ k ∧ k < w.heap.size := fun k hk => by
    obtain ⟨_, ⟨rfl, _⟩ | ⟨g', c', cur, rfl, hg', hh', _⟩⟩ := hsm.qi.own
    · simp [Value.ownBlock] at hk
    · simp [Value.ownBlock] at hk; subst hk; exact ⟨hg', lt_of_heap hh'⟩
  have HWL : Hid (Walls w0 (w.alloc (.cells #[.int .i64 n, .slice (some ⟨ga, oa, none⟩) (n + 1) ca, .slice bo tl.length cb, .slice co wt.length cc] 25)) Q B G w.heap.size v) := by
    have h1 := lt_of_heap hsm.qi.hh
    have h2 := lt_of_heap hsm.arr
    have h3 := hb0.size
    refine ⟨hq0, hg0, hbb0, by simp; omega, by omega, by omega, fun e => by have := (hvb _ e).2; omega, by simp, fun k hk => (hvb k hk).1⟩
  have HEX := hide (fun a x W p q r s => extend_any k a x W p q r s)
  have HD := hide hgd
  have HW := hide hw
  have HC1 : Hid (Chg (ST w Q G v) w (w.alloc (.cells #[.int .i64 n, .slice (some ⟨ga, oa, none⟩) (n + 1) ca, .slice bo tl.length cb, .slice co wt.length cc] 25))) := (Chg.refl _ w).alloc _
  have HSZ : Hid (w.heap.size ≤ (w.alloc (.cells #[.int .i64 n, .slice (some ⟨ga, oa, none⟩) (n + 1) ca, .slice bo tl.length cb, .slice co wt.length cc] 25)).heap.size) := by show _ ≤ _; simp
  have e0 : (w.alloc (.cells #[.int .i64 n, .slice (some ⟨ga, oa, none⟩) (n + 1) ca, .slice bo tl.length cb, .slice co wt.length cc] 25)).cell? ⟨ga, oa + u, none⟩ = some (.int .i64 (i0 : Int)) := by rw [hi0]; exact HS.out _ (below_on hb0 hb1) u (by omega)
  have HI0 := hide hi0
  unfold gAgg
  clear hb1 hbx hsm hp hdj hb hcnt hg hcell hgd hw hi0 hvb hsl
  go_enter Try.func98, Try.ntmps98
  go_wp2
  generalize (w.alloc (.cells #[.int .i64 n, .slice (some ⟨ga, oa, none⟩) (n + 1) ca, .slice bo tl.length cb, .slice co wt.length cc] 25)) = w1 at c0 c1 c2 c3 hs1 HSI HWL HC1 HSZ e0 ⊢
  obtain ⟨ie, hie⟩ : ∃ ie : Nat, at_ st (u + 1) = (ie : Int) := ⟨(at_ st (u + 1)).toNat, by have := (HD.out.range (u + 1) (by omega)).1; omega⟩
  have hiem : ie ≤ tl.length := by have := (HD.out.range (u + 1) (by omega)).2; omega
  have HIE := hide hie
  clear hie e0 c0 c1 c2 c3
  go_loopw [10] (fun t wr => ∃ (i : Nat) (v1 : Value) (q1 : List Pr) (L1 : List Int) (P1 : Nat), t = .int .i64 i ∧ SI n st tl wt k S w0 w1 wr Q B G V w.heap.size M u v D b (.cells #[.int .i64 n, .slice (some ⟨ga, oa, none⟩) (n + 1) ca, .slice bo tl.length cb, .slice co wt.length cc] 25 (0, 0)) i v1 q1 L1 P1) (fun t _ => ie - (RowKit.intOf t).toNat)
  case atStart => exact ⟨i0, v, q, L, P, rfl, HSI.out⟩
  case round =>
    obtain ⟨i, v1, q1, L1, P1, rfl, hsi⟩ := hrel
    have HR := hide hsi
    have c0 := cell_of hsi.box (i := 0) rfl
    have c1 := cell_of hsi.box (i := 1) rfl
    have c2 := cell_of hsi.box (i := 2) rfl
    have c3 := cell_of hsi.box (i := 3) rfl
    have e1 : wr.cell? ⟨ga, oa + (u + 1), none⟩ = some (.int .i64 (ie : Int)) := by rw [← HIE.out]; exact HS.out _ hsi.bel (u + 1) (by omega)
    have hiie : i ≤ ie := by have := hsi.hi; rw [HIE.out] at this; omega
    by_cases hlt : i < ie
    · have him : i < tl.length := by omega
      have hlti : (i : Int) < at_ st (u + 1) := by rw [HIE.out]; omega
      obtain ⟨gt, ot, ct', hst', hct, d2⟩ := HGT.out wr hsi.bel i him
      simp only [Value.slice.injEq, true_and] at hst'
      obtain ⟨rfl, rfl⟩ := hst'
      obtain ⟨gu, ou, cu', hsu, hcu, d3⟩ := HGU.out wr hsi.bel i (by have := HD.out.w_len; omega)
      simp only [Value.slice.injEq, true_and] at hsu
      obtain ⟨rfl, rfl⟩ := hsu
      obtain ⟨htn, hte⟩ := tov_lt HD.out him
      rw [hte] at d2
      have hLl := hsi.sm.len
      have f0 := hsi.sm.arr.cell u (by omega)
      have f1 := hsi.sm.arr.cell (tov tl i) (by omega)
      have ff := hsi.sm.arr.free (tov tl i)
      have hLu := hsi.dj.rng u hu
      have hwi := HW.out i
      have hiw : (i : Int) < (wt.length : Int) := by have := HD.out.w_len; omega
      have hit : (i : Int) < (tl.length : Int) := by omega
      have HSK := hide (fun h => SI.skip HD.out hsi hu hlti h)
      have HLO := hide (fun m w' v2 q2 h => SI.lower HD.out (fun e => (HW.out e).1) HWL.out (hsi.drew m) hu hlti (w' := w') (v2 := v2) (q2 := q2) h)
      have hqb : q1.length ≤ 10000000 := by
        have h1 := hsi.dj.plen
        have h2 := dj_bound HD.out hsi.dj (fun v' i' e => by simp only [Option.some.injEq, Prod.mk.injEq] at e; obtain ⟨rfl, rfl⟩ := e; exact ⟨hu, hsi.hi, hsi.lo⟩)
        omega
      have HWT := hide (fun m x => wait_any ((wr.drewN m).setCell ⟨G, tov tl i, none⟩ (.int .u64 x)) Q B G V n v1 q1 (L1.set (tov tl i) x) ((hsi.drew m).sm.label (tov tl i) x) hsi.hp hqb (tov tl i) htn hn)
      have HEXX := hide (fun W => HEX.out (at_ L1 u) (at_ wt i) W hLu.1 (by have := hLu.2; unfold Nev at this; omega) hwi.1 hwi.2)
      obtain ⟨x, hx⟩ : ∃ x, x = ext k (at_ L1 u) (at_ wt i) := ⟨_, rfl⟩
      rw [← hx] at HSK HLO HEXX
      obtain ⟨yu, hyu⟩ : ∃ y, y = at_ L1 u := ⟨_, rfl⟩
      rw [← hyu] at f0 HEXX
      obtain ⟨yt, hyt⟩ : ∃ y, y = at_ L1 (tov tl i) := ⟨_, rfl⟩
      rw [← hyt] at f1 HSK HLO
      obtain ⟨z, hz⟩ : ∃ z, z = at_ wt i := ⟨_, rfl⟩
      rw [← hz] at d3 HEXX
      have HWTX := hide (fun m => HWT.out m x)
      obtain ⟨t1, ht1⟩ : ∃ t1, t1 = tov tl i := ⟨_, rfl⟩
      rw [← ht1] at d2 f1 ff HLO HWTX htn
      clear hsi hx hyu hyt hz ht1 hte HWT hLl hLu hwi hlti
      by_cases hc : x < yt
      · have hd : decide (x < yt) = true := decide_eq_true hc
        go_wp2_with fail
        go_quiet (first | (go_at_call 57; exact (HEXX.out _).mono fun _ _ h => ⟨h.1, _, h.2⟩))
        go_wp2_with fail
        refine (HWTX.out _).mono ?_
        rintro e w5 ⟨rfl, v2, q2, g1, g2, g3, g4, g5, g6⟩
        have HN2 := hide (HLO.out _ w5 v2 q2 hc g5 g1 g2 g3 g4 g6)
        clear g1 g2 g3 g4 g5 g6 HLO HWTX HSK HEXX c0 c1 c2 c3 d2 d3 f0 f1 ff e1
        go_wp2
        obtain ⟨L2, P2, hs2⟩ := HN2.out
        exact ⟨⟨i + 1, v2, q2, L2, P2, by simp, hs2⟩, by simp [RowKit.intOf]; omega⟩
      · have hd : decide (x < yt) = false := decide_eq_false hc
        have HSI2 := hide (HSK.out hc)
        go_wp2_with fail
        go_quiet (first | (go_at_call 57; exact (HEXX.out _).mono fun _ _ h => ⟨h.1, _, h.2⟩))
        go_wp2
        exact ⟨⟨i + 1, v1, q1, L1, P1, by simp, HSI2.out.drew _⟩, by simp [RowKit.intOf]; omega⟩
    · obtain rfl : i = ie := by omega
      have HEND : Hid (SpreadPost n st tl wt k S w Q B G V v D b M u (.returned (.tuple #[])) wr) := by
        refine ⟨rfl, v1, q1, L1, P1, hsi.sm, hsi.hp, dj_finish HD.out hsi.dj hu HIE.out.symm, hsi.cnt, ?_, ?_⟩
        · refine HC1.out.trans (hsi.chg.mono fun k hk => ?_)
          rcases hk with hk | hk | hk | hk
          · exact .inl hk
          · exact .inr (.inl hk)
          · exact .inr (.inr (.inl hk))
          · exact .inr (.inr (.inr (Nat.le_trans HSZ.out hk)))
        · intro k hk
          rcases hsi.own k hk with h | h | h
          · exact .inl h
          · exact .inr (.inl h)
          · exact .inr (.inr (Nat.le_trans HSZ.out h))
      clear hsi
      go_wp2
      first | go_end0 | refine bodyPost_ret (results_none rfl _ _ _) rfl ?_
      exact HEND.out
end Go.Proofs.Ytehlciejhegndaa
