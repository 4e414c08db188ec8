/- The reference's Reach. -/
import Derived.Test.YtmagigmcbegmiaaReachW
import Derived.Test.YtmagigmcbegmiaaCont
import Derived.Test.YtmagigmcbegmiaaChecksWalk
import Derived.BigRegion
import Derived.BigQuiet
namespace Go.Proofs.Ytmagigmcbegmiaa
open Go.RowKit Go.Lib
set_option linter.unusedVariables false
/-- The reference's marks and its work. -/
structure RQ (w wr : World) (lo n : Nat) (va vb vc : Value) (st tl fr : List Int) (B : List Bool) (W : List Nat) (wv : Value) (i v p : Nat) : Prop where
  bg : wr.heap[w.heap.size]? = some (.cells #[.int .i64 n, va, vb, vc] 25 (0, 0))
  ab : ArrB wr lo B
  ow : wr.ownsRow (lo + 1) 3 1 wv W.length (oCells W)
  bel : Below w.heap.size w wr
  rs : RS n st tl fr B (W.drop i) v p
  il : i ≤ W.length
  sum : W.length + unm B = n
  hlo : w.heap.size < lo
  sz : lo < wr.heap.size
theorem RQ.drew {w wr : World} {lo n : Nat} {va vb vc : Value} {st tl fr : List Int} {B : List Bool} {W : List Nat} {wv : Value} {i v p : Nat} (h : RQ w wr lo n va vb vc st tl fr B W wv i v p) (k : Nat) : RQ w (wr.drewN k) lo n va vb vc st tl fr B W wv i v p := by
  have hb : Below wr.heap.size wr (wr.drewN k) := below_drewN (Below.refl _ _) k
  exact ⟨(hb.block _ (lt_of_heap h.bg)).trans h.bg, (hb.block _ (lt_of_heap h.ab)).trans h.ab, own_keepB h.ow (fun g hg => by
    obtain ⟨_, c, f, h2⟩ := own_type h.ow hg
    exact hb.block _ (lt_of_heap h2)), below_on h.bel hb, h.rs, h.il, h.sum, h.hlo, Nat.lt_of_lt_of_le h.sz hb.size⟩
/-- A mark and an addition to the work. -/
theorem RQ.mark {w wr w3 : World} {lo n : Nat} {va vb vc : Value} {st tl fr : List Int} {B : List Bool} {W : List Nat} {wv v3 : Value} {i v p x : Nat} {o : Obj} (h : RQ w wr lo n va vb vc st tl fr B W wv i v p) (hx : x < n) (hb : bAt B x = false) (hr : Rch n st tl fr x)
    (hown : w3.ownsRow (lo + 1) 3 1 v3 (W.length + 1) (oCells W ++ [.int .i64 (x : Int)])) (hg : ((wr.setCell ⟨lo, x, none⟩ (.bool true)).alloc o).grownBy w3 wv.ownBlock) : RQ w w3 lo n va vb vc st tl fr (B.set x true) (W ++ [x]) v3 i v p := by
  have hB : x < B.length := by rw [h.rs.len]; exact hx
  have hne : ∀ g, wv.ownBlock = some g → g ≠ lo ∧ lo + 1 ≤ g := fun g e => by
    obtain ⟨h1, _⟩ := own_type h.ow e
    exact ⟨by omega, h1⟩
  have hk : ∀ k, k < wr.heap.size → k ≠ lo → (∀ g, wv.ownBlock = some g → g ≠ k) → w3.heap[k]? = wr.heap[k]? := fun k hk hl hn => by
    rw [hg.block k (by simp [World.setCell]; omega) (fun e => hn k e.symm rfl), Below.heap_alloc _ _ _ (by simp [World.setCell]; omega), Below.heap_setCell _ _ _ _ (by exact hl)]
  have ha : ArrB w3 lo (B.set x true) := by
    have h1 := h.ab.put x true
    have hl := lt_of_heap h.ab
    unfold ArrB at h1 ⊢
    rw [hg.block lo (by simp [World.setCell]; omega) (fun e => (hne lo e.symm).1 rfl), Below.heap_alloc _ _ _ (by simp [World.setCell]; omega)]
    exact h1
  refine ⟨(hk _ (lt_of_heap h.bg) (by have := h.hlo; omega) (fun g e => by have := (hne g e).2; have := h.hlo; omega)).trans h.bg, ha, by simpa [oCells] using hown, ?_, ?_, by have := h.il; simp; omega, ?_, h.hlo, ?_⟩
  · refine ((h.bel.setCell (p := ⟨lo, x, none⟩) (by show w.heap.size ≤ lo; have := h.hlo; omega) _).alloc (by have := h.bel.size; simp [World.setCell]; omega) o).grown hg (by have := h.bel.size; simp [World.setCell]; omega) (fun j hj => by have := (hne j hj).2; have := h.hlo; omega)
  · have := h.rs.mark hx hr
    rw [List.drop_append_of_le_length h.il]
    exact this
  · have h1 := unm_set hB hb
    have h2 := h.sum
    simp
    omega
  · have := hg.size
    have := h.sz
    simp [World.setCell] at *
    omega
theorem own_nth {w : World} {lo m i : Nat} {ao : Option Addr} {c : Nat} {xs : List Value} (h : w.ownsRow lo 3 1 (.slice ao m c) m xs) (hi : i < m) {y : Value} (hy : xs[i]? = some y) :
    ∃ g, ao = some ⟨g, 0, none⟩ ∧ lo ≤ g ∧ w.cell? ⟨g, i, none⟩ = some y := by
  obtain ⟨h1, ⟨he, hm⟩ | ⟨g, cap, cur, he, hl, hh, hnc, hcm, hcur, htake⟩⟩ := h
  · omega
  · simp only [Value.slice.injEq, true_and] at he
    obtain ⟨rfl, rfl⟩ := he
    simp only [Nat.mul_one] at htake
    refine ⟨g, rfl, hl, cell_of hh ?_⟩
    rw [← Array.getElem?_toList, ← List.getElem?_take_of_lt (j := m) hi, htake]
    exact hy
theorem RQ.pop {w wr : World} {lo n : Nat} {va vb vc : Value} {st tl wt fr : List Int} {B : List Bool} {W : List Nat} {wv : Value} {i v e1 : Nat} (h : RQ w wr lo n va vb vc st tl fr B W wv i n 0) (hi : i < W.length) (hv : W[i] = v) (hg : Good n st tl wt) (he : at_ st v = (e1 : Int)) : RQ w wr lo n va vb vc st tl fr B W wv (i + 1) v e1 := by
  have hr := h.rs
  rw [List.drop_eq_getElem_cons hi, hv] at hr
  exact ⟨h.bg, h.ab, h.ow, h.bel, hr.popFirst hg he, hi, h.sum, h.hlo, h.sz⟩
theorem RQ.with {w wr : World} {lo n : Nat} {va vb vc : Value} {st tl fr : List Int} {B : List Bool} {W : List Nat} {wv : Value} {i v p v' p' : Nat} (h : RQ w wr lo n va vb vc st tl fr B W wv i v p) (hr : RS n st tl fr B (W.drop i) v' p') : RQ w wr lo n va vb vc st tl fr B W wv i v' p' := ⟨h.bg, h.ab, h.ow, h.bel, hr, h.il, h.sum, h.hlo, h.sz⟩
set_option maxRecDepth 100000 in
set_option maxHeartbeats 8000000 in
theorem refReach_good (n : Nat) (va vb vc : Value) (st tl wt : List Int) (fv : Value) (fr : List Int) (w : World) (hg : GIs w n va vb vc st tl wt) (hgd : Good n st tl wt) (hchk : (chk n st tl wt).1 = 0) (hf : RowAt .i64 w fv fr) (hfl : fr.length * 8 ≤ 140737488351232) :
    Calls Try.prog 19 #[gAgg n va vb vc, fv] w fun e w' => (0 ≤ badIx n fr ∧ e = .returned (.tuple #[.slice none 0 0, .int .i64 30]) ∧ Below w.heap.size w w') ∨ (badIx n fr < 0 ∧ ReachW w n st tl fr e w') := by
  obtain ⟨ao, ca, rfl⟩ := hg.s.shape
  obtain ⟨bo, cb, rfl⟩ := hg.t.shape
  obtain ⟨co, cc, rfl⟩ := hg.u.shape
  obtain ⟨fo, fc, rfl⟩ := hf.shape
  have hn := hgd.n_le
  have hml := hgd.m_le
  obtain ⟨⟨r1, r2⟩, hrr⟩ : ∃ r, chk n st tl wt = r := ⟨_, rfl⟩
  rw [hrr] at hchk
  simp only at hchk
  subst hchk
  have hck := (fun W h => refCheck_all n (.slice ao st.length ca) (.slice bo tl.length cb) (.slice co wt.length cc) st tl wt W h (by have := hgd.s_len; omega) (by omega) (by have := hgd.w_len; omega))
  rw [hrr] at hck
  have HCK := hide hck
  obtain ⟨w1, hw1⟩ : ∃ w1, w1 = w.alloc (.cells #[.int .i64 n, .slice ao st.length ca, .slice bo tl.length cb, .slice co wt.length cc] 25) := ⟨_, rfl⟩
  have b1 : Below w.heap.size w w1 := by rw [hw1]; exact below_alloc (Below.refl _ _) _
  have hb1 : w1.heap[w.heap.size]? = some (.cells #[.int .i64 n, .slice ao st.length ca, .slice bo tl.length cb, .slice co wt.length cc] 25 (0, 0)) := by rw [hw1]; exact heap_new _ _
  have c0 := cell_of hb1 (i := 0) rfl
  have c1 := cell_of hb1 (i := 1) rfl
  have c2 := cell_of hb1 (i := 2) rfl
  have c3 := cell_of hb1 (i := 3) rfl
  have HB1 := hide b1
  have HX1 := hide hb1
  have HG := hide hg; have HGD := hide hgd
  have HFC : Hid (∀ W, Below w.heap.size w W → ∀ i, i < fr.length → ∃ g o, fo = some ⟨g, o, none⟩ ∧ g < w.heap.size ∧ W.cell? ⟨g, o + i, none⟩ = some (.int .i64 (at_ fr i))) := fun W h i hi => by
    obtain ⟨g, o, c, hs, hc, d⟩ := hf.cellAt i hi
    simp only [Value.slice.injEq, true_and] at hs
    exact ⟨g, o, hs.1, block_of_cell d, (below_cell h (block_of_cell d)).trans d⟩
  obtain ⟨L, hL⟩ : ∃ L, L = fr.length := ⟨_, rfl⟩
  have HLL := hide hL
  have HBX : Hid (∀ i, i < L → (∀ j, j < i → IsV n (at_ fr j)) → ¬ IsV n (at_ fr i) → 0 ≤ badIx n fr) := fun i hi h1 h2 => by
    rcases Int.lt_or_le (badIx n fr) 0 with h | h
    · exact absurd (badIx_neg.1 h i (by omega)) h2
    · exact h
  have HBN : Hid ((∀ j, j < L → IsV n (at_ fr j)) → badIx n fr < 0) := fun h => badIx_neg.2 (fun i hi => h i (by omega))
  have hmk := run_makeB n (by omega)
  unfold gAgg at HCK ⊢
  rw [← hL] at HFC hfl ⊢
  clear hg hf hgd hck hrr b1 hb1 hL
  rw [hw1] at c0 c1 c2 c3
  go_enter Try.func19, Try.ntmps19
  go_wp2_with fail
  rw [← hw1]
  clear hw1 c0 c1 c2 c3
  refine (HCK.out w1 (HG.out.below HB1.out)).mono ?_
  rintro e w2 ⟨rfl, hb2⟩
  have HB2 := hide (below_on HB1.out hb2)
  have HX2 : Hid (w2.heap[w.heap.size]? = _) := (hb2.block _ (lt_of_heap HX1.out)).trans HX1.out
  have c0 := cell_of HX2.out (i := 0) rfl
  clear hb2 HB1 HX1 HCK
  go_wp2_with fail
  have hlo : w.heap.size < w2.heap.size := lt_of_heap HX2.out
  have HRQ : Hid (RQ w (w2.alloc (.cells (madeCells #[.bool false] n) 4)) w2.heap.size n (.slice ao st.length ca) (.slice bo tl.length cb) (.slice co wt.length cc) st tl fr (fls n) [] (.slice none 0 0) 0 n 0) :=
    ⟨(Below.heap_alloc _ _ _ hlo).trans HX2.out, by unfold ArrB; rw [heap_new, made_bools], ⟨rfl, .inl ⟨rfl, rfl⟩⟩, below_alloc HB2.out _, RS.zero, Nat.le_refl _, by rw [unm_fls]; simp, hlo, by simp⟩
  generalize (w2.alloc (.cells (madeCells #[.bool false] n) 4)) = wA at HRQ ⊢
  generalize w2.heap.size = lo at hlo HRQ ⊢
  clear HB2 HX2 hmk c0
  obtain ⟨i0, hi, hz0, hz1, hz2⟩ := info_parts Try.info3
  go_loopw [10, 9] (fun t u wr => ∃ (i : Nat) (B : List Bool) (W : List Nat), t = .int .i64 i ∧ i ≤ L ∧ Hid (RQ w wr lo n (.slice ao st.length ca) (.slice bo tl.length cb) (.slice co wt.length cc) st tl fr B W u 0 n 0 ∧ (∀ j, j < i → IsV n (at_ fr j)) ∧ (∀ j q, j < i → at_ fr j = ((q : Nat) : Int) → bAt B q = true))) (fun t _ _ => L - (RowKit.intOf t).toNat)
  case atStart => exact ⟨0, fls n, [], rfl, Nat.zero_le _, HRQ.out, fun j hj => by omega, fun j q hj => by omega⟩
  case round =>
    obtain ⟨i, B, W, rfl, hiL, HH⟩ := hrel
    clear HRQ
    by_cases hlt : i < L
    · obtain ⟨g, o, rfl, hgw, d⟩ := HFC.out wr HH.out.1.bel i hlt
      have hli : (i : Int) < (L : Int) := by omega
      have c0 := cell_of HH.out.1.bg (i := 0) rfl
      obtain ⟨y, hy⟩ : ∃ y, y = at_ fr i := ⟨_, rfl⟩
      have HY := hide hy
      rw [← hy] at d
      clear hy
      by_cases hv : IsV n y
      · obtain ⟨u, rfl⟩ : ∃ u : Nat, y = (u : Int) := ⟨y.toNat, by have := hv.1; omega⟩
        have hun : u < n := by have := hv.2; omega
        have hui : (u : Int) < (n : Int) := by omega
        have g1 : decide ((u : Int) < 0) = false := decide_eq_false (by omega)
        have g2 : decide ((u : Int) ≥ n) = false := decide_eq_false (by omega)
        have HV := hide hv
        have a1 := HH.out.1.ab.cell u (by rw [HH.out.1.rs.len]; exact hun)
        clear hv
        have HST : Hid (Rch n st tl fr u) := Rch.start i u (by rw [← HLL.out]; exact hlt) HY.out.symm
        by_cases hb : bAt B u = true
        · rw [hb] at a1
          go_wp2_with fail
          go_quiet (fail)
          go_wp2
          go_roundw
          case rel =>
            refine ⟨i + 1, B, W, by simp, by omega, HH.out.1.drew _, fun j hj => ?_, fun j q hj hq => ?_⟩
            · rcases Nat.lt_or_ge j i with h | h
              · exact HH.out.2.1 j h
              · obtain rfl : j = i := by omega
                rw [← HY.out]; exact HV.out
            · rcases Nat.lt_or_ge j i with h | h
              · exact HH.out.2.2 j q h hq
              · obtain rfl : j = i := by omega
                rw [← HY.out] at hq
                obtain rfl : u = q := by omega
                exact hb
          case measure => simp [RowKit.intOf]; omega
        · have hb' : bAt B u = false := by simpa using hb
          clear hb
          go_wp2_with fail
          go_quiet (fail)
          have HQ := hide (HH.out.1.drew nq)
          clear c0 d a1
          generalize wr.drewN nq = wq at HQ ⊢
          obtain ⟨g', o', hs', _, d⟩ := HFC.out wq HQ.out.bel i hlt
          simp only [Option.some.injEq, Addr.mk.injEq, and_true] at hs'
          obtain ⟨rfl, rfl⟩ := hs'
          rw [← HY.out] at d
          have a1 := HQ.out.ab.cell u (by rw [HQ.out.rs.len]; exact hun)
          rw [hb'] at a1
          have a2 := HQ.out.ab.free u
          obtain ⟨w4, hw4⟩ : ∃ w4, w4 = wq.setCell ⟨lo, u, none⟩ (.bool true) := ⟨_, rfl⟩
          have s4 : w4.heap.size = wq.heap.size := by rw [hw4]; simp [World.setCell]
          have d2 : w4.cell? ⟨g, o + i, none⟩ = some (.int .i64 (u : Int)) := by
            rw [← d]; unfold World.cell?; rw [hw4, Below.heap_setCell wq ⟨lo, u, none⟩ _ g (by show g ≠ lo; omega)]
          have hon : w4.ownsRow (lo + 1) 3 1 u9 W.length (oCells W) := own_keepB HQ.out.ow (fun k hk => by
            obtain ⟨h1, _⟩ := own_type HQ.out.ow hk
            rw [hw4]; exact Below.heap_setCell _ _ _ _ (by show k ≠ lo; omega))
          have hcl : ∀ (j : Nat) (z : Value), ([Value.int .i64 (u : Int)] : List Value)[j]? = some z → (w4.alloc (.cells #[.int .i64 (u : Int)] 3)).cell? ((⟨wq.heap.size, 0, none⟩ : Addr).add j) = some z := by
            intro j z hj
            have : j = 0 := by have := (List.getElem?_eq_some_iff.1 hj).1; simpa using this
            subst this
            simp at hj
            subst hj
            have hh := heap_new w4 (.cells #[.int .i64 (u : Int)] 3)
            rw [s4] at hh
            exact cell_of hh (i := 0) rfl
          have hsz : lo + 1 ≤ (w4.alloc (.cells #[.int .i64 (u : Int)] 3)).heap.size := by have := HQ.out.sz; simp; omega
          have hWn : W.length ≤ n := by have := HQ.out.sum; omega
          have HFN : Hid (∀ v3 w3, w3.ownsRow (lo + 1) 3 1 v3 (W.length + 1) (oCells W ++ [.int .i64 (u : Int)]) → (w4.alloc (.cells #[.int .i64 (u : Int)] 3)).grownBy w3 u9.ownBlock → RQ w w3 lo n (.slice ao st.length ca) (.slice bo tl.length cb) (.slice co wt.length cc) st tl fr (B.set u true) (W ++ [u]) v3 0 n 0) := fun v3 w3 h1 h2 => HQ.out.mark hun hb' HST.out h1 (by rw [← hw4]; exact h2)
          rw [hw4] at d2 hon hcl hsz HFN
          clear hw4 s4
          go_wp2_with (first
            | (at_builtin; refine wpList_append_own_at _ rfl (.tmp 59) (.tmp 64) 22 rfl (lo + 1) 3 i0 (.int .i64 0) 1 8 Try.underlying22 hi hz0 hz1 hz2 rfl (by decide) _ _ _ rfl (hon.alloc _) ⟨wq.heap.size, 0, none⟩ 1 1 [.int .i64 (u : Int)] rfl rfl hcl (by simp [Value.oneCell']) (by unfold maxLen; omega) (by omega) hsz ?_; intro v3 w3 hown3 hgrow3 hq3 hblk3; have HR3 := hide (HFN.out v3 w3 hown3 hgrow3); clear hown3 hgrow3 hq3 hblk3 hon hcl hsz HFN)
            | fail)
          go_wp2
          go_roundw
          case rel =>
            refine ⟨i + 1, B.set u true, W ++ [u], by simp, by omega, HR3.out, fun j hj => ?_, fun j q hj hq => ?_⟩
            · rcases Nat.lt_or_ge j i with h | h
              · exact HH.out.2.1 j h
              · obtain rfl : j = i := by omega
                rw [← HY.out]; exact HV.out
            · have hBl : u < B.length := by rw [HH.out.1.rs.len]; exact hun
              rw [bAt_set hBl]
              rcases Nat.lt_or_ge j i with h | h
              · split
                · rfl
                · exact HH.out.2.2 j q h hq
              · obtain rfl : j = i := by omega
                rw [← HY.out] at hq
                obtain rfl : u = q := by omega
                simp
          case measure => simp [RowKit.intOf]; omega
      · have HE := hide (HBX.out i hlt HH.out.2.1 (by rw [← HY.out]; exact hv))
        by_cases hy0 : y < 0
        · have g1 : decide (y < 0) = true := decide_eq_true hy0
          go_wp2_with fail
          go_quiet (fail)
          go_wp2
          go_ret2
          exact .inl ⟨HE.out, rfl, below_drewN HH.out.1.bel _⟩
        · have g1 : decide (y < 0) = false := decide_eq_false hy0
          have g2 : decide (y ≥ n) = true := decide_eq_true (by unfold IsV at hv; omega)
          go_wp2_with fail
          go_quiet (fail)
          go_wp2
          go_ret2
          exact .inl ⟨HE.out, rfl, below_drewN HH.out.1.bel _⟩
    · obtain rfl : L = i := by omega
      have HV2 := hide (HBN.out HH.out.2.1)
      have HRW := hide HH.out.1
      have HMW : Hid (∀ j q, j < fr.length → at_ fr j = ((q : Nat) : Int) → bAt B q = true) := fun j q hj hq => HH.out.2.2 j q (by rw [HLL.out]; exact hj) hq
      have HGS := hide (fun W (h : Below w.heap.size w W) i (hi : i < st.length) => (HG.out.s.below h).cellAt i hi)
      have HGT := hide (fun W (h : Below w.heap.size w W) i (hi : i < tl.length) => (HG.out.t.below h).cellAt i hi)
      have HGB : Hid (∀ i, i < tl.length → ∃ g o, bo = some ⟨g, o, none⟩ ∧ g < w.heap.size) := fun i hi => by
        obtain ⟨g, o, c, hs, hc, d⟩ := HG.out.t.cellAt i hi
        simp only [Value.slice.injEq, true_and] at hs
        exact ⟨g, o, hs.1, block_of_cell d⟩
      clear HH HFC HBX HBN
      go_wp2
      go_loopg [11, 9] n (fun m t u wr => ∃ (i : Nat) (B : List Bool) (W : List Nat), m = n - i ∧ t = .int .i64 i ∧ Hid (RQ w wr lo n (.slice ao st.length ca) (.slice bo tl.length cb) (.slice co wt.length cc) st tl fr B W u i n 0 ∧ (∀ j q, j < fr.length → at_ fr j = ((q : Nat) : Int) → bAt B q = true)))
      case atStart => exact ⟨0, B, W, rfl, rfl, HRW.out, HMW.out⟩
      case round =>
        clear HRW HMW
        obtain ⟨i, B, W, hgk, rfl, HH⟩ := hrel
        have HGK := hide hgk
        obtain ⟨wo, wc, rfl⟩ := own_slice HH.out.1.ow
        have hWn : W.length ≤ n := by have := HH.out.1.sum; omega
        clear hgk
        by_cases hlt : i < W.length
        · obtain ⟨v, hv⟩ : ∃ v, W[i] = v := ⟨_, rfl⟩
          obtain ⟨hvn, hvm⟩ := HH.out.1.rs.opn v (by rw [List.drop_eq_getElem_cons hlt, hv]; simp)
          obtain ⟨g, rfl, hgl, d⟩ := own_nth HH.out.1.ow hlt (y := .int .i64 (v : Int)) (by simp [oCells, hlt, hv])
          obtain ⟨e1, he1⟩ : ∃ e1 : Nat, at_ st v = (e1 : Int) := ⟨(at_ st v).toNat, by have := (HGD.out.range v (by omega)).1; omega⟩
          obtain ⟨m, hm⟩ : ∃ m : Nat, at_ st (v + 1) = ((e1 + m : Nat) : Int) := ⟨(at_ st (v + 1) - e1).toNat, by have := HGD.out.step v hvn; omega⟩
          have hme : e1 + m ≤ tl.length := by have := (HGD.out.range (v + 1) (by omega)).2; omega
          have HP := hide (And.intro (HH.out.1.pop hlt hv HGD.out he1) (And.intro HH.out.2 hvm))
          have hsl : st.length = n + 1 := HGD.out.s_len
          obtain ⟨ga, oa, ca', hsa, hca, r0⟩ := HGS.out wr HH.out.1.bel v (by omega)
          simp only [Value.slice.injEq, true_and] at hsa
          obtain ⟨rfl, rfl⟩ := hsa
          rw [he1] at r0
          have c1 := cell_of HH.out.1.bg (i := 1) rfl
          have hvi : (v : Int) < (st.length : Int) := by omega
          have hvi1 : (v : Int) + 1 < (st.length : Int) := by omega
          have hli : (i : Int) < (W.length : Int) := by omega
          have HE1 := hide he1; have HM := hide hm; have HV := hide hv; have HSL := hide hsl
          clear HH hv he1 hm hsl hca
          go_wp2
          go_loopw [13, 9] (fun t u wr => ∃ (p : Nat) (B : List Bool) (W : List Nat), t = .int .i64 p ∧ e1 ≤ p ∧ p ≤ e1 + m ∧ Hid (RQ w wr lo n (.slice (some ⟨ga, oa, none⟩) st.length ca) (.slice bo tl.length cb) (.slice co wt.length cc) st tl fr B W u (i + 1) v p ∧ (∀ j q, j < fr.length → at_ fr j = ((q : Nat) : Int) → bAt B q = true) ∧ bAt B v = true)) (fun t _ _ => e1 + m - (RowKit.intOf t).toNat)
          case atStart => exact ⟨e1, B, W, rfl, Nat.le_refl _, by omega, HP.out⟩
          case round =>
            clear HP
            obtain ⟨p, B, W, rfl, hp1, hp2, HH⟩ := hrel
            have c1 := cell_of HH.out.1.bg (i := 1) rfl
            have c2 := cell_of HH.out.1.bg (i := 2) rfl
            obtain ⟨ga', oa', ca'', hsa, _, r1⟩ := HGS.out wr HH.out.1.bel (v + 1) (by have := HSL.out; omega)
            simp only [Value.slice.injEq, true_and, Option.some.injEq, Addr.mk.injEq, and_true] at hsa
            obtain ⟨⟨rfl, rfl⟩, rfl⟩ := hsa
            rw [HM.out] at r1
            obtain ⟨q, hq⟩ : ∃ q, q = e1 + m := ⟨_, rfl⟩
            rw [← hq] at r1
            have HQ0 := hide hq
            by_cases hlt2 : p < q
            · have hpt : p < tl.length := by omega
              obtain ⟨gt, ot, rfl, hgt⟩ := HGB.out p hpt
              have hpq : (p : Int) < (q : Int) := by omega
              have hpti : (p : Int) < (tl.length : Int) := by omega
              obtain ⟨u, hu⟩ : ∃ u, u = tov tl p := ⟨_, rfl⟩
              have hun : u < n := by rw [hu]; exact (tov_lt HGD.out hpt).1
              have htl : at_ tl p = (u : Int) := by rw [hu]; exact (tov_lt HGD.out hpt).2
              have hui : (u : Int) < (n : Int) := by omega
              obtain ⟨gt', ot', ct', hst', _, d2⟩ := HGT.out wr HH.out.1.bel p hpt
              simp only [Value.slice.injEq, true_and, Option.some.injEq, Addr.mk.injEq, and_true] at hst'
              obtain ⟨⟨rfl, rfl⟩, rfl⟩ := hst'
              rw [htl] at d2
              have a1 := HH.out.1.ab.cell u (by rw [HH.out.1.rs.len]; exact hun)
              have HU := hide hu
              have HRC : Hid (Rch n st tl fr u) := by
                have := HH.out.1.rs.goes hvn HH.out.2.2 HGD.out hpt (src_eq HGD.out hvn (by have := HE1.out; omega) (by have := HM.out; have := HQ0.out; omega))
                rw [← HU.out] at this; exact this
              have hpb : p < 10000000 := by omega
              clear hu htl hq
              by_cases hb : bAt B u = true
              · rw [hb] at a1
                go_wp2
                go_roundw
                case rel =>
                  exact ⟨p + 1, B, W, by simp, by omega, by have := HQ0.out; omega, HH.out.1.with (HH.out.1.rs.next (by rw [← HU.out]; exact hb)), HH.out.2.1, HH.out.2.2⟩
                case measure => have := HQ0.out; simp [RowKit.intOf]; omega
              · have hb' : bAt B u = false := by simpa using hb
                clear hb
                rw [hb'] at a1
                have a2 := HH.out.1.ab.free u
                obtain ⟨w4, hw4⟩ : ∃ w4, w4 = wr.setCell ⟨lo, u, none⟩ (.bool true) := ⟨_, rfl⟩
                have s4 : w4.heap.size = wr.heap.size := by rw [hw4]; simp [World.setCell]
                have o4 : ∀ k j, k ≠ lo → w4.cell? ⟨k, j, none⟩ = wr.cell? ⟨k, j, none⟩ := fun k j hk => by
                  unfold World.cell?; rw [hw4, Below.heap_setCell wr ⟨lo, u, none⟩ _ k (by exact hk)]
                have d3 := (o4 gt (ot + p) (by omega)).trans d2
                have c3 := (o4 w.heap.size 2 (by omega)).trans c2
                have hon : w4.ownsRow (lo + 1) 3 1 u9 W.length (oCells W) := own_keepB HH.out.1.ow (fun k hk => by
                  obtain ⟨h1, _⟩ := own_type HH.out.1.ow hk
                  rw [hw4]; exact Below.heap_setCell _ _ _ _ (by show k ≠ lo; omega))
                have hcl : ∀ (j : Nat) (z : Value), ([Value.int .i64 (u : Int)] : List Value)[j]? = some z → (w4.alloc (.cells #[.int .i64 (u : Int)] 3)).cell? ((⟨wr.heap.size, 0, none⟩ : Addr).add j) = some z := by
                  intro j z hj
                  have : j = 0 := by have := (List.getElem?_eq_some_iff.1 hj).1; simpa using this
                  subst this
                  simp at hj
                  subst hj
                  have hh := heap_new w4 (.cells #[.int .i64 (u : Int)] 3)
                  rw [s4] at hh
                  exact cell_of hh (i := 0) rfl
                have hsz : lo + 1 ≤ (w4.alloc (.cells #[.int .i64 (u : Int)] 3)).heap.size := by have := HH.out.1.sz; simp; omega
                have hWn2 : W.length ≤ n := by have := HH.out.1.sum; omega
                have HFN : Hid (∀ v3 w3, w3.ownsRow (lo + 1) 3 1 v3 (W.length + 1) (oCells W ++ [.int .i64 (u : Int)]) → (w4.alloc (.cells #[.int .i64 (u : Int)] 3)).grownBy w3 u9.ownBlock → RQ w w3 lo n (.slice (some ⟨ga, oa, none⟩) st.length ca) (.slice (some ⟨gt, ot, none⟩) tl.length cb) (.slice co wt.length cc) st tl fr (B.set u true) (W ++ [u]) v3 (i + 1) v p) := fun v3 w3 h1 h2 => HH.out.1.mark hun hb' HRC.out h1 (by rw [← hw4]; exact h2)
                rw [hw4] at d3 c3 hon hcl hsz HFN
                clear hw4 s4 o4
                go_wp2_with (first
                  | (at_builtin; refine wpList_append_own_at _ rfl (.tmp 107) (.tmp 113) 22 rfl (lo + 1) 3 i0 (.int .i64 0) 1 8 Try.underlying22 hi hz0 hz1 hz2 rfl (by decide) _ _ _ rfl (hon.alloc _) ⟨wr.heap.size, 0, none⟩ 1 1 [.int .i64 (u : Int)] rfl rfl hcl (by simp [Value.oneCell']) (by unfold maxLen; omega) (by omega) hsz ?_; intro v3 w3 hown3 hgrow3 hq3 hblk3; have HR3 := hide (HFN.out v3 w3 hown3 hgrow3); clear hown3 hgrow3 hq3 hblk3 hon hcl hsz HFN)
                  | fail)
                go_wp2
                go_roundw
                case rel =>
                  have hBl : u < B.length := by rw [HH.out.1.rs.len]; exact hun
                  refine ⟨p + 1, B.set u true, W ++ [u], by simp, by omega, by have := HQ0.out; omega, HR3.out.with (HR3.out.rs.next (by rw [← HU.out, bAt_set hBl]; simp)), fun j z hj hz => ?_, ?_⟩
                  · rw [bAt_set hBl]; split; rfl; exact HH.out.2.1 j z hj hz
                  · rw [bAt_set hBl]; split; rfl; exact HH.out.2.2
                case measure => have := HQ0.out; simp [RowKit.intOf]; omega
            · obtain rfl : p = q := by omega
              have HEND := hide (HH.out.1.with (HH.out.1.rs.rowEnd HGD.out (by have := HM.out; rw [this, HQ0.out])))
              have HS2 := hide HH.out.2.1
              clear HH hq
              go_wp2
              go_roundg (n - (i + 1))
              case measure => have := HGK.out; omega
              case rel => exact ⟨i + 1, B, W, rfl, by simp, HEND.out, HS2.out⟩
        · have hil := HH.out.1.il
          obtain rfl : i = W.length := by omega
          have hrs := HH.out.1.rs
          rw [List.drop_length] at hrs
          have HWH := hide (hrs.whole HGD.out (fun j q hj hq => HH.out.2 j q hj hq))
          clear hrs hil
          go_wp2
          go_ret2
          exact .inr ⟨HV2.out, lo, B, rfl, HH.out.1.ab, HH.out.1.rs.len, HWH.out, HH.out.1.bel⟩
end Go.Proofs.Ytmagigmcbegmiaa
