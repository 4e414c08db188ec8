/- IsCircle, of what is one. -/
import Derived.Test.YtacmlilcamkndaaCc
namespace Go.Proofs.Ytacmlilcamkndaa
open Go.RowKit Go.Lib
set_option linter.unusedVariables false
set_option linter.unusedSimpArgs false
/-- Whence the first q edges come. -/
def fil (st : List Int) (n m q : Nat) : List Int := tab m (fun e => if e < q then (src st n e : Int) else 0)
theorem fil_len (st : List Int) (n m q : Nat) : (fil st n m q).length = m := tab_length _ _
theorem fil_zero (st : List Int) (n m : Nat) : fil st n m 0 = tab m (fun _ => 0) := tab_congr fun e _ => if_neg (by omega)
theorem fil_set (st : List Int) (n m q v : Nat) (h : src st n q = v) : (fil st n m q).set q (v : Int) = fil st n m (q + 1) := by
  unfold fil
  rw [tab_set]
  refine tab_congr fun e he => ?_
  by_cases h1 : e = q
  · rw [if_pos h1, h1, if_pos (by omega), h]
  · rw [if_neg h1]
    by_cases h2 : e < q
    · rw [if_pos h2, if_pos (by omega)]
    · rw [if_neg h2, if_neg (by omega)]
theorem fil_at (st : List Int) (n m e : Nat) (h : e < m) : at_ (fil st n m m) e = (src st n e : Int) := by
  unfold fil
  rw [tab_at _ _ _ h, if_pos h]
/-- Which sources have been seen. -/
def sn (st c : List Int) (n k x : Nat) : Bool := (List.range k).any (fun j => decide (src st n (at_ c j).toNat = x))
theorem sn_zero (st c : List Int) (n : Nat) : sn st c n 0 = fun _ => false := funext fun x => by simp [sn]
theorem sn_next {st c : List Int} {n k a : Nat} (h : src st n (at_ c k).toNat = a) : (fun x => if x = a then true else sn st c n k x) = sn st c n (k + 1) := funext fun x => by
  simp only [sn, List.range_succ, List.any_append, List.any_cons, List.any_nil, Bool.or_false]
  by_cases e : x = a
  · rw [if_pos e, h, e]; simp
  · rw [if_neg e, h, decide_eq_false (fun h => e h.symm)]; simp
theorem sn_not {st tl c : List Int} {n k : Nat} (h : Ci n st tl c) (hk : k < c.length) : sn st c n k (src st n (at_ c k).toNat) = false := by
  rw [← Bool.not_eq_true]
  intro h2
  simp only [sn, List.any_eq_true, List.mem_range, decide_eq_true_eq] at h2
  obtain ⟨j, h3, h4⟩ := h2
  have := h.apart j k (by omega) hk h4
  omega
structure IM (w wr : World) (gb : Array Value) (A C n : Nat) (L : List Int) (K : Nat → Bool) : Prop where
  f0 : F0 w wr gb A L
  car : BArr wr C (btab n K)
  AC : A < C
theorem IM.put {w wr : World} {gb : Array Value} {A C n : Nat} {L : List Int} {K : Nat → Bool} (h : IM w wr gb A C n L K) (i : Nat) (b : Bool) : IM w (wr.setCell ⟨C, i, none⟩ (.bool b)) gb A C n L (fun v => if v = i then b else K v) := by
  have h1 := h.f0.wA; have h2 := h.AC
  have hc : Chg (fun k => k = C) wr (wr.setCell ⟨C, i, none⟩ (.bool b)) := (Chg.refl (fun k => k = C) wr).setCell (p := ⟨C, i, none⟩) rfl _
  exact ⟨⟨Chg.below h.f0.bel hc (fun k hk => by omega) h.f0.bel.size, hc.heap h.f0.box (by omega), hc.heap h.f0.arr (by omega), h1⟩, h.car.put i b, h2⟩
theorem IM.on {w wr w' : World} {gb : Array Value} {A C n : Nat} {L : List Int} {K : Nat → Bool} (h : IM w wr gb A C n L K) (hb : Below wr.heap.size wr w') : IM w w' gb A C n L K :=
  ⟨⟨below_on h.f0.bel hb, (hb.block _ (lt_of_heap h.f0.box)).trans h.f0.box, (hb.block _ (lt_of_heap h.f0.arr)).trans h.f0.arr, h.f0.wA⟩, (hb.block _ (lt_of_heap h.car)).trans h.car, h.AC⟩
theorem IM.came {w wr w' : World} {gb : Array Value} {A n : Nat} {L : List Int} (h : F0 w wr gb A L) (hown : w'.ownsRow wr.heap.size 4 1 (.slice (some ⟨wr.heap.size, 0, none⟩) n n) n (madeCells (Value.bool false).cells (n * 1)).toList) (hgrow : wr.grownBy w' none) : IM w w' gb A wr.heap.size n L (fun _ => false) := by
  have hb : Below wr.heap.size wr w' := (Below.refl _ _).grown hgrow (Nat.le_refl _) (by intro j hj; cases hj)
  exact ⟨⟨below_on h.bel hb, (hb.block _ (lt_of_heap h.box)).trans h.box, (hb.block _ (lt_of_heap h.arr)).trans h.arr, h.wA⟩, barr_made hown, lt_of_heap h.arr⟩
set_option maxRecDepth 100000 in
set_option maxHeartbeats 8000000 in
theorem isCircle_any (n : Nat) (va vb vc cv : Value) (st tl wt c : List Int) (w : World) (hgi : GIs w n va vb vc st tl wt) (hg : Good n st tl wt) (hcv : RowAt .i64 w cv c) (hci : Ci n st tl c) :
    Calls Try.prog 14 #[gAgg n va vb vc, cv] w fun e w' => e = .returned (.bool true) ∧ Below w.heap.size w w' := by
  obtain ⟨i4, hi4, hz4, hs4, hy4⟩ := info_parts Try.info4
  obtain ⟨i3, hi3, hz3, hs3, hy3⟩ := info_parts Try.info3q
  have hnl := hg.n_le
  have hml := hg.m_le
  have hm0 : 0 < tl.length := by obtain ⟨e, _, h⟩ := hci.edge 0 hci.pos; omega
  have hc0 := hci.pos
  have hcn := hci.few
  obtain ⟨ga, oa, ca, rfl, hca, _⟩ := hgi.s.cellAt 0 (by rw [hg.s_len]; omega)
  obtain ⟨gt, ot, cb_, rfl, hcb, _⟩ := hgi.t.cellAt 0 hm0
  obtain ⟨gl, ol, lc, rfl, hlc, _⟩ := hcv.cellAt 0 hc0
  have HG := hide hg; have HS := hide hgi.s; have HT := hide hgi.t; have HV := hide hcv; have HCI := hide hci
  obtain ⟨m, hm⟩ : ∃ m, m = tl.length := ⟨_, rfl⟩
  obtain ⟨kl, hkl⟩ : ∃ k, k = c.length := ⟨_, rfl⟩
  have HM := hide hm; have HKL := hide hkl
  have hsl := hg.s_len
  rw [hsl] at hca HS ⊢
  rw [← hm] at hml HT hcb hm0 ⊢
  rw [← hkl] at HV hcn hc0 hlc ⊢
  have HCB := hide hcb; have HCA := hide hca; have HNL := hide hnl; have HML := hide hml; have HLC := hide hlc; have HCN := hide hcn
  have hcn2 : ¬ (n : Int) < (kl : Int) := by omega
  have hkl0 : ¬ (kl : Int) = 0 := by omega
  clear hgi hg hm hsl hcv hkl hci
  unfold gAgg
  have hbox := heap_new w (.cells #[.int .i64 n, .slice (some ⟨ga, oa, none⟩) (n + 1) ca, .slice (some ⟨gt, ot, none⟩) m cb_, vc] 25)
  have c0 := cell_of hbox (i := 0) rfl
  have c2 := cell_of hbox (i := 2) rfl
  have HB0 : Hid (Below w.heap.size w (w.alloc (.cells #[.int .i64 n, .slice (some ⟨ga, oa, none⟩) (n + 1) ca, .slice (some ⟨gt, ot, none⟩) m cb_, vc] 25))) := below_alloc (Below.refl _ _) _
  have HBX := hide hbox
  clear hbox
  go_enter Try.func14, Try.ntmps14
  go_upto_region 1 with fail
  have HW1 : Hid (w.heap.size < (w.alloc (.cells #[.int .i64 n, .slice (some ⟨ga, oa, none⟩) (n + 1) ca, .slice (some ⟨gt, ot, none⟩) m cb_, vc] 25)).heap.size) := by simp [hide]
  generalize (w.alloc (.cells #[.int .i64 n, .slice (some ⟨ga, oa, none⟩) (n + 1) ca, .slice (some ⟨gt, ot, none⟩) m cb_, vc] 25)) = w1 at c0 c2 HB0 HBX HW1 ⊢
  go_upto_region 4 with (first
    | (at_make; refine wpList_make_full _ rfl _ _ 22 rfl w1.heap.size 3 i3 (.int .i64 0) 1 Try.underlying22 hi3 hz3 hs3 _ _ _ _ m rfl rfl rfl rfl (by rw [hy3]; omega) (by unfold maxLen; omega) (Nat.le_refl _) ?_; intro w2 hown hgrow)
    | fail)
  have hb2 : Below w1.heap.size w1 w2 := (Below.refl _ _).grown hgrow (Nat.le_refl _) (by intro j hj; cases hj)
  have HF : Hid (F0 w w2 #[.int .i64 n, .slice (some ⟨ga, oa, none⟩) (n + 1) ca, .slice (some ⟨gt, ot, none⟩) m cb_, vc] w1.heap.size (fil st n m 0)) := by
    refine ⟨below_on HB0.out hb2, (hb2.block _ HW1.out).trans HBX.out, ?_, HW1.out⟩
    rw [fil_zero]
    exact arr_made hown
  generalize w1.heap.size = A at HF ⊢
  clear hown hgrow hb2 HB0 HBX HW1 c0 c2 hcn2 hkl0
  go_wp2_with fail
  go_loopw [6] (fun t wr => ∃ u : Nat, u ≤ n ∧ t = .int .i64 u ∧ ∃ q : Nat, at_ st u = (q : Int) ∧ F0 w wr #[.int .i64 n, .slice (some ⟨ga, oa, none⟩) (n + 1) ca, .slice (some ⟨gt, ot, none⟩) m cb_, vc] A (fil st n m q)) (fun t _ => n - (RowKit.intOf t).toNat)
  case atStart => exact ⟨0, Nat.zero_le _, rfl, 0, HG.out.zero, HF.out⟩
  case round =>
    obtain ⟨u, hu, rfl, p, hp, hf⟩ := hrel
    have HFR := hide hf
    have c0 := cell_of hf.box (i := 0) rfl
    have c1 := cell_of hf.box (i := 1) rfl
    clear hf HF
    by_cases hlt : u < n
    · obtain ⟨r, hr⟩ : ∃ r : Nat, at_ st (u + 1) = ((p + r : Nat) : Int) := ⟨(at_ st (u + 1)).toNat - p, by have := HG.out.step u hlt; have := HG.out.range (u + 1) (by omega); omega⟩
      have hpr : p + r ≤ m := by have := HG.out.range (u + 1) (by omega); have := HM.out; omega
      have HSRC : Hid (∀ j, j < r → src st n (p + j) = u) := fun j hj => src_eq HG.out hlt (by rw [hp]; omega) (by rw [hr]; omega)
      have HR_ := hide hr
      obtain ⟨ga2, oa2, ca2, he1, hca1, hx1⟩ := HS.out.cellAt u (by rw [HG.out.s_len]; omega)
      obtain ⟨ga3, oa3, ca3, he2, _, hx2⟩ := HS.out.cellAt (u + 1) (by rw [HG.out.s_len]; omega)
      simp only [Value.slice.injEq, Option.some.injEq, Addr.mk.injEq, and_true] at he1 he2
      obtain ⟨⟨rfl, rfl⟩, hq7, rfl⟩ := he1
      obtain ⟨⟨rfl, rfl⟩, hq8, rfl⟩ := he2
      rw [hp] at hx1
      rw [hr] at hx2
      have HX2 := hide hx2
      have s1 : wr.cell? ⟨ga, oa + u, none⟩ = some (.int .i64 (p : Int)) := (below_cell HFR.out.bel (block_of_cell hx1)).trans hx1
      have hua : (u : Int) < ca := by have := HCA.out; omega
      have hua1 : (u : Int) + 1 < ca := by have := HCA.out; omega
      have hu1 : (u : Int) + 1 ≤ 9223372036854775807 := by have := HNL.out; omega
      have HF2 : Hid (F0 w wr #[.int .i64 n, .slice (some ⟨ga, oa, none⟩) (n + 1) ca, .slice (some ⟨gt, ot, none⟩) m cb_, vc] A (fil st n m (p + 0))) := HFR.out
      clear hq7 hq8 hca1 hp hr hx1 hx2 HFR
      go_wp2_with fail
      clear s1 c0 c1
      go_loopw [7] (fun t wr => ∃ j : Nat, j ≤ r ∧ t = .int .i64 ((p + j : Nat) : Int) ∧ F0 w wr #[.int .i64 n, .slice (some ⟨ga, oa, none⟩) (n + 1) ca, .slice (some ⟨gt, ot, none⟩) m cb_, vc] A (fil st n m (p + j))) (fun t _ => p + r - (RowKit.intOf t).toNat)
      case atStart => exact ⟨0, Nat.zero_le _, rfl, HF2.out⟩
      case round =>
        obtain ⟨j, hj, rfl, hf⟩ := hrel
        have HFJ := hide hf
        have c0 := cell_of hf.box (i := 0) rfl
        have c1 := cell_of hf.box (i := 1) rfl
        clear hf HF2
        have s2 : wr.cell? ⟨ga, oa + (u + 1), none⟩ = some (.int .i64 ((p + r : Nat) : Int)) := (below_cell HFJ.out.bel (block_of_cell HX2.out)).trans HX2.out
        obtain ⟨e0, he0⟩ : ∃ e0 : Nat, e0 = p + j := ⟨_, rfl⟩
        obtain ⟨pr, hpr2⟩ : ∃ pr : Nat, pr = p + r := ⟨_, rfl⟩
        rw [← hpr2] at s2
        rw [← he0]
        by_cases hjr : j < r
        · have y0 := HFJ.out.arr.cell e0 (by rw [fil_len]; omega)
          have yf := HFJ.out.arr.free e0
          have HPU : Hid (F0 w (wr.setCell ⟨A, e0, none⟩ (.int .i64 (u : Int))) #[.int .i64 n, .slice (some ⟨ga, oa, none⟩) (n + 1) ca, .slice (some ⟨gt, ot, none⟩) m cb_, vc] A (fil st n m (p + (j + 1)))) := by
            have := HFJ.out.setA e0 (u : Int)
            rw [he0, fil_set st n m (p + j) u (HSRC.out j hjr)] at this
            rw [he0]
            exact this
          have hem : (e0 : Int) + 1 ≤ 9223372036854775807 := by have := HML.out; omega
          have helt : (e0 : Int) < (pr : Int) := by omega
          have helt2 : e0 < pr := by omega
          have hem2 : e0 < m := by omega
          have HMS : Hid (p + r - (e0 + 1) < p + r - e0) := by show _ < _; omega
          have HE0 := hide he0
          clear he0 hpr2
          go_wp2_with fail
          go_roundw
          case rel => exact ⟨j + 1, Nat.succ_le_of_lt hjr, by have := HE0.out; go_num, HPU.out⟩
          case measure =>
            have := HMS.out
            simp [RowKit.intOf]
            omega
        · have hjj : j = r := by omega
          have HFE : Hid (F0 w wr #[.int .i64 n, .slice (some ⟨ga, oa, none⟩) (n + 1) ca, .slice (some ⟨gt, ot, none⟩) m cb_, vc] A (fil st n m (p + r))) := by have := HFJ.out; rw [hjj] at this; exact this
          have hd : decide ((e0 : Int) < (pr : Int)) = false := decide_eq_false (by omega)
          have hd2 : ¬ (e0 : Int) < (pr : Int) := by omega
          clear he0 hpr2 hjr hjj hj hpr
          go_wp2_with fail
          exact ⟨⟨u + 1, Nat.succ_le_of_lt hlt, by go_num, p + r, HR_.out, HFE.out⟩, mdec hlt⟩
    · have hun : n = u := by omega
      have hpm : p = m := by have := HG.out.last; rw [hun] at this; have := HM.out; omega
      rw [hpm] at HFR
      have hd : decide ((u : Int) < (n : Int)) = false := decide_eq_false (by omega)
      clear hun hp hu hpm hd
      go_wp2_with (first
        | (at_make; refine wpList_make_full _ rfl _ _ 48 rfl wr.heap.size 4 i4 (.bool false) 1 Try.underlying48 hi4 hz4 hs4 _ _ _ _ n rfl rfl rfl rfl (by rw [hy4]; have := HNL.out; omega) (by unfold maxLen; have := HNL.out; omega) (Nat.le_refl _) ?_; intro w3 hown hgrow; have HI := hide (IM.came HFR.out hown hgrow); clear hown hgrow)
        | fail)
      rw [← sn_zero st c n] at HI
      generalize wr.heap.size = C at HI ⊢
      clear HFR c0 c1
      go_loopw [9] (fun t wr => ∃ i : Nat, i ≤ kl ∧ t = .int .i64 i ∧ IM w wr #[.int .i64 n, .slice (some ⟨ga, oa, none⟩) (n + 1) ca, .slice (some ⟨gt, ot, none⟩) m cb_, vc] A C n (fil st n m m) (sn st c n i)) (fun t _ => kl - (RowKit.intOf t).toNat)
      case atStart => exact ⟨0, Nat.zero_le _, rfl, HI.out⟩
      case round =>
        obtain ⟨i, hi, rfl, hx⟩ := hrel
        have HIR := hide hx
        clear hx HI
        by_cases hik : i < kl
        · have hic : i < c.length := by have := HKL.out; omega
          obtain ⟨gl2, ol2, lc2, he, _, hx⟩ := (HV.out.below HIR.out.f0.bel).cellAt i hic
          simp only [Value.slice.injEq, Option.some.injEq, Addr.mk.injEq, and_true] at he
          obtain ⟨⟨rfl, rfl⟩, hq9, rfl⟩ := he
          obtain ⟨e, he1, he2⟩ := HCI.out.edge i hic
          have hem : e < m := by have := HM.out; omega
          rw [he1] at hx
          obtain ⟨a, ha⟩ : ∃ a, a = src st n e := ⟨_, rfl⟩
          have han : a < n := by rw [ha]; exact src_lt HG.out he2
          have y0 := HIR.out.f0.arr.cell e (by rw [fil_len]; exact hem)
          rw [fil_at _ _ _ _ hem, ← ha] at y0
          have y1 := HIR.out.car.cell a han
          have hsn := sn_not HCI.out hic
          rw [he1, Int.toNat_natCast, ← ha] at hsn
          rw [hsn] at y1
          have HSX := hide (sn_next (st := st) (c := c) (n := n) (k := i) (a := a) (by rw [he1, Int.toNat_natCast, ← ha]))
          have c2 := cell_of HIR.out.f0.box (i := 2) rfl
          have z0 := gw_cell hx
          have z1 := gw_cell y0
          have z2 := gw_cell y1
          have z3 := gw_cell c2
          have he00 : ¬ (e : Int) < 0 := by omega
          have hem0 : ¬ (m : Int) ≤ (e : Int) := by omega
          have hilc : (i : Int) < lc := by have := HLC.out; omega
          have him : (i : Int) + 1 ≤ 9223372036854775807 := by have := HCN.out; have := HNL.out; omega
          clear hq9 he1 he2 ha hsn hic
          go_upto_region 15 with fail
          clear hx y0 y1 c2
          refine wp_region_gw (by kernel_rfl) (by kernel_rfl) ?_
          repeat (go_big_quiet_step (rfl))
          refine wpQuiet_nil ?_
          intro _ hw'
          obtain ⟨y, hw''⟩ := hw'
          subst hw''
          have HIY := hide (HIR.out.on y.bel)
          have x0 := z0 y
          have x1 := z1 y
          have x2 := z2 y
          have x2f := HIY.out.car.free a
          have HI2 := hide (HIY.out.put a true)
          rw [HSX.out] at HI2
          generalize y.world = wy at x0 x1 x2 x2f HIY HI2 ⊢
          clear z0 z1 z2 z3 HIR HSX y
          go_wp2_with fail
          go_roundw
          case rel => exact ⟨i + 1, Nat.succ_le_of_lt hik, by go_num, HI2.out⟩
          case measure => exact mdec hik
        · have HF4 := hide HIR.out.f0
          clear HIR hi
          go_wp2_with fail
          clear hik
          go_loopw [10] (fun t wr => ∃ i : Nat, i ≤ kl ∧ t = .int .i64 i ∧ F0 w wr #[.int .i64 n, .slice (some ⟨ga, oa, none⟩) (n + 1) ca, .slice (some ⟨gt, ot, none⟩) m cb_, vc] A (fil st n m m)) (fun t _ => kl - (RowKit.intOf t).toNat)
          case atStart => exact ⟨0, Nat.zero_le _, rfl, HF4.out⟩
          case round =>
            obtain ⟨i, hi, rfl, hx⟩ := hrel
            have HIR := hide hx
            clear hx HF4
            by_cases hik : i < kl
            · have hic : i < c.length := by have := HKL.out; omega
              obtain ⟨gl2, ol2, lc2, he, _, hx⟩ := (HV.out.below HIR.out.bel).cellAt i hic
              simp only [Value.slice.injEq, Option.some.injEq, Addr.mk.injEq, and_true] at he
              obtain ⟨⟨rfl, rfl⟩, hq9, rfl⟩ := he
              obtain ⟨i2, hi2⟩ : ∃ i2, i2 = (i + 1) % kl := ⟨_, rfl⟩
              have hi2k : i2 < kl := by rw [hi2]; exact Nat.mod_lt _ (by omega)
              have hic2 : i2 < c.length := by have := HKL.out; omega
              obtain ⟨gl3, ol3, lc3, he, _, hx2⟩ := (HV.out.below HIR.out.bel).cellAt i2 hic2
              simp only [Value.slice.injEq, Option.some.injEq, Addr.mk.injEq, and_true] at he
              obtain ⟨⟨rfl, rfl⟩, hq8, rfl⟩ := he
              obtain ⟨e, he1, he2⟩ := HCI.out.edge i hic
              obtain ⟨d, hd1, hd2⟩ := HCI.out.edge i2 hic2
              have hem : e < m := by have := HM.out; omega
              have hdm : d < m := by have := HM.out; omega
              rw [he1] at hx
              rw [hd1] at hx2
              obtain ⟨a, ha⟩ : ∃ a, a = src st n d := ⟨_, rfl⟩
              have y0 := HIR.out.arr.cell d (by rw [fil_len]; exact hdm)
              rw [fil_at _ _ _ _ hdm, ← ha] at y0
              have hnx := HCI.out.next i hic
              rw [← HKL.out, ← hi2, he1, hd1, Int.toNat_natCast, Int.toNat_natCast, ← ha] at hnx
              obtain ⟨gt2, ot2, cb2, he, _, hx3⟩ := (HT.out.below HIR.out.bel).cellAt e he2
              simp only [Value.slice.injEq, Option.some.injEq, Addr.mk.injEq, and_true] at he
              obtain ⟨⟨rfl, rfl⟩, hq7, rfl⟩ := he
              rw [hnx] at hx3
              have c2 := cell_of HIR.out.box (i := 2) rfl
              have z0 := gw_cell hx
              have z1 := gw_cell y0
              have z2 := gw_cell hx2
              have z3 := gw_cell c2
              have z4 := gw_cell hx3
              have hilc : (i : Int) < lc := by have := HLC.out; omega
              have hilc2 : (i2 : Int) < lc := by have := HLC.out; omega
              have hecb : (e : Int) < cb_ := by have := HCB.out; omega
              have him : (i : Int) + 1 ≤ 9223372036854775807 := by have := HCN.out; have := HNL.out; omega
              have hw1 : IntKind.i64.wrap ((i : Int) + 1) = (i : Int) + 1 := IntWalk.i64_in _ (by have := HCN.out; have := HNL.out; omega)
              have hrm : ((i : Int) + 1).tmod (kl : Int) = (i2 : Int) := by rw [hi2]; rfl
              have hkl0 : ¬ (kl : Int) = 0 := by omega
              clear hq9 hq8 hq7 he1 he2 hd1 hd2 ha hic hic2 hnx hi2
              go_upto_region 21 with fail
              clear hx y0 hx2 c2 hx3
              refine wp_region_gw (by kernel_rfl) (by kernel_rfl) ?_
              repeat (go_big_quiet_step (rfl))
              refine wpQuiet_nil ?_
              intro _ hw'
              obtain ⟨y, hw''⟩ := hw'
              subst hw''
              have HIY : Hid (F0 w y.world #[.int .i64 n, .slice (some ⟨ga, oa, none⟩) (n + 1) ca, .slice (some ⟨gt, ot, none⟩) m cb_, vc] A (fil st n m m)) := ⟨below_on HIR.out.bel y.bel, (y.bel.block _ (lt_of_heap HIR.out.box)).trans HIR.out.box, (y.bel.block _ (lt_of_heap HIR.out.arr)).trans HIR.out.arr, HIR.out.wA⟩
              generalize y.world = wy at HIY ⊢
              clear z0 z1 z2 z3 z4 HIR y
              go_wp2_with fail
              go_roundw
              case rel => exact ⟨i + 1, Nat.succ_le_of_lt hik, by go_num, HIY.out⟩
              case measure => exact mdec hik
            · have HB := hide HIR.out.bel
              clear HIR hi
              go_wp2_with fail
              go_ret
              exact ⟨rfl, HB.out⟩
end Go.Proofs.Ytacmlilcamkndaa
