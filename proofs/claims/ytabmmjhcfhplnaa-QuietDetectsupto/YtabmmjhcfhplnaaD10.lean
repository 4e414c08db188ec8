/- QuietDetects: the walk. -/
import Derived.Test.YtabmmjhcfhplnaaD9
import Derived.Deep.OwnRows
namespace Go.Proofs.Ytabmmjhcfhplnaa
open Go.RowKit Go.Lib Go.MuLone
set_option linter.unusedVariables false
set_option linter.unusedSimpArgs false
theorem dmod8 (x : Int) (h : 0 < x) : 0 ≤ x.tmod 8 ∧ x.tmod 8 < 8 := ⟨Int.tmod_nonneg 8 (by omega), Int.tmod_lt_of_pos x (by decide)⟩
theorem Try.dinfo32 : (Try.prog.info? 32).map (fun i => (i.zero, i.size, i.bytes)) = some (some (.agg #[.int .i64 0, .int .i64 0, .pointer none, .bool false]), 4, 32) := by kernel_rfl
def zc4 : Array Value := #[.int .i64 0, .int .i64 0, .pointer none, .bool false]
theorem run_makeWk (n : Nat) (hn : n ≤ 8) (w : World) : (Instr.makeSlice 29 (.int .i64 n) (.int .i64 n)).run Try.prog w = .ok (.slice (some ⟨w.heap.size, 0, none⟩) n n) (w.alloc (.cells (madeCells zc4 (n * 4)) 32)) := by
  obtain ⟨i0, hi, hz0, hz1, hz2⟩ := dinfo_parts Try.dinfo32
  have h := run_make (P := Try.prog) w 29 32 i0 (.agg #[.int .i64 0, .int .i64 0, .pointer none, .bool false]) Try.underlying29 hi hz0 .i64 .i64 n n (by omega) (Int.le_refl _) (by rw [hz2]; omega) (by omega)
  rw [hz1] at h
  simp only [Int.toNat_natCast] at h
  exact h
def z4 : W4 := ⟨.int .i64 0, .int .i64 0, .pointer none, .bool false⟩
theorem wq_new (w : World) (n : Nat) : WQ (w.alloc (.cells (madeCells zc4 (n * 4)) 32)) w.heap.size n (fun _ => z4) := by
  refine ⟨_, heap_new _ _, size_madeCells _ _, fun k hk => ?_⟩
  have key : ∀ j, j < 4 → (madeCells zc4 (n * 4))[k * 4 + j]? = some (zc4[j]!) := fun j hj => by
    have h1 : k * 4 + j < n * 4 := by omega
    have h2 : (k * 4 + j) % 4 = j := by omega
    simp [madeCells, h1, zc4, h2]
  have k0 := key 0 (by decide)
  have k1 := key 1 (by decide)
  have k2 := key 2 (by decide)
  have k3 := key 3 (by decide)
  exact ⟨k0, k1, k2, k3⟩
theorem WQ.ext {w : World} {G n : Nat} {f g : Nat → W4} (h : WQ w G n f) (he : ∀ k, k < n → f k = g k) : WQ w G n g := by
  obtain ⟨A, h1, h2, h3⟩ := h
  exact ⟨A, h1, h2, fun k hk => by rw [← he k hk]; exact h3 k hk⟩
/-- The first i workers have no task. -/
def fz (i : Nat) : Nat → W4 := fun k => if k < i then wv 0 Wk.w0 else z4
theorem fz_step (w : World) {G n i : Nat} (h : WQ w G n (fz i)) (hi : i < n) : WQ (w.setCell ⟨G, i * 4, none⟩ (.int .i64 (-1))) G n (fz (i + 1)) := by
  refine (h.set0 hi _).ext (fun k hk => ?_)
  unfold upd fz
  by_cases e : k = i
  · subst e; rw [if_pos rfl, if_neg (Nat.lt_irrefl _), if_pos (Nat.lt_succ_self _)]; rfl
  · rw [if_neg e]
    by_cases hl : k < i
    · rw [if_pos hl, if_pos (by omega)]
    · rw [if_neg hl, if_neg (by omega)]
theorem pr_start {mc : Nat → Nat} {N n P d fresh M0 lp : Nat} {ws : List Wk} {bag : List Nat} (h : DI mc N n P d ws bag fresh) (hM : mt mc N ws bag fresh ≤ M0) : Pr mc N n M0 lp 0 d ws bag fresh := fun hl => by
  obtain rfl : lp = 0 := by omega
  exact h.at_picks hM hl
theorem ri_start {w1 w2 w3 wr wz : World} {n Bz gm cm M0 : Nat} {L : List Nat} (hn1 : 1 ≤ n) (hL : 0 < L.length) (hs : L.sum ≤ L.length - 1) (hM : 40 * (n + L.length) ≤ M0)
    (hrow : w2.ownsRow w1.heap.size 3 1 (.slice (some ⟨gm, 0, none⟩) L.length cm) L.length (nums L)) (hb2 : Below w1.heap.size w1 w2) (ha : AIs w3 (Bz + 2) (Bz + 1) Bz (.slice none 0 0) (Ast.laid [1, 0, 0])) (hBz : w2.heap.size ≤ Bz) (hb3 : Below w2.heap.size w2 w3)
    (hq : WQ wr w3.heap.size n (fz n)) (hb4 : Below w3.heap.size w3 wr)
    (hw : wz = ((wr.alloc (.cells #[.int .i64 0] 3)).alloc (.cells #[.slice (some ⟨wr.heap.size, 0, none⟩) 1 1] 22)).alloc (.cells #[.int .i64 1] 3)) :
    ∃ mcur, RI w1 wz (Bz + 2) (Bz + 1) Bz (.slice none 0 0) w3.heap.size n (wr.heap.size + 1) (wr.heap.size + 2) w2.heap.size gm mcur L (Ast.laid [1, 0, 0]) 1 0 (.slice (some ⟨wr.heap.size, 0, none⟩) 1 1) [0] 1 (List.replicate n Wk.w0) 0 M0 := by
  obtain ⟨d1, d2⟩ := di_start (n := n) L (by omega) hL hs
  obtain ⟨_, ⟨h0, _⟩ | ⟨g', cap, cur, hv, hg1, hcu, h2, h3, h4, h5⟩⟩ := id hrow
  · cases h0
  cases hv
  have s2 := hb2.size
  have s3 := hb3.size
  have s4 := hb4.size
  have hY := ha.yw
  have hgl := lt_of_heap hcu
  have hbz : Below wr.heap.size wr wz := by rw [hw]; exact below_alloc (below_alloc (below_alloc (Below.refl _ _) _) _) _
  have a1 := heap_new wr (.cells #[.int .i64 0] 3)
  have a2 := heap_new (wr.alloc (.cells #[.int .i64 0] 3)) (.cells #[.slice (some ⟨wr.heap.size, 0, none⟩) 1 1] 22)
  have a3 := heap_new ((wr.alloc (.cells #[.int .i64 0] 3)).alloc (.cells #[.slice (some ⟨wr.heap.size, 0, none⟩) 1 1] 22)) (.cells #[.int .i64 1] 3)
  rw [World.size_alloc] at a2
  rw [World.size_alloc, World.size_alloc] at a3
  have h01 : wz.heap[wr.heap.size]? = some (.cells #[.int .i64 0] 3 (0, 0)) := by rw [hw]; exact heap_old (heap_old a1 _) _
  have h02 : wz.heap[wr.heap.size + 1]? = some (.cells #[.slice (some ⟨wr.heap.size, 0, none⟩) 1 1] 22 (0, 0)) := by rw [hw]; exact heap_old a2 _
  have h03 : wz.heap[wr.heap.size + 2]? = some (.cells #[.int .i64 1] 3 (0, 0)) := by rw [hw]; exact a3
  have hb34 : Below w3.heap.size w3 wz := below_on hb4 hbz
  have hb24 : Below w2.heap.size w2 wz := below_on hb3 hb34
  refine ⟨cur, ⟨⟨ha.below hb34, rfl, rfl, rfl, rfl, ?_, h02, ?_, h03, ?_, by omega, hgl, (hb24.block _ hgl).trans hcu, fun i hi => ?_, below_on hb2 hb24, by omega, by omega, by omega, by omega, by omega, by omega, s2, hb24.size⟩, d1, ?_, fun k hk hb => ?_⟩⟩
  · refine (hq.kept (hbz.block _ hq.lt)).ext (fun k hk => ?_)
    unfold fz FW
    rw [if_pos hk, wkd_rep]
  · exact ⟨rfl, .inr ⟨_, _, _, rfl, by omega, h01, Nat.le_refl _, by decide, rfl, rfl⟩⟩
  · intro e
    simp [Value.ownBlock] at e
  · have h6 : (cur.toList.take (L.length * 1))[i]? = (nums L)[i]? := by rw [h5]
    rw [List.getElem?_take, if_pos (by omega)] at h6
    have h7 : (nums L)[i]? = some (.int .i64 (mcOf L i : Int)) := by simp [nums, mcOf, List.getD, hi]
    rw [h7] at h6
    simpa using h6
  · show 0 + _ ≤ M0
    omega
  · rw [wkd_rep] at hb; cases hb
theorem tmodD_in (x : Int) (n : Nat) (hn : 0 < n) : -(n : Int) < x.tmod n ∧ x.tmod n < n := by
  have hp : (0 : Int) < n := by omega
  have h2 := Int.tmod_lt_of_pos x hp
  refine ⟨?_, h2⟩
  rcases Int.le_total 0 x with h | h
  · have := Int.tmod_nonneg (n : Int) h; omega
  · have h3 := Int.tmod_lt_of_pos (-x) hp
    rw [Int.neg_tmod] at h3
    omega
theorem ri_peek {w0 w : World} {Y b gc G n B F Yb gm P d fresh q5 M0 : Nat} {lv bv : Value} {mcur : Array Value} {L bag : List Nat} {s : Ast} {ws : List Wk} (h : RI w0 w Y b gc lv G n B F Yb gm mcur L s P d bv bag fresh ws q5 M0) :
    Calls Try.prog 14 #[.pointer (some ⟨b, 0, none⟩), .int .i64 1] w fun r w' => r = .returned (.tuple #[.int .u64 (d : Int), .int .i64 0]) ∧ RI w0 w' Y b gc lv G n B F Yb gm mcur L s P d bv bag fresh ws q5 M0 := by
  refine (dm_peek (i := 1) h.m (by decide)).mono ?_
  rintro r w' ⟨h1, h2, h3⟩
  refine ⟨h1, ⟨h2, h.i, h.lg, fun k hk hb => ?_⟩⟩
  obtain ⟨a1, a2⟩ := h.b5 k hk hb
  exact ⟨h3.heap a1 (fun e => by subst e; exact typ_no a1 h.m.ar.hb (by decide)), a2⟩
theorem mi_granted {w0 w : World} {Y b gc G n B F Yb gm P d fresh k t q q5 M0 ph : Nat} {lv bv : Value} {mcur : Array Value} {L bag : List Nat} {s : Ast} {ws : List Wk} {who : Int} {lo : Bool} (h : MI w0 w Y b gc lv G n B F Yb gm mcur L s P d bv bag fresh ws q5 M0 k t q ph lo) (hw : 0 ≤ who) :
    Calls Try.prog 10 #[.pointer (some ⟨b, 0, none⟩), .int .i64 who] w fun e w' => ∃ p, e = .returned (.pointer (some ⟨p, 0, none⟩)) ∧ MI w0 w' Y b gc lv G n B F Yb gm mcur L s P d bv bag fresh ws q5 M0 k t q ph lo ∧ w'.heap[p]? = some (PObj b who true) ∧ Y ≤ p ∧ lv.ownBlock ≠ some p := by
  refine (dm_granted h.m hw).mono ?_
  rintro e w' ⟨p, rfl, h1, h2, h3, h4, h5⟩
  exact ⟨p, rfl, ⟨h1, h.i, h.lg, h5.heap h.op (fun e => by subst e; exact typ_no h.op h.m.ar.hb (by decide)), h.q0, h.hk, h.at_, h.kind⟩, h2, by have := h.m.ar.yw; omega, h4⟩
set_option maxRecDepth 100000 in
set_option maxHeartbeats 2000000 in
theorem detects_law (v pv : Value) (wk : Int) (l pl : List Int) (w : World) (hC : IAt w v l) (hI : IAt w pv pl) (hl : l.length ≤ 1048576) (hpl : pl.length ≤ 1048576) :
    Calls Try.prog 3 #[v, .int .i64 wk, pv] w fun e w' => e = .returned (.bool true) ∧ Below w.heap.size w w' := by
  obtain ⟨ao, c, rfl, hc1, hc2, hc3⟩ := id hC
  obtain ⟨po, pc, rfl, hd1, hd2, hd3⟩ := id hI
  have HC := hide hC
  have HI := hide hI
  obtain ⟨N, hN⟩ : ∃ n, n = l.length := ⟨_, rfl⟩
  obtain ⟨np, hnp⟩ : ∃ n, n = pl.length := ⟨_, rfl⟩
  rw [← hN] at hl hc1 ⊢
  rw [← hnp] at hpl hd1 ⊢
  have HN := hide hN
  have HNP := hide hnp
  have HL := hide hl
  have HPL := hide hpl
  have HTW := hide (fun W => three_words W 1 0 0)
  clear hC hI hc3 hd3 hN hnp hl hpl
  go_enter Try.func3, Try.ntmps3
  go_upto_region 3 with (first
    | (go_at_call 6; refine (live_any _).mono ?_; rintro e w1 ⟨rfl, h1⟩; have HB1 := hide h1; clear h1)
    | fail)
  by_cases hN0 : N = 0
  · subst hN0
    go_wp2_with fail
    go_ret
    exact ⟨rfl, HB1.out⟩
  have hN1 : ¬ (N : Int) = 0 := by omega
  have hN2 : ((N : Int) == 0) = false := by simp [hN0]
  have HN0 : Hid (0 < l.length) := by
    have h1 := HN.out
    have h2 : 0 < l.length := by omega
    exact h2
  go_upto_if 32 with fail
  go_cut [7] from 32 to 35 (fun a wx => ∃ nn : Nat, 1 ≤ nn ∧ nn ≤ 8 ∧ a = .int .i64 (nn : Int) ∧ w1 = wx)
  case first =>
    by_cases h0 : 0 < wk
    · obtain ⟨m1, m2⟩ := dmod8 wk h0
      obtain ⟨y, hy⟩ : ∃ y : Nat, wk.tmod 8 = (y : Int) := ⟨(wk.tmod 8).toNat, by omega⟩
      have hw : wrap64 (1 + (y : Int)) = 1 + (y : Int) := IntWalk.wrap64_in _ (by omega)
      have HY : Hid (y < 8) := by
        have h2 : y < 8 := by omega
        exact h2
      clear m1 m2
      go_wp2_with fail
      go_meet
      case rel => exact ⟨y + 1, Nat.succ_le_succ (Nat.zero_le _), HY.out, by first | rfl | (congr 1; omega), rfl⟩
    · go_wp2_with fail
      go_meet
      case rel => exact ⟨1, Nat.le_refl _, by decide, rfl, rfl⟩
  case rest =>
  obtain ⟨nn, hnn1, hnn8, rfl, rfl⟩ := hcut
  have HTR := hide (tree_any (.slice ao N c) l w1 (by rw [HN.out]; exact HC.out.below HB1.out) (by rw [← HN.out]; exact HL.out) HN0.out)
  clear hN1 hN2
  go_upto_region 12 with (first
    | (go_at_call 7; refine HTR.out.mono ?_; rintro e w2 ⟨mv, L, rfl, h1, h2, h3, h4⟩; have HL1 := hide (And.intro h1 h2); have HRW := hide h3; have HB2 := hide h4; clear h1 h2 h3 h4)
    | (go_at_call 8; refine (laid_any _ _ [1, 0, 0] (HTW.out w2) (by simp)).mono ?_; rintro e w3 ⟨rfl, h1, h2⟩; have HAR := hide h1; have HB3 := hide (below_on (below_alloc (Below.refl _ _) _) h2); clear h1 h2)
    | fail)
  have hmk := fun W => run_makeWk nn hnn8 W
  rw [World.size_alloc] at HAR
  clear hN0 HTR
  obtain ⟨Bz, hBz⟩ : ∃ B, B = w2.heap.size + 1 := ⟨_, rfl⟩
  rw [← hBz] at HAR
  rw [← hBz]
  have HBZ : Hid (w2.heap.size ≤ Bz) := by rw [hBz]; exact Nat.le_succ _
  clear hBz
  go_upto_region 13 with fail
  have HQ0 := hide (wq_new w3 nn)
  have HB4 := hide (below_alloc (Below.refl w3.heap.size w3) (.cells (madeCells zc4 (nn * 4)) 32))
  generalize w3.alloc (.cells (madeCells zc4 (nn * 4)) 32) = w4 at HQ0 HB4 ⊢
  clear hmk
  go_upto_region 14 with fail
  go_loopw [11] (fun tt wr => ∃ i : Nat, i ≤ nn ∧ tt = .int .i64 i ∧ WQ wr w3.heap.size nn (fz i) ∧ Below w3.heap.size w3 wr) (fun tt _ => nn - (RowKit.intOf tt).toNat)
  case atStart => exact ⟨0, Nat.zero_le _, rfl, HQ0.out.ext (fun k _ => by simp [fz]), HB4.out⟩
  case round =>
    obtain ⟨i, hin, rfl, hq, hbl⟩ := hrel
    clear HQ0 HB4
    by_cases hlt : i < nn
    · have hii : (i : Int) < (nn : Int) := by omega
      obtain ⟨c0, c1, c2, c3⟩ := hq.cells hlt
      have f0 := hq.free (i * 4)
      have HQ := hide (fz_step wr hq hlt)
      have HBL := hide (hbl.setCell (p := ⟨w3.heap.size, i * 4, none⟩) (Nat.le_refl _) (.int .i64 (-1)))
      clear hq hbl
      go_wp2_with fail
      have hwi : wrap64 ((i : Int) + 1) = (i : Int) + 1 := IntWalk.wrap64_in _ (by omega)
      try rw [hwi]
      go_roundw
      case rel => exact ⟨i + 1, Nat.succ_le_of_lt hlt, rfl, HQ.out, HBL.out⟩
      case measure => exact dmdec hlt
    · obtain rfl : nn = i := by omega
      have HQ := hide hq
      have HBL := hide hbl
      clear hq hbl
      go_upto_region 19 with fail
      obtain ⟨gm, cm, hmv, hgm1, hgm2⟩ := HRW.out.form (by rw [HL1.out.1]; exact HN0.out)
      subst hmv
      have hcm : L.length ≤ cm := by
        obtain ⟨_, ⟨h0, _⟩ | ⟨g', cap, cur, hv, h1, h2, h3, _⟩⟩ := HRW.out
        · cases h0
        · cases hv; exact h3
      have HRI0 := hide (ri_start (M0 := 40 * (nn + L.length)) (wz := _) hnn1 (by rw [HL1.out.1]; exact HN0.out) (by have := HL1.out; omega) (Nat.le_refl _) HRW.out HB2.out HAR.out HBZ.out HB3.out HQ.out HBL.out rfl)
      have HMB : Hid (L.length ≤ 1048576 ∧ L.sum ≤ 1048576 ∧ 40 * (nn + L.length) ≤ 1048576 * 400) := by
        have h1 := HL1.out
        have h2 := HN.out
        have h3 := HL.out
        have h4 : L.length ≤ 1048576 ∧ L.sum ≤ 1048576 ∧ 40 * (nn + L.length) ≤ 1048576 * 400 := ⟨by omega, by omega, by omega⟩
        exact h4
      obtain ⟨wz, hwz⟩ : ∃ wz, wz = ((wr.alloc (.cells #[.int .i64 0] 3)).alloc (.cells #[.slice (some ⟨wr.heap.size, 0, none⟩) 1 1] 22)).alloc (.cells #[.int .i64 1] 3) := ⟨_, rfl⟩
      rw [← hwz] at HRI0 ⊢
      obtain ⟨mcur, hri⟩ := HRI0.out
      obtain ⟨G, hG⟩ : ∃ G, G = w3.heap.size := ⟨_, rfl⟩
      obtain ⟨B, hB⟩ : ∃ B, B = wr.heap.size + 1 := ⟨_, rfl⟩
      obtain ⟨F, hF⟩ : ∃ F, F = wr.heap.size + 1 + 1 := ⟨_, rfl⟩
      obtain ⟨Yb, hYb⟩ : ∃ Y, Y = w2.heap.size := ⟨_, rfl⟩
      obtain ⟨b, hb⟩ : ∃ b, b = Bz + 1 := ⟨_, rfl⟩
      obtain ⟨Y, hY⟩ : ∃ b, b = Bz + 2 := ⟨_, rfl⟩
      have hF' : F = wr.heap.size + 2 := hF
      rw [← hG, ← hB, ← hF', ← hYb, ← hb, ← hY] at hri
      rw [← hG, ← hF, ← hB, ← hb]
      have HRI := hide hri
      have HPR := hide (pr_start (lp := np) (M0 := 40 * (nn + L.length)) hri.i (by have := hri.lg; omega))
      obtain ⟨NL, hNL⟩ : ∃ NL, NL = L.length := ⟨_, rfl⟩
      rw [← hNL]
      have HNL := hide hNL
      have hNLc : NL ≤ cm := by rw [hNL]; exact hcm
      have hNLb : NL ≤ 1048576 := by rw [hNL]; exact HMB.out.1
      clear hcm hri HRI0 hwz hG hB hF hF' hYb hb hY hNL HQ HBL HAR HB3 HBZ HRW hgm1 hgm2 hin hlt HTW
      have hx1 : (0 : Int) ≤ 40 * ((nn : Int) + (NL : Int)) * (nn : Int) := Int.mul_nonneg (by omega) (by omega)
      have hx2 : 40 * ((nn : Int) + (NL : Int)) * (nn : Int) ≤ 41943360 * 8 := Int.mul_le_mul (by omega) (by omega) (by omega) (by omega)
      obtain ⟨X, hX⟩ : ∃ X : Nat, (X : Int) = 40 * ((nn : Int) + (NL : Int)) * (nn : Int) := ⟨(40 * ((nn : Int) + (NL : Int)) * (nn : Int)).toNat, by omega⟩
      have HX : Hid (X = 40 * (nn + L.length) * nn) := by
        have h1 : X = 40 * (nn + NL) * nn := by
          have : (X : Int) = ((40 * (nn + NL) * nn : Nat) : Int) := by rw [hX]; simp [Int.natCast_mul, Int.natCast_add]
          exact Int.ofNat.inj this
        rw [HNL.out] at h1
        exact h1
      have HXB : Hid (X ≤ 335546880) := by
        have h1 : X ≤ 335546880 := by omega
        exact h1
      have HWX : Hid (wrap64 (40 * ((nn : Int) + (NL : Int)) * (nn : Int)) = (X : Int)) := by
        have h1 : wrap64 (40 * ((nn : Int) + (NL : Int)) * (nn : Int)) = (X : Int) := by rw [← hX]; exact IntWalk.wrap64_in _ (by omega)
        exact h1
      clear hx1 hx2 hX
      go_upto_region 20 with fail
      go_loopw [14] (fun tt wl => ∃ (i : Nat) (s : Ast) (P d : Nat) (bv : Value) (bag : List Nat) (fresh : Nat) (ws : List Wk) (q5 : Nat) (lv : Value), i ≤ np + X ∧ tt = .int .i64 i ∧ RI w1 wl Y b Bz lv G nn B F Yb gm mcur L s P d bv bag fresh ws q5 (40 * (nn + L.length)) ∧ Pr (mcOf L) L.length nn (40 * (nn + L.length)) np i d ws bag fresh) (fun tt _ => (np + X) - (RowKit.intOf tt).toNat)
      case atStart => exact ⟨0, _, _, _, _, _, _, _, _, _, Nat.zero_le _, rfl, HRI.out, HPR.out⟩
      case round =>
        obtain ⟨i, s, P, d, bv, bag, fresh, ws, q5, lv, hiX, rfl, hri, hpr⟩ := hrel
        clear HRI HPR
        have HRI := hide hri
        have HPR := hide hpr
        clear hri hpr
        go_upto_region 20 with fail
        go_cut [65] from 54 to 65 (fun a wx => a = .bool (decide (i < np + X)) ∧ wr = wx)
        case first =>
          have hwx := HWX.out
          have hnpb : np ≤ 1048576 := HPL.out
          have hxb : X ≤ 335546880 := HXB.out
          by_cases hlt : i < np + X
          · have hli : (i : Int) < (np : Int) + (X : Int) := by omega
            have HLT := hide hlt
            clear hlt
            go_wp2_with fail
            go_meet
            case rel => exact ⟨congrArg Value.bool (decide_eq_true HLT.out).symm, rfl⟩
          · have hli : ¬ (i : Int) < (np : Int) + (X : Int) := by omega
            have HLT := hide hlt
            clear hlt
            go_wp2_with fail
            go_meet
            case rel => exact ⟨congrArg Value.bool (decide_eq_false HLT.out).symm, rfl⟩
        case rest =>
        obtain ⟨rfl, rfl⟩ := hcut
        by_cases hlt : i < np + X
        · rw [decide_eq_true hlt]
          have hnn0 : ¬ nn = 0 := by omega
          have hnn0i : ¬ (nn : Int) = 0 := by omega
          have hnn0b : ((nn : Int) == 0) = false := by simp [hnn0]
          have HMI : Hid ((i : Int) % (nn : Int) = ((i % nn : Nat) : Int)) := by
            have h1 : (i : Int) % (nn : Int) = ((i % nn : Nat) : Int) := by first | exact (Int.natCast_emod i nn).symm | exact (Int.ofNat_emod i nn).symm | rfl
            exact h1
          go_upto_region 23 with fail
          try rw [HMI.out]
          have HMD := hide (Nat.mod_lt i (Nat.pos_of_ne_zero hnn0))
          generalize hk0 : i % nn = k0 at HMD ⊢
          have HK0 := hide hk0
          clear hk0
          go_upto_if 74 with fail
          go_cut [15] from 74 to 85 (fun a wx => ∃ k : Nat, k < nn ∧ a = .int .i64 (k : Int) ∧ (np ≤ i → k = i % nn) ∧ wr = wx)
          case first =>
            by_cases hip : i < np
            · have hipi : (i : Int) < (np : Int) := by omega
              have hil : i < pl.length := by rw [← HNP.out]; exact hip
              obtain ⟨po2, pc2, hv2, hv3, hv4, h3⟩ := (HI.out.below HB1.out).below HRI.out.m.bel
              obtain ⟨gp, op', he, e0⟩ := h3 i hil
              simp only [Value.slice.injEq] at hv2
              obtain ⟨hv2, hvl, hvc⟩ := hv2
              clear hvl hvc hv3 hv4
              subst hv2
              subst he
              obtain ⟨x, hx⟩ : ∃ x, x = nth pl i := ⟨_, rfl⟩
              rw [← hx] at e0
              have hic : i < pc := by omega
              have htm := tmodD_in x nn (by omega)
              have HIP := hide hip
              clear hx h3 hil hip hlt hiX
              go_upto_region 25 with fail
              obtain ⟨y, hy⟩ : ∃ y, y = x.tmod nn := ⟨_, rfl⟩
              rw [← hy] at htm
              try rw [← hy]
              obtain ⟨t1, t2⟩ := htm
              by_cases hneg : y < 0
              · have HWY : Hid (∃ m : Nat, wrap64 (y + nn) = (m : Int) ∧ m < nn) := ⟨(y + nn).toNat, by rw [IntWalk.wrap64_in _ (by omega)]; omega, by omega⟩
                obtain ⟨m, hm, hmn⟩ := HWY.out
                have HM := hide (And.intro hm hmn)
                clear hy t1 t2 hmn hm HWY
                go_wp2_with fail
                try rw [HM.out.1]
                go_meet
                case rel => exact ⟨m, HM.out.2, by first | rfl | rw [← HM.out.1] | (congr 1; have := HM.out.1; omega), fun h => absurd HIP.out (Nat.not_lt.2 h), rfl⟩
              · have HWY : Hid (∃ m : Nat, y = (m : Int) ∧ m < nn) := ⟨y.toNat, by omega, by omega⟩
                clear hy t1 t2
                go_wp2_with fail
                go_meet
                case rel =>
                  obtain ⟨m, h1, h2⟩ := HWY.out
                  exact ⟨m, h2, by rw [h1], fun h => absurd HIP.out (Nat.not_lt.2 h), rfl⟩
            · have hipi : ¬ (i : Int) < (np : Int) := by omega
              clear hip hlt hiX
              go_wp2_with fail
              go_meet
              case rel => exact ⟨k0, HMD.out, rfl, fun _ => HK0.out.symm, rfl⟩
          case rest =>
          obtain ⟨k, hkn, rfl, hkp, rfl⟩ := hcut
          have HKP := hide hkp
          have HKN := hide hkn
          have hki : (k : Int) < (nn : Int) := by omega
          have HLT := hide hlt
          clear hkp HMD HK0 HMI hlt hiX
          go_upto_region 28 with fail
          have c2 := (HRI.out.m.wq.cells hkn).2.2.1
          go_cut [99] from 89 to 99 (fun a wx => (a = .bool true ∧ bag = [] ∧ (wkd ws k).at_ = none ∧ wr = wx) ∨ (a = .bool false ∧ ∃ bv' bag' ws' t q ph lo, MI w1 wx Y b Bz lv G nn B F Yb gm mcur L s P d bv' bag' fresh ws' q5 (40 * (nn + L.length)) k t q ph lo ∧ mt (mcOf L) L.length ws' bag' fresh = mt (mcOf L) L.length ws bag fresh))
          case first =>
            cases hbz : (wkd ws k).busy with
            | true =>
              have e2 : (FW q5 ws k).o = .pointer (some ⟨q5, 0, none⟩) := by simp [FW, wv, hbz]
              rw [e2] at c2
              have HMI := hide (ri_busy HRI.out hkn hbz)
              clear e2 hbz hkn
              go_wp2_with fail
              go_meet
              case rel =>
                obtain ⟨t, h⟩ := HMI.out
                exact .inr ⟨rfl, _, _, _, t, _, _, _, h, rfl⟩
            | false =>
              have e2 : (FW q5 ws k).o = .pointer none := by simp [FW, wv, hbz]
              rw [e2] at c2
              cases hat : (wkd ws k).at_ with
              | some t =>
                have HCA : Hid (Calls Try.prog 9 #[.pointer (some ⟨G, k * 4, none⟩), .slice (some ⟨gm, 0, none⟩) NL cm, .pointer (some ⟨B, 0, none⟩)] wr fun e w' => e = .returned (.bool true) ∧ ∃ q ph lo, MI w1 w' Y b Bz lv G nn B F Yb gm mcur L s P d bv bag fresh ws q5 (40 * (nn + L.length)) k t q ph lo) := by
                  have h1 := ri_hold (cm := cm) HRI.out hkn hat hbz (by rw [← HNL.out]; exact hNLc)
                  rw [← HNL.out] at h1 ⊢
                  rw [HNL.out] at h1 ⊢
                  exact h1
                clear e2 hbz hat hkn
                go_wp2_with (first | (go_at_call 9; refine HCA.out.mono ?_; rintro e w5 ⟨rfl, h1⟩; have HM5 := hide h1; clear h1) | fail)
                go_meet
                case rel =>
                  obtain ⟨q, ph, lo, h⟩ := HM5.out
                  exact .inr ⟨rfl, _, _, _, t, q, ph, lo, h, rfl⟩
              | none =>
                have HBGL : Hid (bag.length ≤ 419430400) := by
                  have h1 := HRI.out.i.bag_le
                  have h2 := HRI.out.lg
                  have h3 := HMB.out.2.2
                  have h4 : bag.length ≤ 419430400 := by omega
                  exact h4
                rcases List.eq_nil_or_concat bag with hbg | ⟨b', t, hbg⟩
                · subst hbg
                  have HCA := hide (dm_none HRI.out.m hkn (fw_n hat) (.slice (some ⟨gm, 0, none⟩) NL cm))
                  have HAT := hide hat
                  clear e2 hbz hat hkn
                  go_wp2_with (first | (go_at_call 9; refine HCA.out.mono ?_; rintro e w5 ⟨rfl, rfl⟩) | fail)
                  go_meet
                  case rel => exact .inl ⟨rfl, by first | rfl | trivial, HAT.out, rfl⟩
                · rw [List.concat_eq_append] at hbg
                  subst hbg
                  have HCA : Hid (Calls Try.prog 9 #[.pointer (some ⟨G, k * 4, none⟩), .slice (some ⟨gm, 0, none⟩) NL cm, .pointer (some ⟨B, 0, none⟩)] wr fun e w' => e = .returned (.bool true) ∧ ∃ q ph lo bv' ws', MI w1 w' Y b Bz lv G nn B F Yb gm mcur L s P d bv' b' fresh ws' q5 (40 * (nn + L.length)) k t q ph lo ∧ mt (mcOf L) L.length ws' b' fresh = mt (mcOf L) L.length ws (b' ++ [t]) fresh) := by
                    have h1 := ri_take (cm := cm) HRI.out hkn hat (by rw [← HNL.out]; exact hNLc) HMB.out.2.2 (by have := HBGL.out; simp at this; omega)
                    rw [← HNL.out] at h1 ⊢
                    rw [HNL.out] at h1 ⊢
                    exact h1
                  clear e2 hbz hat hkn
                  go_wp2_with (first | (go_at_call 9; refine HCA.out.mono ?_; rintro e w5 ⟨rfl, h1⟩; have HM5 := hide h1; clear h1) | fail)
                  go_meet
                  case rel =>
                    obtain ⟨q, ph, lo, bv', ws', h, hmt⟩ := HM5.out
                    exact .inr ⟨rfl, _, _, _, t, q, ph, lo, h, hmt⟩
          case rest =>
          rcases hcut with ⟨rfl, hbg, hat, rfl⟩ | ⟨rfl, bv', bag', ws', t, q, ph, lo, hmi, hmt⟩
          · have HPI := hide (HPR.out.idle HRI.out.i (by have := HRI.out.lg; omega) hbg (fun h => by rw [← HKP.out h]; exact hat))
            clear hbg hat c2
            go_wp2_with fail
            have hwi : wrap64 ((i : Int) + 1) = (i : Int) + 1 := IntWalk.wrap64_in _ (by have h1 := HLT.out; have h2 := HXB.out; have h3 := HPL.out; omega)
            try rw [hwi]
            go_roundw
            case rel => exact ⟨i + 1, s, P, d, bv, bag, fresh, ws, q5, lv, Nat.succ_le_of_lt HLT.out, rfl, HRI.out, HPI.out⟩
            case measure => exact dmdec HLT.out
          · have HMI := hide hmi
            have HMT := hide hmt
            clear hmi hmt c2
            have HKI : Hid ((0 : Int) ≤ (k : Int)) := Int.natCast_nonneg k
            obtain ⟨bo, bc, hbv⟩ := owns_shape HMI.out.m.row
            obtain ⟨bl, hbl⟩ : ∃ bl, bl = bag'.length := ⟨_, rfl⟩
            rw [← hbl] at hbv
            subst hbv
            have HBLN := hide hbl
            clear hbl
            go_upto_region 32 with (first
              | (go_at_call 10; refine (mi_granted (who := (k : Int)) HMI.out HKI.out).mono ?_; rintro e w5 ⟨p, rfl, h1, h2, h3, h4⟩; have HM5 := hide h1; have HG5 := hide (And.intro h2 (And.intro h3 h4)); have o5 : w5.cell? ⟨G, k * 4 + 2, none⟩ = some (.pointer (some ⟨q, 0, none⟩)) := by { have h9 := (h1.m.wq.cells HKN.out).2.2.1; rw [upd_same] at h9; exact h9 }; clear h1 h2 h3 h4)
              | fail)
            go_upto_region 33 with (first
              | (go_at_call 11; refine (mi_step (who := (k : Int)) HM5.out HMB.out.2.2 HG5.out.1 HG5.out.2.1 HG5.out.2.2).mono ?_; rintro e w6 ⟨rfl, lv6, s6, P6, d6, ph6, st6, h1⟩; have HA6 := hide h1; have o6 : w6.cell? ⟨G, k * 4 + 2, none⟩ = some (.pointer (some ⟨q, 0, none⟩)) := by { have h9 := (h1.m.wq.cells HKN.out).2.2.1; rw [upd_same] at h9; exact h9 }; have b6 : w6.cell? ⟨B, 0, none⟩ = some (.slice bo bl bc) := cell_of h1.m.bx (i := 0) rfl; have HOV := hide (over_any w6 q ⟨0, 0, ph6, st6⟩ h1.p6 h1.op); clear h1 o5)
              | fail)
            go_upto_if 117 with (first
              | (go_at_call 12; refine HOV.out.mono ?_; rintro e w7 ⟨rfl, rfl⟩)
              | fail)
            have HB7 : Hid (bag'.length ≤ 419430400) := by
              have h1 := HMI.out.i.bag_le
              have h2 := HMI.out.lg
              have h3 := HMB.out.2.2
              have h4 : bag'.length ≤ 419430400 := by omega
              exact h4
            go_cut [18] from 117 to 121 (fun a wx => ∃ bv7 bag7 fresh7 ws7 q7, a = .int .i64 ((List.length bag7 : Nat) : Int) ∧ d = 0 ∧ RI w1 wx Y b Bz lv6 G nn B F Yb gm mcur L s6 P6 d6 bv7 bag7 fresh7 ws7 q7 (40 * (nn + L.length)) ∧ mt (mcOf L) L.length ws7 bag7 fresh7 + 1 ≤ mt (mcOf L) L.length ws' bag' fresh)
            case first =>
              by_cases hph : ph6 = 0
              · subst hph
                have HOR := hide (ai_over HA6.out HMB.out.2.2 HMB.out.1 HMB.out.2.1 HB7.out)
                go_wp2_with (first
                  | (go_at_call 13; refine HOR.out.mono ?_; rintro e w8 ⟨rfl, hd, bv8, bag8, fresh8, ws8, h1, h2⟩; obtain ⟨bo8, bc8, rfl⟩ := owns_shape h1.m.row; have b8 : w8.cell? ⟨B, 0, none⟩ = some (.slice bo8 bag8.length bc8) := cell_of h1.m.bx (i := 0) rfl; have HF8 := hide (And.intro hd (And.intro h1 h2)); clear hd h1 h2)
                  | fail)
                go_meet
                case rel => exact ⟨_, _, _, _, _, rfl, HF8.out.1, HF8.out.2.1, HF8.out.2.2⟩
              · have HOS := hide (ai_stay HA6.out hph)
                go_wp2_with fail
                go_meet
                case rel =>
                  obtain ⟨h1, ws7, h2, h3⟩ := HOS.out
                  exact ⟨_, _, _, _, _, by rw [HBLN.out], h1, h2, h3⟩
            case rest =>
            obtain ⟨bv7, bag7, fresh7, ws7, q7, rfl, hd, hr7, hm7⟩ := hcut
            have HR7 := hide hr7
            have HP7 := hide (HPR.out.on hr7.i hd (by rw [← HMT.out]; exact hm7) (by have := HRI.out.lg; omega))
            obtain ⟨bl7, hbl7⟩ : ∃ bl, bl = bag7.length := ⟨_, rfl⟩
            rw [← hbl7]
            have HBL7 := hide hbl7
            have HB8 : Hid (bl7 ≤ 419430400) := by
              have h1 := hr7.i.bag_le
              have h2 := hr7.lg
              have h3 := HMB.out.2.2
              have h4 : bl7 ≤ 419430400 := by omega
              exact h4
            clear hd hr7 hm7 hbl7 HA6 HOV o6 b6 HM5 HG5
            go_upto_region 38 with fail
            go_loopw [18, 19] (fun th tj wl => ∃ (j c : Nat), j ≤ nn ∧ tj = .int .i64 j ∧ th = .int .i64 ((bl7 + c : Nat) : Int) ∧ c ≤ j ∧ (d6 = 1 → c = 0) ∧ wc = wl) (fun _ tj _ => nn - (RowKit.intOf tj).toNat)
            case atStart => exact ⟨0, 0, Nat.zero_le _, rfl, rfl, Nat.le_refl _, fun _ => rfl, rfl⟩
            case round =>
              obtain ⟨j, c9, hjn, rfl, rfl, hcj, hdc, rfl⟩ := hrel
              have HDC := hide hdc
              have HCJ := hide hcj
              clear hdc hcj
              by_cases hjl : j < nn
              · have hji : (j : Int) < (nn : Int) := by omega
                have c0 := (HR7.out.m.wq.cells hjl).1
                have hwj : wrap64 ((j : Int) + 1) = (j : Int) + 1 := IntWalk.wrap64_in _ (by omega)
                cases hat : (wkd ws7 j).at_ with
                | none =>
                  rw [fw_n hat] at c0
                  clear hat
                  go_wp2_with fail
                  try rw [hwj]
                  go_roundw
                  case rel => exact ⟨j + 1, c9, Nat.succ_le_of_lt hjl, rfl, rfl, Nat.le_succ_of_le HCJ.out, HDC.out, trivial⟩
                  case measure => exact dmdec hjl
                | some t9 =>
                  rw [fw_a hat] at c0
                  have HND : Hid (d6 = 1 → c9 + 1 = 0) := fun h => by
                    have h1 := HR7.out.i
                    rw [h] at h1
                    have h2 := h1.none_.2.2 j hjl
                    rw [hat] at h2
                    cases h2
                  have ht0 : (0 : Int) ≤ (t9 : Int) := Int.natCast_nonneg t9
                  have HWH : Hid (wrap64 (((bl7 + c9 : Nat) : Int) + 1) = ((bl7 + (c9 + 1) : Nat) : Int)) := by
                    have h1 := HB8.out
                    have h2 := HCJ.out
                    have h3 : wrap64 (((bl7 + c9 : Nat) : Int) + 1) = ((bl7 + (c9 + 1) : Nat) : Int) := by rw [IntWalk.wrap64_in _ (by omega)]; omega
                    exact h3
                  obtain ⟨hh, hhh⟩ : ∃ hh : Nat, hh = bl7 + c9 := ⟨_, rfl⟩
                  rw [← hhh] at HWH ⊢
                  clear hat hhh
                  go_wp2_with fail
                  try rw [hwj]
                  try rw [HWH.out]
                  go_roundw
                  case rel => exact ⟨j + 1, c9 + 1, Nat.succ_le_of_lt hjl, rfl, rfl, Nat.succ_le_succ HCJ.out, HND.out, trivial⟩
                  case measure => exact dmdec hjl
              · have hjn0 : ¬ (j : Int) < (nn : Int) := by omega
                have HPK := hide (ri_peek HR7.out)
                rcases (show d6 = 0 ∨ d6 = 1 by rcases HR7.out.i.mode with ⟨h, _⟩ | ⟨h, _⟩ | ⟨h, _⟩ <;> omega) with h6 | h6
                · subst h6
                  clear hjl
                  go_wp2_with (first | (go_at_call 14; refine HPK.out.mono ?_; rintro e w9 ⟨rfl, h1⟩; have HR9 := hide h1; clear h1) | fail)
                  have hwi : wrap64 ((i : Int) + 1) = (i : Int) + 1 := IntWalk.wrap64_in _ (by have h1 := HLT.out; have h2 := HXB.out; have h3 := HPL.out; omega)
                  try rw [hwi]
                  go_roundw
                  case rel => exact ⟨i + 1, s6, P6, 0, bv7, bag7, fresh7, ws7, q7, lv6, Nat.succ_le_of_lt HLT.out, rfl, HR9.out, HP7.out⟩
                  case measure => exact dmdec HLT.out
                · subst h6
                  obtain ⟨_, hb0, _⟩ := HR7.out.i.none_
                  have hz : bl7 + c9 = 0 := by
                    have h1 := HBL7.out
                    have h2 := HDC.out rfl
                    rw [hb0] at h1
                    simp at h1
                    omega
                  rw [hz]
                  clear hjl hz hb0
                  go_wp2_with (first | (go_at_call 14; refine HPK.out.mono ?_; rintro e w9 ⟨rfl, h1⟩; have HR9 := hide h1; clear h1) | fail)
                  have hwi : wrap64 ((i : Int) + 1) = (i : Int) + 1 := IntWalk.wrap64_in _ (by have h1 := HLT.out; have h2 := HXB.out; have h3 := HPL.out; omega)
                  try rw [hwi]
                  go_roundw
                  case rel => exact ⟨i + 1, s6, P6, 1, bv7, bag7, fresh7, ws7, q7, lv6, Nat.succ_le_of_lt HLT.out, rfl, HR9.out, HP7.out⟩
                  case measure => exact dmdec HLT.out
        · rw [decide_eq_false hlt]
          obtain rfl : i = np + X := by omega
          have hd : d = 1 := by
            have h1 := HPR.out
            rw [HX.out] at h1
            exact h1.end_ HRI.out.i (Nat.le_refl _)
          subst hd
          obtain ⟨hP, hbg, _⟩ := HRI.out.i.none_
          subst hP
          subst hbg
          have HDM := hide HRI.out.m
          obtain ⟨bo, bc, hbv⟩ := owns_shape HDM.out.row
          subst hbv
          clear hlt hiX HPR HRI hnn1 hnn8 hNLc hNLb
          have HP1 : Hid (Calls Try.prog 14 #[.pointer (some ⟨b, 0, none⟩), .int .i64 1] wr fun r w' => r = .returned (.tuple #[.int .u64 1, .int .i64 0]) ∧ DM w1 w' Y b Bz lv G nn B F Yb gm mcur L s 0 1 (.slice bo 0 bc) [] fresh (FW q5 ws)) := (dm_peek (i := 1) HDM.out (by decide)).mono (fun r w' h => ⟨h.1, h.2.1⟩)
          go_upto_region 46 with (first
            | (go_at_call 14; refine HP1.out.mono ?_; rintro e w5 ⟨rfl, h1⟩; have HD5 := hide h1; clear h1)
            | fail)
          have HP2 : Hid (Calls Try.prog 14 #[.pointer (some ⟨b, 0, none⟩), .int .i64 0] w5 fun r w' => r = .returned (.tuple #[.int .u64 0, .int .i64 0]) ∧ DM w1 w' Y b Bz lv G nn B F Yb gm mcur L s 0 1 (.slice bo 0 bc) [] fresh (FW q5 ws)) := (dm_peek (i := 0) HD5.out (by decide)).mono (fun r w' h => ⟨h.1, h.2.1⟩)
          go_upto_region 47 with (first
            | (go_at_call 14; refine HP2.out.mono ?_; rintro e w6 ⟨rfl, h1⟩; have HD6 := hide h1; have c6 : w6.cell? ⟨B, 0, none⟩ = some (.slice bo 0 bc) := cell_of h1.bx (i := 0) rfl; clear h1)
            | fail)
          go_wp2_with fail
          go_ret
          exact ⟨rfl, below_on HB1.out HD6.out.bel⟩
end Go.Proofs.Ytabmmjhcfhplnaa
