/- TokenSafe: the walk. -/
import Derived.Test.YtdjkidgkeekenaaGreatLmP
namespace Go.Proofs.YtdjkidgkeekenaaGreat
open Go.RowKit Go.Lib Go.MuLone
set_option linter.unusedVariables false
set_option linter.unusedSimpArgs false
/-- An access behind done: nothing is sent, nothing is taken. -/
def sfOk (y : Acc) : Prop := y.kind ≠ 4 ∧ (4 ≤ y.cell → y.kind = 1)
theorem sf_step {n K i : Nat} {σ : Cir} (h : Inv n K σ) (hi : i < n) (h0 : (σ.1 i).ph ≠ 0) (hc : nth σ.2 0 = 1) : sfOk ((σ.1 i).acc (nth σ.2 (σ.1 i).cell)) := by
  have hq := h.tx.dq (.inl hc) i hi
  have hw := h.sys.wf i hi
  have hp := hw.ph
  have p2 : (σ.1 i).ph ≠ 2 := fun e => by
    have := h.tx.a2 i hi e
    rw [hq.1] at this; cases this
  have p4 : (σ.1 i).ph ≠ 4 := fun e => by
    have h1 := h.tx.m4 i hi e
    have h2 : 0 < (σ.1 i).m := hw.p4 e
    have h3 := hq.2
    omega
  generalize (σ.1 i) = d at *
  obtain ⟨who, nn, sends, burst, ph, active, left, sent, bal, black, m, q, k⟩ := d
  simp only at hp p2 p4 h0
  have hph : ph = 1 ∨ ph = 3 ∨ ph = 5 ∨ ph = 6 ∨ ph = 7 ∨ ph = 8 ∨ ph = 9 ∨ ph = 10 ∨ ph = 11 := by omega
  rcases hph with rfl | rfl | rfl | rfl | rfl | rfl | rfl | rfl | rfl <;> simp [sfOk, Nd.acc]
/-- The place in the log from which on done is told. -/
def AtI (s : Ast) (a : Int) : Prop := (a = -1 ∧ nth s.cells 0 = 0) ∨ ∃ q : Nat, a = (q : Int) ∧ nth s.cells 0 = 1 ∧ q ≤ s.log.length ∧ ∀ k (y : Acc), q ≤ k → s.log[k]? = some y → sfOk y
/-- What a pick makes of it. -/
theorem at_step {n K i : Nat} {ds : Nat → Nd} {s : Ast} (h : Inv n K (ds, s.cells)) (hn0 : 0 < n) (hn : n ≤ 64) (hK : K ≤ 1099511627776) (hi : i < n) (hk : s.keep = true) {q : Nat} (ha : AtI s (q : Int)) : nth (pkd s ds i).cells 0 = 1 ∧ AtI (pkd s ds i) (q : Int) := by
  rcases ha with ⟨e, _⟩ | ⟨q', e, hc, hq, hl⟩
  · omega
  obtain rfl : q = q' := by omega
  have hc' : nth (pkd s ds i).cells 0 = 1 := by
    rw [pkd_cells]
    exact (Dn.step h hn hK hn0 hi (.inl hc)).2 hc
  refine ⟨hc', .inr ⟨q, rfl, hc', ?_⟩⟩
  by_cases h0 : (ds i).ph = 0
  · rw [show pkd s ds i = s from if_pos h0]
    exact ⟨hq, hl⟩
  · have hy := sf_step h hi h0 hc
    rw [show pkd s ds i = s.made (ds i).cell ((ds i).acc (nth s.cells (ds i).cell)) from if_neg h0]
    show q ≤ (if s.keep then s.log ++ [_] else s.log).length ∧ ∀ k (y : Acc), q ≤ k → (if s.keep then s.log ++ [_] else s.log)[k]? = some y → sfOk y
    rw [if_pos hk]
    refine ⟨by simp; omega, fun k y hqk hky => ?_⟩
    rcases Nat.lt_or_ge k s.log.length with e | e
    · rw [List.getElem?_append_left e] at hky
      exact hl k y hqk hky
    · rw [List.getElem?_append_right e] at hky
      rcases Nat.lt_or_ge (k - s.log.length) 1 with q1 | q1
      · rw [show k - s.log.length = 0 by omega] at hky
        simp at hky
        subst hky
        exact hy
      · rw [List.getElem?_eq_none (by simpa using q1)] at hky; cases hky
/-- The state at the end of the picks, and in turns behind them. -/
def TrI (n m A : Nat) (k : Nat) (σ : Cir) : Prop := m ≤ k → ∃ τ, Inv n m τ ∧ Ev n τ ≤ 2 * (A : Int) ∧ σ = trn n τ m (k - m)
theorem field51_1 (a d : Int) (p q r : Bool) (w : World) : (Instr.field 51 (.agg #[.int .i64 a, .bool p, .bool q, .int .i64 d, .bool r]) 1).run Tryz.prog w = .ok (.bool p) w := by kernel_rfl
set_option maxRecDepth 100000 in
set_option maxHeartbeats 8000000 in
theorem safe_law (v0 v1 vp : Value) (b : Int) (ls : List (List Int)) (aw pk : List Int) (w : World) (hr : RwsI w v0 ls) (ha : RowAt .i64 w v1 aw) (hN : Bnd ls aw) (hp : RowAt .i64 w vp pk) (hpl : pk.length ≤ 1048576) (hbu : b ≤ 9223372036854775807) :
    Calls Tryz.prog 3 #[.agg #[v0, v1, .int .i64 b], vp] w fun e w' => e = .returned (.bool true) ∧ Below w.heap.size w w' := by
  obtain ⟨so, sc, rfl, hsc⟩ := hr.shape
  obtain ⟨bo, bc, rfl⟩ := ha.shape
  obtain ⟨po, pc, rfl⟩ := hp.shape
  have HC5 := hide (fun W (hb : Below w.heap.size w W) => refCheck_any _ _ b ls aw W (hr.below hb) (ha.below hb) hN)
  have HC6 := hide (fun W (hb : Below w.heap.size w W) => checks_law _ _ b 0 ls aw W (hr.below hb) (ha.below hb) hN)
  have HC7 := hide (fun W (hb : Below w.heap.size w W) hck h1 h2 => lay_any _ _ b ls aw W (hr.below hb) (ha.below hb) hN hck h1 h2)
  have HRW := hide (fun W (hb : Below w.heap.size w W) => hr.below hb)
  have HAW := hide (fun W (hb : Below w.heap.size w W) => ha.below hb)
  have HAL := hide hN.a
  have HBU := hide hbu
  clear hbu
  have HPK := hide (fun W (hb : Below w.heap.size w W) => hp.below hb)
  have HPL := hide hpl
  obtain ⟨X0, hX0⟩ : ∃ X0, X0 = w.alloc (.cells #[.slice so ls.length sc, .slice bo aw.length bc, .int .i64 b] 25) := ⟨_, rfl⟩
  have HB := hide (show Below w.heap.size w X0 by rw [hX0]; exact below_alloc (Below.refl _ _) _)
  have HA := hide (show X0.heap[w.heap.size]? = some (.cells #[.slice so ls.length sc, .slice bo aw.length bc, .int .i64 b] 25 (0, 0)) by rw [hX0]; exact heap_new _ _)
  have a0 := cell_of HA.out (i := 0) rfl; have a1 := cell_of HA.out (i := 1) rfl; have a2 := cell_of HA.out (i := 2) rfl
  clear hr ha hN hp hsc hpl
  rw [hX0] at a0 a1 a2
  go_enter Tryz.func3, Tryz.ntmps3
  go_wp2_with fail
  rw [← hX0]
  clear hX0 a0 a1 a2
  refine (HC5.out X0 HB.out).mono ?_
  rintro e w1 ⟨hb1, r, rfl, hck⟩
  replace HA := hide ((hb1.block _ (lt_of_heap HA.out)).trans HA.out)
  replace HB := hide (below_on HB.out hb1)
  have HCK := hide hck
  have a0 := cell_of HA.out (i := 0) rfl; have a1 := cell_of HA.out (i := 1) rfl; have a2 := cell_of HA.out (i := 2) rfl
  clear hb1 hck HC5
  by_cases hr : r = 0
  · subst hr
    have HLS := hide HCK.out.len
    go_wp2_with fail
    clear a0 a1 a2
    refine (HC7.out w1 HB.out HCK.out HLS.out.1 HLS.out.2.1).mono ?_
    rintro e w2 ⟨X, bb, gc, rb, Y, Z, vP, vN, vG, qs, ps, sv, rfl, hbl, hz, hlb, hlg, har, hlx, hnd, hpo, hinj, hlo⟩
    have hpn : ∀ w, (binOp .eql 28 (.pointer (some ⟨X, 0, none⟩)) (.pointer none)).run Tryz.prog w = .ok (.bool false) w := fun w => rfl
    obtain ⟨gN, cN, rfl⟩ := row_ptr hlx.n (by have := HLS.out.1; omega)
    have HPY := hide (played_any bb ls.length X Z gN cN vP (.pointer (some ⟨rb, 0, none⟩)) vG qs w2 ⟨HLS.out.1, HLS.out.2.1⟩ hlx.x hlx.n)
    have HST := hide (fun W lb sb rs (hp : PLm w2 W bb ls.length lb sb qs rs) => lm_start HCK.out HBU.out hbl hz hlb hlg har hlx hnd hinj hlo hp)
    clear hbl hz hlb hlg har hlx hnd hpo hinj hlo HC7
    go_wp2_with fail
    refine HPY.out.mono ?_
    rintro e w3 ⟨lb, sb, rs, rfl, hpl⟩
    have hpn2 : ∀ w, (binOp .eql 30 (.pointer (some ⟨lb, 0, none⟩)) (.pointer none)).run Tryz.prog w = .ok (.bool false) w := fun w => rfl
    have HL := hide (HST.out w3 lb sb rs hpl)
    clear hpl HPY HST
    obtain ⟨most, hmost⟩ : ∃ most, most = ls.length * (100 * tot ls ls.length + 100 * ls.length + 200) := ⟨_, rfl⟩
    have hmb : most ≤ 64500000 := by
      have h1 := HLS.out.2.1
      have h2 := HLS.out.2.2.1
      have : ls.length * (100 * tot ls ls.length + 100 * ls.length + 200) ≤ 64 * (100 * 10000 + 100 * 64 + 200) := Nat.mul_le_mul h1 (by omega)
      omega
    have HMB := hide hmb
    have HMO := hide hmost
    obtain ⟨m, hm⟩ : ∃ m, m = pk.length := ⟨_, rfl⟩
    have HM := hide hm
    have HTU := hide (fun W (hb : Below w1.heap.size w1 W) => turns_any (.slice so ls.length sc) (.slice bo aw.length bc) b ls W (HRW.out W (below_on HB.out hb)) HLS.out.2.1 HLS.out.2.2.1)
    rw [← hmost] at HTU
    have HS0 := hide (show AtI { Ast.new (4 + ls.length) true with cells := cl0 ls.length } (-1) from .inl ⟨rfl, by show nth (cl0 ls.length) 0 = 0; rw [nth_cl0 _ _ (by omega), if_neg (by omega)]⟩)
    have HT0 := hide (show TrI ls.length m (tot ls ls.length) 0 ((fun j => Nd.new ls aw b j), cl0 ls.length) from fun h => ⟨_, by rw [show m = 0 by omega]; exact inv_new HCK.out HBU.out, ev_new ls aw b, by rw [show m = 0 by omega]; rfl⟩)
    rw [← hm] at HPK ⊢
    have HPM := hide (show m ≤ 1048576 by rw [hm]; exact HPL.out)
    clear hmost hm hmb
    go_wp2_with fail
    go_loopw [7, 8] (fun at_ t wq => ∃ (k : Nat) (a : Int) (lv : Value) (s : Ast) (gs : Nat → Bool) (ds : Nat → Nd) (mv : Nat → Int), k ≤ m + most ∧ at_ = .int .i64 a ∧ t = .int .i64 (k : Int) ∧ Hid (LMm w1 wq X bb gc Y Z ls.length lb sb lv s (.slice (some ⟨gN, 0, none⟩) ls.length cN) qs rs sv gs ds mv k) ∧ Hid (Hst ls.length (fun j => Nd.new ls aw b j) { Ast.new (4 + ls.length) true with cells := cl0 ls.length } ds s) ∧ Hid (AtI s a) ∧ Hid (TrI ls.length m (tot ls ls.length) k (ds, s.cells))) (fun _ t _ => (m + most) - (RowKit.intOf t).toNat)
    case atStart => exact ⟨0, -1, _, _, _, _, _, Nat.zero_le _, rfl, rfl, HL.out, .refl, HS0.out, HT0.out⟩
    case round =>
      obtain ⟨k, a, lv, s, gs, ds, mv, hkm, rfl, rfl, HQ, HH, HAT, HTI⟩ := hrel
      have hmm := HPM.out
      have hmb := HMB.out
      have HTW := hide (HTU.out wr HQ.out.bel)
      have hab := (HQ.out.bel.block _ (lt_of_heap HA.out)).trans HA.out
      have a0 := cell_of hab (i := 0) rfl; have a1 := cell_of hab (i := 1) rfl; have a2 := cell_of hab (i := 2) rfl
      clear hab
      by_cases hlt : k < m + most
      · have hki : (k : Int) < (m : Int) + (most : Int) := by omega
        have hkd : decide ((k : Int) < (m : Int) + (most : Int)) = true := decide_eq_true hki
        go_wp2_with fail
        clear a0 a1 a2
        refine HTW.out.mono ?_
        rintro e w5 ⟨rfl, hb5⟩
        have H5 := hide (HQ.out.below hb5)
        have HOV := hide (lover_any H5.out)
        clear hb5 HTW HQ
        go_wp2_with fail
        refine HOV.out.mono ?_
        rintro e w6 ⟨ov, rfl, hov, h6, _⟩
        have HV := hide h6
        have HOI := hide hov
        clear h6 hov HOV H5
        cases ov with
        | true =>
          have HOE := hide (HOI.out.1 rfl)
          have HE := HV
          clear HOI HTI
          have hOV := HOE.out
          obtain ⟨hc1, _⟩ := HE.out.inv.done (by have := HLS.out.1; omega) hOV
          obtain ⟨q, rfl, hqL, hlg⟩ : ∃ q : Nat, a = (q : Int) ∧ q ≤ s.log.length ∧ ∀ k (y : Acc), q ≤ k → s.log[k]? = some y → sfOk y := by
            rcases HAT.out with ⟨_, e⟩ | ⟨q, h1, _, h2, h3⟩
            · rw [hc1] at e; cases e
            · exact ⟨q, h1, h2, h3⟩
          have hbig : s.log.length * 64 ≤ 140737488355328 := by have := HE.out.lk; have := HMB.out; have := HPL.out; omega
          have HLG := hide (log_any _ _ _ _ _ _ HE.out.ar hbig)
          obtain ⟨_, _, vGx, hx⟩ := HE.out.x
          have x0 := cell_of hx (i := 0) rfl
          have HSF := hide hlg
          have HR7 := hide (HH.out.rest (aw := aw) (b := b) rfl (by have := HLS.out.1; omega) HLS.out.2.1 (by have := HMB.out; have := HPL.out; omega) HE.out.inv hOV)
          clear hc1 hlg hx hbig hOV
          go_wp2_with fail
          refine HLG.out.mono ?_
          rintro e wG ⟨vl, rfl, hown, hal, hcl⟩
          have H7 := hide (HE.out.look hal hcl)
          have HA7 := hide (AccsAt.of_owns hown)
          have HOWN := hide hown
          obtain ⟨aL, cL, rfl, kL⟩ := HA7.out.cell
          obtain ⟨L, hL⟩ : ∃ L, L = s.log.length := ⟨_, rfl⟩
          have hLb : L ≤ 70000000 := by have := HE.out.lk; have := HMB.out; have := HPL.out; omega
          have HLL := hide hL.symm
          rw [← hL] at kL HA7 hqL ⊢
          have KL := hide kL
          have HRS := hide (rested_full (.slice so ls.length sc) (.slice bo aw.length bc) b ls aw H7.out (HRW.out w1 HB.out) (HAW.out w1 HB.out) rfl HLS.out.2.2.2 HAL.out HR7.out)
          have hab := (H7.out.bel.block _ (lt_of_heap HA.out)).trans HA.out
          have a0 := cell_of hab (i := 0) rfl; have a1 := cell_of hab (i := 1) rfl; have a2 := cell_of hab (i := 2) rfl
          have hq1 : ¬ (q : Int) < 0 := by omega
          have hq1' : decide ((q : Int) < 0) = false := decide_eq_false hq1
          have hq2 : ¬ (L : Int) < (q : Int) := by omega
          have hq2' : decide ((L : Int) < (q : Int)) = false := decide_eq_false hq2
          clear hab hown hal hcl HLG kL x0 hL
          go_wp2_with fail
          clear a0 a1 a2
          refine HRS.out.mono ?_
          rintro e w9 ⟨rfl, h9, c9⟩
          have HB9 := hide h9.bel
          obtain ⟨a9, cc9, e9, k9⟩ := (AccsAt.of_owns (ownsRow_block HOWN.out (fun j hj => c9.block j (HOWN.out.lt j hj).2 (fun e => by
            obtain ⟨_, cs8, h8⟩ := own_ty8 HOWN.out hj
            exact ne_ty h8 H7.out.ar.hb (by decide) e)))).cell
          simp only [Value.slice.injEq] at e9
          obtain ⟨e9a, e9b, e9c⟩ := e9
          subst e9a
          have KL9 := hide k9
          clear HRS h9 c9 k9 e9b e9c KL
          rw [HLL.out] at KL9
          go_wp2_with fail
          go_loopw [15] (fun t wq => ∃ j : Nat, q ≤ j ∧ j ≤ L ∧ t = .int .i64 (j : Int) ∧ Below w9.heap.size w9 wq) (fun t _ => L - (RowKit.intOf t).toNat)
          case atStart => exact ⟨q, Nat.le_refl _, hqL, rfl, Below.refl _ _⟩
          case round =>
            obtain ⟨j, hqj, hjL, rfl, hbj⟩ := hrel
            have HBJ := hide hbj
            clear hbj hq1 hq1' hq2 hq2'
            by_cases hjlt : j < L
            · have hji : (j : Int) < (L : Int) := by omega
              obtain ⟨g, o, y, e1, hg, hy, hl1, hl2, hcl⟩ := KL9.out j hjlt
              subst e1
              obtain ⟨hs4, hs1⟩ := HSF.out j y hqj hy
              have HCC := fun jj x (hx : y.arr[jj]? = some x) => (below_cell HBJ.out (block_of_cell (hcl jj x hx))).trans (hcl jj x hx)
              clear hcl hy hl1 hl2
              obtain ⟨who, kind, cell, want, put, seen, left, ok⟩ := y
              have y1 := HCC 1 (.int .i64 kind) rfl
              have y2 := HCC 2 (.int .i64 cell) rfl
              clear HCC
              simp only at hs4 hs1
              have hk4 : (kind == 4) = false := by simp [hs4]
              by_cases hc4 : 4 ≤ cell
              · have hk := hs1 hc4
                subst hk
                have hd4 : decide (cell ≥ 4) = true := decide_eq_true hc4
                have hd4' : decide (4 ≤ cell) = true := decide_eq_true hc4
                clear hs4 hs1
                go_wp2_with fail
                exact ⟨⟨j + 1, by omega, by omega, by simp, HBJ.out⟩, by simp [RowKit.intOf]; omega⟩
              · have hd4 : decide (cell ≥ 4) = false := decide_eq_false hc4
                have hd4' : decide (4 ≤ cell) = false := decide_eq_false hc4
                clear hs4 hs1
                go_wp2_with fail
                exact ⟨⟨j + 1, by omega, by omega, by simp, HBJ.out⟩, by simp [RowKit.intOf]; omega⟩
            · have hji : ¬ (j : Int) < (L : Int) := by omega
              go_wp2_with fail
              go_ret
              exact ⟨rfl, below_on (below_on HB.out HB9.out) HBJ.out⟩
        | false =>
          clear HOI
          by_cases hkk : k < m
          · have hkki : (k : Int) < (m : Int) := by omega
            obtain ⟨gp, op, cp, hpe, hpc, hpv⟩ := (HPK.out w6 (below_on HB.out HV.out.bel)).cellAt k (by rw [← HM.out]; exact hkk)
            simp only [Value.slice.injEq] at hpe
            obtain ⟨he1, he2, he3⟩ := hpe
            clear he2
            subst he1 he3
            obtain ⟨x, hx⟩ : ∃ x, x = Go.Proofs.YtdjkidgkeekenaaGreat.at_ pk k := ⟨_, rfl⟩
            rw [← hx] at hpv
            have h641 := HLS.out.1
            obtain ⟨i, hi, hin⟩ : ∃ i : Nat, x % (ls.length : Int) = (i : Int) ∧ i < ls.length := ⟨(x % (ls.length : Int)).toNat, by
              have := Int.emod_nonneg x (show (ls.length : Int) ≠ 0 by omega); omega, by
              have := Int.emod_nonneg x (show (ls.length : Int) ≠ 0 by omega); have := Int.emod_lt_of_pos x (show (0 : Int) < (ls.length : Int) by omega); omega⟩
            have HTR : Hid (TrI ls.length m (tot ls ls.length) (k + 1) ((stp (ds, s.cells) i).1, (pkd s ds i).cells)) := fun hle => by
              refine ⟨((stp (ds, s.cells) i).1, (pkd s ds i).cells), ?_, ?_, ?_⟩
              · rw [stp_pkd, show m = k + 1 by omega]
                exact HV.out.inv.step HLS.out.2.1 (by omega) hin
              · exact Int.le_trans ((HH.out.step hin HV.out.inv (by omega)).ev HLS.out.2.1) (ev_new ls aw b)
              · rw [show k + 1 - m = 0 by omega]; rfl
            clear hx h641 HTI
            have HI := hide (HV.out.inv)
            have HPI := hide (pick_any HV.out x hi hin (by omega))
            have HKE := hide HV.out.kp
            clear hi
            go_wp2_with fail
            refine HPI.out.mono ?_
            rintro e w8 ⟨rfl, lv8, gs8, mv8, h8, _⟩
            have H8 := hide h8
            have HH8 := hide (HH.out.step hin HI.out (by omega))
            have h64 := HLS.out.2.1
            have h641 := HLS.out.1
            have HPKK := hide (peek_in _ _ _ _ _ 0 w8 h8.ar (by rw [h8.inv.sys.len]; omega))
            have hc0 := h8.inv.tx.c0
            obtain ⟨_, _, vGx, hx⟩ := h8.x
            have x0 : w8.cell? ⟨X, 0, none⟩ = some (.pointer (some ⟨bb, 0, none⟩)) := cell_of hx rfl
            clear h8 hx HPI
            by_cases ha : 0 ≤ a
            · obtain ⟨q, rfl⟩ : ∃ q : Nat, a = (q : Int) := ⟨a.toNat, by omega⟩
              obtain ⟨hcc, haa⟩ := at_step HI.out h641 h64 (by omega) hin HKE.out HAT.out
              rw [hcc] at HPKK
              have HAA := hide haa
              have hge : decide ((q : Int) ≥ 0) = true := decide_eq_true (by omega)
              have hge' : decide (0 ≤ (q : Int)) = true := decide_eq_true (by omega)
              clear hcc haa hc0
              go_wp2_with fail
              refine HPKK.out.mono ?_
              rintro e w10 ⟨rfl, ha10, hc10⟩
              have H10 := hide (H8.out.look ha10 hc10)
              clear ha10 hc10 HPKK H8 x0
              go_wp2_with fail
              exact ⟨⟨k + 1, _, lv8, _, gs8, _, mv8, by omega, rfl, by simp, H10, HH8, HAA, HTR⟩, by simp [RowKit.intOf]; omega⟩
            · have hna : a = -1 := by
                rcases HAT.out with ⟨e, _⟩ | ⟨q, e, _⟩
                · exact e
                · omega
              subst hna
              by_cases hcz : nth (pkd s ds i).cells 0 = 0
              · rw [hcz] at HPKK
                have HAA : Hid (AtI (pkd s ds i) (-1)) := .inl ⟨rfl, hcz⟩
                clear hcz hc0 ha
                go_wp2_with fail
                refine HPKK.out.mono ?_
                rintro e w10 ⟨rfl, ha10, hc10⟩
                have H10 := hide (H8.out.look ha10 hc10)
                clear ha10 hc10 HPKK H8 x0
                go_wp2_with fail
                exact ⟨⟨k + 1, _, lv8, _, gs8, _, mv8, by omega, rfl, by simp, H10, HH8, HAA, HTR⟩, by simp [RowKit.intOf]; omega⟩
              · have hco : nth (pkd s ds i).cells 0 = 1 := hc0.resolve_left hcz
                rw [hco] at HPKK
                have HQT := hide (H8.out.inv.tx.dq (.inl hco))
                have HAA : Hid (AtI (pkd s ds i) (pkd s ds i).count) := .inr ⟨(pkd s ds i).log.length, H8.out.cnt, hco, Nat.le_refl _, fun kk y h1 h2 => by
                  rw [List.getElem?_eq_none h1] at h2; cases h2⟩
                clear hcz hco hc0 ha
                go_wp2_with fail
                refine HPKK.out.mono ?_
                rintro e w10 ⟨rfl, ha10, hc10⟩
                have H10 := hide (H8.out.look ha10 hc10)
                clear ha10 hc10 HPKK H8 x0
                have HCT := hide (count_any _ _ _ _ _ w10 H10.out.ar)
                obtain ⟨_, _, vG10, hx10⟩ := H10.out.x
                have x0 : w10.cell? ⟨X, 0, none⟩ = some (.pointer (some ⟨bb, 0, none⟩)) := cell_of hx10 rfl
                clear hx10
                go_wp2_with fail
                refine HCT.out.mono ?_
                rintro e w11 ⟨rfl, ha11, hc11, _⟩
                have H11 := hide (H10.out.look ha11 hc11)
                have HIM := hide (image_any _ _ _ _ _ w11 H11.out.ar)
                clear ha11 hc11 HCT H10 x0
                obtain ⟨_, _, vG11, hx11⟩ := H11.out.x
                have x0 : w11.cell? ⟨X, 0, none⟩ = some (.pointer (some ⟨bb, 0, none⟩)) := cell_of hx11 rfl
                clear hx11
                go_wp2_with fail
                refine HIM.out.mono ?_
                rintro e w12 ⟨vi, rfl, hown, hai, hci⟩
                have H12 := hide (H11.out.look hai hci)
                have hlen : (pkd s ds i).cells.length = 4 + ls.length := H11.out.inv.sys.len
                rw [hlen] at hown
                obtain ⟨gi, ci, rfl⟩ := row_ptrM hown (by omega)
                have HOW := hide hown
                have HLEN := hide hlen
                clear hown hai hci hlen HIM H11 x0
                go_wp2_with fail
                go_loopw [13] (fun t wq => ∃ j : Nat, j ≤ ls.length ∧ t = .int .i64 (j : Int) ∧ Below w12.heap.size w12 wq) (fun t _ => ls.length - (RowKit.intOf t).toNat)
                case atStart => exact ⟨0, Nat.zero_le _, rfl, Below.refl _ _⟩
                case round =>
                  obtain ⟨j, hjn, rfl, hbj⟩ := hrel
                  have HBJ := hide hbj
                  have HW := hide (H12.out.below hbj)
                  clear hbj
                  obtain ⟨_, _, vGj, hxj⟩ := HW.out.x
                  have x2 : wr.cell? ⟨X, 2, none⟩ = some (.slice (some ⟨gN, 0, none⟩) ls.length cN) := cell_of hxj rfl
                  clear hxj
                  by_cases hjl : j < ls.length
                  · have hji : (j : Int) < (ls.length : Int) := by omega
                    have y0 := own_at (own_stayR HW.out.rn (fun _ _ => rfl)) (ptrs_get qs hjl) hjl
                    have HTL := hide (tell_nd (HW.out.nd j hjl).1 (HW.out.inv.sys.wf j hjl).ph (by have : -((k + 1 : Nat) : Int) ≤ ((stp (ds, s.cells) i).1 j).bal ∧ ((stp (ds, s.cells) i).1 j).bal ≤ ((k + 1 : Nat) : Int) := (HW.out.inv.sys.wf j hjl).ba; omega))
                    have htl : ((stp (ds, s.cells) i).1 j).told = .agg #[.int .i64 ((stp (ds, s.cells) i).1 j).bal, .bool false, .bool ((stp (ds, s.cells) i).1 j).black, .int .i64 ((stp (ds, s.cells) i).1 j).sent, .bool (decide (((stp (ds, s.cells) i).1 j).ph = 0))] := by
                      unfold Nd.told; rw [(HQT.out j hjl).1]
                    rw [htl] at HTL
                    have hfl := field51_1 ((stp (ds, s.cells) i).1 j).bal ((stp (ds, s.cells) i).1 j).sent false ((stp (ds, s.cells) i).1 j).black (decide (((stp (ds, s.cells) i).1 j).ph = 0))
                    have i4 := img_at HOW.out HLEN.out.symm (i := 4 + j) (by omega)
                    have hq4 : nth (pkd s ds i).cells (4 + j) = 0 := (HQT.out j hjl).2
                    rw [hq4] at i4
                    have I4 := hide (fun W (kb : Below w12.heap.size w12 W) => (below_cell kb (block_of_cell i4)).trans i4)
                    clear htl hq4 i4
                    obtain ⟨J, hJ⟩ : ∃ J, J = 4 + j := ⟨_, rfl⟩
                    rw [← hJ] at I4
                    have hw4 : IntKind.i64.wrap (4 + (j : Int)) = (J : Int) := by rw [show (4 + (j : Int)) = (J : Int) by omega]; exact IntWalk.i64_in _ (by omega)
                    have hJ1 : J < 4 + ls.length := by omega
                    have hJ2 : (J : Int) < ((4 + ls.length : Nat) : Int) := by omega
                    have hJ3 : (J : Int) < 4 + (ls.length : Int) := by omega
                    clear hJ
                    go_wp2_with fail
                    refine HTL.out.mono ?_
                    rintro e w13 ⟨rfl, hb13⟩
                    have HB13 := hide (below_on HBJ.out hb13)
                    have z := I4.out w13 HB13.out
                    clear hb13 x2 y0 HTL
                    go_wp2_with fail
                    exact ⟨⟨j + 1, by omega, by simp, HB13.out⟩, by simp [RowKit.intOf]; omega⟩
                  · have hji : ¬ (j : Int) < (ls.length : Int) := by omega
                    go_wp2_with fail
                    exact ⟨⟨k + 1, _, lv8, _, gs8, _, mv8, by omega, rfl, by simp, HW, HH8, HAA, HTR⟩, by simp [RowKit.intOf]; omega⟩
          · have hkki : ¬ (k : Int) < (m : Int) := by omega
            have h641 := HLS.out.1
            obtain ⟨i, hie, hi, hin⟩ : ∃ i : Nat, i = k % ls.length ∧ (k : Int) % (ls.length : Int) = (i : Int) ∧ i < ls.length := ⟨k % ls.length, rfl, by simp, Nat.mod_lt _ (by omega)⟩
            have HTR : Hid (TrI ls.length m (tot ls ls.length) (k + 1) ((stp (ds, s.cells) i).1, (pkd s ds i).cells)) := fun hle => by
              obtain ⟨τ, t1, t2, t3⟩ := HTI.out (by omega)
              refine ⟨τ, t1, t2, ?_⟩
              rw [stp_pkd, t3, show k + 1 - m = (k - m) + 1 by omega, hie]
              show _ = stp (trn ls.length τ m (k - m)) ((m + (k - m)) % ls.length)
              rw [show m + (k - m) = k by omega]
            clear hie h641 HTI
            have HI := hide (HV.out.inv)
            have HPI := hide (pick_any HV.out (k : Int) hi hin (by omega))
            have HKE := hide HV.out.kp
            clear hi
            go_wp2_with fail
            refine HPI.out.mono ?_
            rintro e w8 ⟨rfl, lv8, gs8, mv8, h8, _⟩
            have H8 := hide h8
            have HH8 := hide (HH.out.step hin HI.out (by omega))
            have h64 := HLS.out.2.1
            have h641 := HLS.out.1
            have HPKK := hide (peek_in _ _ _ _ _ 0 w8 h8.ar (by rw [h8.inv.sys.len]; omega))
            have hc0 := h8.inv.tx.c0
            obtain ⟨_, _, vGx, hx⟩ := h8.x
            have x0 : w8.cell? ⟨X, 0, none⟩ = some (.pointer (some ⟨bb, 0, none⟩)) := cell_of hx rfl
            clear h8 hx HPI
            by_cases ha : 0 ≤ a
            · obtain ⟨q, rfl⟩ : ∃ q : Nat, a = (q : Int) := ⟨a.toNat, by omega⟩
              obtain ⟨hcc, haa⟩ := at_step HI.out h641 h64 (by omega) hin HKE.out HAT.out
              rw [hcc] at HPKK
              have HAA := hide haa
              have hge : decide ((q : Int) ≥ 0) = true := decide_eq_true (by omega)
              have hge' : decide (0 ≤ (q : Int)) = true := decide_eq_true (by omega)
              clear hcc haa hc0
              go_wp2_with fail
              refine HPKK.out.mono ?_
              rintro e w10 ⟨rfl, ha10, hc10⟩
              have H10 := hide (H8.out.look ha10 hc10)
              clear ha10 hc10 HPKK H8 x0
              go_wp2_with fail
              exact ⟨⟨k + 1, _, lv8, _, gs8, _, mv8, by omega, rfl, by simp, H10, HH8, HAA, HTR⟩, by simp [RowKit.intOf]; omega⟩
            · have hna : a = -1 := by
                rcases HAT.out with ⟨e, _⟩ | ⟨q, e, _⟩
                · exact e
                · omega
              subst hna
              by_cases hcz : nth (pkd s ds i).cells 0 = 0
              · rw [hcz] at HPKK
                have HAA : Hid (AtI (pkd s ds i) (-1)) := .inl ⟨rfl, hcz⟩
                clear hcz hc0 ha
                go_wp2_with fail
                refine HPKK.out.mono ?_
                rintro e w10 ⟨rfl, ha10, hc10⟩
                have H10 := hide (H8.out.look ha10 hc10)
                clear ha10 hc10 HPKK H8 x0
                go_wp2_with fail
                exact ⟨⟨k + 1, _, lv8, _, gs8, _, mv8, by omega, rfl, by simp, H10, HH8, HAA, HTR⟩, by simp [RowKit.intOf]; omega⟩
              · have hco : nth (pkd s ds i).cells 0 = 1 := hc0.resolve_left hcz
                rw [hco] at HPKK
                have HQT := hide (H8.out.inv.tx.dq (.inl hco))
                have HAA : Hid (AtI (pkd s ds i) (pkd s ds i).count) := .inr ⟨(pkd s ds i).log.length, H8.out.cnt, hco, Nat.le_refl _, fun kk y h1 h2 => by
                  rw [List.getElem?_eq_none h1] at h2; cases h2⟩
                clear hcz hco hc0 ha
                go_wp2_with fail
                refine HPKK.out.mono ?_
                rintro e w10 ⟨rfl, ha10, hc10⟩
                have H10 := hide (H8.out.look ha10 hc10)
                clear ha10 hc10 HPKK H8 x0
                have HCT := hide (count_any _ _ _ _ _ w10 H10.out.ar)
                obtain ⟨_, _, vG10, hx10⟩ := H10.out.x
                have x0 : w10.cell? ⟨X, 0, none⟩ = some (.pointer (some ⟨bb, 0, none⟩)) := cell_of hx10 rfl
                clear hx10
                go_wp2_with fail
                refine HCT.out.mono ?_
                rintro e w11 ⟨rfl, ha11, hc11, _⟩
                have H11 := hide (H10.out.look ha11 hc11)
                have HIM := hide (image_any _ _ _ _ _ w11 H11.out.ar)
                clear ha11 hc11 HCT H10 x0
                obtain ⟨_, _, vG11, hx11⟩ := H11.out.x
                have x0 : w11.cell? ⟨X, 0, none⟩ = some (.pointer (some ⟨bb, 0, none⟩)) := cell_of hx11 rfl
                clear hx11
                go_wp2_with fail
                refine HIM.out.mono ?_
                rintro e w12 ⟨vi, rfl, hown, hai, hci⟩
                have H12 := hide (H11.out.look hai hci)
                have hlen : (pkd s ds i).cells.length = 4 + ls.length := H11.out.inv.sys.len
                rw [hlen] at hown
                obtain ⟨gi, ci, rfl⟩ := row_ptrM hown (by omega)
                have HOW := hide hown
                have HLEN := hide hlen
                clear hown hai hci hlen HIM H11 x0
                go_wp2_with fail
                go_loopw [13] (fun t wq => ∃ j : Nat, j ≤ ls.length ∧ t = .int .i64 (j : Int) ∧ Below w12.heap.size w12 wq) (fun t _ => ls.length - (RowKit.intOf t).toNat)
                case atStart => exact ⟨0, Nat.zero_le _, rfl, Below.refl _ _⟩
                case round =>
                  obtain ⟨j, hjn, rfl, hbj⟩ := hrel
                  have HBJ := hide hbj
                  have HW := hide (H12.out.below hbj)
                  clear hbj
                  obtain ⟨_, _, vGj, hxj⟩ := HW.out.x
                  have x2 : wr.cell? ⟨X, 2, none⟩ = some (.slice (some ⟨gN, 0, none⟩) ls.length cN) := cell_of hxj rfl
                  clear hxj
                  by_cases hjl : j < ls.length
                  · have hji : (j : Int) < (ls.length : Int) := by omega
                    have y0 := own_at (own_stayR HW.out.rn (fun _ _ => rfl)) (ptrs_get qs hjl) hjl
                    have HTL := hide (tell_nd (HW.out.nd j hjl).1 (HW.out.inv.sys.wf j hjl).ph (by have : -((k + 1 : Nat) : Int) ≤ ((stp (ds, s.cells) i).1 j).bal ∧ ((stp (ds, s.cells) i).1 j).bal ≤ ((k + 1 : Nat) : Int) := (HW.out.inv.sys.wf j hjl).ba; omega))
                    have htl : ((stp (ds, s.cells) i).1 j).told = .agg #[.int .i64 ((stp (ds, s.cells) i).1 j).bal, .bool false, .bool ((stp (ds, s.cells) i).1 j).black, .int .i64 ((stp (ds, s.cells) i).1 j).sent, .bool (decide (((stp (ds, s.cells) i).1 j).ph = 0))] := by
                      unfold Nd.told; rw [(HQT.out j hjl).1]
                    rw [htl] at HTL
                    have hfl := field51_1 ((stp (ds, s.cells) i).1 j).bal ((stp (ds, s.cells) i).1 j).sent false ((stp (ds, s.cells) i).1 j).black (decide (((stp (ds, s.cells) i).1 j).ph = 0))
                    have i4 := img_at HOW.out HLEN.out.symm (i := 4 + j) (by omega)
                    have hq4 : nth (pkd s ds i).cells (4 + j) = 0 := (HQT.out j hjl).2
                    rw [hq4] at i4
                    have I4 := hide (fun W (kb : Below w12.heap.size w12 W) => (below_cell kb (block_of_cell i4)).trans i4)
                    clear htl hq4 i4
                    obtain ⟨J, hJ⟩ : ∃ J, J = 4 + j := ⟨_, rfl⟩
                    rw [← hJ] at I4
                    have hw4 : IntKind.i64.wrap (4 + (j : Int)) = (J : Int) := by rw [show (4 + (j : Int)) = (J : Int) by omega]; exact IntWalk.i64_in _ (by omega)
                    have hJ1 : J < 4 + ls.length := by omega
                    have hJ2 : (J : Int) < ((4 + ls.length : Nat) : Int) := by omega
                    have hJ3 : (J : Int) < 4 + (ls.length : Int) := by omega
                    clear hJ
                    go_wp2_with fail
                    refine HTL.out.mono ?_
                    rintro e w13 ⟨rfl, hb13⟩
                    have HB13 := hide (below_on HBJ.out hb13)
                    have z := I4.out w13 HB13.out
                    clear hb13 x2 y0 HTL
                    go_wp2_with fail
                    exact ⟨⟨j + 1, by omega, by simp, HB13.out⟩, by simp [RowKit.intOf]; omega⟩
                  · have hji : ¬ (j : Int) < (ls.length : Int) := by omega
                    go_wp2_with fail
                    exact ⟨⟨k + 1, _, lv8, _, gs8, _, mv8, by omega, rfl, by simp, HW, HH8, HAA, HTR⟩, by simp [RowKit.intOf]; omega⟩
      · have hki : ¬ (k : Int) < (m : Int) + (most : Int) := by omega
        have hkd : decide ((k : Int) < (m : Int) + (most : Int)) = false := decide_eq_false hki
        have hov : Ov ls.length ds := by
          obtain ⟨τ, t1, t2, t3⟩ := HTI.out (by omega)
          have h641 := HLS.out.1
          have := fin_ov (a := m) (most := k - m) (by omega) HLS.out.2.1 t1 t2 HLS.out.2.2.1 (by omega) (by have := HMO.out; omega)
          rw [← t3] at this
          exact this
        have HOE := hide hov
        clear hov HTI
        go_wp2_with fail
        clear a0 a1 a2
        refine HTW.out.mono ?_
        rintro e w5 ⟨rfl, hb5⟩
        have HE := hide (HQ.out.below hb5)
        clear hb5 HTW HQ
        have hOV := HOE.out
        obtain ⟨hc1, _⟩ := HE.out.inv.done (by have := HLS.out.1; omega) hOV
        obtain ⟨q, rfl, hqL, hlg⟩ : ∃ q : Nat, a = (q : Int) ∧ q ≤ s.log.length ∧ ∀ k (y : Acc), q ≤ k → s.log[k]? = some y → sfOk y := by
          rcases HAT.out with ⟨_, e⟩ | ⟨q, h1, _, h2, h3⟩
          · rw [hc1] at e; cases e
          · exact ⟨q, h1, h2, h3⟩
        have hbig : s.log.length * 64 ≤ 140737488355328 := by have := HE.out.lk; have := HMB.out; have := HPL.out; omega
        have HLG := hide (log_any _ _ _ _ _ _ HE.out.ar hbig)
        obtain ⟨_, _, vGx, hx⟩ := HE.out.x
        have x0 := cell_of hx (i := 0) rfl
        have HSF := hide hlg
        have HR7 := hide (HH.out.rest (aw := aw) (b := b) rfl (by have := HLS.out.1; omega) HLS.out.2.1 (by have := HMB.out; have := HPL.out; omega) HE.out.inv hOV)
        clear hc1 hlg hx hbig hOV
        go_wp2_with fail
        refine HLG.out.mono ?_
        rintro e wG ⟨vl, rfl, hown, hal, hcl⟩
        have H7 := hide (HE.out.look hal hcl)
        have HA7 := hide (AccsAt.of_owns hown)
        have HOWN := hide hown
        obtain ⟨aL, cL, rfl, kL⟩ := HA7.out.cell
        obtain ⟨L, hL⟩ : ∃ L, L = s.log.length := ⟨_, rfl⟩
        have hLb : L ≤ 70000000 := by have := HE.out.lk; have := HMB.out; have := HPL.out; omega
        have HLL := hide hL.symm
        rw [← hL] at kL HA7 hqL ⊢
        have KL := hide kL
        have HRS := hide (rested_full (.slice so ls.length sc) (.slice bo aw.length bc) b ls aw H7.out (HRW.out w1 HB.out) (HAW.out w1 HB.out) rfl HLS.out.2.2.2 HAL.out HR7.out)
        have hab := (H7.out.bel.block _ (lt_of_heap HA.out)).trans HA.out
        have a0 := cell_of hab (i := 0) rfl; have a1 := cell_of hab (i := 1) rfl; have a2 := cell_of hab (i := 2) rfl
        have hq1 : ¬ (q : Int) < 0 := by omega
        have hq1' : decide ((q : Int) < 0) = false := decide_eq_false hq1
        have hq2 : ¬ (L : Int) < (q : Int) := by omega
        have hq2' : decide ((L : Int) < (q : Int)) = false := decide_eq_false hq2
        clear hab hown hal hcl HLG kL x0 hL
        go_wp2_with fail
        clear a0 a1 a2
        refine HRS.out.mono ?_
        rintro e w9 ⟨rfl, h9, c9⟩
        have HB9 := hide h9.bel
        obtain ⟨a9, cc9, e9, k9⟩ := (AccsAt.of_owns (ownsRow_block HOWN.out (fun j hj => c9.block j (HOWN.out.lt j hj).2 (fun e => by
          obtain ⟨_, cs8, h8⟩ := own_ty8 HOWN.out hj
          exact ne_ty h8 H7.out.ar.hb (by decide) e)))).cell
        simp only [Value.slice.injEq] at e9
        obtain ⟨e9a, e9b, e9c⟩ := e9
        subst e9a
        have KL9 := hide k9
        clear HRS h9 c9 k9 e9b e9c KL
        rw [HLL.out] at KL9
        go_wp2_with fail
        go_loopw [15] (fun t wq => ∃ j : Nat, q ≤ j ∧ j ≤ L ∧ t = .int .i64 (j : Int) ∧ Below w9.heap.size w9 wq) (fun t _ => L - (RowKit.intOf t).toNat)
        case atStart => exact ⟨q, Nat.le_refl _, hqL, rfl, Below.refl _ _⟩
        case round =>
          obtain ⟨j, hqj, hjL, rfl, hbj⟩ := hrel
          have HBJ := hide hbj
          clear hbj hq1 hq1' hq2 hq2'
          by_cases hjlt : j < L
          · have hji : (j : Int) < (L : Int) := by omega
            obtain ⟨g, o, y, e1, hg, hy, hl1, hl2, hcl⟩ := KL9.out j hjlt
            subst e1
            obtain ⟨hs4, hs1⟩ := HSF.out j y hqj hy
            have HCC := fun jj x (hx : y.arr[jj]? = some x) => (below_cell HBJ.out (block_of_cell (hcl jj x hx))).trans (hcl jj x hx)
            clear hcl hy hl1 hl2
            obtain ⟨who, kind, cell, want, put, seen, left, ok⟩ := y
            have y1 := HCC 1 (.int .i64 kind) rfl
            have y2 := HCC 2 (.int .i64 cell) rfl
            clear HCC
            simp only at hs4 hs1
            have hk4 : (kind == 4) = false := by simp [hs4]
            by_cases hc4 : 4 ≤ cell
            · have hk := hs1 hc4
              subst hk
              have hd4 : decide (cell ≥ 4) = true := decide_eq_true hc4
              have hd4' : decide (4 ≤ cell) = true := decide_eq_true hc4
              clear hs4 hs1
              go_wp2_with fail
              exact ⟨⟨j + 1, by omega, by omega, by simp, HBJ.out⟩, by simp [RowKit.intOf]; omega⟩
            · have hd4 : decide (cell ≥ 4) = false := decide_eq_false hc4
              have hd4' : decide (4 ≤ cell) = false := decide_eq_false hc4
              clear hs4 hs1
              go_wp2_with fail
              exact ⟨⟨j + 1, by omega, by omega, by simp, HBJ.out⟩, by simp [RowKit.intOf]; omega⟩
          · have hji : ¬ (j : Int) < (L : Int) := by omega
            go_wp2_with fail
            go_ret
            exact ⟨rfl, below_on (below_on HB.out HB9.out) HBJ.out⟩
  · have hr1 : (r != 0) = true := by simp [hr]
    go_wp2_with fail
    clear a0 a1 a2
    refine (HC6.out w1 HB.out).mono ?_
    rintro e w2 ⟨rfl, hb2⟩
    have HB2 := hide (below_on HB.out hb2)
    clear hb2
    go_wp2_with fail
    go_ret
    exact ⟨rfl, HB2.out⟩
end Go.Proofs.YtdjkidgkeekenaaGreat
