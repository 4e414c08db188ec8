/- TokenPlace: the walk. -/
import Derived.Test.YtdjkidgkeekenaaGreatPl
import Derived.Test.YtdjkidgkeekenaaGreatF4
import Derived.Test.YtdjkidgkeekenaaGreatK14
namespace Go.Proofs.YtdjkidgkeekenaaGreat
open Go.RowKit Go.Lib Go.MuLone
set_option linter.unusedVariables false
set_option linter.unusedSimpArgs false
theorem lm_start {w1 w2 w3 : World} {X b gc Y Z lb sb : Nat} {rb : Nat} {vP vN vG : Value} {qs ps rs : Nat → Nat} {sv : Nat → Value} {ls : List (List Int)} {aw : List Int} {bu : Int}
    (hck : CkA ls aw bu 0) (hbu : bu ≤ 9223372036854775807) (hbl : Below w1.heap.size w1 w2) (hz : w1.heap.size ≤ Z) (hlb : w1.heap.size ≤ b) (hlg : w1.heap.size ≤ gc)
    (har : AIs w2 Y b gc (.slice none 0 0) { Ast.new (4 + ls.length) true with cells := cl0 ls.length }) (hlx : LX w1 w2 X b rb Z vP vN vG ls.length ls.length ls.length qs ps)
    (hnd : ∀ j, j < ls.length → w2.heap[qs j]? = some ((Nd.new ls aw bu j).obj (sv j)) ∧ Snd w2 Z (sv j) (rowL ls j))
    (hinj : ∀ i j, i < j → j < ls.length → qs i ≠ qs j ∧ ps i ≠ ps j) (hlo : ∀ j, j < ls.length → Z ≤ qs j ∧ Z ≤ ps j)
    (hp : PLm w2 w3 b ls.length lb sb qs rs) :
    LMm w1 w3 X b gc Y Z ls.length lb sb (.slice none 0 0) { Ast.new (4 + ls.length) true with cells := cl0 ls.length } vN qs rs sv (fun _ => false) (fun j => Nd.new ls aw bu j) (fun _ => 0) 0 := by
  obtain ⟨h1, h2, _, _⟩ := hck.len
  have hb := hp.bel
  have hq0 := lt_of_heap (hnd 0 (by omega)).1
  have hz0 := (hlo 0 (by omega)).1
  have hs := hbl.size
  refine ⟨below_on hbl hb, ⟨hz, hlb, hlg, by have := hp.lo.2; omega⟩, ⟨_, _, _, (hb.block _ (lt_of_heap hlx.x)).trans hlx.x⟩, har.below hb, own_stayR hlx.n (fun g hg => hb.block _ (hlx.n.lt g hg).2), hp.lm, hp.se, fun j hj => ⟨(hb.block _ (lt_of_heap (hnd j hj).1)).trans (hnd j hj).1, (hnd j hj).2.stay fun g hg => hb.block _ (by obtain ⟨cs, ht⟩ := (hnd j hj).2.typ hg; exact lt_of_heap ht)⟩, fun j hj => (hp.po j hj).1, fun i j hij hj => ⟨(hinj i j hij hj).1, hp.inj i j hij hj⟩, fun j hj => ⟨(hlo j hj).1, by have := (hp.po j hj).2; omega⟩, inv_new hck hbu, rfl, rfl, rfl, Nat.zero_le _, ⟨h1, h2⟩, fun j hj => ⟨Int.le_refl _, by simp⟩⟩
set_option maxRecDepth 100000 in
set_option maxHeartbeats 8000000 in
theorem place_law (v0 v1 vp : Value) (b : Int) (ls : List (List Int)) (aw pk : List Int) (w : World) (hr : RwsI w v0 ls) (ha : RowAt .i64 w v1 aw) (hN : Bnd ls aw) (hp : RowAt .i64 w vp pk) (hpl : pk.length ≤ 1048576) (hbu : b ≤ 9223372036854775807) :
    Calls Tryz.prog 5 #[.agg #[v0, v1, .int .i64 b], vp] w fun e w' => e = .returned (.bool true) ∧ Below w.heap.size w w' := by
  obtain ⟨so, sc, rfl, hsc⟩ := hr.shape
  obtain ⟨bo, bc, rfl⟩ := ha.shape
  obtain ⟨po, pc, rfl⟩ := hp.shape
  have HC5 := hide (fun W (hb : Below w.heap.size w W) => refCheck_any _ _ b ls aw W (hr.below hb) (ha.below hb) hN)
  have HC6 := hide (fun W (hb : Below w.heap.size w W) => checks_law _ _ b 0 ls aw W (hr.below hb) (ha.below hb) hN)
  have HC7 := hide (fun W (hb : Below w.heap.size w W) hck h1 h2 => lay_any _ _ b ls aw W (hr.below hb) (ha.below hb) hN hck h1 h2)
  have HRW := hide (fun W (hb : Below w.heap.size w W) => hr.below hb)
  have HAW := hide (fun W (hb : Below w.heap.size w W) => ha.below hb)
  have HAL := hide hN.a
  have HBU := hide hbu
  clear hbu
  have HPK := hide (fun W (hb : Below w.heap.size w W) => hp.below hb)
  have HPL := hide hpl
  obtain ⟨X0, hX0⟩ : ∃ X0, X0 = w.alloc (.cells #[.slice so ls.length sc, .slice bo aw.length bc, .int .i64 b] 25) := ⟨_, rfl⟩
  have HB := hide (show Below w.heap.size w X0 by rw [hX0]; exact below_alloc (Below.refl _ _) _)
  have HA := hide (show X0.heap[w.heap.size]? = some (.cells #[.slice so ls.length sc, .slice bo aw.length bc, .int .i64 b] 25 (0, 0)) by rw [hX0]; exact heap_new _ _)
  have a0 := cell_of HA.out (i := 0) rfl; have a1 := cell_of HA.out (i := 1) rfl; have a2 := cell_of HA.out (i := 2) rfl
  clear hr ha hN hp hsc hpl
  rw [hX0] at a0 a1 a2
  go_enter Tryz.func5, Tryz.ntmps5
  go_wp2_with fail
  rw [← hX0]
  clear hX0 a0 a1 a2
  refine (HC5.out X0 HB.out).mono ?_
  rintro e w1 ⟨hb1, r, rfl, hck⟩
  replace HA := hide ((hb1.block _ (lt_of_heap HA.out)).trans HA.out)
  replace HB := hide (below_on HB.out hb1)
  have HCK := hide hck
  have a0 := cell_of HA.out (i := 0) rfl; have a1 := cell_of HA.out (i := 1) rfl; have a2 := cell_of HA.out (i := 2) rfl
  clear hb1 hck HC5
  by_cases hr : r = 0
  · subst hr
    have HLS := hide HCK.out.len
    go_wp2_with fail
    clear a0 a1 a2
    refine (HC7.out w1 HB.out HCK.out HLS.out.1 HLS.out.2.1).mono ?_
    rintro e w2 ⟨X, bb, gc, rb, Y, Z, vP, vN, vG, qs, ps, sv, rfl, hbl, hz, hlb, hlg, har, hlx, hnd, hpo, hinj, hlo⟩
    have hpn : ∀ w, (binOp .eql 28 (.pointer (some ⟨X, 0, none⟩)) (.pointer none)).run Tryz.prog w = .ok (.bool false) w := fun w => rfl
    obtain ⟨gN, cN, rfl⟩ := row_ptr hlx.n (by have := HLS.out.1; omega)
    have HPY := hide (played_any bb ls.length X Z gN cN vP (.pointer (some ⟨rb, 0, none⟩)) vG qs w2 ⟨HLS.out.1, HLS.out.2.1⟩ hlx.x hlx.n)
    have HST := hide (fun W lb sb rs (hp : PLm w2 W bb ls.length lb sb qs rs) => lm_start HCK.out HBU.out hbl hz hlb hlg har hlx hnd hinj hlo hp)
    clear hbl hz hlb hlg har hlx hnd hpo hinj hlo HC7
    go_wp2_with fail
    refine HPY.out.mono ?_
    rintro e w3 ⟨lb, sb, rs, rfl, hpl⟩
    have hpn2 : ∀ w, (binOp .eql 30 (.pointer (some ⟨lb, 0, none⟩)) (.pointer none)).run Tryz.prog w = .ok (.bool false) w := fun w => rfl
    have HL := hide (HST.out w3 lb sb rs hpl)
    clear hpl HPY HST
    have HRN := hide (run_any HL.out po pc pk (HPK.out w1 HB.out) HPL.out (by have := HPL.out; omega))
    go_wp2_with fail
    refine HRN.out.mono ?_
    rintro e w4 ⟨⟨vr, rfl⟩, lv4, s4, gs4, ds4, mv4, h4, k4⟩
    have H4 := hide h4
    have HK4 := hide k4
    clear h4 k4 HRN HL
    have HTU := hide (turns_any (.slice so ls.length sc) (.slice bo aw.length bc) b ls w4 (HRW.out w4 (below_on HB.out H4.out.bel)) HLS.out.2.1 HLS.out.2.2.1)
    have hab := (H4.out.bel.block _ (lt_of_heap HA.out)).trans HA.out
    have a0 := cell_of hab (i := 0) rfl; have a1 := cell_of hab (i := 1) rfl; have a2 := cell_of hab (i := 2) rfl
    clear hab
    go_wp2_with fail
    clear a0 a1 a2
    refine HTU.out.mono ?_
    rintro e w5 ⟨rfl, hb5⟩
    have H5 := hide (H4.out.below hb5)
    clear hb5 HTU H4
    obtain ⟨n, hn⟩ : ∃ n, n = ls.length := ⟨_, rfl⟩
    have HN := hide hn
    obtain ⟨most, hmost⟩ : ∃ most, most = ls.length * (100 * tot ls ls.length + 100 * ls.length + 200) := ⟨_, rfl⟩
    have hmb : most ≤ 64500000 := by
      have h1 := HLS.out.2.1
      have h2 := HLS.out.2.2.1
      have : ls.length * (100 * tot ls ls.length + 100 * ls.length + 200) ≤ 64 * (100 * 10000 + 100 * 64 + 200) := Nat.mul_le_mul h1 (by omega)
      omega
    have hfin : Ov ls.length (trn ls.length (ds4, s4.cells) 0 most).1 := fin_ov (by have := HLS.out.1; omega) HLS.out.2.1 H5.out.inv (Int.le_trans (HK4.out.ev HLS.out.2.1) (ev_new ls aw b)) HLS.out.2.2.1 (by have := HPL.out; omega) (by rw [hmost]; exact Nat.le_refl _)
    have HFI := hide (finish_any H5.out most (by have := HPL.out; omega) hfin)
    rw [← hmost]
    have HMB := hide hmb
    clear hmost hfin hmb hn
    go_wp2_with fail
    refine HFI.out.mono ?_
    rintro e w6 ⟨⟨vr2, rfl⟩, lv6, s6, gs6, ds6, mv6, h6, k6, o6⟩
    have H6 := hide h6
    have HK6 := hide (HK4.out.trans k6)
    have HO6 := hide o6
    clear h6 k6 o6 HK4 H5 HFI
    obtain ⟨_, _, vG6, hx6⟩ := H6.out.x
    have x0 := cell_of hx6 (i := 0) rfl
    have hbig : s6.log.length * 64 ≤ 140737488355328 := by have := H6.out.lk; have := HMB.out; have := HPL.out; omega
    have HLG := hide (log_any _ _ _ _ _ w6 H6.out.ar hbig)
    clear hx6 hbig
    go_wp2_with fail
    refine HLG.out.mono ?_
    rintro e w7 ⟨vl, rfl, hown, hal, hcl⟩
    have H7 := hide (H6.out.look hal hcl)
    have HA7 := hide (AccsAt.of_owns hown)
    have HR7 := hide (HK6.out.rest (aw := aw) (b := b) rfl (by have := HLS.out.1; omega) HLS.out.2.1 (by have := HMB.out; have := HPL.out; omega) H6.out.inv HO6.out)
    obtain ⟨_, tt, hc1, htn, hpl⟩ := HK6.out.place (t0 := 0) rfl (by
      show nth (cl0 ls.length) 1 = _
      rw [nth_cl0 _ _ (by omega), if_neg (by omega)]; rfl) (by have := HLS.out.1; omega) ⟨fun _ => 0, rfl, rfl, fun k hk => by show 0 < ls.length; have := HLS.out.1; omega, fun k y hy => by simp [Ast.new] at hy⟩
    obtain ⟨f, hf0, hf1, hf2, hf3⟩ := hpl
    have HF2 := hide hf2
    have HF3 := hide hf3
    obtain ⟨aL, cL, rfl, kL⟩ := HA7.out.cell
    obtain ⟨L, hL⟩ : ∃ L, L = s6.log.length := ⟨_, rfl⟩
    have hLb : L ≤ 70000000 := by have := H6.out.lk; have := HMB.out; have := HPL.out; omega
    rw [← hL] at kL HA7 HF2 ⊢
    have KL := hide kL
    have hf0' : ((f 0 : Nat) : Int) = 0 := by rw [hf0]; rfl
    clear hown hal hcl HLG H6 HO6 kL hf2 hf3 hc1 htn hf1 x0 hL
    go_wp2_with fail
    go_loopw [8, 9] (fun a t wq => ∃ k : Nat, k ≤ L ∧ a = .int .i64 (f k : Nat) ∧ t = .int .i64 (k : Int) ∧ Below w7.heap.size w7 wq) (fun _ t _ => L - (RowKit.intOf t).toNat)
    case atStart => exact ⟨0, Nat.zero_le _, by rw [hf0'], rfl, Below.refl _ _⟩
    case round =>
      obtain ⟨k, hkL, rfl, rfl, hbq⟩ := hrel
      have HBQ := hide hbq
      have HW := hide (H7.out.below hbq)
      clear hbq hf0' hf0
      by_cases hlt : k < L
      · have hki : (k : Int) < (L : Int) := by omega
        obtain ⟨g, o, y, e1, hg, hy, hl1, hl2, hcl⟩ := KL.out k hlt
        subst e1
        have hok := HF3.out k y hy
        have hfk := HF2.out k hkL
        have hfk1 := HF2.out (k + 1) (by omega)
        have h64 := HLS.out.2.1
        have HCC := fun j x (hx : y.arr[j]? = some x) => (below_cell HBQ.out (block_of_cell (hcl j x hx))).trans (hcl j x hx)
        clear hcl hy hl1 hl2
        obtain ⟨who, kind, cell, want, put, seen, left, ok⟩ := y
        have y0 := HCC 0 (.int .i64 who) rfl
        have y1 := HCC 1 (.int .i64 kind) rfl
        have y2 := HCC 2 (.int .i64 cell) rfl
        have y3 := HCC 3 (.int .u64 want) rfl
        have y4 := HCC 4 (.int .u64 put) rfl
        have y5 := HCC 5 (.int .u64 seen) rfl
        have y6 := HCC 6 (.int .u64 left) rfl
        have y7 := HCC 7 (.bool ok) rfl
        unfold plOk at hok
        simp only at hok
        clear HCC
        generalize hf : f k = t at hok hfk ⊢
        generalize hf' : f (k + 1) = t' at hok hfk1
        have HF := hide hf'
        clear hf hf'
        rw [Nat.add_zero] at y0
        by_cases hk1 : kind = 1
        · subst hk1
          have htt : t' = t := by
            rcases hok with ⟨_, e⟩ | ⟨e, _⟩
            · exact e
            · cases e
          clear hok
          go_wp2_with fail
          exact ⟨⟨k + 1, by omega, by rw [HF.out, htt], by simp, below_alloc HBQ.out _⟩, by simp [RowKit.intOf]; omega⟩
        · have hkb : (kind == 1) = false := by simp [hk1]
          by_cases hc3 : 3 < cell
          · have hcb : decide (3 < cell) = true := decide_eq_true hc3
            have htt : t' = t := by
              rcases hok with ⟨_, e⟩ | ⟨_, e, _⟩
              · exact e
              · omega
            clear hok
            go_wp2_with fail
            exact ⟨⟨k + 1, by omega, by rw [HF.out, htt], by simp, below_alloc HBQ.out _⟩, by simp [RowKit.intOf]; omega⟩
          · have hcb : decide (3 < cell) = false := decide_eq_false hc3
            rcases hok with ⟨e | e, _⟩ | ⟨e2, _, ew, ec0, ec1, ecn⟩
            · exact absurd e hk1
            · exact absurd e hc3
            subst e2 ew
            have hw1 : ((t : Int) != (t : Int)) = false := by simp
            by_cases h0 : cell = 0
            · subst h0
              obtain ⟨et, ep⟩ := ec0 rfl
              have htt := ecn (by decide)
              subst et ep htt
              clear ec0 ec1 ecn
              go_wp2_with fail
              exact ⟨⟨k + 1, by omega, by rw [HF.out]; try rfl, by simp, below_alloc HBQ.out _⟩, by simp [RowKit.intOf]; omega⟩
            · have hb0 : (cell == 0) = false := by simp [h0]
              by_cases h1 : cell = 1
              · subst h1
                obtain ⟨ep, em⟩ := ec1 rfl
                subst ep
                have HRE := hide (fun W => rest_any ((t : Int) - 1) (ls.length : Int) W (by have := HLS.out.1; omega) (by omega))
                rw [← em] at HRE
                have hX := HW.out.x
                obtain ⟨_, _, _, hx⟩ := hX
                have x2 : wr.cell? ⟨X, 2, none⟩ = some (.slice (some ⟨gN, 0, none⟩) ls.length cN) := cell_of hx rfl
                have hXlt := lt_of_heap hx
                have hXne : ¬ X = wr.heap.size := by omega
                have hXne' : ¬ wr.heap.size = X := by omega
                have hw64 : IntKind.u64.wrap ((t' : Nat) : Int) = (t' : Int) := wr_id (by unfold W64; omega)
                have hpp : (((t' : Nat) : Int) != (t' : Int)) = false := by simp
                clear ec0 ec1 ecn em hx
                go_wp2_with fail
                refine (HRE.out _).mono ?_
                rintro e wq ⟨rfl, rfl⟩
                go_wp2_with fail
                exact ⟨⟨k + 1, by omega, by rw [HF.out], by simp, below_alloc HBQ.out _⟩, by simp [RowKit.intOf]; omega⟩
              · have hb1 : (cell == 1) = false := by simp [h1]
                have htt := ecn h1
                clear ec0 ec1 ecn
                go_wp2_with fail
                exact ⟨⟨k + 1, by omega, by rw [HF.out, htt], by simp, below_alloc HBQ.out _⟩, by simp [RowKit.intOf]; omega⟩
      · have hki : ¬ (k : Int) < (L : Int) := by omega
        have HRS := hide (rested_any (.slice so ls.length sc) (.slice bo aw.length bc) b ls aw HW.out (HRW.out w1 HB.out) (HAW.out w1 HB.out) rfl HLS.out.2.2.2 HAL.out HR7.out)
        have hab := (HW.out.bel.block _ (lt_of_heap HA.out)).trans HA.out
        have a0 := cell_of hab (i := 0) rfl; have a1 := cell_of hab (i := 1) rfl; have a2 := cell_of hab (i := 2) rfl
        clear hab
        go_wp2_with fail
        clear a0 a1 a2
        refine HRS.out.mono ?_
        rintro e w9 ⟨rfl, h9⟩
        have HB9 := hide (below_on HB.out h9.bel)
        clear h9 HRS
        go_wp2_with fail
        go_ret
        exact ⟨rfl, HB9.out⟩
  · have hr1 : (r != 0) = true := by simp [hr]
    go_wp2_with fail
    clear a0 a1 a2
    refine (HC6.out w1 HB.out).mono ?_
    rintro e w2 ⟨rfl, hb2⟩
    have HB2 := hide (below_on HB.out hb2)
    clear hb2
    go_wp2_with fail
    go_ret
    exact ⟨rfl, HB2.out⟩
end Go.Proofs.YtdjkidgkeekenaaGreat
