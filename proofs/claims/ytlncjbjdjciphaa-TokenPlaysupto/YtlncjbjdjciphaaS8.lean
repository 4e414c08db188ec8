/- TokenPlays: the walk. -/
import Derived.Test.YtlncjbjdjciphaaSB
import Derived.Test.YtlncjbjdjciphaaTold
import Derived.Deep.Cut
import Derived.Deep.CutRange
namespace Go.Proofs.Ytlncjbjdjciphaa
open Go.RowKit Go.Lib
set_option linter.unusedVariables false
set_option linter.unusedSimpArgs false
section
variable {w wr : World} {X b gc rb rc Y Y2 Z n K : Nat} {lv lr : Value} {s t : Ast} {qs ps rs : Nat → Nat} {sv tv : Nat → Value} {gs : Nat → Bool} {ds es : Nat → Nd} {gP cP gN cN gG cG : Nat}
theorem tp_seven (h : TP w wr X b gc rb rc Y Y2 Z n lv lr s t (.slice (some ⟨gP, 0, none⟩) n cP) (.slice (some ⟨gN, 0, none⟩) n cN) (.slice (some ⟨gG, 0, none⟩) n cG) qs ps rs sv tv gs ds es K) {i : Nat} (hi : i < n) : wr.cell? ⟨X, 0, none⟩ = some (.pointer (some ⟨b, 0, none⟩)) ∧ wr.cell? ⟨X, 2, none⟩ = some (.slice (some ⟨gN, 0, none⟩) n cN) ∧ wr.cell? ⟨X, 3, none⟩ = some (.pointer (some ⟨rb, 0, none⟩)) ∧ wr.cell? ⟨X, 4, none⟩ = some (.slice (some ⟨gG, 0, none⟩) n cG) ∧ wr.cell? ⟨gN, i, none⟩ = some (.pointer (some ⟨qs i, 0, none⟩)) ∧ wr.cell? ⟨gG, i, none⟩ = some (.pointer (some ⟨rs i, 0, none⟩)) ∧ wr.cell? ⟨rb, 1, none⟩ = some lr := by
  obtain ⟨a0, a1, a2, a3, a4, a5, a6, a7⟩ := tp_cells h hi
  exact ⟨a0, a2, a3, a4, a5, a7, (tp_ref h).2.1⟩
theorem TP.lrS (h : TP w wr X b gc rb rc Y Y2 Z n lv lr s t (.slice (some ⟨gP, 0, none⟩) n cP) (.slice (some ⟨gN, 0, none⟩) n cN) (.slice (some ⟨gG, 0, none⟩) n cG) qs ps rs sv tv gs ds es K) : ∃ o c, lr = .slice o t.log.length c := by
  obtain ⟨o, c, e⟩ := owns_shape h.rr.hl
  exact ⟨o, c, e⟩
theorem tp_zz {C : Nat} (h : TP w wr X b gc rb rc Y Y2 Z n lv lr s t (.slice (some ⟨gP, 0, none⟩) n cP) (.slice (some ⟨gN, 0, none⟩) n cN) (.slice (some ⟨gG, 0, none⟩) n cG) qs ps rs sv tv gs ds es K) (hC : C = t.cells.length) : wr.cell? ⟨X, 0, none⟩ = some (.pointer (some ⟨b, 0, none⟩)) ∧ wr.cell? ⟨X, 3, none⟩ = some (.pointer (some ⟨rb, 0, none⟩)) ∧ wr.cell? ⟨rb, 0, none⟩ = some (.slice (some ⟨rc, 0, none⟩) C C) := by
  subst hC
  obtain ⟨a0, a1, a2, a3, a4, a5, a6, a7⟩ := tp_cells h (show 0 < n by have := h.n64; omega)
  exact ⟨a0, a3, (tp_ref h).1⟩
theorem TP.cnt2 (h : TP w wr X b gc rb rc Y Y2 Z n lv lr s t (.slice (some ⟨gP, 0, none⟩) n cP) (.slice (some ⟨gN, 0, none⟩) n cN) (.slice (some ⟨gG, 0, none⟩) n cG) qs ps rs sv tv gs ds es K) (hs : Sm s t) : s.count = (t.log.length : Int) := by
  rw [h.cnt.1, hs.log]
end
section
theorem RowAt.of_ownW {W : World} {Z : Nat} {v : Value} {cs : List Int} (h : W.ownsRow Z 47 1 v cs.length (cs.map (Value.int .u64))) : RowAt .u64 W v cs := by
  obtain ⟨h0, ⟨rfl, hn⟩ | ⟨g, cap, cur, rfl, hg, hc, r1, r2, r3, r4⟩⟩ := id h
  · obtain rfl := List.eq_nil_of_length_eq_zero hn
    exact ⟨none, 0, rfl, Nat.le_refl _, by omega, fun _ => rfl, fun a ha => by cases ha⟩
  · refine ⟨_, cap, rfl, r1, by unfold maxLen at r2; omega, fun e => (by cases e), fun a ha i hi => ?_⟩
    cases ha
    have := img_at h rfl hi
    rw [Addr.add_lit, Nat.zero_add]
    exact this
theorem RowAt.of_wordsO {W : World} {g : Nat} {cs : List Int} (h : W.heap[g]? = some (wordsObj cs)) (hl : cs.length ≤ 16777216) : RowAt .u64 W (.slice (some ⟨g, 0, none⟩) cs.length cs.length) cs := by
  refine ⟨_, _, rfl, Nat.le_refl _, by omega, fun e => (by cases e), fun a ha i hi => ?_⟩
  cases ha
  rw [Addr.add_lit, Nat.zero_add]
  exact words_cell h i hi
theorem AccsAt.below {w w' : World} {v : Value} {l : List Acc} (h : AccsAt w v l) (k : Below w.heap.size w w') : AccsAt w' v l := by
  rcases h with h | ⟨g, o, c, h1, h2, h3, h4, h5⟩
  · exact .inl h
  · exact .inr ⟨g, o, c, h1, Nat.lt_of_lt_of_le h2 k.size, h3, h4, fun i x hx => (k.cell (p := ⟨g, o + i, none⟩) h2).trans (h5 i x hx)⟩
end
set_option maxRecDepth 100000 in
set_option maxHeartbeats 8000000 in
theorem plays_law (v0 v1 vp : Value) (b bare : Int) (ls : List (List Int)) (aw pk : List Int) (w : World) (hr : RwsI w v0 ls) (ha : RowAt .i64 w v1 aw) (hN : Bnd ls aw) (hp : RowAt .i64 w vp pk) (hpl : pk.length ≤ 1048576) (hbu : b ≤ 9223372036854775807) :
    Calls Try.prog 4 #[.agg #[v0, v1, .int .i64 b], vp, .int .i64 bare] w fun e w' => e = .returned (.bool true) ∧ Below w.heap.size w w' := by
  obtain ⟨so, sc, rfl, hsc⟩ := hr.shape
  obtain ⟨bo, bc, rfl⟩ := ha.shape
  obtain ⟨po, pc, rfl⟩ := hp.shape
  have HC5 := hide (fun W (hb : Below w.heap.size w W) => refCheck_any _ _ b ls aw W (hr.below hb) (ha.below hb) hN)
  have HC6 := hide (fun W (hb : Below w.heap.size w W) => checks_law _ _ b 0 ls aw W (hr.below hb) (ha.below hb) hN)
  have HC7 := hide (fun W (hb : Below w.heap.size w W) hck h1 h2 => lay_full _ _ b ls aw W (hr.below hb) (ha.below hb) hN hck h1 h2)
  have HBU := hide hbu
  clear hbu
  have HPK := hide (fun W (hb : Below w.heap.size w W) => hp.below hb)
  obtain ⟨m, hm⟩ : ∃ m, m = pk.length := ⟨_, rfl⟩
  have HM := hide hm
  rw [← hm] at hpl HPK ⊢
  obtain ⟨X0, hX0⟩ : ∃ X0, X0 = w.alloc (.cells #[.slice so ls.length sc, .slice bo aw.length bc, .int .i64 b] 25) := ⟨_, rfl⟩
  have HB := hide (show Below w.heap.size w X0 by rw [hX0]; exact below_alloc (Below.refl _ _) _)
  have HA := hide (show X0.heap[w.heap.size]? = some (.cells #[.slice so ls.length sc, .slice bo aw.length bc, .int .i64 b] 25 (0, 0)) by rw [hX0]; exact heap_new _ _)
  have a0 := cell_of HA.out (i := 0) rfl; have a1 := cell_of HA.out (i := 1) rfl; have a2 := cell_of HA.out (i := 2) rfl
  clear hr ha hN hp hm hsc
  rw [hX0] at a0 a1 a2
  go_enter Try.func4, Try.ntmps4
  go_wp2_with fail
  rw [← hX0]
  clear hX0 a0 a1 a2
  refine (HC5.out X0 HB.out).mono ?_
  rintro e w1 ⟨hb1, r, rfl, hck⟩
  replace HA := hide ((hb1.block _ (lt_of_heap HA.out)).trans HA.out)
  replace HB := hide (below_on HB.out hb1)
  have HCK := hide hck
  have a0 := cell_of HA.out (i := 0) rfl; have a1 := cell_of HA.out (i := 1) rfl; have a2 := cell_of HA.out (i := 2) rfl
  clear hb1 hck HC5
  by_cases hr : r = 0
  · subst hr
    have HLS := hide (show 1 ≤ ls.length ∧ ls.length ≤ 64 by
      rcases HCK.out with ⟨_, e⟩ | ⟨h1, h2, _⟩
      · cases e
      · exact ⟨h1, h2⟩)
    go_wp2_with fail
    clear a0 a1 a2
    refine (HC7.out w1 HB.out HCK.out HLS.out.1 HLS.out.2).mono ?_
    rintro e w2 ⟨X, bb, gc, rb, rc, Y, Y2, Z, vP, vN, vG, qs, ps, rs, sv, tv, rfl, hbl, hz, hlb, har, hrr, hlx, hrg, hnd, hpo, hinj, hlo, hrd⟩
    have hpn : ∀ w, (binOp .eql 28 (.pointer (some ⟨X, 0, none⟩)) (.pointer none)).run Try.prog w = .ok (.bool false) w := fun w => rfl
    have HTB0 := hide (Lr.tp hbl hz hlb har hrr hlx hrg hnd hpo hinj hlo hrd HCK.out HBU.out HLS.out)
    obtain ⟨gG, cG, rfl⟩ := row_ptr hrg (by have := HLS.out; omega)
    obtain ⟨gN, cN, rfl⟩ := row_ptr hlx.n (by have := HLS.out; omega)
    obtain ⟨gP, cP, rfl⟩ := row_ptr hlx.p (by have := HLS.out; omega)
    have HBW1 := hide HB.out
    have HAW := hide HA.out
    obtain ⟨n, hn⟩ : ∃ n, n = ls.length := ⟨_, rfl⟩
    have HN := hide hn
    have hn1 : 1 ≤ n ∧ n ≤ 64 := by rw [hn]; exact HLS.out
    rw [← hn] at HTB0
    clear hbl hz hlb har hrr hlx hrg hnd hpo hinj hlo hrd HC7 hn HLS HCK HB
    go_wp2_with fail
    go_loopw [8] (fun t wr => ∃ (k : Nat) (lv lr : Value) (s t' : Ast) (gs : Nat → Bool) (ds : Nat → Nd), k ≤ m ∧ t = .int .i64 (k : Int) ∧ Hid (TP w1 wr X bb gc rb rc Y Y2 Z n lv lr s t' (.slice (some ⟨gP, 0, none⟩) n cP) (.slice (some ⟨gN, 0, none⟩) n cN) (.slice (some ⟨gG, 0, none⟩) n cG) qs ps rs sv tv gs ds ds (2 * k)) ∧ Hid (Sm s t' ∧ t'.stopped = s.stopped)) (fun t _ => m - (RowKit.intOf t).toNat)
    case atStart => exact ⟨0, _, _, _, _, _, _, Nat.zero_le _, rfl, HTB0, hide ⟨⟨rfl, rfl⟩, rfl⟩⟩
    case round =>
      obtain ⟨k, lv, lr, s, t, gs, ds, hkm, rfl, HT, HSM⟩ := hrel
      clear HTB0
      have HBW := hide (below_on HBW1.out HT.out.bel)
      by_cases hlt : k < m
      · have hki : (k : Int) < (m : Int) := by omega
        obtain ⟨gp, op, cp, hpe, hpc, hpv⟩ := (HPK.out wr HBW.out).cellAt k (by rw [← HM.out]; exact hlt)
        simp only [Value.slice.injEq] at hpe
        obtain ⟨he1, he2, he3⟩ := hpe
        clear he2
        subst he1 he3
        obtain ⟨x, hx⟩ : ∃ x, x = at_ pk k := ⟨_, rfl⟩
        rw [← hx] at hpv
        obtain ⟨i, hi, hin⟩ : ∃ i : Nat, x % (n : Int) = (i : Int) ∧ i < n := ⟨(x % (n : Int)).toNat, by
          have := Int.emod_nonneg x (show (n : Int) ≠ 0 by omega); omega, by
          have := Int.emod_nonneg x (show (n : Int) ≠ 0 by omega); have := Int.emod_lt_of_pos x (show (0 : Int) < (n : Int) by omega); omega⟩
        have HRS := hide (fun W => rest_any x (n : Int) W (by omega) (by omega))
        rw [hi] at HRS
        have hii : (i : Int) < (n : Int) := by omega
        have HN64 := hide hn1.2
        obtain ⟨_, _, x2, _, _, _, _, _⟩ := tp_cells HT.out hin
        clear hx hi hpc
        go_wp2_with fail
        refine wp_region_noPanic ?_
        go_region_held3 (fun x' => x'.cell? ⟨X, 2, none⟩ = some (.slice (some ⟨gN, 0, none⟩) n cN) ∧ x'.cell? ⟨gp, op + k, none⟩ = some (.int .i64 x)) (go_keep)
          (first
            | (go_at_call 8; refine (HRS.out _).mono ?_; rintro e wq ⟨rfl, rfl⟩)
            | fail)
        all_goals
          refine NoPanic.normal ?_
          have HT1 := hide (HT.out.below (below_drew (Below.refl _ _)))
          generalize wr.drew = wr1 at HT1 ⊢
          clear x2 hpv HRS HT HBW
          go_upto_region 10 with fail
          go_cut [50] from 22 to 153 (fun c wx => c = .bool (decide (¬ (k : Int) = bare) || gs i) ∧ TP w1 wx X bb gc rb rc Y Y2 Z n lv lr s t (.slice (some ⟨gP, 0, none⟩) n cP) (.slice (some ⟨gN, 0, none⟩) n cN) (.slice (some ⟨gG, 0, none⟩) n cG) qs ps rs sv tv gs ds ds (2 * k))
          case first =>
            by_cases hkb : (k : Int) = bare
            · have hb1 : ((k : Int) != bare) = false := by simp [hkb]
              have HKB : Hid ((decide (¬ (k : Int) = bare) || gs i) = gs i) := hide (by simp [hkb])
              obtain ⟨_, x1, _, _, _, _, x6, _⟩ := tp_cells HT1.out hin
              have HGR := hide (tp_granted HT1.out hin)
              clear hkb
              go_wp2_with fail
              refine HGR.out.mono ?_
              rintro e wq ⟨rfl, hq⟩
              have HTQ := hide hq
              clear hq x1 x6
              go_wp2_with fail
              go_meet
              case rel => exact ⟨congrArg Value.bool HKB.out.symm, HTQ.out⟩
            · have hb1 : ((k : Int) != bare) = true := by simp [hkb]
              have HKB : Hid ((decide (¬ (k : Int) = bare) || gs i) = true) := hide (by simp [hkb])
              clear hkb
              go_wp2_with fail
              go_meet
              case rel => exact ⟨congrArg Value.bool HKB.out.symm, HT1.out⟩
          case rest =>
            obtain ⟨rfl, htc⟩ := hcut
            have HT2 := hide htc
            obtain ⟨cb, hcb⟩ : ∃ cb, cb = (decide (¬ (k : Int) = bare) || gs i) := ⟨_, rfl⟩
            have HCB := hide hcb
            rw [← hcb]
            clear hcb htc HT1
            go_upto_if 50 with fail
            go_cut [] from 22 to 153 (fun wx => ∃ t' gs', TP w1 wx X bb gc rb rc Y Y2 Z n lv lr s t' (.slice (some ⟨gP, 0, none⟩) n cP) (.slice (some ⟨gN, 0, none⟩) n cN) (.slice (some ⟨gG, 0, none⟩) n cG) qs ps rs sv tv gs' ds ds (2 * k) ∧ Sm s t' ∧ Pre s t' (gs' i) (ds i).ph)
            case first =>
              cases cb with
              | false =>
                have hgf : Hid (gs i = false) := hide (by have := HCB.out; simp at this; exact this.2)
                have HOV := hide (tp_rover HT2.out hin)
                obtain ⟨_, _, _, x3, x4, _, _, x7⟩ := tp_cells HT2.out hin
                by_cases h0 : (ds i).ph = 0
                · rw [show decide ((ds i).ph = 0) = true by simpa using h0] at HOV
                  have H0 := hide h0
                  clear h0
                  go_wp2_with fail
                  refine HOV.out.mono ?_
                  rintro e wq ⟨rfl, rfl⟩
                  go_wp2_with fail
                  go_meet
                  case rel => exact ⟨_, _, HT2.out, HSM.out.1, .inl ⟨H0.out, HSM.out.2⟩⟩
                · rw [show decide ((ds i).ph = 0) = false by simpa using h0] at HOV
                  have H0 := hide h0
                  obtain ⟨_, _, y3, y3f⟩ := tp_ref HT2.out
                  clear h0
                  go_wp2_with fail
                  refine HOV.out.mono ?_
                  rintro e wq ⟨rfl, rfl⟩
                  go_wp2_with fail
                  go_meet
                  case rel => exact ⟨_, _, tp_stop HT2.out, ⟨HSM.out.1.cells, HSM.out.1.log⟩, .inr (.inr ⟨H0.out, rfl, by
                    cases hs : s.stopped with
                    | true => exact .inl rfl
                    | false => exact .inr ⟨rfl, hgf.out⟩⟩)⟩
              | true =>
                obtain ⟨_, x1, _, _, _, _, x6, _⟩ := tp_cells HT2.out hin
                go_wp2_with fail
                refine (tp_grant HT2.out hin).mono ?_
                rintro e wg ⟨rfl, htg⟩
                have HTG := hide htg
                clear htg x1 x6
                go_wp2_with fail
                go_meet
                case rel => exact ⟨_, _, HTG.out, HSM.out.1, by
                  rw [upd_same]
                  by_cases h0 : (ds i).ph = 0
                  · exact .inl ⟨h0, HSM.out.2⟩
                  · cases hs : s.stopped with
                    | true => exact .inr (.inr ⟨h0, by rw [HSM.out.2]; exact hs, .inl hs⟩)
                    | false => exact .inr (.inl ⟨h0, hs, by rw [HSM.out.2]; exact hs, rfl⟩)⟩
            case rest =>
              obtain ⟨t9, gs9, htc, hsm9, hpre⟩ := hcut
              have HTG := hide htc
              have HPR := hide (And.intro hsm9 hpre)
              clear htc hsm9 hpre HT2 HCB HSM
              obtain ⟨y0, y1, y2, y3, y4, y5, y6, y7⟩ := tp_cells HTG.out hin
              have HST := hide (fun W (kb : Below wc.heap.size wc W) => tp_pick_p (HTG.out.below kb) hin HPR.out.1 HPR.out.2 (by omega))
              clear y0 y3 y4 y7
              go_wp2_with fail
              refine wp_region_noPanic ?_
              go_region_held3 (fun x' => x'.cell? ⟨X, 1, none⟩ = some (.slice (some ⟨gP, 0, none⟩) n cP) ∧ x'.cell? ⟨X, 2, none⟩ = some (.slice (some ⟨gN, 0, none⟩) n cN) ∧ x'.cell? ⟨gN, i, none⟩ = some (.pointer (some ⟨qs i, 0, none⟩)) ∧ x'.cell? ⟨gP, i, none⟩ = some (.pointer (some ⟨ps i, 0, none⟩))) (first | with_reducible exact ⟨z1, z2, z3, z4⟩ | go_keep)
                (first
                  | (go_at_call 11; refine (HST.out _ (below_drew (Below.refl _ _))).mono ?_; rintro e WS ⟨rfl, lv', s', gs', ds', hts, hnx⟩; have HTS := hide hts; have HNX := hide hnx; obtain ⟨_, z1, z2, _, _, z3, z4, _⟩ := tp_cells HTS.out hin; clear hts hnx)
                  | fail)
              all_goals
                refine NoPanic.normal ?_
                clear HST HTG HPR y1 y2 y5 y6 z1 z2 z3 z4
                obtain ⟨_, _, _, u3, u4, _, _, u7⟩ := tp_cells HTS.out hin
                have HSR := hide (fun W (kb : Below WS.heap.size WS W) => tp_pick_r (HTS.out.below kb) hin HNX.out (by omega))
                go_wp2_with fail
                refine wp_region_noPanic ?_
                go_region_held3 (fun x' => x'.cell? ⟨X, 3, none⟩ = some (.pointer (some ⟨rb, 0, none⟩)) ∧ x'.cell? ⟨X, 4, none⟩ = some (.slice (some ⟨gG, 0, none⟩) n cG) ∧ x'.cell? ⟨gG, i, none⟩ = some (.pointer (some ⟨rs i, 0, none⟩))) (first | with_reducible exact ⟨v3, v4, v7⟩ | go_keep)
                  (first
                    | (go_at_call 17; refine (HSR.out _ (below_drew (Below.refl _ _))).mono ?_; rintro e WR ⟨rfl, lr', t', htr, hsr⟩; have HTR := hide htr; have HSS := hide hsr; obtain ⟨_, _, _, v3, v4, _, _, v7⟩ := tp_cells HTR.out hin; clear htr hsr)
                    | fail)
                all_goals
                  refine NoPanic.normal ?_
                  clear HSR HTS HNX u3 u4 u7 v3 v4 v7
                  obtain ⟨lo, lc, rfl⟩ := HTR.out.lrS
                  obtain ⟨L, hL⟩ : ∃ L, L = t'.log.length := ⟨_, rfl⟩
                  have hcn := HTR.out.cnt2 HSS.out.1
                  rw [← hL] at HTR hcn
                  have HL := hide hL
                  clear hL
                  have HSV := hide (tp_seven HTR.out hin)
                  have HTL := hide (fun W (h : TP w1 W X bb gc rb rc Y Y2 Z n lv' (.slice lo L lc) s' t' (.slice (some ⟨gP, 0, none⟩) n cP) (.slice (some ⟨gN, 0, none⟩) n cN) (.slice (some ⟨gG, 0, none⟩) n cG) qs ps rs sv tv gs' ds' ds' (2 * k + 1 + 1)) => tp_tell h hin (by omega))
                  have HRT := hide (fun W (h : TP w1 W X bb gc rb rc Y Y2 Z n lv' (.slice lo L lc) s' t' (.slice (some ⟨gP, 0, none⟩) n cP) (.slice (some ⟨gN, 0, none⟩) n cN) (.slice (some ⟨gG, 0, none⟩) n cG) qs ps rs sv tv gs' ds' ds' (2 * k + 1 + 1)) => tp_rtell h hin)
                  have HOV := hide (fun W (h : TP w1 W X bb gc rb rc Y Y2 Z n lv' (.slice lo L lc) s' t' (.slice (some ⟨gP, 0, none⟩) n cP) (.slice (some ⟨gN, 0, none⟩) n cN) (.slice (some ⟨gG, 0, none⟩) n cG) qs ps rs sv tv gs' ds' ds' (2 * k + 1 + 1)) => tp_over h hin)
                  have HRO := hide (fun W (h : TP w1 W X bb gc rb rc Y Y2 Z n lv' (.slice lo L lc) s' t' (.slice (some ⟨gP, 0, none⟩) n cP) (.slice (some ⟨gN, 0, none⟩) n cN) (.slice (some ⟨gG, 0, none⟩) n cG) qs ps rs sv tv gs' ds' ds' (2 * k + 1 + 1)) => tp_rover h hin)
                  have HCO := hide (fun W (h : TP w1 W X bb gc rb rc Y Y2 Z n lv' (.slice lo L lc) s' t' (.slice (some ⟨gP, 0, none⟩) n cP) (.slice (some ⟨gN, 0, none⟩) n cN) (.slice (some ⟨gG, 0, none⟩) n cG) qs ps rs sv tv gs' ds' ds' (2 * k + 1 + 1)) => tp_count h)
                  have hnt : ∀ W, (binOp .neq 45 (ds' i).told (ds' i).told).run Try.prog W = .ok (.bool false) W := fun W => neq_told _ W
                  rw [hcn] at HCO
                  obtain ⟨b1, b2, b3, b4, b5, htl⟩ : ∃ b1 b2 b3 b4 b5, (ds' i).told = .agg #[.int .i64 b1, .bool b2, .bool b3, .int .i64 b4, .bool b5] := ⟨_, _, _, _, _, rfl⟩
                  rw [htl] at HTL HRT hnt
                  clear htl
                  generalize decide ((ds' i).ph = 0) = ov at HOV HRO
                  have hov : (ov != ov) = false := by simp
                  have hLL : ((L : Int) != (L : Int)) = false := by simp
                  clear hcn
                  obtain ⟨x0, x2, x3, x4, x5, x6, x7⟩ := HSV.out
                  go_upto_region 16 with fail
                  go_region_held3 (fun W => W.cell? ⟨X, 0, none⟩ = some (.pointer (some ⟨bb, 0, none⟩)) ∧ W.cell? ⟨X, 2, none⟩ = some (.slice (some ⟨gN, 0, none⟩) n cN) ∧ W.cell? ⟨X, 3, none⟩ = some (.pointer (some ⟨rb, 0, none⟩)) ∧ W.cell? ⟨X, 4, none⟩ = some (.slice (some ⟨gG, 0, none⟩) n cG) ∧ W.cell? ⟨gN, i, none⟩ = some (.pointer (some ⟨qs i, 0, none⟩)) ∧ W.cell? ⟨gG, i, none⟩ = some (.pointer (some ⟨rs i, 0, none⟩)) ∧ W.cell? ⟨rb, 1, none⟩ = some (.slice lo L lc)) (first | with_reducible exact HZ.out | exact HSV.out | go_keep)
                    (first
                      | (go_at_call 13; refine (HTL.out _ (HTR.out.below (below_drew (Below.refl _ _)))).mono ?_; rintro e WA ⟨rfl, ha⟩; have HTA := hide ha; have HZ := hide (tp_seven HTA.out hin); clear ha)
                      | (go_at_call 18; refine (HRT.out _ HTA.out).mono ?_; rintro e WB ⟨rfl, hb⟩; have HTB := hide hb; have HZ := hide (tp_seven HTB.out hin); clear hb)
                      | (go_at_call 9; refine (HOV.out _ HTB.out).mono ?_; rintro e WC ⟨rfl, rfl⟩)
                      | (go_at_call 16; refine (HRO.out _ HTB.out).mono ?_; rintro e WD ⟨rfl, rfl⟩)
                      | (go_at_call 14; refine (HCO.out _ HTB.out).mono ?_; rintro e WE ⟨rfl, hc⟩; have HTC := hide hc; have HZ := hide (tp_seven HTC.out hin); clear hc)
                      | fail)
                  all_goals
                    clear HTL HRT HOV HRO HCO x0 x2 x3 x4 x5 x6 x7
                    go_wp2_with fail
                    exact ⟨⟨k + 1, _, _, _, _, _, _, hlt, by simp, hide (HTC.out.mono (by omega)), HSS⟩, mdecR hlt⟩
      · obtain rfl : k = m := by omega
        have hn64 := hn1
        have h2k : 2 * k ≤ 2097152 := by omega
        have H2K := hide h2k
        obtain ⟨_, _, x2, _, _, _, _, _⟩ := tp_cells HT.out (show 0 < n by omega)
        clear hlt h2k HBW
        go_wp2_with fail
        go_loopw [10] (fun tt wr2 => ∃ j : Nat, j ≤ n ∧ tt = .int .i64 (j : Int) ∧ Hid (TP w1 wr2 X bb gc rb rc Y Y2 Z n lv lr s t (.slice (some ⟨gP, 0, none⟩) n cP) (.slice (some ⟨gN, 0, none⟩) n cN) (.slice (some ⟨gG, 0, none⟩) n cG) qs ps rs sv tv gs ds ds (2 * k))) (fun tt _ => n - (RowKit.intOf tt).toNat)
        case atStart => exact ⟨0, Nat.zero_le _, rfl, HT⟩
        case round =>
          clear HT x2
          obtain ⟨j, hjn, rfl, HT⟩ := hrel
          by_cases hj : j < n
          · have hji : (j : Int) < (n : Int) := by omega
            obtain ⟨_, _, x2, _, x4, x5, _, x7⟩ := tp_cells HT.out hj
            have HTL := hide (fun W (h : TP w1 W X bb gc rb rc Y Y2 Z n lv lr s t (.slice (some ⟨gP, 0, none⟩) n cP) (.slice (some ⟨gN, 0, none⟩) n cN) (.slice (some ⟨gG, 0, none⟩) n cG) qs ps rs sv tv gs ds ds (2 * k)) => tp_tell h hj (by have := H2K.out; omega))
            have HRT := hide (fun W (h : TP w1 W X bb gc rb rc Y Y2 Z n lv lr s t (.slice (some ⟨gP, 0, none⟩) n cP) (.slice (some ⟨gN, 0, none⟩) n cN) (.slice (some ⟨gG, 0, none⟩) n cG) qs ps rs sv tv gs ds ds (2 * k)) => tp_rtell h hj)
            have hnt : ∀ W, (binOp .neq 45 (ds j).told (ds j).told).run Try.prog W = .ok (.bool false) W := fun W => neq_told _ W
            obtain ⟨b1, b2, b3, b4, b5, htl⟩ : ∃ b1 b2 b3 b4 b5, (ds j).told = .agg #[.int .i64 b1, .bool b2, .bool b3, .int .i64 b4, .bool b5] := ⟨_, _, _, _, _, rfl⟩
            rw [htl] at HTL HRT hnt
            clear htl
            go_wp2_with fail
            refine wp_region_noPanic ?_
            go_region_held3 (fun x' => x'.cell? ⟨X, 2, none⟩ = some (.slice (some ⟨gN, 0, none⟩) n cN) ∧ x'.cell? ⟨X, 4, none⟩ = some (.slice (some ⟨gG, 0, none⟩) n cG) ∧ x'.cell? ⟨gN, j, none⟩ = some (.pointer (some ⟨qs j, 0, none⟩)) ∧ x'.cell? ⟨gG, j, none⟩ = some (.pointer (some ⟨rs j, 0, none⟩))) (first | with_reducible exact ⟨z2, z4, z5, z7⟩ | go_keep)
              (first
                | (go_at_call 13; refine (HTL.out _ (HT.out.below (below_drew (Below.refl _ _)))).mono ?_; rintro e WA ⟨rfl, ha⟩; have HTA := hide ha; obtain ⟨_, _, z2, _, z4, z5, _, z7⟩ := tp_cells HTA.out hj; clear ha)
                | (go_at_call 18; refine (HRT.out _ HTA.out).mono ?_; rintro e WB ⟨rfl, hb⟩; have HTB := hide hb; obtain ⟨_, _, z2, _, z4, z5, _, z7⟩ := tp_cells HTB.out hj; clear hb)
                | fail)
            all_goals
              refine NoPanic.normal ?_
              clear HTL HRT x2 x4 x5 x7
              go_wp2_with fail
              exact ⟨⟨j + 1, hj, by simp, HTB⟩, mdecR hj⟩
          · obtain rfl : j = n := by omega
            have hbig : s.log.length * 64 ≤ 140737488355328 := by have := HT.out.lk.1; have := H2K.out; omega
            have HLG := hide (log_any _ _ _ _ _ wr HT.out.ar hbig)
            obtain ⟨x0, _⟩ := tp_cells HT.out (show 0 < j by omega)
            clear hbig hj
            go_wp2_with fail
            refine HLG.out.mono ?_
            rintro e wl ⟨vl, rfl, hown, hal, hcl⟩
            have HTG := hide (HT.out.look hal hcl)
            have HA1 := hide (AccsAt.of_owns hown)
            have HA2 := hide (AccsAt.of_owns HTG.out.rr.hl)
            have hlg := HSM.out.1.log
            rw [hlg] at HA2
            obtain ⟨L, hL⟩ : ∃ L, L = s.log.length := ⟨_, rfl⟩
            have hLb : L ≤ 2097152 := by have := HT.out.lk.1; have := H2K.out; omega
            obtain ⟨a1, c1, rfl, k1⟩ := HA1.out.cell
            obtain ⟨a2, c2, rfl, k2⟩ := HA2.out.cell
            rw [← hL] at k1 k2 HA1 HA2 HTG ⊢
            have K1 := hide k1
            have K2 := hide k2
            have HL := hide hL
            clear hown hal hcl hlg HLG x0 HT k1 k2 hL
            have hneq := neq_acc
            obtain ⟨x0, _, _, x3, _⟩ := tp_cells HTG.out (show 0 < j by omega)
            obtain ⟨r0, r1, _⟩ := tp_ref HTG.out
            have hLL : ((L : Int) != (L : Int)) = false := by simp
            clear x0 r0
            go_wp2_with fail
            clear x3 r1
            go_loopw [12] (fun tt wr2 => ∃ q : Nat, q ≤ L ∧ tt = .int .i64 (q : Int) ∧ Hid (Below wl.heap.size wl wr2)) (fun tt _ => L - (RowKit.intOf tt).toNat)
            case atStart => exact ⟨0, Nat.zero_le _, rfl, hide (Below.refl _ _)⟩
            case round =>
              obtain ⟨q, hq, rfl, HBQ⟩ := hrel
              have HTQ := hide (HTG.out.below HBQ.out)
              obtain ⟨x0, _, _, x3, _⟩ := tp_cells HTQ.out (show 0 < j by omega)
              obtain ⟨r0, r1, _⟩ := tp_ref HTQ.out
              by_cases hlt : q < L
              · obtain ⟨g1, o1, a, rfl, hg1, ha1, hl1, hm1, e1⟩ := K1.out q hlt
                obtain ⟨g2, o2, a', rfl, hg2, ha2, hl2, _, e2⟩ := K2.out q hlt
                rw [ha1] at ha2
                obtain rfl := Option.some.inj ha2
                have E1 : ∀ (j : Nat) (x : Value), a.arr[j]? = some x → wr.cell? ⟨g1, o1 + q * 8 + j, none⟩ = some x := fun j x hx => (HBQ.out.cell (p := ⟨g1, o1 + q * 8 + j, none⟩) hg1).trans (e1 j x hx)
                have E2 : ∀ (j : Nat) (x : Value), a.arr[j]? = some x → wr.cell? ⟨g2, o2 + q * 8 + j, none⟩ = some x := fun j x hx => (HBQ.out.cell (p := ⟨g2, o2 + q * 8 + j, none⟩) hg2).trans (e2 j x hx)
                have hkm : (q : Int) + 1 ≤ 9223372036854775807 := by omega
                have p0 : wr.cell? ⟨g1, o1 + q * 8, none⟩ = some (.int .i64 a.who) := E1 0 _ rfl
                have p1 : wr.cell? ⟨g1, o1 + q * 8 + 1, none⟩ = some (.int .i64 a.kind) := E1 1 _ rfl
                have p2 : wr.cell? ⟨g1, o1 + q * 8 + 2, none⟩ = some (.int .i64 a.cell) := E1 2 _ rfl
                have p3 : wr.cell? ⟨g1, o1 + q * 8 + 3, none⟩ = some (.int .u64 a.want) := E1 3 _ rfl
                have p4 : wr.cell? ⟨g1, o1 + q * 8 + 4, none⟩ = some (.int .u64 a.put) := E1 4 _ rfl
                have p5 : wr.cell? ⟨g1, o1 + q * 8 + 5, none⟩ = some (.int .u64 a.seen) := E1 5 _ rfl
                have p6 : wr.cell? ⟨g1, o1 + q * 8 + 6, none⟩ = some (.int .u64 a.left) := E1 6 _ rfl
                have p7 : wr.cell? ⟨g1, o1 + q * 8 + 7, none⟩ = some (.bool a.ok) := E1 7 _ rfl
                have q0 : wr.cell? ⟨g2, o2 + q * 8, none⟩ = some (.int .i64 a.who) := E2 0 _ rfl
                have q1 : wr.cell? ⟨g2, o2 + q * 8 + 1, none⟩ = some (.int .i64 a.kind) := E2 1 _ rfl
                have q2 : wr.cell? ⟨g2, o2 + q * 8 + 2, none⟩ = some (.int .i64 a.cell) := E2 2 _ rfl
                have q3 : wr.cell? ⟨g2, o2 + q * 8 + 3, none⟩ = some (.int .u64 a.want) := E2 3 _ rfl
                have q4 : wr.cell? ⟨g2, o2 + q * 8 + 4, none⟩ = some (.int .u64 a.put) := E2 4 _ rfl
                have q5 : wr.cell? ⟨g2, o2 + q * 8 + 5, none⟩ = some (.int .u64 a.seen) := E2 5 _ rfl
                have q6 : wr.cell? ⟨g2, o2 + q * 8 + 6, none⟩ = some (.int .u64 a.left) := E2 6 _ rfl
                have q7 : wr.cell? ⟨g2, o2 + q * 8 + 7, none⟩ = some (.bool a.ok) := E2 7 _ rfl
                have hself : accEq ⟨a.who, a.kind, a.cell, a.want, a.put, a.seen, a.left, a.ok⟩ ⟨a.who, a.kind, a.cell, a.want, a.put, a.seen, a.left, a.ok⟩ = true := (accEq_iff _ _).2 rfl
                have hl1i : (q : Int) < (L : Int) := by omega
                clear e1 e2 E1 E2 ha1 hm1 hl1 hl2 x0 r0 hg1 hg2
                go_wp2_with fail
                go_quiet (fail)
                go_wp2_with fail
                exact ⟨⟨q + 1, hlt, by simp, hide (below_on HBQ.out (below_drN _ _))⟩, mdecR hlt⟩
              · have HIM := hide (fun W (kb : Below wr.heap.size wr W) => image_any _ _ _ _ _ W (HTQ.out.below kb).ar)
                obtain ⟨C, hC⟩ : ∃ C, C = t.cells.length := ⟨_, rfl⟩
                have hcs := HSM.out.1.cells
                have HC := hide hC
                rw [← hC] at r0
                clear hC r1
                have hCm : C ≤ 16777216 := by rw [HC.out]; exact HTQ.out.rr.len
                rw [← hcs] at HIM
                have HCS := hide hcs
                clear hcs
                go_upto_region 31 with fail
                clear hlt
                go_region_held3 (fun x' => x'.cell? ⟨X, 0, none⟩ = some (.pointer (some ⟨bb, 0, none⟩)) ∧ x'.cell? ⟨X, 3, none⟩ = some (.pointer (some ⟨rb, 0, none⟩)) ∧ x'.cell? ⟨rb, 0, none⟩ = some (.slice (some ⟨rc, 0, none⟩) C C)) (first | with_reducible exact HZ.out | go_keep)
                  (first
                    | (go_at_call 12; refine (HIM.out _ (below_drew (Below.refl _ _))).mono ?_; rintro e WI ⟨vi, rfl, hoi, hai, hci⟩; have HTI := hide ((HTQ.out.below (below_drew (Below.refl _ _))).look hai hci); have HOI := hide hoi; have HZ := hide (tp_zz HTI.out HC.out); clear hoi hai hci)
                    | (go_at_call 20; refine (sameWords_any _ _ t.cells _ (RowAt.of_ownW HOI.out) (by rw [HC.out]; exact RowAt.of_wordsO HTI.out.rr.hc HTI.out.rr.len)).mono ?_; rintro e WJ ⟨rfl, hbj⟩; have HBJ := hide hbj; have HZ := hide (tp_zz (HTI.out.below hbj) HC.out); clear hbj)
                    | fail)
                all_goals
                  go_wp2_with fail
                  go_ret
                  exact ⟨rfl, below_on HBW1.out (below_on HTI.out.bel HBJ.out)⟩
  · have hr1 : (r != 0) = true := by simp [hr]
    go_wp2_with fail
    clear a0 a1 a2
    refine (HC6.out w1 HB.out).mono ?_
    rintro e w2 ⟨rfl, hb2⟩
    have HB2 := hide (below_on HB.out hb2)
    clear hb2
    go_wp2_with fail
    go_ret
    exact ⟨rfl, HB2.out⟩
end Go.Proofs.Ytlncjbjdjciphaa
