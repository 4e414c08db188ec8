/- StrongBoth: Parts against the law's own reach, and of the turned graph. -/
import Derived.Test.YteblkbneghbcbaaHx
namespace Go.Proofs.Yteblkbneghbcbaa
open Go.RowKit Go.Lib
set_option linter.unusedVariables false
set_option linter.unusedSimpArgs false
theorem turned_part {n : Nat} {st tl wt st' tl' wt' nx : List Int} (hg : Good n st tl wt) (hs : Summed n tl.length (tov tl) n st') (h : Laying n tl.length (tov tl) (src st n) (fun e => at_ wt e) tl.length nx tl' wt') :
    Good n st' tl' wt' ∧ (∀ e, 0 ≤ at_ wt' e) ∧ prtA n st' tl' wt' = (tab n (fun v => (numb (BG n st tl) v : Int)), 0) := by
  obtain ⟨hgd, hfl⟩ := flip_of hg (fun e he => rfl) (fun e he => rfl) hs h
  refine ⟨hgd, fun e => ?_, ?_⟩
  · rcases Nat.lt_or_ge e tl.length with he | he
    · exact (h.win e he).1
    · unfold at_; rw [List.getElem?_eq_none (by rw [h.wlen]; exact he)]; simp
  · have hB : BG n st' tl' = BG n st tl := by
      funext a b
      apply propext
      unfold BG Bo
      rw [rc_flip hfl, rc_flip hfl]
      exact And.comm
    unfold prtA
    rw [if_pos (good_chk' hgd), Int.toNat_natCast, hB]
theorem RLw.at {w X : World} {n : Nat} {st tl : List Int} {v : Value} {Rs : List Nat} (h : RLw w X n st tl v Rs) {i : Nat} (hi : i < Rs.length) : ∃ g c R B, v = .slice (some ⟨g, 0, none⟩) Rs.length c ∧ Rs.length ≤ c ∧ X.cell? ⟨g, i, none⟩ = some (.slice (some ⟨R, 0, none⟩) n n) ∧ ArrB X R B ∧ B.length = n ∧ ∀ u, u < n → (bAt B u = true ↔ Rc (EE n (sN st) (tN tl)) i u) := by
  obtain ⟨B, b1, b2, b3⟩ := h.row i Rs[i] (List.getElem?_eq_getElem hi)
  obtain ⟨h0, ⟨rfl, hn⟩ | ⟨g, cap, cur, rfl, hg, hb, h1, h2, h3, h4⟩⟩ := h.own
  · omega
  · refine ⟨g, cap, Rs[i], B, rfl, h1, cell_of hb ?_, b1, b2, b3⟩
    have : (slB n Rs)[i]? = some (.slice (some ⟨Rs[i], 0, none⟩) n n) := by simp [slB, hi]
    rw [← h4, List.getElem?_take_of_lt (by omega)] at this
    rw [← Array.getElem?_toList]; exact this
set_option maxRecDepth 100000 in
set_option maxHeartbeats 16000000 in
theorem both_law (N : Int) (va vb vc : Value) (st tl wt : List Int) (w : World) (hg : GIs w N va vb vc st tl wt) (hst : st.length ≤ 17592186044416) (hto : tl.length ≤ 17592186044416) (hwt : wt.length ≤ 17592186044416) (hw : ∀ e, 0 ≤ at_ wt e) :
    Calls Try.prog 7 #[gAgg N va vb vc] w fun e w' => e = .returned (.bool true) ∧ Below w.heap.size w w' := by
  obtain ⟨W, hW⟩ : ∃ W, W = w.alloc (.cells #[.int .i64 N, va, vb, vc] 25) := ⟨_, rfl⟩
  have hbW : Below w.heap.size w W := by rw [hW]; exact below_alloc (Below.refl _ _) _
  have hA : W.heap[w.heap.size]? = some (.cells #[.int .i64 N, va, vb, vc] 25 (0, 0)) := by rw [hW]; exact heap_new _ _
  have HBW := hide hbW
  have HG := hide (hg.below hbW)
  have HK : Hid (∀ X, Below W.heap.size W X → X.cell? ⟨w.heap.size, 0, none⟩ = some (.int .i64 N) ∧ X.cell? ⟨w.heap.size, 1, none⟩ = some va ∧ X.cell? ⟨w.heap.size, 2, none⟩ = some vb ∧ X.cell? ⟨w.heap.size, 3, none⟩ = some vc) := fun X hX => ⟨box_keep hA hX rfl, box_keep hA hX rfl, box_keep hA hX rfl, box_keep hA hX rfl⟩
  have HW := hide hw
  have HRF : Hid (∀ X, Below W.heap.size W X → Calls Try.prog 27 #[gAgg N va vb vc] X fun e w' => e = .returned (.tuple #[.bool (decide ((chk N st tl wt).1 ≠ 0)), .bool true]) ∧ Below X.heap.size X w') := fun X hX => refused_any N va vb vc st tl wt X (HG.out.below hX) hst hto hwt hw
  have HPa : Hid (∀ X, Below W.heap.size W X → Calls Try.prog 12 #[gAgg N va vb vc] X (LN X (prtA N st tl wt))) := fun X hX => parts_any N va vb vc st tl wt X (HG.out.below hX) hst hto hwt hw
  have HNO := hide (fun x W => no_any x W)
  have HHE := hide (heads_any W)
  clear hg hA hbW hw hst hto hwt
  unfold gAgg at *
  by_cases hz : (chk N st tl wt).1 = 0
  · obtain ⟨n, rfl, hgood⟩ := chk_good hz
    have HGD := hide hgood
    rw [show decide ((chk (n : Int) st tl wt).1 ≠ 0) = false by simp [hz]] at HRF
    rw [show prtA n st tl wt = (tab n (fun v => (numb (BG n st tl) v : Int)), 0) by unfold prtA; rw [if_pos hz, Int.toNat_natCast]] at HPa
    have HNB := hide hgood.n_le
    clear hz hgood
    go_enter Try.func7, Try.ntmps7
    go_upto_region 1 with fail
    rw [← hW]
    clear hW
    go_wp2_with fail
    refine HHE.out.mono ?_
    rintro e w1 ⟨rfl, hb1⟩
    have HBX := hide hb1
    clear hb1 HHE
    obtain ⟨p0, p1, p2, p3⟩ := HK.out _ HBX.out
    go_wp2_with fail
    refine (HRF.out _ HBX.out).mono ?_
    rintro e w2 ⟨rfl, hb⟩
    replace HBX := hide (below_on HBX.out hb)
    clear p0 p1 p2 p3 hb HRF
    obtain ⟨p0, p1, p2, p3⟩ := HK.out _ HBX.out
    by_cases h64 : n ≤ 64
    · have hgt : ¬ (64 : Int) < (n : Int) := by omega
      go_wp2_with fail
      refine (HPa.out _ HBX.out).mono ?_
      rintro e w3 ⟨v3, rfl, hr3, hb⟩
      obtain ⟨lo, lc, rfl⟩ := hr3.shape
      rw [tab_length] at hr3 ⊢
      replace HBX := hide (below_on HBX.out hb)
      have HL3 := hide hr3
      clear p0 p1 p2 p3 hb hr3 HPa
      obtain ⟨p0, p1, p2, p3⟩ := HK.out _ HBX.out
      have HRC := hide (reachL_good n va vb vc st tl wt w3 (HG.out.below HBX.out) HGD.out h64)
      unfold gAgg at HRC
      go_wp2_with fail
      refine HRC.out.mono ?_
      rintro e w4 ⟨mv, Rs, rfl, hb, hrl, hRn⟩
      obtain ⟨mo, mc, rfl⟩ := hrl.shape
      rw [hRn] at hrl ⊢
      have HRL := hide hrl; have HRN := hide hRn
      replace HBX := hide (below_on HBX.out hb)
      replace HL3 := hide (HL3.out.below hb)
      clear p0 p1 p2 p3 hb hrl hRn HRC
      obtain ⟨p0, p1, p2, p3⟩ := HK.out _ HBX.out
      have HTU := hide (turn_good n va vb vc st tl wt w4 (HG.out.below HBX.out) HGD.out HW.out)
      unfold gAgg at HTU
      go_wp2_with fail
      refine HTU.out.mono ?_
      rintro e w5 ⟨va5, vb5, vc5, st5, tl5, wt5, nx5, rfl, hg5, hs5, hy5, hb⟩
      unfold gAgg
      obtain ⟨q1, q2, q3⟩ := turned_part HGD.out hs5 hy5
      obtain ⟨ao5, ca5, rfl⟩ := hg5.s.shape
      obtain ⟨bo5, cb5, rfl⟩ := hg5.t.shape
      obtain ⟨co5, cc5, rfl⟩ := hg5.u.shape
      have HG5 := hide hg5; have HQ := hide (And.intro q1 (And.intro q2 q3))
      have HY := hide (And.intro hy5.tlen hy5.wlen)
      replace HBX := hide (below_on HBX.out hb)
      replace HL3 := hide (HL3.out.below hb)
      replace HRL := hide (HRL.out.on hb)
      clear p0 p1 p2 p3 hb hg5 hs5 hy5 q1 q2 q3 HTU
      go_upto_region 9 with fail
      obtain ⟨V, hV⟩ : ∃ V, V = w5.alloc (.cells #[.int .i64 n, .slice ao5 st5.length ca5, .slice bo5 tl5.length cb5, .slice co5 wt5.length cc5] 25) := ⟨_, rfl⟩
      have hbV : Below w5.heap.size w5 V := by rw [hV]; exact below_alloc (Below.refl _ _) _
      have hVA : V.heap[w5.heap.size]? = some (.cells #[.int .i64 n, .slice ao5 st5.length ca5, .slice bo5 tl5.length cb5, .slice co5 wt5.length cc5] 25 (0, 0)) := by rw [hV]; exact heap_new _ _
      rw [← hV]
      have c0 := cell_of hVA (i := 0) rfl
      have c1 := cell_of hVA (i := 1) rfl
      have c2 := cell_of hVA (i := 2) rfl
      have c3 := cell_of hVA (i := 3) rfl
      have HP5 := hide (parts_any n _ _ _ st5 tl5 wt5 V (HG5.out.below hbV) (by have := HQ.out.1.s_len; have := HNB.out; omega) (by have := HQ.out.1.m_le; omega) (by have := HQ.out.1.m_le; have := HQ.out.1.w_len; omega) HQ.out.2.1)
      rw [HQ.out.2.2] at HP5
      unfold gAgg at HP5
      replace HBX := hide (below_on HBX.out hbV)
      replace HL3 := hide (HL3.out.below hbV)
      replace HRL := hide (HRL.out.on hbV)
      clear hV hbV hVA HG5 HQ HY
      go_wp2_with fail
      refine HP5.out.mono ?_
      rintro e w6 ⟨v6, rfl, hr6, hb⟩
      replace HBX := hide (below_on HBX.out hb)
      replace HL3 := hide (HL3.out.below hb)
      replace HRL := hide (HRL.out.on hb)
      have HS6 := hide (lawSame_eq v6 (.slice lo n lc) _ w6 hr6 HL3.out)
      clear c0 c1 c2 c3 hb hr6 HP5
      obtain ⟨p0, p1, p2, p3⟩ := HK.out _ HBX.out
      have hnn : ((n : Int) != (n : Int)) = false := by simp
      go_wp2_with (first | (go_at_call 15; refine (HNO.out _ _).mono ?_; rintro e w9 ⟨rfl, hw9⟩; subst hw9) | (go_at_call 14; refine HS6.out.mono ?_; rintro e w7 ⟨rfl, hb7⟩) | fail)
      have HBZ := hide (below_on HBX.out hb7)
      have HLX : Hid (∀ X, Below w7.heap.size w7 X → RowAt .i64 X (.slice lo n lc) (tab n (fun v => (numb (BG n st tl) v : Int)))) := fun X hX => (HL3.out.below hb7).below hX
      have HRX : Hid (∀ X, Below w7.heap.size w7 X → RLw w3 X n st tl (.slice mo n mc) Rs) := fun X hX => (HRL.out.on hb7).on hX
      have HKX : Hid (∀ X, Below w7.heap.size w7 X → X.cell? ⟨w.heap.size, 0, none⟩ = some (.int .i64 n)) := fun X hX => (HK.out X (below_on HBZ.out hX)).1
      clear p0 p1 p2 p3 hb7 HBX HL3 HRL HS6 HK HNO HG
      go_loopw [13, 14, 15] (fun t v _ wr => ∃ k : Nat, v = .int .i64 (k : Int) ∧ k ≤ n ∧ t = .int .i64 (cntL (BG n st tl) k : Int) ∧ Below w7.heap.size w7 wr) (fun _ v _ _ => n - (RowKit.intOf v).toNat)
      case atStart => exact ⟨0, rfl, Nat.zero_le _, rfl, Below.refl _ _⟩
      case round =>
        obtain ⟨k, rfl, hk, rfl, hbr⟩ := hrel
        have HBR := hide hbr
        clear hbr
        have p0 := HKX.out _ HBR.out
        by_cases hlt : k < n
        · obtain ⟨g, o, c, he, _, d⟩ := (HLX.out _ HBR.out).cellAt k (by rw [tab_length]; exact hlt)
          rw [tab_length] at he
          simp only [Value.slice.injEq, true_and] at he
          obtain ⟨rfl, rfl⟩ := he
          rw [tab_at n _ k hlt] at d
          have hki : (k : Int) < (n : Int) := by omega
          have hx0 : cntL (BG n st tl) k ≤ k := cntL_le k
          have hor : (numb (BG n st tl) k = cntL (BG n st tl) k ∧ cntL (BG n st tl) (k + 1) = cntL (BG n st tl) k + 1) ∨ (numb (BG n st tl) k + 1 ≤ cntL (BG n st tl) k ∧ cntL (BG n st tl) (k + 1) = cntL (BG n st tl) k) := by
            by_cases hl : lea (BG n st tl) k = k
            · exact .inl ⟨numb_new hl, by rw [cntL_succ, if_pos hl]⟩
            · exact .inr ⟨numb_old (Bo.eqv _) hl, by rw [cntL_succ, if_neg hl]; rfl⟩
          obtain ⟨x, hx⟩ : ∃ x, x = cntL (BG n st tl) k := ⟨_, rfl⟩
          obtain ⟨y, hy⟩ : ∃ y, y = numb (BG n st tl) k := ⟨_, rfl⟩
          rw [← hx] at hor hx0 ⊢
          rw [← hy] at hor d
          have HY := hide hy
          have hy0 : ¬ (y : Int) < 0 := by omega
          have hyx : ¬ (x : Int) < (y : Int) := by omega
          clear hx hy
          rcases hor with ⟨h1, h2⟩ | ⟨h1, h2⟩
          · subst h1
            have H2 := hide h2
            clear h2
            go_wp2_with fail
            clear d p0
            go_loopw [15] (fun t wr2 => ∃ j : Nat, t = .int .i64 (j : Int) ∧ j ≤ n ∧ Below w7.heap.size w7 wr2) (fun t _ => n - (RowKit.intOf t).toNat)
            case atStart => exact ⟨0, rfl, Nat.zero_le _, HBR.out⟩
            case round =>
              obtain ⟨j, rfl, hj, hbr2⟩ := hrel
              have HB2 := hide hbr2
              clear hbr2
              have p0 := HKX.out _ HB2.out
              by_cases hjl : j < n
              · obtain ⟨g1, o1, c1, he, _, dj⟩ := (HLX.out _ HB2.out).cellAt j (by rw [tab_length]; exact hjl)
                rw [tab_length] at he
                simp only [Value.slice.injEq, Option.some.injEq, Addr.mk.injEq, and_true, true_and] at he
                obtain ⟨⟨rfl, rfl⟩, rfl⟩ := he
                obtain ⟨g1, o1, c1, he, _, dk⟩ := (HLX.out _ HB2.out).cellAt k (by rw [tab_length]; exact hlt)
                rw [tab_length] at he
                simp only [Value.slice.injEq, Option.some.injEq, Addr.mk.injEq, and_true, true_and] at he
                obtain ⟨⟨rfl, rfl⟩, rfl⟩ := he
                obtain ⟨mg, mcc, R1, B1, he, _, m1, a1, l1, b1⟩ := (HRX.out _ HB2.out).at (i := j) (by rw [HRN.out]; exact hjl)
                rw [HRN.out] at he
                simp only [Value.slice.injEq, true_and] at he
                obtain ⟨rfl, rfl⟩ := he
                obtain ⟨mg1, mcc1, R2, B2, he, _, m2, a2, l2, b2⟩ := (HRX.out _ HB2.out).at (i := k) (by rw [HRN.out]; exact hlt)
                rw [HRN.out] at he
                simp only [Value.slice.injEq, Option.some.injEq, Addr.mk.injEq, and_true, true_and] at he
                obtain ⟨rfl, rfl⟩ := he
                rw [tab_at n _ j hjl] at dj
                rw [tab_at n _ k hlt, ← HY.out] at dk
                have e1 := a1.cell k (by omega)
                have e2 := a2.cell j (by omega)
                have hkey : (bAt B1 k = true ∧ bAt B2 j = true) ↔ numb (BG n st tl) j = y := by
                  rw [b1 k hlt, b2 j hjl, HY.out, numb_iff (B := BG n st tl) (Bo.eqv _)]
                  rfl
                obtain ⟨z, hz⟩ : ∃ z, z = numb (BG n st tl) j := ⟨_, rfl⟩
                rw [← hz] at dj hkey
                have hji : (j : Int) < (n : Int) := by omega
                clear hz a1 a2 l1 l2 b1 b2
                obtain ⟨x1, hx1⟩ : ∃ x1, x1 = bAt B1 k := ⟨_, rfl⟩
                obtain ⟨x2, hx2⟩ : ∃ x2, x2 = bAt B2 j := ⟨_, rfl⟩
                rw [← hx1] at e1 hkey
                rw [← hx2] at e2 hkey
                clear hx1 hx2
                cases x1 with
                | false =>
                  have hne2 : ((z : Int) == (y : Int)) = false := by
                    have : z ≠ y := fun h => by have := hkey.2 h; simp at this
                    simp; omega
                  clear hkey
                  go_wp2_with fail

                  go_quiet (fail)
                  go_wp2_with fail
                  exact ⟨⟨j + 1, by simp, by omega, below_drewN HB2.out _⟩, by simp [RowKit.intOf]; omega⟩
                | true =>
                  cases x2 with
                  | false =>
                    have hne2 : ((z : Int) == (y : Int)) = false := by
                      have : z ≠ y := fun h => by have := hkey.2 h; simp at this
                      simp; omega
                    clear hkey
                    go_upto_region 23 with fail
                    go_quiet (fail)
                    go_wp2_with fail
                    exact ⟨⟨j + 1, by simp, by omega, below_drewN HB2.out _⟩, by simp [RowKit.intOf]; omega⟩
                  | true =>
                    have hzy : z = y := hkey.1 ⟨rfl, rfl⟩
                    subst hzy
                    clear hkey
                    have hzz : ((z : Int) == (z : Int)) = true := by simp
                    go_upto_region 23 with fail
                    go_quiet (fail)
                    go_wp2_with fail
                    exact ⟨⟨j + 1, by simp, by omega, below_drewN HB2.out _⟩, by simp [RowKit.intOf]; omega⟩
              · obtain rfl : n = j := by omega
                go_wp2_with fail
                exact ⟨⟨k + 1, by simp, by omega, by first | (rw [H2.out]; done) | (rw [H2.out]; simp), HB2.out⟩, by simp [RowKit.intOf]; omega⟩
          · have H2 := hide h2
            have hne : ((y : Int) == (x : Int)) = false := by simp; omega
            clear h1 h2
            go_wp2_with fail
            clear d p0
            go_loopw [15] (fun t wr2 => ∃ j : Nat, t = .int .i64 (j : Int) ∧ j ≤ n ∧ Below w7.heap.size w7 wr2) (fun t _ => n - (RowKit.intOf t).toNat)
            case atStart => exact ⟨0, rfl, Nat.zero_le _, HBR.out⟩
            case round =>
              obtain ⟨j, rfl, hj, hbr2⟩ := hrel
              have HB2 := hide hbr2
              clear hbr2
              have p0 := HKX.out _ HB2.out
              by_cases hjl : j < n
              · obtain ⟨g1, o1, c1, he, _, dj⟩ := (HLX.out _ HB2.out).cellAt j (by rw [tab_length]; exact hjl)
                rw [tab_length] at he
                simp only [Value.slice.injEq, Option.some.injEq, Addr.mk.injEq, and_true, true_and] at he
                obtain ⟨⟨rfl, rfl⟩, rfl⟩ := he
                obtain ⟨g1, o1, c1, he, _, dk⟩ := (HLX.out _ HB2.out).cellAt k (by rw [tab_length]; exact hlt)
                rw [tab_length] at he
                simp only [Value.slice.injEq, Option.some.injEq, Addr.mk.injEq, and_true, true_and] at he
                obtain ⟨⟨rfl, rfl⟩, rfl⟩ := he
                obtain ⟨mg, mcc, R1, B1, he, _, m1, a1, l1, b1⟩ := (HRX.out _ HB2.out).at (i := j) (by rw [HRN.out]; exact hjl)
                rw [HRN.out] at he
                simp only [Value.slice.injEq, true_and] at he
                obtain ⟨rfl, rfl⟩ := he
                obtain ⟨mg1, mcc1, R2, B2, he, _, m2, a2, l2, b2⟩ := (HRX.out _ HB2.out).at (i := k) (by rw [HRN.out]; exact hlt)
                rw [HRN.out] at he
                simp only [Value.slice.injEq, Option.some.injEq, Addr.mk.injEq, and_true, true_and] at he
                obtain ⟨rfl, rfl⟩ := he
                rw [tab_at n _ j hjl] at dj
                rw [tab_at n _ k hlt, ← HY.out] at dk
                have e1 := a1.cell k (by omega)
                have e2 := a2.cell j (by omega)
                have hkey : (bAt B1 k = true ∧ bAt B2 j = true) ↔ numb (BG n st tl) j = y := by
                  rw [b1 k hlt, b2 j hjl, HY.out, numb_iff (B := BG n st tl) (Bo.eqv _)]
                  rfl
                obtain ⟨z, hz⟩ : ∃ z, z = numb (BG n st tl) j := ⟨_, rfl⟩
                rw [← hz] at dj hkey
                have hji : (j : Int) < (n : Int) := by omega
                clear hz a1 a2 l1 l2 b1 b2
                obtain ⟨x1, hx1⟩ : ∃ x1, x1 = bAt B1 k := ⟨_, rfl⟩
                obtain ⟨x2, hx2⟩ : ∃ x2, x2 = bAt B2 j := ⟨_, rfl⟩
                rw [← hx1] at e1 hkey
                rw [← hx2] at e2 hkey
                clear hx1 hx2
                cases x1 with
                | false =>
                  have hne2 : ((z : Int) == (y : Int)) = false := by
                    have : z ≠ y := fun h => by have := hkey.2 h; simp at this
                    simp; omega
                  clear hkey
                  go_wp2_with fail

                  go_quiet (fail)
                  go_wp2_with fail
                  exact ⟨⟨j + 1, by simp, by omega, below_drewN HB2.out _⟩, by simp [RowKit.intOf]; omega⟩
                | true =>
                  cases x2 with
                  | false =>
                    have hne2 : ((z : Int) == (y : Int)) = false := by
                      have : z ≠ y := fun h => by have := hkey.2 h; simp at this
                      simp; omega
                    clear hkey
                    go_upto_region 23 with fail
                    go_quiet (fail)
                    go_wp2_with fail
                    exact ⟨⟨j + 1, by simp, by omega, below_drewN HB2.out _⟩, by simp [RowKit.intOf]; omega⟩
                  | true =>
                    have hzy : z = y := hkey.1 ⟨rfl, rfl⟩
                    subst hzy
                    clear hkey
                    have hzz : ((z : Int) == (z : Int)) = true := by simp
                    go_upto_region 23 with fail
                    go_quiet (fail)
                    go_wp2_with fail
                    exact ⟨⟨j + 1, by simp, by omega, below_drewN HB2.out _⟩, by simp [RowKit.intOf]; omega⟩
              · obtain rfl : n = j := by omega
                go_wp2_with fail
                exact ⟨⟨k + 1, by simp, by omega, by first | (rw [H2.out]; done) | (rw [H2.out]; simp), HB2.out⟩, by simp [RowKit.intOf]; omega⟩
        · obtain rfl : n = k := by omega
          go_wp2_with fail
          go_ret
          exact ⟨rfl, below_on HBW.out (below_on HBZ.out HBR.out)⟩
    · have hgt : (64 : Int) < (n : Int) := by omega
      go_wp2_with fail
      go_ret
      exact ⟨rfl, below_on HBW.out HBX.out⟩
  · rw [show decide ((chk N st tl wt).1 ≠ 0) = true by simp [hz]] at HRF
    go_enter Try.func7, Try.ntmps7
    go_upto_region 1 with fail
    rw [← hW]
    clear hW
    go_wp2_with fail
    refine HHE.out.mono ?_
    rintro e w1 ⟨rfl, hb1⟩
    have HBX := hide hb1
    clear hb1 HHE
    obtain ⟨p0, p1, p2, p3⟩ := HK.out _ HBX.out
    go_wp2_with fail
    refine (HRF.out _ HBX.out).mono ?_
    rintro e w2 ⟨rfl, hb⟩
    replace HBX := hide (below_on HBX.out hb)
    clear p0 p1 p2 p3 hb HRF
    obtain ⟨p0, p1, p2, p3⟩ := HK.out _ HBX.out
    go_wp2_with fail
    go_ret
    exact ⟨rfl, below_on HBW.out HBX.out⟩
end Go.Proofs.Yteblkbneghbcbaa
