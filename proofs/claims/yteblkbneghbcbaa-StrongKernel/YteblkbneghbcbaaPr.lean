/- The document's Parts. -/
import Derived.Test.YteblkbneghbcbaaTrFl
import Derived.Test.YteblkbneghbcbaaOfRh
import Derived.Test.YteblkbneghbcbaaNb
import Derived.Test.YteblkbneghbcbaaLgOd
namespace Go.Proofs.Yteblkbneghbcbaa
open Go.RowKit Go.Lib
set_option linter.unusedVariables false
set_option linter.unusedSimpArgs false
/-- Each from the other, in a graph. -/
def BG (n : Nat) (st tl : List Int) : Nat → Nat → Prop := Bo (EE n (sN st) (tN tl))
noncomputable def rpF (B : Nat → Nat → Prop) (k j u : Nat) : Int := if lea B u < k ∨ (u < j ∧ lea B u = k) then (numb B u : Int) else -1
structure QP (w6 wr : World) (A : Nat) (L : List Int) : Prop where
  bel : Below w6.heap.size w6 wr
  arr : Arr wr A L
  wA : w6.heap.size ≤ A
theorem QP.set {w6 wr : World} {A : Nat} {L : List Int} (h : QP w6 wr A L) (i : Nat) (x : Int) : QP w6 (wr.setCell ⟨A, i, none⟩ (.int .i64 x)) A (L.set i x) :=
  ⟨h.bel.setCell (p := ⟨A, i, none⟩) h.wA _, h.arr.put i x, h.wA⟩
theorem QP.on {w6 wr w' : World} {A : Nat} {L : List Int} (h : QP w6 wr A L) (hb : Below wr.heap.size wr w') : QP w6 w' A L := ⟨below_on h.bel hb, (hb.block _ (lt_of_heap h.arr)).trans h.arr, h.wA⟩
theorem rp_set {B : Nat → Nat → Prop} {n k j : Nat} (hl : lea B j = k) : (tab n (rpF B k j)).set j (numb B j : Int) = tab n (rpF B k (j + 1)) := by
  rw [tab_set]
  refine tab_congr fun u _ => ?_
  unfold rpF
  by_cases e : u = j
  · subst e; rw [if_pos rfl, if_pos (.inr ⟨by omega, hl⟩)]
  · rw [if_neg e]
    by_cases h : lea B u < k ∨ (u < j ∧ lea B u = k)
    · rw [if_pos h, if_pos (by omega)]
    · rw [if_neg h, if_neg (by omega)]
theorem rp_skip {B : Nat → Nat → Prop} {n k j : Nat} (hl : ¬ lea B j = k) : tab n (rpF B k j) = tab n (rpF B k (j + 1)) := tab_congr fun u _ => by
  unfold rpF
  by_cases e : u = j
  · subst e
    by_cases h : lea B u < k
    · rw [if_pos (.inl h), if_pos (.inl h)]
    · rw [if_neg (by omega), if_neg (by omega)]
  · by_cases h : lea B u < k ∨ (u < j ∧ lea B u = k)
    · rw [if_pos h, if_pos (by omega)]
    · rw [if_neg h, if_neg (by omega)]
theorem rp_next {B : Nat → Nat → Prop} {n k : Nat} : tab n (rpF B k n) = tab n (rpF B (k + 1) 0) := tab_congr fun u hu => by
  unfold rpF
  by_cases h : lea B u < k ∨ (u < n ∧ lea B u = k)
  · rw [if_pos h, if_pos (by omega)]
  · rw [if_neg h, if_neg (by omega)]
theorem rp_old {B : Nat → Nat → Prop} (hE : Eqv B) {n k : Nat} (hl : ¬ lea B k = k) : tab n (rpF B k 0) = tab n (rpF B (k + 1) 0) := tab_congr fun u _ => by
  unfold rpF
  have hne : ¬ lea B u = k := fun h => hl (by rw [← h]; exact lea_lea hE u)
  by_cases h : lea B u < k
  · rw [if_pos (.inl h), if_pos (by omega)]
  · rw [if_neg (by omega), if_neg (by omega)]
set_option maxRecDepth 100000 in
set_option maxHeartbeats 8000000 in
theorem partsR_good (n : Nat) (va vb vc : Value) (st tl wt : List Int) (w : World) (hgi : GIs w n va vb vc st tl wt) (hg : Good n st tl wt) (hw : ∀ e, 0 ≤ at_ wt e) :
    Calls Try.prog 13 #[gAgg n va vb vc] w (LN w (tab n (fun v => (numb (BG n st tl) v : Int)), 0)) := by
  obtain ⟨i3, hi3, hz3, hs3, hy3⟩ := info_parts Try.info3q
  have hml := hg.m_le
  have hnl := hg.n_le
  have hchk := good_chk' hg
  obtain ⟨⟨r1, r2⟩, hrr⟩ : ∃ r, chk n st tl wt = r := ⟨_, rfl⟩
  rw [hrr] at hchk
  simp only at hchk
  subst hchk
  have hck := (fun W h => refCheck_all n va vb vc st tl wt W h (by have := hg.s_len; omega) (by omega) (by have := hg.w_len; omega))
  unfold ChkPost at hck
  rw [hrr] at hck
  have HCK := hide hck
  have HGI := hide hgi; have HG := hide hg; have HW := hide hw; have HNL := hide hnl
  have hb0 : Below w.heap.size w (w.alloc (.cells #[.int .i64 n, va, vb, vc] 25)) := below_alloc (Below.refl _ _) _
  have hbx := heap_new w (.cells #[.int .i64 n, va, vb, vc] 25)
  have HB0 := hide hb0; have HX0 := hide hbx
  have c0 := cell_of hbx (i := 0) rfl
  have c1 := cell_of hbx (i := 1) rfl
  have c2 := cell_of hbx (i := 2) rfl
  have c3 := cell_of hbx (i := 3) rfl
  unfold gAgg at HCK ⊢
  clear hgi hg hw hck hrr hb0 hbx hml
  go_enter Try.func13, Try.ntmps13
  go_upto_region 1 with fail
  generalize (w.alloc (.cells #[.int .i64 n, va, vb, vc] 25)) = w1 at HB0 HX0 c0 c1 c2 c3 ⊢
  go_wp2_with fail
  refine (HCK.out w1 (HGI.out.below HB0.out)).mono ?_
  rintro e w2 ⟨rfl, hb2⟩
  have HB2 := hide (below_on HB0.out hb2)
  have HX2 : Hid (w2.heap[w.heap.size]? = some (.cells #[.int .i64 n, va, vb, vc] 25 (0, 0))) := (hb2.block _ (lt_of_heap HX0.out)).trans HX0.out
  clear hb2 HB0 HX0 c0 c1 c2 c3 HCK
  have c0 := cell_of HX2.out (i := 0) rfl
  have c1 := cell_of HX2.out (i := 1) rfl
  have c2 := cell_of HX2.out (i := 2) rfl
  have c3 := cell_of HX2.out (i := 3) rfl
  have HTU := hide (turnR_any n va vb vc st tl wt w2 (HGI.out.below HB2.out) HG.out HW.out)
  unfold gAgg at HTU
  go_wp2_with fail
  refine HTU.out.mono ?_
  rintro e w3 ⟨va2, vb2, vc2, st2, tl2, wt2, nx, L, rfl, hgi2, hL, hsm, hly, hb3⟩
  subst hL
  obtain ⟨hg2, hfl⟩ := flip_of HG.out (fun e he => (sw_from he).1) (fun e he => (sw_from he).2) hsm hly
  obtain ⟨ao2, ca2, rfl⟩ := hgi2.s.shape
  obtain ⟨bo2, cb2, rfl⟩ := hgi2.t.shape
  obtain ⟨co2, cc2, rfl⟩ := hgi2.u.shape
  unfold gAgg
  have hb4 : Below w3.heap.size w3 (w3.alloc (.cells #[.int .i64 n, .slice ao2 st2.length ca2, .slice bo2 tl2.length cb2, .slice co2 wt2.length cc2] 25)) := below_alloc (Below.refl _ _) _
  have hx4 := heap_new w3 (.cells #[.int .i64 n, .slice ao2 st2.length ca2, .slice bo2 tl2.length cb2, .slice co2 wt2.length cc2] 25)
  have HG2 := hide hg2; have HFL := hide hfl
  have HGI2 := hide (hgi2.below hb4)
  have HB3 := hide (below_on (below_on HB2.out hb3) hb4)
  have HX3 : Hid ((w3.alloc (.cells #[.int .i64 n, .slice ao2 st2.length ca2, .slice bo2 tl2.length cb2, .slice co2 wt2.length cc2] 25)).heap[w.heap.size]? = some (.cells #[.int .i64 n, va, vb, vc] 25 (0, 0))) := ((below_on hb3 hb4).block _ (lt_of_heap HX2.out)).trans HX2.out
  have HY3 := hide hx4
  have HGI1 := hide (HGI.out.below HB3.out)
  clear hg2 hfl hgi2 hsm hly hb3 HB2 HX2 c0 c1 c2 c3 HTU hb4 hx4
  go_upto_region 5 with fail
  obtain ⟨tb, htb⟩ : ∃ tb, tb = w3.heap.size := ⟨_, rfl⟩
  rw [← htb] at HY3 ⊢
  generalize (w3.alloc (.cells #[.int .i64 n, .slice ao2 st2.length ca2, .slice bo2 tl2.length cb2, .slice co2 wt2.length cc2] 25)) = w6 at HB3 HX3 HY3 HGI1 HGI2 ⊢
  clear htb
  have c0 := cell_of HX3.out (i := 0) rfl
  go_upto_region 6 with (first
    | (at_make; refine wpList_make_full _ rfl _ _ 22 rfl w6.heap.size 3 i3 (.int .i64 0) 1 Try.underlying22 hi3 hz3 hs3 _ _ _ _ n rfl rfl rfl rfl (by rw [hy3]; omega) (by unfold maxLen; omega) (Nat.le_refl _) ?_; intro w7 hown hgrow)
    | fail)
  have hb7 : Below w6.heap.size w6 w7 := (Below.refl _ _).grown hgrow (Nat.le_refl _) (by intro j hj; cases hj)
  have HQ : Hid (QP w6 w7 w6.heap.size (tab n (fun v => if v < 0 then (-1 : Int) else 0))) := ⟨hb7, by rw [show (fun v => if v < 0 then (-1 : Int) else 0) = (fun _ : Nat => (0 : Int)) from funext fun v => if_neg (by omega)]; exact arr_made hown, Nat.le_refl _⟩
  have HC0 : Hid (∀ X, Below w6.heap.size w6 X → X.cell? ⟨w.heap.size, 0, none⟩ = some (.int .i64 n) ∧ X.cell? ⟨w.heap.size, 1, none⟩ = some va ∧ X.cell? ⟨w.heap.size, 2, none⟩ = some vb ∧ X.cell? ⟨w.heap.size, 3, none⟩ = some vc) := fun X hX => ⟨box_keep HX3.out hX rfl, box_keep HX3.out hX rfl, box_keep HX3.out hX rfl, box_keep HX3.out hX rfl⟩
  have HC1 : Hid (∀ X, Below w6.heap.size w6 X → X.cell? ⟨tb, 0, none⟩ = some (.int .i64 n) ∧ X.cell? ⟨tb, 1, none⟩ = some (.slice ao2 st2.length ca2) ∧ X.cell? ⟨tb, 2, none⟩ = some (.slice bo2 tl2.length cb2) ∧ X.cell? ⟨tb, 3, none⟩ = some (.slice co2 wt2.length cc2)) := fun X hX => ⟨box_keep HY3.out hX rfl, box_keep HY3.out hX rfl, box_keep HY3.out hX rfl, box_keep HY3.out hX rfl⟩
  generalize w6.heap.size = A at HQ ⊢
  clear hown hgrow hb7 c0
  go_wp2_with fail
  go_loopw [9] (fun t wr => ∃ k : Nat, k ≤ n ∧ t = .int .i64 k ∧ QP w6 wr A (tab n (fun v => if v < k then (-1 : Int) else 0))) (fun t _ => n - (RowKit.intOf t).toNat)
  case atStart => exact ⟨0, Nat.zero_le _, rfl, HQ.out⟩
  case round =>
    obtain ⟨k, hk, rfl, hq⟩ := hrel
    have HQR := hide hq
    clear hq HQ
    obtain ⟨p0, _, _, _⟩ := HC0.out _ HQR.out.bel
    have hkm : (k : Int) + 1 ≤ 9223372036854775807 := by omega
    by_cases hlt : k < n
    · have y0 := HQR.out.arr.cell k (by rw [tab_length]; exact hlt)
      have yf := HQR.out.arr.free k
      have HQ2 : Hid (QP w6 (wr.setCell ⟨A, k, none⟩ (.int .i64 (-1))) A (tab n (fun v => if v < k + 1 then (-1 : Int) else 0))) := by
        have := HQR.out.set k (-1)
        rw [tab_set, tab_congr (h := fun v => if v < k + 1 then (-1 : Int) else 0) (fun v _ => by
          by_cases e : v = k
          · rw [if_pos e, if_pos (by omega)]
          · rw [if_neg e]
            by_cases h : v < k
            · rw [if_pos h, if_pos (by omega)]
            · rw [if_neg h, if_neg (by omega)])] at this
        exact this
      go_wp2_with fail
      go_roundw
      case rel => exact ⟨k + 1, Nat.succ_le_of_lt hlt, by go_num, HQ2.out⟩
      case measure => exact mdec hlt
    · have HQ3 : Hid (QP w6 wr A (tab n (rpF (BG n st tl) 0 0))) := by
        have := HQR.out
        rw [tab_congr (h := rpF (BG n st tl) 0 0) (fun v hv => by rw [if_pos (by omega)]; unfold rpF; rw [if_neg (by omega)])] at this
        exact this
      have HE : Hid (Eqv (BG n st tl)) := Bo.eqv _
      clear HQR hk
      go_wp2_with fail
      clear p0 hkm
      go_loopw [11, 10] (fun t c wr => ∃ k : Nat, k ≤ n ∧ t = .int .i64 k ∧ c = .int .i64 (cntL (BG n st tl) k : Int) ∧ QP w6 wr A (tab n (rpF (BG n st tl) k 0))) (fun t _ _ => n - (RowKit.intOf t).toNat)
      case atStart => exact ⟨0, Nat.zero_le _, rfl, rfl, HQ3.out⟩
      case round =>
        obtain ⟨k, hk, rfl, rfl, hq⟩ := hrel
        have HQR := hide hq
        clear hq HQ3
        obtain ⟨p0, p1, p2, p3⟩ := HC0.out _ HQR.out.bel
        have hkm : (k : Int) + 1 ≤ 9223372036854775807 := by omega
        by_cases hlt : k < n
        · have y0 := HQR.out.arr.cell k (by rw [tab_length]; exact hlt)
          rw [tab_at _ _ _ hlt] at y0
          have hle := (lea_spec HE.out k).1
          have hcl := cntL_le (B := BG n st tl) k
          by_cases hl : lea (BG n st tl) k = k
          · have hv : rpF (BG n st tl) k 0 k = -1 := by unfold rpF; rw [if_neg (by omega)]
            rw [hv] at y0
            have HCS : Hid (cntL (BG n st tl) (k + 1) = cntL (BG n st tl) k + 1) := by show _ = _; rw [cntL_succ, if_pos hl]
            have HLK := hide hl
            have HR1 := hide (reached_any n va vb vc st tl wt k wr (HGI1.out.below HQR.out.bel) HG.out hlt)
            unfold gAgg at HR1
            obtain ⟨cx, hcx⟩ : ∃ cx, cx = cntL (BG n st tl) k := ⟨_, rfl⟩
            have HCX := hide hcx
            rw [← hcx] at HCS hcl ⊢
            clear hv hl hle hcx
            go_wp2_with fail
            refine HR1.out.mono ?_
            rintro e w8 ⟨C1, K1, rfl, hk1, hc1, hr1, hb8⟩
            have HQ8 := hide (HQR.out.on hb8)
            have HCA1 : Hid (A < C1) := Nat.lt_of_lt_of_le (lt_of_heap HQR.out.arr) hc1
            have HK1 := hide hk1; have HRR1 := hide hr1
            clear hk1 hc1 hr1 hb8 HQR HR1 p0 p1 p2 p3 y0
            obtain ⟨p0, p1, p2, p3⟩ := HC1.out _ HQ8.out.bel
            have HR2 := hide (reached_any n _ _ _ st2 tl2 wt2 k w8 (HGI2.out.below HQ8.out.bel) HG2.out hlt)
            unfold gAgg at HR2
            go_wp2_with fail
            refine HR2.out.mono ?_
            rintro e w9 ⟨C2, K2, rfl, hk2, hc2, hr2, hb9⟩
            have HQ9 := hide (HQ8.out.on hb9)
            have HCA2 : Hid (A < C2) := Nat.lt_of_lt_of_le (lt_of_heap HQ8.out.arr) hc2
            have HK19 : Hid (BArr w9 C1 (btab n K1)) := (hb9.block _ (lt_of_heap HK1.out)).trans HK1.out
            have HK2 := hide hk2
            have HKK : Hid (∀ u, u < n → ((K1 u && K2 u) = true ↔ lea (BG n st tl) u = k)) := fun u hu => by
              rw [Bool.and_eq_true, HRR1.out u hu, hr2 u hu, rc_flip HFL.out]
              constructor
              · rintro ⟨h1, h2⟩
                have h3 : lea (BG n st tl) u = lea (BG n st tl) k := lea_eq HE.out (show Bo _ u k from ⟨h2, h1⟩)
                rw [h3]; exact HLK.out
              · intro h
                have h3 : BG n st tl u k := (lea_iff HE.out).1 (by rw [h]; exact HLK.out.symm)
                exact ⟨h3.2, h3.1⟩
            clear hk2 hc2 hr2 hb9 HQ8 HK1 HRR1 HR2 p0 p1 p2 p3
            go_wp2_with fail
            go_loopw [14] (fun t wr => ∃ j : Nat, j ≤ n ∧ t = .int .i64 j ∧ QP w6 wr A (tab n (rpF (BG n st tl) k j)) ∧ BArr wr C1 (btab n K1) ∧ BArr wr C2 (btab n K2)) (fun t _ => n - (RowKit.intOf t).toNat)
            case atStart => exact ⟨0, Nat.zero_le _, rfl, HQ9.out, HK19.out, HK2.out⟩
            case round =>
              obtain ⟨j, hj, rfl, hq, hb1, hb2⟩ := hrel
              have HQJ := hide hq; have HBJ1 := hide hb1; have HBJ2 := hide hb2
              clear hq hb1 hb2 HQ9 HK19 HK2
              obtain ⟨p0, _, _, _⟩ := HC0.out _ HQJ.out.bel
              have hjm : (j : Int) + 1 ≤ 9223372036854775807 := by omega
              by_cases hjn : j < n
              · have d1 := HBJ1.out.cell j hjn
                have d2 := HBJ2.out.cell j hjn
                have y0 := HQJ.out.arr.cell j (by rw [tab_length]; exact hjn)
                have yf := HQJ.out.arr.free j
                have hkk := HKK.out j hjn
                cases h1 : K1 j with
                | false =>
                  rw [h1] at d1 hkk
                  have HN : Hid (QP w6 wr A (tab n (rpF (BG n st tl) k (j + 1)))) := by
                    have := HQJ.out; rw [rp_skip (fun h => by simpa using hkk.2 h)] at this; exact this
                  clear hkk h1
                  go_wp2_with fail
                  go_roundw
                  case rel => exact ⟨j + 1, Nat.succ_le_of_lt hjn, by go_num, HN.out, HBJ1.out, HBJ2.out⟩
                  case measure => exact mdec hjn
                | true =>
                  rw [h1] at d1 hkk
                  cases h2 : K2 j with
                  | false =>
                    rw [h2] at d2 hkk
                    have HN : Hid (QP w6 wr A (tab n (rpF (BG n st tl) k (j + 1)))) := by
                      have := HQJ.out; rw [rp_skip (fun h => by simpa using hkk.2 h)] at this; exact this
                    clear hkk h1 h2
                    go_wp2_with fail
                    go_roundw
                    case rel => exact ⟨j + 1, Nat.succ_le_of_lt hjn, by go_num, HN.out, HBJ1.out, HBJ2.out⟩
                    case measure => exact mdec hjn
                  | true =>
                    rw [h2] at d2 hkk
                    have hlj : lea (BG n st tl) j = k := hkk.1 rfl
                    have hne1 : C1 ≠ A := by have := HCA1.out; omega
                    have hne2 : C2 ≠ A := by have := HCA2.out; omega
                    have hnum : (numb (BG n st tl) j : Int) = (cx : Int) := by rw [HCX.out]; unfold numb; rw [hlj]
                    have HN : Hid (QP w6 (wr.setCell ⟨A, j, none⟩ (.int .i64 (cx : Int))) A (tab n (rpF (BG n st tl) k (j + 1)))) := by
                      have := HQJ.out.set j (cx : Int)
                      rw [← hnum, rp_set hlj, hnum] at this
                      exact this
                    have HN1 : Hid (BArr (wr.setCell ⟨A, j, none⟩ (.int .i64 (cx : Int))) C1 (btab n K1)) := (Below.heap_setCell _ _ _ _ (by show C1 ≠ A; exact hne1)).trans HBJ1.out
                    have HN2 : Hid (BArr (wr.setCell ⟨A, j, none⟩ (.int .i64 (cx : Int))) C2 (btab n K2)) := (Below.heap_setCell _ _ _ _ (by show C2 ≠ A; exact hne2)).trans HBJ2.out
                    clear hkk h1 h2 hlj hnum hne1 hne2
                    go_wp2_with fail
                    go_roundw
                    case rel => exact ⟨j + 1, Nat.succ_le_of_lt hjn, by go_num, HN.out, HN1.out, HN2.out⟩
                    case measure => exact mdec hjn
              · have HN : Hid (QP w6 wr A (tab n (rpF (BG n st tl) (k + 1) 0))) := by
                  have := HQJ.out
                  rw [show j = n by omega, rp_next] at this
                  exact this
                have hcm : (cx : Int) + 1 ≤ 9223372036854775807 := by omega
                clear hj
                go_wp2_with fail
                refine ⟨⟨k + 1, Nat.succ_le_of_lt hlt, by go_num, by rw [HCS.out]; go_num, HN.out⟩, mdec hlt⟩
          · have hv : rpF (BG n st tl) k 0 k = (numb (BG n st tl) k : Int) := by unfold rpF; rw [if_pos (by omega)]
            rw [hv] at y0
            have HCS : Hid (cntL (BG n st tl) (k + 1) = cntL (BG n st tl) k) := by show _ = _; rw [cntL_succ, if_neg hl]; rfl
            have HQ4 : Hid (QP w6 wr A (tab n (rpF (BG n st tl) (k + 1) 0))) := by have := HQR.out; rw [rp_old HE.out hl] at this; exact this
            generalize numb (BG n st tl) k = nx2 at y0 hv
            generalize cntL (BG n st tl) k = cx at HCS hcl ⊢
            clear hv hl hle hcl
            go_wp2_with fail
            refine ⟨⟨k + 1, Nat.succ_le_of_lt hlt, by go_num, by rw [HCS.out], HQ4.out⟩, mdec hlt⟩
        · have HRW : Hid (RowAt .i64 wr (.slice (some ⟨A, 0, none⟩) n n) (tab n (fun v => (numb (BG n st tl) v : Int)))) := by
            have h1 := HQR.out.arr
            rw [tab_congr (h := fun v => (numb (BG n st tl) v : Int)) (fun v hv => by unfold rpF; rw [if_pos (by have := (lea_spec HE.out v).1; omega)])] at h1
            exact h1.row (tab_length _ _) (by omega)
          generalize cntL (BG n st tl) k = cx
          go_wp2_with fail
          go_ret2
          exact ⟨_, rfl, HRW.out, below_on HB3.out HQR.out.bel⟩
end Go.Proofs.Yteblkbneghbcbaa
