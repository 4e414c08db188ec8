/- The reference's ShowGr. -/
import Derived.Test.YtmejgjhijdcahaaDoorRp
namespace Go.Proofs.YtmejgjhijdcahaaDoor
open Go.Shelf Go.RowKit Go.Sort Go.Lib
set_option linter.unusedVariables false
set_option linter.unusedSimpArgs false
def Weighed (l : List Eg) : Prop := ∀ (i : Nat) (x : Eg), l[i]? = some x → 0 ≤ x.w ∧ x.w < 18446744073709551616
theorem ee_len {N : Int} {l : List Eg} {k : Nat} (hN : N ≤ 1048576) (hw : Weighed l) (hk : k ≤ l.length) (h : okN eg0 (vdE N) l k) : (tx eg0 itE l k).length ≤ k * 80 := by
  refine tx_len2 eg0 itE k fun i hi => ?_
  have hv := h i hi
  obtain ⟨w0, w1⟩ := hw i _ (aAt_get eg0 (show i < l.length by omega))
  unfold vdE at hv
  split at hv
  · rename_i hr
    obtain ⟨m, hm⟩ : ∃ m : Nat, (aAt eg0 l i).f = (m : Int) := ⟨(aAt eg0 l i).f.toNat, by omega⟩
    obtain ⟨m2, hm2⟩ : ∃ m : Nat, (aAt eg0 l i).t = (m : Int) := ⟨(aAt eg0 l i).t.toNat, by omega⟩
    have := vx_len m (by omega)
    have := vx_len m2 (by omega)
    have : (ct (aAt eg0 l i).w).length ≤ 20 := dec_len (by omega)
    unfold itE lineW; rw [hm, hm2]; simp; omega
  · cases hv
theorem fresh_heap (w : World) (o : Obj) : (w.alloc o).heap[w.heap.size]? = some o := by
  show (w.heap.push o)[w.heap.size]? = _
  simp
set_option maxHeartbeats 2000000 in
set_option maxRecDepth 100000 in
theorem refE_big (N : Int) (v : Value) (l : List Eg) (w : World) (h : RAt Eg.arr 3 w v l) (hb : N < 0 ∨ 1048576 < N ∨ 4194304 < l.length) : Calls Tryd.prog 5 #[.agg #[.int .i64 N, v]] w fun e w' => e = .returned (.tuple #[.string ⟨#[]⟩, .int .i64 22]) ∧ Below w.heap.size w w' := by
  obtain ⟨ao, cap, rfl, hc1, hc2⟩ := h.shape
  clear h hc1 hc2
  obtain ⟨n, hn⟩ : ∃ n, n = l.length := ⟨_, rfl⟩
  rw [← hn] at hb ⊢
  clear hn
  have hw : Hid (Below w.heap.size w (w.alloc (.cells #[.int .i64 N, .slice ao n cap] 24))) := (Below.refl _ w).alloc (Nat.le_refl _) _
  by_cases h1 : N < 0
  · clear hb
    go_enter Tryd.func5, Tryd.ntmps5
    go_wp2
    go_ret2
    exact ⟨rfl, hw.out⟩
  · by_cases h2 : 1048576 < N
    · clear hb
      go_enter Tryd.func5, Tryd.ntmps5
      go_wp2
      go_ret2
      exact ⟨rfl, hw.out⟩
    · have h3 : (4194304 : Int) < (n : Int) := by omega
      clear hb
      go_enter Tryd.func5, Tryd.ntmps5
      go_wp2
      go_ret2
      exact ⟨rfl, hw.out⟩
set_option maxHeartbeats 4000000 in
set_option maxRecDepth 100000 in
theorem refE_any (M : Nat) (hM : M ≤ 1048576) (v : Value) (l : List Eg) (w : World) (h : RAt Eg.arr 3 w v l) (hb : l.length ≤ 4194304) (hra : Weighed l) : Calls Tryd.prog 5 #[.agg #[.int .i64 (M : Int), v]] w fun e w' => e = .returned (.tuple #[.string (gS eg0 itE (vdE (M : Int)) (lineW pSp [ct (M : Int), ct (l.length : Int)]) l), .int .i64 (gE eg0 (vdE (M : Int)) l)]) ∧ Below w.heap.size w w' := by
  obtain ⟨ao, cap, rfl, hc1, hc2⟩ := h.shape
  have HA := hide (fun i hi => h.at i hi)
  clear h
  obtain ⟨n, hn⟩ : ∃ n, n = l.length := ⟨_, rfl⟩
  have HN := hide hn
  rw [← hn] at hb hc1 ⊢
  have hbi : ¬ (4194304 : Int) < (n : Int) := by omega
  have hMi : ¬ (1048576 : Int) < (M : Int) := by omega
  have hM0 : ¬ (M : Int) < 0 := by omega
  have hcl := ct_len n (by omega)
  have hcM := ct_len M (by omega)
  obtain ⟨C1, a1, e1⟩ := add_let (A := ⟨#[112, 32, 115, 112, 32]⟩) (pSp ++ [32]) (ct (M : Int)) rfl rfl (by simp [pSp]; omega)
  obtain ⟨C2, a2, e2⟩ := add_let (B := ⟨#[32]⟩) (pSp ++ [32] ++ ct (M : Int)) [32] e1 rfl (by simp [pSp]; omega)
  obtain ⟨C3, a3, e3⟩ := add_let (pSp ++ [32] ++ ct (M : Int) ++ [32]) (ct (n : Int)) e2 rfl (by simp [pSp]; omega)
  obtain ⟨C4, a4, e4⟩ := add_let (B := ⟨#[10]⟩) (pSp ++ [32] ++ ct (M : Int) ++ [32] ++ ct (n : Int)) [10] e3 rfl (by simp [pSp]; omega)
  have HH : Hid (C4 = bs (lineW pSp [ct (M : Int), ct (n : Int)])) := by rw [e4]; unfold lineW; simp [hide]
  have HB := hide hb; have HC := hide hc2; have HC1 := hide hc1; have HRA := hide hra; have HM := hide hM
  have hnew := fresh_heap w (.cells #[.int .i64 (M : Int), .slice ao n cap] 24)
  have hb0 : Below w.heap.size w (w.alloc (.cells #[.int .i64 (M : Int), .slice ao n cap] 24)) := (Below.refl _ w).alloc (Nat.le_refl _) _
  have HB0 := hide hb0
  have c0 : (w.alloc (.cells #[.int .i64 (M : Int), .slice ao n cap] 24)).cell? ⟨w.heap.size, 0, none⟩ = some (.int .i64 (M : Int)) := by rw [Lib.cell_of_heap hnew]; rfl
  have c1 : (w.alloc (.cells #[.int .i64 (M : Int), .slice ao n cap] 24)).cell? ⟨w.heap.size, 1, none⟩ = some (.slice ao n cap) := by rw [Lib.cell_of_heap hnew]; rfl
  clear hn hb hc1 hc2 hcl hcM e1 e2 e3 e4 hra hM hnew hb0
  go_enter Tryd.func5, Tryd.ntmps5
  go_wp2_with fail
  have hbx : w.heap.size < (w.alloc (.cells #[.int .i64 (M : Int), .slice ao n cap] 24)).heap.size := by simp
  generalize (w.alloc (.cells #[.int .i64 (M : Int), .slice ao n cap] 24)) = w0 at c0 c1 HB0 hbx ⊢
  have HNu : Hid (∀ x : GW w0, Calls Tryd.prog 24 #[.int .i64 (M : Int)] x.world fun e w'' => e = .returned (.string (bs (ct (M : Int)))) ∧ ∃ y : GW w0, w'' = y.world) := fun x => gw_same (number_any M (by have := HM.out; omega) _)
  have HNv : Hid (∀ x : GW w0, Calls Tryd.prog 24 #[.int .i64 (n : Int)] x.world fun e w'' => e = .returned (.string (bs (ct (n : Int)))) ∧ ∃ y : GW w0, w'' = y.world) := fun x => gw_same (number_any n (by have := HB.out; omega) _)
  have y0 := gw_cell c0
  have y1 := gw_cell c1
  refine wp_region_gw (by kernel_rfl) (by kernel_rfl) ?_
  repeat (go_big_quiet_step (first
    | (go_at_call_of 24 (Value.int .i64 (M : Int)); exact HNu.out _)
    | (go_at_call_of 24 (Value.int .i64 (n : Int)); exact HNv.out _)
    | rfl))
  refine wpQuiet_nil ?_
  intro _ hw'
  obtain ⟨x, hw''⟩ := hw'
  subst hw''
  have HB1 : Hid (Below w0.heap.size w0 x.world) := x.bel
  clear y0 y1 HNu HNv a1 a2 a3 a4
  generalize x.world = w1 at HB1 ⊢
  go_wp2_with fail
  go_loopw [4, 5] (fun s t wr => ∃ k : Nat, k ≤ n ∧ t = .int .i64 k ∧ s = .string (bs (lineW pSp [ct (M : Int), ct (n : Int)] ++ tx eg0 itE l k)) ∧ okN eg0 (vdE (M : Int)) l k ∧ Below w0.heap.size w0 wr) (fun _ t _ => n - (RowKit.intOf t).toNat)
  case atStart => exact ⟨0, by omega, rfl, by rw [HH.out]; simp [tx], fun i hi => by omega, HB1.out⟩
  case round =>
    obtain ⟨k, hk, rfl, rfl, hok, hbel⟩ := hrel
    have HO := hide hok; have HBL := hide hbel
    have d0 : wr.cell? ⟨w.heap.size, 0, none⟩ = some (.int .i64 (M : Int)) := (below_cell hbel hbx).trans c0
    have d1 : wr.cell? ⟨w.heap.size, 1, none⟩ = some (.slice ao n cap) := (below_cell hbel hbx).trans c1
    have hne : w.heap.size ≠ wr.heap.size := by have := hbel.size; omega
    clear hok HH hbel
    by_cases hlt : k < n
    · obtain ⟨g, o, rfl, hg, hcell⟩ := HA.out k (by have := HN.out; omega)
      obtain ⟨⟨ef, et, ew⟩, hp⟩ : ∃ p, p = aAt eg0 l k := ⟨_, rfl⟩
      have hget : l[k]'(by have := HN.out; omega) = ⟨ef, et, ew⟩ := by
        rw [hp]; simp [aAt, List.getElem?_eq_getElem (show k < l.length by have := HN.out; omega)]
      rw [hget] at hcell
      have cg : ∀ i v, w.cell? ⟨g, i, none⟩ = some v → wr.cell? ⟨g, i, none⟩ = some v := fun i v hv => (below_cell (HB0.out.trans (HBL.out.mono HB0.out.size)) hg).trans hv
      have x0 : wr.cell? ⟨g, o + k * 3, none⟩ = some (.int .i64 ef) := cg _ _ (hcell 0 _ rfl)
      have x1 : wr.cell? ⟨g, o + k * 3 + 1, none⟩ = some (.int .i64 et) := cg _ _ (hcell 1 _ rfl)
      have x2 : wr.cell? ⟨g, o + k * 3 + 2, none⟩ = some (.int .u64 ew) := cg _ _ (hcell 2 _ rfl)
      have hkm : (k : Int) + 1 ≤ 9223372036854775807 := by have := HB.out; omega
      have hkc : (k : Int) < cap := by have := HC1.out; omega
      have hew : 0 ≤ ew ∧ ew < 18446744073709551616 := by
        have := HRA.out k _ (aAt_get eg0 (show k < l.length by have := HN.out; omega))
        rw [← hp] at this
        exact this
      have HW := hide hew
      have d0' : (wr.alloc (.cells #[.int .i64 ef, .int .i64 et, .int .u64 ew] 30)).cell? ⟨w.heap.size, 0, none⟩ = some (.int .i64 (M : Int)) := Lib.cell?_alloc_some _ d0
      have HE : Hid (Below w.heap.size w (wr.alloc (.cells #[.int .i64 ef, .int .i64 et, .int .u64 ew] 30))) := ((HB0.out.trans (HBL.out.mono HB0.out.size))).alloc (Nat.le_trans HB0.out.size HBL.out.size) _
      have HE0 : Hid (Below w0.heap.size w0 (wr.alloc (.cells #[.int .i64 ef, .int .i64 et, .int .u64 ew] 30))) := HBL.out.alloc HBL.out.size _
      clear hcell hget cg hew c0 c1
      by_cases hv : 0 ≤ ef ∧ ef < (M : Int) ∧ 0 ≤ et ∧ et < (M : Int)
      · obtain ⟨hv1, hv2, hv3, hv4⟩ := hv
        have hn1 : ¬ ef < 0 := by omega
        have hn2 : ¬ (M : Int) ≤ ef := by omega
        have hn3 : ¬ et < 0 := by omega
        have hn4 : ¬ (M : Int) ≤ et := by omega
        by_cases hww : 4294967295 < ew
        · have hvd : vdE (M : Int) (aAt eg0 l k) = 31 := by rw [← hp]; unfold vdE; rw [if_pos ⟨hv1, hv2, hv3, hv4⟩, if_pos hww]
          have hb := g_bad eg0 itE (vdE (M : Int)) (hd := lineW pSp [ct (M : Int), ct (n : Int)]) (show k < l.length by have := HN.out; omega) (by rw [hvd]; decide) HO.out
          rw [hvd] at hb
          have HBd := hide hb
          clear hb hvd hp hv1 hv2 hv3 hv4
          generalize bs (lineW pSp [ct (M : Int), ct (n : Int)] ++ tx eg0 itE l k) = S0
          go_wp2_with fail
          go_ret2
          rw [HBd.out.1, HBd.out.2]
          exact ⟨rfl, HE.out⟩
        · obtain ⟨m, rfl⟩ := Int.eq_ofNat_of_zero_le hv1
          obtain ⟨q, rfl⟩ := Int.eq_ofNat_of_zero_le hv3
          obtain ⟨z, rfl⟩ := Int.eq_ofNat_of_zero_le HW.out.1
          have hvd : vdE (M : Int) (aAt eg0 l k) = 0 := by rw [← hp]; unfold vdE; rw [if_pos ⟨hv1, hv2, hv3, hv4⟩, if_neg hww]
          have hit : itE k (aAt eg0 l k) = [97, 32] ++ vx (m : Int) ++ [32] ++ vx (q : Int) ++ [32] ++ ct (z : Int) ++ [10] := by rw [← hp]; unfold itE lineW; simp
          have hmM := HM.out
          have hlen : (lineW pSp [ct (M : Int), ct (n : Int)] ++ tx eg0 itE l k).length ≤ 1000000000 := by
            have h1 := ee_len (by omega) HRA.out (show k ≤ l.length by have := HN.out; omega) HO.out; have h2 := ct_len n (by have := HB.out; omega); have h3 := ct_len M (by omega); have := HB.out
            rw [List.length_append]; unfold lineW; simp [pSp]; omega
          have hvl := vx_len m (by omega)
          have hvl2 := vx_len q (by omega)
          have hvl3 := ct_len z (by omega)
          have hUm := fun W => up_any m (by omega) W
          have hUq := fun W => up_any q (by omega) W
          have hUz : ∀ W, Calls Tryd.prog 26 #[.int .u64 (z : Int)] W fun e w' => e = .returned (.string (bs (ct (z : Int)))) ∧ w' = W := fun W => rdec_any z (by omega) W
          obtain ⟨S0, hS0⟩ : ∃ S0, S0 = lineW pSp [ct (M : Int), ct (n : Int)] ++ tx eg0 itE l k := ⟨_, rfl⟩
          rw [← hS0] at hlen
          obtain ⟨S1, a1, e1⟩ := add_let (A := bs S0) (B := ⟨#[97, 32]⟩) S0 [97, 32] rfl rfl (by simp only [List.length_cons, List.length_nil]; omega)
          obtain ⟨S2, a2, e2⟩ := add_let (B := bs (vx (m : Int))) (S0 ++ [97, 32]) (vx (m : Int)) e1 rfl (by simp only [List.length_append, List.length_cons, List.length_nil]; omega)
          obtain ⟨S3, a3, e3⟩ := add_let (B := ⟨#[32]⟩) (S0 ++ [97, 32] ++ vx (m : Int)) [32] e2 rfl (by simp only [List.length_append, List.length_cons, List.length_nil]; omega)
          obtain ⟨S4, a4, e4⟩ := add_let (B := bs (vx (q : Int))) (S0 ++ [97, 32] ++ vx (m : Int) ++ [32]) (vx (q : Int)) e3 rfl (by simp only [List.length_append, List.length_cons, List.length_nil]; omega)
          obtain ⟨S5, a5, e5⟩ := add_let (B := ⟨#[32]⟩) (S0 ++ [97, 32] ++ vx (m : Int) ++ [32] ++ vx (q : Int)) [32] e4 rfl (by simp only [List.length_append, List.length_cons, List.length_nil]; omega)
          obtain ⟨S6, a6, e6⟩ := add_let (B := bs (ct (z : Int))) (S0 ++ [97, 32] ++ vx (m : Int) ++ [32] ++ vx (q : Int) ++ [32]) (ct (z : Int)) e5 rfl (by simp only [List.length_append, List.length_cons, List.length_nil]; omega)
          obtain ⟨S7, a7, e7⟩ := add_let (B := ⟨#[10]⟩) (S0 ++ [97, 32] ++ vx (m : Int) ++ [32] ++ vx (q : Int) ++ [32] ++ ct (z : Int)) [10] e6 rfl (by simp only [List.length_append, List.length_cons, List.length_nil]; omega)
          have HS7 : Hid (S7 = bs (lineW pSp [ct (M : Int), ct (n : Int)] ++ tx eg0 itE l (k + 1))) := by
            rw [e7, tx, hit, hS0]
            refine hide ?_
            simp only [List.append_assoc]
          rw [← hS0]
          have HVD := hide hvd; have HUm := hide hUm; have HUq := hide hUq; have HUz := hide hUz
          have hf := fresh_heap wr (.cells #[.int .i64 (m : Int), .int .i64 (q : Int), .int .u64 (z : Int)] 30)
          have z0 : (wr.alloc (.cells #[.int .i64 (m : Int), .int .i64 (q : Int), .int .u64 (z : Int)] 30)).cell? ⟨wr.heap.size, 0, none⟩ = some (.int .i64 (m : Int)) := by rw [Lib.cell_of_heap hf]; rfl
          have z1 : (wr.alloc (.cells #[.int .i64 (m : Int), .int .i64 (q : Int), .int .u64 (z : Int)] 30)).cell? ⟨wr.heap.size, 1, none⟩ = some (.int .i64 (q : Int)) := by rw [Lib.cell_of_heap hf]; rfl
          have z2 : (wr.alloc (.cells #[.int .i64 (m : Int), .int .i64 (q : Int), .int .u64 (z : Int)] 30)).cell? ⟨wr.heap.size, 2, none⟩ = some (.int .u64 (z : Int)) := by rw [Lib.cell_of_heap hf]; rfl
          clear hv1 hv2 hv3 hv4 hvd hit hlen hvl hvl2 hvl3 e1 e2 e3 e4 e5 e6 e7 hp hS0 hmM hUm hUq hUz hf
          generalize bs S0 = Z0 at a1 ⊢
          go_wp2_with fail
          have y0 := gw_cell z0
          have y1 := gw_cell z1
          have y2 := gw_cell z2
          clear z0 z1 z2 x0 x1 x2 d0 d1 d0'
          generalize (wr.alloc (.cells #[.int .i64 (m : Int), .int .i64 (q : Int), .int .u64 (z : Int)] 30)) = W9 at HE HE0 y0 y1 y2 ⊢
          refine wp_region_gw (by kernel_rfl) (by kernel_rfl) ?_
          repeat (go_big_quiet_step (first
            | (go_at_call_of 25 (Value.int .i64 (m : Int)); exact gw_same (HUm.out _))
            | (go_at_call_of 25 (Value.int .i64 (q : Int)); exact gw_same (HUq.out _))
            | (go_at_call 26; exact gw_same (HUz.out _))
            | rfl))
          refine wpQuiet_nil ?_
          intro _ hw'
          obtain ⟨x, hw''⟩ := hw'
          subst hw''
          go_wp2_with fail
          go_roundw
          case rel => exact ⟨k + 1, by omega, by go_num, by rw [HS7.out], okN_next eg0 (vdE (M : Int)) HO.out HVD.out, HE0.out.trans (x.bel.mono HE0.out.size)⟩
          case measure => simp [RowKit.intOf]; omega
      · have hvd : vdE (M : Int) (aAt eg0 l k) = 30 := by rw [← hp]; unfold vdE; rw [if_neg hv]
        have hb := g_bad eg0 itE (vdE (M : Int)) (hd := lineW pSp [ct (M : Int), ct (n : Int)]) (show k < l.length by have := HN.out; omega) (by rw [hvd]; decide) HO.out
        rw [hvd] at hb
        have HBd := hide hb
        clear hb hvd hp
        generalize bs (lineW pSp [ct (M : Int), ct (n : Int)] ++ tx eg0 itE l k) = S0
        by_cases h1 : ef < 0
        · clear hv
          go_wp2_with fail
          go_ret2
          rw [HBd.out.1, HBd.out.2]
          exact ⟨rfl, HE.out⟩
        · by_cases h2 : (M : Int) ≤ ef
          · clear hv
            go_wp2_with fail
            go_ret2
            rw [HBd.out.1, HBd.out.2]
            exact ⟨rfl, HE.out⟩
          · by_cases h3 : et < 0
            · clear hv
              go_wp2_with fail
              go_ret2
              rw [HBd.out.1, HBd.out.2]
              exact ⟨rfl, HE.out⟩
            · have h4 : (M : Int) ≤ et := by omega
              clear hv
              go_wp2_with fail
              go_ret2
              rw [HBd.out.1, HBd.out.2]
              exact ⟨rfl, HE.out⟩
    · have hkn : k = n := by omega
      subst hkn
      have hb := g_good eg0 itE (vdE (M : Int)) (hd := lineW pSp [ct (M : Int), ct (k : Int)]) (l := l) (by have := HN.out; rw [← this]; exact HO.out)
      rw [← HN.out] at hb
      have HBd := hide hb
      clear hb
      go_wp2_with fail
      go_ret2
      rw [HBd.out.1, HBd.out.2]
      exact ⟨rfl, HB0.out.trans (HBL.out.mono HB0.out.size)⟩
end Go.Proofs.YtmejgjhijdcahaaDoor
