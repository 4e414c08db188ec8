/- The reference's ShowPairs. -/
import Derived.Test.YtmejgjhijdcahaaDoorRs
namespace Go.Proofs.YtmejgjhijdcahaaDoor
open Go.Shelf Go.RowKit Go.Sort Go.Lib
set_option linter.unusedVariables false
set_option linter.unusedSimpArgs false
theorem gw_same {w8 : World} {x : GW w8} {f : FuncId} {args : Array Value} {v : Value} (h : Calls Tryd.prog f args x.world fun e w' => e = .returned v ∧ w' = x.world) :
    Calls Tryd.prog f args x.world fun e w'' => e = .returned v ∧ ∃ y : GW w8, w'' = y.world :=
  h.mono fun _ _ ⟨he, hb⟩ => ⟨he, x, hb⟩
theorem qq_len {l : List Pt} {k : Nat} (h : okN pt0 vdQ l k) : (tx pt0 itQ l k).length ≤ k * 60 := by
  refine tx_len2 pt0 itQ k fun i hi => ?_
  have hv := h i hi
  unfold vdQ at hv
  split at hv
  · rename_i hr
    obtain ⟨m, hm⟩ : ∃ m : Nat, (aAt pt0 l i).x = (m : Int) := ⟨(aAt pt0 l i).x.toNat, by omega⟩
    obtain ⟨m2, hm2⟩ : ∃ m : Nat, (aAt pt0 l i).y = (m : Int) := ⟨(aAt pt0 l i).y.toNat, by omega⟩
    have := vx_len m (by omega)
    have := vx_len m2 (by omega)
    unfold itQ lineW; rw [hm, hm2]; simp; omega
  · cases hv
set_option maxHeartbeats 2000000 in
set_option maxRecDepth 100000 in
theorem refQ_big (v : Value) (l : List Pt) (w : World) (h : RAt Pt.arr 2 w v l) (hb : 4194304 < l.length) : Calls Tryd.prog 12 #[v] w fun e w' => e = .returned (.tuple #[.string ⟨#[]⟩, .int .i64 22]) ∧ Below w.heap.size w w' := by
  obtain ⟨ao, cap, rfl, hc1, hc2⟩ := h.shape
  clear h hc1 hc2
  obtain ⟨n, hn⟩ : ∃ n, n = l.length := ⟨_, rfl⟩
  rw [← hn] at hb ⊢
  have hbi : (4194304 : Int) < (n : Int) := by omega
  clear hb hn
  go_enter Tryd.func12, Tryd.ntmps12
  go_wp2
  go_ret2
  exact ⟨rfl, Below.refl _ _⟩
set_option maxHeartbeats 2000000 in
set_option maxRecDepth 100000 in
theorem refQ_any (v : Value) (l : List Pt) (w : World) (h : RAt Pt.arr 2 w v l) (hb : l.length ≤ 4194304) : Calls Tryd.prog 12 #[v] w fun e w' => e = .returned (.tuple #[.string (gS pt0 itQ vdQ (lineW pPp [ct (l.length : Int)]) l), .int .i64 (gE pt0 vdQ l)]) ∧ Below w.heap.size w w' := by
  obtain ⟨ao, cap, rfl, hc1, hc2⟩ := h.shape
  have HA := hide (fun i hi => h.at i hi)
  clear h
  obtain ⟨n, hn⟩ : ∃ n, n = l.length := ⟨_, rfl⟩
  have HN := hide hn
  rw [← hn] at hb hc1 ⊢
  have hbi : ¬ (4194304 : Int) < (n : Int) := by omega
  have hcl := ct_len n (by omega)
  obtain ⟨C1, a1, e1⟩ := add_let (A := ⟨#[112, 32, 97, 117, 120, 32, 115, 112, 32, 112, 50, 112, 32]⟩) (pPp ++ [32]) (ct (n : Int)) rfl rfl (by simp [pPp]; omega)
  obtain ⟨C2, a2, e2⟩ := add_let (B := ⟨#[10]⟩) (pPp ++ [32] ++ ct (n : Int)) [10] e1 rfl (by simp [pPp]; omega)
  have HH : Hid (C2 = bs (lineW pPp [ct (n : Int)])) := by rw [e2]; unfold lineW; simp [hide]
  have HB := hide hb; have HC := hide hc2; have HC1 := hide hc1
  have HNu := hide (number_any n (by omega) w)
  clear hn hb hc1 hc2 hcl e1 e2
  go_enter Tryd.func12, Tryd.ntmps12
  go_wp2_with (first
    | (go_at_call 24; refine HNu.out.mono ?_; rintro e w' ⟨rfl, hww⟩; have hww2 := hww.symm; subst hww2; clear hww)
    | fail)
  go_loopw [4, 5] (fun s t wr => ∃ k : Nat, k ≤ n ∧ t = .int .i64 k ∧ s = .string (bs (lineW pPp [ct (n : Int)] ++ tx pt0 itQ l k)) ∧ okN pt0 vdQ l k ∧ Below w.heap.size w wr) (fun _ t _ => n - (RowKit.intOf t).toNat)
  case atStart => exact ⟨0, by omega, rfl, by rw [HH.out]; simp [tx], fun i hi => by omega, Below.refl _ _⟩
  case round =>
    obtain ⟨k, hk, rfl, rfl, hok, hbel⟩ := hrel
    have HO := hide hok; have HBL := hide hbel
    clear hok a1 a2 HH hbel
    by_cases hlt : k < n
    · obtain ⟨g, o, rfl, hg, hcell⟩ := HA.out k (by have := HN.out; omega)
      obtain ⟨⟨px, py⟩, hp⟩ : ∃ p, p = aAt pt0 l k := ⟨_, rfl⟩
      have hget : l[k]'(by have := HN.out; omega) = ⟨px, py⟩ := by
        rw [hp]; simp [aAt, List.getElem?_eq_getElem (show k < l.length by have := HN.out; omega)]
      rw [hget] at hcell
      have x0 : wr.cell? ⟨g, o + k * 2, none⟩ = some (.int .i64 px) := (below_cell HBL.out hg).trans (hcell 0 _ rfl)
      have x1 : wr.cell? ⟨g, o + k * 2 + 1, none⟩ = some (.int .i64 py) := (below_cell HBL.out hg).trans (hcell 1 _ rfl)
      have hkm : (k : Int) + 1 ≤ 9223372036854775807 := by have := HB.out; omega
      have hkc : (k : Int) < cap := by have := HC1.out; omega
      clear hcell hget
      by_cases hv : 0 ≤ px ∧ px < 1048576 ∧ 0 ≤ py ∧ py < 1048576
      · obtain ⟨m, rfl⟩ := Int.eq_ofNat_of_zero_le hv.1
        obtain ⟨q, rfl⟩ := Int.eq_ofNat_of_zero_le hv.2.2.1
        have hvd : vdQ (aAt pt0 l k) = 0 := by rw [← hp]; unfold vdQ; rw [if_pos hv]
        have hit : itQ k (aAt pt0 l k) = [113, 32] ++ vx (m : Int) ++ [32] ++ vx (q : Int) ++ [10] := by rw [← hp]; unfold itQ lineW; simp
        have hR := refVertex_any (m : Int) wr
        rw [show decide (0 ≤ (m : Int) ∧ (m : Int) < 1048576) = true by simp; omega] at hR
        have hR2 := refVertex_any (q : Int) wr
        rw [show decide (0 ≤ (q : Int) ∧ (q : Int) < 1048576) = true by simp; omega] at hR2
        have HR := hide hR; have HR2 := hide hR2
        have HU : Hid (∀ x : GW wr, Calls Tryd.prog 25 #[.int .i64 (m : Int)] x.world fun e w'' => e = .returned (.string (bs (vx (m : Int)))) ∧ ∃ y : GW wr, w'' = y.world) := fun x => gw_same (up_any m (by omega) _)
        have HU2 : Hid (∀ x : GW wr, Calls Tryd.prog 25 #[.int .i64 (q : Int)] x.world fun e w'' => e = .returned (.string (bs (vx (q : Int)))) ∧ ∃ y : GW wr, w'' = y.world) := fun x => gw_same (up_any q (by omega) _)
        have hlen : (lineW pPp [ct (n : Int)] ++ tx pt0 itQ l k).length ≤ 1000000000 := by
          have h1 := qq_len HO.out; have h2 := ct_len n (by have := HB.out; omega); have := HB.out
          rw [List.length_append]; unfold lineW; simp [pPp]; omega
        have hvl := vx_len m (by omega)
        have hvl2 := vx_len q (by omega)
        obtain ⟨S0, hS0⟩ : ∃ S0, S0 = lineW pPp [ct (n : Int)] ++ tx pt0 itQ l k := ⟨_, rfl⟩
        rw [← hS0] at hlen
        obtain ⟨S1, a1, e1⟩ := add_let (A := bs S0) (B := ⟨#[113, 32]⟩) S0 [113, 32] rfl rfl (by simp only [List.length_cons, List.length_nil]; omega)
        obtain ⟨S2, a2, e2⟩ := add_let (B := bs (vx (m : Int))) (S0 ++ [113, 32]) (vx (m : Int)) e1 rfl (by simp only [List.length_append, List.length_cons, List.length_nil]; omega)
        obtain ⟨S3, a3, e3⟩ := add_let (B := ⟨#[32]⟩) (S0 ++ [113, 32] ++ vx (m : Int)) [32] e2 rfl (by simp only [List.length_append, List.length_cons, List.length_nil]; omega)
        obtain ⟨S4, a4, e4⟩ := add_let (B := bs (vx (q : Int))) (S0 ++ [113, 32] ++ vx (m : Int) ++ [32]) (vx (q : Int)) e3 rfl (by simp only [List.length_append, List.length_cons, List.length_nil]; omega)
        obtain ⟨S5, a5, e5⟩ := add_let (B := ⟨#[10]⟩) (S0 ++ [113, 32] ++ vx (m : Int) ++ [32] ++ vx (q : Int)) [10] e4 rfl (by simp only [List.length_append, List.length_cons, List.length_nil]; omega)
        have HS5 : Hid (S5 = bs (lineW pPp [ct (n : Int)] ++ tx pt0 itQ l (k + 1))) := by
          rw [e5, tx, hit, hS0]
          refine hide ?_
          simp only [List.append_assoc]
        rw [← hS0]
        have HVD := hide hvd
        have y0 := gw_cell x0
        have y1 := gw_cell x1
        clear hvd hit hR hR2 hlen hvl hvl2 e1 e2 e3 e4 e5 hv hp hS0
        generalize bs S0 = Z0 at a1 ⊢
        go_wp2_with fail
        refine HR.out.mono ?_
        rintro e w2 ⟨rfl, hww⟩; have hww2 := hww.symm; subst hww2; clear hww
        go_wp2_with fail
        refine HR2.out.mono ?_
        rintro e w2 ⟨rfl, hww⟩; have hww2 := hww.symm; subst hww2; clear hww
        go_wp2_with fail
        refine wp_region_gw (by kernel_rfl) (by kernel_rfl) ?_
        repeat (go_big_quiet_step (first
          | (go_at_call_of 25 (Value.int .i64 (m : Int)); exact HU.out _)
          | (go_at_call_of 25 (Value.int .i64 (q : Int)); exact HU2.out _)
          | rfl))
        refine wpQuiet_nil ?_
        intro _ hw'
        obtain ⟨x, hw''⟩ := hw'
        subst hw''
        go_wp2_with fail
        go_roundw
        case rel => exact ⟨k + 1, by omega, by go_num, by rw [HS5.out], okN_next pt0 vdQ HO.out HVD.out, HBL.out.trans (x.bel.mono HBL.out.size)⟩
        case measure => simp [RowKit.intOf]; omega
      · have hvd : vdQ (aAt pt0 l k) = 30 := by rw [← hp]; unfold vdQ; rw [if_neg hv]
        have hb := g_bad pt0 itQ vdQ (hd := lineW pPp [ct (n : Int)]) (show k < l.length by have := HN.out; omega) (by rw [hvd]; decide) HO.out
        rw [hvd] at hb
        have HBd := hide hb
        generalize bs (lineW pPp [ct (n : Int)] ++ tx pt0 itQ l k) = S0
        by_cases h1 : 0 ≤ px ∧ px < 1048576
        · have h2 : ¬ (0 ≤ py ∧ py < 1048576) := fun h => hv ⟨h1.1, h1.2, h.1, h.2⟩
          have HR := hide (refVertex_any px wr)
          rw [show decide (0 ≤ px ∧ px < 1048576) = true by simp only [decide_eq_true_eq]; exact h1] at HR
          have HR2 := hide (refVertex_any py wr)
          rw [show decide (0 ≤ py ∧ py < 1048576) = false by simp only [decide_eq_false_iff_not]; exact h2] at HR2
          clear hv hvd hb hp h1 h2
          go_wp2_with fail
          refine HR.out.mono ?_
          rintro e w2 ⟨rfl, hww⟩; have hww2 := hww.symm; subst hww2; clear hww
          go_wp2_with fail
          refine HR2.out.mono ?_
          rintro e w2 ⟨rfl, hww⟩; have hww2 := hww.symm; subst hww2; clear hww
          go_wp2_with fail
          go_ret2
          rw [HBd.out.1, HBd.out.2]
          exact ⟨rfl, HBL.out⟩
        · have HR := hide (refVertex_any px wr)
          rw [show decide (0 ≤ px ∧ px < 1048576) = false by simp only [decide_eq_false_iff_not]; exact h1] at HR
          clear hv hvd hb hp h1
          go_wp2_with fail
          refine HR.out.mono ?_
          rintro e w2 ⟨rfl, hww⟩; have hww2 := hww.symm; subst hww2; clear hww
          go_wp2_with fail
          go_ret2
          rw [HBd.out.1, HBd.out.2]
          exact ⟨rfl, HBL.out⟩
    · have hkn : k = n := by omega
      subst hkn
      have hb := g_good pt0 itQ vdQ (hd := lineW pPp [ct (k : Int)]) (l := l) (by have := HN.out; rw [← this]; exact HO.out)
      rw [← HN.out] at hb
      have HBd := hide hb
      clear hb
      go_wp2_with fail
      go_ret2
      rw [HBd.out.1, HBd.out.2]
      exact ⟨rfl, HBL.out⟩
end Go.Proofs.YtmejgjhijdcahaaDoor
