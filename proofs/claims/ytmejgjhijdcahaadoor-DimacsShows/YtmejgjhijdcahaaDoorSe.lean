/- ShowGr. -/
import Derived.Test.YtmejgjhijdcahaaDoorSc
import Derived.Deep.RegionWith
namespace Go.Proofs.YtmejgjhijdcahaaDoor
open Go.Shelf Go.RowKit Go.Sort Go.Lib
set_option linter.unusedVariables false
set_option linter.unusedSimpArgs false
set_option maxHeartbeats 2000000 in
set_option maxRecDepth 100000 in
theorem showE_big (N : Int) (v : Value) (l : List Eg) (w : World) (h : RAt Eg.arr 3 w v l) (hb : N < 0 ∨ 1048576 < N ∨ 4194304 < l.length) : Calls Tryd.prog 4 #[.agg #[.int .i64 N, v]] w fun e w' => e = .returned (.tuple #[.string ⟨#[]⟩, .int .i64 22]) ∧ Below w.heap.size w w' := by
  obtain ⟨ao, cap, rfl, hc1, hc2⟩ := h.shape
  clear h hc1 hc2
  obtain ⟨n, hn⟩ : ∃ n, n = l.length := ⟨_, rfl⟩
  rw [← hn] at hb ⊢
  clear hn
  have hw : Hid (Below w.heap.size w (w.alloc (.cells #[.int .i64 N, .slice ao n cap] 24))) := (Below.refl _ w).alloc (Nat.le_refl _) _
  by_cases h1 : N < 0
  · clear hb
    go_enter Tryd.func4, Tryd.ntmps4
    go_wp2
    go_ret2
    exact ⟨rfl, hw.out⟩
  · by_cases h2 : 1048576 < N
    · clear hb
      go_enter Tryd.func4, Tryd.ntmps4
      go_wp2
      go_ret2
      exact ⟨rfl, hw.out⟩
    · have h3 : (4194304 : Int) < (n : Int) := by omega
      clear hb
      go_enter Tryd.func4, Tryd.ntmps4
      go_wp2
      go_ret2
      exact ⟨rfl, hw.out⟩
set_option maxHeartbeats 4000000 in
set_option maxRecDepth 100000 in
theorem showE_any (M : Nat) (hM : M ≤ 1048576) (v : Value) (l : List Eg) (w : World) (h : RAt Eg.arr 3 w v l) (hb : l.length ≤ 4194304) (hra : Weighed l) (hp : Pow w) : Calls Tryd.prog 4 #[.agg #[.int .i64 (M : Int), v]] w fun e w' => e = .returned (.tuple #[.string (gS eg0 itE (vdE (M : Int)) (lineW pSp [ct (M : Int), ct (l.length : Int)]) l), .int .i64 (gE eg0 (vdE (M : Int)) l)]) ∧ Below w.heap.size w w' := by
  obtain ⟨ao, cap, rfl, hc1, hc2⟩ := h.shape
  have HA := hide (fun i hi => h.at i hi)
  clear h
  obtain ⟨n, hn⟩ : ∃ n, n = l.length := ⟨_, rfl⟩
  have HN := hide hn
  rw [← hn] at hb hc1 ⊢
  have hbi : ¬ (4194304 : Int) < (n : Int) := by omega
  have hMi : ¬ (1048576 : Int) < (M : Int) := by omega
  have hM0 : ¬ (M : Int) < 0 := by omega
  have HB := hide hb; have HC := hide hc2; have HC1 := hide hc1; have HRA := hide hra; have HM := hide hM; have HP := hide hp
  have hnew := fresh_heap w (.cells #[.int .i64 (M : Int), .slice ao n cap] 24)
  have hb0 : Below w.heap.size w (w.alloc (.cells #[.int .i64 (M : Int), .slice ao n cap] 24)) := (Below.refl _ w).alloc (Nat.le_refl _) _
  have HB0 := hide hb0
  have c0 : (w.alloc (.cells #[.int .i64 (M : Int), .slice ao n cap] 24)).cell? ⟨w.heap.size, 0, none⟩ = some (.int .i64 (M : Int)) := by rw [Lib.cell_of_heap hnew]; rfl
  have c1 : (w.alloc (.cells #[.int .i64 (M : Int), .slice ao n cap] 24)).cell? ⟨w.heap.size, 1, none⟩ = some (.slice ao n cap) := by rw [Lib.cell_of_heap hnew]; rfl
  clear hn hb hc1 hc2 hra hM hnew hb0 hp
  go_enter Tryd.func4, Tryd.ntmps4
  go_wp2_with fail
  have hbx : w.heap.size < (w.alloc (.cells #[.int .i64 (M : Int), .slice ao n cap] 24)).heap.size := by simp
  generalize (w.alloc (.cells #[.int .i64 (M : Int), .slice ao n cap] 24)) = w0 at c0 c1 HB0 hbx ⊢
  have HX := hide hbx; have HC0 := hide c0; have HC1' := hide c1
  clear hbx
  go_loopw [27] (fun t wr => ∃ k : Nat, k ≤ n ∧ t = .int .i64 k ∧ okN eg0 (vdE (M : Int)) l k ∧ Below w0.heap.size w0 wr) (fun t _ => n - (RowKit.intOf t).toNat)
  case atStart => exact ⟨0, by omega, rfl, fun i hi => by omega, Below.refl _ _⟩
  case round =>
    obtain ⟨k, hk, rfl, hok, hbel⟩ := hrel
    have HO := hide hok; have HBL := hide hbel
    have d0 : wr.cell? ⟨w.heap.size, 0, none⟩ = some (.int .i64 (M : Int)) := (below_cell hbel HX.out).trans HC0.out
    have d1 : wr.cell? ⟨w.heap.size, 1, none⟩ = some (.slice ao n cap) := (below_cell hbel HX.out).trans HC1'.out
    clear hok hbel c0 c1
    by_cases hlt : k < n
    · obtain ⟨g, o, rfl, hg, hcell⟩ := HA.out k (by have := HN.out; omega)
      obtain ⟨⟨ef, et, ew⟩, hp⟩ : ∃ p, p = aAt eg0 l k := ⟨_, rfl⟩
      have hget : l[k]'(by have := HN.out; omega) = ⟨ef, et, ew⟩ := by
        rw [hp]; simp [aAt, List.getElem?_eq_getElem (show k < l.length by have := HN.out; omega)]
      rw [hget] at hcell
      have cg : ∀ i v, w.cell? ⟨g, i, none⟩ = some v → wr.cell? ⟨g, i, none⟩ = some v := fun i v hv => (below_cell (HB0.out.trans (HBL.out.mono HB0.out.size)) hg).trans hv
      have x0 : wr.cell? ⟨g, o + k * 3, none⟩ = some (.int .i64 ef) := cg _ _ (hcell 0 _ rfl)
      have x1 : wr.cell? ⟨g, o + k * 3 + 1, none⟩ = some (.int .i64 et) := cg _ _ (hcell 1 _ rfl)
      have x2 : wr.cell? ⟨g, o + k * 3 + 2, none⟩ = some (.int .u64 ew) := cg _ _ (hcell 2 _ rfl)
      have hkm : (k : Int) + 1 ≤ 9223372036854775807 := by have := HB.out; omega
      have hkc : (k : Int) < cap := by have := HC1.out; omega
      have d0' : (wr.alloc (.cells #[.int .i64 ef, .int .i64 et, .int .u64 ew] 30)).cell? ⟨w.heap.size, 0, none⟩ = some (.int .i64 (M : Int)) := Lib.cell?_alloc_some _ d0
      have HE : Hid (Below w.heap.size w (wr.alloc (.cells #[.int .i64 ef, .int .i64 et, .int .u64 ew] 30))) := ((HB0.out.trans (HBL.out.mono HB0.out.size))).alloc (Nat.le_trans HB0.out.size HBL.out.size) _
      have HE0 : Hid (Below w0.heap.size w0 (wr.alloc (.cells #[.int .i64 ef, .int .i64 et, .int .u64 ew] 30))) := HBL.out.alloc HBL.out.size _
      have hf := fresh_heap wr (.cells #[.int .i64 ef, .int .i64 et, .int .u64 ew] 30)
      have z0 : (wr.alloc (.cells #[.int .i64 ef, .int .i64 et, .int .u64 ew] 30)).cell? ⟨wr.heap.size, 0, none⟩ = some (.int .i64 ef) := by rw [Lib.cell_of_heap hf]; rfl
      have z1 : (wr.alloc (.cells #[.int .i64 ef, .int .i64 et, .int .u64 ew] 30)).cell? ⟨wr.heap.size, 1, none⟩ = some (.int .i64 et) := by rw [Lib.cell_of_heap hf]; rfl
      have z2 : (wr.alloc (.cells #[.int .i64 ef, .int .i64 et, .int .u64 ew] 30)).cell? ⟨wr.heap.size, 2, none⟩ = some (.int .u64 ew) := by rw [Lib.cell_of_heap hf]; rfl
      clear hcell hget cg hf
      have HR := hide (fun W => isVertex_any (M : Int) ef W)
      have HR2 := hide (fun W => isVertex_any (M : Int) et W)
      by_cases h1 : 0 ≤ ef ∧ ef < (M : Int)
      · rw [show decide (0 ≤ ef ∧ ef < (M : Int)) = true by simp only [decide_eq_true_eq]; exact h1] at HR
        by_cases h2 : 0 ≤ et ∧ et < (M : Int)
        · rw [show decide (0 ≤ et ∧ et < (M : Int)) = true by simp only [decide_eq_true_eq]; exact h2] at HR2
          by_cases hww : 4294967295 < ew
          · have hvd : vdE (M : Int) (aAt eg0 l k) = 31 := by rw [← hp]; unfold vdE; rw [if_pos ⟨h1.1, h1.2, h2.1, h2.2⟩, if_pos hww]
            have hb := g_bad eg0 itE (vdE (M : Int)) (hd := lineW pSp [ct (M : Int), ct (n : Int)]) (show k < l.length by have := HN.out; omega) (by rw [hvd]; decide) HO.out
            rw [hvd] at hb
            have HBd := hide hb
            clear h1 h2 hp hb hvd
            go_wp2_with (first
              | (go_at_call_of 17 (Value.int .i64 ef); refine (HR.out _).mono ?_; rintro e w2 ⟨rfl, hww⟩; subst hww)
              | (go_at_call_of 17 (Value.int .i64 et); refine (HR2.out _).mono ?_; rintro e w2 ⟨rfl, hww⟩; subst hww)
              | fail)
            go_ret2
            rw [HBd.out.1, HBd.out.2]
            exact ⟨rfl, HE.out⟩
          · have HVD : Hid (vdE (M : Int) (aAt eg0 l k) = 0) := by rw [← hp]; unfold vdE; rw [if_pos ⟨h1.1, h1.2, h2.1, h2.2⟩, if_neg hww]; exact hide rfl
            have hwd : decide ((4294967295 : Int) < ew) = false := decide_eq_false hww
            clear h1 h2 hp hww
            go_wp2_with (first
              | (go_at_call_of 17 (Value.int .i64 ef); refine (HR.out _).mono ?_; rintro e w2 ⟨rfl, hww⟩; subst hww)
              | (go_at_call_of 17 (Value.int .i64 et); refine (HR2.out _).mono ?_; rintro e w2 ⟨rfl, hww⟩; subst hww)
              | fail)
            go_roundw
            case rel => exact ⟨k + 1, Nat.succ_le_of_lt hlt, by go_num, okN_next eg0 (vdE (M : Int)) HO.out HVD.out, HE0.out⟩
            case measure => exact mdec hlt
        · rw [show decide (0 ≤ et ∧ et < (M : Int)) = false by simp only [decide_eq_false_iff_not]; exact h2] at HR2
          have hvd : vdE (M : Int) (aAt eg0 l k) = 30 := by rw [← hp]; unfold vdE; rw [if_neg (fun h => h2 ⟨h.2.2.1, h.2.2.2⟩)]
          have hb := g_bad eg0 itE (vdE (M : Int)) (hd := lineW pSp [ct (M : Int), ct (n : Int)]) (show k < l.length by have := HN.out; omega) (by rw [hvd]; decide) HO.out
          rw [hvd] at hb
          have HBd := hide hb
          clear h1 h2 hp hb hvd
          go_wp2_with (first
            | (go_at_call_of 17 (Value.int .i64 ef); refine (HR.out _).mono ?_; rintro e w2 ⟨rfl, hww⟩; subst hww)
            | (go_at_call_of 17 (Value.int .i64 et); refine (HR2.out _).mono ?_; rintro e w2 ⟨rfl, hww⟩; subst hww)
            | fail)
          go_ret2
          rw [HBd.out.1, HBd.out.2]
          exact ⟨rfl, HE.out⟩
      · rw [show decide (0 ≤ ef ∧ ef < (M : Int)) = false by simp only [decide_eq_false_iff_not]; exact h1] at HR
        have hvd : vdE (M : Int) (aAt eg0 l k) = 30 := by rw [← hp]; unfold vdE; rw [if_neg (fun h => h1 ⟨h.1, h.2.1⟩)]
        have hb := g_bad eg0 itE (vdE (M : Int)) (hd := lineW pSp [ct (M : Int), ct (n : Int)]) (show k < l.length by have := HN.out; omega) (by rw [hvd]; decide) HO.out
        rw [hvd] at hb
        have HBd := hide hb
        clear h1 hp hb hvd
        go_wp2_with (first
          | (go_at_call_of 17 (Value.int .i64 ef); refine (HR.out _).mono ?_; rintro e w2 ⟨rfl, hww⟩; subst hww)
          | fail)
        go_ret2
        rw [HBd.out.1, HBd.out.2]
        exact ⟨rfl, HE.out⟩
    · have hkn : k = n := by omega
      subst hkn
      go_wp2_with fail
      refine (kindE _).mono ?_
      rintro e w1 ⟨⟨ga, rfl⟩, hb1⟩
      go_wp2_with fail
      have HS0 : Hid (SW wr (w1.alloc (.cells #[.string (bs pSp), .slice (some ⟨ga, 0, none⟩) 2 2, .string (bs [97]), .string ⟨#[118, 118, 119]⟩, .bool true] 59)) w1.heap.size #[.string (bs pSp), .slice (some ⟨ga, 0, none⟩) 2 2, .string (bs [97]), .string ⟨#[118, 118, 119]⟩, .bool true] []) := sw_start hb1
      have HBR : Hid (Below w.heap.size w wr) := HB0.out.trans (HBL.out.mono HB0.out.size)
      have HPr : Hid (Pow wr) := sw_pow HP.out HBR.out
      have HXr : Hid (w.heap.size < wr.heap.size) := Nat.lt_of_lt_of_le HX.out HBL.out.size
      have HD0 := hide d0; have HD1 := hide d1
      clear hb1 d0 d1
      generalize (w1.alloc (.cells #[.string (bs pSp), .slice (some ⟨ga, 0, none⟩) 2 2, .string (bs [97]), .string ⟨#[118, 118, 119]⟩, .bool true] 59)) = W0 at HS0 ⊢
      generalize w1.heap.size = kb at HS0 ⊢
      obtain ⟨wz, hwz⟩ : ∃ wz, wz = wr := ⟨_, rfl⟩
      rw [← hwz] at HS0 HPr HBR HXr HD0 HD1 ⊢
      clear hwz HBL HP HC0 HC1' HX HB0
      have HK : Hid (∀ W, Below W0.heap.size W0 W → W.cell? ⟨kb, 0, none⟩ = some (.string (bs pSp)) ∧ W.cell? ⟨w.heap.size, 0, none⟩ = some (.int .i64 (M : Int)) ∧ W.cell? ⟨w.heap.size, 1, none⟩ = some (.slice ao k cap)) := fun W h => ⟨(HS0.out.on h).cell rfl, (below_cell (HS0.out.on h).bel HXr.out).trans HD0.out, (below_cell (HS0.out.on h).bel HXr.out).trans HD1.out⟩
      have HCM : Hid (∀ W, Below W0.heap.size W0 W → Calls Tryd.prog 20 #[.int .i64 (M : Int)] W fun e w' => e = .returned (.string (bs (ct (M : Int)))) ∧ Below W0.heap.size W0 w') := fun W h => (count_any M (by have := HM.out; omega) W (sw_pow HPr.out (below_on HS0.out.bel h))).mono fun e w' ⟨h1, h2⟩ => ⟨h1, below_on h h2⟩
      have HCt : Hid (∀ W, Below W0.heap.size W0 W → Calls Tryd.prog 20 #[.int .i64 (k : Int)] W fun e w' => e = .returned (.string (bs (ct (k : Int)))) ∧ Below W0.heap.size W0 w') := fun W h => (count_any k (by have := HB.out; omega) W (sw_pow HPr.out (below_on HS0.out.bel h))).mono fun e w' ⟨h1, h2⟩ => ⟨h1, below_on h h2⟩
      have HLn : Hid (∀ W, Below W0.heap.size W0 W → Calls Tryd.prog 19 #[.pointer (some ⟨wz.heap.size, 0, none⟩), .string (bs pSp), .slice (some ⟨W.heap.size, 0, none⟩) 2 2] (W.alloc (.cells #[.string (bs (ct (M : Int))), .string (bs (ct (k : Int)))] 9)) fun e w' => e = .returned (.tuple #[]) ∧ SW wz w' kb #[.string (bs pSp), .slice (some ⟨ga, 0, none⟩) 2 2, .string (bs [97]), .string ⟨#[118, 118, 119]⟩, .bool true] ([] ++ lineW pSp [ct (M : Int), ct (k : Int)])) := fun W h => (sw_line2 (HS0.out.on h) pSp (ct (M : Int)) (ct (k : Int)) (by have := ct_len k (by have := HB.out; omega); have := ct_len M (by have := HM.out; omega); unfold lineW; simp [pSp]; omega)).mono fun e w' h => ⟨h.1, h.2.1⟩
      have HKs : Hid (∀ W acc, SW wz W kb #[.string (bs pSp), .slice (some ⟨ga, 0, none⟩) 2 2, .string (bs [97]), .string ⟨#[118, 118, 119]⟩, .bool true] acc → W.cell? ⟨kb, 0, none⟩ = some (.string (bs pSp)) ∧ W.cell? ⟨w.heap.size, 0, none⟩ = some (.int .i64 (M : Int)) ∧ W.cell? ⟨w.heap.size, 1, none⟩ = some (.slice ao k cap)) := fun W acc h => ⟨h.cell rfl, (below_cell h.bel HXr.out).trans HD0.out, (below_cell h.bel HXr.out).trans HD1.out⟩
      clear hbi hk hlt hMi hM0
      have HBX : Hid (Below W0.heap.size W0 W0) := Below.refl _ _
      obtain ⟨c0, c1, c2⟩ := HK.out W0 HBX.out
      go_region_held3 (fun X => X.cell? ⟨kb, 0, none⟩ = some (.string (bs pSp)) ∧ X.cell? ⟨w.heap.size, 0, none⟩ = some (.int .i64 (M : Int)) ∧ X.cell? ⟨w.heap.size, 1, none⟩ = some (.slice ao k cap)) (first | go_keep | exact HK.out _ HBX.out | exact HK.out _ (below_alloc HBX.out _) | exact HKs.out _ _ HS3.out) (first
        | (go_at_call_of 20 (Value.int .i64 (M : Int)); refine (HCM.out _ (by first | exact HBX.out | exact below_drew HBX.out)).mono ?_; rintro e w2 ⟨rfl, hb2⟩; replace HBX := hide hb2; clear hb2)
        | (go_at_call_of 20 (Value.int .i64 (k : Int)); refine (HCt.out _ (by first | exact HBX.out | exact below_drew HBX.out)).mono ?_; rintro e w2 ⟨rfl, hb2⟩; replace HBX := hide hb2; clear hb2)
        | (go_at_call 19; refine (HLn.out _ (by first | exact HBX.out | exact below_drew HBX.out)).mono ?_; rintro e w3 ⟨rfl, hs3⟩; have HS3 := hide hs3; clear hs3)
        | fail)
      obtain ⟨e0, e1, e2⟩ := HKs.out _ _ HS3.out
      clear c0 c1 c2
      go_wp2_with fail
      clear HLn HCt HCM HK HBX e0 e1 e2
      have HS4 : Hid (SW wz w3 kb #[.string (bs pSp), .slice (some ⟨ga, 0, none⟩) 2 2, .string (bs [97]), .string ⟨#[118, 118, 119]⟩, .bool true] (lineW pSp [ct (M : Int), ct (k : Int)] ++ tx eg0 itE l 0)) := by
        have := HS3.out
        simp only [List.nil_append] at this
        simp only [tx, List.append_nil]
        exact this
      clear HS3 HS0 HKs
      go_loopw [66] (fun t wx => ∃ i : Nat, i ≤ k ∧ t = .int .i64 i ∧ SW wz wx kb #[.string (bs pSp), .slice (some ⟨ga, 0, none⟩) 2 2, .string (bs [97]), .string ⟨#[118, 118, 119]⟩, .bool true] (lineW pSp [ct (M : Int), ct (k : Int)] ++ tx eg0 itE l i)) (fun t _ => k - (RowKit.intOf t).toNat)
      case atStart => exact ⟨0, Nat.zero_le _, rfl, HS4.out⟩
      case round =>
        obtain ⟨i, hi, rfl, hs⟩ := hrel
        have HS := hide hs
        clear hs HS4
        by_cases hlt : i < k
        · obtain ⟨g, o, rfl, hg, hcell⟩ := HA.out i (by have := HN.out; omega)
          obtain ⟨⟨ef, et, ew⟩, hp⟩ : ∃ p, p = aAt eg0 l i := ⟨_, rfl⟩
          have hget : l[i]'(by have := HN.out; omega) = ⟨ef, et, ew⟩ := by
            rw [hp]; simp [aAt, List.getElem?_eq_getElem (show i < l.length by have := HN.out; omega)]
          rw [hget] at hcell
          have HBB : Hid (Below w.heap.size w wr) := HBR.out.trans (HS.out.bel.mono HBR.out.size)
          have x0 : wr.cell? ⟨g, o + i * 3, none⟩ = some (.int .i64 ef) := (below_cell HBB.out hg).trans (hcell 0 _ rfl)
          have x1 : wr.cell? ⟨g, o + i * 3 + 1, none⟩ = some (.int .i64 et) := (below_cell HBB.out hg).trans (hcell 1 _ rfl)
          have x2 : wr.cell? ⟨g, o + i * 3 + 2, none⟩ = some (.int .u64 ew) := (below_cell HBB.out hg).trans (hcell 2 _ rfl)
          have hvd := HO.out i hlt
          have hwe := HRA.out i _ (aAt_get eg0 (show i < l.length by have := HN.out; omega))
          rw [← hp] at hvd hwe
          have hr : 0 ≤ ef ∧ ef < (M : Int) ∧ 0 ≤ et ∧ et < (M : Int) := by
            unfold vdE at hvd
            split at hvd
            · assumption
            · cases hvd
          obtain ⟨m, rfl⟩ := Int.eq_ofNat_of_zero_le hr.1
          obtain ⟨q, rfl⟩ := Int.eq_ofNat_of_zero_le hr.2.2.1
          obtain ⟨z, rfl⟩ := Int.eq_ofNat_of_zero_le hwe.1
          have HTX : Hid (lineW pSp [ct (M : Int), ct (k : Int)] ++ tx eg0 itE l i ++ lineW [97] [vx (m : Int), vx (q : Int), ct (z : Int)] = lineW pSp [ct (M : Int), ct (k : Int)] ++ tx eg0 itE l (i + 1)) := by
            show _ = _
            rw [tx, ← hp, List.append_assoc]; rfl
          have hM := HM.out
          have hz : z < 18446744073709551616 := by have := hwe.2; simp only at this; omega
          have HLE : Hid ((lineW pSp [ct (M : Int), ct (k : Int)] ++ tx eg0 itE l i).length + (lineW [97] [vx (m : Int), vx (q : Int), ct (z : Int)]).length ≤ 140737488355328) := by
            show _ ≤ _
            have h1 := ee_len (N := (M : Int)) (by omega) HRA.out (show i ≤ l.length by have := HN.out; omega) (fun j hj => HO.out j (by omega)); have h2 := ct_len k (by have := HB.out; omega); have h2' := ct_len M (by omega); have h3 := vx_len m (by omega); have h4 := vx_len q (by omega); have := HB.out
            have h5 : (ct (z : Int)).length ≤ 20 := by unfold ct; rw [Int.toNat_natCast]; exact dec_len hz
            rw [List.length_append]; unfold lineW; simp [pSp]; omega
          have HQ : Hid (m < 1048576 ∧ q < 1048576 ∧ z < 18446744073709551616) := by show _ ∧ _; omega
          have hkm : (i : Int) + 1 ≤ 9223372036854775807 := by have := HB.out; omega
          have hkc : (i : Int) < cap := by have := HC1.out; omega
          clear hcell hvd hr hg hget hp hwe hM hz
          go_wp2_with fail
          have HS5 := hide (HS.out.on (below_alloc (Below.refl _ _) (.cells #[.int .i64 (m : Int), .int .i64 (q : Int), .int .u64 (z : Int)] 30)))
          have HXB : Hid (∃ fz, (wr.alloc (.cells #[.int .i64 (m : Int), .int .i64 (q : Int), .int .u64 (z : Int)] 30)).heap[wr.heap.size]? = some (.cells #[.int .i64 (m : Int), .int .i64 (q : Int), .int .u64 (z : Int)] 30 fz)) := ⟨_, heap_new _ _⟩
          have HXN : Hid (wr.heap.size ≠ wz.heap.size) := by show _ ≠ _; have := HS.out.ub; omega
          clear x0 x1 x2
          generalize (wr.alloc (.cells #[.int .i64 (m : Int), .int .i64 (q : Int), .int .u64 (z : Int)] 30)) = W5 at HS5 HXB ⊢
          generalize wr.heap.size = xb at HXB HXN ⊢
          have HK : Hid (∀ W, Below W5.heap.size W5 W → W.cell? ⟨kb, 2, none⟩ = some (.string (bs [97])) ∧ W.cell? ⟨xb, 0, none⟩ = some (.int .i64 (m : Int)) ∧ W.cell? ⟨xb, 1, none⟩ = some (.int .i64 (q : Int)) ∧ W.cell? ⟨xb, 2, none⟩ = some (.int .u64 (z : Int))) := fun W h => by
            obtain ⟨fz, hx⟩ := HXB.out
            have hx2 := (h.block xb (lt_of_heap hx)).trans hx
            exact ⟨(HS5.out.on h).cell rfl, cell_of hx2 rfl, cell_of hx2 rfl, cell_of hx2 rfl⟩
          have HCm : Hid (∀ W, Below W5.heap.size W5 W → Calls Tryd.prog 21 #[.int .i64 (m : Int)] W fun e w' => e = .returned (.string (bs (vx (m : Int)))) ∧ Below W5.heap.size W5 w') := fun W h => (vertex_any m (by have := HQ.out; omega) W (sw_pow HPr.out (below_on HS5.out.bel h))).mono fun e w' ⟨h1, h2⟩ => ⟨h1, below_on h h2⟩
          have HCq : Hid (∀ W, Below W5.heap.size W5 W → Calls Tryd.prog 21 #[.int .i64 (q : Int)] W fun e w' => e = .returned (.string (bs (vx (q : Int)))) ∧ Below W5.heap.size W5 w') := fun W h => (vertex_any q (by have := HQ.out; omega) W (sw_pow HPr.out (below_on HS5.out.bel h))).mono fun e w' ⟨h1, h2⟩ => ⟨h1, below_on h h2⟩
          have HCz : Hid (∀ W, Below W5.heap.size W5 W → Calls Tryd.prog 22 #[.int .u64 (z : Int)] W fun e w' => e = .returned (.string (bs (ct (z : Int)))) ∧ Below W5.heap.size W5 w') := fun W h => (decimal_any z HQ.out.2.2 W (sw_pow HPr.out (below_on HS5.out.bel h))).mono fun e w' ⟨h1, h2⟩ => ⟨h1, below_on h h2⟩
          have HLn : Hid (∀ W, Below W5.heap.size W5 W → Calls Tryd.prog 19 #[.pointer (some ⟨wz.heap.size, 0, none⟩), .string (bs [97]), .slice (some ⟨W.heap.size, 0, none⟩) 3 3] (W.alloc (.cells #[.string (bs (vx (m : Int))), .string (bs (vx (q : Int))), .string (bs (ct (z : Int)))] 9)) fun e w' => e = .returned (.tuple #[]) ∧ SW wz w' kb #[.string (bs pSp), .slice (some ⟨ga, 0, none⟩) 2 2, .string (bs [97]), .string ⟨#[118, 118, 119]⟩, .bool true] (lineW pSp [ct (M : Int), ct (k : Int)] ++ tx eg0 itE l i ++ lineW [97] [vx (m : Int), vx (q : Int), ct (z : Int)]) ∧ (w'.cell? ⟨kb, 2, none⟩ = some (.string (bs [97])) ∧ w'.cell? ⟨xb, 0, none⟩ = some (.int .i64 (m : Int)) ∧ w'.cell? ⟨xb, 1, none⟩ = some (.int .i64 (q : Int)) ∧ w'.cell? ⟨xb, 2, none⟩ = some (.int .u64 (z : Int)))) := fun W h => (sw_line3 (HS5.out.on h) [97] (vx (m : Int)) (vx (q : Int)) (ct (z : Int)) HLE.out).mono fun e w' ⟨h1, h2, h3⟩ => by
            obtain ⟨fz, hx⟩ := HXB.out
            have hx2 : ∃ fz, W.heap[xb]? = some (.cells #[.int .i64 (m : Int), .int .i64 (q : Int), .int .u64 (z : Int)] 30 fz) := ⟨fz, (h.block xb (lt_of_heap hx)).trans hx⟩
            exact ⟨h1, h2, h2.cell rfl, kept_cell h3 hx2 (by decide) HXN.out rfl, kept_cell h3 hx2 (by decide) HXN.out rfl, kept_cell h3 hx2 (by decide) HXN.out rfl⟩
          have HBX : Hid (Below W5.heap.size W5 W5) := Below.refl _ _
          obtain ⟨c0, c1, c2, c3⟩ := HK.out W5 HBX.out
          clear HLE HXB HXN HQ HBB
          go_region_held3 (fun X => X.cell? ⟨kb, 2, none⟩ = some (.string (bs [97])) ∧ X.cell? ⟨xb, 0, none⟩ = some (.int .i64 (m : Int)) ∧ X.cell? ⟨xb, 1, none⟩ = some (.int .i64 (q : Int)) ∧ X.cell? ⟨xb, 2, none⟩ = some (.int .u64 (z : Int))) (first | go_keep | exact HK.out _ HBX.out | exact HK.out _ (below_alloc HBX.out _) | exact HS3.out.2) (first
            | (go_at_call_of 21 (Value.int .i64 (m : Int)); refine (HCm.out _ (by first | exact HBX.out | exact below_drew HBX.out)).mono ?_; rintro e w6 ⟨rfl, hb2⟩; replace HBX := hide hb2; clear hb2)
            | (go_at_call_of 21 (Value.int .i64 (q : Int)); refine (HCq.out _ (by first | exact HBX.out | exact below_drew HBX.out)).mono ?_; rintro e w7 ⟨rfl, hb2⟩; replace HBX := hide hb2; clear hb2)
            | (go_at_call 22; refine (HCz.out _ (by first | exact HBX.out | exact below_drew HBX.out)).mono ?_; rintro e w9 ⟨rfl, hb2⟩; replace HBX := hide hb2; clear hb2)
            | (go_at_call 19; refine (HLn.out _ (by first | exact HBX.out | exact below_drew HBX.out)).mono ?_; rintro e w8 ⟨rfl, hs3⟩; have HS3 := hide hs3; clear hs3)
            | fail)
          go_wp2_with fail
          go_roundw
          case rel => exact ⟨i + 1, Nat.succ_le_of_lt hlt, by go_num, by rw [← HTX.out]; exact HS3.out.1⟩
          case measure => exact mdec hlt
        · have hii : i = k := by omega
          subst hii
          have hb := g_good eg0 itE (vdE (M : Int)) (hd := lineW pSp [ct (M : Int), ct (i : Int)]) (l := l) (by have := HN.out; rw [← this]; exact HO.out)
          rw [← HN.out] at hb
          have HBd := hide hb
          have HSt := hide (sw_string HS.out)
          clear hb
          go_wp2_with (first
            | (go_at_call 23; refine HSt.out.mono ?_; rintro e w6 ⟨rfl, hb6⟩; have HE := hide hb6; clear hb6)
            | fail)
          go_ret2
          rw [HBd.out.1, HBd.out.2]
          exact ⟨rfl, HBR.out.trans (HE.out.mono HBR.out.size)⟩
end Go.Proofs.YtmejgjhijdcahaaDoor
