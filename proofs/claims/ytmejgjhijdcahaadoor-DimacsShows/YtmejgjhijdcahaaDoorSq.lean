/- ShowPairs. -/
import Derived.Test.YtmejgjhijdcahaaDoorSs
import Derived.Deep.RegionWith
namespace Go.Proofs.YtmejgjhijdcahaaDoor
open Go.Shelf Go.RowKit Go.Sort Go.Lib
set_option linter.unusedVariables false
set_option linter.unusedSimpArgs false
set_option maxHeartbeats 2000000 in
set_option maxRecDepth 100000 in
theorem showQ_big (v : Value) (l : List Pt) (w : World) (h : RAt Pt.arr 2 w v l) (hb : 4194304 < l.length) : Calls Tryd.prog 11 #[v] w fun e w' => e = .returned (.tuple #[.string ⟨#[]⟩, .int .i64 22]) ∧ Below w.heap.size w w' := by
  obtain ⟨ao, cap, rfl, hc1, hc2⟩ := h.shape
  clear h hc1 hc2
  obtain ⟨n, hn⟩ : ∃ n, n = l.length := ⟨_, rfl⟩
  rw [← hn] at hb ⊢
  have hbi : (4194304 : Int) < (n : Int) := by omega
  clear hb hn
  go_enter Tryd.func11, Tryd.ntmps11
  go_wp2
  go_ret2
  exact ⟨rfl, Below.refl _ _⟩
set_option maxHeartbeats 2000000 in
set_option maxRecDepth 100000 in
theorem showQ_any (v : Value) (l : List Pt) (w : World) (h : RAt Pt.arr 2 w v l) (hb : l.length ≤ 4194304) (hp : Pow w) : Calls Tryd.prog 11 #[v] w fun e w' => e = .returned (.tuple #[.string (gS pt0 itQ vdQ (lineW pPp [ct (l.length : Int)]) l), .int .i64 (gE pt0 vdQ l)]) ∧ Below w.heap.size w w' := by
  obtain ⟨ao, cap, rfl, hc1, hc2⟩ := h.shape
  have HA := hide (fun i hi => h.at i hi)
  clear h
  obtain ⟨n, hn⟩ : ∃ n, n = l.length := ⟨_, rfl⟩
  have HN := hide hn
  rw [← hn] at hb hc1 ⊢
  have hbi : ¬ (4194304 : Int) < (n : Int) := by omega
  have HB := hide hb; have HC := hide hc2; have HC1 := hide hc1; have HP := hide hp
  clear hn hb hc1 hc2 hp
  go_enter Tryd.func11, Tryd.ntmps11
  go_wp2_with fail
  go_loopw [15] (fun t wr => ∃ k : Nat, k ≤ n ∧ t = .int .i64 k ∧ okN pt0 vdQ l k ∧ Below w.heap.size w wr) (fun t _ => n - (RowKit.intOf t).toNat)
  case atStart => exact ⟨0, by omega, rfl, fun i hi => by omega, Below.refl _ _⟩
  case round =>
    obtain ⟨k, hk, rfl, hok, hbel⟩ := hrel
    have HO := hide hok; have HBL := hide hbel
    clear hok hbel
    by_cases hlt : k < n
    · obtain ⟨g, o, rfl, hg, hcell⟩ := HA.out k (by have := HN.out; omega)
      obtain ⟨⟨px, py⟩, hp⟩ : ∃ p, p = aAt pt0 l k := ⟨_, rfl⟩
      have hget : l[k]'(by have := HN.out; omega) = ⟨px, py⟩ := by
        rw [hp]; simp [aAt, List.getElem?_eq_getElem (show k < l.length by have := HN.out; omega)]
      rw [hget] at hcell
      have x0 : wr.cell? ⟨g, o + k * 2, none⟩ = some (.int .i64 px) := (below_cell HBL.out hg).trans (hcell 0 _ rfl)
      have x1 : wr.cell? ⟨g, o + k * 2 + 1, none⟩ = some (.int .i64 py) := (below_cell HBL.out hg).trans (hcell 1 _ rfl)
      have hkm : (k : Int) + 1 ≤ 9223372036854775807 := by have := HB.out; omega
      have hkc : (k : Int) < cap := by have := HC1.out; omega
      have HE : Hid (Below w.heap.size w (wr.alloc (.cells #[.int .i64 px, .int .i64 py] 34))) := below_alloc HBL.out _
      clear hcell hget
      have HR := hide (fun W => isVertex_any 1048576 px W)
      have HR2 := hide (fun W => isVertex_any 1048576 py W)
      by_cases h1 : 0 ≤ px ∧ px < 1048576
      · rw [show decide (0 ≤ px ∧ px < 1048576) = true by simp only [decide_eq_true_eq]; exact h1] at HR
        by_cases h2 : 0 ≤ py ∧ py < 1048576
        · rw [show decide (0 ≤ py ∧ py < 1048576) = true by simp only [decide_eq_true_eq]; exact h2] at HR2
          have HVD : Hid (vdQ (aAt pt0 l k) = 0) := by rw [← hp]; unfold vdQ; rw [if_pos ⟨h1.1, h1.2, h2.1, h2.2⟩]; exact hide rfl
          clear h1 h2 hp
          go_wp2_with (first
            | (go_at_call_of 17 (Value.int .i64 px); refine (HR.out _).mono ?_; rintro e w2 ⟨rfl, hww⟩; subst hww)
            | (go_at_call_of 17 (Value.int .i64 py); refine (HR2.out _).mono ?_; rintro e w2 ⟨rfl, hww⟩; subst hww)
            | fail)
          go_roundw
          case rel => exact ⟨k + 1, Nat.succ_le_of_lt hlt, by go_num, okN_next pt0 vdQ HO.out HVD.out, HE.out⟩
          case measure => exact mdec hlt
        · rw [show decide (0 ≤ py ∧ py < 1048576) = false by simp only [decide_eq_false_iff_not]; exact h2] at HR2
          have hvd : vdQ (aAt pt0 l k) = 30 := by rw [← hp]; unfold vdQ; rw [if_neg (fun h => h2 ⟨h.2.2.1, h.2.2.2⟩)]
          have hb := g_bad pt0 itQ vdQ (hd := lineW pPp [ct (n : Int)]) (show k < l.length by have := HN.out; omega) (by rw [hvd]; decide) HO.out
          rw [hvd] at hb
          have HBd := hide hb
          clear h1 h2 hp hb hvd
          go_wp2_with (first
            | (go_at_call_of 17 (Value.int .i64 px); refine (HR.out _).mono ?_; rintro e w2 ⟨rfl, hww⟩; subst hww)
            | (go_at_call_of 17 (Value.int .i64 py); refine (HR2.out _).mono ?_; rintro e w2 ⟨rfl, hww⟩; subst hww)
            | fail)
          go_ret2
          rw [HBd.out.1, HBd.out.2]
          exact ⟨rfl, HE.out⟩
      · rw [show decide (0 ≤ px ∧ px < 1048576) = false by simp only [decide_eq_false_iff_not]; exact h1] at HR
        have hvd : vdQ (aAt pt0 l k) = 30 := by rw [← hp]; unfold vdQ; rw [if_neg (fun h => h1 ⟨h.1, h.2.1⟩)]
        have hb := g_bad pt0 itQ vdQ (hd := lineW pPp [ct (n : Int)]) (show k < l.length by have := HN.out; omega) (by rw [hvd]; decide) HO.out
        rw [hvd] at hb
        have HBd := hide hb
        clear h1 hp hb hvd
        go_wp2_with (first
          | (go_at_call_of 17 (Value.int .i64 px); refine (HR.out _).mono ?_; rintro e w2 ⟨rfl, hww⟩; subst hww)
          | fail)
        go_ret2
        rw [HBd.out.1, HBd.out.2]
        exact ⟨rfl, HE.out⟩
    · have hkn : k = n := by omega
      subst hkn
      go_wp2_with fail
      refine (kindQ _).mono ?_
      rintro e w1 ⟨⟨ga, rfl⟩, hb1⟩
      go_wp2_with fail
      have HS0 : Hid (SW wr (w1.alloc (.cells #[.string (bs pPp), .slice (some ⟨ga, 0, none⟩) 1 1, .string (bs [113]), .string ⟨#[118, 118]⟩, .bool false] 59)) w1.heap.size #[.string (bs pPp), .slice (some ⟨ga, 0, none⟩) 1 1, .string (bs [113]), .string ⟨#[118, 118]⟩, .bool false] []) := sw_start hb1
      have HPr : Hid (Pow wr) := sw_pow HP.out HBL.out
      have HBR := HBL
      clear hb1
      generalize (w1.alloc (.cells #[.string (bs pPp), .slice (some ⟨ga, 0, none⟩) 1 1, .string (bs [113]), .string ⟨#[118, 118]⟩, .bool false] 59)) = W0 at HS0 ⊢
      generalize w1.heap.size = kb at HS0 ⊢
      obtain ⟨wz, hwz⟩ : ∃ wz, wz = wr := ⟨_, rfl⟩
      rw [← hwz] at HS0 HPr HBR ⊢
      clear hwz HBL HP
      have HK : Hid (∀ W, Below W0.heap.size W0 W → W.cell? ⟨kb, 0, none⟩ = some (.string (bs pPp))) := fun W h => (HS0.out.on h).cell rfl
      have HCt : Hid (∀ W, Below W0.heap.size W0 W → Calls Tryd.prog 20 #[.int .i64 (k : Int)] W fun e w' => e = .returned (.string (bs (ct (k : Int)))) ∧ Below W0.heap.size W0 w') := fun W h => (count_any k (by have := HB.out; omega) W (sw_pow HPr.out (below_on HS0.out.bel h))).mono fun e w' ⟨h1, h2⟩ => ⟨h1, below_on h h2⟩
      have HLn : Hid (∀ W, Below W0.heap.size W0 W → Calls Tryd.prog 19 #[.pointer (some ⟨wz.heap.size, 0, none⟩), .string (bs pPp), .slice (some ⟨W.heap.size, 0, none⟩) 1 1] (W.alloc (.cells #[.string (bs (ct (k : Int)))] 9)) fun e w' => e = .returned (.tuple #[]) ∧ SW wz w' kb #[.string (bs pPp), .slice (some ⟨ga, 0, none⟩) 1 1, .string (bs [113]), .string ⟨#[118, 118]⟩, .bool false] ([] ++ lineW pPp [ct (k : Int)])) := fun W h => (sw_line1 (HS0.out.on h) pPp (ct (k : Int)) (by have := ct_len k (by have := HB.out; omega); unfold lineW; simp [pPp]; omega)).mono fun e w' h => ⟨h.1, h.2.1⟩
      clear hbi hk hlt
      have HBX : Hid (Below W0.heap.size W0 W0) := Below.refl _ _
      have c0 := HK.out W0 HBX.out
      go_region_held3 (fun X => X.cell? ⟨kb, 0, none⟩ = some (.string (bs pPp))) (first | go_keep | exact HK.out _ HBX.out | exact HK.out _ (below_alloc HBX.out _) | exact HS3.out.cell rfl) (first
        | (go_at_call 20; refine (HCt.out _ (by first | exact HBX.out | exact below_drew HBX.out)).mono ?_; rintro e w2 ⟨rfl, hb2⟩; replace HBX := hide hb2; clear hb2)
        | (go_at_call 19; refine (HLn.out _ (by first | exact HBX.out | exact below_drew HBX.out)).mono ?_; rintro e w3 ⟨rfl, hs3⟩; have HS3 := hide hs3; clear hs3)
        | fail)
      go_wp2_with fail
      clear c0 HLn HCt HK HBX
      have HS4 : Hid (SW wz w3 kb #[.string (bs pPp), .slice (some ⟨ga, 0, none⟩) 1 1, .string (bs [113]), .string ⟨#[118, 118]⟩, .bool false] (lineW pPp [ct (k : Int)] ++ tx pt0 itQ l 0)) := by
        have := HS3.out
        simp only [List.nil_append] at this
        simp only [tx, List.append_nil]
        exact this
      clear HS3 HS0
      go_loopw [40] (fun t wx => ∃ i : Nat, i ≤ k ∧ t = .int .i64 i ∧ SW wz wx kb #[.string (bs pPp), .slice (some ⟨ga, 0, none⟩) 1 1, .string (bs [113]), .string ⟨#[118, 118]⟩, .bool false] (lineW pPp [ct (k : Int)] ++ tx pt0 itQ l i)) (fun t _ => k - (RowKit.intOf t).toNat)
      case atStart => exact ⟨0, Nat.zero_le _, rfl, HS4.out⟩
      case round =>
        obtain ⟨i, hi, rfl, hs⟩ := hrel
        have HS := hide hs
        clear hs HS4
        by_cases hlt : i < k
        · obtain ⟨g, o, rfl, hg, hcell⟩ := HA.out i (by have := HN.out; omega)
          obtain ⟨⟨px, py⟩, hp⟩ : ∃ p, p = aAt pt0 l i := ⟨_, rfl⟩
          have hget : l[i]'(by have := HN.out; omega) = ⟨px, py⟩ := by
            rw [hp]; simp [aAt, List.getElem?_eq_getElem (show i < l.length by have := HN.out; omega)]
          rw [hget] at hcell
          have HBB : Hid (Below w.heap.size w wr) := HBR.out.trans (HS.out.bel.mono HBR.out.size)
          have x0 : wr.cell? ⟨g, o + i * 2, none⟩ = some (.int .i64 px) := (below_cell HBB.out hg).trans (hcell 0 _ rfl)
          have x1 : wr.cell? ⟨g, o + i * 2 + 1, none⟩ = some (.int .i64 py) := (below_cell HBB.out hg).trans (hcell 1 _ rfl)
          have hvd := HO.out i hlt
          rw [← hp] at hvd
          have hr : 0 ≤ px ∧ px < 1048576 ∧ 0 ≤ py ∧ py < 1048576 := by
            unfold vdQ at hvd
            split at hvd
            · assumption
            · cases hvd
          obtain ⟨m, rfl⟩ := Int.eq_ofNat_of_zero_le hr.1
          obtain ⟨q, rfl⟩ := Int.eq_ofNat_of_zero_le hr.2.2.1
          have HTX : Hid (lineW pPp [ct (k : Int)] ++ tx pt0 itQ l i ++ lineW [113] [vx (m : Int), vx (q : Int)] = lineW pPp [ct (k : Int)] ++ tx pt0 itQ l (i + 1)) := by
            show _ = _
            rw [tx, ← hp, List.append_assoc]; rfl
          have HLE : Hid ((lineW pPp [ct (k : Int)] ++ tx pt0 itQ l i).length + (lineW [113] [vx (m : Int), vx (q : Int)]).length ≤ 140737488355328) := by
            show _ ≤ _
            have h1 := qq_len (k := i) (l := l) (fun j hj => HO.out j (by omega)); have h2 := ct_len k (by have := HB.out; omega); have h3 := vx_len m (by omega); have h4 := vx_len q (by omega); have := HB.out
            rw [List.length_append]; unfold lineW; simp [pPp]; omega
          have HQ : Hid (m < 1048576 ∧ q < 1048576) := by show _ ∧ _; omega
          have hkm : (i : Int) + 1 ≤ 9223372036854775807 := by have := HB.out; omega
          have hkc : (i : Int) < cap := by have := HC1.out; omega
          clear hcell hvd hr hg hget hp
          go_wp2_with fail
          have HS5 := hide (HS.out.on (below_alloc (Below.refl _ _) (.cells #[.int .i64 (m : Int), .int .i64 (q : Int)] 34)))
          have HXB : Hid (∃ fz, (wr.alloc (.cells #[.int .i64 (m : Int), .int .i64 (q : Int)] 34)).heap[wr.heap.size]? = some (.cells #[.int .i64 (m : Int), .int .i64 (q : Int)] 34 fz)) := ⟨_, heap_new _ _⟩
          have HXN : Hid (wr.heap.size ≠ wz.heap.size) := by show _ ≠ _; have := HS.out.ub; omega
          clear x0 x1
          generalize (wr.alloc (.cells #[.int .i64 (m : Int), .int .i64 (q : Int)] 34)) = W5 at HS5 HXB ⊢
          generalize wr.heap.size = xb at HXB HXN ⊢
          have HK : Hid (∀ W, Below W5.heap.size W5 W → W.cell? ⟨kb, 2, none⟩ = some (.string (bs [113])) ∧ W.cell? ⟨xb, 0, none⟩ = some (.int .i64 (m : Int)) ∧ W.cell? ⟨xb, 1, none⟩ = some (.int .i64 (q : Int))) := fun W h => by
            obtain ⟨fz, hx⟩ := HXB.out
            have hx2 := (h.block xb (lt_of_heap hx)).trans hx
            exact ⟨(HS5.out.on h).cell rfl, cell_of hx2 rfl, cell_of hx2 rfl⟩
          have HCm : Hid (∀ W, Below W5.heap.size W5 W → Calls Tryd.prog 21 #[.int .i64 (m : Int)] W fun e w' => e = .returned (.string (bs (vx (m : Int)))) ∧ Below W5.heap.size W5 w') := fun W h => (vertex_any m (by have := HQ.out; omega) W (sw_pow HPr.out (below_on HS5.out.bel h))).mono fun e w' ⟨h1, h2⟩ => ⟨h1, below_on h h2⟩
          have HCq : Hid (∀ W, Below W5.heap.size W5 W → Calls Tryd.prog 21 #[.int .i64 (q : Int)] W fun e w' => e = .returned (.string (bs (vx (q : Int)))) ∧ Below W5.heap.size W5 w') := fun W h => (vertex_any q (by have := HQ.out; omega) W (sw_pow HPr.out (below_on HS5.out.bel h))).mono fun e w' ⟨h1, h2⟩ => ⟨h1, below_on h h2⟩
          have HLn : Hid (∀ W, Below W5.heap.size W5 W → Calls Tryd.prog 19 #[.pointer (some ⟨wz.heap.size, 0, none⟩), .string (bs [113]), .slice (some ⟨W.heap.size, 0, none⟩) 2 2] (W.alloc (.cells #[.string (bs (vx (m : Int))), .string (bs (vx (q : Int)))] 9)) fun e w' => e = .returned (.tuple #[]) ∧ SW wz w' kb #[.string (bs pPp), .slice (some ⟨ga, 0, none⟩) 1 1, .string (bs [113]), .string ⟨#[118, 118]⟩, .bool false] (lineW pPp [ct (k : Int)] ++ tx pt0 itQ l i ++ lineW [113] [vx (m : Int), vx (q : Int)]) ∧ (w'.cell? ⟨kb, 2, none⟩ = some (.string (bs [113])) ∧ w'.cell? ⟨xb, 0, none⟩ = some (.int .i64 (m : Int)) ∧ w'.cell? ⟨xb, 1, none⟩ = some (.int .i64 (q : Int)))) := fun W h => (sw_line2 (HS5.out.on h) [113] (vx (m : Int)) (vx (q : Int)) HLE.out).mono fun e w' ⟨h1, h2, h3⟩ => by
            obtain ⟨fz, hx⟩ := HXB.out
            have hx2 : ∃ fz, W.heap[xb]? = some (.cells #[.int .i64 (m : Int), .int .i64 (q : Int)] 34 fz) := ⟨fz, (h.block xb (lt_of_heap hx)).trans hx⟩
            exact ⟨h1, h2, h2.cell rfl, kept_cell h3 hx2 (by decide) HXN.out rfl, kept_cell h3 hx2 (by decide) HXN.out rfl⟩
          have HBX : Hid (Below W5.heap.size W5 W5) := Below.refl _ _
          obtain ⟨c0, c1, c2⟩ := HK.out W5 HBX.out
          clear HLE HXB HXN HQ HBB
          go_region_held3 (fun X => X.cell? ⟨kb, 2, none⟩ = some (.string (bs [113])) ∧ X.cell? ⟨xb, 0, none⟩ = some (.int .i64 (m : Int)) ∧ X.cell? ⟨xb, 1, none⟩ = some (.int .i64 (q : Int))) (first | go_keep | exact HK.out _ HBX.out | exact HK.out _ (below_alloc HBX.out _) | exact HS3.out.2) (first
            | (go_at_call_of 21 (Value.int .i64 (m : Int)); refine (HCm.out _ (by first | exact HBX.out | exact below_drew HBX.out)).mono ?_; rintro e w6 ⟨rfl, hb2⟩; replace HBX := hide hb2; clear hb2)
            | (go_at_call_of 21 (Value.int .i64 (q : Int)); refine (HCq.out _ (by first | exact HBX.out | exact below_drew HBX.out)).mono ?_; rintro e w7 ⟨rfl, hb2⟩; replace HBX := hide hb2; clear hb2)
            | (go_at_call 19; refine (HLn.out _ (by first | exact HBX.out | exact below_drew HBX.out)).mono ?_; rintro e w8 ⟨rfl, hs3⟩; have HS3 := hide hs3; clear hs3)
            | fail)
          go_wp2_with fail
          go_roundw
          case rel => exact ⟨i + 1, Nat.succ_le_of_lt hlt, by go_num, by rw [← HTX.out]; exact HS3.out.1⟩
          case measure => exact mdec hlt
        · have hii : i = k := by omega
          subst hii
          have hb := g_good pt0 itQ vdQ (hd := lineW pPp [ct (i : Int)]) (l := l) (by have := HN.out; rw [← this]; exact HO.out)
          rw [← HN.out] at hb
          have HBd := hide hb
          have HSt := hide (sw_string HS.out)
          clear hb
          go_wp2_with (first
            | (go_at_call 23; refine HSt.out.mono ?_; rintro e w6 ⟨rfl, hb6⟩; have HE := hide hb6; clear hb6)
            | fail)
          go_ret2
          rw [HBd.out.1, HBd.out.2]
          exact ⟨rfl, HBR.out.trans (HE.out.mono HBR.out.size)⟩
end Go.Proofs.YtmejgjhijdcahaaDoor
