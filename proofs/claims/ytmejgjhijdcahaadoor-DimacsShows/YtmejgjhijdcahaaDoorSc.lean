/- ShowCo. -/
import Derived.Test.YtmejgjhijdcahaaDoorSq
import Derived.Deep.RegionWith
namespace Go.Proofs.YtmejgjhijdcahaaDoor
open Go.Shelf Go.RowKit Go.Sort Go.Lib
set_option linter.unusedVariables false
set_option linter.unusedSimpArgs false
set_option maxHeartbeats 2000000 in
set_option maxRecDepth 100000 in
theorem showP_big (v : Value) (l : List Pt) (w : World) (h : RAt Pt.arr 2 w v l) (hb : 1048576 < l.length) : Calls Tryd.prog 7 #[v] w fun e w' => e = .returned (.tuple #[.string ⟨#[]⟩, .int .i64 22]) ∧ Below w.heap.size w w' := by
  obtain ⟨ao, cap, rfl, hc1, hc2⟩ := h.shape
  clear h hc1 hc2
  obtain ⟨n, hn⟩ : ∃ n, n = l.length := ⟨_, rfl⟩
  rw [← hn] at hb ⊢
  have hbi : (1048576 : Int) < (n : Int) := by omega
  clear hb hn
  go_enter Tryd.func7, Tryd.ntmps7
  go_wp2
  go_ret2
  exact ⟨rfl, Below.refl _ _⟩
set_option maxHeartbeats 2000000 in
set_option maxRecDepth 100000 in
theorem showP_any (v : Value) (l : List Pt) (w : World) (h : RAt Pt.arr 2 w v l) (hb : l.length ≤ 1048576) (hra : Ranged l) (hp : Pow w) : Calls Tryd.prog 7 #[v] w fun e w' => e = .returned (.tuple #[.string (gS pt0 itP vdP (lineW pCo [ct (l.length : Int)]) l), .int .i64 (gE pt0 vdP l)]) ∧ Below w.heap.size w w' := by
  obtain ⟨ao, cap, rfl, hc1, hc2⟩ := h.shape
  have HA := hide (fun i hi => h.at i hi)
  clear h
  obtain ⟨k, hn⟩ : ∃ n, n = l.length := ⟨_, rfl⟩
  have HN := hide hn
  rw [← hn] at hb hc1 ⊢
  have hbi : ¬ (1048576 : Int) < (k : Int) := by omega
  have HB := hide hb; have HC := hide hc2; have HC1 := hide hc1; have HP := hide hp; have HRA := hide hra
  have HBL : Hid (Below w.heap.size w w) := Below.refl _ _
  clear hn hb hc1 hc2 hp hra
  go_enter Tryd.func7, Tryd.ntmps7
  go_wp2_with fail
  refine (kindP _).mono ?_
  rintro e w1 ⟨⟨ga, rfl⟩, hb1⟩
  go_wp2_with fail
  have HS0 : Hid (SW w (w1.alloc (.cells #[.string (bs pCo), .slice (some ⟨ga, 0, none⟩) 1 1, .string (bs [118]), .string ⟨#[112, 115, 115]⟩, .bool true] 59)) w1.heap.size #[.string (bs pCo), .slice (some ⟨ga, 0, none⟩) 1 1, .string (bs [118]), .string ⟨#[112, 115, 115]⟩, .bool true] []) := sw_start hb1
  have HPr : Hid (Pow w) := sw_pow HP.out HBL.out
  clear hb1
  generalize (w1.alloc (.cells #[.string (bs pCo), .slice (some ⟨ga, 0, none⟩) 1 1, .string (bs [118]), .string ⟨#[112, 115, 115]⟩, .bool true] 59)) = W0 at HS0 ⊢
  generalize w1.heap.size = kb at HS0 ⊢
  obtain ⟨wz, hwz⟩ : ∃ wz, wz = w := ⟨_, rfl⟩
  rw [← hwz] at HS0 HPr ⊢
  have HBR : Hid (Below w.heap.size w wz) := by rw [hwz]; exact HBL.out
  have HWZ := hide hwz
  clear hwz HBL HP
  have HK : Hid (∀ W, Below W0.heap.size W0 W → W.cell? ⟨kb, 0, none⟩ = some (.string (bs pCo))) := fun W h => (HS0.out.on h).cell rfl
  have HCt : Hid (∀ W, Below W0.heap.size W0 W → Calls Tryd.prog 20 #[.int .i64 (k : Int)] W fun e w' => e = .returned (.string (bs (ct (k : Int)))) ∧ Below W0.heap.size W0 w') := fun W h => (count_any k (by have := HB.out; omega) W (sw_pow HPr.out (below_on HS0.out.bel h))).mono fun e w' ⟨h1, h2⟩ => ⟨h1, below_on h h2⟩
  have HLn : Hid (∀ W, Below W0.heap.size W0 W → Calls Tryd.prog 19 #[.pointer (some ⟨wz.heap.size, 0, none⟩), .string (bs pCo), .slice (some ⟨W.heap.size, 0, none⟩) 1 1] (W.alloc (.cells #[.string (bs (ct (k : Int)))] 9)) fun e w' => e = .returned (.tuple #[]) ∧ SW wz w' kb #[.string (bs pCo), .slice (some ⟨ga, 0, none⟩) 1 1, .string (bs [118]), .string ⟨#[112, 115, 115]⟩, .bool true] ([] ++ lineW pCo [ct (k : Int)])) := fun W h => (sw_line1 (HS0.out.on h) pCo (ct (k : Int)) (by have := ct_len k (by have := HB.out; omega); unfold lineW; simp [pCo]; omega)).mono fun e w' h => ⟨h.1, h.2.1⟩
  clear hbi
  have HBX : Hid (Below W0.heap.size W0 W0) := Below.refl _ _
  have c0 := HK.out W0 HBX.out
  go_region_held3 (fun X => X.cell? ⟨kb, 0, none⟩ = some (.string (bs pCo))) (first | go_keep | exact HK.out _ HBX.out | exact HK.out _ (below_alloc HBX.out _) | exact HS3.out.cell rfl) (first
    | (go_at_call 20; refine (HCt.out _ (by first | exact HBX.out | exact below_drew HBX.out)).mono ?_; rintro e w2 ⟨rfl, hb2⟩; replace HBX := hide hb2; clear hb2)
    | (go_at_call 19; refine (HLn.out _ (by first | exact HBX.out | exact below_drew HBX.out)).mono ?_; rintro e w3 ⟨rfl, hs3⟩; have HS3 := hide hs3; clear hs3)
    | fail)
  go_wp2_with fail
  clear c0 HLn HCt HK HBX
  have HS4 : Hid (SW wz w3 kb #[.string (bs pCo), .slice (some ⟨ga, 0, none⟩) 1 1, .string (bs [118]), .string ⟨#[112, 115, 115]⟩, .bool true] (lineW pCo [ct (k : Int)] ++ tx pt0 itQ l 0)) := by
    have := HS3.out
    simp only [List.nil_append] at this
    simp only [tx, List.append_nil]
    exact this
  clear HS3 HS0
  go_loopw [21] (fun t wx => ∃ i : Nat, i ≤ k ∧ t = .int .i64 i ∧ SW wz wx kb #[.string (bs pCo), .slice (some ⟨ga, 0, none⟩) 1 1, .string (bs [118]), .string ⟨#[112, 115, 115]⟩, .bool true] (lineW pCo [ct (k : Int)] ++ tx pt0 itP l i)) (fun t _ => k - (RowKit.intOf t).toNat)
  case atStart => exact ⟨0, Nat.zero_le _, rfl, HS4.out⟩
  case round =>
    obtain ⟨i, hi, rfl, hs⟩ := hrel
    have HS := hide hs
    clear hs HS4
    by_cases hlt : i < k
    · obtain ⟨g, o, rfl, hg, hcell⟩ := HA.out i (by have := HN.out; omega)
      obtain ⟨⟨px, py⟩, hp⟩ : ∃ p, p = aAt pt0 l i := ⟨_, rfl⟩
      have hget : l[i]'(by have := HN.out; omega) = ⟨px, py⟩ := by
        rw [hp]; simp [aAt, List.getElem?_eq_getElem (show i < l.length by have := HN.out; omega)]
      rw [hget] at hcell
      have HBB : Hid (Below w.heap.size w wr) := HBR.out.trans (HS.out.bel.mono HBR.out.size)
      have x0 : wr.cell? ⟨g, o + i * 2, none⟩ = some (.int .i64 px) := (below_cell HBB.out hg).trans (hcell 0 _ rfl)
      have x1 : wr.cell? ⟨g, o + i * 2 + 1, none⟩ = some (.int .i64 py) := (below_cell HBB.out hg).trans (hcell 1 _ rfl)
      have hra : (-9223372036854775808 ≤ px ∧ px ≤ 9223372036854775807) ∧ (-9223372036854775808 ≤ py ∧ py ≤ 9223372036854775807) := by
        have := HRA.out i _ (aAt_get pt0 (show i < l.length by have := HN.out; omega))
        rw [← hp] at this
        exact this
      have HR := hide hra
      have HTX : Hid (lineW pCo [ct (k : Int)] ++ tx pt0 itP l i ++ lineW [118] [vx (i : Int), Lib.itoa px, Lib.itoa py] = lineW pCo [ct (k : Int)] ++ tx pt0 itP l (i + 1)) := by
        show _ = _
        rw [tx, ← hp, List.append_assoc]; rfl
      have HLE : Hid ((lineW pCo [ct (k : Int)] ++ tx pt0 itP l i).length + (lineW [118] [vx (i : Int), Lib.itoa px, Lib.itoa py]).length ≤ 140737488355328) := by
        show _ ≤ _
        have h1 := pp_len HRA.out (show i ≤ l.length by have := HN.out; omega) (by have := HN.out; have := HB.out; omega); have h2 := ct_len k (by have := HB.out; omega); have h3 := vx_len i (by have := HB.out; omega); have h4 := itoa_len px hra.1.1 hra.1.2; have h5 := itoa_len py hra.2.1 hra.2.2; have := HB.out
        rw [List.length_append]; unfold lineW; simp [pCo]; omega
      have HQ : Hid (i < 1048576) := by show _ < _; have := HB.out; omega
      have hkm : (i : Int) + 1 ≤ 9223372036854775807 := by have := HB.out; omega
      have hkc : (i : Int) < cap := by have := HC1.out; omega
      clear hcell hra hg hget hp
      go_wp2_with fail
      have HS5 := hide (HS.out.on (below_alloc (Below.refl _ _) (.cells #[.int .i64 px, .int .i64 py] 32)))
      have HXB : Hid (∃ fz, (wr.alloc (.cells #[.int .i64 px, .int .i64 py] 32)).heap[wr.heap.size]? = some (.cells #[.int .i64 px, .int .i64 py] 32 fz)) := ⟨_, heap_new _ _⟩
      have HXN : Hid (wr.heap.size ≠ wz.heap.size) := by show _ ≠ _; have := HS.out.ub; omega
      clear x0 x1
      generalize (wr.alloc (.cells #[.int .i64 px, .int .i64 py] 32)) = W5 at HS5 HXB ⊢
      generalize wr.heap.size = xb at HXB HXN ⊢
      have HK : Hid (∀ W, Below W5.heap.size W5 W → W.cell? ⟨kb, 2, none⟩ = some (.string (bs [118])) ∧ W.cell? ⟨xb, 0, none⟩ = some (.int .i64 px) ∧ W.cell? ⟨xb, 1, none⟩ = some (.int .i64 py)) := fun W h => by
        obtain ⟨fz, hx⟩ := HXB.out
        have hx2 := (h.block xb (lt_of_heap hx)).trans hx
        exact ⟨(HS5.out.on h).cell rfl, cell_of hx2 rfl, cell_of hx2 rfl⟩
      have HCi : Hid (∀ W, Below W5.heap.size W5 W → Calls Tryd.prog 21 #[.int .i64 (i : Int)] W fun e w' => e = .returned (.string (bs (vx (i : Int)))) ∧ Below W5.heap.size W5 w') := fun W h => (vertex_any i (by have := HQ.out; omega) W (sw_pow HPr.out (below_on HS5.out.bel h))).mono fun e w' ⟨h1, h2⟩ => ⟨h1, below_on h h2⟩
      have HCm : Hid (∀ W, Below W5.heap.size W5 W → Calls Tryd.prog 28 #[.int .i64 px, .int .i64 10] W fun e w' => e = .returned (.string (bs (Lib.itoa px))) ∧ Below W5.heap.size W5 w') := fun W h => (fmti_any px HR.out.1.1 HR.out.1.2 W (sw_pow HPr.out (below_on HS5.out.bel h))).mono fun e w' ⟨h1, h2⟩ => ⟨h1, below_on h h2⟩
      have HCq : Hid (∀ W, Below W5.heap.size W5 W → Calls Tryd.prog 28 #[.int .i64 py, .int .i64 10] W fun e w' => e = .returned (.string (bs (Lib.itoa py))) ∧ Below W5.heap.size W5 w') := fun W h => (fmti_any py HR.out.2.1 HR.out.2.2 W (sw_pow HPr.out (below_on HS5.out.bel h))).mono fun e w' ⟨h1, h2⟩ => ⟨h1, below_on h h2⟩
      have HLn : Hid (∀ W, Below W5.heap.size W5 W → Calls Tryd.prog 19 #[.pointer (some ⟨wz.heap.size, 0, none⟩), .string (bs [118]), .slice (some ⟨W.heap.size, 0, none⟩) 3 3] (W.alloc (.cells #[.string (bs (vx (i : Int))), .string (bs (Lib.itoa px)), .string (bs (Lib.itoa py))] 9)) fun e w' => e = .returned (.tuple #[]) ∧ SW wz w' kb #[.string (bs pCo), .slice (some ⟨ga, 0, none⟩) 1 1, .string (bs [118]), .string ⟨#[112, 115, 115]⟩, .bool true] (lineW pCo [ct (k : Int)] ++ tx pt0 itP l i ++ lineW [118] [vx (i : Int), Lib.itoa px, Lib.itoa py]) ∧ (w'.cell? ⟨kb, 2, none⟩ = some (.string (bs [118])) ∧ w'.cell? ⟨xb, 0, none⟩ = some (.int .i64 px) ∧ w'.cell? ⟨xb, 1, none⟩ = some (.int .i64 py))) := fun W h => (sw_line3 (HS5.out.on h) [118] (vx (i : Int)) (Lib.itoa px) (Lib.itoa py) HLE.out).mono fun e w' ⟨h1, h2, h3⟩ => by
        obtain ⟨fz, hx⟩ := HXB.out
        have hx2 : ∃ fz, W.heap[xb]? = some (.cells #[.int .i64 px, .int .i64 py] 32 fz) := ⟨fz, (h.block xb (lt_of_heap hx)).trans hx⟩
        exact ⟨h1, h2, h2.cell rfl, kept_cell h3 hx2 (by decide) HXN.out rfl, kept_cell h3 hx2 (by decide) HXN.out rfl⟩
      have HBX : Hid (Below W5.heap.size W5 W5) := Below.refl _ _
      obtain ⟨c0, c1, c2⟩ := HK.out W5 HBX.out
      clear HLE HXB HXN HQ HBB
      go_region_held3 (fun X => X.cell? ⟨kb, 2, none⟩ = some (.string (bs [118])) ∧ X.cell? ⟨xb, 0, none⟩ = some (.int .i64 px) ∧ X.cell? ⟨xb, 1, none⟩ = some (.int .i64 py)) (first | go_keep | exact HK.out _ HBX.out | exact HK.out _ (below_alloc HBX.out _) | exact HS3.out.2) (first
        | (go_at_call 21; refine (HCi.out _ (by first | exact HBX.out | exact below_drew HBX.out)).mono ?_; rintro e w9 ⟨rfl, hb2⟩; replace HBX := hide hb2; clear hb2)
        | (go_at_call_of 28 (Value.int .i64 px); refine (HCm.out _ (by first | exact HBX.out | exact below_drew HBX.out)).mono ?_; rintro e w6 ⟨rfl, hb2⟩; replace HBX := hide hb2; clear hb2)
        | (go_at_call_of 28 (Value.int .i64 py); refine (HCq.out _ (by first | exact HBX.out | exact below_drew HBX.out)).mono ?_; rintro e w7 ⟨rfl, hb2⟩; replace HBX := hide hb2; clear hb2)
        | (go_at_call 19; refine (HLn.out _ (by first | exact HBX.out | exact below_drew HBX.out)).mono ?_; rintro e w8 ⟨rfl, hs3⟩; have HS3 := hide hs3; clear hs3)
        | fail)
      go_wp2_with fail
      go_roundw
      case rel => exact ⟨i + 1, Nat.succ_le_of_lt hlt, by go_num, by rw [← HTX.out]; exact HS3.out.1⟩
      case measure => exact mdec hlt
    · have hii : i = k := by omega
      subst hii
      have hb := g_good pt0 itP vdP (hd := lineW pCo [ct (i : Int)]) (l := l) (okP _ _)
      rw [← HN.out] at hb
      have HBd := hide hb
      have HSt := hide (sw_string HS.out)
      clear hb
      go_wp2_with (first
        | (go_at_call 23; refine HSt.out.mono ?_; rintro e w6 ⟨rfl, hb6⟩; have HE := hide hb6; clear hb6)
        | fail)
      go_ret2
      rw [HBd.out.1, HBd.out.2]
      exact ⟨rfl, HBR.out.trans (HE.out.mono HBR.out.size)⟩
end Go.Proofs.YtmejgjhijdcahaaDoor
