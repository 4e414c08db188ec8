/- ShowSs. -/
import Derived.Test.YtmejgjhijdcahaaDoorSw
import Derived.Deep.RegionWith
namespace Go.Proofs.YtmejgjhijdcahaaDoor
open Go.Shelf Go.RowKit Go.Sort Go.Lib
set_option linter.unusedVariables false
set_option linter.unusedSimpArgs false
set_option maxHeartbeats 2000000 in
set_option maxRecDepth 100000 in
theorem showSs_big (v : Value) (l : List Int) (w : World) (h : RAt iArr 1 w v l) (hb : 4194304 < l.length) : Calls Tryd.prog 9 #[v] w fun e w' => e = .returned (.tuple #[.string ⟨#[]⟩, .int .i64 22]) ∧ w' = w := by
  obtain ⟨ao, cap, rfl, hc1, hc2⟩ := h.shape
  clear h hc1 hc2
  obtain ⟨n, hn⟩ : ∃ n, n = l.length := ⟨_, rfl⟩
  rw [← hn] at hb ⊢
  have hbi : (4194304 : Int) < (n : Int) := by omega
  clear hb hn
  go_enter Tryd.func9, Tryd.ntmps9
  go_wp2
  go_ret2
  exact ⟨rfl, rfl⟩
set_option maxHeartbeats 2000000 in
set_option maxRecDepth 100000 in
theorem showSs_any (v : Value) (l : List Int) (w : World) (h : RAt iArr 1 w v l) (hb : l.length ≤ 4194304) (hp : Pow w) : Calls Tryd.prog 9 #[v] w fun e w' => e = .returned (.tuple #[.string (gS 0 itI vdI (lineW pSs [ct (l.length : Int)]) l), .int .i64 (gE 0 vdI l)]) ∧ Below w.heap.size w w' := by
  obtain ⟨ao, cap, rfl, hc1, hc2⟩ := h.shape
  have HA := hide (fun i hi => h.at i hi)
  clear h
  obtain ⟨n, hn⟩ : ∃ n, n = l.length := ⟨_, rfl⟩
  have HN := hide hn
  rw [← hn] at hb hc1 ⊢
  have hbi : ¬ (4194304 : Int) < (n : Int) := by omega
  have HB := hide hb; have HC := hide hc2; have HC1 := hide hc1; have HP := hide hp
  clear hn hb hc1 hc2 hp
  go_enter Tryd.func9, Tryd.ntmps9
  go_wp2_with fail
  go_loopw [15] (fun t wr => ∃ k : Nat, k ≤ n ∧ t = .int .i64 k ∧ okN 0 vdI l k ∧ wr = w) (fun t _ => n - (RowKit.intOf t).toNat)
  case atStart => exact ⟨0, by omega, rfl, fun i hi => by omega, rfl⟩
  case round =>
    obtain ⟨k, hk, rfl, hok, hwr⟩ := hrel
    have hwr2 := hwr.symm; subst hwr2; clear hwr
    have HO := hide hok
    clear hok
    by_cases hlt : k < n
    · obtain ⟨g, o, rfl, hg, hcell⟩ := HA.out k (by have := HN.out; omega)
      have hx : w.cell? ⟨g, o + k, none⟩ = some (.int .i64 (aAt 0 l k)) := by
        have := hcell 0 (.int .i64 (l[k]'(by have := HN.out; omega))) rfl
        simp only [Nat.mul_one, Nat.add_zero] at this
        rw [this]
        simp [aAt, List.getElem?_eq_getElem (show k < l.length by have := HN.out; omega)]
      have hkm : (k : Int) + 1 ≤ 9223372036854775807 := by have := HB.out; omega
      have hkc : (k : Int) < cap := by have := HC1.out; omega
      clear hcell
      have hR := isVertex_any 1048576 (aAt 0 l k) w
      by_cases hv : 0 ≤ aAt 0 l k ∧ aAt 0 l k < 1048576
      · have HVD : Hid (vdI (aAt 0 l k) = 0) := by unfold vdI; rw [if_pos hv]; exact hide rfl
        rw [decide_eq_true hv] at hR
        have HR := hide hR
        clear hR hv
        have HVD2 := HVD
        generalize aAt 0 l k = xv at hx HR HVD
        go_wp2_with fail
        refine HR.out.mono ?_
        rintro e w2 ⟨rfl, hww⟩; subst hww
        go_wp2_with fail
        refine ⟨⟨k + 1, by omega, by go_num, ?_, trivial⟩, ?_⟩
        · exact okN_next 0 vdI HO.out HVD2.out
        · simp [RowKit.intOf]; omega
      · have hvd : vdI (aAt 0 l k) = 30 := by unfold vdI; rw [if_neg hv]
        have hb := g_bad 0 itI vdI (hd := lineW pSs [ct (n : Int)]) (show k < l.length by have := HN.out; omega) (by rw [hvd]; decide) HO.out
        rw [hvd] at hb
        rw [decide_eq_false hv] at hR
        have HR := hide hR; have HBd := hide hb
        clear hv hvd hb hR
        generalize aAt 0 l k = xv at hx HR
        go_wp2_with fail
        refine HR.out.mono ?_
        rintro e w2 ⟨rfl, hww⟩; subst hww
        go_wp2_with fail
        go_ret2
        rw [HBd.out.1, HBd.out.2]
        exact ⟨rfl, Below.refl _ _⟩
    · have hkn : k = n := by omega
      subst hkn
      go_wp2_with fail
      refine (kindI _).mono ?_
      rintro e w1 ⟨⟨ga, rfl⟩, hb1⟩
      go_wp2_with fail
      have HS0 : Hid (SW w (w1.alloc (.cells #[.string (bs pSs), .slice (some ⟨ga, 0, none⟩) 1 1, .string (bs [115]), .string ⟨#[118]⟩, .bool false] 59)) w1.heap.size #[.string (bs pSs), .slice (some ⟨ga, 0, none⟩) 1 1, .string (bs [115]), .string ⟨#[118]⟩, .bool false] []) := sw_start hb1
      clear hb1
      generalize (w1.alloc (.cells #[.string (bs pSs), .slice (some ⟨ga, 0, none⟩) 1 1, .string (bs [115]), .string ⟨#[118]⟩, .bool false] 59)) = W0 at HS0 ⊢
      generalize w1.heap.size = kb at HS0 ⊢
      have HSA : Hid (∀ W, Below W0.heap.size W0 W → SW w W kb #[.string (bs pSs), .slice (some ⟨ga, 0, none⟩) 1 1, .string (bs [115]), .string ⟨#[118]⟩, .bool false] []) := fun W h => HS0.out.on h
      have c0 : W0.cell? ⟨kb, 0, none⟩ = some (.string (bs pSs)) := HS0.out.cell rfl
      have HCt : Hid (∀ W, Below W0.heap.size W0 W → Calls Tryd.prog 20 #[.int .i64 (k : Int)] W fun e w' => e = .returned (.string (bs (ct (k : Int)))) ∧ Below W.heap.size W w') := fun W h => count_any k (by have := HB.out; omega) W (sw_pow HP.out (below_on HS0.out.bel h))
      have HLn : Hid (∀ W, SW w W kb #[.string (bs pSs), .slice (some ⟨ga, 0, none⟩) 1 1, .string (bs [115]), .string ⟨#[118]⟩, .bool false] [] → Calls Tryd.prog 19 #[.pointer (some ⟨w.heap.size, 0, none⟩), .string (bs pSs), .slice (some ⟨W.heap.size, 0, none⟩) 1 1] (W.alloc (.cells #[.string (bs (ct (k : Int)))] 9)) fun e w' => e = .returned (.tuple #[]) ∧ SW w w' kb #[.string (bs pSs), .slice (some ⟨ga, 0, none⟩) 1 1, .string (bs [115]), .string ⟨#[118]⟩, .bool false] ([] ++ lineW pSs [ct (k : Int)])) := fun W h => (sw_line1 h pSs (ct (k : Int)) (by have := ct_len k (by have := HB.out; omega); unfold lineW; simp [pSs]; omega) ).mono fun e w' h => ⟨h.1, h.2.1⟩
      clear hbi hk hlt
      go_region_held3 (fun X => X.cell? ⟨kb, 0, none⟩ = some (.string (bs pSs))) (first | go_keep | exact HK1.out) (first
        | (go_at_call 20; refine (HCt.out _ (by first | exact Below.refl _ _ | exact below_drew (Below.refl _ _) | exact below_drew (below_drew (Below.refl _ _)))).mono ?_; rintro e w2 ⟨rfl, hb2⟩; have HB2 := hide hb2; have HK1 : Hid (w2.cell? ⟨kb, 0, none⟩ = some (.string (bs pSs))) := (HSA.out w2 (below_on (by first | exact Below.refl _ _ | exact below_drew (Below.refl _ _) | exact below_drew (below_drew (Below.refl _ _))) hb2)).cell rfl; clear hb2)
        | (go_at_call 19; refine (HLn.out _ (HSA.out _ (by first | exact below_on (Below.refl _ _) HB2.out | exact below_on (below_drew (Below.refl _ _)) HB2.out | exact below_on (below_drew (below_drew (Below.refl _ _))) HB2.out))).mono ?_; rintro e w3 ⟨rfl, hs3⟩; have HS3 := hide hs3; have HK1 : Hid (w3.cell? ⟨kb, 0, none⟩ = some (.string (bs pSs))) := hs3.cell rfl; clear hs3)
        | fail)
      go_wp2_with fail
      clear c0 HK1 HB2 HLn HCt HSA
      have HS4 : Hid (SW w w3 kb #[.string (bs pSs), .slice (some ⟨ga, 0, none⟩) 1 1, .string (bs [115]), .string ⟨#[118]⟩, .bool false] (lineW pSs [ct (k : Int)] ++ tx 0 itI l 0)) := by
        have := HS3.out
        simp only [List.nil_append] at this
        simp only [tx, List.append_nil]
        exact this
      clear HS3 HS0
      go_loopw [33] (fun t wx => ∃ i : Nat, i ≤ k ∧ t = .int .i64 i ∧ SW w wx kb #[.string (bs pSs), .slice (some ⟨ga, 0, none⟩) 1 1, .string (bs [115]), .string ⟨#[118]⟩, .bool false] (lineW pSs [ct (k : Int)] ++ tx 0 itI l i)) (fun t _ => k - (RowKit.intOf t).toNat)
      case atStart => exact ⟨0, Nat.zero_le _, rfl, HS4.out⟩
      case round =>
        obtain ⟨i, hi, rfl, hs⟩ := hrel
        have HS := hide hs
        clear hs HS4
        by_cases hlt : i < k
        · obtain ⟨g, o, rfl, hg, hcell⟩ := HA.out i (by have := HN.out; omega)
          have hx : wr.cell? ⟨g, o + i, none⟩ = some (.int .i64 (aAt 0 l i)) := by
            have := hcell 0 (.int .i64 (l[i]'(by have := HN.out; omega))) rfl
            simp only [Nat.mul_one, Nat.add_zero] at this
            rw [below_cell HS.out.bel hg, this]
            simp [aAt, List.getElem?_eq_getElem (show i < l.length by have := HN.out; omega)]
          have hvd := HO.out i hlt
          have hr : 0 ≤ aAt 0 l i ∧ aAt 0 l i < 1048576 := by
            unfold vdI at hvd
            split at hvd
            · assumption
            · cases hvd
          obtain ⟨m, hm⟩ : ∃ m : Nat, aAt 0 l i = (m : Int) := ⟨(aAt 0 l i).toNat, by omega⟩
          have hm2 : m < 1048576 := by omega
          have HTX : Hid (lineW pSs [ct (k : Int)] ++ tx 0 itI l i ++ lineW [115] [vx (m : Int)] = lineW pSs [ct (k : Int)] ++ tx 0 itI l (i + 1)) := by
            show _ = _
            rw [tx, hm, List.append_assoc]; rfl
          have HLE : Hid ((lineW pSs [ct (k : Int)] ++ tx 0 itI l i).length + (lineW [115] [vx (m : Int)]).length ≤ 140737488355328) := by
            show _ ≤ _
            have h1 := ss_len (k := i) (l := l) (fun j hj => HO.out j (by omega)); have h2 := ct_len k (by have := HB.out; omega); have h3 := vx_len m (by omega); have := HB.out
            rw [List.length_append]; unfold lineW; simp [pSs]; omega
          rw [hm] at hx
          have hkm : (i : Int) + 1 ≤ 9223372036854775807 := by have := HB.out; omega
          have hkc : (i : Int) < cap := by have := HC1.out; omega
          have HSA : Hid (∀ W, Below wr.heap.size wr W → SW w W kb #[.string (bs pSs), .slice (some ⟨ga, 0, none⟩) 1 1, .string (bs [115]), .string ⟨#[118]⟩, .bool false] (lineW pSs [ct (k : Int)] ++ tx 0 itI l i)) := fun W h => HS.out.on h
          have c2 : wr.cell? ⟨kb, 2, none⟩ = some (.string (bs [115])) := HS.out.cell rfl
          have HCt : Hid (∀ W, Below wr.heap.size wr W → Calls Tryd.prog 21 #[.int .i64 (m : Int)] W fun e w' => e = .returned (.string (bs (vx (m : Int)))) ∧ Below W.heap.size W w') := fun W h => vertex_any m (by omega) W (sw_pow HP.out (below_on HS.out.bel h))
          have HLn : Hid (∀ W, SW w W kb #[.string (bs pSs), .slice (some ⟨ga, 0, none⟩) 1 1, .string (bs [115]), .string ⟨#[118]⟩, .bool false] (lineW pSs [ct (k : Int)] ++ tx 0 itI l i) → Calls Tryd.prog 19 #[.pointer (some ⟨w.heap.size, 0, none⟩), .string (bs [115]), .slice (some ⟨W.heap.size, 0, none⟩) 1 1] (W.alloc (.cells #[.string (bs (vx (m : Int)))] 9)) fun e w' => e = .returned (.tuple #[]) ∧ SW w w' kb #[.string (bs pSs), .slice (some ⟨ga, 0, none⟩) 1 1, .string (bs [115]), .string ⟨#[118]⟩, .bool false] (lineW pSs [ct (k : Int)] ++ tx 0 itI l i ++ lineW [115] [vx (m : Int)])) := fun W h => (sw_line1 h [115] (vx (m : Int)) HLE.out).mono fun e w' h => ⟨h.1, h.2.1⟩
          clear hcell hvd hr hm hm2 hg
          go_wp2_with fail
          go_region_held3 (fun X => X.cell? ⟨kb, 2, none⟩ = some (.string (bs [115]))) (first | go_keep | exact HK1.out) (first
            | (go_at_call 21; refine (HCt.out _ (by first | exact Below.refl _ _ | exact below_drew (Below.refl _ _) | exact below_drew (below_drew (Below.refl _ _)))).mono ?_; rintro e w4 ⟨rfl, hb2⟩; have HB2 := hide hb2; have HK1 : Hid (w4.cell? ⟨kb, 2, none⟩ = some (.string (bs [115]))) := (HSA.out w4 (below_on (by first | exact Below.refl _ _ | exact below_drew (Below.refl _ _) | exact below_drew (below_drew (Below.refl _ _))) hb2)).cell rfl; clear hb2)
            | (go_at_call 19; refine (HLn.out _ (HSA.out _ (by first | exact below_on (Below.refl _ _) HB2.out | exact below_on (below_drew (Below.refl _ _)) HB2.out | exact below_on (below_drew (below_drew (Below.refl _ _))) HB2.out))).mono ?_; rintro e w5 ⟨rfl, hs3⟩; have HS3 := hide hs3; have HK1 : Hid (w5.cell? ⟨kb, 2, none⟩ = some (.string (bs [115]))) := hs3.cell rfl; clear hs3)
            | fail)
          go_wp2_with fail
          go_roundw
          case rel => exact ⟨i + 1, Nat.succ_le_of_lt hlt, by go_num, by rw [← HTX.out]; exact HS3.out⟩
          case measure => exact mdec hlt
        · have hii : i = k := by omega
          subst hii
          have hb := g_good 0 itI vdI (hd := lineW pSs [ct (i : Int)]) (l := l) (by have := HN.out; rw [← this]; exact HO.out)
          rw [← HN.out] at hb
          have HBd := hide hb
          have HSt := hide (sw_string HS.out)
          clear hb
          go_wp2_with (first
            | (go_at_call 23; refine HSt.out.mono ?_; rintro e w6 ⟨rfl, hb6⟩; have HE := hide hb6; clear hb6)
            | fail)
          go_ret2
          rw [HBd.out.1, HBd.out.2]
          exact ⟨rfl, HE.out⟩
end Go.Proofs.YtmejgjhijdcahaaDoor
