/- TopSealed: the walk. -/
import Derived.Test.YtpfpelhhebafeaaDoorRBytes
import Derived.BigQuiet
import Derived.Laws.BytesArg
namespace Go.Proofs.YtpfpelhhebafeaaDoor
open Go.RowKit Go.Lib
set_option linter.unusedVariables false

theorem Own8.but {w w' : World} {B g c r : Nat} {cs : List Int} (h : Own8 w B g c cs) (hb : But r w w') (hg : g ≠ r) : Own8 w' B g c cs := by
  obtain ⟨h1, ⟨he, _⟩ | ⟨g', cap, cur, he, hgB, hh, hr⟩⟩ := h.own
  · simp at he
  · simp only [Value.slice.injEq, Option.some.injEq, Addr.mk.injEq, true_and, and_true] at he
    obtain ⟨rfl, rfl⟩ := he
    exact ⟨h1, .inr ⟨g, c, cur, rfl, hgB, hb.heap hh hg, hr⟩⟩
theorem own_but {w w' : World} {B r n : Nat} {v : Value} {xs : List Value} (h : w.ownsRow B 5 1 v n xs) (hb : But r w w') (hr : r < B) : w'.ownsRow B 5 1 v n xs := by
  obtain ⟨h1, h2 | ⟨g, cap, cur, he, hgB, hh, hrest⟩⟩ := h
  · exact ⟨h1, .inl h2⟩
  · exact ⟨h1, .inr ⟨g, cap, cur, he, hgB, hb.heap hh (by omega), hrest⟩⟩
theorem conv_row {w : World} {ao : Option Addr} {n c : Nat} {xs : List Int} (h : RowAt .u8 w (.slice ao n c) xs) : (convert 22 9 (.slice ao n c)).run Tryd.prog w = .ok (.string (strOfNums xs)) w := by
  obtain ⟨ao', c', he, h1, h2, h3, h4⟩ := h
  simp only [Value.slice.injEq] at he
  obtain ⟨rfl, rfl, rfl⟩ := he
  cases ao with
  | none =>
    have h0 : xs = [] := List.eq_nil_of_length_eq_zero (by have := h3 rfl; omega)
    subst h0
    exact run_convert_bytes_nil w 22 5 Tryd.underlying22 Tryd.underlying5 _ _ 9 Tryd.underlying9
  | some a =>
    have hl : (loadCells a xs.length).run Tryd.prog w = .ok (xs.map (Value.int .u8)).toArray w := by
      have := run_loadCells_list (P := Tryd.prog) w a (xs.map (Value.int .u8)) (row_cells (h4 a rfl))
      simpa using this
    rw [run_convert_bytes_string w 22 9 5 _ _ _ Tryd.underlying22 Tryd.underlying5 Tryd.underlying9, run_bytesToString w _ _ _ xs hl, foldl_push_bytes]
    simp [strOfNums, ByteArray.empty, ByteArray.emptyWithCapacity]
    rfl

set_option maxRecDepth 100000 in
set_option maxHeartbeats 4000000 in
theorem sealed_law (v : Value) (bs : List Int) (bit : Int) (P : Nat) (W0 : World) (hv : RowAt .u8 W0 v bs) (hs : SumsAt W0) (hby : ∀ x ∈ bs, 0 ≤ x ∧ x < 256) (hbig : bs.length ≤ 140737488351232) (hb0 : -9223372036854775808 ≤ bit ∧ bit ≤ 9223372036854775807) (hP : P < 4294967296) :
    Calls Tryd.prog 4 #[v, .int .i64 bit, .int .u32 P] W0 fun e w' => e = .returned (.bool true) ∧ Below W0.heap.size W0 w' := by
  have HV := hide hv
  obtain ⟨ao, c, rfl⟩ : ∃ ao c, v = .slice ao bs.length c := by obtain ⟨ao, c, h, _⟩ := hv; exact ⟨ao, c, h⟩
  have HS := hide hs
  have HBY := hide hby
  clear hv hs hby
  go_enter Tryd.func4, Tryd.ntmps4
  go_wp2_with fail
  refine (newWriter_any W0).mono ?_
  rintro e w2 ⟨b, rfl, hw2, hb2⟩
  have HB2 := hide (hb2)
  have HV2 := hide (HV.out.below hb2)
  have hsz2 := hb2.size
  have HW2 := hide hw2
  clear hw2 hb2
  go_wp2_with fail
  refine (wbytes_any w2 W0.heap.size b _ [] _ bs HW2.out hsz2 HV2.out (by simp; omega)).mono ?_
  rintro e w3 ⟨rfl, v3, hw3, ht3⟩
  rw [List.nil_append] at hw3
  have HB3 := hide (HB2.out.trans ht3.bel)
  have hsz3 : W0.heap.size ≤ w3.heap.size := Nat.le_trans hsz2 ht3.bel.size
  have HW3 := hide hw3
  clear hw3 ht3 HB2 HW2 hsz2 HV2
  go_wp2_with fail
  refine (seal_any w3 W0.heap.size b _ bs HW3.out hsz3 (HS.out.belB HB3.out HS.out.1) HBY.out (by omega)).mono ?_
  rintro e w4 ⟨rfl, v4, hw4, ht4⟩
  have HB4 := hide (HB3.out.trans ht4.bel)
  have HW4 := hide hw4
  clear hw4 ht4 HB3 HW3 hsz3
  go_wp2_with fail
  refine (out_own w4 W0.heap.size b _ _ HW4.out (by rw [List.length_append, le_length]; omega)).mono ?_
  rintro e w5 ⟨v5, rfl, hown5, hb5⟩
  obtain ⟨C0, hC0⟩ : ∃ C0, C0 = bs ++ le (crc bs) 4 := ⟨_, rfl⟩
  rw [← hC0] at hown5
  have hC0l : C0.length = bs.length + 4 := by rw [hC0, List.length_append, le_length]
  have HSL : Hid (Sealed C0) := by rw [hC0]; exact sealed_made bs HBY.out
  have HTK : Hid (C0.take bs.length = bs) := by rw [hC0]; exact List.take_left
  have HCB : Hid (∀ x ∈ C0, 0 ≤ x ∧ x < 256) := by
    rw [hC0]
    intro x hx
    rcases List.mem_append.1 hx with h | h
    · exact HBY.out x h
    · exact le_bytes _ _ x h
  obtain ⟨g, cc, rfl⟩ : ∃ g cc, v5 = .slice (some ⟨g, 0, none⟩) C0.length cc := by
    obtain ⟨_, ⟨he, h0⟩ | ⟨g', cap, cur, he, _⟩⟩ := hown5
    · omega
    · exact ⟨g', cap, he⟩
  have HO5 : Hid (Own8 w5 w4.heap.size g cc C0) := ⟨hown5⟩
  have HB5 := hide (below_on HB4.out hb5)
  have hgl : W0.heap.size ≤ g := Nat.le_trans HB4.out.size HO5.out.parts.1
  have hccl := HO5.out.parts.2.1
  obtain ⟨N, hN⟩ : ∃ N, N = bs.length := ⟨_, rfl⟩
  obtain ⟨M, hM⟩ : ∃ M, M = C0.length := ⟨_, rfl⟩
  rw [← hM] at hccl hC0l ⊢
  rw [← hN] at hbig hC0l HTK ⊢
  have HN := hide hN
  have HM := hide hM
  have HMN := hide hC0l
  have hMN : ((M : Int) != (N : Int) + 4) = false := by simp; omega
  have hMbig : M ≤ 140737488351236 := by omega
  have hM4 : 4 ≤ M := by omega
  clear hown5 hb5 hC0 HB4 HW4 hN hM hC0l
  have HNR := hide (newReader_any w5 _ C0 HO5.out.row (by rw [← HM.out]; omega))
  rw [← HM.out] at HNR
  go_wp2_with fail
  refine HNR.out.mono ?_
  rintro e w6 ⟨r, rfl, hr6, hrd6, hb6⟩
  have HB6 := hide (below_on HB5.out hb6)
  have HO6 := hide (HO5.out.below hb6)
  have HRD6 := hide hrd6
  have hr0 : 0 < r := by have := HB5.out.size; have := HS.out.1; omega
  have hrW : W0.heap.size ≤ r := by have := HB5.out.size; omega
  have hgr : g ≠ r := by obtain ⟨_, _, cur, hh, _⟩ := HO5.out.parts; have := lt_of_heap hh; omega
  clear hrd6 hb6 HNR HO5 HB5 hr6
  go_wp2_with fail
  refine (rbytes_any w6 r 0 N C0 HRD6.out (by rw [← HM.out]; have := HMN.out; omega) (by rw [← HM.out]; omega) (by rw [← HM.out]; omega)).mono ?_
  rintro e w7 ⟨a7, c7, rfl, hown7, hrd7, hbut7⟩
  have hxs : (C0.take (0 + N)).drop 0 = bs := by rw [Nat.zero_add, List.drop_zero]; exact HTK.out
  rw [hxs] at hown7
  have HB7 := hide (But.below HB6.out hbut7 hrW HB6.out.size)
  have HSM7 : Hid (SumsAt w7) := HS.out.belB HB7.out HS.out.1
  have HRD7 := hide hrd7
  have HO7 : Hid (Own8 w7 w4.heap.size g cc C0) := HO6.out.but hbut7 hgr
  have hr6 : r < w6.heap.size := by obtain ⟨_, _, hh, _⟩ := HRD6.out; exact lt_of_heap hh
  have HG7 := hide (show w7.ownsRow w6.heap.size 5 1 (.slice a7 N c7) bs.length (bs.map (Value.int .u8)) by rw [← HN.out]; exact hown7)
  rw [Nat.zero_add] at hrd7
  obtain ⟨l, hl1, hl2, hl3, hl4⟩ := last_four C0 HCB.out (p := N) (by rw [← HM.out]; exact HMN.out.symm)
  have HSD := hide (sealed_right w7 r N 0 C0 l hrd7 hl1 hl2 hl3 (by rw [← HM.out]; have := HMN.out; omega) (by rw [← HM.out]; omega) (by omega) HSM7.out hr0 HCB.out (hl4.2 HSL.out))
  clear hown7 hrd7 hbut7 hxs hl1 hl2 hl3 hl4 HB6 HO6 HRD6 HRD7
  go_wp2_with fail
  refine HSD.out.mono ?_
  rintro e w8 ⟨rfl, hrd8, hbut8⟩
  have HB8 := hide (But.below HB7.out hbut8 hrW HB7.out.size)
  have HO8 : Hid (Own8 w8 w4.heap.size g cc C0) := HO7.out.but hbut8 hgr
  have HG8 := hide (RowAt.of_owns (own_but HG7.out hbut8 hr6))
  have HV8 := hide (HV.out.below HB8.out)
  have HLF := hide (left_any w8 r C0 (N + 4) hrd8 (by rw [← HM.out, HMN.out]; exact Nat.le_refl _) (by rw [← HM.out]; omega))
  rw [← HM.out, HMN.out, show (((N + 4 : Nat) : Int) - ((N + 4 : Nat) : Int)) = 0 by omega] at HLF
  clear hrd8 hbut8 HO7 HB7 HSD HSM7 HG7 hr6
  go_wp2_with fail
  refine HLF.out.mono ?_
  rintro e w9 ⟨rfl, hb9⟩
  have HB9 := hide (below_on HB8.out hb9)
  have HO9 := hide (HO8.out.below hb9)
  have hc1 := conv_row (HG8.out.below hb9)
  have hc2 := conv_row (HV8.out.below hb9)
  rw [← HN.out] at hc2
  clear hb9 HB8 HO8 HG8 HV8 HLF
  obtain ⟨SS, hSS⟩ : ∃ SS, SS = strOfNums bs := ⟨_, rfl⟩
  rw [← hSS] at hc1 hc2
  clear hSS
  go_upto_if 74 with fail
  have hq1 : -(8 * (M : Int)) < bit.tmod (8 * (M : Int)) := by
    have h1 := Int.lt_tmod_of_pos bit (show 0 < 8 * (M : Int) by omega)
    omega
  have hq2 : bit.tmod (8 * (M : Int)) < 8 * (M : Int) := Int.tmod_lt_of_pos bit (by omega)
  obtain ⟨q, hq⟩ : ∃ q, q = bit.tmod (8 * (M : Int)) := ⟨_, rfl⟩
  rw [← hq] at hq1 hq2 ⊢
  clear hq
  go_cut [15] from 73 to 77 (fun x wx => ∃ t : Nat, x = .int .i64 t ∧ t < 8 * M ∧ wx = w9)
  case first =>
    by_cases hneg : q < 0
    · have hbn : decide (q < 0) = true := decide_eq_true hneg
      have HZ : Hid (q + 8 * (M : Int) = (((q + 8 * (M : Int)).toNat : Nat) : Int)) := by show q + 8 * (M : Int) = (((q + 8 * (M : Int)).toNat : Nat) : Int); omega
      go_wp2
      go_meet
      case rel => exact ⟨(q + 8 * (M : Int)).toNat, by rw [← HZ.out], by omega, rfl⟩
    · have hbn : decide (q < 0) = false := decide_eq_false hneg
      go_wp2
      go_meet
      case rel => exact ⟨q.toNat, by rw [show ((q.toNat : Nat) : Int) = q by omega], by omega, rfl⟩
  case rest =>
  obtain ⟨t, rfl, ht8, rfl⟩ := hcut
  obtain ⟨A, hA⟩ : ∃ A, A = 8 * M := ⟨_, rfl⟩
  rw [show 8 * (M : Int) = (A : Int) by omega]
  have HA := hide hA
  rw [← hA] at ht8
  have hAbig : A ≤ 1125899906809888 := by omega
  clear hA hq1 hq2 hc1 hc2
  go_wp2_with fail
  go_loopw [16, 17] (fun x y wr => ∃ (i u : Nat) (cs : List Int), i ≤ 32 ∧ u ≤ i ∧ (0 < u ↔ P % 2 ^ i ≠ 0) ∧ t + i ≤ A ∧ x = .int .i64 u ∧ y = .int .i64 i ∧ cs.length = M ∧ (∀ z ∈ cs, 0 ≤ z ∧ z < 256) ∧ num cs = num C0 ^^^ (2 ^ t * (P % 2 ^ i)) ∧ Own8 wr w4.heap.size g cc cs ∧ Below W0.heap.size W0 wr) (fun _ y _ => 32 - (RowKit.intOf y).toNat)
  case atStart =>
    refine ⟨0, 0, C0, by omega, by omega, ?_, by omega, rfl, rfl, HM.out.symm, HCB.out, ?_, HO9.out, HB9.out⟩
    · simp [Nat.mod_one]
    · simp [Nat.mod_one]
  case round =>
    obtain ⟨i, u, cs, hi, hui, hup, hti, rfl, rfl, hcl, hcb, hnum, hO, hB⟩ := hrel
    clear HO9 HB9
    by_cases hlt : i < 32 ∧ t + i < A
    · obtain ⟨hl1, hl2⟩ := hlt
      have hkM : (t + i) / 8 < M := by have := HA.out; omega
      obtain ⟨y, hy⟩ : ∃ y : Nat, cs[(t + i) / 8]?.getD 0 = (y : Int) := by
        have := hcb (cs[(t + i) / 8]'(by omega)) (List.getElem_mem _)
        exact ⟨(cs[(t + i) / 8]'(by omega)).toNat, by rw [List.getElem?_eq_getElem (by omega)]; simp; omega⟩
      have d0 := hO.cell (k := (t + i) / 8) (by omega)
      have f0 := hO.free ((t + i) / 8)
      rw [hy] at d0
      have hkI : ((t : Int) + (i : Int)) / 8 < (M : Int) := by omega
      have hy8 : y < 256 := by
        have := hcb (cs[(t + i) / 8]'(by omega)) (List.getElem_mem _)
        rw [List.getElem?_eq_getElem (by omega)] at hy
        simp only [Option.getD_some] at hy
        omega
      have hd2 := and_bit P i hP
      rcases Nat.mod_two_eq_zero_or_one (P / 2 ^ i) with hbit | hbit
      · rw [hbit] at hd2
        have HNX := hide (turn_none hbit)
        have HNM := hide hnum
        have HCBS := hide hcb
        have HO2 := hide hO
        have HB2 := hide hB
        have HUP := hide hup
        clear hbit hnum hcb hO hB d0 f0 hy hy8 hup
        go_wp2_with fail
        go_roundw
        case rel => exact ⟨i + 1, u, cs, by omega, by omega, by rw [HNX.out]; exact HUP.out, by omega, rfl, by simp, hcl, HCBS.out, by rw [HNX.out]; exact HNM.out, HO2.out, HB2.out⟩
        case measure => simp [RowKit.intOf]; omega
      · rw [hbit] at hd2
        have HNX := hide (turn_bit hcb hnum (k := (t + i) / 8) (j := (t + i) % 8) (by omega) (by omega) (by omega) hbit)
        have HSB := hide (set_bytes hcb ((t + i) / 8) ((t + i) % 8) (by omega))
        have HPT := hide (hO.put (k := (t + i) / 8) (by omega) ((y ^^^ 2 ^ ((t + i) % 8) : Nat) : Int))
        have HTS := hide (turn_some hbit)
        have HBP := hide (fun v => hB.setCell (p := ⟨g, (t + i) / 8, none⟩) hgl v)
        rw [hy, Int.toNat_natCast] at HNX HSB
        have HXB := hide (xor_bit8 y ((t + i) % 8) hy8 (by omega))
        clear hcb hnum hO hB hbit hy hy8 hup
        go_wp2_with fail
        go_roundw
        case rel =>
          rw [HXB.out]
          exact ⟨i + 1, u + 1, cs.set ((t + i) / 8) ((y ^^^ 2 ^ ((t + i) % 8) : Nat) : Int), by omega, by omega, ⟨fun _ => HTS.out, fun _ => Nat.succ_pos u⟩, by omega, by simp, by simp, by simpa using hcl, HSB.out, HNX.out, HPT.out, HBP.out _⟩
        case measure => simp [RowKit.intOf]; omega
    · have hPi : P % 2 ^ i < 4294967296 := by
        have h1 : 2 ^ i ≤ 2 ^ 32 := Nat.pow_le_pow_right (by decide) hi
        exact Nat.lt_of_lt_of_le (Nat.mod_lt _ (Nat.two_pow_pos i)) h1
      have hbur := burst C0 cs HCB.out hcb (by rw [hcl]; exact HM.out) (by rw [← HM.out]; exact hM4) HSL.out hPi (b := t) (by have := HA.out; rw [← HM.out]; omega) hnum
      obtain ⟨l2, hl1, hl2, hl3, hl4⟩ := last_four cs hcb (p := N) (by rw [hcl]; exact HMN.out.symm)
      have HL := hide (And.intro hl1 (And.intro hl2 hl3))
      have HSE := hide (hl4.trans hbur)
      have HUP := hide hup
      have HO2 := hide hO
      have HB2 := hide hB
      have HCBS := hide hcb
      have HCL := hide hcl
      obtain ⟨wq, hwq⟩ : ∃ wq, wq = wr := ⟨_, rfl⟩
      subst hwq
      have hrow := hO.row
      rw [hcl] at hrow
      have HNR := hide (newReader_any wq _ cs hrow (by rw [hcl]; omega))
      have hgd : i < 32 → ¬ (t : Int) + (i : Int) < (A : Int) := fun h => by omega
      have hwz : 0 < W0.heap.size := HS.out.1
      have hqsz : W0.heap.size ≤ wq.heap.size := hB.size
      clear hl1 hl2 hl3 hl4 hbur hnum hcb hcl hO hB hPi hrow hlt hup
      go_upto_region 18 with fail
      go_cut [86] from 78 to 85 (fun x wx => x = .bool false ∧ wx = wq)
      case first =>
        by_cases h32 : i < 32
        · have h33 := hgd h32
          have h34 : (i : Int) < 32 := by omega
          clear hgd
          go_wp2
          go_meet
          case rel => exact ⟨rfl, rfl⟩
        · have h34 : ¬ (i : Int) < 32 := by omega
          clear hgd
          go_wp2
          go_meet
          case rel => exact ⟨rfl, rfl⟩
      case rest =>
      obtain ⟨rfl, rfl⟩ := hcut
      clear hgd
      go_wp2_with fail
      refine HNR.out.mono ?_
      rintro e w10 ⟨r2, rfl, hr10, hrd10, hb10⟩
      have HB10 := hide (below_on HB2.out hb10)
      have HRD10 := hide hrd10
      have hr20 : 0 < r2 := by omega
      have hr2W : W0.heap.size ≤ r2 := by omega
      clear hrd10 hb10 HNR HO2 HB2 hr10
      have hNM := HMN.out
      go_wp2_with fail
      refine (rbytes_any w10 r2 0 N cs HRD10.out (by rw [HCL.out]; omega) (by rw [HCL.out]; omega) (by rw [HCL.out]; omega)).mono ?_
      rintro e w11 ⟨a11, c11, rfl, hown11, hrd11, hbut11⟩
      have HB11 := hide (But.below HB10.out hbut11 hr2W HB10.out.size)
      have HSM11 : Hid (SumsAt w11) := HS.out.belB HB11.out HS.out.1
      rw [Nat.zero_add] at hrd11
      have HRD11 := hide hrd11
      clear hown11 hrd11 hbut11 HB10 HRD10
      obtain ⟨hl1, hl2, hl3⟩ := HL.out
      by_cases hz : P % 2 ^ i = 0
      · have hu0 : u = 0 := by
          have h1 := HUP.out
          rcases Nat.eq_zero_or_pos u with h | h
          · exact h
          · exact absurd hz (h1.1 h)
        have HSD2 := hide (sealed_right w11 r2 N 0 cs l2 HRD11.out hl1 hl2 hl3 (by rw [HCL.out]; omega) (by rw [HCL.out]; omega) (by omega) HSM11.out hr20 HCBS.out (HSE.out.2 hz))
        subst hu0
        clear hl1 hl2 hl3 hz
        go_wp2_with fail
        refine HSD2.out.mono ?_
        rintro e w12 ⟨rfl, hrd12, hbut12⟩
        have HB12 := hide (But.below HB11.out hbut12 hr2W HB11.out.size)
        clear hrd12 hbut12 HB11
        go_wp2
        go_ret
        exact ⟨by first | rfl | (simp; done), HB12.out⟩
      · have hu0 : (0 : Int) < (u : Int) := by
          have h1 := HUP.out.2 hz
          omega
        have hud : decide ((0 : Int) < (u : Int)) = true := decide_eq_true hu0
        have HSD2 := hide (sealed_wrong w11 r2 N 0 cs l2 HRD11.out hl1 hl2 hl3 (by rw [HCL.out]; omega) (by rw [HCL.out]; omega) (by omega) HSM11.out hr20 HCBS.out (fun h => hz (HSE.out.1 h)))
        clear hl1 hl2 hl3 hz
        go_wp2_with fail
        refine HSD2.out.mono ?_
        rintro e w12 ⟨rfl, hrd12, hbut12⟩
        have HB12 := hide (But.below HB11.out hbut12 hr2W HB11.out.size)
        clear hrd12 hbut12 HB11
        go_wp2
        go_ret
        exact ⟨by first | rfl | (simp; done) | (simp; omega), HB12.out⟩
end Go.Proofs.YtpfpelhhebafeaaDoor
