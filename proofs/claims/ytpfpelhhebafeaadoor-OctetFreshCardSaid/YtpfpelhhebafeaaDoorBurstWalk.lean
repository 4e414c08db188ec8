/- OctetBurst: the walk. -/
import Derived.Test.YtpfpelhhebafeaaDoorPut
import Derived.Test.YtpfpelhhebafeaaDoorBurst
import Derived.Test.YtpfpelhhebafeaaDoorSame
import Derived.Deep.RegionHeld3
import Derived.Deep.RegionWith
import Derived.Deep.CutRange
namespace Go.Proofs.YtpfpelhhebafeaaDoor
open Go.RowKit Go.Lib
set_option linter.unusedVariables false

/-- A row of bytes of its own, in the block g. -/
structure Own8 (w : World) (B g c : Nat) (cs : List Int) : Prop where
  own : w.ownsRow B 5 1 (.slice (some ⟨g, 0, none⟩) cs.length c) cs.length (cs.map (Value.int .u8))
theorem Own8.row {w : World} {B g c : Nat} {cs : List Int} (h : Own8 w B g c cs) : RowAt .u8 w (.slice (some ⟨g, 0, none⟩) cs.length c) cs := RowAt.of_owns h.own
theorem Own8.parts {w : World} {B g c : Nat} {cs : List Int} (h : Own8 w B g c cs) : B ≤ g ∧ cs.length ≤ c ∧ ∃ cur, w.heap[g]? = some (.cells cur 5 (0, 0)) ∧ cur.size = c ∧ cur.toList.take cs.length = cs.map (Value.int .u8) := by
  obtain ⟨_, ⟨he, _⟩ | ⟨g', cap, cur, he, hg, hh, hnc, hcm, hcur, htake⟩⟩ := h.own
  · simp at he
  · simp only [Value.slice.injEq, Option.some.injEq, Addr.mk.injEq, true_and, and_true] at he
    obtain ⟨rfl, rfl⟩ := he
    exact ⟨hg, hnc, cur, hh, by omega, by simpa using htake⟩
theorem Own8.cell {w : World} {B g c : Nat} {cs : List Int} (h : Own8 w B g c cs) {k : Nat} (hk : k < cs.length) : w.cell? ⟨g, k, none⟩ = some (.int .u8 (cs[k]?.getD 0)) := by
  obtain ⟨_, _, he, _, _, _, h4⟩ := h.row
  simp only [Value.slice.injEq] at he
  obtain ⟨rfl, _, rfl⟩ := he
  have := h4 _ rfl k hk
  rw [Addr.add_lit, Nat.zero_add] at this
  simpa [List.getD] using this
theorem Own8.free {w : World} {B g c : Nat} {cs : List Int} (h : Own8 w B g c cs) (k : Nat) : w.frozen? ⟨g, k, none⟩ = false := by
  obtain ⟨_, _, cur, hh, _⟩ := h.parts
  exact free_of hh k
theorem Own8.put {w : World} {B g c : Nat} {cs : List Int} (h : Own8 w B g c cs) {k : Nat} (hk : k < cs.length) (y : Int) : Own8 (w.setCell ⟨g, k, none⟩ (.int .u8 y)) B g c (cs.set k y) := by
  obtain ⟨h1, ⟨he, _⟩ | ⟨g', cap, cur, he, hg, hh, hnc, hcm, hcur, htake⟩⟩ := h.own
  · simp at he
  · simp only [Value.slice.injEq, Option.some.injEq, Addr.mk.injEq, true_and, and_true] at he
    obtain ⟨rfl, rfl⟩ := he
    refine ⟨by simp, .inr ⟨g, c, cur.setIfInBounds k (.int .u8 y), by simp, hg, heap_set hh _, by simpa using hnc, hcm, by simpa using hcur, ?_⟩⟩
    have h5 : cur.toList.take cs.length = cs.map (Value.int .u8) := by simpa using htake
    rw [Array.toList_setIfInBounds, List.length_set, Nat.mul_one, List.take_set, h5, List.map_set]
theorem Own8.below {w w' : World} {B g c : Nat} {cs : List Int} (h : Own8 w B g c cs) (hb : Below w.heap.size w w') : Own8 w' B g c cs := by
  obtain ⟨h1, ⟨he, _⟩ | ⟨g', cap, cur, he, hg, hh, hr⟩⟩ := h.own
  · simp at he
  · exact ⟨h1, .inr ⟨g', cap, cur, he, hg, (hb.block g' (lt_of_heap hh)).trans hh, hr⟩⟩

theorem and_bit (P i : Nat) (hP : P < 4294967296) : bits .and .u32 ((P : Int) / 2 ^ i) 1 = ((P / 2 ^ i % 2 : Nat) : Int) := by
  have h1 : P / 2 ^ i < 4294967296 := Nat.lt_of_le_of_lt (Nat.div_le_self _ _) hP
  have h := u32_and_nat (P / 2 ^ i) 1 h1 (by decide)
  rw [show P / 2 ^ i % 2 = P / 2 ^ i &&& 1 from (Nat.and_two_pow_sub_one_eq_mod _ 1).symm]
  have e : ((P / 2 ^ i : Nat) : Int) = (P : Int) / 2 ^ i := by push_cast; rfl
  rw [← e]
  exact h
theorem xor_bit8 (y j : Nat) (hy : y < 256) (hj : j < 8) : bits .xor .u8 (y : Int) (2 ^ j % 256) = ((y ^^^ 2 ^ j : Nat) : Int) := by
  have h2 : 2 ^ j < 256 := Nat.lt_of_lt_of_le (Nat.pow_lt_pow_right (by decide) hj) (by decide)
  have h := u8_xor_nat y (2 ^ j) hy h2
  have e : (2 : Int) ^ j % 256 = ((2 ^ j : Nat) : Int) := by
    have h3 : (2 : Int) ^ j = ((2 ^ j : Nat) : Int) := by push_cast; rfl
    rw [h3]
    exact Int.emod_eq_of_lt (Int.natCast_nonneg _) (Int.ofNat_lt.2 (show 2 ^ j < 256 from h2))
  rw [e]
  exact h

set_option maxRecDepth 100000 in
set_option maxHeartbeats 4000000 in
theorem burst_any (v : Value) (bs : List Int) (bit : Int) (P : Nat) (W0 : World) (hv : RowAt .u8 W0 v bs) (hs : SumsAt W0) (hby : ∀ x ∈ bs, 0 ≤ x ∧ x < 256) (hbig : bs.length ≤ 140737488351232) (hb0 : -9223372036854775808 ≤ bit ∧ bit ≤ 9223372036854775807) (hP : P < 4294967296) :
    Calls Tryd.prog 3 #[v, .int .i64 bit, .int .u32 P] W0 fun e w' => e = .returned (.bool true) ∧ Below W0.heap.size W0 w' := by
  have HV := hide hv
  obtain ⟨ao, c, rfl⟩ : ∃ ao c, v = .slice ao bs.length c := by obtain ⟨ao, c, h, _⟩ := hv; exact ⟨ao, c, h⟩
  have HHD := hide (heads_any W0 hs)
  have HS := hide hs
  have HBY := hide hby
  clear hv hs hby
  go_enter Tryd.func3, Tryd.ntmps3
  go_wp2_with fail
  refine HHD.out.mono ?_
  rintro e w1 ⟨rfl, hb1⟩
  have HV1 := hide (HV.out.below hb1)
  have HB1 := hide hb1
  have hB1 : W0.heap.size ≤ w1.heap.size := hb1.size
  clear hb1 HHD HV
  go_wp2_with fail
  refine (newWriter_any w1).mono ?_
  rintro e w2 ⟨b, rfl, hw2, hb2⟩
  have HB2 := hide (below_on HB1.out hb2)
  have HV2 := hide (HV1.out.below hb2)
  have hsz2 := hb2.size
  have HW2 := hide hw2
  clear hw2 hb2 HB1 HV1
  go_wp2_with fail
  refine (wbytes_any w2 w1.heap.size b _ [] _ bs HW2.out hsz2 HV2.out (by simp; omega)).mono ?_
  rintro e w3 ⟨rfl, v3, hw3, ht3⟩
  rw [List.nil_append] at hw3
  have HB3 := hide (HB2.out.trans (ht3.bel.mono hB1))
  have hsz3 : w1.heap.size ≤ w3.heap.size := Nat.le_trans hsz2 ht3.bel.size
  have HW3 := hide hw3
  clear hw3 ht3 HB2 HW2 hsz2 HV2
  go_wp2_with fail
  refine (seal_any w3 w1.heap.size b _ bs HW3.out hsz3 (HS.out.belB HB3.out HS.out.1) HBY.out (by omega)).mono ?_
  rintro e w4 ⟨rfl, v4, hw4, ht4⟩
  have HB4 := hide (HB3.out.trans (ht4.bel.mono hB1))
  have HW4 := hide hw4
  clear hw4 ht4 HB3 HW3 hsz3
  go_wp2_with fail
  refine (out_own w4 w1.heap.size b _ _ HW4.out (by rw [List.length_append, le_length]; omega)).mono ?_
  rintro e w5 ⟨v5, rfl, hown5, hb5⟩
  obtain ⟨C0, hC0⟩ : ∃ C0, C0 = bs ++ le (crc bs) 4 := ⟨_, rfl⟩
  rw [← hC0] at hown5
  have hC0l : C0.length = bs.length + 4 := by rw [hC0, List.length_append, le_length]
  have HSL : Hid (Sealed C0) := by rw [hC0]; exact sealed_made bs HBY.out
  have HCB : Hid (∀ x ∈ C0, 0 ≤ x ∧ x < 256) := by
    rw [hC0]
    intro x hx
    rcases List.mem_append.1 hx with h | h
    · exact HBY.out x h
    · exact le_bytes _ _ x h
  obtain ⟨g, cc, rfl⟩ : ∃ g cc, v5 = .slice (some ⟨g, 0, none⟩) C0.length cc := by
    obtain ⟨_, ⟨he, h0⟩ | ⟨g', cap, cur, he, _⟩⟩ := hown5
    · omega
    · exact ⟨g', cap, he⟩
  have HO5 : Hid (Own8 w5 w4.heap.size g cc C0) := ⟨hown5⟩
  have HB5 := hide (below_on HB4.out hb5)
  have hgl : W0.heap.size ≤ g := Nat.le_trans HB4.out.size HO5.out.parts.1
  have hccl := HO5.out.parts.2.1
  obtain ⟨N, hN⟩ : ∃ N, N = bs.length := ⟨_, rfl⟩
  obtain ⟨M, hM⟩ : ∃ M, M = C0.length := ⟨_, rfl⟩
  rw [← hM] at hccl hC0l ⊢
  rw [← hN] at hbig hC0l ⊢
  have HN := hide hN
  have HM := hide hM
  have HMN := hide hC0l
  have hMN : ((M : Int) != (N : Int) + 4) = false := by simp; omega
  have hMbig : M ≤ 140737488351236 := by omega
  have hM4 : 4 ≤ M := by omega
  clear hown5 hb5 hC0 HB4 HW4 hN hM hC0l
  go_wp2_with fail
  refine (no_any _ _).mono ?_
  rintro e w5' ⟨rfl, rfl⟩
  go_upto_if 41 with fail
  go_cut [1] from 41 to 44 (fun x wx => ∃ Z : Nat, x = .int .i64 Z ∧ Z ≤ 9223372036854775807 ∧ wx = w5')
  case first =>
    by_cases hneg : bit < 0
    · have hbn : decide (bit < 0) = true := decide_eq_true hneg
      have HZ : Hid (-(bit + 1) = (((-(bit + 1)).toNat : Nat) : Int)) := by show -(bit + 1) = (((-(bit + 1)).toNat : Nat) : Int); omega
      go_wp2
      go_meet
      case rel => exact ⟨(-(bit + 1)).toNat, by rw [← HZ.out], by omega, rfl⟩
    · have hbn : decide (bit < 0) = false := decide_eq_false hneg
      go_wp2
      go_meet
      case rel => exact ⟨bit.toNat, by rw [show ((bit.toNat : Nat) : Int) = bit by omega], by omega, rfl⟩
  case rest =>
  obtain ⟨Z, rfl, hZ, rfl⟩ := hcut
  obtain ⟨t, ht⟩ : ∃ t : Nat, t = Z % (8 * M) := ⟨_, rfl⟩
  have HTM : Hid ((Z : Int) % (8 * (M : Int)) = (t : Int)) := by
    show (Z : Int) % (8 * (M : Int)) = (t : Int)
    rw [ht]
    push_cast
    rfl
  have ht8 : t < 8 * M := by rw [ht]; exact Nat.mod_lt _ (by omega)
  go_wp2_with fail
  rw [HTM.out]
  clear HTM ht hZ
  obtain ⟨A, hA⟩ : ∃ A, A = 8 * M := ⟨_, rfl⟩
  rw [show 8 * (M : Int) = (A : Int) by omega]
  have HA := hide hA
  rw [← hA] at ht8
  have hAbig : A ≤ 1125899906809888 := by omega
  clear hA
  go_loopw [11, 12] (fun x y wr => ∃ (i : Nat) (cs : List Int), i ≤ 32 ∧ t + i ≤ A ∧ x = .bool (decide (P % 2 ^ i ≠ 0)) ∧ y = .int .i64 i ∧ cs.length = M ∧ (∀ z ∈ cs, 0 ≤ z ∧ z < 256) ∧ num cs = num C0 ^^^ (2 ^ t * (P % 2 ^ i)) ∧ Own8 wr w4.heap.size g cc cs ∧ Below W0.heap.size W0 wr) (fun _ y _ => 32 - (RowKit.intOf y).toNat)
  case atStart =>
    refine ⟨0, C0, by omega, by omega, ?_, rfl, HM.out.symm, HCB.out, ?_, HO5.out, HB5.out⟩
    · simp [Nat.mod_one]
    · simp [Nat.mod_one]
  case round =>
    obtain ⟨i, cs, hi, hti, rfl, rfl, hcl, hcb, hnum, hO, hB⟩ := hrel
    clear HO5 HB5
    by_cases hlt : i < 32 ∧ t + i < A
    · obtain ⟨hl1, hl2⟩ := hlt
      have hkM : (t + i) / 8 < M := by have := HA.out; omega
      obtain ⟨y, hy⟩ : ∃ y : Nat, cs[(t + i) / 8]?.getD 0 = (y : Int) := by
        have := hcb (cs[(t + i) / 8]'(by omega)) (List.getElem_mem _)
        exact ⟨(cs[(t + i) / 8]'(by omega)).toNat, by rw [List.getElem?_eq_getElem (by omega)]; simp; omega⟩
      have d0 := hO.cell (k := (t + i) / 8) (by omega)
      have f0 := hO.free ((t + i) / 8)
      rw [hy] at d0
      have hkI : ((t : Int) + (i : Int)) / 8 < (M : Int) := by omega
      have hy8 : y < 256 := by
        have := hcb (cs[(t + i) / 8]'(by omega)) (List.getElem_mem _)
        rw [List.getElem?_eq_getElem (by omega)] at hy
        simp only [Option.getD_some] at hy
        omega
      have hd2 := and_bit P i hP
      rcases Nat.mod_two_eq_zero_or_one (P / 2 ^ i) with hbit | hbit
      · rw [hbit] at hd2
        have HNX := hide (turn_none hbit)
        have HNM := hide hnum
        have HCBS := hide hcb
        have HO2 := hide hO
        have HB2 := hide hB
        clear hbit hnum hcb hO hB d0 f0 hy hy8
        go_wp2_with fail
        go_roundw
        case rel => exact ⟨i + 1, cs, by omega, by omega, by rw [HNX.out]; simp, by simp, hcl, HCBS.out, by rw [HNX.out]; exact HNM.out, HO2.out, HB2.out⟩
        case measure => simp [RowKit.intOf]; omega
      · rw [hbit] at hd2
        have HNX := hide (turn_bit hcb hnum (k := (t + i) / 8) (j := (t + i) % 8) (by omega) (by omega) (by omega) hbit)
        have HSB := hide (set_bytes hcb ((t + i) / 8) ((t + i) % 8) (by omega))
        have HPT := hide (hO.put (k := (t + i) / 8) (by omega) ((y ^^^ 2 ^ ((t + i) % 8) : Nat) : Int))
        have HTS := hide (turn_some hbit)
        have HBP := hide (fun u => (hB.setCell (p := ⟨g, (t + i) / 8, none⟩) hgl u).drew)
        rw [hy, Int.toNat_natCast] at HNX HSB
        have HXB := hide (xor_bit8 y ((t + i) % 8) hy8 (by omega))
        clear hcb hnum hO hB hbit hy hy8
        go_wp2_with fail
        go_region
        all_goals
          go_wp2_with fail
          go_roundw
          case rel =>
            rw [HXB.out]
            refine ⟨i + 1, cs.set ((t + i) / 8) ((y ^^^ 2 ^ ((t + i) % 8) : Nat) : Int), by omega, by omega, ?_, by simp, by simpa using hcl, HSB.out, HNX.out, ?_, ?_⟩
            · simp [HTS.out]
            · exact HPT.out.below (Below.refl _ _).drew
            · exact HBP.out _
          case measure => simp [RowKit.intOf]; omega
    · have hPi : P % 2 ^ i < 4294967296 := by
        have h1 : 2 ^ i ≤ 2 ^ 32 := Nat.pow_le_pow_right (by decide) hi
        exact Nat.lt_of_lt_of_le (Nat.mod_lt _ (Nat.two_pow_pos i)) h1
      have hbur := burst C0 cs HCB.out hcb (by rw [hcl]; exact HM.out) (by rw [← HM.out]; exact hM4) HSL.out hPi (b := t) (by have := HA.out; rw [← HM.out]; omega) hnum
      obtain ⟨l, hl1, hl2, hl3, hl4⟩ := last_four cs hcb (p := N) (by rw [hcl]; exact HMN.out.symm)
      have HL := hide (And.intro hl1 (And.intro hl2 hl3))
      have HSE := hide (hl4.trans hbur)
      obtain ⟨Pz, hPz⟩ : ∃ Pz, Pz = P % 2 ^ i := ⟨_, rfl⟩
      rw [← hPz] at HSE ⊢
      have HO2 := hide hO
      have HB2 := hide hB
      have HCBS := hide hcb
      have HCL := hide hcl
      obtain ⟨wq, hwq⟩ : ∃ wq, wq = wr := ⟨_, rfl⟩
      subst hwq
      have hrow := hO.row
      rw [hcl] at hrow
      have HNR := hide (newReader_any wq _ cs hrow (by rw [hcl]; omega))
      have hgd : i < 32 → ¬ (t : Int) + (i : Int) < (A : Int) := fun h => by omega
      have hsm : SumsAt wq := HS.out.belB hB HS.out.1
      have HSM := hide hsm
      have hwz : 0 < W0.heap.size := HS.out.1
      have hqsz : W0.heap.size ≤ wq.heap.size := hB.size
      clear hl1 hl2 hl3 hl4 hbur hnum hcb hcl hO hB hPz hPi hrow hsm hlt
      rw [show decide (Pz ≠ 0) = !decide (Pz = 0) from by simp]
      go_upto_region 15 with fail
      go_cut [56] from 48 to 55 (fun x wx => x = .bool false ∧ wx = wq)
      case first =>
        by_cases h32 : i < 32
        · have h33 := hgd h32
          have h34 : (i : Int) < 32 := by omega
          clear hgd
          go_wp2
          go_meet
          case rel => exact ⟨rfl, rfl⟩
        · have h34 : ¬ (i : Int) < 32 := by omega
          clear hgd
          go_wp2
          go_meet
          case rel => exact ⟨rfl, rfl⟩
      case rest =>
      obtain ⟨rfl, rfl⟩ := hcut
      clear hgd
      go_wp2_with fail
      refine HNR.out.mono ?_
      rintro e w6 ⟨r, rfl, hr6, hrd6, hb6⟩
      have HB6 := hide (below_on HB2.out hb6)
      have HSM6 := hide (HSM.out.below hb6)
      have HRD6 := hide hrd6
      have hr0 : 0 < r := by omega
      have hrW : W0.heap.size ≤ r := by omega
      clear hrd6 hb6 HNR HO2 HB2 HSM hr6
      go_wp2_with fail
      refine (seek_any w6 r 0 N cs HRD6.out (by rw [HCL.out]; have := HMN.out; omega) (by rw [HCL.out]; omega)).mono ?_
      rintro e w7 ⟨rfl, hrd7, hbut7⟩
      have HB7 := hide (But.below HB6.out hbut7 hrW HB6.out.size)
      have HSM7 := hide (HSM6.out.but hbut7 hr0)
      have HRD7 := hide hrd7
      clear hrd7 hbut7 HB6 HSM6 HRD6
      obtain ⟨hl1, hl2, hl3⟩ := HL.out
      have hNM := HMN.out
      by_cases hz : Pz = 0
      · have HSD := hide (sealed_right w7 r N 0 cs l HRD7.out hl1 hl2 hl3 (by rw [HCL.out]; omega) (by rw [HCL.out]; omega) (by omega) HSM7.out hr0 HCBS.out (HSE.out.2 hz))
        subst hz
        clear hl1 hl2 hl3
        go_wp2_with fail
        refine HSD.out.mono ?_
        rintro e w8 ⟨rfl, hrd8, hbut8⟩
        have HB8 := hide (But.below HB7.out hbut8 hrW HB7.out.size)
        have HAT := hide (at_any w8 r cs _ hrd8)
        clear hrd8 hbut8 HB7
        go_wp2_with (first | (go_at_call 16; refine (no_any _ _).mono ?_; rintro e w9 ⟨rfl, rfl⟩) | (go_at_call 20; refine HAT.out.mono ?_; rintro e w9 ⟨rfl, rfl⟩) | fail)
        go_ret
        exact ⟨by first | rfl | (simp; done) | (simp; omega), HB8.out⟩
      · have HSD := hide (sealed_wrong w7 r N 0 cs l HRD7.out hl1 hl2 hl3 (by rw [HCL.out]; omega) (by rw [HCL.out]; omega) (by omega) HSM7.out hr0 HCBS.out (fun h => hz (HSE.out.1 h)))
        have hzd : decide (Pz = 0) = false := decide_eq_false hz
        clear hl1 hl2 hl3
        go_wp2_with fail
        refine HSD.out.mono ?_
        rintro e w8 ⟨rfl, hrd8, hbut8⟩
        have HB8 := hide (But.below HB7.out hbut8 hrW HB7.out.size)
        have HAT := hide (at_any w8 r cs _ hrd8)
        clear hrd8 hbut8 HB7
        go_wp2_with (first | (go_at_call 16; refine (no_any _ _).mono ?_; rintro e w9 ⟨rfl, rfl⟩) | (go_at_call 20; refine HAT.out.mono ?_; rintro e w9 ⟨rfl, rfl⟩) | fail)
        go_ret
        exact ⟨by simp, HB8.out⟩
end Go.Proofs.YtpfpelhhebafeaaDoor
