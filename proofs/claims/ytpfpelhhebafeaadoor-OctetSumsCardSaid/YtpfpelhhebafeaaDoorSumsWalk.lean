/- OctetSums: the walk. -/
import Derived.Test.YtpfpelhhebafeaaDoorRefJoin
namespace Go.Proofs.YtpfpelhhebafeaaDoor
open Go.RowKit Go.Lib
set_option linter.unusedVariables false

set_option maxRecDepth 100000 in
theorem crcJoin_neg (a b n : Int) (w : World) (hn : n < 0) : Calls Tryd.prog 35 #[.int .u32 a, .int .u32 b, .int .i64 n] w fun e w' => e = .returned (.tuple #[.int .u32 0, .int .i64 6]) ∧ w' = w := by
  go_enter Tryd.func35, Tryd.ntmps35
  go_wp2
  go_ret2
  exact ⟨rfl, rfl⟩
set_option maxRecDepth 100000 in
theorem refJoin_neg (a b n : Int) (w : World) (hn : n < 0) : Calls Tryd.prog 36 #[.int .u32 a, .int .u32 b, .int .i64 n] w fun e w' => e = .returned (.tuple #[.int .u32 0, .int .i64 6]) ∧ w' = w := by
  go_enter Tryd.func36, Tryd.ntmps36
  go_wp2
  go_ret2
  exact ⟨rfl, rfl⟩
/-- What both answer. -/
theorem joins_both (x y : Nat) (n : Int) (hx : x < 4294967296) (hy : y < 4294967296) (hn : n ≤ 9223372036854775807) : ∃ r f : Int, (∀ w, Calls Tryd.prog 35 #[.int .u32 x, .int .u32 y, .int .i64 n] w fun e w' => e = .returned (.tuple #[.int .u32 r, .int .i64 f]) ∧ w' = w) ∧
    ∀ w, Calls Tryd.prog 36 #[.int .u32 x, .int .u32 y, .int .i64 n] w fun e w' => e = .returned (.tuple #[.int .u32 r, .int .i64 f]) ∧ Below w.heap.size w w' := by
  by_cases h : n < 0
  · exact ⟨0, 6, fun w => crcJoin_neg _ _ _ w h, fun w => (refJoin_neg _ _ _ w h).mono fun e w' ⟨h1, h2⟩ => ⟨h1, by rw [h2]; exact Below.refl _ _⟩⟩
  · obtain ⟨m, rfl⟩ : ∃ m : Nat, n = (m : Int) := ⟨n.toNat, by omega⟩
    exact ⟨_, 0, fun w => crcJoin_any x y m w hx hy (by omega), fun w => refJoin_any x y m w hx hy (by omega)⟩

set_option maxRecDepth 100000 in
set_option maxHeartbeats 4000000 in
theorem sums_law (v : Value) (bs : List Int) (x y : Nat) (n : Int) (W0 : World) (hv : RowAt .u8 W0 v bs) (hs : SumsAt W0) (hby : ∀ x ∈ bs, 0 ≤ x ∧ x < 256) (hbig : bs.length ≤ 140737488351232) (hx : x < 4294967296) (hy : y < 4294967296) (hn : n ≤ 9223372036854775807) :
    Calls Tryd.prog 9 #[v, .int .u32 x, .int .u32 y, .int .i64 n] W0 fun e w' => e = .returned (.bool true) ∧ Below W0.heap.size W0 w' := by
  obtain ⟨r, f, hj1, hj2⟩ := joins_both x y n hx hy hn
  have HJ1 := hide hj1; have HJ2 := hide hj2
  have HV := hide hv; have HS := hide hs; have HBY := hide hby
  have HRM := hide (roomy_any v bs W0 hv (by omega))
  obtain ⟨ao, c, rfl⟩ : ∃ ao c, v = .slice ao bs.length c := by obtain ⟨ao, c, h, _⟩ := hv; exact ⟨ao, c, h⟩
  obtain ⟨L, hL⟩ : ∃ L, L = bs.length := ⟨_, rfl⟩
  rw [← hL] at hbig HV HRM ⊢
  have HL := hide hL
  clear hv hs hby hj1 hj2 hL
  go_enter Tryd.func9, Tryd.ntmps9
  go_wp2_with fail
  refine HRM.out.mono ?_
  rintro e w1 ⟨g, cc, rfl, hO, hb1⟩
  have HO1 := hide hO
  have HB1 := hide hb1
  have hcl := hO.parts.2.1
  have hll : (bs ++ [201, 202]).length = L + 2 := by rw [List.length_append, HL.out]; rfl
  rw [hll] at hcl
  have hsub := sub_row (f := 0) (p := L) hO.row (by omega) (by rw [hll]; omega)
  rw [List.drop_zero, HL.out, List.take_left, Nat.sub_zero, Nat.sub_zero, ← HL.out] at hsub
  have HCR := hide (crc_any _ bs w1 hsub (HS.out.below hb1) HBY.out (by rw [← HL.out]; omega))
  have hlc : (L : Int) ≤ (cc : Int) := by omega
  clear hO hb1 hsub hll HRM
  go_wp2_with fail
  refine HCR.out.mono ?_
  rintro e w1' ⟨rfl, rfl⟩
  go_wp2_with fail
  refine (HJ1.out _).mono ?_
  rintro e w1'' ⟨rfl, rfl⟩
  go_wp2_with fail
  refine (HJ2.out _).mono ?_
  rintro e w2 ⟨rfl, hb2⟩
  have HO2 := hide (HO1.out.below hb2)
  have HB2 := hide (below_on HB1.out hb2)
  have HRC := hide (refCrc_any _ bs w2 (HV.out.below HB2.out) HBY.out (by rw [← HL.out]; omega))
  have HKP := hide (kept_any _ g cc _ bs w2 HO2.out (HV.out.below HB2.out) (by rw [← HL.out]; omega))
  rw [← HL.out] at HKP
  clear hb2 HO1 HB1
  obtain ⟨C, hC⟩ : ∃ C, C = crc bs := ⟨_, rfl⟩
  rw [← hC] at HRC ⊢
  clear hC
  go_wp2_with fail
  refine HRC.out.mono ?_
  rintro e w2' ⟨rfl, rfl⟩
  go_wp2_with fail
  refine HKP.out.mono ?_
  rintro e w3 ⟨rfl, hb3⟩
  have HB3 := hide (below_on HB2.out hb3)
  clear hb3
  go_wp2_with (go_at_call 16; refine (no_any _ _).mono ?_; rintro e wq ⟨rfl, rfl⟩)
  go_ret
  exact ⟨by first | rfl | (simp; done), HB3.out⟩
end Go.Proofs.YtpfpelhhebafeaaDoor
