/- Products by halves; Fair. -/
import Derived.Test.YtglgflibpgmilaaRef
import Derived.Test.YtglgflibpgmilaaOrder
namespace Go.Proofs.Ytglgflibpgmilaa
open Go.RowKit Go.Lib
theorem ret_two {k l : IntKind} {a b c d : Int} (h : a = c) (h2 : b = d) : Ending.returned (.tuple #[.int k a, .int l b]) = .returned (.tuple #[.int k c, .int l d]) := by rw [h, h2]

set_option maxRecDepth 100000 in
theorem product_any (x y : Nat) (w : World) (hx : x < 18446744073709551616) (hy : y < 18446744073709551616) :
    Calls Try.prog 45 #[.int .u64 x, .int .u64 y] w fun e w' => e = .returned (.tuple #[.int .u64 ((x * y / 18446744073709551616 : Nat) : Int), .int .u64 ((x * y % 18446744073709551616 : Nat) : Int)]) ∧ w' = w := by
  have e1 : bits .and .u64 (x : Int) 4294967295 = ((x % 4294967296 : Nat) : Int) := by
    have h := u64_and_nat x 4294967295 hx (by decide)
    rw [show (4294967295 : Nat) = 2 ^ 32 - 1 from by decide, Nat.and_two_pow_sub_one_eq_mod] at h
    exact h
  have e2 : bits .and .u64 (y : Int) 4294967295 = ((y % 4294967296 : Nat) : Int) := by
    have h := u64_and_nat y 4294967295 hy (by decide)
    rw [show (4294967295 : Nat) = 2 ^ 32 - 1 from by decide, Nat.and_two_pow_sub_one_eq_mod] at h
    exact h
  obtain ⟨a, hA⟩ : ∃ a, a = x / 4294967296 := ⟨_, rfl⟩
  obtain ⟨b, hB⟩ : ∃ b, b = x % 4294967296 := ⟨_, rfl⟩
  obtain ⟨c, hC⟩ : ∃ c, c = y / 4294967296 := ⟨_, rfl⟩
  obtain ⟨d, hD⟩ : ∃ d, d = y % 4294967296 := ⟨_, rfl⟩
  have ea : (x : Int) / 4294967296 = (a : Int) := by omega
  have ec : (y : Int) / 4294967296 = (c : Int) := by omega
  rw [← hB] at e1
  rw [← hD] at e2
  have ba : a < 4294967296 := by omega
  have bb : b < 4294967296 := by omega
  have bc : c < 4294967296 := by omega
  have bd : d < 4294967296 := by omega
  have HX := hide (show x = a * 4294967296 + b by omega)
  have HY := hide (show y = c * 4294967296 + d by omega)
  clear hA hB hC hD
  obtain ⟨AC, hac⟩ : ∃ z, z = a * c := ⟨_, rfl⟩
  obtain ⟨AD, had⟩ : ∃ z, z = a * d := ⟨_, rfl⟩
  obtain ⟨BC, hbc⟩ : ∃ z, z = b * c := ⟨_, rfl⟩
  obtain ⟨BD, hbd⟩ : ∃ z, z = b * d := ⟨_, rfl⟩
  have m1 : AC ≤ 4294967295 * 4294967295 := hac ▸ Nat.mul_le_mul (by omega) (by omega)
  have m2 : AD ≤ 4294967295 * 4294967295 := had ▸ Nat.mul_le_mul (by omega) (by omega)
  have m3 : BC ≤ 4294967295 * 4294967295 := hbc ▸ Nat.mul_le_mul (by omega) (by omega)
  have m4 : BD ≤ 4294967295 * 4294967295 := hbd ▸ Nat.mul_le_mul (by omega) (by omega)
  have r1 : IntKind.u64.wrap ((a : Int) * (c : Int)) = (AC : Int) := by
    rw [show (a : Int) * (c : Int) = (AC : Int) by rw [hac]; simp, IntKind.wrap_u64]; omega
  have r2 : IntKind.u64.wrap ((a : Int) * (d : Int)) = (AD : Int) := by
    rw [show (a : Int) * (d : Int) = (AD : Int) by rw [had]; simp, IntKind.wrap_u64]; omega
  have r3 : IntKind.u64.wrap ((b : Int) * (c : Int)) = (BC : Int) := by
    rw [show (b : Int) * (c : Int) = (BC : Int) by rw [hbc]; simp, IntKind.wrap_u64]; omega
  have r4 : IntKind.u64.wrap ((b : Int) * (d : Int)) = (BD : Int) := by
    rw [show (b : Int) * (d : Int) = (BD : Int) by rw [hbd]; simp, IntKind.wrap_u64]; omega
  obtain ⟨mid, hmid⟩ : ∃ z, z = AD + BD / 4294967296 := ⟨_, rfl⟩
  have em : (AD : Int) + (BD : Int) / 4294967296 = (mid : Int) := by omega
  obtain ⟨ml, hml⟩ : ∃ z, z = mid % 4294967296 := ⟨_, rfl⟩
  have el : bits .and .u64 (mid : Int) 4294967295 = (ml : Int) := by
    have h := u64_and_nat mid 4294967295 (by omega) (by decide)
    rw [show (4294967295 : Nat) = 2 ^ 32 - 1 from by decide, Nat.and_two_pow_sub_one_eq_mod] at h
    rw [hml]; exact h
  have hmul : x * y = AC * 18446744073709551616 + (AD + BC) * 4294967296 + BD := by
    rw [HX.out, HY.out, hac, had, hbc, hbd, Nat.add_mul, Nat.mul_add, Nat.mul_add]
    have t1 : a * 4294967296 * (c * 4294967296) = a * c * 18446744073709551616 := by
      rw [Nat.mul_assoc, Nat.mul_comm 4294967296, Nat.mul_assoc, ← Nat.mul_assoc a]
    have t2 : a * 4294967296 * d = a * d * 4294967296 := by rw [Nat.mul_assoc, Nat.mul_comm 4294967296, ← Nat.mul_assoc]
    have t3 : b * (c * 4294967296) = b * c * 4294967296 := by rw [Nat.mul_assoc]
    rw [t1, t2, t3, Nat.add_mul]
    omega
  have hhi : AC + mid / 4294967296 + (BC + ml) / 4294967296 = x * y / 18446744073709551616 := by
    rw [hmul]; omega
  have bhi : AC + mid / 4294967296 + (BC + ml) / 4294967296 < 18446744073709551616 := by omega
  have bmid : mid ≤ 18446744073709551615 := by omega
  have bml : ml ≤ 4294967295 := by omega
  have bsum : BC + ml ≤ 18446744073709551615 := by omega
  have HHI := hide hhi; have HLO := hide (show IntKind.u64.wrap ((x : Int) * (y : Int)) = ((x * y % 18446744073709551616 : Nat) : Int) by rw [IntKind.wrap_u64]; simp)
  clear hhi hmul hml hmid hac had hbc hbd
  go_enter Try.func45, Try.ntmps45
  go_wp2
  go_ret2
  refine ⟨?_, rfl⟩
  rw [← HHI.out, ← HLO.out]
  exact ret_two (by omega) rfl

/-- Fair's words: till one's low part is great enough, 128 at most. How many words are drawn, the state behind, the number. -/
def fair (n least : Nat) : Nat → List Int → St → Nat × List Int × St × Nat
  | 0, ws, s => (0, ws, s, 0)
  | k + 1, ws, s =>
    let x := (drawn ws s).toNat
    if k = 0 ∨ least ≤ x * n % 18446744073709551616 then (x * n / 18446744073709551616, ws.tail, stLeft ws s, 1)
    else let r := fair n least k ws.tail (stLeft ws s); (r.1, r.2.1, r.2.2.1, r.2.2.2 + 1)
theorem fair_stop {n least k : Nat} {ws : List Int} {s : St} {x : Nat} (hx : drawn ws s = (x : Int)) (h : k = 0 ∨ least ≤ x * n % 18446744073709551616) :
    fair n least (k + 1) ws s = (x * n / 18446744073709551616, ws.tail, stLeft ws s, 1) := by
  have e : (drawn ws s).toNat = x := by omega
  simp only [fair, e]
  rw [if_pos h]
theorem fair_go {n least k : Nat} {ws : List Int} {s : St} {x : Nat} (hx : drawn ws s = (x : Int)) (h : ¬ (k = 0 ∨ least ≤ x * n % 18446744073709551616)) :
    fair n least (k + 1) ws s = ((fair n least k ws.tail (stLeft ws s)).1, (fair n least k ws.tail (stLeft ws s)).2.1, (fair n least k ws.tail (stLeft ws s)).2.2.1, (fair n least k ws.tail (stLeft ws s)).2.2.2 + 1) := by
  have e : (drawn ws s).toNat = x := by omega
  simp only [fair, e]
  rw [if_neg h]

/-- What Fair has come to behind i words. -/
def FairAt (n L : Nat) (F : Nat × List Int × St × Nat) (i : Nat) (ws : List Int) (s : St) (h : Nat) : Prop :=
  (i < 128 → F = ((fair n L (128 - i) ws s).1, (fair n L (128 - i) ws s).2.1, (fair n L (128 - i) ws s).2.2.1, (fair n L (128 - i) ws s).2.2.2 + i)) ∧ (i = 128 → F = (h, ws, s, 128))
theorem FairAt.stop {n L i : Nat} {F : Nat × List Int × St × Nat} {ws : List Int} {s : St} {h x : Nat} (hF : FairAt n L F i ws s h) (hi : i < 128) (hx : drawn ws s = (x : Int)) (hs : i = 127 ∨ L ≤ x * n % 18446744073709551616) :
    F = (x * n / 18446744073709551616, ws.tail, stLeft ws s, i + 1) := by
  have h1 := hF.1 hi
  rw [show 128 - i = 127 - i + 1 by omega, fair_stop hx (by omega)] at h1
  rw [h1, Nat.add_comm]
theorem FairAt.go {n L i : Nat} {F : Nat × List Int × St × Nat} {ws : List Int} {s : St} {h x : Nat} (hF : FairAt n L F i ws s h) (hi : i < 128) (hx : drawn ws s = (x : Int)) (hs : ¬ L ≤ x * n % 18446744073709551616) :
    FairAt n L F (i + 1) ws.tail (stLeft ws s) (x * n / 18446744073709551616) := by
  refine ⟨fun h2 => ?_, fun h2 => ?_⟩
  · have h1 := hF.1 hi
    rw [show 128 - i = 127 - i + 1 by omega, fair_go hx (by omega)] at h1
    rw [h1, show 128 - (i + 1) = 127 - i by omega, Nat.add_assoc, Nat.add_comm 1 i]
  · have h1 := hF.stop hi hx (.inl (by omega))
    rw [h1, h2]
theorem FairAt.start (n L : Nat) (ws : List Int) (s : St) (h : Nat) : FairAt n L (fair n L 128 ws s) 0 ws s h := ⟨fun _ => rfl, fun h => by omega⟩

theorem tail_drop (all : List Int) (u : Nat) : (all.drop u).tail = all.drop (u + 1) := by rw [List.tail_drop]

theorem fairZero (w : World) (p : Value) : Calls Try.prog 27 #[p, .int .u64 0] w fun e w' => e = .returned (.tuple #[.int .u64 0, .int .i64 7]) ∧ w' = w := by
  go_enter Try.func27, Try.ntmps27
  go_wp2
  go_ret2
  exact ⟨rfl, rfl⟩
theorem refFairZero (w : World) (p : Value) : Calls Try.prog 28 #[p, .int .u64 0] w fun e w' => e = .returned (.tuple #[.int .u64 0, .int .i64 7]) ∧ w' = w := by
  go_enter Try.func28, Try.ntmps28
  go_wp2
  go_ret2
  exact ⟨rfl, rfl⟩

theorem drawn_nat {ws : List Int} (h : Words ws) (s : St) : ∃ x : Nat, drawn ws s = (x : Int) ∧ x < 18446744073709551616 := by
  have := drawn_bounds h s
  exact ⟨(drawn ws s).toNat, by omega, by omega⟩

set_option maxRecDepth 100000 in
set_option maxHeartbeats 2000000 in
theorem fair_any (w : World) (b n : Nat) (ws : List Int) (s : St) (u : Int) (hd : DiceIs w b ws s u) (hs : s.Ok) (hws : Words ws) (hu0 : 0 ≤ u) (hu1 : u < 9223372036850581504) (hn0 : 0 < n) (hn : n < 18446744073709551616) :
    Calls Try.prog 27 #[.pointer (some ⟨b, 0, none⟩), .int .u64 n] w fun e w' => e = .returned (.tuple #[.int .u64 ((fair n (18446744073709551616 % n) 128 ws s).1 : Nat), .int .i64 0]) ∧
      DiceIs w' b (fair n (18446744073709551616 % n) 128 ws s).2.1 (fair n (18446744073709551616 % n) 128 ws s).2.2.1 (u + ((fair n (18446744073709551616 % n) 128 ws s).2.2.2 : Nat)) ∧ But b w w' := by
  have hne : ((n : Int) == 0) = false := by simp; omega
  obtain ⟨L, hL⟩ : ∃ L, L = 18446744073709551616 % n := ⟨_, rfl⟩
  rw [← hL]
  have hLe : (IntKind.u64.wrap (-(n : Int))).tmod (n : Int) = (L : Int) := by
    rw [IntKind.wrap_u64, Int.tmod_eq_emod_of_nonneg (Int.emod_nonneg _ (by decide)), hL]
    have h1 : -(n : Int) % 18446744073709551616 = ((18446744073709551616 - n : Nat) : Int) := by omega
    rw [h1]
    have h2 : 18446744073709551616 % n = (18446744073709551616 - n) % n := (Nat.mod_eq_sub_mod (by omega))
    rw [h2]; simp
  have HD := hide hd; have HWS := hide hws
  clear hd hL hws
  go_enter Try.func27, Try.ntmps27
  go_wp2_with fail
  obtain ⟨F, hF⟩ : ∃ F, F = fair n L 128 ws s := ⟨_, rfl⟩
  have HF0 : Hid (FairAt n L F 0 ws s 0) := hF ▸ FairAt.start n L ws s 0
  have HFE := hide hF
  clear hF
  go_loopw [6, 15] (fun t i wr => ∃ (k h : Nat) (wsc : List Int) (sc : St), k ≤ 128 ∧ i = .int .i64 k ∧ t = .int .u64 h ∧ sc.Ok ∧ Words wsc ∧ FairAt n L F k wsc sc h ∧ DiceIs wr b wsc sc (u + k) ∧ But b w wr) (fun _ i _ => 128 - (RowKit.intOf i).toNat)
  case atStart => exact ⟨0, 0, ws, s, by omega, rfl, rfl, hs, HWS.out, HF0.out, by simpa using HD.out, But.refl _ _⟩
  case round =>
    clear HF0
    obtain ⟨k, h, wsc, sc, hk, rfl, rfl, hsc, hwc, hFA, hdc, hbc⟩ := hrel
    by_cases hlt : k < 128
    · obtain ⟨x, hx, hx1⟩ := drawn_nat hwc sc
      have hnx := next_any wr b wsc sc (u + k) hdc hsc (by omega) (by omega)
      rw [hx] at hnx
      have HNX := hide hnx; have HFA := hide hFA; have HX := hide hx; have HBC := hide hbc; have HWC := hide hwc
      clear hnx hFA hx hbc hdc hwc
      go_wp2_with fail
      refine HNX.out.mono ?_
      clear HNX
      rintro e w2 ⟨rfl, hd2, hbut2⟩
      have HD2 := hide hd2; have HB2 := hide (HBC.out.trans hbut2)
      clear hd2 hbut2 HBC
      go_wp2_with fail
      refine (Try.bits_Mul64 x n hx1 hn _).mono ?_
      rintro e w2 ⟨rfl, rfl⟩
      obtain ⟨hi, hhi⟩ : ∃ z, z = x * n / 18446744073709551616 := ⟨_, rfl⟩
      obtain ⟨lo, hlo⟩ : ∃ z, z = x * n % 18446744073709551616 := ⟨_, rfl⟩
      rw [← hhi, ← hlo]
      have HHI := hide hhi; have HLO := hide hlo
      clear hhi hlo
      by_cases hge : L ≤ lo
      · go_wp2_with fail
        go_ret2
        have hst := HFA.out.stop hlt HX.out (.inr (by rw [← HLO.out]; exact hge))
        rw [← HHI.out] at hst
        rw [← HFE.out, hst]
        refine ⟨rfl, ?_, HB2.out⟩
        have e : u + (k : Int) + 1 = u + ((k + 1 : Nat) : Int) := by omega
        have hd2 := HD2.out
        rw [e] at hd2
        exact hd2
      · go_wp2_with fail
        go_roundw
        case rel =>
          have hgo := HFA.out.go hlt HX.out (by rw [← HLO.out]; exact hge)
          rw [← HHI.out] at hgo
          have e : u + (k : Int) + 1 = u + ((k + 1 : Nat) : Int) := by omega
          have hd2 := HD2.out
          rw [e] at hd2
          exact ⟨k + 1, hi, wsc.tail, stLeft wsc sc, by omega, by go_num, rfl, stLeft_ok hsc, HWC.out.tail, hgo, hd2, HB2.out⟩
        case measure => simp [RowKit.intOf]; omega
    · obtain rfl : 128 = k := by omega
      have HFA := hide (hFA.2 rfl); have HDC := hide hdc; have HBC := hide hbc
      clear hFA hdc hbc hwc
      go_wp2_with fail
      go_ret2
      rw [← HFE.out, HFA.out]
      exact ⟨rfl, HDC.out, HBC.out⟩
end Go.Proofs.Ytglgflibpgmilaa
