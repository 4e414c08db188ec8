/- The reference's Number. -/
import Derived.Test.YtohlhlllglcdfaaDoorNmF
namespace Go.Proofs.YtohlhlllglcdfaaDoor
open Go.Shelf Go.RowKit Go.Sort Go.Lib
set_option linter.unusedVariables false
set_option linter.unusedSimpArgs false
theorem drop_bt (s : ByteArray) (i : Nat) (h : i < s.size) : ∃ c, s.data.toList.drop i = c :: s.data.toList.drop (i + 1) ∧ c.toNat = bt s i := by
  have h2 : i < s.data.toList.length := by simpa using h
  refine ⟨s.data.toList[i], List.drop_eq_getElem_cons h2, ?_⟩
  unfold bt
  rw [List.getElem?_eq_getElem h2]
  rfl
set_option maxRecDepth 100000 in
set_option maxHeartbeats 1000000 in
theorem rnum_empty (s : ByteArray) (h : s.size = 0) (w : World) : Calls Tryd.prog 5 #[.string s] w fun e w' => e = .returned (.tuple #[.int .u64 0, .int .i64 5]) ∧ w' = w := by
  rw [empty_of h]
  go_enter Tryd.func5, Tryd.ntmps5
  go_wp2
  go_ret2
  exact ⟨rfl, rfl⟩
set_option maxRecDepth 100000 in
set_option maxHeartbeats 1000000 in
theorem rnum_zero (s : ByteArray) (h : 0 < s.size) (h0 : bt s 0 = 48) (h1 : 1 < s.size) (w : World) : Calls Tryd.prog 5 #[.string s] w fun e w' => e = .returned (.tuple #[.int .u64 0, .int .i64 5]) ∧ w' = w := by
  have hne := nonempty_of h
  have hg := bt_get s 0 h
  rw [h0] at hg
  have h1i : (1 : Int) < (s.size : Int) := by omega
  clear h0
  go_enter Tryd.func5, Tryd.ntmps5
  go_wp2
  go_ret2
  exact ⟨rfl, rfl⟩
set_option maxRecDepth 100000 in
set_option maxHeartbeats 4000000 in
theorem rnum_loop (s : ByteArray) (h : Hd s) (w : World) : Calls Tryd.prog 5 #[.string s] w fun e w' => ∃ v c, e = .returned (.tuple #[.int .u64 v, .int .i64 c]) ∧ NumIs s v c ∧ w' = w := by
  have hne := h.ne
  have hp := h.pos
  have hbig := h.big
  have H := hide h
  have hg := bt_get s 0 hp
  obtain ⟨b0, hb0⟩ : ∃ b0, b0 = bt s 0 := ⟨_, rfl⟩
  rw [← hb0] at hg
  have hz : ¬ (b0 = 48 ∧ 1 < s.size) := by rw [hb0]; exact h.z
  clear h hb0
  go_enter Tryd.func5, Tryd.ntmps5
  go_upto_region 1 with fail
  go_cut [19] from 8 to 18 (fun t wx => t = .bool false ∧ w = wx)
  case first =>
    by_cases h48 : b0 = 48
    · have h1 : ¬ 1 < s.size := fun e => hz ⟨h48, e⟩
      have h1i : ¬ (1 : Int) < (s.size : Int) := by omega
      rw [h48] at hg
      clear hz h48
      go_wp2_with fail
      go_meet
      case rel => exact ⟨rfl, rfl⟩
    · have h48i : ¬ (b0 : Int) = 48 := by omega
      clear hz
      go_wp2_with fail
      go_meet
      case rel => exact ⟨rfl, rfl⟩
  case rest =>
    obtain ⟨rfl, rfl⟩ := hcut
    clear hz hg
    go_wp2_with fail
    go_loopw [4] (fun t wr => ∃ i : Nat, i ≤ s.size ∧ t = .int .i64 (i : Int) ∧ wr = w ∧ ∀ j, j < i → 48 ≤ bt s j ∧ bt s j ≤ 57) (fun t _ => s.size - (RowKit.intOf t).toNat)
    case atStart => exact ⟨0, by omega, rfl, rfl, fun j hj => absurd hj (Nat.not_lt_zero _)⟩
    case round =>
      obtain ⟨i, hi, rfl, hwr, hall⟩ := hrel
      subst hwr
      have HA := hide hall
      clear hall
      by_cases hlt : i < s.size
      · have hgi := bt_get s i hlt
        obtain ⟨b, hb⟩ : ∃ b, b = bt s i := ⟨_, rfl⟩
        rw [← hb] at hgi
        have HB := hide hb
        have hlti : (i : Int) < (s.size : Int) := by omega
        clear hb
        by_cases hd : 48 ≤ b ∧ b ≤ 57
        · have d1 : ¬ (b : Int) < 48 := by omega
          have d2 : ¬ (57 : Int) < (b : Int) := by omega
          go_wp2_with fail
          go_roundw
          case rel =>
            refine ⟨i + 1, hlt, by simp, by trivial, fun j hj => ?_⟩
            by_cases e : j = i
            · rw [e, ← HB.out]; exact hd
            · exact HA.out j (by omega)
          case measure => exact mdecN hlt
        · have hno : Hid (NumIs s 0 5) := .inl ⟨fun e => hd (by rw [HB.out]; exact e.2.2 i hlt), rfl, rfl⟩
          by_cases d1 : b < 48
          · have d1i : (b : Int) < 48 := by omega
            clear hd
            go_wp2_with fail
            go_ret2
            exact ⟨_, _, rfl, hno.out, rfl⟩
          · have d1i : ¬ (b : Int) < 48 := by omega
            have d2i : (57 : Int) < (b : Int) := by omega
            clear hd
            go_wp2_with fail
            go_ret2
            exact ⟨_, _, rfl, hno.out, rfl⟩
      · obtain rfl : i = s.size := by omega
        have HY : Hid (okS s) := ⟨H.out.pos, H.out.z, HA.out⟩
        go_wp2_with fail
        go_loopw [5, 6] (fun t1 t wq => ∃ (i acc : Nat) (a : Int), i ≤ s.size ∧ t = .int .i64 (i : Int) ∧ t1 = .int .u64 a ∧ a = (acc : Int) ∧ acc ≤ 18446744073709551615 ∧ rdN 0 s.data.toList = rdN acc (s.data.toList.drop i) ∧ wq = wr) (fun _ t _ => s.size - (RowKit.intOf t).toNat)
        case atStart => exact ⟨0, 0, 0, by omega, rfl, rfl, rfl, by omega, by simp, rfl⟩
        case round =>
          obtain ⟨i, acc, a, hi2, rfl, rfl, ha, hacc, hrd, hwr⟩ := hrel
          subst hwr
          have HRD := hide hrd
          have HAC := hide (And.intro ha hacc)
          have ha0 : 0 ≤ a := by omega
          have ha1 : a ≤ 18446744073709551615 := by omega
          clear hrd ha hacc
          by_cases hlt : i < s.size
          · have hgi := bt_get s i hlt
            have hdg := HY.out.2.2 i hlt
            obtain ⟨D, hD⟩ : ∃ D, bt s i = D + 48 := ⟨bt s i - 48, by omega⟩
            rw [hD] at hgi
            have hD9 : (D : Int) ≤ 9 := by omega
            have HDD := hide hD
            have hlti : (i : Int) < (s.size : Int) := by omega
            obtain ⟨M, hM⟩ : ∃ M : Int, M = (18446744073709551615 - (D : Int)) / 10 := ⟨_, rfl⟩
            have q1 : IntKind.u64.wrap ((18446744073709551615 - (D : Int)).tdiv 10) = M := by rw [hM]; exact wrap_quo (by omega) (by omega)
            have HM := hide hM
            obtain ⟨cb, hcb, hcn⟩ := drop_bt s i hlt
            have HST : Hid (rdN 0 s.data.toList = if 18446744073709551615 < acc * 10 + D then none else rdN (acc * 10 + D) (s.data.toList.drop (i + 1))) := by
              have h5 := HRD.out
              rw [hcb, rdN, hcn, hD, Nat.add_sub_cancel] at h5
              exact h5
            clear hdg hD hM hcb hcn
            by_cases hMa : M < a
            · have HN : Hid (NumIs s 0 2) := .inr ⟨HY.out, .inr ⟨by rw [HST.out, if_pos (by have h6 := HM.out; have h7 := HAC.out.1; omega)], rfl, rfl⟩⟩
              go_wp2_with fail
              go_ret2
              exact ⟨_, _, rfl, HN.out, rfl⟩
            · have hle : a * 10 + (D : Int) ≤ 18446744073709551615 := by have h6 := HM.out; omega
              have q2 : IntKind.u64.wrap (a * 10) = a * 10 := by rw [IntKind.wrap_u64]; omega
              have q3 : IntKind.u64.wrap (a * 10 + (D : Int)) = a * 10 + (D : Int) := by rw [IntKind.wrap_u64]; omega
              have HLE := hide hle
              clear hle
              go_wp2_with fail
              go_roundw
              case rel =>
                have h7 := HAC.out.1
                have h8 := HLE.out
                refine ⟨i + 1, acc * 10 + D, a * 10 + (D : Int), hlt, by simp, rfl, by rw [h7]; push_cast; rfl, by omega, ?_, by trivial⟩
                rw [HST.out, if_neg (by omega)]
              case measure => exact mdecN hlt
          · obtain rfl : i = s.size := by omega
            have HN : Hid (NumIs s a 0) := .inr ⟨HY.out, .inl ⟨acc, by rw [HRD.out, List.drop_of_length_le (by simp)]; rfl, HAC.out.1, rfl⟩⟩
            go_wp2_with fail
            go_ret2
            exact ⟨_, _, rfl, HN.out, rfl⟩
theorem rnum_any (s : ByteArray) (hs : s.size ≤ 140737488351232) (w : World) : Calls Tryd.prog 5 #[.string s] w fun e w' => ∃ v c, e = .returned (.tuple #[.int .u64 v, .int .i64 c]) ∧ NumIs s v c ∧ w' = w := by
  by_cases h0 : s.size = 0
  · refine (rnum_empty s h0 w).mono ?_
    rintro e w' ⟨rfl, rfl⟩
    exact ⟨_, _, rfl, .inl ⟨fun e => absurd e.1 (by omega), rfl, rfl⟩, rfl⟩
  · by_cases hz : bt s 0 = 48 ∧ 1 < s.size
    · refine (rnum_zero s (by omega) hz.1 hz.2 w).mono ?_
      rintro e w' ⟨rfl, rfl⟩
      exact ⟨_, _, rfl, .inl ⟨fun e => absurd hz e.2.1, rfl, rfl⟩, rfl⟩
    · exact rnum_loop s ⟨by omega, nonempty_of (by omega), hs, hz⟩ w
end Go.Proofs.YtohlhlllglcdfaaDoor
