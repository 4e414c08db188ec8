/- isDecimal. -/
import Derived.Test.YtahhlmmdmjocdaaDoorNmD
import Derived.LoopTactic
import Derived.Deep.Cut
import Derived.Deep.CutRange
namespace Go.Proofs.YtahhlmmdmjocdaaDoor
open Go.Shelf Go.RowKit Go.Sort Go.Lib
set_option linter.unusedVariables false
set_option linter.unusedSimpArgs false
/-- The i-th byte. -/
def bt (s : ByteArray) (i : Nat) : Nat := (s.data.toList[i]?.getD 0).toNat
theorem bt_get (s : ByteArray) (i : Nat) (h : i < s.size) : (s[i]'h).toNat = bt s i := by
  unfold bt
  have h2 : i < s.data.toList.length := by simpa using h
  rw [List.getElem?_eq_getElem h2]
  rfl
/-- A number in digits: not empty, no 0 ahead of more, digits alone. -/
def okS (s : ByteArray) : Prop := 0 < s.size ∧ ¬ (bt s 0 = 48 ∧ 1 < s.size) ∧ ∀ i, i < s.size → 48 ≤ bt s i ∧ bt s i ≤ 57
theorem empty_of {s : ByteArray} (h : s.size = 0) : s = ⟨#[]⟩ := by
  apply ByteArray.ext
  exact Array.eq_empty_of_size_eq_zero h
theorem loop_len (s : ByteArray) : ∀ (i : Nat) (r : List UInt8), (ByteArray.toList.loop s i r).length = r.length + (s.size - i) := by
  intro i r
  induction i, r using ByteArray.toList.loop.induct s with
  | case1 i r h ih => rw [ByteArray.toList.loop, if_pos h, ih]; simp; omega
  | case2 i r h => rw [ByteArray.toList.loop, if_neg h]; simp; omega
theorem nonempty_of {s : ByteArray} (h : 0 < s.size) : s.toList.isEmpty = false := by
  have : s.toList ≠ [] := by
    intro e
    have h1 : s.toList.length = s.size := by unfold ByteArray.toList; rw [loop_len]; simp
    rw [e] at h1
    simp at h1
    omega
  simpa using this
theorem mdecN {i n : Nat} (h : i < n) : n - (RowKit.intOf (Value.int .i64 ((i : Int) + 1))).toNat < n - (RowKit.intOf (Value.int .i64 (i : Int))).toNat := by
  simp [RowKit.intOf]; omega
set_option maxRecDepth 100000 in
set_option maxHeartbeats 1000000 in
theorem isDec_empty (s : ByteArray) (h : s.size = 0) (w : World) : Calls Tryd.prog 19 #[.string s] w fun e w' => e = .returned (.bool false) ∧ w' = w := by
  rw [empty_of h]
  go_enter Tryd.func19, Tryd.ntmps19
  go_wp2
  go_ret
  exact ⟨rfl, rfl⟩
set_option maxRecDepth 100000 in
set_option maxHeartbeats 1000000 in
theorem isDec_zero (s : ByteArray) (h : 0 < s.size) (h0 : bt s 0 = 48) (h1 : 1 < s.size) (w : World) : Calls Tryd.prog 19 #[.string s] w fun e w' => e = .returned (.bool false) ∧ w' = w := by
  have hne := nonempty_of h
  have hg := bt_get s 0 h
  rw [h0] at hg
  have h1i : (1 : Int) < (s.size : Int) := by omega
  clear h0
  go_enter Tryd.func19, Tryd.ntmps19
  go_wp2
  go_ret
  exact ⟨rfl, rfl⟩
/-- The head's arm that goes on. -/
structure Hd (s : ByteArray) : Prop where
  pos : 0 < s.size
  ne : s.toList.isEmpty = false
  big : s.size ≤ 140737488351232
  z : ¬ (bt s 0 = 48 ∧ 1 < s.size)
set_option maxRecDepth 100000 in
set_option maxHeartbeats 4000000 in
theorem isDec_loop (s : ByteArray) (h : Hd s) (w : World) : Calls Tryd.prog 19 #[.string s] w fun e w' => (okS s → e = .returned (.bool true)) ∧ (¬ okS s → e = .returned (.bool false)) ∧ w' = w := by
  have hne := h.ne
  have hp := h.pos
  have hbig := h.big
  have H := hide h
  have hg := bt_get s 0 hp
  obtain ⟨b0, hb0⟩ : ∃ b0, b0 = bt s 0 := ⟨_, rfl⟩
  rw [← hb0] at hg
  have hz : ¬ (b0 = 48 ∧ 1 < s.size) := by rw [hb0]; exact h.z
  clear h hb0
  go_enter Tryd.func19, Tryd.ntmps19
  go_upto_region 1 with fail
  go_cut [15] from 4 to 14 (fun t wx => t = .bool false ∧ w = wx)
  case first =>
    by_cases h48 : b0 = 48
    · have h1 : ¬ 1 < s.size := fun e => hz ⟨h48, e⟩
      have h1i : ¬ (1 : Int) < (s.size : Int) := by omega
      rw [h48] at hg
      clear hz h48
      go_wp2_with fail
      go_meet
      case rel => exact ⟨rfl, rfl⟩
    · have h48i : ¬ (b0 : Int) = 48 := by omega
      clear hz
      go_wp2_with fail
      go_meet
      case rel => exact ⟨rfl, rfl⟩
  case rest =>
    obtain ⟨rfl, rfl⟩ := hcut
    clear hz hg
    go_wp2_with fail
    go_loopw [18] (fun t wr => ∃ i : Nat, i ≤ s.size ∧ t = .int .i64 (i : Int) ∧ wr = w ∧ ∀ j, j < i → 48 ≤ bt s j ∧ bt s j ≤ 57) (fun t _ => s.size - (RowKit.intOf t).toNat)
    case atStart => exact ⟨0, by omega, rfl, rfl, fun j hj => absurd hj (Nat.not_lt_zero _)⟩
    case round =>
      obtain ⟨i, hi, rfl, hwr, hall⟩ := hrel
      subst hwr
      have HA := hide hall
      clear hall
      by_cases hlt : i < s.size
      · have hgi := bt_get s i hlt
        obtain ⟨b, hb⟩ : ∃ b, b = bt s i := ⟨_, rfl⟩
        rw [← hb] at hgi
        have HB := hide hb
        have hlti : (i : Int) < (s.size : Int) := by omega
        clear hb
        by_cases hd : 48 ≤ b ∧ b ≤ 57
        · have d1 : ¬ (b : Int) < 48 := by omega
          have d2 : ¬ (57 : Int) < (b : Int) := by omega
          go_wp2_with fail
          go_roundw
          case rel =>
            refine ⟨i + 1, hlt, by simp, by trivial, fun j hj => ?_⟩
            by_cases e : j = i
            · rw [e, ← HB.out]; exact hd
            · exact HA.out j (by omega)
          case measure => exact mdecN hlt
        · have hno : Hid (¬ okS s) := fun e => hd (by rw [HB.out]; exact e.2.2 i hlt)
          by_cases d1 : b < 48
          · have d1i : (b : Int) < 48 := by omega
            clear hd
            go_wp2_with fail
            go_ret
            exact ⟨fun e => absurd e hno.out, fun _ => rfl, rfl⟩
          · have d1i : ¬ (b : Int) < 48 := by omega
            have d2i : (57 : Int) < (b : Int) := by omega
            clear hd
            go_wp2_with fail
            go_ret
            exact ⟨fun e => absurd e hno.out, fun _ => rfl, rfl⟩
      · obtain rfl : i = s.size := by omega
        have hyes : Hid (okS s) := ⟨H.out.pos, H.out.z, HA.out⟩
        go_wp2_with fail
        go_ret
        exact ⟨fun _ => rfl, fun e => absurd hyes.out e, rfl⟩
theorem isDec_any (s : ByteArray) (hs : s.size ≤ 140737488351232) (w : World) : Calls Tryd.prog 19 #[.string s] w fun e w' => (okS s → e = .returned (.bool true)) ∧ (¬ okS s → e = .returned (.bool false)) ∧ w' = w := by
  by_cases h0 : s.size = 0
  · refine (isDec_empty s h0 w).mono ?_
    rintro e w' ⟨rfl, rfl⟩
    exact ⟨fun e => absurd e.1 (by omega), fun _ => rfl, rfl⟩
  · by_cases hz : bt s 0 = 48 ∧ 1 < s.size
    · refine (isDec_zero s (by omega) hz.1 hz.2 w).mono ?_
      rintro e w' ⟨rfl, rfl⟩
      exact ⟨fun e => absurd hz e.2.1, fun _ => rfl, rfl⟩
    · exact isDec_loop s ⟨by omega, nonempty_of (by omega), hs, hz⟩ w
end Go.Proofs.YtahhlmmdmjocdaaDoor
