/- line, count, vertex and the reference's small functions. -/
import Derived.Test.YtmejgjhijdcahaaDoorDp
namespace Go.Proofs.YtmejgjhijdcahaaDoor
open Go.Shelf Go.RowKit Go.Sort Go.Lib
set_option linter.unusedVariables false
set_option linter.unusedSimpArgs false
abbrev Pow (w : World) : Prop := Lib.TabIs Tryd.prog w "internal/strconv.uint64pow10" .u64 Lib.pow10Tab
theorem str_bs (l : List UInt8) : Lib.strCells (bs l) = Lib.byteCells l := rfl
theorem byte_app (a b : List UInt8) : Lib.byteCells a ++ Lib.byteCells b = Lib.byteCells (a ++ b) := by simp [Lib.byteCells]
theorem byte_len (a : List UInt8) : (Lib.byteCells a).length = a.length := by simp [Lib.byteCells]
theorem isVertex_any (n v : Int) (w : World) : Calls Tryd.prog 17 #[.int .i64 n, .int .i64 v] w fun e w' => e = .returned (.bool (decide (0 ≤ v ∧ v < n))) ∧ w' = w := by
  by_cases h : 0 ≤ v
  · by_cases h2 : v < n
    · go_enter Tryd.func17, Tryd.ntmps17
      go_wp2
      go_ret
      exact ⟨by simp [h, h2], rfl⟩
    · go_enter Tryd.func17, Tryd.ntmps17
      go_wp2
      go_ret
      exact ⟨by simp [h, h2], rfl⟩
  · go_enter Tryd.func17, Tryd.ntmps17
    go_wp2
    go_ret
    exact ⟨by simp; omega, rfl⟩
theorem refVertex_any (v : Int) (w : World) : Calls Tryd.prog 31 #[.int .i64 v] w fun e w' => e = .returned (.bool (decide (0 ≤ v ∧ v < 1048576))) ∧ w' = w := by
  by_cases h : 0 ≤ v
  · by_cases h2 : v < 1048576
    · go_enter Tryd.func31, Tryd.ntmps31
      go_wp2
      go_ret
      exact ⟨by simp [h, h2], rfl⟩
    · go_enter Tryd.func31, Tryd.ntmps31
      go_wp2
      go_ret
      exact ⟨by simp [h, h2], rfl⟩
  · go_enter Tryd.func31, Tryd.ntmps31
    go_wp2
    go_ret
    exact ⟨by simp; omega, rfl⟩
theorem wrap_nat (n : Nat) (h : n < 18446744073709551616) : IntKind.u64.wrap (n : Int) = (n : Int) := by rw [IntKind.wrap_u64]; omega
theorem count_any (n : Nat) (hn : n < 9223372036854775808) (w : World) (ht : Pow w) : Calls Tryd.prog 20 #[.int .i64 (n : Int)] w fun e w' => e = .returned (.string (bs (ct (n : Int)))) ∧ Below w.heap.size w w' := by
  have H := hide (decimal_any n (by omega) w ht)
  have hw := wrap_nat n (by omega)
  clear ht
  go_enter Tryd.func20, Tryd.ntmps20
  go_wp2_with (first
    | (go_at_call 22; refine H.out.mono ?_; rintro e w' ⟨rfl, hb⟩; have HB := hide hb; clear hb)
    | fail)
  go_ret
  exact ⟨rfl, HB.out⟩
theorem vertex_any (n : Nat) (hn : n < 4611686018427387904) (w : World) (ht : Pow w) : Calls Tryd.prog 21 #[.int .i64 (n : Int)] w fun e w' => e = .returned (.string (bs (vx (n : Int)))) ∧ Below w.heap.size w w' := by
  have H := hide (decimal_any (n + 1) (by omega) w ht)
  have hw := wrap_nat n (by omega)
  have hw2 := wrap_nat (n + 1) (by omega)
  clear ht
  go_enter Tryd.func21, Tryd.ntmps21
  go_wp2_with (first
    | (go_at_call 22; refine H.out.mono ?_; rintro e w' ⟨rfl, hb⟩; have HB := hide hb; clear hb)
    | fail)
  go_ret
  exact ⟨rfl, HB.out⟩
theorem number_any (n : Nat) (hn : n < 9223372036854775808) (w : World) : Calls Tryd.prog 24 #[.int .i64 (n : Int)] w fun e w' => e = .returned (.string (bs (ct (n : Int)))) ∧ w' = w := by
  have H := hide (rdec_any n (by omega) w)
  have hw := wrap_nat n (by omega)
  go_enter Tryd.func24, Tryd.ntmps24
  go_wp2_with (first
    | (go_at_call 26; refine H.out.mono ?_; rintro e w' ⟨rfl, rfl⟩)
    | fail)
  go_ret
  exact ⟨rfl, rfl⟩
theorem up_any (n : Nat) (hn : n < 4611686018427387904) (w : World) : Calls Tryd.prog 25 #[.int .i64 (n : Int)] w fun e w' => e = .returned (.string (bs (vx (n : Int)))) ∧ w' = w := by
  have H := hide (rdec_any (n + 1) (by omega) w)
  have hw := wrap_nat n (by omega)
  have hw2 := wrap_nat (n + 1) (by omega)
  go_enter Tryd.func25, Tryd.ntmps25
  go_wp2_with (first
    | (go_at_call 26; refine H.out.mono ?_; rintro e w' ⟨rfl, rfl⟩)
    | fail)
  go_ret
  exact ⟨rfl, rfl⟩
theorem fmti_any (n : Int) (h0 : -9223372036854775808 ≤ n) (h1 : n ≤ 9223372036854775807) (w : World) (ht : Pow w) : Calls Tryd.prog 28 #[.int .i64 n, .int .i64 10] w fun e w' => e = .returned (.string (bs (Lib.itoa n))) ∧ Below w.heap.size w w' := by
  have H := hide (Tryd.internal_strconv_FormatInt_10 n h0 h1 w ht)
  clear ht
  go_enter Tryd.func28, Tryd.ntmps28
  go_wp2_with (first
    | (go_at_call 36; refine H.out.mono ?_; rintro e w' ⟨rfl, k, os, rfl⟩)
    | fail)
  go_ret
  exact ⟨rfl, Lib.below_grow _ w (Nat.le_refl _) k os⟩
theorem signed_any (n : Int) (h0 : -9223372036854775808 ≤ n) (h1 : n ≤ 9223372036854775807) (w : World) : Calls Tryd.prog 29 #[.int .i64 n] w fun e w' => e = .returned (.string (bs (Lib.itoa n))) ∧ w' = w := by
  by_cases h : n < 0
  · obtain ⟨m, hm⟩ : ∃ m : Nat, n = -(m : Int) := ⟨n.natAbs, by omega⟩
    have H := hide (rdec_any m (by omega) w)
    have hw : IntKind.u64.wrap (-IntKind.u64.wrap n) = (m : Int) := by rw [IntKind.wrap_u64, IntKind.wrap_u64]; omega
    have hb : bs (Lib.itoa n) = bs (45 :: Lib.decDigits m) := by
      unfold Lib.itoa; rw [if_pos h, show n.natAbs = m by omega]
    have hadd : ∀ W, (Op.stringOp .add ⟨#[45]⟩ ⟨(Lib.decDigits m).toArray⟩).run Tryd.prog W = .ok (.string (bs (45 :: Lib.decDigits m))) W := add_bs [45] (Lib.decDigits m) (by have := dec_len (u := m) (by omega); simp; omega)
    rw [hb]
    clear h0 h1 hm hb
    go_enter Tryd.func29, Tryd.ntmps29
    go_wp2_with (first
      | (go_at_call 26; refine H.out.mono ?_; rintro e w' ⟨rfl, rfl⟩)
      | fail)
    go_ret
    exact ⟨rfl, rfl⟩
  · obtain ⟨m, rfl⟩ := Int.eq_ofNat_of_zero_le (show 0 ≤ n by omega)
    have H := hide (rdec_any m (by omega) w)
    have hw := wrap_nat m (by omega)
    have hb : bs (Lib.itoa (m : Int)) = bs (Lib.decDigits m) := by
      unfold Lib.itoa; rw [if_neg h, Int.toNat_natCast]
    rw [hb]
    clear h0 h1
    go_enter Tryd.func29, Tryd.ntmps29
    go_wp2_with (first
      | (go_at_call 26; refine H.out.mono ?_; rintro e w' ⟨rfl, rfl⟩)
      | fail)
    go_ret
    exact ⟨rfl, rfl⟩
/-- The words of a line, in a block of their own. -/
def WordsIn (w : World) (g : Nat) (ws : List (List UInt8)) : Prop := ∃ fr, w.heap[g]? = some (.cells (ws.map fun x => Value.string (bs x)).toArray 9 fr)
theorem WordsIn.at {w : World} {g : Nat} {ws : List (List UInt8)} (h : WordsIn w g ws) (i : Nat) (hi : i < ws.length) : w.cell? ⟨g, i, none⟩ = some (.string (bs ws[i])) := by
  obtain ⟨fr, h⟩ := h
  rw [Lib.cell_of_heap h]
  simp [hi]
theorem WordsIn.kept {w w' : World} {g b : Nat} {ws : List (List UInt8)} (h : WordsIn w g ws) (k : Lib.OthersKept 5 (some b) w w') (hne : g ≠ b) : WordsIn w' g ws := by
  obtain ⟨fr, h⟩ := h
  exact ⟨fr, k g _ h (by simpa using hne) (by intro c fz e; cases e)⟩
def joined (ws : List (List UInt8)) : List UInt8 := ws.flatMap fun x => 32 :: x
theorem joined_next (ws : List (List UInt8)) (k : Nat) (h : k < ws.length) : joined (ws.take (k + 1)) = joined (ws.take k) ++ 32 :: ws[k] := by
  unfold joined
  rw [List.take_succ_eq_append_getElem h, List.flatMap_append]
  simp only [List.flatMap_cons, List.flatMap_nil, List.append_nil]
theorem joined_le (ws : List (List UInt8)) (k : Nat) : (joined (ws.take k)).length ≤ (joined ws).length := by
  unfold joined
  conv => rhs; rw [← List.take_append_drop k ws]
  rw [List.flatMap_append, List.length_append]
  omega
set_option maxHeartbeats 2000000 in
set_option maxRecDepth 100000 in
theorem line_any (B b g c : Nat) (acc F : List UInt8) (ws : List (List UInt8)) (w : World) (h : Lib.IsBuilder 56 5 B b (Lib.byteCells acc) w) (hw : WordsIn w g ws) (hne : g ≠ b) (hBw : B ≤ w.heap.size) (hc : ws.length ≤ c) (hlen : acc.length + (lineW F ws).length ≤ 140737488355328) (hn : ws.length ≤ 3) :
    Calls Tryd.prog 19 #[.pointer (some ⟨b, 0, none⟩), .string (bs F), .slice (some ⟨g, 0, none⟩) ws.length c] w fun e w' => e = .returned (.tuple #[]) ∧ Lib.IsBuilder 56 5 B b (Lib.byteCells (acc ++ lineW F ws)) w' ∧ Below B w w' ∧ Lib.OthersKept 5 (some b) w w' := by
  have hlen' : acc.length + F.length + (joined ws).length + 1 ≤ 140737488355328 := by
    unfold lineW at hlen; unfold joined; simp only [List.length_append, List.length_cons, List.length_nil] at hlen; omega
  have H0 := hide (write_any B b _ (bs F) w h (by rw [byte_len, bs_size]; omega) hBw)
  have HL := hide hlen'; have HW := hide hw; have HBW := hide hBw; have HNE := hide hne
  clear h hlen hlen' hw hBw hne
  go_enter Tryd.func19, Tryd.ntmps19
  go_wp2_with (first
    | (go_at_call 33; refine H0.out.mono ?_; rintro e w1 ⟨rfl, hb1, hl1, hk1⟩; rw [str_bs, byte_app] at hb1; have HB1 := hide hb1; have HL1 := hide hl1; have HK1 := hide hk1; clear hb1 hl1 hk1)
    | fail)
  go_loopw [13] (fun t wr => ∃ k : Nat, k ≤ ws.length ∧ t = .int .i64 k ∧ Lib.IsBuilder 56 5 B b (Lib.byteCells (acc ++ F ++ joined (ws.take k))) wr ∧ Below B w wr ∧ Lib.OthersKept 5 (some b) w wr) (fun t _ => ws.length - (RowKit.intOf t).toNat)
  case atStart => exact ⟨0, by omega, rfl, by simpa [joined] using HB1.out, HL1.out, HK1.out⟩
  case round =>
    obtain ⟨k, hk, rfl, hb, hl, hkp⟩ := hrel
    by_cases hlt : k < ws.length
    · have hx := (HW.out.kept hkp HNE.out).at k hlt
      have hkm : (k : Int) + 1 ≤ 9223372036854775807 := by omega
      have h1 := joined_le ws (k + 1)
      have h2 := joined_next ws k hlt
      rw [h2] at h1
      simp only [List.length_append, List.length_cons] at h1
      have HA := hide (writeB_any B b _ 32 wr hb (by rw [byte_len]; have := HL.out; simp only [List.length_append]; omega) (Nat.le_trans HBW.out hl.size))
      have HLl := hide hl; have HKp := hide hkp; have HH1 := hide h1; have HH2 := hide h2
      clear hb hl hkp h1 h2
      go_wp2_with fail
      refine HA.out.mono ?_
      rintro e w2 ⟨rfl, hb2, hl2, hk2⟩
      have HL2 : Hid (Below B w w2) := HLl.out.trans hl2
      have HK2 : Hid (Lib.OthersKept 5 (some b) w w2) := HKp.out.trans hk2
      have hb2' : Lib.IsBuilder 56 5 B b (Lib.byteCells (acc ++ F ++ joined (ws.take k) ++ [32])) w2 := by rw [← byte_app]; exact hb2
      have HC := hide (write_any B b _ (bs ws[k]) w2 hb2' (by rw [byte_len, bs_size]; have := HL.out; have := HH1.out; simp only [List.length_append, List.length_cons, List.length_nil]; omega) (Nat.le_trans HBW.out HL2.out.size))
      clear hb2 hl2 hk2 hb2'
      go_wp2_with fail
      refine HC.out.mono ?_
      rintro e w3 ⟨rfl, hb3, hl3, hk3⟩
      have HB3 : Hid (Lib.IsBuilder 56 5 B b (Lib.byteCells (acc ++ F ++ joined (ws.take (k + 1)))) w3) := by
        rw [str_bs, byte_app] at hb3
        rw [HH2.out]
        refine hide ?_
        simpa using hb3
      have HL3 := hide (HL2.out.trans hl3); have HK3 := hide (HK2.out.trans hk3)
      clear hb3 hl3 hk3
      go_wp2_with fail
      go_roundw
      case rel => exact ⟨k + 1, by omega, by go_num, HB3.out, HL3.out, HK3.out⟩
      case measure => simp [RowKit.intOf]; omega
    · have hkk : k = ws.length := by omega
      subst hkk
      rw [List.take_length] at hb
      have HA := hide (writeB_any B b _ 10 wr hb (by rw [byte_len]; have := HL.out; simp only [List.length_append]; omega) (Nat.le_trans HBW.out hl.size))
      have HLl := hide hl; have HKp := hide hkp
      clear hb hl hkp
      go_wp2_with fail
      refine HA.out.mono ?_
      rintro e w2 ⟨rfl, hb2, hl2, hk2⟩
      have HF : Hid (Lib.IsBuilder 56 5 B b (Lib.byteCells (acc ++ lineW F ws)) w2 ∧ Below B w w2 ∧ Lib.OthersKept 5 (some b) w w2) := by
        refine ⟨?_, HLl.out.trans hl2, HKp.out.trans hk2⟩
        have : acc ++ lineW F ws = (acc ++ F ++ joined ws) ++ [10] := by unfold lineW joined; simp
        rw [this, ← byte_app]
        exact hb2
      clear hb2 hl2 hk2
      go_wp2_with fail
      go_end0
      exact ⟨rfl, HF.out⟩
end Go.Proofs.YtmejgjhijdcahaaDoor
