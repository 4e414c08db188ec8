/- OctetDigits: the walk. -/
import Derived.Test.YtahhlmmdmjocdaaDoorNmP
import Derived.Lib.SmallJoins
namespace Go.Proofs.YtahhlmmdmjocdaaDoor
open Go.Shelf Go.RowKit Go.Sort Go.Lib
set_option linter.unusedVariables false
set_option linter.unusedSimpArgs false
theorem zag_zig (i : Int) (h0 : -9223372036854775808 ≤ i) (h1 : i ≤ 9223372036854775807) : 0 ≤ zigA i ∧ zigA i < 18446744073709551616 ∧ zagA (zigA i) = i := by
  unfold zigA zagA
  by_cases h : i < 0
  · rw [if_pos h]
    refine ⟨by omega, by omega, ?_⟩
    rw [if_pos (by omega)]
    omega
  · rw [if_neg h]
    refine ⟨by omega, by omega, ?_⟩
    rw [if_neg (by omega)]
    omega
theorem zig_zag (v : Int) (h0 : 0 ≤ v) (h1 : v < 18446744073709551616) : -9223372036854775808 ≤ zagA v ∧ zagA v ≤ 9223372036854775807 ∧ zigA (zagA v) = v := by
  unfold zagA zigA
  by_cases h : v % 2 = 1
  · rw [if_pos h]
    refine ⟨by omega, by omega, ?_⟩
    rw [if_pos (by omega)]
    omega
  · rw [if_neg h]
    refine ⟨by omega, by omega, ?_⟩
    rw [if_neg (by omega)]
    omega
theorem zig_next (i : Int) (h : 0 < i) : zigA i = zigA (-i) + 1 := by
  unfold zigA
  rw [if_neg (by omega), if_pos (by omega)]
  omega
/-- The digits of a number are a number's text. -/
theorem ok_dec (v : Nat) : okS ⟨(Lib.decDigits v).toArray⟩ := by
  obtain ⟨h1, _, h3, h4⟩ := dec_facts v
  have hsz : (⟨(Lib.decDigits v).toArray⟩ : ByteArray).size = (Lib.decDigits v).length := by simp [ByteArray.size]
  refine ⟨?_, ?_, ?_⟩
  · rw [hsz]; exact List.length_pos_iff.2 h3
  · rintro ⟨hb, hl⟩
    rw [hsz] at hl
    have e : (Lib.decDigits v)[0]? = some 48 := by
      unfold bt at hb
      have h2 : 0 < (Lib.decDigits v).length := by omega
      simp only [List.getElem?_eq_getElem h2, Option.getD_some] at hb ⊢
      congr 1
      exact UInt8.toNat_inj.1 hb
    have := h4 e
    subst this
    rw [dec_small (by decide)] at hl
    simp at hl
  · intro i hi
    rw [hsz] at hi
    unfold bt
    simp only [List.getElem?_eq_getElem hi, Option.getD_some]
    exact h1 _ (List.getElem_mem hi)
theorem rdN_lt : ∀ (l : List UInt8) (acc u : Nat), acc ≤ 18446744073709551615 → rdN acc l = some u → u ≤ 18446744073709551615
  | [], acc, u, h, e => by cases e; exact h
  | c :: r, acc, u, h, e => by
    unfold rdN at e
    by_cases h2 : 18446744073709551615 < acc * 10 + (c.toNat - 48)
    · rw [if_pos h2] at e; cases e
    · rw [if_neg h2] at e; exact rdN_lt r _ u (by omega) e
theorem num_dec {v : Nat} (hv : v < 18446744073709551616) {n c : Int} (h : NumIs ⟨(Lib.decDigits v).toArray⟩ n c) : n = (v : Int) ∧ c = 0 :=
  h.one (.inr ⟨ok_dec v, .inl ⟨v, (dec_facts v).2.1 hv, rfl, rfl⟩⟩)
theorem num_only {s : ByteArray} {k : Int} (h : NumIs s k 0) : ∃ u : Nat, k = (u : Int) ∧ u < 18446744073709551616 ∧ (⟨(Lib.decDigits u).toArray⟩ : ByteArray) = s := by
  rcases h with ⟨_, _, h⟩ | ⟨hok, ⟨u, hu, rfl, _⟩ | ⟨_, _, h⟩⟩
  · cases h
  · refine ⟨u, rfl, by have := rdN_lt _ 0 u (by decide) hu; omega, ?_⟩
    have e := rd_only s.data.toList u (dig_of hok) (by intro e; have h2 : s.data.toList.length = s.size := (by simp); rw [e] at h2; have := hok.1; simp at h2; omega) (by
      rintro ⟨e1, e2⟩
      refine hok.2.1 ⟨?_, by have h2 : s.data.toList.length = s.size := (by simp); omega⟩
      unfold bt
      rw [e1]
      rfl) hu
    apply ByteArray.ext
    show (Lib.decDigits u).toArray = s.data
    rw [e]
  · cases h
theorem num_range {s : ByteArray} {k c : Int} (h : NumIs s k c) : 0 ≤ k ∧ k < 18446744073709551616 := by
  rcases h with ⟨_, rfl, _⟩ | ⟨_, ⟨u, hu, rfl, _⟩ | ⟨_, rfl, _⟩⟩
  · decide
  · have := rdN_lt _ 0 u (by decide) hu; omega
  · decide
set_option maxRecDepth 100000 in
set_option maxHeartbeats 4000000 in
theorem digits_law (v : Int) (hv0 : 0 ≤ v) (hv1 : v < 18446744073709551616) (i : Int) (hi0 : -9223372036854775808 ≤ i) (hi1 : i ≤ 9223372036854775807) (s : ByteArray) (hs : s.size ≤ 140737488351232) (tp : TypeId) (p : Value) (w : World)
    (hvar : w.var? Tryd.prog "strconv.ErrRange" = some #[.iface tp p]) (htab : Lib.TabIs Tryd.prog w "internal/strconv.uint64pow10" .u64 Lib.pow10Tab) (hS : SumsAt w) :
    Calls Tryd.prog 3 #[.int .u64 v, .int .i64 i, .string s] w fun e w' => e = .returned (.bool true) ∧ Below w.heap.size w w' := by
  have H4 := hide (heads_any w hS)
  have H5 : Hid (∀ (W : World) (s' : ByteArray), s'.size ≤ 140737488351232 → Below w.heap.size w W → Calls Tryd.prog 5 #[.string s'] W fun e w' => ∃ v c, e = .returned (.tuple #[.int .u64 v, .int .i64 c]) ∧ NumIs s' v c ∧ Below w.heap.size w w') := fun W s' h1 h2 =>
    (number_any s' h1 tp p W (Go.Joins.var_stays (show Tryd.prog.globalNamed "strconv.ErrRange" = some 2 by kernel_rfl) hvar h2 (Nat.le_refl _))).mono fun e w' ⟨a, b, c, d, f⟩ => ⟨a, b, c, d, h2.trans (f.mono h2.size)⟩
  have H6 : Hid (∀ (W : World) (k : Int), 0 ≤ k → k < 18446744073709551616 → Below w.heap.size w W → Calls Tryd.prog 6 #[.int .u64 k] W fun e w' => e = .returned (.string ⟨(Lib.decDigits k.toNat).toArray⟩) ∧ Below w.heap.size w w') := fun W k h0 h1 h2 => by
    have h5 := decimal_any k.toNat (by omega) W (Lib.tabBelow_of_tabIs htab W h2)
    rw [show ((k.toNat : Nat) : Int) = k by omega] at h5
    exact h5.mono fun e w' ⟨a, b⟩ => ⟨a, h2.trans (b.mono h2.size)⟩
  have H7 := hide no_any
  have H8 : Hid (∀ (W : World) (k : Int), 0 ≤ k → k < 18446744073709551616 → Calls Tryd.prog 8 #[.int .u64 k] W _) := fun W k h0 h1 => pzag k h0 h1 W
  have H9 : Hid (∀ (W : World) (k : Int), -9223372036854775808 ≤ k → k ≤ 9223372036854775807 → Calls Tryd.prog 9 #[.int .i64 k] W _) := fun W k h0 h1 => pzig k h0 h1 W
  have HV := hide (And.intro hv0 hv1)
  have HI := hide (And.intro hi0 hi1)
  have HS := hide hs
  have HD0 : (⟨(Lib.decDigits v.toNat).toArray⟩ : ByteArray).size ≤ 140737488351232 := by
    have h : (⟨(Lib.decDigits v.toNat).toArray⟩ : ByteArray).size = (Lib.decDigits v.toNat).length := by simp [ByteArray.size]
    rw [h, Lib.decDigits_length]
    by_cases h1 : 1 ≤ v.toNat
    · have := Lib.numDigits_eq v.toNat h1 (by omega); split at this <;> omega
    · have h2 : Lib.nDigits v.toNat = 1 := by rw [show v.toNat = 0 by omega, ← Lib.decDigits_length, dec_small (by decide)]; rfl
      omega
  have HND : Hid (∀ n c : Int, NumIs ⟨(Lib.decDigits v.toNat).toArray⟩ n c → n = v ∧ c = 0) := fun n c h => by
    have h5 := num_dec (v := v.toNat) (by omega) h
    rwa [show ((v.toNat : Nat) : Int) = v by omega] at h5
  have H6v : Hid (∀ W : World, Below w.heap.size w W → Calls Tryd.prog 6 #[.int .u64 v] W _) := fun W h => H6.out W v hv0 hv1 h
  obtain ⟨DV, hDV⟩ : ∃ DV : ByteArray, DV = ⟨(Lib.decDigits v.toNat).toArray⟩ := ⟨_, rfl⟩
  rw [← hDV] at HD0 HND H6v
  have HD := hide HD0
  clear HD0 hDV
  have HZ := hide (zag_zig i hi0 hi1)
  have HY := hide (zig_zag v hv0 hv1)
  obtain ⟨k0, c0, hk⟩ : ∃ k0 c0, NumIs s k0 c0 := by
    by_cases h1 : okS s
    · cases h2 : rdN 0 s.data.toList with
      | some u => exact ⟨(u : Int), 0, .inr ⟨h1, .inl ⟨u, h2, rfl, rfl⟩⟩⟩
      | none => exact ⟨0, 2, .inr ⟨h1, .inr ⟨h2, rfl, rfl⟩⟩⟩
    · exact ⟨0, 5, .inl ⟨h1, rfl, rfl⟩⟩
  have HK : Hid (∀ k c, NumIs s k c → k = k0 ∧ c = c0) := fun k c h => h.one hk
  have H6s : Hid (c0 = 0 → ∀ W : World, Below w.heap.size w W → Calls Tryd.prog 6 #[.int .u64 k0] W fun e w' => e = .returned (.string s) ∧ Below w.heap.size w w') := fun h0 W h => by
    subst h0
    obtain ⟨u, rfl, hu, he⟩ := num_only hk
    have h5 := H6.out W (u : Int) (by omega) (by omega) h
    rwa [Int.toNat_natCast, he] at h5
  have HZN : Hid (0 < i → zigA i = zigA (-i) + 1) := fun h => zig_next i h
  have HZB : Hid (0 < i → zigA (-i) + 1 < 18446744073709551616) := fun h => by have := zig_next i h; have := (zag_zig i hi0 hi1).2.1; omega
  have hZ0 : zigA 0 = 0 := by decide
  have hZ1 : zigA (-1) = 1 := by decide
  have HZ0 : Hid (0 ≤ zigA (-i)) := by show 0 ≤ zigA (-i); unfold zigA; split <;> omega
  clear hvar htab hS hs hk
  have st0 : Hid True := trivial
  have st1 : Hid True := trivial
  have st2 : Hid True := trivial
  have st3 : Hid True := trivial
  have st4 : Hid True := trivial
  have st5 : Hid True := trivial
  have st6 : Hid True := trivial
  have st7 : Hid True := trivial
  have st8 : Hid True := trivial
  have st9 : Hid True := trivial
  have st10 : Hid True := trivial
  have st11 : Hid True := trivial
  have st12 : Hid True := trivial
  have st13 : Hid True := trivial
  have st14 : Hid True := trivial
  have st15 : Hid True := trivial
  have st16 : Hid True := trivial
  have st17 : Hid True := trivial
  by_cases hc : c0 = 0
  · have hcb : (c0 == 0) = true := by simp [hc]
    have H6t := hide (H6s.out hc)
    clear H6s
    subst hc
    by_cases hi : i ≤ 0
    · have hfin := hide (show (decide (i ≤ 0) || zigA i == IntKind.u64.wrap (zigA (-i) + 1)) = true by first | (rw [decide_eq_true hi]; rfl) | (rw [IntKind.wrap_u64, Int.emod_eq_of_lt (by have := HZ0.out; omega) (HZB.out (by omega)), ← HZN.out (by omega)]; simp))
      go_enter Tryd.func3, Tryd.ntmps3
      go_wp2_with (first
        | (clear st0; go_at_call 4; refine H4.out.mono ?_; rintro e w1 ⟨rfl, hb⟩; have HB1 := hide hb; clear hb)
        | (clear st1; go_at_call 6; refine (H6v.out _ HB1.out).mono ?_; rintro e w2 ⟨rfl, hb⟩; have HB2 := hide hb; clear hb)
        | (clear st2; go_at_call 5; refine (H5.out _ _ HD.out HB2.out).mono ?_; rintro e w3 ⟨n, c, rfl, hn, hb⟩; obtain ⟨rfl, rfl⟩ := HND.out _ _ hn; have HB3 := hide hb; clear hb hn)
        | (clear st3; go_at_call 7; refine (H7.out _ _).mono ?_; rintro e w4 ⟨rfl, rfl⟩)
        | (clear st4; go_at_call 9; refine (H9.out _ _ HI.out.1 HI.out.2).mono ?_; rintro e w5 ⟨rfl, rfl⟩)
        | (clear st5; go_at_call 8; refine (H8.out _ _ HZ.out.1 HZ.out.2.1).mono ?_; rintro e w6 ⟨rfl, rfl⟩; rw [HZ.out.2.2])
        | (clear st6; go_at_call 8; refine (H8.out _ _ HV.out.1 HV.out.2).mono ?_; rintro e w7 ⟨rfl, rfl⟩)
        | (clear st7; go_at_call 9; refine (H9.out _ _ HY.out.1 HY.out.2.1).mono ?_; rintro e w8 ⟨rfl, rfl⟩; rw [HY.out.2.2])
        | (clear st8; go_at_call 5; refine (H5.out _ _ HS.out HB3.out).mono ?_; rintro e w9 ⟨k, c, rfl, hn, hb⟩; obtain ⟨rfl, rfl⟩ := HK.out _ _ hn; have HB4 := hide hb; clear hb hn)
        | (clear st9; go_at_call 7; refine (H7.out _ _).mono ?_; rintro e w10 ⟨rfl, rfl⟩)
        | (clear st10; go_at_call 6; refine (H6t.out _ HB4.out).mono ?_; rintro e w11 ⟨rfl, hb⟩; have HB5 := hide hb; clear hb)
        | (clear st11; go_at_call 9; refine (H9.out _ 0 (by decide) (by decide)).mono ?_; rintro e w12 ⟨rfl, rfl⟩; rw [hZ0])
        | (clear st12; go_at_call 9; refine (H9.out _ (-1) (by decide) (by decide)).mono ?_; rintro e w13 ⟨rfl, rfl⟩; rw [hZ1])
        | (clear st13; go_at_call 9; refine (H9.out _ i HI.out.1 HI.out.2).mono ?_; rintro e w14 ⟨rfl, rfl⟩)
        | (clear st14; go_at_call 9; refine (H9.out _ (-i) (by omega) (by omega)).mono ?_; rintro e w15 ⟨rfl, rfl⟩)
        | fail)
      go_ret
      first
        | exact ⟨rfl, HB5.out⟩
        | (refine ⟨?_, HB5.out⟩; show Ending.returned (Value.bool (decide (i ≤ 0) || zigA i == IntKind.u64.wrap (zigA (-i) + 1))) = _; rw [hfin.out])
    · have hfin := hide (show (decide (i ≤ 0) || zigA i == IntKind.u64.wrap (zigA (-i) + 1)) = true by first | (rw [decide_eq_true hi]; rfl) | (rw [IntKind.wrap_u64, Int.emod_eq_of_lt (by have := HZ0.out; omega) (HZB.out (by omega)), ← HZN.out (by omega)]; simp))
      go_enter Tryd.func3, Tryd.ntmps3
      go_wp2_with (first
        | (clear st0; go_at_call 4; refine H4.out.mono ?_; rintro e w1 ⟨rfl, hb⟩; have HB1 := hide hb; clear hb)
        | (clear st1; go_at_call 6; refine (H6v.out _ HB1.out).mono ?_; rintro e w2 ⟨rfl, hb⟩; have HB2 := hide hb; clear hb)
        | (clear st2; go_at_call 5; refine (H5.out _ _ HD.out HB2.out).mono ?_; rintro e w3 ⟨n, c, rfl, hn, hb⟩; obtain ⟨rfl, rfl⟩ := HND.out _ _ hn; have HB3 := hide hb; clear hb hn)
        | (clear st3; go_at_call 7; refine (H7.out _ _).mono ?_; rintro e w4 ⟨rfl, rfl⟩)
        | (clear st4; go_at_call 9; refine (H9.out _ _ HI.out.1 HI.out.2).mono ?_; rintro e w5 ⟨rfl, rfl⟩)
        | (clear st5; go_at_call 8; refine (H8.out _ _ HZ.out.1 HZ.out.2.1).mono ?_; rintro e w6 ⟨rfl, rfl⟩; rw [HZ.out.2.2])
        | (clear st6; go_at_call 8; refine (H8.out _ _ HV.out.1 HV.out.2).mono ?_; rintro e w7 ⟨rfl, rfl⟩)
        | (clear st7; go_at_call 9; refine (H9.out _ _ HY.out.1 HY.out.2.1).mono ?_; rintro e w8 ⟨rfl, rfl⟩; rw [HY.out.2.2])
        | (clear st8; go_at_call 5; refine (H5.out _ _ HS.out HB3.out).mono ?_; rintro e w9 ⟨k, c, rfl, hn, hb⟩; obtain ⟨rfl, rfl⟩ := HK.out _ _ hn; have HB4 := hide hb; clear hb hn)
        | (clear st9; go_at_call 7; refine (H7.out _ _).mono ?_; rintro e w10 ⟨rfl, rfl⟩)
        | (clear st10; go_at_call 6; refine (H6t.out _ HB4.out).mono ?_; rintro e w11 ⟨rfl, hb⟩; have HB5 := hide hb; clear hb)
        | (clear st11; go_at_call 9; refine (H9.out _ 0 (by decide) (by decide)).mono ?_; rintro e w12 ⟨rfl, rfl⟩; rw [hZ0])
        | (clear st12; go_at_call 9; refine (H9.out _ (-1) (by decide) (by decide)).mono ?_; rintro e w13 ⟨rfl, rfl⟩; rw [hZ1])
        | (clear st13; go_at_call 9; refine (H9.out _ i HI.out.1 HI.out.2).mono ?_; rintro e w14 ⟨rfl, rfl⟩)
        | (clear st14; go_at_call 9; refine (H9.out _ (-i) (by omega) (by omega)).mono ?_; rintro e w15 ⟨rfl, rfl⟩)
        | fail)
      go_ret
      first
        | exact ⟨rfl, HB5.out⟩
        | (refine ⟨?_, HB5.out⟩; show Ending.returned (Value.bool (decide (i ≤ 0) || zigA i == IntKind.u64.wrap (zigA (-i) + 1))) = _; rw [hfin.out])
  · have hcb : (c0 == 0) = false := by simp [hc]
    by_cases hi : i ≤ 0
    · have hfin := hide (show (decide (i ≤ 0) || zigA i == IntKind.u64.wrap (zigA (-i) + 1)) = true by first | (rw [decide_eq_true hi]; rfl) | (rw [IntKind.wrap_u64, Int.emod_eq_of_lt (by have := HZ0.out; omega) (HZB.out (by omega)), ← HZN.out (by omega)]; simp))
      go_enter Tryd.func3, Tryd.ntmps3
      go_wp2_with (first
        | (clear st0; go_at_call 4; refine H4.out.mono ?_; rintro e w1 ⟨rfl, hb⟩; have HB1 := hide hb; clear hb)
        | (clear st1; go_at_call 6; refine (H6v.out _ HB1.out).mono ?_; rintro e w2 ⟨rfl, hb⟩; have HB2 := hide hb; clear hb)
        | (clear st2; go_at_call 5; refine (H5.out _ _ HD.out HB2.out).mono ?_; rintro e w3 ⟨n, c, rfl, hn, hb⟩; obtain ⟨rfl, rfl⟩ := HND.out _ _ hn; have HB3 := hide hb; clear hb hn)
        | (clear st3; go_at_call 7; refine (H7.out _ _).mono ?_; rintro e w4 ⟨rfl, rfl⟩)
        | (clear st4; go_at_call 9; refine (H9.out _ _ HI.out.1 HI.out.2).mono ?_; rintro e w5 ⟨rfl, rfl⟩)
        | (clear st5; go_at_call 8; refine (H8.out _ _ HZ.out.1 HZ.out.2.1).mono ?_; rintro e w6 ⟨rfl, rfl⟩; rw [HZ.out.2.2])
        | (clear st6; go_at_call 8; refine (H8.out _ _ HV.out.1 HV.out.2).mono ?_; rintro e w7 ⟨rfl, rfl⟩)
        | (clear st7; go_at_call 9; refine (H9.out _ _ HY.out.1 HY.out.2.1).mono ?_; rintro e w8 ⟨rfl, rfl⟩; rw [HY.out.2.2])
        | (clear st8; go_at_call 5; refine (H5.out _ _ HS.out HB3.out).mono ?_; rintro e w9 ⟨k, c, rfl, hn, hb⟩; obtain ⟨rfl, rfl⟩ := HK.out _ _ hn; have HB4 := hide hb; clear hb hn)
        | (clear st9; go_at_call 7; refine (H7.out _ _).mono ?_; rintro e w10 ⟨rfl, rfl⟩)
        | (clear st10; go_at_call 6; refine (H6t.out _ HB4.out).mono ?_; rintro e w11 ⟨rfl, hb⟩; have HB5 := hide hb; clear hb)
        | (clear st11; go_at_call 9; refine (H9.out _ 0 (by decide) (by decide)).mono ?_; rintro e w12 ⟨rfl, rfl⟩; rw [hZ0])
        | (clear st12; go_at_call 9; refine (H9.out _ (-1) (by decide) (by decide)).mono ?_; rintro e w13 ⟨rfl, rfl⟩; rw [hZ1])
        | (clear st13; go_at_call 9; refine (H9.out _ i HI.out.1 HI.out.2).mono ?_; rintro e w14 ⟨rfl, rfl⟩)
        | (clear st14; go_at_call 9; refine (H9.out _ (-i) (by omega) (by omega)).mono ?_; rintro e w15 ⟨rfl, rfl⟩)
        | fail)
      go_ret
      first
        | exact ⟨rfl, HB4.out⟩
        | (refine ⟨?_, HB4.out⟩; show Ending.returned (Value.bool (decide (i ≤ 0) || zigA i == IntKind.u64.wrap (zigA (-i) + 1))) = _; rw [hfin.out])
    · have hfin := hide (show (decide (i ≤ 0) || zigA i == IntKind.u64.wrap (zigA (-i) + 1)) = true by first | (rw [decide_eq_true hi]; rfl) | (rw [IntKind.wrap_u64, Int.emod_eq_of_lt (by have := HZ0.out; omega) (HZB.out (by omega)), ← HZN.out (by omega)]; simp))
      go_enter Tryd.func3, Tryd.ntmps3
      go_wp2_with (first
        | (clear st0; go_at_call 4; refine H4.out.mono ?_; rintro e w1 ⟨rfl, hb⟩; have HB1 := hide hb; clear hb)
        | (clear st1; go_at_call 6; refine (H6v.out _ HB1.out).mono ?_; rintro e w2 ⟨rfl, hb⟩; have HB2 := hide hb; clear hb)
        | (clear st2; go_at_call 5; refine (H5.out _ _ HD.out HB2.out).mono ?_; rintro e w3 ⟨n, c, rfl, hn, hb⟩; obtain ⟨rfl, rfl⟩ := HND.out _ _ hn; have HB3 := hide hb; clear hb hn)
        | (clear st3; go_at_call 7; refine (H7.out _ _).mono ?_; rintro e w4 ⟨rfl, rfl⟩)
        | (clear st4; go_at_call 9; refine (H9.out _ _ HI.out.1 HI.out.2).mono ?_; rintro e w5 ⟨rfl, rfl⟩)
        | (clear st5; go_at_call 8; refine (H8.out _ _ HZ.out.1 HZ.out.2.1).mono ?_; rintro e w6 ⟨rfl, rfl⟩; rw [HZ.out.2.2])
        | (clear st6; go_at_call 8; refine (H8.out _ _ HV.out.1 HV.out.2).mono ?_; rintro e w7 ⟨rfl, rfl⟩)
        | (clear st7; go_at_call 9; refine (H9.out _ _ HY.out.1 HY.out.2.1).mono ?_; rintro e w8 ⟨rfl, rfl⟩; rw [HY.out.2.2])
        | (clear st8; go_at_call 5; refine (H5.out _ _ HS.out HB3.out).mono ?_; rintro e w9 ⟨k, c, rfl, hn, hb⟩; obtain ⟨rfl, rfl⟩ := HK.out _ _ hn; have HB4 := hide hb; clear hb hn)
        | (clear st9; go_at_call 7; refine (H7.out _ _).mono ?_; rintro e w10 ⟨rfl, rfl⟩)
        | (clear st10; go_at_call 6; refine (H6t.out _ HB4.out).mono ?_; rintro e w11 ⟨rfl, hb⟩; have HB5 := hide hb; clear hb)
        | (clear st11; go_at_call 9; refine (H9.out _ 0 (by decide) (by decide)).mono ?_; rintro e w12 ⟨rfl, rfl⟩; rw [hZ0])
        | (clear st12; go_at_call 9; refine (H9.out _ (-1) (by decide) (by decide)).mono ?_; rintro e w13 ⟨rfl, rfl⟩; rw [hZ1])
        | (clear st13; go_at_call 9; refine (H9.out _ i HI.out.1 HI.out.2).mono ?_; rintro e w14 ⟨rfl, rfl⟩)
        | (clear st14; go_at_call 9; refine (H9.out _ (-i) (by omega) (by omega)).mono ?_; rintro e w15 ⟨rfl, rfl⟩)
        | fail)
      go_ret
      first
        | exact ⟨rfl, HB4.out⟩
        | (refine ⟨?_, HB4.out⟩; show Ending.returned (Value.bool (decide (i ≤ 0) || zigA i == IntKind.u64.wrap (zigA (-i) + 1))) = _; rw [hfin.out])
end Go.Proofs.YtahhlmmdmjocdaaDoor
