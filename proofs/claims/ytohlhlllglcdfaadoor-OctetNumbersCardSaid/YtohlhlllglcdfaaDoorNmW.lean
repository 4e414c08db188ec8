/- OctetNumbers: the walk. -/
import Derived.Test.YtohlhlllglcdfaaDoorNmG
import Derived.Lib.AppendIntMem
namespace Go.Proofs.YtohlhlllglcdfaaDoor
open Go.Shelf Go.RowKit Go.Sort Go.Lib
set_option linter.unusedVariables false
set_option linter.unusedSimpArgs false
theorem no_any (x : Int) (w : World) : Calls Tryd.prog 6 #[.int .i64 x] w fun e w' => e = .returned (.int .i64 x) ∧ w' = w := by
  go_enter Tryd.func6, Tryd.ntmps6
  go_wp2
  go_ret
  exact ⟨rfl, rfl⟩
set_option maxRecDepth 100000 in
set_option maxHeartbeats 4000000 in
theorem numbers_law (v : Int) (hv0 : 0 ≤ v) (hv1 : v < 18446744073709551616) (i : Int) (hi0 : -9223372036854775808 ≤ i) (hi1 : i ≤ 9223372036854775807) (s : ByteArray) (hs : s.size ≤ 140737488351232) (tp : TypeId) (p : Value) (w : World)
    (hvar : w.var? Tryd.prog "strconv.ErrRange" = some #[.iface tp p]) (htab : Lib.TabIs Tryd.prog w "internal/strconv.uint64pow10" .u64 Lib.pow10Tab) :
    Calls Tryd.prog 3 #[.int .u64 v, .int .i64 i, .string s] w fun e w' => e = .returned (.bool true) ∧ Below w.heap.size w w' := by
  have H4 := hide (number_any s hs tp p w hvar)
  have H5 : Hid (∀ W, Calls Tryd.prog 5 #[.string s] W _) := fun W => rnum_any s hs W
  have H6 := hide no_any
  have H7 : Hid (∀ W, Calls Tryd.prog 7 #[.int .i64 i] W _) := fun W => pzig i hi0 hi1 W
  have H8 : Hid (∀ W, Calls Tryd.prog 8 #[.int .i64 i] W _) := fun W => rzig i hi0 hi1 W
  have H9 : Hid (∀ W, Calls Tryd.prog 9 #[.int .u64 v] W _) := fun W => pzag v hv0 hv1 W
  have H10 : Hid (∀ W, Calls Tryd.prog 10 #[.int .u64 v] W _) := fun W => rzag v hv0 hv1 W
  have H11 : Hid (∀ W, Below w.heap.size w W → Calls Tryd.prog 11 #[.int .u64 v] W fun e w' => e = .returned (.string ⟨(Lib.decDigits v.toNat).toArray⟩) ∧ Below W.heap.size W w') := fun W hW => by
    have h5 := decimal_any v.toNat (by omega) W (Lib.tabBelow_of_tabIs htab W hW)
    rw [show ((v.toNat : Nat) : Int) = v by omega] at h5
    exact h5
  have H12 : Hid (∀ W, Calls Tryd.prog 12 #[.int .u64 v] W fun e w' => e = .returned (.string ⟨(Lib.decDigits v.toNat).toArray⟩) ∧ w' = W) := fun W => by
    have h5 := rdec_any v.toNat (by omega) W
    rw [show ((v.toNat : Nat) : Int) = v by omega] at h5
    exact h5
  obtain ⟨Z1, hZ1⟩ : ∃ Z1, Z1 = zigA i := ⟨_, rfl⟩
  obtain ⟨Z2, hZ2⟩ : ∃ Z2, Z2 = zagA v := ⟨_, rfl⟩
  obtain ⟨DD, hDD⟩ : ∃ DD : ByteArray, DD = ⟨(Lib.decDigits v.toNat).toArray⟩ := ⟨_, rfl⟩
  rw [← hZ1] at H7 H8
  rw [← hZ2] at H9 H10
  rw [← hDD] at H11 H12
  clear hZ1 hZ2 hDD hvar htab hs
  go_enter Tryd.func3, Tryd.ntmps3
  go_wp2_with (first
    | (go_at_call 4; refine H4.out.mono ?_; rintro e w1 ⟨n, c, rfl, hn, hb⟩; have HN := hide hn; have HB := hide hb; clear hn hb)
    | (go_at_call 5; refine (H5.out _).mono ?_; rintro e w2 ⟨n2, c2, rfl, hn, rfl⟩; obtain ⟨rfl, rfl⟩ := HN.out.one hn; clear hn)
    | (go_at_call 6; refine (H6.out _ _).mono ?_; rintro e w3 ⟨rfl, rfl⟩)
    | (go_at_call 7; refine (H7.out _).mono ?_; rintro e w4 ⟨rfl, rfl⟩)
    | (go_at_call 8; refine (H8.out _).mono ?_; rintro e w5 ⟨rfl, rfl⟩)
    | (go_at_call 9; refine (H9.out _).mono ?_; rintro e w6 ⟨rfl, rfl⟩)
    | (go_at_call 10; refine (H10.out _).mono ?_; rintro e w7 ⟨rfl, rfl⟩)
    | (go_at_call 11; refine (H11.out _ HB.out).mono ?_; rintro e w8 ⟨rfl, hb⟩; have HE := hide (HB.out.trans (hb.mono HB.out.size)); clear hb)
    | (go_at_call 12; refine (H12.out _).mono ?_; rintro e w9 ⟨rfl, rfl⟩)
    | fail)
  go_ret
  exact ⟨rfl, HE.out⟩
end Go.Proofs.YtohlhlllglcdfaaDoor
