/- dice.From, Below, and live. -/
import Derived.Test.YtglgflibpgmilaaNext
import Derived.Laws.StructEq
import Derived.ChangeKeysEq
namespace Go.Proofs.Ytglgflibpgmilaa
open Go.RowKit Go.Lib
theorem cells22 : Try.prog.cellsOf 22 = 1 := by kernel_rfl

theorem equal_int (d : Nat) (x y : Int) (w : World) : (Op.equalIn (d + 1) 22 (.int .u64 x) (.int .u64 y)).run Try.prog w = .ok (x == y) w := by
  simp [Op.equalIn, run_underlying Try.underlying22]
theorem part_int (l : Array Value) (i : Nat) (x : Int) (w : World) (h : l[i]? = some (.int .u64 x)) : (part 22 l (i * 1)).run Try.prog w = .ok (.int .u64 x) w := by
  simp [part, Try.sizeOf22, Try.isAgg22, h]
theorem items_step (d i : Nat) (l m : Array Value) (x y : Int) (is : List Nat) (w : World) (hl : l[i]? = some (.int .u64 x)) (hm : m[i]? = some (.int .u64 y)) (r : Bool)
    (h : (Op.eqItems (d + 1) 22 1 l m is).run Try.prog w = .ok r w) : (Op.eqItems (d + 1) 22 1 l m (i :: is)).run Try.prog w = .ok (x == y && r) w := by
  simp only [Op.eqItems, Sem.run_bind]
  rw [part_int _ _ _ _ hl, Result.andThen_ok, part_int _ _ _ _ hm, Result.andThen_ok, equal_int, Result.andThen_ok]
  cases hxy : (x == y)
  · simp
  · simpa using h
theorem equal_arr (a0 a1 a2 a3 b0 b1 b2 b3 : Int) (w : World) :
    (Op.equalIn 10000 41 (.agg #[.int .u64 a0, .int .u64 a1, .int .u64 a2, .int .u64 a3]) (.agg #[.int .u64 b0, .int .u64 b1, .int .u64 b2, .int .u64 b3])).run Try.prog w
      = .ok (a0 == b0 && (a1 == b1 && (a2 == b2 && (a3 == b3 && true)))) w := by
  obtain ⟨i0, hi, hz0, hz1, hz2⟩ := info_parts Try.info22
  rw [show (10000 : Nat) = 9998 + 1 + 1 from rfl, run_equalIn_array w (9998 + 1) _ _ Try.underlying41 hi, cells22]
  rw [show List.range 4 = [0, 1, 2, 3] from rfl]
  exact items_step _ _ _ _ _ _ _ w rfl rfl _ (items_step _ _ _ _ _ _ _ w rfl rfl _ (items_step _ _ _ _ _ _ _ w rfl rfl _ (items_step _ _ _ _ _ _ _ w rfl rfl _ (by simp [Op.eqItems]))))
theorem eql_arr (a0 a1 a2 a3 b0 b1 b2 b3 : Int) (w : World) :
    (binOp .eql 41 (.agg #[.int .u64 a0, .int .u64 a1, .int .u64 a2, .int .u64 a3]) (.agg #[.int .u64 b0, .int .u64 b1, .int .u64 b2, .int .u64 b3])).run Try.prog w
      = .ok (.bool (a0 == b0 && (a1 == b1 && (a2 == b2 && a3 == b3)))) w := by
  rw [run_eql_struct, equal_arr, Result.andThen_ok, Bool.and_true]
theorem neq_arr (a0 a1 a2 a3 b0 b1 b2 b3 : Int) (w : World) :
    (binOp .neq 41 (.agg #[.int .u64 a0, .int .u64 a1, .int .u64 a2, .int .u64 a3]) (.agg #[.int .u64 b0, .int .u64 b1, .int .u64 b2, .int .u64 b3])).run Try.prog w
      = .ok (.bool (!(a0 == b0 && (a1 == b1 && (a2 == b2 && a3 == b3))))) w := by
  rw [run_neq_struct, equal_arr, Result.andThen_ok, Bool.and_true]

def St.isZero (s : St) : Bool := (s.a : Int) == 0 && ((s.b : Int) == 0 && ((s.c : Int) == 0 && (s.d : Int) == 0))

set_option maxRecDepth 100000 in
theorem from_zero (s : St) (v : Value) (w : World) (hz : s.isZero = true) :
    Calls Try.prog 21 #[stAgg s, v] w fun e w' => e = .returned (.tuple #[.pointer none, .int .i64 7]) ∧ Below w.heap.size w w' := by
  have q := eql_arr
  unfold St.isZero at hz
  unfold stAgg
  go_enter Try.func21, Try.ntmps21
  go_wp2_with fail
  go_ret2
  exact ⟨rfl, (Below.refl _ _).alloc (Nat.le_refl _) _⟩

set_option maxRecDepth 100000 in
theorem from_any (s : St) (v : Value) (xs : List Int) (w : World) (hz : s.isZero = false) (h : RowAt .u64 w v xs) (hbig : xs.length * 8 ≤ 140737488355328) :
    Calls Try.prog 21 #[stAgg s, v] w fun e w' => ∃ b, e = .returned (.tuple #[.pointer (some ⟨b, 0, none⟩), .int .i64 0]) ∧ w.heap.size ≤ b ∧
      DiceIs w' b xs s 0 ∧ Below w.heap.size w w' := by
  have q := eql_arr
  have H := hide h
  clear h
  unfold St.isZero at hz
  unfold stAgg
  go_enter Try.func21, Try.ntmps21
  go_wp2_with fail
  refine (of_any s v xs _ (H.out.alloc _) hbig).mono ?_
  rintro e w' ⟨b, v', rfl, hb, hh, hw, hbel⟩
  have P : Hid (w.heap.size ≤ b ∧ DiceIs w' b xs s 0 ∧ Below w.heap.size w w') :=
    ⟨by simp at hb; omega, ⟨_, v', hh, hw, .inl rfl⟩, ((Below.refl _ w).alloc (Nat.le_refl _) _).trans (hbel.mono (by simp))⟩
  clear hb hh hw hbel
  go_wp2_with fail
  go_ret2
  exact ⟨b, rfl, P.out⟩

set_option maxRecDepth 100000 in
theorem below_any (w : World) (b : Nat) (ws : List Int) (s : St) (u n x : Int) (hx : drawn ws s = x) (hd : DiceIs w b ws s u) (h : s.Ok) (hu0 : 0 ≤ u) (hu1 : u < 9223372036854775807)
    (hx0 : 0 ≤ x) (hx1 : x < 18446744073709551616) (hn0 : 0 < n) (hn1 : n < 18446744073709551616) :
    Calls Try.prog 37 #[.pointer (some ⟨b, 0, none⟩), .int .u64 n] w fun e w' =>
      e = .returned (.tuple #[.int .u64 ((x.toNat * n.toNat / 18446744073709551616 : Nat) : Int), .int .i64 0]) ∧ DiceIs w' b ws.tail (stLeft ws s) (u + 1) ∧ But b w w' := by
  have hne : (n == 0) = false := by simp; omega
  obtain ⟨X, rfl⟩ := Int.eq_ofNat_of_zero_le hx0
  obtain ⟨N, rfl⟩ := Int.eq_ofNat_of_zero_le (Int.le_of_lt hn0)
  have hc := next_any w b ws s u hd h hu0 hu1
  rw [hx] at hc
  have HC := hide hc
  clear hc hd hx
  go_enter Try.func37, Try.ntmps37
  go_wp2_with fail
  refine HC.out.mono ?_
  rintro e w' ⟨rfl, h⟩
  have H := hide h
  clear h
  go_wp2_with fail
  refine (Try.bits_Mul64 X N (by omega) (by omega) _).mono ?_
  rintro e w' ⟨rfl, rfl⟩
  go_wp2_with fail
  go_ret2
  exact ⟨rfl, H.out⟩

theorem row1 (w : World) (a : Int) : RowAt .u64 (w.alloc (.cells #[.int .u64 a] 22)) (.slice (some ⟨w.heap.size, 0, none⟩) 1 1) [a] := by
  refine ⟨some ⟨w.heap.size, 0, none⟩, 1, rfl, by simp, by omega, (fun h => by cases h), ?_⟩
  intro p hp i hi
  cases hp
  rw [Addr.add_lit]
  have hh : (w.alloc (.cells #[.int .u64 a] 22)).heap[w.heap.size]? = some (.cells #[.int .u64 a] 22 (0, 0)) := heap_new _ _
  obtain rfl : i = 0 := by simpa using hi
  exact cell_of hh rfl

theorem used_dice (w : World) (b : Nat) (ws : List Int) (s : St) (u : Int) (hd : DiceIs w b ws s u) :
    Calls Try.prog 20 #[.pointer (some ⟨b, 0, none⟩)] w fun e w' => e = .returned (.int .i64 u) ∧ w' = w := by
  obtain ⟨fn, v, hh, _, _⟩ := hd
  exact used_any w b fn v s u hh

def live0 : St := ⟨1, 2, 3, 4⟩
theorem live_w1 : stWord live0 = 11520 := by decide +kernel
theorem live_w2 : stWord (stNext live0) = 0 := by decide +kernel
theorem live_a : (stNext (stNext live0)).a = 211106232532999 := by decide +kernel
theorem live_b : (stNext (stNext live0)).b = 262149 := by decide +kernel
theorem live_c : (stNext (stNext live0)).c = 262149 := by decide +kernel
theorem live_d : (stNext (stNext live0)).d = 402653184 := by decide +kernel
theorem live_ok : live0.Ok := ⟨by decide +kernel, by decide +kernel, by decide +kernel, by decide +kernel⟩

set_option maxRecDepth 100000 in
theorem live_any (w : World) : Calls Try.prog 32 #[] w fun e w' => e = .returned (.bool true) ∧ Below w.heap.size w w' := by
  have q := eql_arr
  go_enter Try.func32, Try.ntmps32
  go_wp2_with fail
  refine (from_any live0 _ [7] _ (by decide +kernel) (row1 _ _) (by simp)).mono ?_
  rintro e w1 ⟨b, rfl, hb, hd, hbel⟩
  have HB := hide hb; have HD := hide hd; have HL := hide hbel
  clear hb hd hbel
  go_wp2_with fail
  refine (next_any _ b _ _ _ HD.out live_ok (by omega) (by omega)).mono ?_
  rintro e w2 ⟨rfl, hd, hbut⟩
  have HD2 := hide hd; have HU2 := hide hbut
  clear hd hbut HD
  go_wp2_with fail
  refine (next_any _ b _ _ _ HD2.out live_ok (by omega) (by omega)).mono ?_
  rintro e w3 ⟨rfl, hd, hbut⟩
  have HD3 := hide hd; have HU3 := hide (HU2.out.trans hbut)
  clear hd hbut HD2 HU2
  go_wp2_with fail
  refine (next_any _ b _ _ _ HD3.out (stNext_ok live_ok) (by omega) (by omega)).mono ?_
  rintro e w4 ⟨rfl, hd, hbut⟩
  have HD4 := hide hd; have HU4 := hide (HU3.out.trans hbut)
  clear hd hbut HD3 HU3
  go_wp2_with fail
  refine (used_dice _ b _ _ _ HD4.out).mono ?_
  rintro e w4 ⟨rfl, rfl⟩
  go_wp2_with fail
  refine (state_any _ b _ _ _ HD4.out).mono ?_
  rintro e w5 ⟨rfl, hbel⟩
  have HL5 := hide hbel
  clear hbel
  unfold stAgg stLeft
  have e1 := live_a; have e2 := live_b; have e3 := live_c; have e4 := live_d
  go_wp2_with fail
  go_ret
  refine ⟨rfl, ?_⟩
  have hB := HB.out
  have h1 : Below w.heap.size w w1 := ((Below.refl _ w).alloc (Nat.le_refl _) _).trans (HL.out.mono (by simp))
  have h2 : Below w.heap.size w w4 := But.below h1 HU4.out (by simp at hB; omega) h1.size
  exact h2.trans (HL5.out.mono h2.size)
end Go.Proofs.Ytglgflibpgmilaa
