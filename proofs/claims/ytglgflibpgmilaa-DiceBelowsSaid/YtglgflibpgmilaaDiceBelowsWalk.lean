/- DiceBelows: the walks, at 0 and above. -/
import Derived.Test.YtglgflibpgmilaaNew
namespace Go.Proofs.Ytglgflibpgmilaa
open Go.RowKit Go.Lib

theorem row4 (w : World) (a b c d : Int) : RowAt .u64 (w.alloc (.cells #[.int .u64 a, .int .u64 b, .int .u64 c, .int .u64 d] 22)) (.slice (some ⟨w.heap.size, 0, none⟩) 4 4) [a, b, c, d] := by
  refine ⟨some ⟨w.heap.size, 0, none⟩, 4, rfl, by simp, by omega, (fun h => by cases h), ?_⟩
  intro p hp i hi
  cases hp
  rw [Addr.add_lit]
  have hh : (w.alloc (.cells #[.int .u64 a, .int .u64 b, .int .u64 c, .int .u64 d] 22)).heap[w.heap.size]? = some (.cells #[.int .u64 a, .int .u64 b, .int .u64 c, .int .u64 d] 22 (0, 0)) := heap_new _ _
  simp at hi
  rcases (show i = 0 ∨ i = 1 ∨ i = 2 ∨ i = 3 by omega) with rfl | rfl | rfl | rfl <;> exact cell_of hh rfl

theorem belows_end (w : World) (o : Obj) (w1 w2 : World) (b : Nat) (hb : (w.alloc o).heap.size ≤ b) (hl : Below (w.alloc o).heap.size (w.alloc o) w1) (hbut : But b w1 w2) : Below w.heap.size w w2 := by
  have hs : (w.alloc o).heap.size = w.heap.size + 1 := by simp
  have h1 : Below w.heap.size w w1 := ((Below.refl _ w).alloc (Nat.le_refl _) o).trans (hl.mono (by omega))
  exact But.below h1 hbut (by omega) h1.size

theorem below_nat (w : World) (b : Nat) (v : Value) (s : St) (u : Int) (x n q : Nat) (ws : List Int) (hq : q = x * n / 18446744073709551616)
    (hh : w.heap[b]? = some (DObj (fnv 41) v s u)) (hw : WordsAt w b v ((x : Int) :: ws)) (hu0 : 0 ≤ u) (hu1 : u < 9223372036854775807)
    (hx1 : x < 18446744073709551616) (hn0 : 0 < n) (hn1 : n < 18446744073709551616) :
    Calls Try.prog 37 #[.pointer (some ⟨b, 0, none⟩), .int .u64 n] w fun e w' =>
      e = .returned (.tuple #[.int .u64 (q : Int), .int .i64 0]) ∧
      ∃ v', w'.heap[b]? = some (DObj (fnv 41) v' s (u + 1)) ∧ WordsAt w' b v' ws ∧ But b w w' := by
  have h := below_given w b v s u x n ws hh hw hu0 hu1 (by omega) (by omega) (by omega) (by omega)
  rw [Int.toNat_natCast, Int.toNat_natCast, ← hq] at h
  exact h

theorem high_lt (x n : Nat) (hx : x < 18446744073709551616) (hn : 0 < n) : x * n / 18446744073709551616 < n := by
  apply Nat.div_lt_of_lt_mul
  exact Nat.mul_lt_mul_of_pos_right hx hn
theorem high_mono (x y n : Nat) (h : x ≤ y) : x * n / 18446744073709551616 ≤ y * n / 18446744073709551616 :=
  Nat.div_le_div_right (Nat.mul_le_mul_right n h)
theorem high_last (n : Nat) (h0 : 0 < n) (hn : n < 18446744073709551616) : 18446744073709551615 * n / 18446744073709551616 = n - 1 := by omega

set_option maxRecDepth 100000 in
set_option maxHeartbeats 1000000 in
theorem belows_pos (n x y : Nat) (w : World) (hn0 : 0 < n) (hn : n < 18446744073709551616) (hx : x < 18446744073709551616) (hy : y < 18446744073709551616) :
    Calls Try.prog 9 #[.int .u64 n, .int .u64 x, .int .u64 y] w fun e w' => e = .returned (.bool true) ∧ Below w.heap.size w w' := by
  have hne : ((n : Int) == 0) = false := by simp; omega
  obtain ⟨qa, hqa⟩ : ∃ q, q = x * n / 18446744073709551616 := ⟨_, rfl⟩
  obtain ⟨qb, hqb⟩ : ∃ q, q = y * n / 18446744073709551616 := ⟨_, rfl⟩
  have ha : qa < n := hqa ▸ high_lt x n hx hn0
  have hb : qb < n := hqb ▸ high_lt y n hy hn0
  have hab : (x ≤ y ∧ qa ≤ qb) ∨ (y < x ∧ qb ≤ qa) := by
    rcases Nat.lt_or_ge y x with h | h
    · exact .inr ⟨h, by rw [hqa, hqb]; exact high_mono y x n (Nat.le_of_lt h)⟩
    · exact .inl ⟨h, by rw [hqa, hqb]; exact high_mono x y n h⟩
  have hbool : (((n - 1 : Nat) : Int) != (n : Int) - 1) = false := by simp; omega
  have QA := hide hqa; have QB := hide hqb
  clear hqa hqb
  rcases hab with ⟨h1, h2⟩ | ⟨h1, h2⟩
  all_goals
    go_enter Try.func9, Try.ntmps9
    go_wp2_with fail
    refine (new_any n _ _ _ (row4 _ _ _ _ _) (by simp) hn).mono ?_
    rintro e w1 ⟨b, v1, rfl, hb0, hh, hw, hbel⟩
    have HB := hide hb0; have HH := hide hh; have HW := hide hw; have HL := hide hbel
    clear hb0 hh hw hbel
    go_wp2_with fail
    refine (below_nat _ b v1 _ _ x n qa _ QA.out HH.out HW.out (by omega) (by omega) hx hn0 hn).mono ?_
    rintro e w2 ⟨rfl, v2, hh, hw, hbut⟩
    have HH2 := hide hh; have HW2 := hide hw; have HU2 := hide hbut
    clear hh hw hbut HH HW
    go_wp2_with fail
    refine (below_nat _ b v2 _ _ y n qb _ QB.out HH2.out HW2.out (by omega) (by omega) hy hn0 hn).mono ?_
    rintro e w3 ⟨rfl, v3, hh, hw, hbut⟩
    have HH3 := hide hh; have HW3 := hide hw; have HU3 := hide (HU2.out.trans hbut)
    clear hh hw hbut HH2 HW2 HU2
    go_wp2_with fail
    refine (below_nat _ b v3 _ _ 0 n 0 _ (by simp) HH3.out HW3.out (by omega) (by omega) (by omega) hn0 hn).mono ?_
    rintro e w4 ⟨rfl, v4, hh, hw, hbut⟩
    have HH4 := hide hh; have HW4 := hide hw; have HU4 := hide (HU3.out.trans hbut)
    clear hh hw hbut HH3 HW3 HU3
    go_wp2_with fail
    refine (below_nat _ b v4 _ _ 18446744073709551615 n (n - 1) _ (high_last n hn0 hn).symm HH4.out HW4.out (by omega) (by omega) (by omega) hn0 hn).mono ?_
    rintro e w5 ⟨rfl, v5, hh, hw, hbut⟩
    have HH5 := hide hh; have HU5 := hide (HU4.out.trans hbut)
    clear hh hw hbut HH4 HW4 HU4
    go_wp2_with fail
    refine (used_any _ b _ _ _ _ HH5.out).mono ?_
    rintro e w5 ⟨rfl, rfl⟩
    go_wp2_with fail
    go_ret
    exact ⟨rfl, belows_end w _ _ _ b HB.out HL.out HU5.out⟩

set_option maxRecDepth 100000 in
set_option maxHeartbeats 1000000 in
theorem belows_zero (x y : Nat) (w : World) :
    Calls Try.prog 9 #[.int .u64 0, .int .u64 x, .int .u64 y] w fun e w' => e = .returned (.bool true) ∧ Below w.heap.size w w' := by
  go_enter Try.func9, Try.ntmps9
  go_wp2_with fail
  refine (new_any 0 _ _ _ (row4 _ _ _ _ _) (by simp) (by omega)).mono ?_
  rintro e w1 ⟨b, v1, rfl, hb, hh, hw, hbel⟩
  have HB := hide hb; have HH := hide hh; have HW := hide hw; have HL := hide hbel
  clear hb hh hw hbel
  go_wp2_with fail
  refine (below_zero _ _).mono ?_
  rintro e w1 ⟨rfl, rfl⟩
  go_wp2_with fail
  refine (next_given _ b v1 _ _ x _ HH.out HW.out (by omega) (by omega)).mono ?_
  rintro e w2 ⟨rfl, v2, hh2, hw2, hbut⟩
  have HH2 := hide hh2; have HBU := hide hbut
  clear hh2 hw2 hbut
  go_wp2_with fail
  refine (used_any _ b _ _ _ _ HH2.out).mono ?_
  rintro e w2 ⟨rfl, rfl⟩
  go_wp2_with fail
  go_ret
  exact ⟨rfl, belows_end w _ _ _ b HB.out HL.out HBU.out⟩
end Go.Proofs.Ytglgflibpgmilaa
