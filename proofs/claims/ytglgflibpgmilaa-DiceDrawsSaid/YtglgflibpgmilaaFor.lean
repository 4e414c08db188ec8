/- For, and the reference's For. -/
import Derived.Test.YtglgflibpgmilaaRefNew
namespace Go.Proofs.Ytglgflibpgmilaa
open Go.RowKit Go.Lib

/-- The seed of a worker. -/
def wseed (seed k : Nat) : Nat := Scat.mix (seed ^^^ Scat.mix (k + 1))
theorem wseed_lt (seed k : Nat) : wseed seed k < 18446744073709551616 := Scat.mix_lt _

theorem for_neg (seed : Nat) (k : Int) (v : Value) (w : World) (h : k < 0) :
    Calls Try.prog 13 #[.int .u64 seed, .int .i64 k, v] w fun e w' => e = .returned (.tuple #[.pointer none, .int .i64 6]) ∧ w' = w := by
  go_enter Try.func13, Try.ntmps13
  go_wp2
  go_ret2
  exact ⟨rfl, rfl⟩
theorem refFor_neg (seed : Nat) (k : Int) (v : Value) (w : World) (h : k < 0) :
    Calls Try.prog 15 #[.int .u64 seed, .int .i64 k, v] w fun e w' => e = .returned (.tuple #[.pointer none, .int .i64 6]) ∧ w' = w := by
  go_enter Try.func15, Try.ntmps15
  go_wp2
  go_ret2
  exact ⟨rfl, rfl⟩

set_option maxRecDepth 100000 in
theorem for_any (seed k : Nat) (v : Value) (ws : List Int) (w : World) (hv : RowAt .u64 w v ws) (hbig : ws.length * 8 ≤ 140737488355328) (hs : seed < 18446744073709551616) (hk : k < 9223372036854775808) :
    Calls Try.prog 13 #[.int .u64 seed, .int .i64 k, v] w fun e w' => ∃ b v', e = .returned (.tuple #[.pointer (some ⟨b, 0, none⟩), .int .i64 0]) ∧ w.heap.size ≤ b ∧
      w'.heap[b]? = some (DObj (fnv 41) v' (newSt (wseed seed k)) 0) ∧ WordsAt w' b v' ws ∧ Below w.heap.size w w' := by
  have H : Hid (RowAt .u64 w v ws) := hv
  have hx : bits .xor .u64 (seed : Int) ((Scat.mix (k + 1) : Nat) : Int) = ((seed ^^^ Scat.mix (k + 1) : Nat) : Int) := u64_xor_nat _ _ hs (Scat.mix_lt _)
  have hlt := xor_lt hs (Scat.mix_lt (k + 1))
  have HX := hide hx
  have HM := hide (mix_nat (k + 1) w (by omega))
  have HM2 := hide (mix_nat (seed ^^^ Scat.mix (k + 1)) w hlt)
  clear hv hx hlt
  have hk0 : decide ((k : Int) < 0) = false := by simp
  go_enter Try.func13, Try.ntmps13
  go_wp2_with fail
  refine HM.out.mono ?_
  rintro e w1 ⟨rfl, rfl⟩
  go_wp2_with fail
  rw [HX.out]
  refine HM2.out.mono ?_
  rintro e w1 ⟨rfl, rfl⟩
  go_wp2_with fail
  refine (new_any (wseed seed k) _ _ _ H.out hbig (wseed_lt _ _)).mono ?_
  rintro e w1 ⟨b, v', rfl, hP⟩
  have HP := hide hP
  clear hP
  go_wp2_with fail
  go_ret2
  exact ⟨b, v', rfl, HP.out⟩

set_option maxRecDepth 100000 in
theorem refFor_any (seed k : Nat) (v : Value) (ws : List Int) (w : World) (hv : RowAt .u64 w v ws) (hbig : ws.length * 8 ≤ 140737488355328) (hs : seed < 18446744073709551616) (hk : k < 9223372036854775808) :
    Calls Try.prog 15 #[.int .u64 seed, .int .i64 k, v] w fun e w' => ∃ b, e = .returned (.tuple #[.pointer (some ⟨b, 0, none⟩), .int .i64 0]) ∧ w.heap.size ≤ b ∧ RefIs w' w.heap.size b ws (newSt (wseed seed k)) 0 ∧ Below w.heap.size w w' := by
  have H : Hid (RowAt .u64 w v ws) := hv
  have hx : bits .xor .u64 (seed : Int) ((Scat.mix (k + 1) : Nat) : Int) = ((seed ^^^ Scat.mix (k + 1) : Nat) : Int) := u64_xor_nat _ _ hs (Scat.mix_lt _)
  have hlt := xor_lt hs (Scat.mix_lt (k + 1))
  have HX := hide hx
  have HM := hide (refMix_nat (k + 1) w (by omega))
  have HM2 := hide (refMix_nat (seed ^^^ Scat.mix (k + 1)) w hlt)
  clear hv hx hlt
  have hk0 : decide ((k : Int) < 0) = false := by simp
  go_enter Try.func15, Try.ntmps15
  go_wp2_with fail
  refine HM.out.mono ?_
  rintro e w1 ⟨rfl, rfl⟩
  go_wp2_with fail
  rw [HX.out]
  refine HM2.out.mono ?_
  rintro e w1 ⟨rfl, rfl⟩
  go_wp2_with fail
  refine (refNew_any (wseed seed k) _ _ _ H.out hbig (wseed_lt _ _)).mono ?_
  rintro e w1 ⟨b, rfl, hP⟩
  have HP := hide hP
  clear hP
  go_wp2_with fail
  go_ret2
  exact ⟨b, rfl, HP.out⟩
end Go.Proofs.Ytglgflibpgmilaa
