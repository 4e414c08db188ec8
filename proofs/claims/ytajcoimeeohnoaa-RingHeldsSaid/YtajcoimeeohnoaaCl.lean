/- ring's Held$1 33: whether a handle is nil or of another ring. -/
import Derived.Test.YtajcoimeeohnoaaTo
import Derived.Test.YtajcoimeeohnoaaIh
import Derived.Deep.RegionHeld3
namespace Go.Proofs.Ytajcoimeeohnoaa
open Go.RowKit Go.Lib
set_option linter.unusedVariables false
set_option linter.unusedSimpArgs false
theorem part3 (l : Array Value) (i : Nat) (x : Value) (w : World) (h : l[i]? = some x) : (part 3 l i).run Try.prog w = .ok x w := by
  simp [part, Try.sizeOf3, Try.isAgg3, h]
theorem Try.fields75 : Try.prog.underlying 75 = some (.struct (Try.prog.fieldsOf 75)) := by kernel_rfl
theorem Try.held75 : Try.prog.stoodInHeld 75 = false := by kernel_rfl
theorem Try.list75 : (Try.prog.fieldsOf 75).toList = [{ name := "Base", type := 3, offset := 0, embedded := false, tag := "", pkgPath := "", byteOffset := 0 }, { name := "Cap", type := 3, offset := 1, embedded := false, tag := "", pkgPath := "", byteOffset := 8 }] := by kernel_rfl
theorem neq_lay (a0 a1 b0 b1 : Int) (w : World) :
    (binOp .neq 75 (.agg #[.int .i64 a0, .int .i64 a1]) (.agg #[.int .i64 b0, .int .i64 b1])).run Try.prog w = .ok (.bool (!(a0 == b0 && (a1 == b1 && true)))) w := by
  have h : (Op.equalIn 10000 75 (.agg #[.int .i64 a0, .int .i64 a1]) (.agg #[.int .i64 b0, .int .i64 b1])).run Try.prog w = .ok (a0 == b0 && (a1 == b1 && true)) w := by
    rw [show (10000 : Nat) = 9998 + 1 + 1 from rfl, run_equalIn_struct w (9998 + 1) 75 _ _ Try.fields75 Try.held75, Try.list75]
    refine field_int (by decide) Try.underlying3 (part3 _ _ _ _ rfl) (part3 _ _ _ _ rfl) ?_
    refine field_int (by decide) Try.underlying3 (part3 _ _ _ _ rfl) (part3 _ _ _ _ rfl) ?_
    simp [Op.eqFields]
  rw [run_neq_struct, h, Result.andThen_ok]
/-- Whether a handle is of another ring. -/
def oth (b C b' C' : Int) : Bool := !(b' == b && (C' == C && true))
set_option maxRecDepth 100000 in
set_option maxHeartbeats 2000000 in
theorem held1_nil (L : Nat) (w : World) :
    Calls Try.prog 33 #[.pointer none, .pointer (some ⟨L, 0, none⟩)] w fun e w' => e = .returned (.bool true) ∧ Below w.heap.size w w' := by
  go_enter Try.func33, Try.ntmps33
  go_wp2_with fail
  refine wp_region_gw (by kernel_rfl) (by kernel_rfl) ?_
  repeat (go_big_quiet_step (rfl))
  refine wpQuiet_nil ?_
  intro _ hw'
  obtain ⟨x', hw''⟩ := hw'
  subst hw''
  go_wp2
  go_ret
  exact ⟨rfl, x'.bel⟩
set_option maxRecDepth 100000 in
set_option maxHeartbeats 2000000 in
theorem held1_any (H L : Nat) (b C b' C' : Int) (w : World) (h : HAt w H b' C') (l0 : w.cell? ⟨L, 0, none⟩ = some (.int .i64 b)) (l1 : w.cell? ⟨L, 1, none⟩ = some (.int .i64 C)) :
    Calls Try.prog 33 #[.pointer (some ⟨H, 0, none⟩), .pointer (some ⟨L, 0, none⟩)] w fun e w' => e = .returned (.bool (oth b C b' C')) ∧ Below w.heap.size w w' := by
  have x0 := gw_cell h.c0; have x1 := gw_cell h.c1; have x2 := gw_cell l0; have x3 := gw_cell l1
  have hN := fun W => neq_lay b' C' b C W
  have ho : (!(b' == b && (C' == C && true))) = oth b C b' C' := rfl
  rw [ho] at hN
  generalize oth b C b' C' = q at hN ⊢
  clear ho h l0 l1
  go_enter Try.func33, Try.ntmps33
  go_wp2_with fail
  refine wp_region_gw (by kernel_rfl) (by kernel_rfl) ?_
  repeat (go_big_quiet_step (rfl))
  refine wpQuiet_nil ?_
  intro _ hw'
  obtain ⟨x', hw''⟩ := hw'
  subst hw''
  go_wp2
  go_ret
  exact ⟨rfl, x'.bel⟩
end Go.Proofs.Ytajcoimeeohnoaa
