/- What is told is the same, or not. -/
import Derived.Test.YtlncjbjdjciphaaN5
import Derived.Test.YtlncjbjdjciphaaF4
namespace Go.Proofs.Ytlncjbjdjciphaa
open Go.RowKit Go.Lib
theorem Try.fields45 : Try.prog.underlying 45 = some (.struct (Try.prog.fieldsOf 45)) := by kernel_rfl
theorem Try.held45 : Try.prog.stoodInHeld 45 = false := by kernel_rfl
theorem Try.list45 : (Try.prog.fieldsOf 45).toList = [{ name := "Balance", type := 3, offset := 0, embedded := false, tag := "", pkgPath := "", byteOffset := 0 }, { name := "Active", type := 4, offset := 1, embedded := false, tag := "", pkgPath := "", byteOffset := 8 }, { name := "Black", type := 4, offset := 2, embedded := false, tag := "", pkgPath := "", byteOffset := 9 }, { name := "Sent", type := 3, offset := 3, embedded := false, tag := "", pkgPath := "", byteOffset := 16 }, { name := "Over", type := 4, offset := 4, embedded := false, tag := "", pkgPath := "", byteOffset := 24 }] := by kernel_rfl
theorem neq_told (d : Nd) (w : World) : (binOp .neq 45 d.told d.told).run Try.prog w = .ok (.bool false) w := by
  unfold Nd.told
  generalize decide (d.ph = 0) = o
  have h : (Op.equalIn 10000 45 (.agg #[.int .i64 d.bal, .bool d.active, .bool d.black, .int .i64 d.sent, .bool o]) (.agg #[.int .i64 d.bal, .bool d.active, .bool d.black, .int .i64 d.sent, .bool o])).run Try.prog w = .ok (d.bal == d.bal && (d.active == d.active && (d.black == d.black && (d.sent == d.sent && (o == o && true))))) w := by
    rw [show (10000 : Nat) = 9998 + 1 + 1 from rfl, run_equalIn_struct w (9998 + 1) 45 _ _ Try.fields45 Try.held45, Try.list45]
    refine field_int (by decide) Try.underlying3 (part3 _ _ _ _ rfl) (part3 _ _ _ _ rfl) ?_
    refine field_bool (by decide) Try.underlying4 (part4 _ _ _ _ rfl) (part4 _ _ _ _ rfl) ?_
    refine field_bool (by decide) Try.underlying4 (part4 _ _ _ _ rfl) (part4 _ _ _ _ rfl) ?_
    refine field_int (by decide) Try.underlying3 (part3 _ _ _ _ rfl) (part3 _ _ _ _ rfl) ?_
    refine field_bool (by decide) Try.underlying4 (part4 _ _ _ _ rfl) (part4 _ _ _ _ rfl) ?_
    simp [Op.eqFields]
  rw [run_neq_struct, h, Result.andThen_ok]
  simp
end Go.Proofs.Ytlncjbjdjciphaa
