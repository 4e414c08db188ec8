/- '!=' of two starts. -/
import Derived.Test.YtdbphlafbehklaaStarts
namespace Go.Proofs.Ytdbphlafbehklaa
open Go.RowKit Go.Lib
set_option linter.unusedVariables false

theorem field_int {d : Nat} {f : Field} {fs : List Field} {l m : Array Value} {k : IntKind} {x y : Int} {r : Bool} {w : World} (hn : f.name ≠ "_") (hu : Try.prog.underlying f.type = some (.int k))
    (hl : (part f.type l f.offset).run Try.prog w = .ok (.int k x) w) (hm : (part f.type m f.offset).run Try.prog w = .ok (.int k y) w)
    (h : (Op.eqFields (d + 1) l m fs).run Try.prog w = .ok r w) : (Op.eqFields (d + 1) l m (f :: fs)).run Try.prog w = .ok (x == y && r) w := by
  simp only [Op.eqFields, if_pos hn, Sem.run_bind]
  rw [hl, Result.andThen_ok, hm, Result.andThen_ok, run_equalIn_int w d f.type k k x y hu, Result.andThen_ok]
  cases hxy : (x == y)
  · simp
  · simpa using h
theorem part3 (l : Array Value) (i : Nat) (x : Value) (w : World) (h : l[i]? = some x) : (part 3 l i).run Try.prog w = .ok x w := by
  simp [part, Try.sizeOf3, Try.isAgg3, h]
theorem part22 (l : Array Value) (i : Nat) (x : Value) (w : World) (h : l[i]? = some x) : (part 22 l i).run Try.prog w = .ok x w := by
  simp [part, Try.sizeOf22, Try.isAgg22, h]
theorem Try.fields41 : Try.prog.underlying 41 = some (.struct (Try.prog.fieldsOf 41)) := by kernel_rfl
theorem Try.held41 : Try.prog.stoodInHeld 41 = false := by kernel_rfl
theorem Try.list41 : (Try.prog.fieldsOf 41).toList = [{ name := "Vertex", type := 3, offset := 0, embedded := false, tag := "", pkgPath := "", byteOffset := 0 }, { name := "Label", type := 22, offset := 1, embedded := false, tag := "", pkgPath := "", byteOffset := 8 }] := by kernel_rfl
theorem neq_start (a0 a1 b0 b1 : Int) (w : World) :
    (binOp .neq 41 (.agg #[.int .i64 a0, .int .u64 a1]) (.agg #[.int .i64 b0, .int .u64 b1])).run Try.prog w = .ok (.bool (!(a0 == b0 && (a1 == b1 && true)))) w := by
  have h : (Op.equalIn 10000 41 (.agg #[.int .i64 a0, .int .u64 a1]) (.agg #[.int .i64 b0, .int .u64 b1])).run Try.prog w = .ok (a0 == b0 && (a1 == b1 && true)) w := by
    rw [show (10000 : Nat) = 9998 + 1 + 1 from rfl, run_equalIn_struct w (9998 + 1) 41 _ _ Try.fields41 Try.held41, Try.list41]
    refine field_int (by decide) Try.underlying3 (part3 _ _ _ _ rfl) (part3 _ _ _ _ rfl) ?_
    refine field_int (by decide) Try.underlying22 (part22 _ _ _ _ rfl) (part22 _ _ _ _ rfl) ?_
    simp [Op.eqFields]
  rw [run_neq_struct, h, Result.andThen_ok]
end Go.Proofs.Ytdbphlafbehklaa
