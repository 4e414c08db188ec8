/- Accesses held against one another. -/
import Derived.Test.YtfgchkkljlbmcaaRoom
import Derived.Laws.StructEq
import Derived.ChangeKeysEq
namespace Go.Proofs.Ytfgchkkljlbmcaa
open Go.RowKit Go.Lib

def accEq (a b : Acc) : Bool := a.who == b.who && (a.kind == b.kind && (a.cell == b.cell && (a.want == b.want && (a.put == b.put && (a.seen == b.seen && (a.left == b.left && (a.ok == b.ok && true)))))))
theorem accEq_iff (a b : Acc) : accEq a b = true ↔ a = b := by
  obtain ⟨a0, a1, a2, a3, a4, a5, a6, a7⟩ := a
  obtain ⟨b0, b1, b2, b3, b4, b5, b6, b7⟩ := b
  simp [accEq]

theorem field_int {d : Nat} {f : Field} {fs : List Field} {l m : Array Value} {k : IntKind} {x y : Int} {r : Bool} {w : World} (hn : f.name ≠ "_") (hu : Try.prog.underlying f.type = some (.int k))
    (hl : (part f.type l f.offset).run Try.prog w = .ok (.int k x) w) (hm : (part f.type m f.offset).run Try.prog w = .ok (.int k y) w)
    (h : (Op.eqFields (d + 1) l m fs).run Try.prog w = .ok r w) : (Op.eqFields (d + 1) l m (f :: fs)).run Try.prog w = .ok (x == y && r) w := by
  simp only [Op.eqFields, if_pos hn, Sem.run_bind]
  rw [hl, Result.andThen_ok, hm, Result.andThen_ok, run_equalIn_int w d f.type k k x y hu, Result.andThen_ok]
  cases hxy : (x == y)
  · simp
  · simpa using h
theorem field_bool {d : Nat} {f : Field} {fs : List Field} {l m : Array Value} {x y r : Bool} {w : World} (hn : f.name ≠ "_") (hu : Try.prog.underlying f.type = some .bool)
    (hl : (part f.type l f.offset).run Try.prog w = .ok (.bool x) w) (hm : (part f.type m f.offset).run Try.prog w = .ok (.bool y) w)
    (h : (Op.eqFields (d + 1) l m fs).run Try.prog w = .ok r w) : (Op.eqFields (d + 1) l m (f :: fs)).run Try.prog w = .ok (x == y && r) w := by
  simp only [Op.eqFields, if_pos hn, Sem.run_bind]
  rw [hl, Result.andThen_ok, hm, Result.andThen_ok, run_equalIn_bool' w d f.type x y hu, Result.andThen_ok]
  cases hxy : (x == y)
  · simp
  · simpa using h
theorem part3 (l : Array Value) (i : Nat) (x : Value) (w : World) (h : l[i]? = some x) : (part 3 l i).run Try.prog w = .ok x w := by
  simp [part, Try.sizeOf3, Try.isAgg3, h]
theorem part29 (l : Array Value) (i : Nat) (x : Value) (w : World) (h : l[i]? = some x) : (part 29 l i).run Try.prog w = .ok x w := by
  simp [part, Try.sizeOf29, Try.isAgg29, h]
theorem part4 (l : Array Value) (i : Nat) (x : Value) (w : World) (h : l[i]? = some x) : (part 4 l i).run Try.prog w = .ok x w := by
  simp [part, Try.sizeOf4, Try.isAgg4, h]
theorem Try.fields31 : Try.prog.underlying 31 = some (.struct (Try.prog.fieldsOf 31)) := by kernel_rfl
theorem Try.held31 : Try.prog.stoodInHeld 31 = false := by kernel_rfl
theorem Try.list31 : (Try.prog.fieldsOf 31).toList = [{ name := "Who", type := 3, offset := 0, embedded := false, tag := "", pkgPath := "", byteOffset := 0 }, { name := "Kind", type := 3, offset := 1, embedded := false, tag := "", pkgPath := "", byteOffset := 8 },
    { name := "Cell", type := 3, offset := 2, embedded := false, tag := "", pkgPath := "", byteOffset := 16 }, { name := "Want", type := 29, offset := 3, embedded := false, tag := "", pkgPath := "", byteOffset := 24 },
    { name := "Put", type := 29, offset := 4, embedded := false, tag := "", pkgPath := "", byteOffset := 32 }, { name := "Seen", type := 29, offset := 5, embedded := false, tag := "", pkgPath := "", byteOffset := 40 },
    { name := "Left", type := 29, offset := 6, embedded := false, tag := "", pkgPath := "", byteOffset := 48 }, { name := "Ok", type := 4, offset := 7, embedded := false, tag := "", pkgPath := "", byteOffset := 56 }] := by kernel_rfl

theorem equal_acc (a b : Acc) (w : World) : (Op.equalIn 10000 31 (.agg a.arr) (.agg b.arr)).run Try.prog w = .ok (accEq a b) w := by
  rw [show (10000 : Nat) = 9998 + 1 + 1 from rfl, run_equalIn_struct w (9998 + 1) 31 _ _ Try.fields31 Try.held31, Try.list31]
  refine field_int (by decide) Try.underlying3 (part3 _ _ _ _ rfl) (part3 _ _ _ _ rfl) ?_
  refine field_int (by decide) Try.underlying3 (part3 _ _ _ _ rfl) (part3 _ _ _ _ rfl) ?_
  refine field_int (by decide) Try.underlying3 (part3 _ _ _ _ rfl) (part3 _ _ _ _ rfl) ?_
  refine field_int (by decide) Try.underlying29 (part29 _ _ _ _ rfl) (part29 _ _ _ _ rfl) ?_
  refine field_int (by decide) Try.underlying29 (part29 _ _ _ _ rfl) (part29 _ _ _ _ rfl) ?_
  refine field_int (by decide) Try.underlying29 (part29 _ _ _ _ rfl) (part29 _ _ _ _ rfl) ?_
  refine field_int (by decide) Try.underlying29 (part29 _ _ _ _ rfl) (part29 _ _ _ _ rfl) ?_
  refine field_bool (by decide) Try.underlying4 (part4 _ _ _ _ rfl) (part4 _ _ _ _ rfl) ?_
  simp [Op.eqFields]
theorem neq_acc (a0 a1 a2 a3 a4 a5 a6 b0 b1 b2 b3 b4 b5 b6 : Int) (a7 b7 : Bool) (w : World) :
    (binOp .neq 31 (.agg #[.int .i64 a0, .int .i64 a1, .int .i64 a2, .int .u64 a3, .int .u64 a4, .int .u64 a5, .int .u64 a6, .bool a7]) (.agg #[.int .i64 b0, .int .i64 b1, .int .i64 b2, .int .u64 b3, .int .u64 b4, .int .u64 b5, .int .u64 b6, .bool b7])).run Try.prog w
      = .ok (.bool (!accEq ⟨a0, a1, a2, a3, a4, a5, a6, a7⟩ ⟨b0, b1, b2, b3, b4, b5, b6, b7⟩)) w := by
  have h := equal_acc ⟨a0, a1, a2, a3, a4, a5, a6, a7⟩ ⟨b0, b1, b2, b3, b4, b5, b6, b7⟩ w
  simp only [Acc.arr] at h
  rw [run_neq_struct, h, Result.andThen_ok]
end Go.Proofs.Ytfgchkkljlbmcaa
