/- Accesses held against one another; sameLog. -/
import Derived.Test.YtgjdjdgondpjeaaGreatHold
import Derived.WalkSmall
import Derived.Laws.StructEq
import Derived.ChangeKeysEq
namespace Go.Proofs.YtgjdjdgondpjeaaGreat
open Go.RowKit Go.Lib Go.MuLone
set_option linter.unusedVariables false
set_option linter.unusedSimpArgs false
def accEq (a b : Acc) : Bool := a.who == b.who && (a.kind == b.kind && (a.cell == b.cell && (a.want == b.want && (a.put == b.put && (a.seen == b.seen && (a.left == b.left && (a.ok == b.ok && true)))))))
theorem accEq_iff (a b : Acc) : accEq a b = true ↔ a = b := by
  obtain ⟨a0, a1, a2, a3, a4, a5, a6, a7⟩ := a
  obtain ⟨b0, b1, b2, b3, b4, b5, b6, b7⟩ := b
  simp [accEq]

theorem field_int {d : Nat} {f : Field} {fs : List Field} {l m : Array Value} {k : IntKind} {x y : Int} {r : Bool} {w : World} (hn : f.name ≠ "_") (hu : Tryz.prog.underlying f.type = some (.int k))
    (hl : (part f.type l f.offset).run Tryz.prog w = .ok (.int k x) w) (hm : (part f.type m f.offset).run Tryz.prog w = .ok (.int k y) w)
    (h : (Op.eqFields (d + 1) l m fs).run Tryz.prog w = .ok r w) : (Op.eqFields (d + 1) l m (f :: fs)).run Tryz.prog w = .ok (x == y && r) w := by
  simp only [Op.eqFields, if_pos hn, Sem.run_bind]
  rw [hl, Result.andThen_ok, hm, Result.andThen_ok, run_equalIn_int w d f.type k k x y hu, Result.andThen_ok]
  cases hxy : (x == y)
  · simp
  · simpa using h
theorem field_bool {d : Nat} {f : Field} {fs : List Field} {l m : Array Value} {x y r : Bool} {w : World} (hn : f.name ≠ "_") (hu : Tryz.prog.underlying f.type = some .bool)
    (hl : (part f.type l f.offset).run Tryz.prog w = .ok (.bool x) w) (hm : (part f.type m f.offset).run Tryz.prog w = .ok (.bool y) w)
    (h : (Op.eqFields (d + 1) l m fs).run Tryz.prog w = .ok r w) : (Op.eqFields (d + 1) l m (f :: fs)).run Tryz.prog w = .ok (x == y && r) w := by
  simp only [Op.eqFields, if_pos hn, Sem.run_bind]
  rw [hl, Result.andThen_ok, hm, Result.andThen_ok, run_equalIn_bool' w d f.type x y hu, Result.andThen_ok]
  cases hxy : (x == y)
  · simp
  · simpa using h
theorem part3 (l : Array Value) (i : Nat) (x : Value) (w : World) (h : l[i]? = some x) : (part 3 l i).run Tryz.prog w = .ok x w := by
  simp [part, Tryz.sizeOf3, Tryz.isAgg3, h]
theorem part27 (l : Array Value) (i : Nat) (x : Value) (w : World) (h : l[i]? = some x) : (part 40 l i).run Tryz.prog w = .ok x w := by
  simp [part, Tryz.sizeOf40, Tryz.isAgg40, h]
theorem part4 (l : Array Value) (i : Nat) (x : Value) (w : World) (h : l[i]? = some x) : (part 4 l i).run Tryz.prog w = .ok x w := by
  simp [part, Tryz.sizeOf4, Tryz.isAgg4, h]
theorem Tryz.fields55 : Tryz.prog.underlying 55 = some (.struct (Tryz.prog.fieldsOf 55)) := by kernel_rfl
theorem Tryz.held55 : Tryz.prog.stoodInHeld 55 = false := by kernel_rfl
theorem Tryz.list55 : (Tryz.prog.fieldsOf 55).toList = [{ name := "Who", type := 3, offset := 0, embedded := false, tag := "", pkgPath := "", byteOffset := 0 }, { name := "Kind", type := 3, offset := 1, embedded := false, tag := "", pkgPath := "", byteOffset := 8 },
    { name := "Cell", type := 3, offset := 2, embedded := false, tag := "", pkgPath := "", byteOffset := 16 }, { name := "Want", type := 40, offset := 3, embedded := false, tag := "", pkgPath := "", byteOffset := 24 },
    { name := "Put", type := 40, offset := 4, embedded := false, tag := "", pkgPath := "", byteOffset := 32 }, { name := "Seen", type := 40, offset := 5, embedded := false, tag := "", pkgPath := "", byteOffset := 40 },
    { name := "Left", type := 40, offset := 6, embedded := false, tag := "", pkgPath := "", byteOffset := 48 }, { name := "Ok", type := 4, offset := 7, embedded := false, tag := "", pkgPath := "", byteOffset := 56 }] := by kernel_rfl

theorem equal_acc (a b : Acc) (w : World) : (Op.equalIn 10000 55 (.agg a.arr) (.agg b.arr)).run Tryz.prog w = .ok (accEq a b) w := by
  rw [show (10000 : Nat) = 9998 + 1 + 1 from rfl, run_equalIn_struct w (9998 + 1) 55 _ _ Tryz.fields55 Tryz.held55, Tryz.list55]
  refine field_int (by decide) Tryz.underlying3 (part3 _ _ _ _ rfl) (part3 _ _ _ _ rfl) ?_
  refine field_int (by decide) Tryz.underlying3 (part3 _ _ _ _ rfl) (part3 _ _ _ _ rfl) ?_
  refine field_int (by decide) Tryz.underlying3 (part3 _ _ _ _ rfl) (part3 _ _ _ _ rfl) ?_
  refine field_int (by decide) Tryz.underlying40 (part27 _ _ _ _ rfl) (part27 _ _ _ _ rfl) ?_
  refine field_int (by decide) Tryz.underlying40 (part27 _ _ _ _ rfl) (part27 _ _ _ _ rfl) ?_
  refine field_int (by decide) Tryz.underlying40 (part27 _ _ _ _ rfl) (part27 _ _ _ _ rfl) ?_
  refine field_int (by decide) Tryz.underlying40 (part27 _ _ _ _ rfl) (part27 _ _ _ _ rfl) ?_
  refine field_bool (by decide) Tryz.underlying4 (part4 _ _ _ _ rfl) (part4 _ _ _ _ rfl) ?_
  simp [Op.eqFields]
theorem neq_acc (a0 a1 a2 a3 a4 a5 a6 b0 b1 b2 b3 b4 b5 b6 : Int) (a7 b7 : Bool) (w : World) :
    (binOp .neq 55 (.agg #[.int .i64 a0, .int .i64 a1, .int .i64 a2, .int .u64 a3, .int .u64 a4, .int .u64 a5, .int .u64 a6, .bool a7]) (.agg #[.int .i64 b0, .int .i64 b1, .int .i64 b2, .int .u64 b3, .int .u64 b4, .int .u64 b5, .int .u64 b6, .bool b7])).run Tryz.prog w
      = .ok (.bool (!accEq ⟨a0, a1, a2, a3, a4, a5, a6, a7⟩ ⟨b0, b1, b2, b3, b4, b5, b6, b7⟩)) w := by
  have h := equal_acc ⟨a0, a1, a2, a3, a4, a5, a6, a7⟩ ⟨b0, b1, b2, b3, b4, b5, b6, b7⟩ w
  simp only [Acc.arr] at h
  rw [run_neq_struct, h, Result.andThen_ok]
theorem logCells_get : ∀ (l : List Acc) (k j : Nat) (a : Acc) (v : Value), l[k]? = some a → a.arr[j]? = some v → (logCells l)[k * 8 + j]? = some v
  | [], k, j, a, v, h, _ => by simp at h
  | b :: l, 0, j, a, v, h, hv => by
    simp at h
    subst h
    have hj : j < 8 := by have := (Array.getElem?_eq_some_iff.1 hv).1; simpa [Acc.arr] using this
    simp only [logCells, List.flatMap_cons, Nat.zero_mul, Nat.zero_add]
    rw [List.getElem?_append_left (by simpa [Acc.arr] using hj)]
    simpa using hv
  | b :: l, k + 1, j, a, v, h, hv => by
    have ih := logCells_get l k j a v (by simpa using h) hv
    simp only [logCells, List.flatMap_cons] at *
    rw [List.getElem?_append_right (by simp [Acc.arr]; omega)]
    have e : (k + 1) * 8 + j - b.arr.toList.length = k * 8 + j := by simp [Acc.arr]; omega
    rw [e]
    exact ih

theorem AccsAt.cell {w : World} {v : Value} {l : List Acc} (h : AccsAt w v l) : ∃ ao c, v = .slice ao l.length c ∧ ∀ k, k < l.length → ∃ g o a, ao = some ⟨g, o, none⟩ ∧ g < w.heap.size ∧ l[k]? = some a ∧ l.length ≤ c ∧ c ≤ 9223372036854775807 ∧
    ∀ (j : Nat) (x : Value), a.arr[j]? = some x → w.cell? ⟨g, o + k * 8 + j, none⟩ = some x := by
  rcases h with ⟨rfl, rfl⟩ | ⟨g, o, c, rfl, hg, hl, hm, hc⟩
  · exact ⟨none, 0, rfl, fun i hi => absurd hi (Nat.not_lt_zero _)⟩
  · refine ⟨_, c, rfl, fun k hk => ⟨g, o, l[k], rfl, hg, List.getElem?_eq_getElem hk, hl, hm, fun j x hx => ?_⟩⟩
    rw [Nat.add_assoc]
    exact hc _ x (logCells_get l k j _ x (List.getElem?_eq_getElem hk) hx)
end Go.Proofs.YtgjdjdgondpjeaaGreat
