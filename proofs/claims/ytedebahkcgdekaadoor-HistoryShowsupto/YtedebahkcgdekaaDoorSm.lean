/- The small functions: is it an event, may it begin, may it end; the open span of one. -/
import Derived.Test.YtedebahkcgdekaaDoorPl
import Derived.Laws.StructEq
import Derived.ChangeKeysEq
import Derived.Laws.EntriesVeiled
namespace Go.Proofs.YtedebahkcgdekaaDoor
open Go.RowKit Go.Lib
set_option linter.unusedVariables false
set_option linter.unusedSimpArgs false
set_option maxRecDepth 100000 in
theorem none_any (k l : Int) (w : World) : Calls Tryd.prog 11 #[.agg #[.int .u64 k, .int .u64 l]] w fun e w' => e = .returned (.bool (decide (k = 0 ∧ l = 0))) ∧ Below w.heap.size w w' := by
  by_cases h1 : k = 0
  · by_cases h2 : l = 0
    · subst h1 h2
      go_enter Tryd.func11, Tryd.ntmps11
      go_wp2
      go_ret
      exact ⟨rfl, below_alloc (Below.refl _ _) _⟩
    · rw [decide_eq_false (fun h => h2 h.2)]
      subst h1
      go_enter Tryd.func11, Tryd.ntmps11
      go_wp2
      go_ret
      exact ⟨by simp [h2], below_alloc (Below.refl _ _) _⟩
  · rw [decide_eq_false (fun h => h1 h.1)]
    go_enter Tryd.func11, Tryd.ntmps11
    go_wp2
    go_ret
    exact ⟨rfl, below_alloc (Below.refl _ _) _⟩
set_option maxRecDepth 100000 in
theorem has_any (k : Int) (w : World) : Calls Tryd.prog 19 #[.int .i64 k] w fun e w' => e = .returned (.bool (decide (k = 1 ∨ k = 4))) ∧ Below w.heap.size w w' := by
  by_cases h1 : k = 1
  · subst h1
    go_enter Tryd.func19, Tryd.ntmps19
    go_wp2
    go_ret
    exact ⟨rfl, Below.refl _ _⟩
  · by_cases h2 : k = 4
    · subst h2
      go_enter Tryd.func19, Tryd.ntmps19
      go_wp2
      go_ret
      exact ⟨rfl, Below.refl _ _⟩
    · rw [decide_eq_false (fun h => h.elim h1 h2)]
      go_enter Tryd.func19, Tryd.ntmps19
      go_wp2
      go_ret
      exact ⟨by simp [h1, h2], Below.refl _ _⟩
theorem field_int {d : Nat} {f : Field} {fs : List Field} {l m : Array Value} {k : IntKind} {x y : Int} {r : Bool} {w : World} (hn : f.name ≠ "_") (hu : Tryd.prog.underlying f.type = some (.int k))
    (hl : (part f.type l f.offset).run Tryd.prog w = .ok (.int k x) w) (hm : (part f.type m f.offset).run Tryd.prog w = .ok (.int k y) w)
    (h : (Op.eqFields (d + 1) l m fs).run Tryd.prog w = .ok r w) : (Op.eqFields (d + 1) l m (f :: fs)).run Tryd.prog w = .ok (x == y && r) w := by
  simp only [Op.eqFields, if_pos hn, Sem.run_bind]
  rw [hl, Result.andThen_ok, hm, Result.andThen_ok, run_equalIn_int w d f.type k k x y hu, Result.andThen_ok]
  cases hxy : (x == y)
  · simp
  · simpa using h
theorem field_bool {d : Nat} {f : Field} {fs : List Field} {l m : Array Value} {x y r : Bool} {w : World} (hn : f.name ≠ "_") (hu : Tryd.prog.underlying f.type = some .bool)
    (hl : (part f.type l f.offset).run Tryd.prog w = .ok (.bool x) w) (hm : (part f.type m f.offset).run Tryd.prog w = .ok (.bool y) w)
    (h : (Op.eqFields (d + 1) l m fs).run Tryd.prog w = .ok r w) : (Op.eqFields (d + 1) l m (f :: fs)).run Tryd.prog w = .ok (x == y && r) w := by
  simp only [Op.eqFields, if_pos hn, Sem.run_bind]
  rw [hl, Result.andThen_ok, hm, Result.andThen_ok, run_equalIn_bool' w d f.type x y hu, Result.andThen_ok]
  cases hxy : (x == y)
  · simp
  · simpa using h
theorem field_any {d : Nat} {f : Field} {fs : List Field} {l m : Array Value} {x y : Value} {b r : Bool} {w : World} (hn : f.name ≠ "_")
    (hl : (part f.type l f.offset).run Tryd.prog w = .ok x w) (hm : (part f.type m f.offset).run Tryd.prog w = .ok y w) (he : (Op.equalIn (d + 1) f.type x y).run Tryd.prog w = .ok b w)
    (h : (Op.eqFields (d + 1) l m fs).run Tryd.prog w = .ok r w) : (Op.eqFields (d + 1) l m (f :: fs)).run Tryd.prog w = .ok (b && r) w := by
  simp only [Op.eqFields, if_pos hn, Sem.run_bind]
  rw [hl, Result.andThen_ok, hm, Result.andThen_ok, he, Result.andThen_ok]
  cases b
  · simp
  · simpa using h
theorem part31 (l : Array Value) (i : Nat) (x : Value) (w : World) (h : l[i]? = some x) : (part 31 l i).run Tryd.prog w = .ok x w := by
  simp [part, Tryd.sizeOf31, Tryd.isAgg31, h]
theorem part3 (l : Array Value) (i : Nat) (x : Value) (w : World) (h : l[i]? = some x) : (part 3 l i).run Tryd.prog w = .ok x w := by
  simp [part, Tryd.sizeOf3, Tryd.isAgg3, h]
theorem part4 (l : Array Value) (i : Nat) (x : Value) (w : World) (h : l[i]? = some x) : (part 4 l i).run Tryd.prog w = .ok x w := by
  simp [part, Tryd.sizeOf4, Tryd.isAgg4, h]
theorem Tryd.fields33 : Tryd.prog.underlying 33 = some (.struct (Tryd.prog.fieldsOf 33)) := by kernel_rfl
theorem Tryd.held33 : Tryd.prog.stoodInHeld 33 = false := by kernel_rfl
theorem Tryd.list33 : (Tryd.prog.fieldsOf 33).toList = [{ name := "Key", type := 31, offset := 0, embedded := false, tag := "", pkgPath := "", byteOffset := 0 }, { name := "Load", type := 31, offset := 1, embedded := false, tag := "", pkgPath := "", byteOffset := 8 }] := by kernel_rfl
theorem equal_task (d : Nat) (a0 a1 b0 b1 : Int) (w : World) : (Op.equalIn (d + 1 + 1) 33 (.agg #[.int .u64 a0, .int .u64 a1]) (.agg #[.int .u64 b0, .int .u64 b1])).run Tryd.prog w = .ok (a0 == b0 && (a1 == b1 && true)) w := by
  rw [run_equalIn_struct w (d + 1) 33 _ _ Tryd.fields33 Tryd.held33, Tryd.list33]
  refine field_int (by decide) Tryd.underlying31 (part31 _ _ _ _ rfl) (part31 _ _ _ _ rfl) ?_
  refine field_int (by decide) Tryd.underlying31 (part31 _ _ _ _ rfl) (part31 _ _ _ _ rfl) ?_
  simp [Op.eqFields]
theorem eql_task (a0 a1 b0 b1 : Int) (w : World) :
    (binOp .eql 33 (.agg #[.int .u64 a0, .int .u64 a1]) (.agg #[.int .u64 b0, .int .u64 b1])).run Tryd.prog w = .ok (.bool (a0 == b0 && (a1 == b1 && true))) w := by
  rw [run_eql_struct, show (10000 : Nat) = 9998 + 1 + 1 from rfl, equal_task, Result.andThen_ok]
end Go.Proofs.YtedebahkcgdekaaDoor
