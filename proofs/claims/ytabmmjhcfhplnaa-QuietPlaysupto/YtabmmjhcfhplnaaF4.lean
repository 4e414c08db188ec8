/- Accesses held against one another; sameLog. -/
import Derived.Test.YtabmmjhcfhplnaaF3
import Derived.WalkSmall
import Derived.Laws.StructEq
import Derived.ChangeKeysEq
namespace Go.Proofs.Ytabmmjhcfhplnaa
open Go.RowKit Go.Lib Go.MuLone
set_option linter.unusedVariables false
set_option linter.unusedSimpArgs false
def accEq (a b : Acc) : Bool := a.who == b.who && (a.kind == b.kind && (a.cell == b.cell && (a.want == b.want && (a.put == b.put && (a.seen == b.seen && (a.left == b.left && (a.ok == b.ok && true)))))))
theorem accEq_iff (a b : Acc) : accEq a b = true ↔ a = b := by
  obtain ⟨a0, a1, a2, a3, a4, a5, a6, a7⟩ := a
  obtain ⟨b0, b1, b2, b3, b4, b5, b6, b7⟩ := b
  simp [accEq]

theorem field_int {d : Nat} {f : Field} {fs : List Field} {l m : Array Value} {k : IntKind} {x y : Int} {r : Bool} {w : World} (hn : f.name ≠ "_") (hu : Try.prog.underlying f.type = some (.int k))
    (hl : (part f.type l f.offset).run Try.prog w = .ok (.int k x) w) (hm : (part f.type m f.offset).run Try.prog w = .ok (.int k y) w)
    (h : (Op.eqFields (d + 1) l m fs).run Try.prog w = .ok r w) : (Op.eqFields (d + 1) l m (f :: fs)).run Try.prog w = .ok (x == y && r) w := by
  simp only [Op.eqFields, if_pos hn, Sem.run_bind]
  rw [hl, Result.andThen_ok, hm, Result.andThen_ok, run_equalIn_int w d f.type k k x y hu, Result.andThen_ok]
  cases hxy : (x == y)
  · simp
  · simpa using h
theorem field_bool {d : Nat} {f : Field} {fs : List Field} {l m : Array Value} {x y r : Bool} {w : World} (hn : f.name ≠ "_") (hu : Try.prog.underlying f.type = some .bool)
    (hl : (part f.type l f.offset).run Try.prog w = .ok (.bool x) w) (hm : (part f.type m f.offset).run Try.prog w = .ok (.bool y) w)
    (h : (Op.eqFields (d + 1) l m fs).run Try.prog w = .ok r w) : (Op.eqFields (d + 1) l m (f :: fs)).run Try.prog w = .ok (x == y && r) w := by
  simp only [Op.eqFields, if_pos hn, Sem.run_bind]
  rw [hl, Result.andThen_ok, hm, Result.andThen_ok, run_equalIn_bool' w d f.type x y hu, Result.andThen_ok]
  cases hxy : (x == y)
  · simp
  · simpa using h
theorem part3 (l : Array Value) (i : Nat) (x : Value) (w : World) (h : l[i]? = some x) : (part 3 l i).run Try.prog w = .ok x w := by
  simp [part, Try.sizeOf3, Try.isAgg3, h]
theorem part27 (l : Array Value) (i : Nat) (x : Value) (w : World) (h : l[i]? = some x) : (part 27 l i).run Try.prog w = .ok x w := by
  simp [part, Try.sizeOf27, Try.isAgg27, h]
theorem part4 (l : Array Value) (i : Nat) (x : Value) (w : World) (h : l[i]? = some x) : (part 4 l i).run Try.prog w = .ok x w := by
  simp [part, Try.sizeOf4, Try.isAgg4, h]
theorem Try.fields109 : Try.prog.underlying 109 = some (.struct (Try.prog.fieldsOf 109)) := by kernel_rfl
theorem Try.held109 : Try.prog.stoodInHeld 109 = false := by kernel_rfl
theorem Try.list109 : (Try.prog.fieldsOf 109).toList = [{ name := "Who", type := 3, offset := 0, embedded := false, tag := "", pkgPath := "", byteOffset := 0 }, { name := "Kind", type := 3, offset := 1, embedded := false, tag := "", pkgPath := "", byteOffset := 8 },
    { name := "Cell", type := 3, offset := 2, embedded := false, tag := "", pkgPath := "", byteOffset := 16 }, { name := "Want", type := 27, offset := 3, embedded := false, tag := "", pkgPath := "", byteOffset := 24 },
    { name := "Put", type := 27, offset := 4, embedded := false, tag := "", pkgPath := "", byteOffset := 32 }, { name := "Seen", type := 27, offset := 5, embedded := false, tag := "", pkgPath := "", byteOffset := 40 },
    { name := "Left", type := 27, offset := 6, embedded := false, tag := "", pkgPath := "", byteOffset := 48 }, { name := "Ok", type := 4, offset := 7, embedded := false, tag := "", pkgPath := "", byteOffset := 56 }] := by kernel_rfl

theorem equal_acc (a b : Acc) (w : World) : (Op.equalIn 10000 109 (.agg a.arr) (.agg b.arr)).run Try.prog w = .ok (accEq a b) w := by
  rw [show (10000 : Nat) = 9998 + 1 + 1 from rfl, run_equalIn_struct w (9998 + 1) 109 _ _ Try.fields109 Try.held109, Try.list109]
  refine field_int (by decide) Try.underlying3 (part3 _ _ _ _ rfl) (part3 _ _ _ _ rfl) ?_
  refine field_int (by decide) Try.underlying3 (part3 _ _ _ _ rfl) (part3 _ _ _ _ rfl) ?_
  refine field_int (by decide) Try.underlying3 (part3 _ _ _ _ rfl) (part3 _ _ _ _ rfl) ?_
  refine field_int (by decide) Try.underlying27 (part27 _ _ _ _ rfl) (part27 _ _ _ _ rfl) ?_
  refine field_int (by decide) Try.underlying27 (part27 _ _ _ _ rfl) (part27 _ _ _ _ rfl) ?_
  refine field_int (by decide) Try.underlying27 (part27 _ _ _ _ rfl) (part27 _ _ _ _ rfl) ?_
  refine field_int (by decide) Try.underlying27 (part27 _ _ _ _ rfl) (part27 _ _ _ _ rfl) ?_
  refine field_bool (by decide) Try.underlying4 (part4 _ _ _ _ rfl) (part4 _ _ _ _ rfl) ?_
  simp [Op.eqFields]
theorem neq_acc (a0 a1 a2 a3 a4 a5 a6 b0 b1 b2 b3 b4 b5 b6 : Int) (a7 b7 : Bool) (w : World) :
    (binOp .neq 109 (.agg #[.int .i64 a0, .int .i64 a1, .int .i64 a2, .int .u64 a3, .int .u64 a4, .int .u64 a5, .int .u64 a6, .bool a7]) (.agg #[.int .i64 b0, .int .i64 b1, .int .i64 b2, .int .u64 b3, .int .u64 b4, .int .u64 b5, .int .u64 b6, .bool b7])).run Try.prog w
      = .ok (.bool (!accEq ⟨a0, a1, a2, a3, a4, a5, a6, a7⟩ ⟨b0, b1, b2, b3, b4, b5, b6, b7⟩)) w := by
  have h := equal_acc ⟨a0, a1, a2, a3, a4, a5, a6, a7⟩ ⟨b0, b1, b2, b3, b4, b5, b6, b7⟩ w
  simp only [Acc.arr] at h
  rw [run_neq_struct, h, Result.andThen_ok]
theorem logCells_get : ∀ (l : List Acc) (k j : Nat) (a : Acc) (v : Value), l[k]? = some a → a.arr[j]? = some v → (logCells l)[k * 8 + j]? = some v
  | [], k, j, a, v, h, _ => by simp at h
  | b :: l, 0, j, a, v, h, hv => by
    simp at h
    subst h
    have hj : j < 8 := by have := (Array.getElem?_eq_some_iff.1 hv).1; simpa [Acc.arr] using this
    simp only [logCells, List.flatMap_cons, Nat.zero_mul, Nat.zero_add]
    rw [List.getElem?_append_left (by simpa [Acc.arr] using hj)]
    simpa using hv
  | b :: l, k + 1, j, a, v, h, hv => by
    have ih := logCells_get l k j a v (by simpa using h) hv
    simp only [logCells, List.flatMap_cons] at *
    rw [List.getElem?_append_right (by simp [Acc.arr]; omega)]
    have e : (k + 1) * 8 + j - b.arr.toList.length = k * 8 + j := by simp [Acc.arr]; omega
    rw [e]
    exact ih

theorem AccsAt.cell {w : World} {v : Value} {l : List Acc} (h : AccsAt w v l) : ∃ ao c, v = .slice ao l.length c ∧ ∀ k, k < l.length → ∃ g o a, ao = some ⟨g, o, none⟩ ∧ g < w.heap.size ∧ l[k]? = some a ∧ l.length ≤ c ∧ c ≤ 9223372036854775807 ∧
    ∀ (j : Nat) (x : Value), a.arr[j]? = some x → w.cell? ⟨g, o + k * 8 + j, none⟩ = some x := by
  rcases h with ⟨rfl, rfl⟩ | ⟨g, o, c, rfl, hg, hl, hm, hc⟩
  · exact ⟨none, 0, rfl, fun i hi => absurd hi (Nat.not_lt_zero _)⟩
  · refine ⟨_, c, rfl, fun k hk => ⟨g, o, l[k], rfl, hg, List.getElem?_eq_getElem hk, hl, hm, fun j x hx => ?_⟩⟩
    rw [Nat.add_assoc]
    exact hc _ x (logCells_get l k j _ x (List.getElem?_eq_getElem hk) hx)
set_option maxRecDepth 100000 in
set_option maxHeartbeats 1000000 in
theorem sameLog_any (v1 v2 : Value) (l : List Acc) (w : World) (h1 : AccsAt w v1 l) (h2 : AccsAt w v2 l) :
    Calls Try.prog 24 #[v1, v2] w fun e w' => e = .returned (.bool true) ∧ ∃ m, w' = w.drewN m := by
  obtain ⟨a1, c1, rfl, k1⟩ := h1.cell
  obtain ⟨a2, c2, rfl, k2⟩ := h2.cell
  have K1 := hide k1
  have K2 := hide k2
  clear h1 h2 k1 k2
  generalize hN : l.length = n at *
  have hneq := neq_acc
  go_enter Try.func24, Try.ntmps24
  go_wp2_with fail
  go_loopw [5] (fun t wr => ∃ k : Nat, k ≤ n ∧ t = .int .i64 k ∧ ∃ m, wr = w.drewN m) (fun t _ => n - (RowKit.intOf t).toNat)
  case atStart => exact ⟨0, by omega, rfl, 0, rfl⟩
  case round =>
    obtain ⟨k, hk, rfl, m, rfl⟩ := hrel
    by_cases hlt : k < n
    · obtain ⟨g1, o1, a, rfl, _, ha1, hl1, hm1, e1⟩ := K1.out k hlt
      obtain ⟨g2, o2, a', rfl, _, ha2, hl2, _, e2⟩ := K2.out k hlt
      rw [ha1] at ha2
      obtain rfl := Option.some.inj ha2
      have hkm : (k : Int) + 1 ≤ 9223372036854775807 := by omega
      have x0 : w.cell? ⟨g1, o1 + k * 8, none⟩ = some (.int .i64 a.who) := e1 0 _ rfl
      have x1 : w.cell? ⟨g1, o1 + k * 8 + 1, none⟩ = some (.int .i64 a.kind) := e1 1 _ rfl
      have x2 : w.cell? ⟨g1, o1 + k * 8 + 2, none⟩ = some (.int .i64 a.cell) := e1 2 _ rfl
      have x3 : w.cell? ⟨g1, o1 + k * 8 + 3, none⟩ = some (.int .u64 a.want) := e1 3 _ rfl
      have x4 : w.cell? ⟨g1, o1 + k * 8 + 4, none⟩ = some (.int .u64 a.put) := e1 4 _ rfl
      have x5 : w.cell? ⟨g1, o1 + k * 8 + 5, none⟩ = some (.int .u64 a.seen) := e1 5 _ rfl
      have x6 : w.cell? ⟨g1, o1 + k * 8 + 6, none⟩ = some (.int .u64 a.left) := e1 6 _ rfl
      have x7 : w.cell? ⟨g1, o1 + k * 8 + 7, none⟩ = some (.bool a.ok) := e1 7 _ rfl
      have y0 : w.cell? ⟨g2, o2 + k * 8, none⟩ = some (.int .i64 a.who) := e2 0 _ rfl
      have y1 : w.cell? ⟨g2, o2 + k * 8 + 1, none⟩ = some (.int .i64 a.kind) := e2 1 _ rfl
      have y2 : w.cell? ⟨g2, o2 + k * 8 + 2, none⟩ = some (.int .i64 a.cell) := e2 2 _ rfl
      have y3 : w.cell? ⟨g2, o2 + k * 8 + 3, none⟩ = some (.int .u64 a.want) := e2 3 _ rfl
      have y4 : w.cell? ⟨g2, o2 + k * 8 + 4, none⟩ = some (.int .u64 a.put) := e2 4 _ rfl
      have y5 : w.cell? ⟨g2, o2 + k * 8 + 5, none⟩ = some (.int .u64 a.seen) := e2 5 _ rfl
      have y6 : w.cell? ⟨g2, o2 + k * 8 + 6, none⟩ = some (.int .u64 a.left) := e2 6 _ rfl
      have y7 : w.cell? ⟨g2, o2 + k * 8 + 7, none⟩ = some (.bool a.ok) := e2 7 _ rfl
      have hself : accEq ⟨a.who, a.kind, a.cell, a.want, a.put, a.seen, a.left, a.ok⟩ ⟨a.who, a.kind, a.cell, a.want, a.put, a.seen, a.left, a.ok⟩ = true := (accEq_iff _ _).2 rfl
      have hl1i : (k : Int) < c1 := by omega
      have hl2i : (k : Int) < c2 := by omega
      clear e1 e2 ha1 ha2 hm1 hl1 hl2
      go_wp2_with fail
      go_region
      all_goals
        go_wp2_with fail
        go_roundw
        case rel => exact ⟨k + 1, by omega, by go_num, m + 1, rfl⟩
        case measure => simp [RowKit.intOf]; omega
    · go_wp2_with fail
      go_ret
      exact ⟨rfl, m, rfl⟩
end Go.Proofs.Ytabmmjhcfhplnaa
