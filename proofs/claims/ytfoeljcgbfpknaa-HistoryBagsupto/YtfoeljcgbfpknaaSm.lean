/- The small functions: is it an event, may it begin, may it end; the open span of one. -/
import Derived.Test.YtfoeljcgbfpknaaPl
import Derived.Laws.StructEq
import Derived.ChangeKeysEq
import Derived.Laws.EntriesVeiled
namespace Go.Proofs.Ytfoeljcgbfpknaa
open Go.RowKit Go.Lib
set_option linter.unusedVariables false
set_option linter.unusedSimpArgs false
set_option maxRecDepth 100000 in
theorem none_any (k l : Int) (w : World) : Calls Try.prog 88 #[.agg #[.int .u64 k, .int .u64 l]] w fun e w' => e = .returned (.bool (decide (k = 0 ∧ l = 0))) ∧ Below w.heap.size w w' := by
  by_cases h1 : k = 0
  · by_cases h2 : l = 0
    · subst h1 h2
      go_enter Try.func88, Try.ntmps88
      go_wp2
      go_ret
      exact ⟨rfl, below_alloc (Below.refl _ _) _⟩
    · rw [decide_eq_false (fun h => h2 h.2)]
      subst h1
      go_enter Try.func88, Try.ntmps88
      go_wp2
      go_ret
      exact ⟨by simp [h2], below_alloc (Below.refl _ _) _⟩
  · rw [decide_eq_false (fun h => h1 h.1)]
    go_enter Try.func88, Try.ntmps88
    go_wp2
    go_ret
    exact ⟨rfl, below_alloc (Below.refl _ _) _⟩
set_option maxRecDepth 100000 in
theorem has_any (k : Int) (w : World) : Calls Try.prog 98 #[.int .i64 k] w fun e w' => e = .returned (.bool (decide (k = 1 ∨ k = 4))) ∧ Below w.heap.size w w' := by
  by_cases h1 : k = 1
  · subst h1
    go_enter Try.func98, Try.ntmps98
    go_wp2
    go_ret
    exact ⟨rfl, Below.refl _ _⟩
  · by_cases h2 : k = 4
    · subst h2
      go_enter Try.func98, Try.ntmps98
      go_wp2
      go_ret
      exact ⟨rfl, Below.refl _ _⟩
    · rw [decide_eq_false (fun h => h.elim h1 h2)]
      go_enter Try.func98, Try.ntmps98
      go_wp2
      go_ret
      exact ⟨by simp [h1, h2], Below.refl _ _⟩
set_option maxRecDepth 100000 in
theorem begs_any (k : Int) (w : World) : Calls Try.prog 73 #[.int .i64 k] w fun e w' => e = .returned (.bool (begs k)) ∧ Below w.heap.size w w' := by
  by_cases h1 : k = 1
  · subst h1
    go_enter Try.func73, Try.ntmps73
    go_wp2
    go_ret
    exact ⟨rfl, Below.refl _ _⟩
  · by_cases h2 : k = 3
    · subst h2
      go_enter Try.func73, Try.ntmps73
      go_wp2
      go_ret
      exact ⟨rfl, Below.refl _ _⟩
    · unfold begs
      rw [decide_eq_false (fun h => h.elim h1 h2)]
      go_enter Try.func73, Try.ntmps73
      go_wp2
      go_ret
      exact ⟨by simp [h1, h2], Below.refl _ _⟩
set_option maxRecDepth 100000 in
theorem ends_any (ins : Bool) (k : Int) (w : World) : Calls Try.prog 74 #[.bool ins, .int .i64 k] w fun e w' => e = .returned (.bool (ends ins k)) ∧ Below w.heap.size w w' := by
  by_cases h6 : k = 6
  · subst h6
    go_enter Try.func74, Try.ntmps74
    go_wp2
    go_ret
    exact ⟨by cases ins <;> rfl, Below.refl _ _⟩
  ·
    by_cases h2 : k = 2
    · subst h2
      go_enter Try.func74, Try.ntmps74
      go_wp2
      go_ret
      exact ⟨by cases ins <;> rfl, Below.refl _ _⟩
    ·
      by_cases h4 : k = 4
      · subst h4
        go_enter Try.func74, Try.ntmps74
        go_wp2
        go_ret
        exact ⟨by cases ins <;> rfl, Below.refl _ _⟩
      ·
        by_cases h5 : k = 5
        · subst h5
          go_enter Try.func74, Try.ntmps74
          go_wp2
          go_ret
          exact ⟨by cases ins <;> rfl, Below.refl _ _⟩
        ·
          have hE : ends ins k = false := by unfold ends; rw [decide_eq_false (fun h => by omega)]
          rw [hE]
          go_enter Try.func74, Try.ntmps74
          go_wp2
          go_ret
          exact ⟨rfl, Below.refl _ _⟩
set_option maxRecDepth 100000 in
set_option maxHeartbeats 1000000 in
theorem plain_any (e : Ev) (last : Int) (w : World) : Calls Try.prog 50 #[.agg e.arr, .int .i64 last] w fun x w' => x = .returned (.bool (okE e last)) ∧ Below w.heap.size w w' := by
  obtain ⟨tm, who, kind, key, load⟩ := e
  simp only [Ev.arr]
  have HN := hide (fun w => none_any key load w)
  by_cases h0 : who < 0
  · have hE : okE ⟨tm, who, kind, key, load⟩ last = false := by unfold okE; rw [decide_eq_false (fun h => by simp only at h; omega)]
    rw [hE]
    go_enter Try.func50, Try.ntmps50
    go_wp2
    go_ret
    exact ⟨rfl, below_alloc (Below.refl _ _) _⟩
  ·
    by_cases h1 : kind < 1
    · have hE : okE ⟨tm, who, kind, key, load⟩ last = false := by unfold okE; rw [decide_eq_false (fun h => by simp only at h; omega)]
      rw [hE]
      go_enter Try.func50, Try.ntmps50
      go_wp2
      go_ret
      exact ⟨rfl, below_alloc (Below.refl _ _) _⟩
    ·
      by_cases h2 : 6 < kind
      · have hE : okE ⟨tm, who, kind, key, load⟩ last = false := by unfold okE; rw [decide_eq_false (fun h => by simp only at h; omega)]
        rw [hE]
        go_enter Try.func50, Try.ntmps50
        go_wp2
        go_ret
        exact ⟨rfl, below_alloc (Below.refl _ _) _⟩
      ·
        by_cases h3 : tm < 0
        · have hE : okE ⟨tm, who, kind, key, load⟩ last = false := by unfold okE; rw [decide_eq_false (fun h => by simp only at h; omega)]
          rw [hE]
          go_enter Try.func50, Try.ntmps50
          go_wp2
          go_ret
          exact ⟨rfl, below_alloc (Below.refl _ _) _⟩
        ·
          by_cases h4 : tm < last
          · have hE : okE ⟨tm, who, kind, key, load⟩ last = false := by unfold okE; rw [decide_eq_false (fun h => by simp only at h; omega)]
            rw [hE]
            go_enter Try.func50, Try.ntmps50
            go_wp2
            go_ret
            exact ⟨rfl, below_alloc (Below.refl _ _) _⟩
          ·
            by_cases g1 : kind = 1
            · have hE : okE ⟨tm, who, kind, key, load⟩ last = true := by unfold okE; rw [decide_eq_true (by simp only; omega)]
              rw [hE]
              go_enter Try.func50, Try.ntmps50
              go_wp2
              go_ret
              exact ⟨rfl, below_alloc (Below.refl _ _) _⟩
            ·
              by_cases g4 : kind = 4
              · have hE : okE ⟨tm, who, kind, key, load⟩ last = true := by unfold okE; rw [decide_eq_true (by simp only; omega)]
                rw [hE]
                go_enter Try.func50, Try.ntmps50
                go_wp2
                go_ret
                exact ⟨rfl, below_alloc (Below.refl _ _) _⟩
              ·
                have hE : okE ⟨tm, who, kind, key, load⟩ last = decide (key = 0 ∧ load = 0) := by
                  unfold okE
                  apply decide_eq_decide.2
                  simp only
                  omega
                rw [hE]
                go_enter Try.func50, Try.ntmps50
                go_wp2_with (go_at_call 88; refine (HN.out _).mono ?_; rintro e w2 ⟨rfl, hb⟩)
                go_ret
                exact ⟨by simp [g1, g4], below_on (below_alloc (Below.refl _ _) _) hb⟩
theorem field_int {d : Nat} {f : Field} {fs : List Field} {l m : Array Value} {k : IntKind} {x y : Int} {r : Bool} {w : World} (hn : f.name ≠ "_") (hu : Try.prog.underlying f.type = some (.int k))
    (hl : (part f.type l f.offset).run Try.prog w = .ok (.int k x) w) (hm : (part f.type m f.offset).run Try.prog w = .ok (.int k y) w)
    (h : (Op.eqFields (d + 1) l m fs).run Try.prog w = .ok r w) : (Op.eqFields (d + 1) l m (f :: fs)).run Try.prog w = .ok (x == y && r) w := by
  simp only [Op.eqFields, if_pos hn, Sem.run_bind]
  rw [hl, Result.andThen_ok, hm, Result.andThen_ok, run_equalIn_int w d f.type k k x y hu, Result.andThen_ok]
  cases hxy : (x == y)
  · simp
  · simpa using h
theorem field_bool {d : Nat} {f : Field} {fs : List Field} {l m : Array Value} {x y r : Bool} {w : World} (hn : f.name ≠ "_") (hu : Try.prog.underlying f.type = some .bool)
    (hl : (part f.type l f.offset).run Try.prog w = .ok (.bool x) w) (hm : (part f.type m f.offset).run Try.prog w = .ok (.bool y) w)
    (h : (Op.eqFields (d + 1) l m fs).run Try.prog w = .ok r w) : (Op.eqFields (d + 1) l m (f :: fs)).run Try.prog w = .ok (x == y && r) w := by
  simp only [Op.eqFields, if_pos hn, Sem.run_bind]
  rw [hl, Result.andThen_ok, hm, Result.andThen_ok, run_equalIn_bool' w d f.type x y hu, Result.andThen_ok]
  cases hxy : (x == y)
  · simp
  · simpa using h
theorem field_any {d : Nat} {f : Field} {fs : List Field} {l m : Array Value} {x y : Value} {b r : Bool} {w : World} (hn : f.name ≠ "_")
    (hl : (part f.type l f.offset).run Try.prog w = .ok x w) (hm : (part f.type m f.offset).run Try.prog w = .ok y w) (he : (Op.equalIn (d + 1) f.type x y).run Try.prog w = .ok b w)
    (h : (Op.eqFields (d + 1) l m fs).run Try.prog w = .ok r w) : (Op.eqFields (d + 1) l m (f :: fs)).run Try.prog w = .ok (b && r) w := by
  simp only [Op.eqFields, if_pos hn, Sem.run_bind]
  rw [hl, Result.andThen_ok, hm, Result.andThen_ok, he, Result.andThen_ok]
  cases b
  · simp
  · simpa using h
theorem part32 (l : Array Value) (i : Nat) (x : Value) (w : World) (h : l[i]? = some x) : (part 65 l i).run Try.prog w = .ok x w := by
  simp [part, Try.sizeOf65, Try.isAgg65, h]
theorem part3 (l : Array Value) (i : Nat) (x : Value) (w : World) (h : l[i]? = some x) : (part 3 l i).run Try.prog w = .ok x w := by
  simp [part, Try.sizeOf3, Try.isAgg3, h]
theorem part4 (l : Array Value) (i : Nat) (x : Value) (w : World) (h : l[i]? = some x) : (part 4 l i).run Try.prog w = .ok x w := by
  simp [part, Try.sizeOf4, Try.isAgg4, h]
theorem Try.fields67 : Try.prog.underlying 67 = some (.struct (Try.prog.fieldsOf 67)) := by kernel_rfl
theorem Try.held67 : Try.prog.stoodInHeld 67 = false := by kernel_rfl
theorem Try.list67 : (Try.prog.fieldsOf 67).toList = [{ name := "Key", type := 65, offset := 0, embedded := false, tag := "", pkgPath := "", byteOffset := 0 }, { name := "Load", type := 65, offset := 1, embedded := false, tag := "", pkgPath := "", byteOffset := 8 }] := by kernel_rfl
theorem equal_task (d : Nat) (a0 a1 b0 b1 : Int) (w : World) : (Op.equalIn (d + 1 + 1) 67 (.agg #[.int .u64 a0, .int .u64 a1]) (.agg #[.int .u64 b0, .int .u64 b1])).run Try.prog w = .ok (a0 == b0 && (a1 == b1 && true)) w := by
  rw [run_equalIn_struct w (d + 1) 67 _ _ Try.fields67 Try.held67, Try.list67]
  refine field_int (by decide) Try.underlying65 (part32 _ _ _ _ rfl) (part32 _ _ _ _ rfl) ?_
  refine field_int (by decide) Try.underlying65 (part32 _ _ _ _ rfl) (part32 _ _ _ _ rfl) ?_
  simp [Op.eqFields]
theorem eql_task (a0 a1 b0 b1 : Int) (w : World) :
    (binOp .eql 67 (.agg #[.int .u64 a0, .int .u64 a1]) (.agg #[.int .u64 b0, .int .u64 b1])).run Try.prog w = .ok (.bool (a0 == b0 && (a1 == b1 && true))) w := by
  rw [run_eql_struct, show (10000 : Nat) = 9998 + 1 + 1 from rfl, equal_task, Result.andThen_ok]
end Go.Proofs.Ytfoeljcgbfpknaa
