/- Spans and events held against one another. -/
import Derived.Test.YtfoeljcgbfpknaaSm2
namespace Go.Proofs.Ytfoeljcgbfpknaa
open Go.RowKit Go.Lib
set_option linter.unusedVariables false
set_option linter.unusedSimpArgs false
theorem below_drewN (w : World) (m : Nat) : Below w.heap.size w (w.drewN m) := ⟨rfl, rfl, rfl, Nat.le_refl _, fun _ _ => rfl⟩
theorem part34 (l : Array Value) (i : Nat) (x y : Value) (w : World) (h : (l.extract i (i + 2)) = #[x, y]) : (part 67 l i).run Try.prog w = .ok (.agg #[x, y]) w := by
  simp [part, Try.sizeOf67, Try.isAgg67, h]
theorem Try.fields69 : Try.prog.underlying 69 = some (.struct (Try.prog.fieldsOf 69)) := by kernel_rfl
theorem Try.held69 : Try.prog.stoodInHeld 69 = false := by kernel_rfl
theorem Try.list69 : (Try.prog.fieldsOf 69).toList = [{ name := "Who", type := 3, offset := 0, embedded := false, tag := "", pkgPath := "", byteOffset := 0 }, { name := "Insert", type := 4, offset := 1, embedded := false, tag := "", pkgPath := "", byteOffset := 8 },
    { name := "Task", type := 67, offset := 2, embedded := false, tag := "", pkgPath := "", byteOffset := 16 }, { name := "Begin", type := 3, offset := 4, embedded := false, tag := "", pkgPath := "", byteOffset := 32 },
    { name := "End", type := 3, offset := 5, embedded := false, tag := "", pkgPath := "", byteOffset := 40 }, { name := "Kind", type := 3, offset := 6, embedded := false, tag := "", pkgPath := "", byteOffset := 48 }] := by kernel_rfl
theorem Try.fields87 : Try.prog.underlying 87 = some (.struct (Try.prog.fieldsOf 87)) := by kernel_rfl
theorem Try.held87 : Try.prog.stoodInHeld 87 = false := by kernel_rfl
theorem Try.list87 : (Try.prog.fieldsOf 87).toList = [{ name := "At", type := 3, offset := 0, embedded := false, tag := "", pkgPath := "", byteOffset := 0 }, { name := "Who", type := 3, offset := 1, embedded := false, tag := "", pkgPath := "", byteOffset := 8 },
    { name := "Kind", type := 3, offset := 2, embedded := false, tag := "", pkgPath := "", byteOffset := 16 }, { name := "Task", type := 67, offset := 3, embedded := false, tag := "", pkgPath := "", byteOffset := 24 }] := by kernel_rfl
theorem neq_span (a0 : Int) (a1 : Bool) (a2 a3 a4 a5 a6 : Int) (w : World) :
    (binOp .neq 69 (.agg #[.int .i64 a0, .bool a1, .int .u64 a2, .int .u64 a3, .int .i64 a4, .int .i64 a5, .int .i64 a6]) (.agg #[.int .i64 a0, .bool a1, .int .u64 a2, .int .u64 a3, .int .i64 a4, .int .i64 a5, .int .i64 a6])).run Try.prog w = .ok (.bool false) w := by
  have h : (Op.equalIn 10000 69 (.agg #[.int .i64 a0, .bool a1, .int .u64 a2, .int .u64 a3, .int .i64 a4, .int .i64 a5, .int .i64 a6]) (.agg #[.int .i64 a0, .bool a1, .int .u64 a2, .int .u64 a3, .int .i64 a4, .int .i64 a5, .int .i64 a6])).run Try.prog w
      = .ok (a0 == a0 && (a1 == a1 && ((a2 == a2 && (a3 == a3 && true)) && (a4 == a4 && (a5 == a5 && (a6 == a6 && true)))))) w := by
    rw [show (10000 : Nat) = 9998 + 1 + 1 from rfl, run_equalIn_struct w (9998 + 1) 69 _ _ Try.fields69 Try.held69, Try.list69]
    refine field_int (by decide) Try.underlying3 (part3 _ _ _ _ rfl) (part3 _ _ _ _ rfl) ?_
    refine field_bool (by decide) Try.underlying4 (part4 _ _ _ _ rfl) (part4 _ _ _ _ rfl) ?_
    refine field_any (by decide) (part34 _ _ _ _ _ rfl) (part34 _ _ _ _ _ rfl) (equal_task 9997 _ _ _ _ _) ?_
    refine field_int (by decide) Try.underlying3 (part3 _ _ _ _ rfl) (part3 _ _ _ _ rfl) ?_
    refine field_int (by decide) Try.underlying3 (part3 _ _ _ _ rfl) (part3 _ _ _ _ rfl) ?_
    refine field_int (by decide) Try.underlying3 (part3 _ _ _ _ rfl) (part3 _ _ _ _ rfl) ?_
    simp [Op.eqFields]
  rw [run_neq_struct, h, Result.andThen_ok]
  simp
theorem neq_event (a0 a1 a2 a3 a4 : Int) (w : World) :
    (binOp .neq 87 (.agg #[.int .i64 a0, .int .i64 a1, .int .i64 a2, .int .u64 a3, .int .u64 a4]) (.agg #[.int .i64 a0, .int .i64 a1, .int .i64 a2, .int .u64 a3, .int .u64 a4])).run Try.prog w = .ok (.bool false) w := by
  have h : (Op.equalIn 10000 87 (.agg #[.int .i64 a0, .int .i64 a1, .int .i64 a2, .int .u64 a3, .int .u64 a4]) (.agg #[.int .i64 a0, .int .i64 a1, .int .i64 a2, .int .u64 a3, .int .u64 a4])).run Try.prog w
      = .ok (a0 == a0 && (a1 == a1 && (a2 == a2 && ((a3 == a3 && (a4 == a4 && true)) && true)))) w := by
    rw [show (10000 : Nat) = 9998 + 1 + 1 from rfl, run_equalIn_struct w (9998 + 1) 87 _ _ Try.fields87 Try.held87, Try.list87]
    refine field_int (by decide) Try.underlying3 (part3 _ _ _ _ rfl) (part3 _ _ _ _ rfl) ?_
    refine field_int (by decide) Try.underlying3 (part3 _ _ _ _ rfl) (part3 _ _ _ _ rfl) ?_
    refine field_int (by decide) Try.underlying3 (part3 _ _ _ _ rfl) (part3 _ _ _ _ rfl) ?_
    refine field_any (by decide) (part34 _ _ _ _ _ rfl) (part34 _ _ _ _ _ rfl) (equal_task 9997 _ _ _ _ _) ?_
    simp [Op.eqFields]
  rw [run_neq_struct, h, Result.andThen_ok]
  simp
set_option maxRecDepth 100000 in
set_option maxHeartbeats 1000000 in
theorem sameSpans_any (v1 v2 : Value) (l : List Sp) (w : World) (h1 : RAt Sp.arr 7 w v1 l) (h2 : RAt Sp.arr 7 w v2 l) :
    Calls Try.prog 27 #[v1, v2] w fun e w' => e = .returned (.bool true) ∧ Below w.heap.size w w' := by
  obtain ⟨a1, c1, rfl, hc1, hm1⟩ := h1.shape
  obtain ⟨a2, c2, rfl, hc2, hm2⟩ := h2.shape
  have K1 := hide (fun i hi => h1.at i hi)
  have K2 := hide (fun i hi => h2.at i hi)
  clear h1 h2
  obtain ⟨n, hn⟩ : ∃ n, n = l.length := ⟨_, rfl⟩
  have HN := hide hn
  rw [← hn] at hc1 hc2 ⊢
  clear hn
  have hneq := neq_span
  go_enter Try.func27, Try.ntmps27
  go_wp2_with fail
  go_loopw [5] (fun t wr => ∃ k : Nat, k ≤ n ∧ t = .int .i64 k ∧ ∃ m, wr = w.drewN m) (fun t _ => n - (RowKit.intOf t).toNat)
  case atStart => exact ⟨0, by omega, rfl, 0, rfl⟩
  case round =>
    obtain ⟨k, hk, rfl, m, rfl⟩ := hrel
    by_cases hlt : k < n
    · obtain ⟨g1, o1, rfl, _, e1⟩ := K1.out k (by have := HN.out; omega)
      obtain ⟨g2, o2, rfl, _, e2⟩ := K2.out k (by have := HN.out; omega)
      have hkm : (k : Int) + 1 ≤ 9223372036854775807 := by omega
      obtain ⟨⟨s0, s1, s2, s3, s4, s5, s6⟩, hs⟩ : ∃ s, s = l[k]'(by have := HN.out; omega) := ⟨_, rfl⟩
      rw [← hs] at e1 e2
      have x0 : w.cell? ⟨g1, o1 + k * 7, none⟩ = some (.int .i64 s0) := e1 0 _ rfl
      have x1 : w.cell? ⟨g1, o1 + k * 7 + 1, none⟩ = some (.bool s1) := e1 1 _ rfl
      have x2 : w.cell? ⟨g1, o1 + k * 7 + 2, none⟩ = some (.int .u64 s2) := e1 2 _ rfl
      have x3 : w.cell? ⟨g1, o1 + k * 7 + 3, none⟩ = some (.int .u64 s3) := e1 3 _ rfl
      have x4 : w.cell? ⟨g1, o1 + k * 7 + 4, none⟩ = some (.int .i64 s4) := e1 4 _ rfl
      have x5 : w.cell? ⟨g1, o1 + k * 7 + 5, none⟩ = some (.int .i64 s5) := e1 5 _ rfl
      have x6 : w.cell? ⟨g1, o1 + k * 7 + 6, none⟩ = some (.int .i64 s6) := e1 6 _ rfl
      have y0 : w.cell? ⟨g2, o2 + k * 7, none⟩ = some (.int .i64 s0) := e2 0 _ rfl
      have y1 : w.cell? ⟨g2, o2 + k * 7 + 1, none⟩ = some (.bool s1) := e2 1 _ rfl
      have y2 : w.cell? ⟨g2, o2 + k * 7 + 2, none⟩ = some (.int .u64 s2) := e2 2 _ rfl
      have y3 : w.cell? ⟨g2, o2 + k * 7 + 3, none⟩ = some (.int .u64 s3) := e2 3 _ rfl
      have y4 : w.cell? ⟨g2, o2 + k * 7 + 4, none⟩ = some (.int .i64 s4) := e2 4 _ rfl
      have y5 : w.cell? ⟨g2, o2 + k * 7 + 5, none⟩ = some (.int .i64 s5) := e2 5 _ rfl
      have y6 : w.cell? ⟨g2, o2 + k * 7 + 6, none⟩ = some (.int .i64 s6) := e2 6 _ rfl
      have hl1i : (k : Int) < c1 := by omega
      have hl2i : (k : Int) < c2 := by omega
      clear e1 e2 hm1 hm2 hs
      go_wp2_with fail
      go_region
      all_goals
        go_wp2_with fail
        go_roundw
        case rel => exact ⟨k + 1, by omega, by go_num, m + 1, rfl⟩
        case measure => simp [RowKit.intOf]; omega
    · go_wp2_with fail
      go_ret
      exact ⟨rfl, below_drewN _ _⟩
end Go.Proofs.Ytfoeljcgbfpknaa
