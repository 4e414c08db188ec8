/- The sames of records. -/
import Derived.Test.YtmejgjhijdcahaaDoorSm
namespace Go.Proofs.YtmejgjhijdcahaaDoor
open Go.Shelf Go.RowKit Go.Sort Go.Lib
set_option linter.unusedVariables false
set_option linter.unusedSimpArgs false
theorem field_int {d : Nat} {f : Field} {fs : List Field} {l m : Array Value} {k : IntKind} {x y : Int} {r : Bool} {w : World} (hn : f.name ≠ "_") (hu : Tryd.prog.underlying f.type = some (.int k))
    (hl : (part f.type l f.offset).run Tryd.prog w = .ok (.int k x) w) (hm : (part f.type m f.offset).run Tryd.prog w = .ok (.int k y) w)
    (h : (Op.eqFields (d + 1) l m fs).run Tryd.prog w = .ok r w) : (Op.eqFields (d + 1) l m (f :: fs)).run Tryd.prog w = .ok (x == y && r) w := by
  simp only [Op.eqFields, if_pos hn, Sem.run_bind]
  rw [hl, Result.andThen_ok, hm, Result.andThen_ok, run_equalIn_int w d f.type k k x y hu, Result.andThen_ok]
  cases hxy : (x == y)
  · simp
  · simpa using h
theorem part2 (l : Array Value) (i : Nat) (x : Value) (w : World) (h : l[i]? = some x) : (part 2 l i).run Tryd.prog w = .ok x w := by
  simp [part, Tryd.sizeOf2, Tryd.isAgg2, h]
theorem part3 (l : Array Value) (i : Nat) (x : Value) (w : World) (h : l[i]? = some x) : (part 3 l i).run Tryd.prog w = .ok x w := by
  simp [part, Tryd.sizeOf3, Tryd.isAgg3, h]
theorem part28 (l : Array Value) (i : Nat) (x : Value) (w : World) (h : l[i]? = some x) : (part 28 l i).run Tryd.prog w = .ok x w := by
  simp [part, Tryd.sizeOf28, Tryd.isAgg28, h]
theorem Tryd.fields32 : Tryd.prog.underlying 32 = some (.struct (Tryd.prog.fieldsOf 32)) := by kernel_rfl
theorem Tryd.held32 : Tryd.prog.stoodInHeld 32 = false := by kernel_rfl
theorem Tryd.list32 : (Tryd.prog.fieldsOf 32).toList = [{ name := "X", type := 2, offset := 0, embedded := false, tag := "", pkgPath := "", byteOffset := 0 }, { name := "Y", type := 2, offset := 1, embedded := false, tag := "", pkgPath := "", byteOffset := 8 }] := by kernel_rfl
theorem neq_32 (a0 a1 : Int) (w : World) : (binOp .neq 32 (.agg #[.int .i64 a0, .int .i64 a1]) (.agg #[.int .i64 a0, .int .i64 a1])).run Tryd.prog w = .ok (.bool false) w := by
  have h : (Op.equalIn 10000 32 (.agg #[.int .i64 a0, .int .i64 a1]) (.agg #[.int .i64 a0, .int .i64 a1])).run Tryd.prog w = .ok (a0 == a0 && (a1 == a1 && true)) w := by
    rw [show (10000 : Nat) = 9998 + 1 + 1 from rfl, run_equalIn_struct w (9998 + 1) 32 _ _ Tryd.fields32 Tryd.held32, Tryd.list32]
    refine field_int (by decide) Tryd.underlying2 (part2 _ _ _ _ rfl) (part2 _ _ _ _ rfl) ?_
    refine field_int (by decide) Tryd.underlying2 (part2 _ _ _ _ rfl) (part2 _ _ _ _ rfl) ?_
    simp [Op.eqFields]
  rw [run_neq_struct, h, Result.andThen_ok]
  simp
theorem Tryd.fields34 : Tryd.prog.underlying 34 = some (.struct (Tryd.prog.fieldsOf 34)) := by kernel_rfl
theorem Tryd.held34 : Tryd.prog.stoodInHeld 34 = false := by kernel_rfl
theorem Tryd.list34 : (Tryd.prog.fieldsOf 34).toList = [{ name := "From", type := 3, offset := 0, embedded := false, tag := "", pkgPath := "", byteOffset := 0 }, { name := "To", type := 3, offset := 1, embedded := false, tag := "", pkgPath := "", byteOffset := 8 }] := by kernel_rfl
theorem neq_34 (a0 a1 : Int) (w : World) : (binOp .neq 34 (.agg #[.int .i64 a0, .int .i64 a1]) (.agg #[.int .i64 a0, .int .i64 a1])).run Tryd.prog w = .ok (.bool false) w := by
  have h : (Op.equalIn 10000 34 (.agg #[.int .i64 a0, .int .i64 a1]) (.agg #[.int .i64 a0, .int .i64 a1])).run Tryd.prog w = .ok (a0 == a0 && (a1 == a1 && true)) w := by
    rw [show (10000 : Nat) = 9998 + 1 + 1 from rfl, run_equalIn_struct w (9998 + 1) 34 _ _ Tryd.fields34 Tryd.held34, Tryd.list34]
    refine field_int (by decide) Tryd.underlying3 (part3 _ _ _ _ rfl) (part3 _ _ _ _ rfl) ?_
    refine field_int (by decide) Tryd.underlying3 (part3 _ _ _ _ rfl) (part3 _ _ _ _ rfl) ?_
    simp [Op.eqFields]
  rw [run_neq_struct, h, Result.andThen_ok]
  simp
theorem Tryd.fields30 : Tryd.prog.underlying 30 = some (.struct (Tryd.prog.fieldsOf 30)) := by kernel_rfl
theorem Tryd.held30 : Tryd.prog.stoodInHeld 30 = false := by kernel_rfl
theorem Tryd.list30 : (Tryd.prog.fieldsOf 30).toList = [{ name := "From", type := 3, offset := 0, embedded := false, tag := "", pkgPath := "", byteOffset := 0 }, { name := "To", type := 3, offset := 1, embedded := false, tag := "", pkgPath := "", byteOffset := 8 }, { name := "Weight", type := 28, offset := 2, embedded := false, tag := "", pkgPath := "", byteOffset := 16 }] := by kernel_rfl
theorem neq_30 (a0 a1 a2 : Int) (w : World) : (binOp .neq 30 (.agg #[.int .i64 a0, .int .i64 a1, .int .u64 a2]) (.agg #[.int .i64 a0, .int .i64 a1, .int .u64 a2])).run Tryd.prog w = .ok (.bool false) w := by
  have h : (Op.equalIn 10000 30 (.agg #[.int .i64 a0, .int .i64 a1, .int .u64 a2]) (.agg #[.int .i64 a0, .int .i64 a1, .int .u64 a2])).run Tryd.prog w = .ok (a0 == a0 && (a1 == a1 && (a2 == a2 && true))) w := by
    rw [show (10000 : Nat) = 9998 + 1 + 1 from rfl, run_equalIn_struct w (9998 + 1) 30 _ _ Tryd.fields30 Tryd.held30, Tryd.list30]
    refine field_int (by decide) Tryd.underlying3 (part3 _ _ _ _ rfl) (part3 _ _ _ _ rfl) ?_
    refine field_int (by decide) Tryd.underlying3 (part3 _ _ _ _ rfl) (part3 _ _ _ _ rfl) ?_
    refine field_int (by decide) Tryd.underlying28 (part28 _ _ _ _ rfl) (part28 _ _ _ _ rfl) ?_
    simp [Op.eqFields]
  rw [run_neq_struct, h, Result.andThen_ok]
  simp
set_option maxHeartbeats 2000000 in
set_option maxRecDepth 100000 in
theorem samePoints_any (v1 v2 : Value) (l : List Pt) (w : World) (h1 : RAt Pt.arr 2 w v1 l) (h2 : RAt Pt.arr 2 w v2 l) : Calls Tryd.prog 14 #[v1, v2] w fun e w' => e = .returned (.bool true) ∧ Below w.heap.size w w' := by
  obtain ⟨a1, c1, rfl, hc1, hm1⟩ := h1.shape
  obtain ⟨a2, c2, rfl, hc2, hm2⟩ := h2.shape
  have K1 := hide (fun i hi => h1.at i hi)
  have K2 := hide (fun i hi => h2.at i hi)
  clear h1 h2
  obtain ⟨n, hn⟩ : ∃ n, n = l.length := ⟨_, rfl⟩
  have HN := hide hn
  rw [← hn] at hc1 hc2 ⊢
  clear hn
  have M1 := hide hm1; have M2 := hide hm2; have N1 := hide hc1; have N2 := hide hc2
  clear hm1 hm2 hc1 hc2
  go_enter Tryd.func14, Tryd.ntmps14
  go_wp2_with fail
  go_loopw [5] (fun t wr => ∃ k : Nat, k ≤ n ∧ t = .int .i64 k ∧ Below w.heap.size w wr) (fun t _ => n - (RowKit.intOf t).toNat)
  case atStart => exact ⟨0, by omega, rfl, Below.refl _ _⟩
  case round =>
    obtain ⟨k, hk, rfl, hbel⟩ := hrel
    have HBL := hide hbel
    by_cases hlt : k < n
    · obtain ⟨g1, o1, rfl, hg1, e1⟩ := K1.out k (by have := HN.out; omega)
      obtain ⟨g2, o2, rfl, hg2, e2⟩ := K2.out k (by have := HN.out; omega)
      obtain ⟨⟨s, r⟩, hs⟩ : ∃ s, s = l[k]'(by have := HN.out; omega) := ⟨_, rfl⟩
      rw [← hs] at e1 e2
      have x1 : wr.cell? ⟨g1, o1 + k * 2, none⟩ = some (.int .i64 s) := (below_cell hbel hg1).trans (e1 0 _ rfl)
      have x2 : wr.cell? ⟨g1, o1 + k * 2 + 1, none⟩ = some (.int .i64 r) := (below_cell hbel hg1).trans (e1 1 _ rfl)
      have x3 : wr.cell? ⟨g2, o2 + k * 2, none⟩ = some (.int .i64 s) := (below_cell hbel hg2).trans (e2 0 _ rfl)
      have x4 : wr.cell? ⟨g2, o2 + k * 2 + 1, none⟩ = some (.int .i64 r) := (below_cell hbel hg2).trans (e2 1 _ rfl)
      have hkm : (k : Int) + 1 ≤ 9223372036854775807 := by have := M1.out; have := N1.out; omega
      have hk1 : (k : Int) < c1 := by have := N1.out; omega
      have hk2 : (k : Int) < c2 := by have := N2.out; omega
      clear e1 e2 hs hbel
      have y1 := gw_cell x1
      have y2 := gw_cell x2
      have y3 := gw_cell x3
      have y4 := gw_cell x4
      have hneq := neq_32 s r
      go_wp2_with fail
      refine wp_region_gw (by kernel_rfl) (by kernel_rfl) ?_
      repeat (go_big_quiet_step (rfl))
      refine wpQuiet_nil ?_
      intro _ hw'
      obtain ⟨x, hw''⟩ := hw'
      subst hw''
      go_wp2_with fail
      go_roundw
      case rel => exact ⟨k + 1, by omega, by go_num, HBL.out.trans (x.bel.mono HBL.out.size)⟩
      case measure => simp [RowKit.intOf]; omega
    · clear hbel
      go_wp2_with fail
      go_ret
      exact ⟨rfl, HBL.out⟩
set_option maxHeartbeats 2000000 in
set_option maxRecDepth 100000 in
theorem sameQueries_any (v1 v2 : Value) (l : List Pt) (w : World) (h1 : RAt Pt.arr 2 w v1 l) (h2 : RAt Pt.arr 2 w v2 l) : Calls Tryd.prog 16 #[v1, v2] w fun e w' => e = .returned (.bool true) ∧ Below w.heap.size w w' := by
  obtain ⟨a1, c1, rfl, hc1, hm1⟩ := h1.shape
  obtain ⟨a2, c2, rfl, hc2, hm2⟩ := h2.shape
  have K1 := hide (fun i hi => h1.at i hi)
  have K2 := hide (fun i hi => h2.at i hi)
  clear h1 h2
  obtain ⟨n, hn⟩ : ∃ n, n = l.length := ⟨_, rfl⟩
  have HN := hide hn
  rw [← hn] at hc1 hc2 ⊢
  clear hn
  have M1 := hide hm1; have M2 := hide hm2; have N1 := hide hc1; have N2 := hide hc2
  clear hm1 hm2 hc1 hc2
  go_enter Tryd.func16, Tryd.ntmps16
  go_wp2_with fail
  go_loopw [5] (fun t wr => ∃ k : Nat, k ≤ n ∧ t = .int .i64 k ∧ Below w.heap.size w wr) (fun t _ => n - (RowKit.intOf t).toNat)
  case atStart => exact ⟨0, by omega, rfl, Below.refl _ _⟩
  case round =>
    obtain ⟨k, hk, rfl, hbel⟩ := hrel
    have HBL := hide hbel
    by_cases hlt : k < n
    · obtain ⟨g1, o1, rfl, hg1, e1⟩ := K1.out k (by have := HN.out; omega)
      obtain ⟨g2, o2, rfl, hg2, e2⟩ := K2.out k (by have := HN.out; omega)
      obtain ⟨⟨s, r⟩, hs⟩ : ∃ s, s = l[k]'(by have := HN.out; omega) := ⟨_, rfl⟩
      rw [← hs] at e1 e2
      have x1 : wr.cell? ⟨g1, o1 + k * 2, none⟩ = some (.int .i64 s) := (below_cell hbel hg1).trans (e1 0 _ rfl)
      have x2 : wr.cell? ⟨g1, o1 + k * 2 + 1, none⟩ = some (.int .i64 r) := (below_cell hbel hg1).trans (e1 1 _ rfl)
      have x3 : wr.cell? ⟨g2, o2 + k * 2, none⟩ = some (.int .i64 s) := (below_cell hbel hg2).trans (e2 0 _ rfl)
      have x4 : wr.cell? ⟨g2, o2 + k * 2 + 1, none⟩ = some (.int .i64 r) := (below_cell hbel hg2).trans (e2 1 _ rfl)
      have hkm : (k : Int) + 1 ≤ 9223372036854775807 := by have := M1.out; have := N1.out; omega
      have hk1 : (k : Int) < c1 := by have := N1.out; omega
      have hk2 : (k : Int) < c2 := by have := N2.out; omega
      clear e1 e2 hs hbel
      have y1 := gw_cell x1
      have y2 := gw_cell x2
      have y3 := gw_cell x3
      have y4 := gw_cell x4
      have hneq := neq_34 s r
      go_wp2_with fail
      refine wp_region_gw (by kernel_rfl) (by kernel_rfl) ?_
      repeat (go_big_quiet_step (rfl))
      refine wpQuiet_nil ?_
      intro _ hw'
      obtain ⟨x, hw''⟩ := hw'
      subst hw''
      go_wp2_with fail
      go_roundw
      case rel => exact ⟨k + 1, by omega, by go_num, HBL.out.trans (x.bel.mono HBL.out.size)⟩
      case measure => simp [RowKit.intOf]; omega
    · clear hbel
      go_wp2_with fail
      go_ret
      exact ⟨rfl, HBL.out⟩
end Go.Proofs.YtmejgjhijdcahaaDoor
