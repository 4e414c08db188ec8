/- Tasks in memory; whether one is Never; lists held against one another. -/
import Derived.Test.YtgjdjdgondpjeaaGreatTR
import Derived.Laws.StructEq
import Derived.ChangeKeysEq
import Derived.Laws.EntriesVeiled
namespace Go.Proofs.YtgjdjdgondpjeaaGreat
open Go.RowKit Go.Lib
set_option linter.unusedVariables false
theorem gw_cell {w : World} {b i : Nat} {v : Value} (h : w.cell? ⟨b, i, none⟩ = some v) (x : GW w) : x.world.cell? ⟨b, i, none⟩ = some v := (below_cell x.bel (block_of_cell h)).trans h
abbrev Tk := Int × Int
def tAt (l : List Tk) (i : Nat) : Tk := l[i]?.getD (0, 0)
/-- Tasks that lie anywhere. -/
def TAt (w : World) (v : Value) (l : List Tk) : Prop :=
  ∃ ao c, v = .slice ao l.length c ∧ l.length ≤ c ∧ c ≤ 9223372036854775807 ∧
    ∀ i, i < l.length → ∃ g o, ao = some ⟨g, o, none⟩ ∧ w.cell? ⟨g, o + i * 2, none⟩ = some (.int .u64 (tAt l i).1) ∧ w.cell? ⟨g, o + i * 2 + 1, none⟩ = some (.int .u64 (tAt l i).2)
theorem TAt.below {w w' : World} {v : Value} {l : List Tk} (h : TAt w v l) (hb : Below w.heap.size w w') : TAt w' v l := by
  obtain ⟨ao, c, rfl, h1, h2, h3⟩ := h
  refine ⟨ao, c, rfl, h1, h2, fun i hi => ?_⟩
  obtain ⟨g, o, e, p, q⟩ := h3 i hi
  have hl : g < w.heap.size := block_of_cell p
  exact ⟨g, o, e, (below_cell hb hl).trans p, (below_cell hb hl).trans q⟩
theorem TAt.shape {w : World} {v : Value} {l : List Tk} (h : TAt w v l) : ∃ ao c, v = .slice ao l.length c ∧ l.length ≤ c ∧ c ≤ 9223372036854775807 := by
  obtain ⟨ao, c, rfl, h1, h2, _⟩ := h; exact ⟨ao, c, rfl, h1, h2⟩
theorem TAt.cellAt {w : World} {ao : Option Addr} {n c : Nat} {l : List Tk} (h : TAt w (.slice ao n c) l) (i : Nat) (hi : i < l.length) :
    ∃ g o, ao = some ⟨g, o, none⟩ ∧ w.cell? ⟨g, o + i * 2, none⟩ = some (.int .u64 (tAt l i).1) ∧ w.cell? ⟨g, o + i * 2 + 1, none⟩ = some (.int .u64 (tAt l i).2) := by
  obtain ⟨ao', c', he, h1, h2, h3⟩ := h
  simp only [Value.slice.injEq] at he
  obtain ⟨rfl, _, _⟩ := he
  exact h3 i hi
theorem TAt.nil (w : World) : TAt w (.slice none 0 0) [] := ⟨none, 0, rfl, Nat.le_refl _, by omega, fun i hi => absurd hi (Nat.not_lt_zero _)⟩
/-- The tasks' numbers are words. -/
def Tok (l : List Tk) : Prop := ∀ i, i < l.length → (0 ≤ (tAt l i).1 ∧ (tAt l i).1 < 18446744073709551616) ∧ 0 ≤ (tAt l i).2 ∧ (tAt l i).2 < 18446744073709551616
theorem part32 (l : Array Value) (i : Nat) (x : Value) (w : World) (h : l[i]? = some x) : (part 40 l i).run Tryz.prog w = .ok x w := by
  simp [part, Tryz.sizeOf40, Tryz.isAgg40, h]
theorem Tryz.fields42 : Tryz.prog.underlying 42 = some (.struct (Tryz.prog.fieldsOf 42)) := by kernel_rfl
theorem Tryz.held42 : Tryz.prog.stoodInHeld 42 = false := by kernel_rfl
theorem Tryz.list42 : (Tryz.prog.fieldsOf 42).toList = [{ name := "Key", type := 40, offset := 0, embedded := false, tag := "", pkgPath := "", byteOffset := 0 }, { name := "Load", type := 40, offset := 1, embedded := false, tag := "", pkgPath := "", byteOffset := 8 }] := by kernel_rfl
theorem neq_task (a0 a1 b0 b1 : Int) (w : World) :
    (binOp .neq 42 (.agg #[.int .u64 a0, .int .u64 a1]) (.agg #[.int .u64 b0, .int .u64 b1])).run Tryz.prog w = .ok (.bool (!(a0 == b0 && (a1 == b1 && true)))) w := by
  have h : (Op.equalIn 10000 42 (.agg #[.int .u64 a0, .int .u64 a1]) (.agg #[.int .u64 b0, .int .u64 b1])).run Tryz.prog w = .ok (a0 == b0 && (a1 == b1 && true)) w := by
    rw [show (10000 : Nat) = 9998 + 1 + 1 from rfl, run_equalIn_struct w (9998 + 1) 42 _ _ Tryz.fields42 Tryz.held42, Tryz.list42]
    refine field_int (by decide) Tryz.underlying40 (part32 _ _ _ _ rfl) (part32 _ _ _ _ rfl) ?_
    refine field_int (by decide) Tryz.underlying40 (part32 _ _ _ _ rfl) (part32 _ _ _ _ rfl) ?_
    simp [Op.eqFields]
  rw [run_neq_struct, h, Result.andThen_ok]
theorem neq_same (a0 a1 : Int) (w : World) :
    (binOp .neq 42 (.agg #[.int .u64 a0, .int .u64 a1]) (.agg #[.int .u64 a0, .int .u64 a1])).run Tryz.prog w = .ok (.bool false) w := by
  rw [neq_task]; simp
set_option maxRecDepth 100000 in
set_option maxHeartbeats 2000000 in
theorem sameTasks_any (v1 v2 : Value) (l : List Tk) (w : World) (h1 : TAt w v1 l) (h2 : TAt w v2 l) :
    Calls Tryz.prog 21 #[v1, v2] w fun e w' => e = .returned (.bool true) ∧ Below w.heap.size w w' := by
  obtain ⟨a1, c1, rfl, hc1, hm1⟩ := h1.shape
  obtain ⟨a2, c2, rfl, hc2, hm2⟩ := h2.shape
  have H1 := hide (fun i hi => h1.cellAt i hi)
  have H2 := hide (fun i hi => h2.cellAt i hi)
  clear h1 h2
  obtain ⟨n, hn⟩ : ∃ n, n = l.length := ⟨_, rfl⟩
  rw [← hn] at H1 H2 hc1 hc2 ⊢
  clear hn
  have HE := hide (fun a b w => neq_same a b w)
  go_enter Tryz.func21, Tryz.ntmps21
  go_wp2
  go_loopw [5] (fun t wr => ∃ k : Nat, k ≤ n ∧ t = .int .i64 k ∧ ∃ m, wr = w.drewN m) (fun t _ => n - (RowKit.intOf t).toNat)
  case atStart => exact ⟨0, by omega, rfl, 0, rfl⟩
  case round =>
    obtain ⟨k, hk, rfl, m, rfl⟩ := hrel
    by_cases hlt : k < n
    · obtain ⟨g1, o1, e1, d1, d1'⟩ := H1.out k hlt
      obtain ⟨g2, o2, e2, d2, d2'⟩ := H2.out k hlt
      subst e1
      subst e2
      obtain ⟨x, hx⟩ : ∃ x, x = (tAt l k).1 := ⟨_, rfl⟩
      obtain ⟨y, hy⟩ : ∃ y, y = (tAt l k).2 := ⟨_, rfl⟩
      rw [← hx] at d1 d2
      rw [← hy] at d1' d2'
      clear hx hy
      have hne := fun w => HE.out x y w
      go_wp2
      go_region
      all_goals
        go_wp2
        go_roundw
        case rel => exact ⟨k + 1, by omega, by go_num, m + 1, rfl⟩
        case measure => simp [RowKit.intOf]; omega
    · obtain rfl : k = n := by omega
      go_wp2
      go_ret
      exact ⟨rfl, below_drewN (Below.refl _ _) _⟩
end Go.Proofs.YtgjdjdgondpjeaaGreat
