/- times: how often an edge stands in a list. -/
import Derived.Test.YtmagigmcbegmiaaGOf
import Derived.BigRegion
import Derived.BigQuiet
namespace Go.Proofs.Ytmagigmcbegmiaa
open Go.RowKit Go.Lib
set_option linter.unusedVariables false
set_option linter.unusedSimpArgs false
theorem count_take {l : List Ed3} {i : Nat} (hi : i < l.length) (x : Ed3) : (l.take (i + 1)).count x = (l.take i).count x + (if eAt l i = x then 1 else 0) := by
  have he : eAt l i = l[i] := by simp [eAt, hi]
  rw [List.take_succ_eq_append_getElem hi, List.count_append, ← he]
  simp [List.count_singleton]
theorem eql_edge (a0 a1 a2 b0 b1 b2 : Int) (w : World) :
    (binOp .eql 50 (.agg #[.int .i64 a0, .int .i64 a1, .int .u64 a2]) (.agg #[.int .i64 b0, .int .i64 b1, .int .u64 b2])).run Try.prog w = .ok (.bool (decide ((a0, a1, a2) = (b0, b1, b2)))) w := by
  rw [run_eql_struct, equalIn_edge, Result.andThen_ok]
  congr 2
  rw [Bool.eq_iff_iff]
  simp [Prod.ext_iff]
set_option maxRecDepth 100000 in
set_option maxHeartbeats 2000000 in
theorem times_any (lv : Value) (l : List Ed3) (x0 x1 x2 : Int) (w : World) (hE : EAt w lv l) (hl : l.length ≤ 4194304) :
    Calls Try.prog 37 #[lv, .agg #[.int .i64 x0, .int .i64 x1, .int .u64 x2]] w fun e w' => e = .returned (.int .i64 (l.count (x0, x1, x2) : Nat)) ∧ Below w.heap.size w w' := by
  obtain ⟨W, hW⟩ : ∃ W, W = w.alloc (.cells #[.int .i64 x0, .int .i64 x1, .int .u64 x2] 50) := ⟨_, rfl⟩
  have hbW : Below w.heap.size w W := by rw [hW]; exact below_alloc (Below.refl _ _) _
  have hA : W.heap[w.heap.size]? = some (.cells #[.int .i64 x0, .int .i64 x1, .int .u64 x2] 50 (0, 0)) := by rw [hW]; exact heap_new _ _
  obtain ⟨a1, c1, rfl, hc1, hm1, H1⟩ := hE.below hbW
  have H1 := hide H1
  have HBW := hide hbW
  have p0 := cell_of hA (i := 0) rfl
  have p1 := cell_of hA (i := 1) rfl
  have p2 := cell_of hA (i := 2) rfl
  obtain ⟨n, hn⟩ : ∃ n, n = l.length := ⟨_, rfl⟩
  rw [← hn] at H1 hc1 hl ⊢
  have HN := hide hn
  have HE := hide (fun a b c w => eql_edge a b c x0 x1 x2 w)
  have HCL : Hid (∀ i, (l.take i).count (x0, x1, x2) ≤ i) := fun i => Nat.le_trans List.count_le_length (List.length_take_le _ _)
  clear hn hA hbW hE
  go_enter Try.func37, Try.ntmps37
  go_upto_region 1 with fail
  rw [← hW]
  clear hW
  go_wp2_with fail
  go_loopw [5, 6] (fun s t wr => ∃ k : Nat, k ≤ n ∧ t = .int .i64 (k : Int) ∧ s = .int .i64 ((l.take k).count (x0, x1, x2) : Nat) ∧ ∃ m, wr = W.drewN m) (fun _ t _ => n - (RowKit.intOf t).toNat)
  case atStart => exact ⟨0, by omega, rfl, by simp, 0, rfl⟩
  case round =>
    obtain ⟨k, hk, rfl, rfl, m, rfl⟩ := hrel
    by_cases hlt : k < n
    · obtain ⟨g1, o1, e1, d1, d1', d1''⟩ := H1.out k hlt
      subst e1
      have HCT := hide (count_take (l := l) (i := k) (by rw [← HN.out]; exact hlt) (x0, x1, x2))
      obtain ⟨x, hx⟩ : ∃ x, x = (eAt l k).1 := ⟨_, rfl⟩
      obtain ⟨y, hy⟩ : ∃ y, y = (eAt l k).2.1 := ⟨_, rfl⟩
      obtain ⟨z, hz⟩ : ∃ z, z = (eAt l k).2.2 := ⟨_, rfl⟩
      have hxyz : eAt l k = (x, y, z) := by rw [hx, hy, hz]
      rw [hxyz] at HCT
      rw [← hx] at d1
      rw [← hy] at d1'
      rw [← hz] at d1''
      have hcl := HCL.out k
      obtain ⟨cn, hcn⟩ : ∃ cn, cn = (l.take k).count (x0, x1, x2) := ⟨_, rfl⟩
      rw [← hcn] at HCT hcl ⊢
      clear hx hy hz hxyz hcn
      have hki : (k : Int) < (n : Int) := by omega
      have hne := fun w => HE.out x y z w
      by_cases hq : (x, y, z) = (x0, x1, x2)
      · rw [decide_eq_true hq] at hne
        rw [if_pos hq] at HCT
        clear hq
        go_wp2_with fail
        go_region
        all_goals
          go_wp2
          go_roundw
          case rel => exact ⟨k + 1, by omega, by go_num, by rw [HCT.out]; go_num, m + 1, rfl⟩
          case measure => simp [RowKit.intOf]; omega
      · rw [decide_eq_false hq] at hne
        rw [if_neg hq] at HCT
        clear hq
        go_wp2_with fail
        go_region
        all_goals
          go_wp2
          go_roundw
          case rel => exact ⟨k + 1, by omega, by go_num, by rw [HCT.out]; rfl, m + 1, rfl⟩
          case measure => simp [RowKit.intOf]; omega
    · obtain rfl : k = n := by omega
      have hfin : l.take k = l := by rw [HN.out, List.take_length]
      rw [hfin]
      clear hfin
      go_wp2_with fail
      go_ret
      exact ⟨rfl, below_drewN HBW.out _⟩
end Go.Proofs.Ytmagigmcbegmiaa
