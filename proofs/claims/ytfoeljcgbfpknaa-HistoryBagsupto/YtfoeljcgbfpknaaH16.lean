/- The program's rankOf. -/
import Derived.Test.YtfoeljcgbfpknaaH15
namespace Go.Proofs.Ytfoeljcgbfpknaa
open Go.RowKit Go.Lib
set_option linter.unusedVariables false
set_option linter.unusedSimpArgs false
/-- How many of the first i tasks are more urgent. -/
def rkO (l : List Tk) (ky : Int) : Nat → Nat
  | 0 => 0
  | i + 1 => if (tkAt l i).key < ky then rkO l ky i + 1 else rkO l ky i
theorem rkO_le (l : List Tk) (ky : Int) : ∀ i, rkO l ky i ≤ i
  | 0 => Nat.le_refl _
  | i + 1 => by have := rkO_le l ky i; unfold rkO; split <;> omega
set_option maxRecDepth 100000 in
set_option maxHeartbeats 2000000 in
theorem rankOf_any (v : Value) (l : List Tk) (t : Tk) (w : World) (h : RAt Tk.arr 2 w v l) (hl : l.length ≤ 1759218604440) : Calls Try.prog 62 #[.agg t.arr, v] w fun x w' => x = .returned (.int .i64 (rkO l t.key l.length : Nat)) ∧ Below w.heap.size w w' := by
  obtain ⟨ao, cap, rfl, hcap, h63⟩ := h.shape
  have H := hide h
  obtain ⟨n, hn⟩ : ∃ n, n = l.length := ⟨_, rfl⟩
  have HN := hide hn
  rw [← hn] at hcap H hl ⊢
  clear h hn
  obtain ⟨ky, ld⟩ := t
  unfold Tk.arr
  simp only
  obtain ⟨X, hX⟩ : ∃ X, X = w.alloc (.cells #[.int .u64 ky, .int .u64 ld] 67) := ⟨_, rfl⟩
  have HBX : Hid (Below w.heap.size w X) := by rw [hX]; exact below_alloc (Below.refl _ _) _
  have HQX : Hid (X.heap[w.heap.size]? = some (.cells #[.int .u64 ky, .int .u64 ld] 67 (0, 0))) := by rw [hX]; exact heap_new _ _
  go_enter Try.func62, Try.ntmps62
  go_wp2_with fail
  rw [← hX]
  clear hX
  go_loopw [5, 7, 10] (fun va _ tt wr => ∃ i : Nat, i ≤ n ∧ va = .int .i64 (rkO l ky i : Nat) ∧ tt = .int .i64 (i : Int) ∧ Below X.heap.size X wr) (fun _ _ tt _ => n - (RowKit.intOf tt).toNat)
  case atStart => exact ⟨0, Nat.zero_le _, rfl, rfl, Below.refl _ _⟩
  case round =>
    obtain ⟨i, hin, rfl, rfl, hb⟩ := hrel
    have HB := hide hb
    have HBW := hide (below_on HBX.out hb)
    have hq := (hb.block _ (lt_of_heap HQX.out)).trans HQX.out
    have z0 := cell_of hq (i := 0) rfl
    clear hb hq
    have hrl := rkO_le l ky i
    by_cases hlt : i < n
    · have hli : (i : Int) < (n : Int) := by omega
      obtain ⟨gs, os, rfl, hgs, p0, p1⟩ := tk_cells (H.out.below HBW.out) i (by rw [← HN.out]; exact hlt)
      have HS : Hid (rkO l ky (i + 1) = if (tkAt l i).key < ky then rkO l ky i + 1 else rkO l ky i) := rfl
      generalize tkAt l i = ti at p0 p1 HS
      obtain ⟨kyi, ldi⟩ := ti
      simp only at p0 p1 HS
      generalize rkO l ky i = rk at HS hrl ⊢
      have HA : Hid (Below X.heap.size X (wr.alloc (.cells #[.int .u64 kyi, .int .u64 ldi] 67))) := below_alloc HB.out _
      have z0' : wr.cell? ⟨w.heap.size, 0, none⟩ = some (.int .u64 ky) := z0
      have hab : Below wr.heap.size wr (wr.alloc (.cells #[.int .u64 kyi, .int .u64 ldi] 67)) := below_alloc (Below.refl _ _) _
      have y0 : (wr.alloc (.cells #[.int .u64 kyi, .int .u64 ldi] 67)).cell? ⟨w.heap.size, 0, none⟩ = some (.int .u64 ky) := (below_cell hab (block_of_cell z0')).trans z0'
      clear z0 z0' hab
      by_cases hk : kyi < ky
      · have HR : Hid (rkO l ky (i + 1) = rk + 1) := by rw [HS.out]; exact if_pos hk
        go_wp2_with fail
        exact ⟨⟨i + 1, by omega, by rw [HR.out]; simp, by simp, HA.out⟩, by simp [RowKit.intOf]; omega⟩
      · have HR : Hid (rkO l ky (i + 1) = rk) := by rw [HS.out]; exact if_neg hk
        go_wp2_with fail
        exact ⟨⟨i + 1, by omega, by rw [HR.out], by simp, HA.out⟩, by simp [RowKit.intOf]; omega⟩
    · obtain rfl : n = i := by omega
      go_wp2_with fail
      go_ret
      exact ⟨rfl, HBW.out⟩
end Go.Proofs.Ytfoeljcgbfpknaa
