/- The program's counts, isOpen, puts. -/
import Derived.Test.YtfoeljcgbfpknaaH7
import Derived.Deep.RegionHeld3
import Derived.Deep.Cut
import Derived.Deep.CutRange
namespace Go.Proofs.Ytfoeljcgbfpknaa
open Go.RowKit Go.Lib
set_option linter.unusedVariables false
set_option linter.unusedSimpArgs false
set_option maxRecDepth 100000 in
set_option maxHeartbeats 2000000 in
theorem countsP_any (s : Sp) (w : World) : Calls Try.prog 69 #[.agg s.arr] w fun x w' => x = .returned (.bool (s.kind == 2 || s.kind == 4)) ∧ Below w.heap.size w w' := by
  obtain ⟨who, ins, key, load, beg, en, kind⟩ := s
  have HA : Hid (Below w.heap.size w (w.alloc (.cells #[.int .i64 who, .bool ins, .int .u64 key, .int .u64 load, .int .i64 beg, .int .i64 en, .int .i64 kind] 69))) := below_alloc (Below.refl _ _) _
  unfold Sp.arr
  simp only
  by_cases hk : kind = 2
  · subst hk
    go_enter Try.func69, Try.ntmps69
    go_wp2_with fail
    go_ret
    exact ⟨rfl, HA.out⟩
  · have hk2 : (kind == 2) = false := by simp [hk]
    clear hk
    rw [hk2]
    by_cases hk : kind = 4
    · subst hk
      go_enter Try.func69, Try.ntmps69
      go_wp2_with fail
      go_ret
      exact ⟨rfl, HA.out⟩
    · have hk3 : (kind == 4) = false := by simp [hk]
      clear hk
      rw [hk3]
      go_enter Try.func69, Try.ntmps69
      go_wp2_with fail
      go_ret
      exact ⟨rfl, HA.out⟩
set_option maxRecDepth 100000 in
theorem isOpen_any (s : Sp) (w : World) : Calls Try.prog 96 #[.agg s.arr] w fun x w' => x = .returned (.bool (s.en == -1)) ∧ Below w.heap.size w w' := by
  obtain ⟨who, ins, key, load, beg, en, kind⟩ := s
  have HA : Hid (Below w.heap.size w (w.alloc (.cells #[.int .i64 who, .bool ins, .int .u64 key, .int .u64 load, .int .i64 beg, .int .i64 en, .int .i64 kind] 69))) := below_alloc (Below.refl _ _) _
  unfold Sp.arr
  simp only
  by_cases hk : en = -1
  · subst hk
    go_enter Try.func96, Try.ntmps96
    go_wp2_with fail
    go_ret
    exact ⟨rfl, HA.out⟩
  · have hk2 : (en == -1) = false := by simp [hk]
    clear hk
    rw [hk2]
    go_enter Try.func96, Try.ntmps96
    go_wp2_with fail
    go_ret
    exact ⟨rfl, HA.out⟩
/-- The program's puts. -/
def putP (s : Sp) : Bool := s.ins && ((s.kind == 2 || s.kind == 4) || s.en == -1)
set_option maxRecDepth 100000 in
set_option maxHeartbeats 2000000 in
theorem puts_any (s : Sp) (w : World) : Calls Try.prog 68 #[.agg s.arr] w fun x w' => x = .returned (.bool (putP s)) ∧ Below w.heap.size w w' := by
  have HC := hide (fun W => countsP_any s W)
  have HY := hide (fun W => isOpen_any s W)
  obtain ⟨who, ins, key, load, beg, en, kind⟩ := s
  have HA : Hid (Below w.heap.size w (w.alloc (.cells #[.int .i64 who, .bool ins, .int .u64 key, .int .u64 load, .int .i64 beg, .int .i64 en, .int .i64 kind] 69))) := below_alloc (Below.refl _ _) _
  have HB : Hid ((w.alloc (.cells #[.int .i64 who, .bool ins, .int .u64 key, .int .u64 load, .int .i64 beg, .int .i64 en, .int .i64 kind] 69)).heap[w.heap.size]? = some (.cells #[.int .i64 who, .bool ins, .int .u64 key, .int .u64 load, .int .i64 beg, .int .i64 en, .int .i64 kind] 69 (0, 0))) := heap_new _ _
  unfold Sp.arr at HC HY ⊢
  unfold putP
  simp only at HC HY ⊢
  cases ins with
  | false =>
    go_enter Try.func68, Try.ntmps68
    go_wp2_with fail
    go_ret
    exact ⟨rfl, HA.out⟩
  | true =>
    generalize (kind == 2 || kind == 4) = cb at HC ⊢
    cases cb with
    | true =>
      go_enter Try.func68, Try.ntmps68
      go_wp2_with fail
      refine (HC.out _).mono ?_
      rintro e w5 ⟨rfl, hb⟩
      have HP := hide (below_on HA.out hb)
      clear hb
      go_wp2_with fail
      go_ret
      exact ⟨rfl, HP.out⟩
    | false =>
      go_enter Try.func68, Try.ntmps68
      go_wp2_with fail
      refine (HC.out _).mono ?_
      rintro e w5 ⟨rfl, hb⟩
      have HP := hide (below_on HA.out hb)
      have hq := (hb.block _ (lt_of_heap HB.out)).trans HB.out
      have z0 := cell_of hq (i := 0) rfl; have z1 := cell_of hq (i := 1) rfl; have z2 := cell_of hq (i := 2) rfl; have z3 := cell_of hq (i := 3) rfl; have z4 := cell_of hq (i := 4) rfl; have z5 := cell_of hq (i := 5) rfl; have z6 := cell_of hq (i := 6) rfl
      clear hb hq
      go_wp2_with fail
      refine (HY.out _).mono ?_
      rintro e w6 ⟨rfl, hb⟩
      have HP2 := hide (below_on HP.out hb)
      clear hb
      go_wp2_with fail
      go_ret
      exact ⟨by simp, HP2.out⟩
end Go.Proofs.Ytfoeljcgbfpknaa
