/- IndexFunc over the entries. -/
import Derived.Test.YtacmlilcamkndaaEn
namespace Go.Proofs.Ytacmlilcamkndaa
open Go.RowKit Go.Lib
set_option linter.unusedVariables false
set_option linter.unusedSimpArgs false
set_option maxRecDepth 100000 in
set_option maxHeartbeats 2000000 in
theorem has_any (x y : Int) (w : World) :
    Calls Try.prog 34 #[.agg #[.int .i64 x, .int .i64 y]] w fun e w' => e = .returned (.bool (!decide (y = -1))) ∧ Below w.heap.size w w' := by
  have hbox := heap_new w (.cells #[.int .i64 x, .int .i64 y] 61)
  have c1 := cell_of hbox (i := 1) rfl
  have HB : Hid (Below w.heap.size w (w.alloc (.cells #[.int .i64 x, .int .i64 y] 61))) := below_alloc (Below.refl _ _) _
  clear hbox
  go_enter Try.func34, Try.ntmps34
  go_wp2_with fail
  go_ret
  refine ⟨?_, HB.out⟩
  show Ending.returned (Value.bool (y != -1)) = _
  by_cases h : y = -1 <;> simp [h]
set_option maxRecDepth 100000 in
set_option maxHeartbeats 4000000 in
theorem index_any (n E : Nat) (fr pl : Nat → Int) (w : World) (hn : (n : Int) ≤ 1048576) (he : E2 w E (ent n fr pl)) (hx : ∃ v, v < n ∧ pl v ≠ -1) :
    Calls Try.prog 33 #[.slice (some ⟨E, 0, none⟩) n n, fnv 34] w fun e w' => ∃ v : Nat, e = .returned (.int .i64 v) ∧ v < n ∧ pl v ≠ -1 ∧ Below w.heap.size w w' := by
  have HE := hide he; have HX := hide hx; have HN := hide hn
  have HH := hide (fun a b v => has_any a b v)
  clear he hx
  unfold fnv
  go_enter Try.func33, Try.ntmps33
  go_wp2_with fail
  go_loopw [8] (fun t wr => ∃ k : Nat, k ≤ n ∧ t = .int .i64 k ∧ (∀ v, v < k → pl v = -1) ∧ Below w.heap.size w wr) (fun t _ => n - (RowKit.intOf t).toNat)
  case atStart => exact ⟨0, Nat.zero_le _, rfl, fun v hv => by omega, Below.refl _ _⟩
  case round =>
    obtain ⟨k, hk, rfl, hno, hb⟩ := hrel
    have HNO := hide hno; have HB := hide hb
    clear hno hb
    by_cases hlt : k < n
    · have he2 : E2 wr E (ent n fr pl) := (HB.out.block _ (lt_of_heap HE.out)).trans HE.out
      have y0 := he2.cell (k * 2) (by rw [ent_len]; omega)
      have y1 := he2.cell (k * 2 + 1) (by rw [ent_len]; omega)
      rw [ent_fr _ _ hlt] at y0
      rw [ent_pl _ _ hlt] at y1
      have HC := hide (HH.out (fr k) (pl k) wr)
      generalize fr k = x at y0 HC
      obtain ⟨y, hy⟩ : ∃ y, y = pl k := ⟨_, rfl⟩
      have HY := hide hy
      rw [← hy] at y1 HC
      clear he2 hy
      go_wp2_with fail
      refine HC.out.mono ?_
      rintro e w2 ⟨rfl, hb2⟩
      have HB2 := hide (below_on HB.out hb2)
      clear hb2
      by_cases hc : y = -1
      · have hcd : (!decide (y = -1)) = false := by simp [hc]
        rw [hcd]
        clear hcd
        go_wp2_with fail
        go_roundw
        case rel => exact ⟨k + 1, Nat.succ_le_of_lt hlt, by go_num, fun v hv => by
          by_cases e : v = k
          · subst e; have := HY.out; omega
          · exact HNO.out v (by omega), HB2.out⟩
        case measure => exact mdec hlt
      · have hcd : (!decide (y = -1)) = true := by simp [hc]
        rw [hcd]
        clear hcd
        go_wp2_with fail
        go_ret
        exact ⟨k, rfl, hlt, by have := HY.out; omega, HB2.out⟩
    · exfalso
      obtain ⟨v, h1, h2⟩ := HX.out
      exact h2 (HNO.out v (by omega))
end Go.Proofs.Ytacmlilcamkndaa
