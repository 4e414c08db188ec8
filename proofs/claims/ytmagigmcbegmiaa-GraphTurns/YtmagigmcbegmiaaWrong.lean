/- wrongRow. -/
import Derived.Test.YtmagigmcbegmiaaRows1
namespace Go.Proofs.Ytmagigmcbegmiaa
open Go.RowKit Go.Lib

def rowsNo (N m : Nat) (st : List Int) : Int := match chkRows N m st with | some i => i | none => -1
theorem rowsNo_some {N m i : Nat} {st : List Int} (hi : i < N + 1) (hb : BadRow N m st i) (h : ∀ j, j < i → ¬ BadRow N m st j) : rowsNo N m st = i := by
  unfold rowsNo chkRows
  rw [first_some (p := badRow N m st) hi (decide_eq_true hb) (fun j hj => decide_eq_false (h j hj))]
theorem rowsNo_none {N m : Nat} {st : List Int} (h : ∀ j, j < N + 1 → ¬ BadRow N m st j) : rowsNo N m st = -1 := by
  unfold rowsNo chkRows
  rw [first_none (p := badRow N m st) (fun j hj => decide_eq_false (h j hj))]

set_option maxRecDepth 100000 in
set_option maxHeartbeats 2000000 in
theorem wrong_any (N m : Nat) (va vc : Value) (bo : Option Addr) (cb : Nat) (st : List Int) (w : World) (ha : RowAt .i64 w va st) (hst : st.length = N + 1) (hN : N ≤ 1048576) (hm : m ≤ 4194304) :
    Calls Try.prog 44 #[.agg #[.int .i64 N, va, .slice bo m cb, vc]] w fun e w' => e = .returned (.int .i64 (rowsNo N m st)) ∧ Below w.heap.size w w' := by
  obtain ⟨g, o, c, rfl, hc, hcm, hcell⟩ := ha.spot (by intro e; rw [e] at hst; simp at hst)
  rw [hst] at hcell hc ⊢
  have HC := hide hcell
  have hgs : g < w.heap.size := block_of_cell (hcell 0 (by omega))
  have HY := hide (fun i => @rowsNo_some N m i st)
  have HN := hide (@rowsNo_none N m st)
  obtain ⟨R, hR⟩ : ∃ R, R = rowsNo N m st := ⟨_, rfl⟩
  rw [← hR] at HN HY ⊢
  have HR := hide hR
  clear hcell ha hst hR
  go_enter Try.func44, Try.ntmps44
  go_wp2
  have hal : Below w.heap.size w (w.alloc (.cells #[.int .i64 N, .slice (some ⟨g, o, none⟩) (N + 1) c, .slice bo m cb, vc] 25)) := (Below.refl _ _).alloc (Nat.le_refl _) _
  have hbk : (w.alloc (.cells #[.int .i64 N, .slice (some ⟨g, o, none⟩) (N + 1) c, .slice bo m cb, vc] 25)).heap[w.heap.size]? = some (.cells #[.int .i64 N, .slice (some ⟨g, o, none⟩) (N + 1) c, .slice bo m cb, vc] 25 (0, 0)) := heap_new _ _
  have c0 := cell_of hbk (i := 0) rfl
  have c1 := cell_of hbk (i := 1) rfl
  have c2 := cell_of hbk (i := 2) rfl
  have HC1 : Hid (∀ i, i < N + 1 → (w.alloc (.cells #[.int .i64 N, .slice (some ⟨g, o, none⟩) (N + 1) c, .slice bo m cb, vc] 25)).cell? ⟨g, o + i, none⟩ = some (.int .i64 (at_ st i))) := fun i hi => Lib.cell?_alloc_some _ (HC.out i hi)
  have HAL := hide hal
  generalize (w.alloc (.cells #[.int .i64 N, .slice (some ⟨g, o, none⟩) (N + 1) c, .slice bo m cb, vc] 25)) = w1 at c0 c1 c2 HC1 HAL ⊢
  clear hal hbk HC
  go_region
  all_goals
    go_wp2
    go_loopw [15, 3] (fun t y wr => ∃ i : Nat, i ≤ N + 1 ∧ t = .int .i64 i ∧ y = .int .i64 (ahead st i) ∧ 0 ≤ ahead st i ∧ (∃ k, wr = w1.drewN k) ∧ ∀ j, j < i → ¬ BadRow N m st j) (fun t _ _ => N + 1 - (RowKit.intOf t).toNat)
    case atStart => exact ⟨0, by omega, rfl, rfl, by simp [ahead], ⟨1, rfl⟩, fun j hj => by omega⟩
    case round =>
      obtain ⟨i, hi, rfl, rfl, h0, ⟨k, rfl⟩, hall⟩ := hrel
      by_cases hlt : i < N + 1
      · have d1 := HC1.out i hlt
        have HB : Hid (BadRow N m st i ↔ (at_ st i < ahead st i ∨ (m : Int) < at_ st i ∨ (i = 0 ∧ at_ st i ≠ 0) ∨ (i = N ∧ at_ st i ≠ m))) := Iff.rfl
        have HY2 := hide (fun hb => HY.out i hlt hb hall)
        have HAH : Hid (ahead st (i + 1) = at_ st i) := by unfold ahead; rw [if_neg (by omega)]; rfl
        have HALL := hide hall
        obtain ⟨x, hx⟩ : ∃ x, x = at_ st i := ⟨_, rfl⟩
        rw [← hx] at d1 HB HAH
        obtain ⟨y, hy⟩ : ∃ y, y = ahead st i := ⟨_, rfl⟩
        rw [← hy] at HB h0 ⊢
        clear hx hy hall
        by_cases hb : BadRow N m st i
        · have hb' := HB.out.1 hb
          have HRR := hide (HY2.out hb)
          clear hb
          go_wp2
          go_region
          all_goals
            go_wp2
            all_goals first
              | (exfalso; omega)
              | (exfalso; simp only [bne_eq_false_iff_eq, bne_iff_ne] at *; omega)
              | (go_ret
                 rw [HRR.out]
                 exact ⟨by first | rfl | (show Ending.returned (Value.int .i64 _) = _; congr 2; omega), below_drewN HAL.out _⟩)

        · have hb' : ¬ (x < y) ∧ ¬ ((m : Int) < x) ∧ ¬ (i = 0 ∧ x ≠ 0) ∧ ¬ (i = N ∧ x ≠ m) := by
            have h := fun h => hb (HB.out.2 h)
            refine ⟨fun q => h (.inl q), fun q => h (.inr (.inl q)), fun q => h (.inr (.inr (.inl q))), fun q => h (.inr (.inr (.inr q)))⟩
          have HBN := hide hb
          clear hb
          go_wp2
          go_region
          all_goals
            go_wp2
            all_goals first
              | (exfalso; omega)
              | (exfalso; simp only [bne_eq_false_iff_eq, bne_iff_ne] at *; omega)
              | (refine ⟨⟨i + 1, by omega, by congr 1 <;> omega, by first | (rw [HAH.out]; done) | (rw [HAH.out]; congr 1 <;> omega), by rw [HAH.out]; omega, ⟨k + 1, rfl⟩, fun j hj => ?_⟩, by simp [RowKit.intOf]; omega⟩
                 rcases Nat.lt_or_ge j i with h | h
                 · exact HALL.out j h
                 · obtain rfl : j = i := by omega
                   exact HBN.out)
      · go_wp2
        go_ret
        rw [HN.out (fun j hj => hall j (by omega))]
        exact ⟨rfl, below_drewN HAL.out _⟩
end Go.Proofs.Ytmagigmcbegmiaa
