/- slices.ContainsFunc of vertices that are none. -/
import Derived.Test.YtmagigmcbegmiaaReachM
import Derived.Test.YtmagigmcbegmiaaRows1
namespace Go.Proofs.Ytmagigmcbegmiaa
open Go.RowKit Go.Lib
set_option linter.unusedVariables false
set_option maxRecDepth 100000 in
theorem notV_any (N v : Int) (va vb vc : Value) (Bg : Nat) (w : World) (hB : w.heap[Bg]? = some (.cells #[.int .i64 N, va, vb, vc] 25 (0, 0))) :
    Calls Try.prog 48 #[.int .i64 v, .pointer (some ⟨Bg, 0, none⟩)] w fun e w' => e = .returned (.bool (!decide (IsV N v))) ∧ w' = w := by
  have c0 := cell_of hB (i := 0) rfl
  clear hB
  go_enter Try.func48, Try.ntmps48
  go_wp2_with fail
  refine (isV_any N v _).mono ?_
  rintro e w2 ⟨rfl, rfl⟩
  go_wp2
  go_ret
  exact ⟨rfl, rfl⟩
/-- The first that is no vertex. -/
def badAt (N : Int) (fr : List Int) : Option Nat := first (fun i => !decide (IsV N (at_ fr i))) fr.length
def badIx (N : Int) (fr : List Int) : Int := match badAt N fr with | some i => (i : Int) | none => -1
set_option maxRecDepth 100000 in
set_option maxHeartbeats 4000000 in
theorem index_any (N : Int) (va vb vc : Value) (Bg : Nat) (fv : Value) (fr : List Int) (w : World) (hB : w.heap[Bg]? = some (.cells #[.int .i64 N, va, vb, vc] 25 (0, 0))) (hf : RowAt .i64 w fv fr) (hfl : fr.length * 8 ≤ 140737488351232) :
    Calls Try.prog 83 #[fv, .func (.func 48) #[] #[.pointer (some ⟨Bg, 0, none⟩)]] w fun e w' => e = .returned (.int .i64 (badIx N fr)) ∧ Below w.heap.size w w' := by
  obtain ⟨fo, fc, rfl⟩ := hf.shape
  have HNV := hide (fun v W h => notV_any N v va vb vc Bg W h)
  have HF := hide hf
  have HB := hide hB
  obtain ⟨L, hL⟩ : ∃ L, L = fr.length := ⟨_, rfl⟩
  have HC := hide (fun i (hi : i < fr.length) => hf.cellAt i hi)
  have HS : Hid (∀ i, i < L → (∀ j, j < i → IsV N (at_ fr j)) → ¬ IsV N (at_ fr i) → badIx N fr = (i : Int)) := fun i hi h1 h2 => by
    unfold badIx badAt
    rw [first_some (i := i) (p := fun i => !decide (IsV N (at_ fr i))) (by omega) (by simp [h2]) (fun j hj => by simp [h1 j hj])]
  have HN : Hid ((∀ j, j < L → IsV N (at_ fr j)) → badIx N fr = -1) := fun h => by
    unfold badIx badAt
    rw [first_none (p := fun i => !decide (IsV N (at_ fr i))) fun j hj => by simp [h j (by omega)]]
  rw [← hL] at HC hfl ⊢
  clear hf hB hL
  go_enter Try.func83, Try.ntmps83
  go_wp2
  go_loopw [8] (fun t wr => ∃ i : Nat, i ≤ L ∧ t = .int .i64 i ∧ (∀ j, j < i → IsV N (at_ fr j)) ∧ wr = w) (fun t _ => L - (RowKit.intOf t).toNat)
  case atStart => exact ⟨0, by omega, rfl, fun j hj => by omega, rfl⟩
  case round =>
    obtain ⟨i, hiL, rfl, hall, rfl⟩ := hrel
    have HALL := hide hall
    clear hall
    by_cases hlt : i < L
    · obtain ⟨g, o, c, hs, hc, d⟩ := HC.out i hlt
      simp only [Value.slice.injEq, true_and] at hs
      obtain ⟨rfl, rfl⟩ := hs
      obtain ⟨x, hx⟩ : ∃ x, x = at_ fr i := ⟨_, rfl⟩
      have HX := hide hx
      rw [← hx] at d
      clear hx hc
      have hli : (i : Int) < (L : Int) := by omega
      have HNW := hide (HNV.out x wr HB.out)
      by_cases hv : IsV N x
      · rw [decide_eq_true hv] at HNW
        have HV := hide hv
        clear hv
        go_wp2_with fail
        refine HNW.out.mono ?_
        rintro e w2 ⟨rfl, rfl⟩
        go_wp2
        go_roundw
        case rel =>
          refine ⟨i + 1, by omega, by simp, fun j hj => ?_, by trivial⟩
          rcases Nat.lt_or_ge j i with h | h
          · exact HALL.out j h
          · obtain rfl : j = i := by omega
            rw [← HX.out]; exact HV.out
        case measure => simp [RowKit.intOf]; omega
      · rw [decide_eq_false hv] at HNW
        have HE := hide (HS.out i hlt HALL.out (by rw [← HX.out]; exact hv))
        clear hv
        go_wp2_with fail
        refine HNW.out.mono ?_
        rintro e w2 ⟨rfl, rfl⟩
        go_wp2
        go_ret
        exact ⟨by rw [HE.out]; rfl, Below.refl _ _⟩
    · obtain rfl : i = L := by omega
      have HE := hide (HN.out HALL.out)
      go_wp2
      go_ret
      exact ⟨by rw [HE.out]; rfl, Below.refl _ _⟩
theorem badIx_neg {N : Int} {fr : List Int} : badIx N fr < 0 ↔ ∀ i, i < fr.length → IsV N (at_ fr i) := by
  unfold badIx badAt
  rcases hf : first (fun i => !decide (IsV N (at_ fr i))) fr.length with _ | i
  · refine ⟨fun _ i hi => ?_, fun _ => by decide⟩
    have := first_none_of hf i hi
    simpa using this
  · have h1 := first_of_some hf
    refine ⟨fun h => by simp at h; omega, fun h => ?_⟩
    have := h i h1.1
    simp [this] at h1
set_option maxRecDepth 100000 in
theorem contains_any (N : Int) (va vb vc : Value) (Bg : Nat) (fv : Value) (fr : List Int) (w : World) (hB : w.heap[Bg]? = some (.cells #[.int .i64 N, va, vb, vc] 25 (0, 0))) (hf : RowAt .i64 w fv fr) (hfl : fr.length * 8 ≤ 140737488351232) :
    Calls Try.prog 47 #[fv, .func (.func 48) #[] #[.pointer (some ⟨Bg, 0, none⟩)]] w fun e w' => e = .returned (.bool (decide (0 ≤ badIx N fr))) ∧ Below w.heap.size w w' := by
  obtain ⟨fo, fc, rfl⟩ := hf.shape
  have HI := hide (index_any N va vb vc Bg _ fr w hB hf hfl)
  clear hB hf
  go_enter Try.func47, Try.ntmps47
  go_wp2_with fail
  refine HI.out.mono ?_
  rintro e w2 ⟨rfl, hb⟩
  have HB := hide hb
  clear hb HI
  go_wp2
  go_ret
  exact ⟨by simp, HB.out⟩
end Go.Proofs.Ytmagigmcbegmiaa
