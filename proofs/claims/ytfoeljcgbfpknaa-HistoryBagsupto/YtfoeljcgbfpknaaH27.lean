/- Copies of spans and of ints are as they were. -/
import Derived.Test.YtfoeljcgbfpknaaH23
import Derived.Test.YtfoeljcgbfpknaaH1
import Derived.BigQuiet
namespace Go.Proofs.Ytfoeljcgbfpknaa
open Go.RowKit Go.Lib
set_option linter.unusedVariables false
set_option linter.unusedSimpArgs false
theorem iat_cell {w : World} {ao : Option Addr} {n cap : Nat} {l : List Int} (h : RAt iA 1 w (.slice ao n cap) l) (i : Nat) (hi : i < l.length) : ∃ g o, ao = some ⟨g, o, none⟩ ∧ g < w.heap.size ∧ w.cell? ⟨g, o + i, none⟩ = some (.int .i64 (at_ l i)) := by
  obtain ⟨g, o, h1, h2, h3⟩ := h.at i hi
  have e : at_ l i = l[i] := by simp [at_, hi]
  have := h3 0 (.int .i64 l[i]) rfl
  rw [Nat.mul_one, Nat.add_zero, ← e] at this
  exact ⟨g, o, h1, h2, this⟩
set_option maxRecDepth 100000 in
set_option maxHeartbeats 2000000 in
theorem spansKept_any (v : Value) (l : List Sp) (fr g c : Nat) (w : World) (h : RAt Sp.arr 7 w v l) (hm : RM Sp.arr 7 69 (mkS 71) (mkS 72) w fr g c l) (hl : l.length ≤ 2513169434880) : Calls Try.prog 13 #[.slice (some ⟨g, 0, none⟩) l.length c, v] w fun x w' => x = .returned (.bool true) ∧ Below w.heap.size w w' := by
  obtain ⟨ao, cap, rfl, hcap, h63⟩ := h.shape
  obtain ⟨hc1, hc2, hc3, hc4⟩ := hm.cap
  have H := hide h
  have HM := hide hm
  have HRA := hide (hm.rat Sp.size)
  have HMK := hide (hm.mark Sp.size 0 (.int .i64 71) (.int .i64 72) rfl rfl)
  obtain ⟨n, hn⟩ : ∃ n, n = l.length := ⟨_, rfl⟩
  have HN := hide hn
  rw [← hn] at hcap H hl hc1 HMK HRA ⊢
  have hn2 : ((n : Int) + 2) ≤ (c : Int) := by omega
  have hn3 : ((n : Int) + 2).toNat = n + 2 := by omega
  have hn4 : (0 : Int) ≤ (n : Int) + 2 := by omega
  clear h hn hm
  go_enter Try.func13, Try.ntmps13
  go_wp2_with fail
  go_loopw [6] (fun t wr => ∃ i : Nat, i ≤ n ∧ t = .int .i64 (i : Int) ∧ Below w.heap.size w wr) (fun t _ => n - (RowKit.intOf t).toNat)
  case atStart => exact ⟨0, Nat.zero_le _, rfl, Below.refl _ _⟩
  case round =>
    obtain ⟨i, hin, rfl, hb⟩ := hrel
    have HB := hide hb
    clear hb
    by_cases hlt : i < n
    · have hli : (i : Int) < (n : Int) := by omega
      obtain ⟨gs, os, rfl, hgs, p0, p1, p2, p3, p4, p5, p6⟩ := sp_cells (H.out.below HB.out) i (by rw [← HN.out]; exact hlt)
      obtain ⟨gq, oq, e, hgq, q0, q1, q2, q3, q4, q5, q6⟩ := sp_cells (HRA.out.below HB.out) i (by rw [← HN.out]; exact hlt)
      simp only [Option.some.injEq, Addr.mk.injEq, and_true] at e
      obtain ⟨rfl, rfl⟩ := e
      simp only [Nat.zero_add] at q0 q1 q2 q3 q4 q5 q6
      generalize spAt l i = s at p0 p1 p2 p3 p4 p5 p6 q0 q1 q2 q3 q4 q5 q6
      obtain ⟨who, ins, key, load, beg, en, kind⟩ := s
      simp only at p0 p1 p2 p3 p4 p5 p6 q0 q1 q2 q3 q4 q5 q6
      have heq := fun W => neq_span who ins key load beg en kind W
      have hi2 : (i : Int) < (n : Int) + 2 := by omega
      have hi3 : i < n + 2 := by omega
      go_wp2_with fail
      go_quiet (fail)
      go_wp2_with fail
      exact ⟨⟨i + 1, by omega, by simp, below_on HB.out (below_drewN _ _)⟩, by simp [RowKit.intOf]; omega⟩
    · obtain rfl : n = i := by omega
      obtain ⟨m1, m2⟩ := HMK.out
      have q1 := (below_cell HB.out hc4).trans m1
      have q2 := (below_cell HB.out hc4).trans m2
      rw [Nat.add_zero] at q1 q2
      clear m1 m2
      go_wp2_with fail
      go_ret
      exact ⟨rfl, HB.out⟩
set_option maxRecDepth 100000 in
set_option maxHeartbeats 2000000 in
theorem intsKept_any (v : Value) (l : List Int) (fr g c : Nat) (w : World) (h : RAt iA 1 w v l) (hm : RM iA 1 3 71 72 w fr g c l) (hl : l.length ≤ 17592186044400) : Calls Try.prog 14 #[.slice (some ⟨g, 0, none⟩) l.length c, v] w fun x w' => x = .returned (.bool true) ∧ Below w.heap.size w w' := by
  obtain ⟨ao, cap, rfl, hcap, h63⟩ := h.shape
  obtain ⟨hc1, hc2, hc3, hc4⟩ := hm.cap
  have H := hide h
  have HM := hide hm
  have HRA := hide (hm.rat iA_size)
  have HMK := hide (hm.mark iA_size 0 (.int .i64 71) (.int .i64 72) rfl rfl)
  obtain ⟨n, hn⟩ : ∃ n, n = l.length := ⟨_, rfl⟩
  have HN := hide hn
  rw [← hn] at hcap H hl hc1 HMK HRA ⊢
  have hn2 : ((n : Int) + 2) ≤ (c : Int) := by omega
  have hn3 : ((n : Int) + 2).toNat = n + 2 := by omega
  have hn4 : (0 : Int) ≤ (n : Int) + 2 := by omega
  clear h hn hm
  go_enter Try.func14, Try.ntmps14
  go_wp2_with fail
  go_loopw [6] (fun t wr => ∃ i : Nat, i ≤ n ∧ t = .int .i64 (i : Int) ∧ Below w.heap.size w wr) (fun t _ => n - (RowKit.intOf t).toNat)
  case atStart => exact ⟨0, Nat.zero_le _, rfl, Below.refl _ _⟩
  case round =>
    obtain ⟨i, hin, rfl, hb⟩ := hrel
    have HB := hide hb
    clear hb
    by_cases hlt : i < n
    · have hli : (i : Int) < (n : Int) := by omega
      obtain ⟨gs, os, rfl, hgs, p0⟩ := iat_cell (H.out.below HB.out) i (by rw [← HN.out]; exact hlt)
      obtain ⟨gq, oq, e, hgq, q0⟩ := iat_cell (HRA.out.below HB.out) i (by rw [← HN.out]; exact hlt)
      simp only [Option.some.injEq, Addr.mk.injEq, and_true] at e
      obtain ⟨rfl, rfl⟩ := e
      simp only [Nat.zero_add] at q0
      generalize at_ l i = s at p0 q0
      have hi2 : (i : Int) < (n : Int) + 2 := by omega
      have hi3 : i < n + 2 := by omega
      go_wp2_with fail
      go_quiet (fail)
      go_wp2_with fail
      exact ⟨⟨i + 1, by omega, by simp, below_on HB.out (below_drewN _ _)⟩, by simp [RowKit.intOf]; omega⟩
    · obtain rfl : n = i := by omega
      obtain ⟨m1, m2⟩ := HMK.out
      have q1 := (below_cell HB.out hc4).trans m1
      have q2 := (below_cell HB.out hc4).trans m2
      rw [Nat.add_zero, Nat.mul_one] at q1 q2
      clear m1 m2
      go_wp2_with fail
      go_ret
      exact ⟨rfl, HB.out⟩
end Go.Proofs.Ytfoeljcgbfpknaa
