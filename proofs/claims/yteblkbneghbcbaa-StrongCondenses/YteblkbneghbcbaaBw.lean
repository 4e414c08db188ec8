/- slices.Backward of numbers. -/
import Derived.Test.YteblkbneghbcbaaRIter
namespace Go.Proofs.Yteblkbneghbcbaa
open Go.RowKit Go.Lib Go.Shelf
set_option linter.unusedVariables false
set_option linter.unusedSimpArgs false
attribute [local go_sem] Oper.semAt_some
def bwAt (L : List Int) (i : Nat) : Int × Int := (((L.length - 1 - i : Nat) : Int), at_ L (L.length - 1 - i))
def encB (x : Int × Int) : Array Value := #[.int .i64 x.1, .int .i64 x.2]
set_option maxRecDepth 100000 in
set_option maxHeartbeats 4000000 in
theorem back1_gives (T : Nat → Prop) (L : List Int) (m Bs : Nat) (ao : Option Addr) (c : Nat) (w : World) (hm : m = L.length) (hm2 : m ≤ 1048576) (hB : w.heap[Bs]? = some (.cells #[.slice ao m c] 22 (0, 0))) (hTB : ¬ T Bs) (hR : ∀ X, Chg T w X → RowAt .i64 X (.slice ao m c) L) :
    Gv T Try.prog 94 #[.pointer (some ⟨Bs, 0, none⟩)] encB (upto (bwAt L) m) w := by
  intro l J W hW hJ hY h0 n'
  have HB := hide (fun X (h : Chg T w X) => h.heap hB hTB)
  have HR := hide hR
  have HY := hide hY
  have HJ := hide hJ
  refine callsIn_of_wp Try.func94 rfl trivial ?_ rfl
  have hWc : Chg T w W := Chg.of_below hW
  have c1 := cell_of (HB.out W hWc) (i := 0) rfl
  have H0 := hide h0
  have HW := hide hWc
  have HM := hide hm
  clear hY hJ h0 hB hW hWc hR hm
  simp only [Try.ntmps94, List.size_toArray, List.length_cons, List.length_nil, Nat.reduceAdd, Nat.reduceSub, Array.replicate_succ, Array.replicate_zero, List.push_toArray, List.append_toArray, List.nil_append, List.cons_append]
  gi_wp2
  gi_loopw [3] (fun t wr => ∃ i : Nat, t = .int .i64 ((m : Int) - 1 - (i : Int)) ∧ i ≤ m ∧ J (upto (bwAt L) i) wr ∧ Chg T w wr) (fun t _ => (RowKit.intOf t + 1).toNat)
  case atStart => exact ⟨0, by simp, Nat.zero_le _, H0.out, HW.out⟩
  case round =>
    obtain ⟨i, rfl, him, hj, hbr⟩ := hrel
    clear c1
    have c1 := cell_of (HB.out wr hbr) (i := 0) rfl
    by_cases hlt : i < m
    · obtain ⟨j, hj2⟩ : ∃ j : Nat, j = m - 1 - i := ⟨_, rfl⟩
      obtain ⟨ga, oa, ca, he, hca, d2⟩ := (HR.out wr hbr).cellAt j (by have := HM.out; omega)
      simp only [Value.slice.injEq, true_and] at he
      obtain ⟨rfl, hq7, rfl⟩ := he
      have hji : (m : Int) - 1 - (i : Int) = (j : Int) := by omega
      have hjm : j < m := by omega
      rw [hji]
      obtain ⟨fn, tmps, assign, body, hy, hR⟩ := HY.out (upto (bwAt L) i) (bwAt L i) wr hj (by rw [← upto_succ]; exact upto_pre _ hlt)
      rw [← upto_succ] at hR
      simp only [encB, bwAt] at hy
      rw [← HM.out, ← hj2] at hy
      have HR1 := hide hR
      have HBR := hide hbr
      obtain ⟨x, hx⟩ : ∃ x, x = at_ L j := ⟨_, rfl⟩
      rw [← hx] at hy d2
      have HJI := hide hji
      clear hR hj hbr hx hca hq7 hj2 hji
      gi_wp2_with (refine ⟨(fun h => by simp [Fence.wide] at h), (round_any HR1.out _).mono ?_⟩; rintro e W' ⟨rfl, hj', hb'⟩; have HJ' := hide hj'; have HB' := hide hb'; clear hj' hb' hy HR1 d2 c1)
      all_goals exact ⟨⟨i + 1, by have := HJI.out; simp; omega, by omega, HJ'.out, HBR.out.trans HB'.out⟩, by simp [RowKit.intOf]⟩
    · obtain rfl : i = m := by omega
      have HJ2 := hide hj
      clear hj
      gi_wp2
      go_end0
      exact ⟨⟨_, rfl⟩, HJ2.out⟩
set_option maxRecDepth 100000 in
theorem back_any (n' : Nat) (ao : Option Addr) (m c : Nat) (w : World) : CallsIn Fence.wide n' Try.prog 63 #[.slice ao m c] w fun e w' => e = .returned (.func (.func 94) #[] #[.pointer (some ⟨w.heap.size, 0, none⟩)]) ∧ w' = w.alloc (.cells #[.slice ao m c] 22) := by
  refine callsIn_of_wp Try.func63 rfl trivial ?_ rfl
  simp only [Try.ntmps63, List.size_toArray, List.length_cons, List.length_nil, Nat.reduceAdd, Nat.reduceSub, Array.replicate_succ, Array.replicate_zero, List.push_toArray, List.append_toArray, List.nil_append, List.cons_append]
  gi_wp2
  go_ret
  exact ⟨rfl, rfl⟩
end Go.Proofs.Yteblkbneghbcbaa
