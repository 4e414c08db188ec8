/- Edges that come in; slices.Values of them: its function gives them in order. -/
import Derived.Test.YtmagigmcbegmiaaGA1
namespace Go.Proofs.Ytmagigmcbegmiaa
open Go.RowKit Go.Lib Go.Shelf
set_option linter.unusedVariables false
attribute [local go_sem] Oper.semAt_some
/-- An edge: from, to, weight. -/
abbrev Ed3 : Type := Int × Int × Int
def eAt (l : List Ed3) (i : Nat) : Ed3 := l[i]?.getD (0, 0, 0)
def EAt (w : World) (v : Value) (l : List Ed3) : Prop :=
  ∃ ao c, v = .slice ao l.length c ∧ l.length ≤ c ∧ c ≤ 9223372036854775807 ∧
    ∀ i, i < l.length → ∃ g o, ao = some ⟨g, o, none⟩ ∧ w.cell? ⟨g, o + i * 3, none⟩ = some (.int .i64 (eAt l i).1) ∧ w.cell? ⟨g, o + i * 3 + 1, none⟩ = some (.int .i64 (eAt l i).2.1) ∧ w.cell? ⟨g, o + i * 3 + 2, none⟩ = some (.int .u64 (eAt l i).2.2)
theorem EAt.below {w w' : World} {v : Value} {l : List Ed3} (h : EAt w v l) (hb : Below w.heap.size w w') : EAt w' v l := by
  obtain ⟨ao, c, rfl, h1, h2, h3⟩ := h
  refine ⟨ao, c, rfl, h1, h2, fun i hi => ?_⟩
  obtain ⟨g, o, he, p, q, r⟩ := h3 i hi
  have hl : g < w.heap.size := block_of_cell p
  exact ⟨g, o, he, (below_cell hb hl).trans p, (below_cell hb hl).trans q, (below_cell hb hl).trans r⟩
theorem EAt.cellAt {w : World} {ao : Option Addr} {c : Nat} {l : List Ed3} (h : EAt w (.slice ao l.length c) l) {i : Nat} (hi : i < l.length) :
    ∃ g o, ao = some ⟨g, o, none⟩ ∧ g < w.heap.size ∧ w.cell? ⟨g, o + i * 3, none⟩ = some (.int .i64 (eAt l i).1) ∧ w.cell? ⟨g, o + i * 3 + 1, none⟩ = some (.int .i64 (eAt l i).2.1) ∧ w.cell? ⟨g, o + i * 3 + 2, none⟩ = some (.int .u64 (eAt l i).2.2) := by
  obtain ⟨ao', c', he, _, _, h3⟩ := h
  simp only [Value.slice.injEq, true_and] at he
  obtain ⟨rfl, rfl⟩ := he
  obtain ⟨g, o, e, p, q, r⟩ := h3 i hi
  exact ⟨g, o, e, block_of_cell p, p, q, r⟩
theorem upto_eAt (l : List Ed3) : upto (eAt l) l.length = l := by
  apply List.ext_getElem?
  intro i
  rcases Nat.lt_or_ge i l.length with h | h
  · simp [upto, eAt, h]
  · rw [List.getElem?_eq_none (by rw [upto_len]; exact h), List.getElem?_eq_none h]
theorem values_any (n' : Nat) (ao : Option Addr) (k c : Nat) (w : World) : CallsIn Fence.wide n' Try.prog 62 #[.slice ao k c] w fun e w' => e = .returned (.func (.func 88) #[] #[.pointer (some ⟨w.heap.size, 0, none⟩)]) ∧ w' = w.alloc (.cells #[.slice ao k c] 45) := by
  refine callsIn_of_wp Try.func62 rfl trivial ?_ rfl
  simp only [Try.ntmps62, List.size_toArray, List.length_cons, List.length_nil, Nat.reduceAdd, Nat.reduceSub, Array.replicate_succ, Array.replicate_zero, List.push_toArray, List.append_toArray, List.nil_append, List.cons_append]
  gi_wp2
  go_ret
  exact ⟨rfl, rfl⟩
set_option maxRecDepth 100000 in
set_option maxHeartbeats 4000000 in
theorem values1_gives (T : Nat → Prop) (ao : Option Addr) (c Bs : Nat) (l : List Ed3) (w0 w : World) (hl : l.length ≤ 4194304) (he : EAt w0 (.slice ao l.length c) l) (hb : Below w0.heap.size w0 w) (hT : ∀ k, T k → w0.heap.size ≤ k ∧ k ≠ Bs)
    (hB : w.heap[Bs]? = some (.cells #[.slice ao l.length c] 45 (0, 0))) :
    Gv T Try.prog 88 #[.pointer (some ⟨Bs, 0, none⟩)] encE (upto (eAt l) l.length) w := by
  intro lp J W hW hJ hY h0 n'
  obtain ⟨m, hm⟩ : ∃ m, m = l.length := ⟨_, rfl⟩
  have low : ∀ X, Chg T w X → Below w0.heap.size w0 X := fun X hX => Chg.below hb hX (fun i hi => (hT i hi).1) hb.size
  have key : ∀ X, Chg T w X → X.heap[Bs]? = some (.cells #[.slice ao l.length c] 45 (0, 0)) := fun X hX => hX.heap hB (fun h => (hT _ h).2 rfl)
  have HK := hide key
  have HE := hide (fun W (h : Chg T w W) i (hi : i < l.length) => (he.below (low W h)).cellAt hi)
  have HY := hide hY
  have HJ := hide hJ
  refine callsIn_of_wp Try.func88 rfl trivial ?_ rfl
  have hWc : Chg T w W := Chg.of_below hW
  have k1 := key W hWc
  have c1 := cell_of k1 (i := 0) rfl
  have H0 := hide h0
  have HW := hide hWc
  rw [← hm] at c1 ⊢
  rw [← hm] at hl
  have HM := hide hm
  clear key low hY hJ he h0 k1 hB hT hb hW hWc hm
  simp only [Try.ntmps88, List.size_toArray, List.length_cons, List.length_nil, Nat.reduceAdd, Nat.reduceSub, Array.replicate_succ, Array.replicate_zero, List.push_toArray, List.append_toArray, List.nil_append, List.cons_append]
  gi_wp2
  gi_loopw [7] (fun t wr => ∃ i : Nat, t = .int .i64 (i : Int) ∧ i ≤ m ∧ J (upto (eAt l) i) wr ∧ Chg T w wr) (fun t _ => m - (RowKit.intOf t).toNat)
  case atStart => exact ⟨0, rfl, Nat.zero_le _, H0.out, HW.out⟩
  case round =>
    obtain ⟨i, rfl, him, hj, hbr⟩ := hrel
    by_cases hlt : i < m
    · obtain ⟨g, o, rfl, hgl, d1, d2, d3⟩ := HE.out wr hbr i (by rw [← HM.out]; exact hlt)
      obtain ⟨fn, tmps, assign, body, hy, hR⟩ := HY.out (upto (eAt l) i) (eAt l i) (wr.alloc (.cells #[.int .i64 (eAt l i).1, .int .i64 (eAt l i).2.1, .int .u64 (eAt l i).2.2] 50)) (HJ.out.alloc _ hj) (by rw [← upto_succ]; exact upto_pre _ (by rw [← HM.out]; exact hlt))
      rw [← upto_succ] at hR
      simp only [encE] at hy
      have HBR := hide hbr
      obtain ⟨x, hx⟩ : ∃ x, x = (eAt l i).1 := ⟨_, rfl⟩
      obtain ⟨y, hyy⟩ : ∃ y, y = (eAt l i).2.1 := ⟨_, rfl⟩
      obtain ⟨z, hz⟩ : ∃ z, z = (eAt l i).2.2 := ⟨_, rfl⟩
      rw [← hx, ← hyy, ← hz] at hy hR
      have HR := hide hR
      rw [← hx] at d1
      rw [← hyy] at d2
      rw [← hz] at d3
      have hli : (i : Int) < (m : Int) := by omega
      have hin : i < 10000000 := by omega
      clear hR hj hbr hx hyy hz c1
      gi_wp2
      refine ⟨(fun h => by simp [Fence.wide] at h), (round_any HR.out _).mono ?_⟩
      rintro e W' ⟨rfl, hj', hb'⟩
      have HJ' := hide hj'
      have HB' := hide hb'
      clear hj' hb' hy HR d1 d2 d3
      dsimp only
      go_at_K
      gi_wp2
      exact ⟨⟨i + 1, by simp, by omega, HJ'.out, (HBR.out.alloc _).trans HB'.out⟩, by simp [RowKit.intOf]; omega⟩
    · obtain rfl : i = m := by omega
      have HJ2 := hide hj
      clear hj
      gi_wp2
      go_end0
      exact ⟨⟨_, rfl⟩, HJ2.out⟩
end Go.Proofs.Ytmagigmcbegmiaa
