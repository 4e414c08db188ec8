/- The reference: before 66; parts of a list of tasks. -/
import Derived.Test.YtajcoimeeohnoaaTo
import Derived.Test.YtajcoimeeohnoaaSoP
import Derived.Deep.RegionHeld3

namespace Go.Proofs.Ytajcoimeeohnoaa
open Go.RowKit Go.Lib
set_option linter.unusedVariables false
set_option linter.unusedSimpArgs false
set_option maxHeartbeats 1000000 in
theorem before_any (x0 x1 y0 y1 : Int) (W : World) : Calls Try.prog 66 #[.agg #[.int .u64 x0, .int .u64 x1], .agg #[.int .u64 y0, .int .u64 y1]] W fun e w' => e = .returned (.bool (tlt (x0, x1) (y0, y1))) ∧ Below W.heap.size W w' := by
  have HA := hide (heap_new W (.cells #[.int .u64 x0, .int .u64 x1] 34))
  have HB := hide (heap_new (W.alloc (.cells #[.int .u64 x0, .int .u64 x1] 34)) (.cells #[.int .u64 y0, .int .u64 y1] 34))
  have hb2 := below_alloc (Below.refl (W.alloc (.cells #[.int .u64 x0, .int .u64 x1] 34)).heap.size (W.alloc (.cells #[.int .u64 x0, .int .u64 x1] 34))) (.cells #[.int .u64 y0, .int .u64 y1] 34)
  have hA2 := (hb2.block W.heap.size (by simp)).trans HA.out
  have hs1 : (W.alloc (.cells #[.int .u64 x0, .int .u64 x1] 34)).heap.size = W.heap.size + 1 := by simp
  have hB2 := HB.out
  rw [hs1] at hB2
  have HBel := hide (below_alloc (below_alloc (Below.refl W.heap.size W) (.cells #[.int .u64 x0, .int .u64 x1] 34)) (.cells #[.int .u64 y0, .int .u64 y1] 34))
  by_cases h1 : x0 < y0
  · have ht : tlt (x0, x1) (y0, y1) = true := by rw [tlt_iff]; exact Or.inl h1
    rw [ht]
    clear ht
    go_enter Try.func66, Try.ntmps66
    go_wp2_with fail
    clear hb2 HA HB hs1
    generalize ((W.alloc (.cells #[.int .u64 x0, .int .u64 x1] 34)).alloc (.cells #[.int .u64 y0, .int .u64 y1] 34)) = W2 at hA2 hB2 HBel ⊢
    have c0 := cell_of (i := 0) hA2 rfl
    have c1 := cell_of (i := 1) hA2 rfl
    have c2 := cell_of (i := 0) hB2 rfl
    have c3 := cell_of (i := 1) hB2 rfl
    clear hA2 hB2
    go_wp2
    go_ret
    exact ⟨rfl, HBel.out⟩
  · by_cases h2 : x0 = y0
    · subst h2
      have ht : tlt (x0, x1) (x0, y1) = decide (x1 < y1) := by unfold tlt; simp
      rw [ht]
      clear ht h1
      go_enter Try.func66, Try.ntmps66
      go_wp2_with fail
      clear hb2 HA HB hs1
      generalize ((W.alloc (.cells #[.int .u64 x0, .int .u64 x1] 34)).alloc (.cells #[.int .u64 x0, .int .u64 y1] 34)) = W2 at hA2 hB2 HBel ⊢
      have c0 := cell_of (i := 0) hA2 rfl
      have c1 := cell_of (i := 1) hA2 rfl
      have c2 := cell_of (i := 0) hB2 rfl
      have c3 := cell_of (i := 1) hB2 rfl
      have h1 : ¬ x0 < x0 := by omega
      clear hA2 hB2
      go_wp2
      go_ret
      exact ⟨rfl, HBel.out⟩
    · have ht : tlt (x0, x1) (y0, y1) = false := by rw [tlt_niff]; simp; omega
      rw [ht]
      clear ht
      go_enter Try.func66, Try.ntmps66
      go_wp2_with fail
      clear hb2 HA HB hs1
      generalize ((W.alloc (.cells #[.int .u64 x0, .int .u64 x1] 34)).alloc (.cells #[.int .u64 y0, .int .u64 y1] 34)) = W2 at hA2 hB2 HBel ⊢
      have c0 := cell_of (i := 0) hA2 rfl
      have c1 := cell_of (i := 1) hA2 rfl
      have c2 := cell_of (i := 0) hB2 rfl
      have c3 := cell_of (i := 1) hB2 rfl
      clear hA2 hB2
      go_wp2
      go_ret
      exact ⟨rfl, HBel.out⟩
theorem TAt.take {w : World} {ao : Option Addr} {n c : Nat} {l : List Tk} (h : TAt w (.slice ao n c) l) (k : Nat) (hk : k ≤ l.length) : TAt w (.slice ao k c) (l.take k) := by
  obtain ⟨ao', c', he, h1, h2, h3⟩ := h
  simp only [Value.slice.injEq] at he
  obtain ⟨rfl, rfl, rfl⟩ := he
  have hl : (l.take k).length = k := by simp [hk]
  refine ⟨ao, c, by rw [hl], by omega, h2, fun i hi => ?_⟩
  obtain ⟨g, o, e, p, q⟩ := h3 i (by omega)
  have et : tAt (l.take k) i = tAt l i := by simp only [tAt]; rw [List.getElem?_take, if_pos (by omega)]
  rw [et]
  exact ⟨g, o, e, p, q⟩
theorem TAt.drop {w : World} {g o n c : Nat} {l : List Tk} (h : TAt w (.slice (some ⟨g, o, none⟩) n c) l) (k : Nat) (hk : k ≤ l.length) : TAt w (.slice (some ⟨g, o + k * 2, none⟩) (n - k) (c - k)) (l.drop k) := by
  obtain ⟨ao', c', he, h1, h2, h3⟩ := h
  simp only [Value.slice.injEq] at he
  obtain ⟨rfl, rfl, rfl⟩ := he
  have hl : (l.drop k).length = l.length - k := by simp
  refine ⟨_, c - k, by rw [hl], by omega, by omega, fun i hi => ?_⟩
  obtain ⟨g', o', e, p, q⟩ := h3 (k + i) (by omega)
  simp only [Option.some.injEq, Addr.mk.injEq, and_true] at e
  obtain ⟨rfl, rfl⟩ := e
  have et : tAt (l.drop k) i = tAt l (k + i) := by simp only [tAt]; rw [List.getElem?_drop]
  rw [et]
  refine ⟨g, o + k * 2, rfl, ?_, ?_⟩
  · rw [show o + k * 2 + i * 2 = o + (k + i) * 2 by omega]; exact p
  · rw [show o + k * 2 + i * 2 + 1 = o + (k + i) * 2 + 1 by omega]; exact q
end Go.Proofs.Ytajcoimeeohnoaa
