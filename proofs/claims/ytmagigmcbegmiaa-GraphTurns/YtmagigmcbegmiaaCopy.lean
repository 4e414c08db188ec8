/- The reference's Copy. -/
import Derived.Test.YtmagigmcbegmiaaCheck
import Derived.Test.YtmagigmcbegmiaaFresh
namespace Go.Proofs.Ytmagigmcbegmiaa
open Go.RowKit Go.Lib
set_option linter.unusedVariables false

theorem Try.info3 : (Try.prog.info? 3).map (fun i => (i.zero, i.size, i.bytes)) = some (some (.int .i64 0), 1, 8) := by kernel_rfl
theorem Try.info48 : (Try.prog.info? 48).map (fun i => (i.zero, i.size, i.bytes)) = some (some (.int .u64 0), 1, 8) := by kernel_rfl

theorem below_alloc {a w : World} (h : Below a.heap.size a w) (o : Obj) : Below a.heap.size a (w.alloc o) := h.alloc h.size o
theorem below_drew {a w : World} (h : Below a.heap.size a w) : Below a.heap.size a w.drew := h.drew
theorem below_on {a w w' : World} (h : Below a.heap.size a w) (k : Below w.heap.size w w') : Below a.heap.size a w' := h.trans (k.mono h.size)

/-- The cells of two blocks of four, as they were. -/
theorem two_keep {W x : World} {A B : Nat} {p0 p1 p2 p3 q0 q1 q2 q3 : Value} (hA : W.heap[A]? = some (.cells #[p0, p1, p2, p3] 25 (0, 0))) (hB : W.heap[B]? = some (.cells #[q0, q1, q2, q3] 25 (0, 0))) (h : Below W.heap.size W x) :
    (x.cell? ⟨A, 0, none⟩ = some p0 ∧ x.cell? ⟨A, 1, none⟩ = some p1 ∧ x.cell? ⟨A, 2, none⟩ = some p2 ∧ x.cell? ⟨A, 3, none⟩ = some p3) ∧ x.heap[B]? = some (.cells #[q0, q1, q2, q3] 25 (0, 0)) := by
  have hA' := (h.block A (lt_of_heap hA)).trans hA
  have hB' := (h.block B (lt_of_heap hB)).trans hB
  exact ⟨⟨cell_of hA' rfl, cell_of hA' rfl, cell_of hA' rfl, cell_of hA' rfl⟩, hB'⟩

theorem RowAt.setOther {k : IntKind} {w : World} {ao : Option Addr} {n c : Nat} {xs : List Int} (h : RowAt k w (.slice ao n c) xs) (B i : Nat) (u : Value) (hn : ∀ a, ao = some a → ¬ a.block = B) : RowAt k (w.setCell ⟨B, i, none⟩ u) (.slice ao n c) xs := by
  obtain ⟨ao', c', he, h1, h2, h3, h4⟩ := h
  simp only [Value.slice.injEq] at he
  obtain ⟨rfl, rfl, rfl⟩ := he
  refine ⟨ao, c, rfl, h1, h2, h3, fun a ha j hj => ?_⟩
  have h5 := h4 a ha j hj
  rw [← h5]
  have hb : (a.add j).block ≠ B := by
    have e : (a.add j).block = a.block := by unfold Addr.add; split <;> rfl
    rw [e]; exact hn a ha
  unfold World.cell?
  rw [Below.heap_setCell w ⟨B, i, none⟩ u (a.add j).block hb]

theorem copy_end {w W w3 : World} {N : Int} {ao1 ao2 ao3 : Option Addr} {n1 n2 n3 c1 c2 c3 : Nat} {st to wt : List Int} {q0 q1 q2 q3 : Value} (hbW : Below w.heap.size w W) (hb3 : Below W.heap.size W w3)
    (hz : w3.heap[w.heap.size + 1]? = some (.cells #[q0, q1, q2, q3] 25 (0, 0))) (h1 : RowAt .i64 w3 (.slice ao1 n1 c1) st) (h2 : RowAt .i64 w3 (.slice ao2 n2 c2) to) (h3 : RowAt .u64 w3 (.slice ao3 n3 c3) wt)
    (m1 : ∀ a, ao1 = some a → ¬ a.block = w.heap.size + 1) (m2 : ∀ a, ao2 = some a → ¬ a.block = w.heap.size + 1) (m3 : ∀ a, ao3 = some a → ¬ a.block = w.heap.size + 1) :
    let wf := (((w3.setCell ⟨w.heap.size + 1, 0, none⟩ (.int .i64 N)).setCell ⟨w.heap.size + 1, 1, none⟩ (.slice ao1 n1 c1)).setCell ⟨w.heap.size + 1, 2, none⟩ (.slice ao2 n2 c2)).setCell ⟨w.heap.size + 1, 3, none⟩ (.slice ao3 n3 c3)
    wf.heap[w.heap.size + 1]? = some (.cells #[.int .i64 N, .slice ao1 n1 c1, .slice ao2 n2 c2, .slice ao3 n3 c3] 25 (0, 0)) ∧
      GIs wf N (.slice ao1 n1 c1) (.slice ao2 n2 c2) (.slice ao3 n3 c3) st to wt ∧ Below w.heap.size w wf := by
  intro wf
  have hh := heap_set (i := 3) (heap_set (i := 2) (heap_set (i := 1) (heap_set (i := 0) hz (.int .i64 N)) (.slice ao1 n1 c1)) (.slice ao2 n2 c2)) (.slice ao3 n3 c3)
  have hw : wf.heap[w.heap.size + 1]? = some (.cells #[.int .i64 N, .slice ao1 n1 c1, .slice ao2 n2 c2, .slice ao3 n3 c3] 25 (0, 0)) := by
    show ((((w3.setCell ⟨w.heap.size + 1, 0, none⟩ (.int .i64 N)).setCell ⟨w.heap.size + 1, 1, none⟩ (.slice ao1 n1 c1)).setCell ⟨w.heap.size + 1, 2, none⟩ (.slice ao2 n2 c2)).setCell ⟨w.heap.size + 1, 3, none⟩ (.slice ao3 n3 c3)).heap[w.heap.size + 1]? = _
    rw [hh]
    simp
  refine ⟨hw, ⟨?_, ?_, ?_⟩, ?_⟩
  · exact (((h1.setOther _ _ _ m1).setOther _ _ _ m1).setOther _ _ _ m1).setOther _ _ _ m1
  · exact (((h2.setOther _ _ _ m2).setOther _ _ _ m2).setOther _ _ _ m2).setOther _ _ _ m2
  · exact (((h3.setOther _ _ _ m3).setOther _ _ _ m3).setOther _ _ _ m3).setOther _ _ _ m3
  · have hb : Below w.heap.size w w3 := below_on hbW hb3
    exact (((hb.setCell (p := ⟨w.heap.size + 1, 0, none⟩) (by show w.heap.size ≤ w.heap.size + 1; omega) _).setCell (p := ⟨w.heap.size + 1, 1, none⟩) (by show w.heap.size ≤ w.heap.size + 1; omega) _).setCell (p := ⟨w.heap.size + 1, 2, none⟩) (by show w.heap.size ≤ w.heap.size + 1; omega) _).setCell (p := ⟨w.heap.size + 1, 3, none⟩) (by show w.heap.size ≤ w.heap.size + 1; omega) _

set_option maxRecDepth 100000 in
set_option maxHeartbeats 8000000 in
theorem copy_any (N : Int) (va vb vc : Value) (st to wt : List Int) (w : World) (hg : GIs w N va vb vc st to wt) (hst : st.length * 8 ≤ 140737488351232) (hto : to.length * 8 ≤ 140737488351232) (hwt : wt.length * 8 ≤ 140737488351232) :
    Calls Try.prog 42 #[gAgg N va vb vc] w fun e w' => ∃ a b c, e = .returned (gAgg N a b c) ∧ GIs w' N a b c st to wt ∧ Below w.heap.size w w' := by
  obtain ⟨i0, hi, hz0, hz1, hz2⟩ := info_parts Try.info3
  obtain ⟨j0, hj, hy0, hy1, hy2⟩ := info_parts Try.info48
  obtain ⟨ao, ca, rfl⟩ := hg.s.shape
  obtain ⟨bo, cb, rfl⟩ := hg.t.shape
  obtain ⟨co, cc, rfl⟩ := hg.u.shape
  have HG := hide hg
  clear hg
  unfold gAgg
  go_enter Try.func42, Try.ntmps42
  go_wp2_with fail
  obtain ⟨W, hW⟩ : ∃ W, W = (w.alloc (.cells #[.int .i64 N, .slice ao st.length ca, .slice bo to.length cb, .slice co wt.length cc] 25)).alloc (.cells #[.int .i64 0, .slice none 0 0, .slice none 0 0, .slice none 0 0] 25) := ⟨_, rfl⟩
  have hbW : Below w.heap.size w W := by rw [hW]; exact below_alloc (below_alloc (Below.refl _ _) _) _
  have hA : W.heap[w.heap.size]? = some (.cells #[.int .i64 N, .slice ao st.length ca, .slice bo to.length cb, .slice co wt.length cc] 25 (0, 0)) := by
    rw [hW]
    exact (((Below.refl _ _).alloc (Nat.le_refl _) _).block w.heap.size (by simp)).trans (heap_new w _)
  have hB : W.heap[w.heap.size + 1]? = some (.cells #[.int .i64 0, .slice none 0 0, .slice none 0 0, .slice none 0 0] 25 (0, 0)) := by
    rw [hW]
    have := heap_new (w.alloc (.cells #[.int .i64 N, .slice ao st.length ca, .slice bo to.length cb, .slice co wt.length cc] 25)) (.cells #[.int .i64 0, .slice none 0 0, .slice none 0 0, .slice none 0 0] 25)
    simpa using this
  rw [← hW]
  have HA := hide hA; have HB := hide hB; have HBW := hide hbW
  have HGW := hide (HG.out.below hbW)
  obtain ⟨⟨c0, c1, c2, c3⟩, _⟩ := two_keep hA hB (Below.refl _ W)
  have HR := hide (Below.refl W.heap.size W)
  have hWs : w.heap.size + 1 < W.heap.size := lt_of_heap hB
  have m0 : ¬ w.heap.size = W.heap.size := by omega
  have m1 : ¬ w.heap.size = W.heap.size + 1 := by omega
  have m2 : ¬ w.heap.size = W.heap.size + 1 + 1 := by omega
  have m2' : ¬ w.heap.size = W.heap.size + 2 := by omega
  clear hA hB hbW hW
  have t0 : ∀ o1 o2 o3, (((W.alloc o1).alloc o2).alloc o3).drew.cell? ⟨w.heap.size, 0, none⟩ = some (.int .i64 N) := fun o1 o2 o3 => (two_keep HA.out HB.out (below_drew (below_alloc (below_alloc (below_alloc HR.out _) _) _))).1.1
  have t1 : ∀ o1 o2 o3, (((W.alloc o1).alloc o2).alloc o3).drew.cell? ⟨w.heap.size, 1, none⟩ = some (.slice ao st.length ca) := fun o1 o2 o3 => (two_keep HA.out HB.out (below_drew (below_alloc (below_alloc (below_alloc HR.out _) _) _))).1.2.1
  have t2 : ∀ o1 o2 o3, (((W.alloc o1).alloc o2).alloc o3).drew.cell? ⟨w.heap.size, 2, none⟩ = some (.slice bo to.length cb) := fun o1 o2 o3 => (two_keep HA.out HB.out (below_drew (below_alloc (below_alloc (below_alloc HR.out _) _) _))).1.2.2.1
  have t3 : ∀ o1 o2 o3, (((W.alloc o1).alloc o2).alloc o3).drew.cell? ⟨w.heap.size, 3, none⟩ = some (.slice co wt.length cc) := fun o1 o2 o3 => (two_keep HA.out HB.out (below_drew (below_alloc (below_alloc (below_alloc HR.out _) _) _))).1.2.2.2
  refine wp_region_noPanic ?_
  go_region_held3 (fun x => x.cell? ⟨w.heap.size, 0, none⟩ = some (.int .i64 N) ∧ x.cell? ⟨w.heap.size, 1, none⟩ = some (.slice ao st.length ca) ∧ x.cell? ⟨w.heap.size, 2, none⟩ = some (.slice bo to.length cb) ∧ x.cell? ⟨w.heap.size, 3, none⟩ = some (.slice co wt.length cc)) (first | go_keep | exact ⟨z0, z1, z2, z3⟩ | exact (two_keep HA.out HB.out (below_alloc (HR.out) _)).1 | exact (two_keep HA.out HB.out (below_drew (below_alloc (HR.out) _))).1 | exact (two_keep HA.out HB.out (below_alloc (below_alloc (HR.out) _) _)).1 | exact (two_keep HA.out HB.out (below_drew (below_alloc (below_alloc (HR.out) _) _))).1 | exact (two_keep HA.out HB.out (below_alloc (below_alloc (below_alloc (HR.out) _) _) _)).1 | exact (two_keep HA.out HB.out (below_drew (below_alloc (below_alloc (below_alloc (HR.out) _) _) _))).1 | exact (two_keep HA.out HB.out (below_alloc (HB1.out) _)).1 | exact (two_keep HA.out HB.out (below_drew (below_alloc (HB1.out) _))).1 | exact (two_keep HA.out HB.out (below_alloc (below_alloc (HB1.out) _) _)).1 | exact (two_keep HA.out HB.out (below_drew (below_alloc (below_alloc (HB1.out) _) _))).1 | exact (two_keep HA.out HB.out (below_alloc (HB2.out) _)).1 | exact (two_keep HA.out HB.out (below_drew (below_alloc (HB2.out) _))).1)
    (first
      | (refine step_fresh (by rfl) (.tmp 5) (.tmp 7) 22 (by rfl) .i64 3 i0 (.int .i64 0) 8 Try.underlying22 hi hz0 hz1 hz2 rfl _ st (by rfl) (HGW.out.below (by first | exact below_alloc (HR.out) _ | exact below_alloc (below_alloc (HR.out) _) _ | exact below_alloc (below_alloc (below_alloc (HR.out) _) _) _ | exact below_drew (below_alloc (HR.out) _) | exact below_drew (below_alloc (below_alloc (HR.out) _) _) | exact below_drew (below_alloc (below_alloc (below_alloc (HR.out) _) _) _))).s (by omega) (by unfold maxLen; omega) ?_; intro ao1 cp1 w1 hr1 hf1 hbel; have hB1 := below_on (a := W) (by first | exact below_alloc (HR.out) _ | exact below_alloc (below_alloc (HR.out) _) _ | exact below_alloc (below_alloc (below_alloc (HR.out) _) _) _ | exact below_drew (below_alloc (HR.out) _) | exact below_drew (below_alloc (below_alloc (HR.out) _) _) | exact below_drew (below_alloc (below_alloc (below_alloc (HR.out) _) _) _)) hbel; obtain ⟨⟨z0, z1, z2, z3⟩, zB⟩ := two_keep HA.out HB.out hB1; have o1a : ¬ w.heap.size = w1.heap.size := (by have hq := hB1.size; omega); have o1b : ¬ w.heap.size = w1.heap.size + 1 := (by have hq := hB1.size; omega); have hn1 : ∀ a, ao1 = some a → ¬ a.block = w.heap.size + 1 := (by intro a ha; rcases hf1 a ha with h | h <;> first | omega | (simp at h; omega)); have HN1 := hide hn1; clear hn1; have HB1 := hide hB1; have HR1 := hide hr1; have HZ := hide zB; have e0 : w1.cell? ⟨w.heap.size + 1, 0, none⟩ = some (.int .i64 0) := cell_of HZ.out rfl; have e1 : w1.cell? ⟨w.heap.size + 1, 1, none⟩ = some (.slice none 0 0) := cell_of HZ.out rfl; have e2 : w1.cell? ⟨w.heap.size + 1, 2, none⟩ = some (.slice none 0 0) := cell_of HZ.out rfl; have e3 : w1.cell? ⟨w.heap.size + 1, 3, none⟩ = some (.slice none 0 0) := cell_of HZ.out rfl; have q0 := free_of HZ.out 0; have q1 := free_of HZ.out 1; have q2 := free_of HZ.out 2; have q3 := free_of HZ.out 3; clear hr1 hf1 hbel hB1 zB)
      | (refine step_fresh (by rfl) (.tmp 9) (.tmp 11) 22 (by rfl) .i64 3 i0 (.int .i64 0) 8 Try.underlying22 hi hz0 hz1 hz2 rfl _ to (by rfl) (HGW.out.below (by first | exact HB1.out | exact below_alloc (HB1.out) _ | exact below_alloc (below_alloc (HB1.out) _) _ | exact below_drew (HB1.out) | exact below_drew (below_alloc (HB1.out) _) | exact below_drew (below_alloc (below_alloc (HB1.out) _) _))).t (by omega) (by unfold maxLen; omega) ?_; intro ao2 cp2 w2 hr2 hf2 hbel; have hB2 := below_on (a := W) (by first | exact HB1.out | exact below_alloc (HB1.out) _ | exact below_alloc (below_alloc (HB1.out) _) _ | exact below_drew (HB1.out) | exact below_drew (below_alloc (HB1.out) _) | exact below_drew (below_alloc (below_alloc (HB1.out) _) _)) hbel; have hS2 : Below w1.heap.size w1 w2 := below_on (by first | exact Below.refl _ _ | exact below_alloc (Below.refl _ _) _ | exact below_alloc (below_alloc (Below.refl _ _) _) _ | exact below_drew (Below.refl _ _) | exact below_drew (below_alloc (Below.refl _ _) _) | exact below_drew (below_alloc (below_alloc (Below.refl _ _) _) _)) hbel; have HS2 := hide hS2; clear hS2; obtain ⟨⟨z0, z1, z2, z3⟩, zB⟩ := two_keep HA.out HB.out hB2; have o2a : ¬ w.heap.size = w2.heap.size := (by have hq := hB2.size; omega); have o2b : ¬ w.heap.size = w2.heap.size + 1 := (by have hq := hB2.size; omega); have p2 := HB1.out.size; have hn2 : ∀ a, ao2 = some a → ¬ a.block = w.heap.size + 1 := (by intro a ha; rcases hf2 a ha with h | h <;> first | omega | (simp at h; omega)); have HN2 := hide hn2; clear hn2; have HB2 := hide hB2; have HR2 := hide hr2; have HZ := hide zB; have e0 : w2.cell? ⟨w.heap.size + 1, 0, none⟩ = some (.int .i64 0) := cell_of HZ.out rfl; have e1 : w2.cell? ⟨w.heap.size + 1, 1, none⟩ = some (.slice none 0 0) := cell_of HZ.out rfl; have e2 : w2.cell? ⟨w.heap.size + 1, 2, none⟩ = some (.slice none 0 0) := cell_of HZ.out rfl; have e3 : w2.cell? ⟨w.heap.size + 1, 3, none⟩ = some (.slice none 0 0) := cell_of HZ.out rfl; have q0 := free_of HZ.out 0; have q1 := free_of HZ.out 1; have q2 := free_of HZ.out 2; have q3 := free_of HZ.out 3; clear hr2 hf2 hbel hB2 zB)
      | (refine step_fresh (by rfl) (.tmp 13) (.tmp 15) 23 (by rfl) .u64 48 j0 (.int .u64 0) 8 Try.underlying23 hj hy0 hy1 hy2 rfl _ wt (by rfl) (HGW.out.below (by first | exact HB2.out | exact below_alloc (HB2.out) _ | exact below_drew (HB2.out) | exact below_drew (below_alloc (HB2.out) _))).u (by omega) (by unfold maxLen; omega) ?_; intro ao3 cp3 w3 hr3 hf3 hbel; have hB3 := below_on (a := W) (by first | exact HB2.out | exact below_alloc (HB2.out) _ | exact below_drew (HB2.out) | exact below_drew (below_alloc (HB2.out) _)) hbel; have hS3 : Below w2.heap.size w2 w3 := below_on (by first | exact Below.refl _ _ | exact below_alloc (Below.refl _ _) _ | exact below_drew (Below.refl _ _) | exact below_drew (below_alloc (Below.refl _ _) _)) hbel; have HS3 := hide hS3; clear hS3; obtain ⟨⟨z0, z1, z2, z3⟩, zB⟩ := two_keep HA.out HB.out hB3; have o3a : ¬ w.heap.size = w3.heap.size := (by have hq := hB3.size; omega); have o3b : ¬ w.heap.size = w3.heap.size + 1 := (by have hq := hB3.size; omega); have p3 := HB2.out.size; have hn3 : ∀ a, ao3 = some a → ¬ a.block = w.heap.size + 1 := (by intro a ha; rcases hf3 a ha with h | h <;> first | omega | (simp at h; omega)); have HN3 := hide hn3; clear hn3; have HB3 := hide hB3; have HR3 := hide hr3; have HZ := hide zB; have e0 : w3.cell? ⟨w.heap.size + 1, 0, none⟩ = some (.int .i64 0) := cell_of HZ.out rfl; have e1 : w3.cell? ⟨w.heap.size + 1, 1, none⟩ = some (.slice none 0 0) := cell_of HZ.out rfl; have e2 : w3.cell? ⟨w.heap.size + 1, 2, none⟩ = some (.slice none 0 0) := cell_of HZ.out rfl; have e3 : w3.cell? ⟨w.heap.size + 1, 3, none⟩ = some (.slice none 0 0) := cell_of HZ.out rfl; have q0 := free_of HZ.out 0; have q1 := free_of HZ.out 1; have q2 := free_of HZ.out 2; have q3 := free_of HZ.out 3; clear hr3 hf3 hbel hB3 zB))
  all_goals
    refine NoPanic.normal ?_
    obtain ⟨hwf, hG, hL⟩ := copy_end HBW.out HB3.out HZ.out ((HR1.out.below HS2.out).below HS3.out) (HR2.out.below HS3.out) HR3.out HN1.out HN2.out HN3.out
    have HGG := hide hG; have HLL := hide hL; have HWF := hide hwf
    generalize ((((w3.setCell ⟨w.heap.size + 1, 0, none⟩ (.int .i64 N)).setCell ⟨w.heap.size + 1, 1, none⟩ (.slice ao1 st.length cp1)).setCell ⟨w.heap.size + 1, 2, none⟩ (.slice ao2 to.length cp2)).setCell ⟨w.heap.size + 1, 3, none⟩ (.slice ao3 wt.length cp3)) = wf at HWF HGG HLL ⊢
    clear hG hL hwf
    go_wp2
    exact bodyPost_ret (results_cell_row Try.results42 _ wf (w.heap.size + 1) 25 _ (0, 0) _ rfl HWF.out Try.underlying25 rfl (by kernel_rfl)) rfl ⟨_, _, _, rfl, HGG.out, HLL.out⟩
end Go.Proofs.Ytmagigmcbegmiaa
