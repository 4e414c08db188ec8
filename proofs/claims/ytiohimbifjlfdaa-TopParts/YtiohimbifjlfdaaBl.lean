import Derived.Test.YtiohimbifjlfdaaCopy
import Derived.Test.YtiohimbifjlfdaaBr
import Derived.BigRegion
import Derived.BigQuiet
/- The document's Copy. -/
namespace Go.Proofs.Ytiohimbifjlfdaa
open Go.RowKit Go.Lib
set_option linter.unusedVariables false
set_option maxRecDepth 100000 in
set_option maxHeartbeats 8000000 in
theorem copy_any (N : Int) (va vb vc : Value) (st tq wt : List Int) (w : World) (hg : GIs w N va vb vc st tq wt) (hst : st.length * 8 ≤ 140737488351232) (hto : tq.length * 8 ≤ 140737488351232) (hwt : wt.length * 8 ≤ 140737488351232) :
    Calls Try.prog 7 #[gAgg N va vb vc] w fun e w' => ∃ a b c, e = .returned (gAgg N a b c) ∧ GIs w' N a b c st tq wt ∧ Below w.heap.size w w' := by
  obtain ⟨i0, hi, hz0, hz1, hz2⟩ := info_parts Try.info3G
  obtain ⟨j0, hj, hy0, hy1, hy2⟩ := info_parts Try.info58G
  obtain ⟨ao, ca, rfl⟩ := hg.s.shape
  obtain ⟨bo, cb, rfl⟩ := hg.t.shape
  obtain ⟨co, cc, rfl⟩ := hg.u.shape
  have HG := hide hg
  clear hg
  unfold gAgg
  go_enter Try.func7, Try.ntmps7
  go_wp2_with fail
  obtain ⟨W, hW⟩ : ∃ W, W = (w.alloc (.cells #[.int .i64 N, .slice ao st.length ca, .slice bo tq.length cb, .slice co wt.length cc] 28)).alloc (.cells #[.int .i64 0, .slice none 0 0, .slice none 0 0, .slice none 0 0] 28) := ⟨_, rfl⟩
  have hbW : Below w.heap.size w W := by rw [hW]; exact below_allocG (below_allocG (Below.refl _ _) _) _
  have hA : W.heap[w.heap.size]? = some (.cells #[.int .i64 N, .slice ao st.length ca, .slice bo tq.length cb, .slice co wt.length cc] 28 (0, 0)) := by
    rw [hW]
    exact (((Below.refl _ _).alloc (Nat.le_refl _) _).block w.heap.size (by simp)).trans (heap_new w _)
  have hB : W.heap[w.heap.size + 1]? = some (.cells #[.int .i64 0, .slice none 0 0, .slice none 0 0, .slice none 0 0] 28 (0, 0)) := by
    rw [hW]
    have := heap_new (w.alloc (.cells #[.int .i64 N, .slice ao st.length ca, .slice bo tq.length cb, .slice co wt.length cc] 28)) (.cells #[.int .i64 0, .slice none 0 0, .slice none 0 0, .slice none 0 0] 28)
    simpa using this
  rw [← hW]
  have HA := hide hA; have HB := hide hB; have HBW := hide hbW
  have HGW := hide (HG.out.below hbW)
  obtain ⟨⟨c0, c1, c2, c3⟩, _⟩ := two_keepG hA hB (Below.refl _ W)
  have HR := hide (Below.refl W.heap.size W)
  have hWs : w.heap.size + 1 < W.heap.size := lt_of_heap hB
  have m0 : ¬ w.heap.size = W.heap.size := by omega
  have m1 : ¬ w.heap.size = W.heap.size + 1 := by omega
  have m2 : ¬ w.heap.size = W.heap.size + 1 + 1 := by omega
  have m2' : ¬ w.heap.size = W.heap.size + 2 := by omega
  clear hA hB hbW hW
  have t0 : ∀ o1 o2 o3, (((W.alloc o1).alloc o2).alloc o3).drew.cell? ⟨w.heap.size, 0, none⟩ = some (.int .i64 N) := fun o1 o2 o3 => (two_keepG HA.out HB.out (below_drewG (below_allocG (below_allocG (below_allocG HR.out _) _) _))).1.1
  have t1 : ∀ o1 o2 o3, (((W.alloc o1).alloc o2).alloc o3).drew.cell? ⟨w.heap.size, 1, none⟩ = some (.slice ao st.length ca) := fun o1 o2 o3 => (two_keepG HA.out HB.out (below_drewG (below_allocG (below_allocG (below_allocG HR.out _) _) _))).1.2.1
  have t2 : ∀ o1 o2 o3, (((W.alloc o1).alloc o2).alloc o3).drew.cell? ⟨w.heap.size, 2, none⟩ = some (.slice bo tq.length cb) := fun o1 o2 o3 => (two_keepG HA.out HB.out (below_drewG (below_allocG (below_allocG (below_allocG HR.out _) _) _))).1.2.2.1
  have t3 : ∀ o1 o2 o3, (((W.alloc o1).alloc o2).alloc o3).drew.cell? ⟨w.heap.size, 3, none⟩ = some (.slice co wt.length cc) := fun o1 o2 o3 => (two_keepG HA.out HB.out (below_drewG (below_allocG (below_allocG (below_allocG HR.out _) _) _))).1.2.2.2
  refine wp_region_noPanic ?_
  go_region_held3 (fun x => x.cell? ⟨w.heap.size, 0, none⟩ = some (.int .i64 N) ∧ x.cell? ⟨w.heap.size, 1, none⟩ = some (.slice ao st.length ca) ∧ x.cell? ⟨w.heap.size, 2, none⟩ = some (.slice bo tq.length cb) ∧ x.cell? ⟨w.heap.size, 3, none⟩ = some (.slice co wt.length cc)) (first | go_keep | exact ⟨z0, z1, z2, z3⟩ | exact (two_keepG HA.out HB.out (below_allocG (HR.out) _)).1 | exact (two_keepG HA.out HB.out (below_drewG (below_allocG (HR.out) _))).1 | exact (two_keepG HA.out HB.out (below_allocG (below_allocG (HR.out) _) _)).1 | exact (two_keepG HA.out HB.out (below_drewG (below_allocG (below_allocG (HR.out) _) _))).1 | exact (two_keepG HA.out HB.out (below_allocG (below_allocG (below_allocG (HR.out) _) _) _)).1 | exact (two_keepG HA.out HB.out (below_drewG (below_allocG (below_allocG (below_allocG (HR.out) _) _) _))).1 | exact (two_keepG HA.out HB.out (below_allocG (HB1.out) _)).1 | exact (two_keepG HA.out HB.out (below_drewG (below_allocG (HB1.out) _))).1 | exact (two_keepG HA.out HB.out (below_allocG (below_allocG (HB1.out) _) _)).1 | exact (two_keepG HA.out HB.out (below_drewG (below_allocG (below_allocG (HB1.out) _) _))).1 | exact (two_keepG HA.out HB.out (below_allocG (HB2.out) _)).1 | exact (two_keepG HA.out HB.out (below_drewG (below_allocG (HB2.out) _))).1)
    (first
      | (refine step_fresh (by rfl) (.tmp 5) (.tmp 7) 25 (by rfl) .i64 3 i0 (.int .i64 0) 8 Try.underlying25 hi hz0 hz1 hz2 rfl _ st (by rfl) (HGW.out.below (by first | exact below_allocG (HR.out) _ | exact below_allocG (below_allocG (HR.out) _) _ | exact below_allocG (below_allocG (below_allocG (HR.out) _) _) _ | exact below_drewG (below_allocG (HR.out) _) | exact below_drewG (below_allocG (below_allocG (HR.out) _) _) | exact below_drewG (below_allocG (below_allocG (below_allocG (HR.out) _) _) _))).s (by omega) (by unfold maxLen; omega) ?_; intro ao1 cp1 w1 hr1 hf1 hbel; have hB1 := below_onG (a := W) (by first | exact below_allocG (HR.out) _ | exact below_allocG (below_allocG (HR.out) _) _ | exact below_allocG (below_allocG (below_allocG (HR.out) _) _) _ | exact below_drewG (below_allocG (HR.out) _) | exact below_drewG (below_allocG (below_allocG (HR.out) _) _) | exact below_drewG (below_allocG (below_allocG (below_allocG (HR.out) _) _) _)) hbel; obtain ⟨⟨z0, z1, z2, z3⟩, zB⟩ := two_keepG HA.out HB.out hB1; have o1a : ¬ w.heap.size = w1.heap.size := (by have hq := hB1.size; omega); have o1b : ¬ w.heap.size = w1.heap.size + 1 := (by have hq := hB1.size; omega); have hn1 : ∀ a, ao1 = some a → ¬ a.block = w.heap.size + 1 := (by intro a ha; rcases hf1 a ha with h | h <;> first | omega | (simp at h; omega)); have HN1 := hide hn1; clear hn1; have HB1 := hide hB1; have HR1 := hide hr1; have HZ := hide zB; have e0 : w1.cell? ⟨w.heap.size + 1, 0, none⟩ = some (.int .i64 0) := cell_of HZ.out rfl; have e1 : w1.cell? ⟨w.heap.size + 1, 1, none⟩ = some (.slice none 0 0) := cell_of HZ.out rfl; have e2 : w1.cell? ⟨w.heap.size + 1, 2, none⟩ = some (.slice none 0 0) := cell_of HZ.out rfl; have e3 : w1.cell? ⟨w.heap.size + 1, 3, none⟩ = some (.slice none 0 0) := cell_of HZ.out rfl; have q0 := free_of HZ.out 0; have q1 := free_of HZ.out 1; have q2 := free_of HZ.out 2; have q3 := free_of HZ.out 3; clear hr1 hf1 hbel hB1 zB)
      | (refine step_fresh (by rfl) (.tmp 9) (.tmp 11) 25 (by rfl) .i64 3 i0 (.int .i64 0) 8 Try.underlying25 hi hz0 hz1 hz2 rfl _ tq (by rfl) (HGW.out.below (by first | exact HB1.out | exact below_allocG (HB1.out) _ | exact below_allocG (below_allocG (HB1.out) _) _ | exact below_drewG (HB1.out) | exact below_drewG (below_allocG (HB1.out) _) | exact below_drewG (below_allocG (below_allocG (HB1.out) _) _))).t (by omega) (by unfold maxLen; omega) ?_; intro ao2 cp2 w2 hr2 hf2 hbel; have hB2 := below_onG (a := W) (by first | exact HB1.out | exact below_allocG (HB1.out) _ | exact below_allocG (below_allocG (HB1.out) _) _ | exact below_drewG (HB1.out) | exact below_drewG (below_allocG (HB1.out) _) | exact below_drewG (below_allocG (below_allocG (HB1.out) _) _)) hbel; have hS2 : Below w1.heap.size w1 w2 := below_onG (by first | exact Below.refl _ _ | exact below_allocG (Below.refl _ _) _ | exact below_allocG (below_allocG (Below.refl _ _) _) _ | exact below_drewG (Below.refl _ _) | exact below_drewG (below_allocG (Below.refl _ _) _) | exact below_drewG (below_allocG (below_allocG (Below.refl _ _) _) _)) hbel; have HS2 := hide hS2; clear hS2; obtain ⟨⟨z0, z1, z2, z3⟩, zB⟩ := two_keepG HA.out HB.out hB2; have o2a : ¬ w.heap.size = w2.heap.size := (by have hq := hB2.size; omega); have o2b : ¬ w.heap.size = w2.heap.size + 1 := (by have hq := hB2.size; omega); have p2 := HB1.out.size; have hn2 : ∀ a, ao2 = some a → ¬ a.block = w.heap.size + 1 := (by intro a ha; rcases hf2 a ha with h | h <;> first | omega | (simp at h; omega)); have HN2 := hide hn2; clear hn2; have HB2 := hide hB2; have HR2 := hide hr2; have HZ := hide zB; have e0 : w2.cell? ⟨w.heap.size + 1, 0, none⟩ = some (.int .i64 0) := cell_of HZ.out rfl; have e1 : w2.cell? ⟨w.heap.size + 1, 1, none⟩ = some (.slice none 0 0) := cell_of HZ.out rfl; have e2 : w2.cell? ⟨w.heap.size + 1, 2, none⟩ = some (.slice none 0 0) := cell_of HZ.out rfl; have e3 : w2.cell? ⟨w.heap.size + 1, 3, none⟩ = some (.slice none 0 0) := cell_of HZ.out rfl; have q0 := free_of HZ.out 0; have q1 := free_of HZ.out 1; have q2 := free_of HZ.out 2; have q3 := free_of HZ.out 3; clear hr2 hf2 hbel hB2 zB)
      | (refine step_fresh (by rfl) (.tmp 13) (.tmp 15) 26 (by rfl) .u64 46 j0 (.int .u64 0) 8 Try.underlying26 hj hy0 hy1 hy2 rfl _ wt (by rfl) (HGW.out.below (by first | exact HB2.out | exact below_allocG (HB2.out) _ | exact below_drewG (HB2.out) | exact below_drewG (below_allocG (HB2.out) _))).u (by omega) (by unfold maxLen; omega) ?_; intro ao3 cp3 w3 hr3 hf3 hbel; have hB3 := below_onG (a := W) (by first | exact HB2.out | exact below_allocG (HB2.out) _ | exact below_drewG (HB2.out) | exact below_drewG (below_allocG (HB2.out) _)) hbel; have hS3 : Below w2.heap.size w2 w3 := below_onG (by first | exact Below.refl _ _ | exact below_allocG (Below.refl _ _) _ | exact below_drewG (Below.refl _ _) | exact below_drewG (below_allocG (Below.refl _ _) _)) hbel; have HS3 := hide hS3; clear hS3; obtain ⟨⟨z0, z1, z2, z3⟩, zB⟩ := two_keepG HA.out HB.out hB3; have o3a : ¬ w.heap.size = w3.heap.size := (by have hq := hB3.size; omega); have o3b : ¬ w.heap.size = w3.heap.size + 1 := (by have hq := hB3.size; omega); have p3 := HB2.out.size; have hn3 : ∀ a, ao3 = some a → ¬ a.block = w.heap.size + 1 := (by intro a ha; rcases hf3 a ha with h | h <;> first | omega | (simp at h; omega)); have HN3 := hide hn3; clear hn3; have HB3 := hide hB3; have HR3 := hide hr3; have HZ := hide zB; have e0 : w3.cell? ⟨w.heap.size + 1, 0, none⟩ = some (.int .i64 0) := cell_of HZ.out rfl; have e1 : w3.cell? ⟨w.heap.size + 1, 1, none⟩ = some (.slice none 0 0) := cell_of HZ.out rfl; have e2 : w3.cell? ⟨w.heap.size + 1, 2, none⟩ = some (.slice none 0 0) := cell_of HZ.out rfl; have e3 : w3.cell? ⟨w.heap.size + 1, 3, none⟩ = some (.slice none 0 0) := cell_of HZ.out rfl; have q0 := free_of HZ.out 0; have q1 := free_of HZ.out 1; have q2 := free_of HZ.out 2; have q3 := free_of HZ.out 3; clear hr3 hf3 hbel hB3 zB))
  all_goals
    refine NoPanic.normal ?_
    obtain ⟨hwf, hG, hL⟩ := copy_end HBW.out HB3.out HZ.out ((HR1.out.below HS2.out).below HS3.out) (HR2.out.below HS3.out) HR3.out HN1.out HN2.out HN3.out
    have HGG := hide hG; have HLL := hide hL; have HWF := hide hwf
    generalize ((((w3.setCell ⟨w.heap.size + 1, 0, none⟩ (.int .i64 N)).setCell ⟨w.heap.size + 1, 1, none⟩ (.slice ao1 st.length cp1)).setCell ⟨w.heap.size + 1, 2, none⟩ (.slice ao2 tq.length cp2)).setCell ⟨w.heap.size + 1, 3, none⟩ (.slice ao3 wt.length cp3)) = wf at HWF HGG HLL ⊢
    clear hG hL hwf
    go_wp2
    exact bodyPost_ret (results_cell_row Try.results7 _ wf (w.heap.size + 1) 28 _ (0, 0) _ rfl HWF.out Try.underlying28 rfl (by kernel_rfl)) rfl ⟨_, _, _, rfl, HGG.out, HLL.out⟩
end Go.Proofs.Ytiohimbifjlfdaa

/- The document's Build of any roads. -/
namespace Go.Proofs.Ytiohimbifjlfdaa
open Go.RowKit Go.Lib
set_option linter.unusedVariables false
set_option linter.unusedSimpArgs false
def zeroG : Value := .agg #[.int .i64 0, .slice none 0 0, .slice none 0 0, .slice none 0 0]
def Fine (n : Nat) (l : List Ed3) (j : Nat) : Prop := (0 ≤ (eAt l j).1 ∧ (eAt l j).1 < n) ∧ (0 ≤ (eAt l j).2.1 ∧ (eAt l j).2.1 < n) ∧ (eAt l j).2.2 ≤ 4294967295
def BldPost (N : Int) (w : World) (e : Ending) (w' : World) : Prop :=
  (∃ f p : Int, e = .returned (.tuple #[zeroG, .int .i64 f, .int .i64 p]) ∧ f ≠ 0 ∧ Below w.heap.size w w') ∨
  (∃ (n : Nat) (va vb vc : Value) (st tl wt : List Int), N = n ∧ e = .returned (.tuple #[gAgg n va vb vc, .int .i64 0, .int .i64 0]) ∧ GIs w' n va vb vc st tl wt ∧ Good n st tl wt ∧ (∀ e, 0 ≤ at_ wt e) ∧ Below w.heap.size w w')
set_option maxRecDepth 100000 in
theorem build_size (N : Int) (ao : Option Addr) (m c : Nat) (w : World) (hN : N < 0 ∨ 1048576 < N) :
    Calls Try.prog 4 #[.agg #[.int .i64 N, .slice ao m c]] w fun e w' => e = .returned (.tuple #[zeroG, .int .i64 22, .int .i64 (-1)]) ∧ Below w.heap.size w w' := by
  obtain ⟨w1, hw1⟩ : ∃ w1, w1 = (w.alloc (.cells #[.int .i64 N, .slice ao m c] 24)).alloc (.cells #[.int .i64 0, .slice none 0 0, .slice none 0 0, .slice none 0 0] 28) := ⟨_, rfl⟩
  have hs : (w.alloc (.cells #[.int .i64 N, .slice ao m c] 24)).heap.size = w.heap.size + 1 := by simp
  have HB : Hid (Below w.heap.size w w1) := by rw [hw1]; exact below_alloc (below_alloc (Below.refl _ _) _) _
  have hbox : w1.heap[w.heap.size]? = some (.cells #[.int .i64 N, .slice ao m c] 24 (0, 0)) := by
    rw [hw1]; exact (Below.heap_alloc _ _ _ (by rw [hs]; omega)).trans (heap_new _ _)
  have hres : w1.heap[w.heap.size + 1]? = some (.cells #[.int .i64 0, .slice none 0 0, .slice none 0 0, .slice none 0 0] 28 (0, 0)) := by
    have := heap_new (w.alloc (.cells #[.int .i64 N, .slice ao m c] 24)) (.cells #[.int .i64 0, .slice none 0 0, .slice none 0 0, .slice none 0 0] 28)
    rw [hs] at this; rw [hw1]; exact this
  have HR := hide hres
  have b0 := cell_of hbox (i := 0) rfl
  have b1 := cell_of hbox (i := 1) rfl
  have r0 := cell_of hres (i := 0) rfl
  have r1 := cell_of hres (i := 1) rfl
  have r2 := cell_of hres (i := 2) rfl
  have r3 := cell_of hres (i := 3) rfl
  have q0 := free_of hres 0
  have q1 := free_of hres 1
  have q2 := free_of hres 2
  have q3 := free_of hres 3
  clear hs hbox hres
  rw [hw1] at b0 b1 r0 r1 r2 r3 q0 q1 q2 q3
  rcases hN with hN | hN
  · have hd : decide (N < 0) = true := decide_eq_true hN
    go_enter Try.func4, Try.ntmps4
    go_wp2_with fail
    rw [← hw1]
    exact bodyPost_ret (results_cell3 Try.results4 _ _ (w.heap.size + 1) 28 _ (0, 0) _ rfl HR.out Try.underlying28 rfl (by kernel_rfl) (.int .i64 22) (.int .i64 (-1)) rfl rfl) rfl ⟨rfl, HB.out⟩
  · have hd : decide (N < 0) = false := decide_eq_false (by omega)
    have hd2 : decide (N > 1048576) = true := decide_eq_true hN
    go_enter Try.func4, Try.ntmps4
    go_wp2_with fail
    rw [← hw1]
    exact bodyPost_ret (results_cell3 Try.results4 _ _ (w.heap.size + 1) 28 _ (0, 0) _ rfl HR.out Try.underlying28 rfl (by kernel_rfl) (.int .i64 22) (.int .i64 (-1)) rfl rfl) rfl ⟨rfl, HB.out⟩
def BadPost (w : World) (e : Ending) (w' : World) : Prop := ∃ f p : Int, e = .returned (.tuple #[zeroG, .int .i64 f, .int .i64 p]) ∧ f ≠ 0 ∧ Below w.heap.size w w'
set_option maxRecDepth 100000 in
set_option maxHeartbeats 4000000 in
theorem build_bad (n : Nat) (ao : Option Addr) (c : Nat) (l : List Ed3) (w : World) (hc : l.length ≤ c) (hn : n ≤ 1048576) (hr : EAt w (.slice ao l.length c) l) (hlu : ∀ i, i < l.length → 0 ≤ (eAt l i).2.2) (hl : c ≤ 9223372036854775807) (hnt : ¬ Takes n l) :
    Calls Try.prog 4 #[.agg #[.int .i64 n, .slice ao l.length c]] w (BadPost w) := by
  obtain ⟨m, hme⟩ : ∃ m, m = l.length := ⟨_, rfl⟩
  rw [← hme] at hc ⊢
  have HR := hide hr
  have HM := hide hme
  have HLU := hide hlu
  have HNT := hide hnt
  have HB0 := hide (BMO.start w n ao m c)
  have b0 := cell_of HB0.out.box (i := 0) rfl
  have b1 := cell_of HB0.out.box (i := 1) rfl
  have r0 := cell_of HB0.out.res (i := 0) rfl
  have r1 := cell_of HB0.out.res (i := 1) rfl
  have r2 := cell_of HB0.out.res (i := 2) rfl
  have r3 := cell_of HB0.out.res (i := 3) rfl
  have q0 := free_of HB0.out.res 0
  have q1 := free_of HB0.out.res 1
  have q2 := free_of HB0.out.res 2
  have q3 := free_of HB0.out.res 3
  clear hr hme hlu hnt
  obtain ⟨w1, hw1⟩ : ∃ w1, w1 = (w.alloc (.cells #[.int .i64 n, .slice ao m c] 24)).alloc (.cells #[.int .i64 0, .slice none 0 0, .slice none 0 0, .slice none 0 0] 28) := ⟨_, rfl⟩
  by_cases hbig : m ≤ 4194304
  · go_enter Try.func4, Try.ntmps4
    go_wp2_with fail
    rw [← hw1] at HB0 ⊢
    clear hw1 b0 b1 r0 r1 r2 r3 q0 q1 q2 q3
    go_loopw [5, 6] (fun t u wr => ∃ i : Nat, i ≤ m ∧ t = .int .i64 i ∧ (∀ j, j < i → Fine n l j) ∧ BMO w wr n ao m c) (fun t _ _ => m - (RowKit.intOf t).toNat)
    case atStart => exact ⟨0, by omega, rfl, fun j hj => absurd hj (Nat.not_lt_zero _), HB0.out⟩
    case round =>
      obtain ⟨i, him, rfl, hF, hB⟩ := hrel
      clear HB0
      have HFI := hide hF
      have HB := hide hB
      have b0 := cell_of hB.box (i := 0) rfl
      have b1 := cell_of hB.box (i := 1) rfl
      have r0 := cell_of hB.res (i := 0) rfl
      have r1 := cell_of hB.res (i := 1) rfl
      have r2 := cell_of hB.res (i := 2) rfl
      have r3 := cell_of hB.res (i := 3) rfl
      have q0 := free_of hB.res 0
      have q1 := free_of hB.res 1
      have q2 := free_of hB.res 2
      have q3 := free_of hB.res 3
      have hs1 := lt_of_heap hB.res
      clear hF hB
      by_cases hlt : i < m
      · have hil : i < l.length := by rw [← HM.out]; exact hlt
        obtain ⟨g, o, rfl, hgw, e0, e1, e2⟩ := (HR.out.below HB.out.bel).cellAt hil
        have hwt := HLU.out i hil
        obtain ⟨x1, hx1⟩ : ∃ x, x = (eAt l i).1 := ⟨_, rfl⟩
        obtain ⟨x2, hx2⟩ : ∃ x, x = (eAt l i).2.1 := ⟨_, rfl⟩
        obtain ⟨x3, hx3⟩ : ∃ x, x = (eAt l i).2.2 := ⟨_, rfl⟩
        rw [← hx1] at e0
        rw [← hx2] at e1
        rw [← hx3] at e2 hwt
        have HX1 := hide hx1; have HX2 := hide hx2; have HX3 := hide hx3
        have HBA := hide (HB.out.below ((Below.refl _ _).alloc (Nat.le_refl _) (.cells #[.int .i64 x1, .int .i64 x2, .int .u64 x3] 48)))
        have s0 := cell_of HBA.out.box (i := 0) rfl
        have s1 := cell_of HBA.out.box (i := 1) rfl
        have t0 := cell_of HBA.out.res (i := 0) rfl
        have t1 := cell_of HBA.out.res (i := 1) rfl
        have t2 := cell_of HBA.out.res (i := 2) rfl
        have t3 := cell_of HBA.out.res (i := 3) rfl
        have u0 := free_of HBA.out.res 0
        have u1 := free_of HBA.out.res 1
        have u2 := free_of HBA.out.res 2
        have u3 := free_of HBA.out.res 3
        have hel := heap_new wr (.cells #[.int .i64 x1, .int .i64 x2, .int .u64 x3] 48)
        have v0 := cell_of hel (i := 0) rfl
        have v1 := cell_of hel (i := 1) rfl
        have v2 := cell_of hel (i := 2) rfl
        clear hx1 hx2 hx3 hel
        have HPU := hide (HB.out.put (.int .i64 0) (.slice none 0 0) (.slice none 0 0) (.slice none 0 0))
        have hrf : (((((wr.setCell ⟨w.heap.size + 1, 0, none⟩ (.int .i64 0)).setCell ⟨w.heap.size + 1, 1, none⟩ (.slice none 0 0)).setCell ⟨w.heap.size + 1, 2, none⟩ (.slice none 0 0)).setCell ⟨w.heap.size + 1, 3, none⟩ (.slice none 0 0)).alloc (.cells #[.int .i64 x1, .int .i64 x2, .int .u64 x3] 48)).heap[w.heap.size + 1]? = some (.cells #[.int .i64 0, .slice none 0 0, .slice none 0 0, .slice none 0 0] 28 (0, 0)) :=
          (Below.heap_alloc _ _ _ (lt_of_heap HPU.out.1)).trans HPU.out.1
        have HRF := hide hrf
        have HBL := hide (below_alloc HPU.out.2.1 (.cells #[.int .i64 x1, .int .i64 x2, .int .u64 x3] 48))
        clear hrf
        go_wp2
        all_goals first
          | (refine ⟨⟨i + 1, by omega, by simp, fun j hj => ?_, HBA.out⟩, by simp [RowKit.intOf]; omega⟩
             rcases Nat.lt_or_ge j i with hji | hji
             · exact HFI.out j hji
             · obtain rfl : j = i := by omega
               unfold Fine
               rw [← HX1.out, ← HX2.out, ← HX3.out]
               omega)
          | exact bodyPost_ret (results_cell3 Try.results4 _ _ (w.heap.size + 1) 28 _ (0, 0) _ rfl HRF.out Try.underlying28 rfl (by kernel_rfl) (.int .i64 30) (.int .i64 i) rfl rfl) rfl ⟨30, i, rfl, by decide, HBL.out⟩
          | exact bodyPost_ret (results_cell3 Try.results4 _ _ (w.heap.size + 1) 28 _ (0, 0) _ rfl HRF.out Try.underlying28 rfl (by kernel_rfl) (.int .i64 31) (.int .i64 i) rfl rfl) rfl ⟨31, i, rfl, by decide, HBL.out⟩
      · exfalso
        obtain rfl : m = i := by omega
        have hm := HM.out
        exact HNT.out ⟨hn, by omega, fun i hi => (HFI.out i (by omega)).1, fun i hi => (HFI.out i (by omega)).2.1, fun i hi => ⟨HLU.out i hi, (HFI.out i (by omega)).2.2⟩⟩
  · go_enter Try.func4, Try.ntmps4
    go_wp2_with fail
    rw [← hw1] at HB0 ⊢
    exact bodyPost_ret (results_cell3 Try.results4 _ _ (w.heap.size + 1) 28 _ (0, 0) _ rfl HB0.out.res Try.underlying28 rfl (by kernel_rfl) (.int .i64 22) (.int .i64 (-1)) rfl rfl) rfl ⟨22, -1, rfl, by decide, HB0.out.bel⟩
theorem build_law (N : Int) (ev : Value) (l : List Ed3) (w : World) (hr : EAt w ev l) (hlu : ∀ i, i < l.length → 0 ≤ (eAt l i).2.2) :
    Calls Try.prog 4 #[.agg #[.int .i64 N, ev]] w (BldPost N w) := by
  obtain ⟨ao, c, rfl, hc, hcm, h3⟩ := id hr
  by_cases hN : N < 0 ∨ 1048576 < N
  · exact (build_size N ao l.length c w hN).mono fun e w' h => .inl ⟨22, -1, h.1, by decide, h.2⟩
  · obtain ⟨n, rfl⟩ := Int.eq_ofNat_of_zero_le (show 0 ≤ N by omega)
    by_cases hT : Takes n l
    · refine (buildR_good n ao c l w hr hT).mono ?_
      rintro e w' ⟨va, vb, vc, st, tl, wt, nx, rfl, hg, hs, hy, hb, _⟩
      have hF : ∀ i, i < l.length → eFrom l i < n := fun i hi => by have := hT.efr i hi; unfold eFrom; omega
      have hgd := hy.good hs hF hT.n_le hT.m_le
      refine .inr ⟨n, va, vb, vc, st, tl, wt, rfl, rfl, hg, hgd, fun e => ?_, hb⟩
      by_cases he : e < l.length
      · exact (hy.win e he).1
      · have : at_ wt e = 0 := by
          unfold at_
          rw [List.getElem?_eq_none (by rw [hy.wlen]; omega)]
          rfl
        rw [this]; decide
    · exact (build_bad n ao c l w hc (by omega) hr hlu hcm hT).mono fun e w' h => .inl h
end Go.Proofs.Ytiohimbifjlfdaa
