/- TopBellman: copies, along, Build of a list that comes in, reaches, straight. -/
import Derived.Test.YthoklgdlnmccmaaStG
import Derived.Test.YthoklgdlnmccmaaLenWalk
import Derived.Test.YthoklgdlnmccmaaFound
import Derived.Test.YthoklgdlnmccmaaMoreH
import Derived.Test.YthoklgdlnmccmaaProvG
import Derived.BigRegion
import Derived.BigQuiet
namespace Go.Proofs.Ythoklgdlnmccmaa
open Go.RowKit Go.Lib
set_option linter.unusedVariables false

theorem Try.results53 : Try.f53.results = #[.cell 2 32] := by kernel_rfl
theorem copy_end {w W w3 : World} {N : Int} {ao1 ao2 ao3 : Option Addr} {n1 n2 n3 c1 c2 c3 : Nat} {st tl wt : List Int} {q0 q1 q2 q3 : Value} (hbW : Below w.heap.size w W) (hb3 : Below W.heap.size W w3)
    (hz : w3.heap[w.heap.size + 1]? = some (.cells #[q0, q1, q2, q3] 32 (0, 0))) (h1 : RowAt .i64 w3 (.slice ao1 n1 c1) st) (h2 : RowAt .i64 w3 (.slice ao2 n2 c2) tl) (h3 : RowAt .u64 w3 (.slice ao3 n3 c3) wt)
    (m1 : ∀ a, ao1 = some a → ¬ a.block = w.heap.size + 1) (m2 : ∀ a, ao2 = some a → ¬ a.block = w.heap.size + 1) (m3 : ∀ a, ao3 = some a → ¬ a.block = w.heap.size + 1) :
    let wf := (((w3.setCell ⟨w.heap.size + 1, 0, none⟩ (.int .i64 N)).setCell ⟨w.heap.size + 1, 1, none⟩ (.slice ao1 n1 c1)).setCell ⟨w.heap.size + 1, 2, none⟩ (.slice ao2 n2 c2)).setCell ⟨w.heap.size + 1, 3, none⟩ (.slice ao3 n3 c3)
    wf.heap[w.heap.size + 1]? = some (.cells #[.int .i64 N, .slice ao1 n1 c1, .slice ao2 n2 c2, .slice ao3 n3 c3] 32 (0, 0)) ∧
      GIs wf N (.slice ao1 n1 c1) (.slice ao2 n2 c2) (.slice ao3 n3 c3) st tl wt ∧ Below w.heap.size w wf := by
  intro wf
  have hh := heap_set (i := 3) (heap_set (i := 2) (heap_set (i := 1) (heap_set (i := 0) hz (.int .i64 N)) (.slice ao1 n1 c1)) (.slice ao2 n2 c2)) (.slice ao3 n3 c3)
  have hw : wf.heap[w.heap.size + 1]? = some (.cells #[.int .i64 N, .slice ao1 n1 c1, .slice ao2 n2 c2, .slice ao3 n3 c3] 32 (0, 0)) := by
    show ((((w3.setCell ⟨w.heap.size + 1, 0, none⟩ (.int .i64 N)).setCell ⟨w.heap.size + 1, 1, none⟩ (.slice ao1 n1 c1)).setCell ⟨w.heap.size + 1, 2, none⟩ (.slice ao2 n2 c2)).setCell ⟨w.heap.size + 1, 3, none⟩ (.slice ao3 n3 c3)).heap[w.heap.size + 1]? = _
    rw [hh]
    simp
  refine ⟨hw, ⟨?_, ?_, ?_⟩, ?_⟩
  · exact (((h1.setOther _ _ _ m1).setOther _ _ _ m1).setOther _ _ _ m1).setOther _ _ _ m1
  · exact (((h2.setOther _ _ _ m2).setOther _ _ _ m2).setOther _ _ _ m2).setOther _ _ _ m2
  · exact (((h3.setOther _ _ _ m3).setOther _ _ _ m3).setOther _ _ _ m3).setOther _ _ _ m3
  · have hb : Below w.heap.size w w3 := below_on hbW hb3
    exact (((hb.setCell (p := ⟨w.heap.size + 1, 0, none⟩) (by show w.heap.size ≤ w.heap.size + 1; omega) _).setCell (p := ⟨w.heap.size + 1, 1, none⟩) (by show w.heap.size ≤ w.heap.size + 1; omega) _).setCell (p := ⟨w.heap.size + 1, 2, none⟩) (by show w.heap.size ≤ w.heap.size + 1; omega) _).setCell (p := ⟨w.heap.size + 1, 3, none⟩) (by show w.heap.size ≤ w.heap.size + 1; omega) _

set_option maxRecDepth 100000 in
set_option maxHeartbeats 8000000 in
theorem copy_any (N : Int) (va vb vc : Value) (st tl wt : List Int) (w : World) (hg : GIs w N va vb vc st tl wt) (hst : st.length * 8 ≤ 140737488351232) (hto : tl.length * 8 ≤ 140737488351232) (hwt : wt.length * 8 ≤ 140737488351232) :
    Calls Try.prog 53 #[gAgg N va vb vc] w fun e w' => ∃ a b c, e = .returned (gAgg N a b c) ∧ GIs w' N a b c st tl wt ∧ Below w.heap.size w w' := by
  obtain ⟨i0, hi, hz0, hz1, hz2⟩ := info_parts Try.info3
  obtain ⟨j0, hj, hy0, hy1, hy2⟩ := info_parts Try.info22
  obtain ⟨ao, ca, rfl⟩ := hg.s.shape
  obtain ⟨bo, cb, rfl⟩ := hg.t.shape
  obtain ⟨co, cc, rfl⟩ := hg.u.shape
  have HG := hide hg
  clear hg
  unfold gAgg
  go_enter Try.func53, Try.ntmps53
  go_wp2_with fail
  obtain ⟨W, hW⟩ : ∃ W, W = (w.alloc (.cells #[.int .i64 N, .slice ao st.length ca, .slice bo tl.length cb, .slice co wt.length cc] 32)).alloc (.cells #[.int .i64 0, .slice none 0 0, .slice none 0 0, .slice none 0 0] 32) := ⟨_, rfl⟩
  have hbW : Below w.heap.size w W := by rw [hW]; exact below_alloc (below_alloc (Below.refl _ _) _) _
  have hA : W.heap[w.heap.size]? = some (.cells #[.int .i64 N, .slice ao st.length ca, .slice bo tl.length cb, .slice co wt.length cc] 32 (0, 0)) := by
    rw [hW]
    exact (((Below.refl _ _).alloc (Nat.le_refl _) _).block w.heap.size (by simp)).trans (heap_new w _)
  have hB : W.heap[w.heap.size + 1]? = some (.cells #[.int .i64 0, .slice none 0 0, .slice none 0 0, .slice none 0 0] 32 (0, 0)) := by
    rw [hW]
    have := heap_new (w.alloc (.cells #[.int .i64 N, .slice ao st.length ca, .slice bo tl.length cb, .slice co wt.length cc] 32)) (.cells #[.int .i64 0, .slice none 0 0, .slice none 0 0, .slice none 0 0] 32)
    simpa using this
  rw [← hW]
  have HA := hide hA; have HB := hide hB; have HBW := hide hbW
  have HGW := hide (HG.out.below hbW)
  obtain ⟨⟨c0, c1, c2, c3⟩, _⟩ := two_keep hA hB (Below.refl _ W)
  have HR := hide (Below.refl W.heap.size W)
  have hWs : w.heap.size + 1 < W.heap.size := lt_of_heap hB
  have m0 : ¬ w.heap.size = W.heap.size := by omega
  have m1 : ¬ w.heap.size = W.heap.size + 1 := by omega
  have m2 : ¬ w.heap.size = W.heap.size + 1 + 1 := by omega
  have m2' : ¬ w.heap.size = W.heap.size + 2 := by omega
  clear hA hB hbW hW
  have t0 : ∀ o1 o2 o3, (((W.alloc o1).alloc o2).alloc o3).drew.cell? ⟨w.heap.size, 0, none⟩ = some (.int .i64 N) := fun o1 o2 o3 => (two_keep HA.out HB.out (below_drew (below_alloc (below_alloc (below_alloc HR.out _) _) _))).1.1
  have t1 : ∀ o1 o2 o3, (((W.alloc o1).alloc o2).alloc o3).drew.cell? ⟨w.heap.size, 1, none⟩ = some (.slice ao st.length ca) := fun o1 o2 o3 => (two_keep HA.out HB.out (below_drew (below_alloc (below_alloc (below_alloc HR.out _) _) _))).1.2.1
  have t2 : ∀ o1 o2 o3, (((W.alloc o1).alloc o2).alloc o3).drew.cell? ⟨w.heap.size, 2, none⟩ = some (.slice bo tl.length cb) := fun o1 o2 o3 => (two_keep HA.out HB.out (below_drew (below_alloc (below_alloc (below_alloc HR.out _) _) _))).1.2.2.1
  have t3 : ∀ o1 o2 o3, (((W.alloc o1).alloc o2).alloc o3).drew.cell? ⟨w.heap.size, 3, none⟩ = some (.slice co wt.length cc) := fun o1 o2 o3 => (two_keep HA.out HB.out (below_drew (below_alloc (below_alloc (below_alloc HR.out _) _) _))).1.2.2.2
  refine wp_region_noPanic ?_
  go_region_held3 (fun x => x.cell? ⟨w.heap.size, 0, none⟩ = some (.int .i64 N) ∧ x.cell? ⟨w.heap.size, 1, none⟩ = some (.slice ao st.length ca) ∧ x.cell? ⟨w.heap.size, 2, none⟩ = some (.slice bo tl.length cb) ∧ x.cell? ⟨w.heap.size, 3, none⟩ = some (.slice co wt.length cc)) (first | go_keep | exact ⟨z0, z1, z2, z3⟩ | exact (two_keep HA.out HB.out (below_alloc (HR.out) _)).1 | exact (two_keep HA.out HB.out (below_drew (below_alloc (HR.out) _))).1 | exact (two_keep HA.out HB.out (below_alloc (below_alloc (HR.out) _) _)).1 | exact (two_keep HA.out HB.out (below_drew (below_alloc (below_alloc (HR.out) _) _))).1 | exact (two_keep HA.out HB.out (below_alloc (below_alloc (below_alloc (HR.out) _) _) _)).1 | exact (two_keep HA.out HB.out (below_drew (below_alloc (below_alloc (below_alloc (HR.out) _) _) _))).1 | exact (two_keep HA.out HB.out (below_alloc (HB1.out) _)).1 | exact (two_keep HA.out HB.out (below_drew (below_alloc (HB1.out) _))).1 | exact (two_keep HA.out HB.out (below_alloc (below_alloc (HB1.out) _) _)).1 | exact (two_keep HA.out HB.out (below_drew (below_alloc (below_alloc (HB1.out) _) _))).1 | exact (two_keep HA.out HB.out (below_alloc (HB2.out) _)).1 | exact (two_keep HA.out HB.out (below_drew (below_alloc (HB2.out) _))).1)
    (first
      | (refine step_fresh (by rfl) (.tmp 5) (.tmp 7) 29 (by rfl) .i64 3 i0 (.int .i64 0) 8 Try.underlying29 hi hz0 hz1 hz2 rfl _ st (by rfl) (HGW.out.below (by first | exact below_alloc (HR.out) _ | exact below_alloc (below_alloc (HR.out) _) _ | exact below_alloc (below_alloc (below_alloc (HR.out) _) _) _ | exact below_drew (below_alloc (HR.out) _) | exact below_drew (below_alloc (below_alloc (HR.out) _) _) | exact below_drew (below_alloc (below_alloc (below_alloc (HR.out) _) _) _))).s (by omega) (by unfold maxLen; omega) ?_; intro ao1 cp1 w1 hr1 hf1 hbel; have hB1 := below_on (a := W) (by first | exact below_alloc (HR.out) _ | exact below_alloc (below_alloc (HR.out) _) _ | exact below_alloc (below_alloc (below_alloc (HR.out) _) _) _ | exact below_drew (below_alloc (HR.out) _) | exact below_drew (below_alloc (below_alloc (HR.out) _) _) | exact below_drew (below_alloc (below_alloc (below_alloc (HR.out) _) _) _)) hbel; obtain ⟨⟨z0, z1, z2, z3⟩, zB⟩ := two_keep HA.out HB.out hB1; have o1a : ¬ w.heap.size = w1.heap.size := (by have hq := hB1.size; omega); have o1b : ¬ w.heap.size = w1.heap.size + 1 := (by have hq := hB1.size; omega); have hn1 : ∀ a, ao1 = some a → ¬ a.block = w.heap.size + 1 := (by intro a ha; rcases hf1 a ha with h | h <;> first | omega | (simp at h; omega)); have HN1 := hide hn1; clear hn1; have HB1 := hide hB1; have HR1 := hide hr1; have HZ := hide zB; have e0 : w1.cell? ⟨w.heap.size + 1, 0, none⟩ = some (.int .i64 0) := cell_of HZ.out rfl; have e1 : w1.cell? ⟨w.heap.size + 1, 1, none⟩ = some (.slice none 0 0) := cell_of HZ.out rfl; have e2 : w1.cell? ⟨w.heap.size + 1, 2, none⟩ = some (.slice none 0 0) := cell_of HZ.out rfl; have e3 : w1.cell? ⟨w.heap.size + 1, 3, none⟩ = some (.slice none 0 0) := cell_of HZ.out rfl; have q0 := free_of HZ.out 0; have q1 := free_of HZ.out 1; have q2 := free_of HZ.out 2; have q3 := free_of HZ.out 3; clear hr1 hf1 hbel hB1 zB)
      | (refine step_fresh (by rfl) (.tmp 9) (.tmp 11) 29 (by rfl) .i64 3 i0 (.int .i64 0) 8 Try.underlying29 hi hz0 hz1 hz2 rfl _ tl (by rfl) (HGW.out.below (by first | exact HB1.out | exact below_alloc (HB1.out) _ | exact below_alloc (below_alloc (HB1.out) _) _ | exact below_drew (HB1.out) | exact below_drew (below_alloc (HB1.out) _) | exact below_drew (below_alloc (below_alloc (HB1.out) _) _))).t (by omega) (by unfold maxLen; omega) ?_; intro ao2 cp2 w2 hr2 hf2 hbel; have hB2 := below_on (a := W) (by first | exact HB1.out | exact below_alloc (HB1.out) _ | exact below_alloc (below_alloc (HB1.out) _) _ | exact below_drew (HB1.out) | exact below_drew (below_alloc (HB1.out) _) | exact below_drew (below_alloc (below_alloc (HB1.out) _) _)) hbel; have hS2 : Below w1.heap.size w1 w2 := below_on (by first | exact Below.refl _ _ | exact below_alloc (Below.refl _ _) _ | exact below_alloc (below_alloc (Below.refl _ _) _) _ | exact below_drew (Below.refl _ _) | exact below_drew (below_alloc (Below.refl _ _) _) | exact below_drew (below_alloc (below_alloc (Below.refl _ _) _) _)) hbel; have HS2 := hide hS2; clear hS2; obtain ⟨⟨z0, z1, z2, z3⟩, zB⟩ := two_keep HA.out HB.out hB2; have o2a : ¬ w.heap.size = w2.heap.size := (by have hq := hB2.size; omega); have o2b : ¬ w.heap.size = w2.heap.size + 1 := (by have hq := hB2.size; omega); have p2 := HB1.out.size; have hn2 : ∀ a, ao2 = some a → ¬ a.block = w.heap.size + 1 := (by intro a ha; rcases hf2 a ha with h | h <;> first | omega | (simp at h; omega)); have HN2 := hide hn2; clear hn2; have HB2 := hide hB2; have HR2 := hide hr2; have HZ := hide zB; have e0 : w2.cell? ⟨w.heap.size + 1, 0, none⟩ = some (.int .i64 0) := cell_of HZ.out rfl; have e1 : w2.cell? ⟨w.heap.size + 1, 1, none⟩ = some (.slice none 0 0) := cell_of HZ.out rfl; have e2 : w2.cell? ⟨w.heap.size + 1, 2, none⟩ = some (.slice none 0 0) := cell_of HZ.out rfl; have e3 : w2.cell? ⟨w.heap.size + 1, 3, none⟩ = some (.slice none 0 0) := cell_of HZ.out rfl; have q0 := free_of HZ.out 0; have q1 := free_of HZ.out 1; have q2 := free_of HZ.out 2; have q3 := free_of HZ.out 3; clear hr2 hf2 hbel hB2 zB)
      | (refine step_fresh (by rfl) (.tmp 13) (.tmp 15) 30 (by rfl) .u64 22 j0 (.int .u64 0) 8 Try.underlying30 hj hy0 hy1 hy2 rfl _ wt (by rfl) (HGW.out.below (by first | exact HB2.out | exact below_alloc (HB2.out) _ | exact below_drew (HB2.out) | exact below_drew (below_alloc (HB2.out) _))).u (by omega) (by unfold maxLen; omega) ?_; intro ao3 cp3 w3 hr3 hf3 hbel; have hB3 := below_on (a := W) (by first | exact HB2.out | exact below_alloc (HB2.out) _ | exact below_drew (HB2.out) | exact below_drew (below_alloc (HB2.out) _)) hbel; have hS3 : Below w2.heap.size w2 w3 := below_on (by first | exact Below.refl _ _ | exact below_alloc (Below.refl _ _) _ | exact below_drew (Below.refl _ _) | exact below_drew (below_alloc (Below.refl _ _) _)) hbel; have HS3 := hide hS3; clear hS3; obtain ⟨⟨z0, z1, z2, z3⟩, zB⟩ := two_keep HA.out HB.out hB3; have o3a : ¬ w.heap.size = w3.heap.size := (by have hq := hB3.size; omega); have o3b : ¬ w.heap.size = w3.heap.size + 1 := (by have hq := hB3.size; omega); have p3 := HB2.out.size; have hn3 : ∀ a, ao3 = some a → ¬ a.block = w.heap.size + 1 := (by intro a ha; rcases hf3 a ha with h | h <;> first | omega | (simp at h; omega)); have HN3 := hide hn3; clear hn3; have HB3 := hide hB3; have HR3 := hide hr3; have HZ := hide zB; have e0 : w3.cell? ⟨w.heap.size + 1, 0, none⟩ = some (.int .i64 0) := cell_of HZ.out rfl; have e1 : w3.cell? ⟨w.heap.size + 1, 1, none⟩ = some (.slice none 0 0) := cell_of HZ.out rfl; have e2 : w3.cell? ⟨w.heap.size + 1, 2, none⟩ = some (.slice none 0 0) := cell_of HZ.out rfl; have e3 : w3.cell? ⟨w.heap.size + 1, 3, none⟩ = some (.slice none 0 0) := cell_of HZ.out rfl; have q0 := free_of HZ.out 0; have q1 := free_of HZ.out 1; have q2 := free_of HZ.out 2; have q3 := free_of HZ.out 3; clear hr3 hf3 hbel hB3 zB))
  all_goals
    refine NoPanic.normal ?_
    obtain ⟨hwf, hG, hL⟩ := copy_end HBW.out HB3.out HZ.out ((HR1.out.below HS2.out).below HS3.out) (HR2.out.below HS3.out) HR3.out HN1.out HN2.out HN3.out
    have HGG := hide hG; have HLL := hide hL; have HWF := hide hwf
    generalize ((((w3.setCell ⟨w.heap.size + 1, 0, none⟩ (.int .i64 N)).setCell ⟨w.heap.size + 1, 1, none⟩ (.slice ao1 st.length cp1)).setCell ⟨w.heap.size + 1, 2, none⟩ (.slice ao2 tl.length cp2)).setCell ⟨w.heap.size + 1, 3, none⟩ (.slice ao3 wt.length cp3)) = wf at HWF HGG HLL ⊢
    clear hG hL hwf
    go_wp2
    exact bodyPost_ret (results_cell_row Try.results53 _ wf (w.heap.size + 1) 32 _ (0, 0) _ rfl HWF.out Try.underlying32 rfl (by kernel_rfl)) rfl ⟨_, _, _, rfl, HGG.out, HLL.out⟩
end Go.Proofs.Ythoklgdlnmccmaa

namespace Go.Proofs.Ythoklgdlnmccmaa
open Go.RowKit Go.Lib
set_option linter.unusedVariables false
theorem sCells_one (l : List Pr) : ∀ u ∈ sCells l, u.oneCell' = true := by
  induction l with
  | nil => intro u h; simp [sCells] at h
  | cons a l ih =>
    intro u h
    simp only [sCells, List.flatMap_cons, List.mem_append] at h ih
    rcases h with h | h
    · simp at h; rcases h with rfl | rfl <;> simp [Value.oneCell']
    · exact ih u h
theorem SRow.sat {w : World} {v : Value} {l : List Pr} (h : SRow w v l) : SAt w v l := by
  rcases h with ⟨rfl, rfl⟩ | ⟨g, c, rfl, h1, h2, h3⟩
  · exact ⟨_, _, rfl, by simp, by decide, fun i hi => by simp at hi⟩
  · exact ⟨_, _, rfl, h1, h2, fun i hi => ⟨g, 0, rfl, by simpa using h3 i hi⟩⟩
/-- 'append(nil, xs...)' of starts. -/
theorem wpList_nilS {P : Program} {w : World} {ops : Array Oper} {rest : List Oper} {o : Oper} {a : Act} {Q : Exit → Act → World → Prop} (hgd : o.guard = none) (s x : Operand) (t : TypeId)
    (hop : o.op = .call { callee := .builtin .append, args := #[s, x], argTypes := #[t, t] })
    (i : TypeInfo) (z : Value) (ht : P.underlying t = some (.slice 41)) (hi : P.info? 41 = some i) (hz : i.zero = some z)
    (hsize : i.size = 2) (hby : i.bytes = 16) (hzs : z.cells.size = 2) (xv : Value) (xs : List Pr) (hs : a.eval s = .slice none 0 0) (hx : a.eval x = xv) (hrow : SAt w xv xs) (hb : xs.length * 16 ≤ 140737488355328)
    (h : ∀ v' w', SAt w' v' xs → Below w.heap.size w w' → wpList P ops Q rest (a.put o.dst v') w') : wpList P ops Q (o :: rest) a w := by
  obtain ⟨xo, c, rfl, h1, h2, h4⟩ := hrow
  rcases Nat.eq_zero_or_pos xs.length with h0 | h0
  · refine wpList_plain hgd fun K hK => ?_
    obtain rfl : xs = [] := List.eq_nil_of_length_eq_zero h0
    have hsrc : Src P i.size t (.slice xo 0 c) 0 [] w := by
      cases xo with
      | none => exact Src.ofNil w ht c
      | some a => exact Src.ofSlice w ht a 0 c [] (by simp) (fun j u h => by simp at h) (by simp)
    have hrun := run_append_nothing w t t o.type 41 i ht hi none 0 0 (Nat.le_refl _) _ hsrc
    have hx' : a.eval x = .slice xo 0 c := hx
    unfold Oper.wp
    simp [execOp, hop, resolve, invoke, builtin, hs, hx', hrun, Result.andThen]
    exact hK _ _ (h _ _ ⟨_, _, rfl, by simp, by decide, fun i hi => by simp at hi⟩ (Below.refl _ _))
  · obtain ⟨g, q, rfl, _, _⟩ := h4 0 h0
    have h5 : ∀ i, i < xs.length → w.cell? ⟨g, q + i * 2, none⟩ = some (.int .i64 (sAt xs i).1) ∧ w.cell? ⟨g, q + i * 2 + 1, none⟩ = some (.int .u64 (sAt xs i).2) := by
      intro i hi
      obtain ⟨g', q', he, p1, p2⟩ := h4 i hi
      simp only [Option.some.injEq, Addr.mk.injEq] at he
      obtain ⟨rfl, rfl, _⟩ := he
      exact ⟨p1, p2⟩
    refine wpList_append_own _ hgd s x t hop w.heap.size 41 i z 2 16 ht hi hz hsize hby hzs (by decide) (.slice none 0 0) 0 [] hs ⟨rfl, .inl ⟨rfl, rfl⟩⟩ ⟨g, q, none⟩ xs.length c (sCells xs) hx (by rw [sCells_length]) (sCells_at_all h5) (sCells_one xs) (by unfold maxLen; omega) (by omega) (Nat.le_refl _) ?_
    intro v' w' hown hgrow _
    refine h v' w' (SRow.of_owns (base := w.heap.size) (by simpa using hown)).sat ((Below.refl _ _).grown hgrow (Nat.le_refl _) (by intro j hj; cases hj))
set_option maxRecDepth 100000 in
set_option maxHeartbeats 2000000 in
theorem copyStarts_any (xv : Value) (xs : List Pr) (w : World) (hx : SAt w xv xs) (hb : xs.length * 16 ≤ 140737488353280) :
    Calls Try.prog 54 #[xv] w fun e w' => ∃ v, e = .returned v ∧ SAt w' v xs ∧ Below w.heap.size w w' := by
  obtain ⟨i0, hi, hz0, hz1, hz2⟩ := info_parts Try.info41
  obtain ⟨ao, ca, rfl⟩ : ∃ ao c, xv = .slice ao xs.length c := by obtain ⟨ao, c, h, _⟩ := hx; exact ⟨ao, c, h⟩
  have HX := hide hx
  clear hx
  go_enter Try.func54, Try.ntmps54
  go_wp2_with (first
    | (at_builtin; refine wpList_nilS rfl (.tmp 4) (.tmp 5) 33 rfl i0 (.agg #[.int .i64 0, .int .u64 0]) Try.underlying33 hi hz0 hz1 hz2 rfl _ xs rfl rfl HX.out (by omega) ?_; intro v1 w1 hS1 hB1; have HS1 := hide hS1; have HB1 := hide hB1; clear hS1 hB1)
    | fail)
  go_wp2
  go_ret
  exact ⟨_, rfl, HS1.out, HB1.out⟩
end Go.Proofs.Ythoklgdlnmccmaa

namespace Go.Proofs.Ythoklgdlnmccmaa
open Go.RowKit Go.Lib
set_option linter.unusedVariables false
abbrev planC (k : Int) (sv : Value) : Array Value := #[.int .i64 k, sv, .int .i64 0, .int .i64 0, .int .i64 0, .int .i64 0, .int .i64 0, .int .i64 0, .int .i64 0, .int .i64 0, .int .i64 0, .int .i64 0, .int .u64 0, .int .u64 0, .slice none 0 0, .bool false]
theorem ext_lt {k l x : Int} (h0 : 0 ≤ l) (h1 : l < 18446744073709551615) (hx : 0 ≤ x) : 0 ≤ ext k l x ∧ ext k l x < 18446744073709551615 := by
  unfold ext
  repeat' split
  all_goals omega
/-- The graph's box and the plan's. -/
structure AM (w x : World) (n : Nat) (va vb vc : Value) (k : Int) (sv : Value) : Prop where
  bg : x.heap[w.heap.size]? = some (.cells #[.int .i64 n, va, vb, vc] 32 (0, 0))
  bp : x.heap[w.heap.size + 1]? = some (.cells (planC k sv) 99 (0, 0))
  bel : Below w.heap.size w x
theorem AM.start (w : World) (n : Nat) (va vb vc : Value) (k : Int) (sv : Value) : AM w ((w.alloc (.cells #[.int .i64 n, va, vb, vc] 32)).alloc (.cells (planC k sv) 99)) n va vb vc k sv := by
  have hs : (w.alloc (.cells #[.int .i64 n, va, vb, vc] 32)).heap.size = w.heap.size + 1 := by simp
  refine ⟨?_, ?_, (((Below.refl _ _).alloc (Nat.le_refl _) _).alloc (by simp) _)⟩
  · exact (Below.heap_alloc _ _ _ (by rw [hs]; omega)).trans (heap_new _ _)
  · have := heap_new (w.alloc (.cells #[.int .i64 n, va, vb, vc] 32)) (.cells (planC k sv) 99)
    rw [hs] at this; exact this
def AlW (n : Nat) (st tl wt : List Int) (k : Int) (S : List Pr) (w : World) (e : Ending) (w' : World) : Prop :=
  ∃ v x : Int, e = .returned (.tuple #[.int .i64 v, .int .u64 x]) ∧ Below w.heap.size w w' ∧ (v = -1 ∨ ∃ u : Nat, u < n ∧ v = u ∧ Came n st tl wt k S u x)
set_option maxRecDepth 100000 in
set_option maxHeartbeats 4000000 in
theorem along_none (n : Nat) (va vb vc : Value) (st tl wt : List Int) (k : Int) (ao : Option Addr) (c : Nat) (wv : Value) (w : World) :
    Calls Try.prog 56 #[gAgg n va vb vc, .agg (planC k (.slice ao 0 c)), wv] w (AlW n st tl wt k [] w) := by
  have HK := hide (AM.start w n va vb vc k (.slice ao 0 c))
  have c1 := cell_of HK.out.bp (i := 1) rfl
  unfold gAgg planC at *
  go_enter Try.func56, Try.ntmps56
  go_wp2_with fail
  go_ret2
  exact ⟨_, _, rfl, HK.out.bel, .inl rfl⟩
set_option maxRecDepth 100000 in
set_option maxHeartbeats 8000000 in
theorem along_some (n : Nat) (va vb vc : Value) (st tl wt : List Int) (k : Int) (sv : Value) (S : List Pr) (wv : Value) (way : List Int) (w : World) (hg : GIs w n va vb vc st tl wt) (hgd : Good n st tl wt) (hwb : ∀ e, 0 ≤ at_ wt e ∧ at_ wt e ≤ 18446744073709551615)
    (hs : SAt w sv S) (hok : Sok n S) (hS : 0 < S.length) (hw : RowAt .i64 w wv way) (hwl0 : way.length * 8 ≤ 140737488351232) (hwi : ∀ i, -9223372036854775808 ≤ at_ way i ∧ at_ way i ≤ 9223372036854775807) :
    Calls Try.prog 56 #[gAgg n va vb vc, .agg (planC k sv), wv] w (AlW n st tl wt k S w) := by
  obtain ⟨ao, ca, rfl⟩ := hg.s.shape
  obtain ⟨bo, cb, rfl⟩ := hg.t.shape
  obtain ⟨co, cc, rfl⟩ := hg.u.shape
  obtain ⟨wo, wc, rfl⟩ := hw.shape
  obtain ⟨so, sc, rfl, hsc, hscm, hsa⟩ := hs
  obtain ⟨gs, os, rfl, hs0, hs1⟩ := hsa 0 hS
  have hm := hgd.m_le
  have hn := hgd.n_le
  obtain ⟨v0, hv0⟩ : ∃ v0 : Nat, (sAt S 0).1 = (v0 : Int) := ⟨(sAt S 0).1.toNat, by have := (hok 0 hS).1; omega⟩
  have hv0n : v0 < n := by have := (hok 0 hS).1; omega
  obtain ⟨x0, hx0⟩ : ∃ x0, x0 = (sAt S 0).2 := ⟨_, rfl⟩
  have hx0b : 0 ≤ x0 ∧ x0 < 18446744073709551615 := by have := (hok 0 hS).2; omega
  have hcm0 : Came n st tl wt k S v0 x0 := Came.start 0 v0 x0 hS hv0n (Prod.ext hv0 hx0.symm)
  rw [hv0] at hs0
  rw [← hx0] at hs1
  have HK := hide (AM.start w n (.slice ao st.length ca) (.slice bo tl.length cb) (.slice co wt.length cc) k (.slice (some ⟨gs, os, none⟩) S.length sc))
  obtain ⟨w1, hw1⟩ : ∃ w1, w1 = (w.alloc (.cells #[.int .i64 n, .slice ao st.length ca, .slice bo tl.length cb, .slice co wt.length cc] 32)).alloc (.cells (planC k (.slice (some ⟨gs, os, none⟩) S.length sc)) 99) := ⟨_, rfl⟩
  rw [← hw1] at HK
  have HG1 := hide (hg.below HK.out.bel)
  have HW1 := hide (hw.below HK.out.bel)
  have e0 : w1.cell? ⟨gs, os, none⟩ = some (.int .i64 v0) := (below_cell HK.out.bel (block_of_cell hs0)).trans (by simpa using hs0)
  have e1 : w1.cell? ⟨gs, os + 1, none⟩ = some (.int .u64 x0) := (below_cell HK.out.bel (block_of_cell hs1)).trans (by simpa using hs1)
  have c1 := cell_of HK.out.bp (i := 1) rfl
  have g0 := cell_of HK.out.bg (i := 0) rfl
  have g1 := cell_of HK.out.bg (i := 1) rfl
  have g2 := cell_of HK.out.bg (i := 2) rfl
  have g3 := cell_of HK.out.bg (i := 3) rfl
  have p0 := cell_of HK.out.bp (i := 0) rfl
  have HC0 := hide hcm0
  have hSi : (0 : Int) < (S.length : Int) := by omega
  have hSz : ((S.length : Int) == 0) = false := by rw [beq_eq_false_iff_ne]; omega
  obtain ⟨L, hL⟩ : ∃ L, L = way.length := ⟨_, rfl⟩
  have HWC := hide (fun i (hi : i < way.length) => HW1.out.cellAt i hi)
  rw [← hL] at HWC hwl0 ⊢
  have HWI := hide hwi
  have HGD := hide hgd
  have HWB := hide hwb
  unfold gAgg planC at *
  clear hsa hs0 hs1 hg hw hwi hgd hwb hcm0 hv0 hx0 hok hL
  rw [hw1] at e0 e1 c1 g0 g1 g2 g3 p0
  go_enter Try.func56, Try.ntmps56
  go_wp2_with fail
  rw [← hw1] at *
  clear hw1 e0 e1 c1
  have HP0 := hide p0; have HGG := hide (And.intro g0 (And.intro g1 (And.intro g2 g3)))
  clear p0 g0 g1 g2 g3
  go_loopw [10, 8, 9] (fun t a b wr => ∃ (i v : Nat) (x : Int), i ≤ L ∧ t = .int .i64 i ∧ a = .int .i64 v ∧ b = .int .u64 x ∧ v < n ∧ (0 ≤ x ∧ x < 18446744073709551615) ∧ Hid (Came n st tl wt k S v x) ∧ ∃ m, wr = w1.drewN m) (fun t _ _ _ => L - (RowKit.intOf t).toNat)
  case atStart => exact ⟨0, v0, x0, by omega, rfl, rfl, rfl, hv0n, hx0b, HC0, 0, rfl⟩
  case round =>
    obtain ⟨i, v, x, hiL, rfl, rfl, rfl, hvn, hxb, HC, m, rfl⟩ := hrel
    obtain ⟨g0, g1, g2, g3⟩ := HGG.out
    have p0 := HP0.out
    by_cases hlt : i < L
    · by_cases hm0 : 0 < tl.length
      · obtain ⟨gw, ow, cw', hsw, hcw, d1⟩ := HWC.out i hlt
        simp only [Value.slice.injEq, true_and] at hsw
        obtain ⟨rfl, rfl⟩ := hsw
        have hyi := HWI.out i
        obtain ⟨y, hy⟩ : ∃ y, y = at_ way i := ⟨_, rfl⟩
        rw [← hy] at d1 hyi
        clear hy
        have hmi : (0 : Int) < (tl.length : Int) := by omega
        have hmn : ¬ (tl.length : Int) = 0 := by omega
        have hq1 : -(tl.length : Int) < y.tmod tl.length := by
          have := Int.lt_tmod_of_pos y hmi; omega
        have hq2 : y.tmod tl.length < (tl.length : Int) := Int.tmod_lt_of_pos y hmi
        have hstl : st.length = n + 1 := HGD.out.s_len
        obtain ⟨ga, oa, ca', hsa, hca, r0⟩ := HG1.out.s.cellAt v (by omega)
        simp only [Value.slice.injEq, true_and] at hsa
        obtain ⟨rfl, rfl⟩ := hsa
        obtain ⟨ga', oa', ca'', hsa, _, r1⟩ := HG1.out.s.cellAt (v + 1) (by omega)
        simp only [Value.slice.injEq, true_and, Option.some.injEq, Addr.mk.injEq, and_true] at hsa
        obtain ⟨⟨rfl, rfl⟩, rfl⟩ := hsa
        obtain ⟨e, he⟩ : ∃ e : Nat, (e : Int) = if y.tmod tl.length < 0 then y.tmod tl.length + tl.length else y.tmod tl.length := by
          refine ⟨(if y.tmod tl.length < 0 then y.tmod tl.length + tl.length else y.tmod tl.length).toNat, ?_⟩
          split <;> omega
        have hem : e < tl.length := by split at he <;> omega
        have hwl : wt.length = tl.length := HGD.out.w_len
        obtain ⟨gb, ob, cb', hsb, hcb, r2⟩ := HG1.out.t.cellAt e hem
        simp only [Value.slice.injEq, true_and] at hsb
        obtain ⟨rfl, rfl⟩ := hsb
        obtain ⟨gc, oc, cc', hsc', hcc, r3⟩ := HG1.out.u.cellAt e (by omega)
        simp only [Value.slice.injEq, true_and] at hsc'
        obtain ⟨rfl, rfl⟩ := hsc'
        have hwz := HWB.out e
        have hto := HGD.out.vtx e hem
        obtain ⟨z, hz⟩ : ∃ z, z = at_ wt e := ⟨_, rfl⟩
        obtain ⟨u, hu⟩ : ∃ u : Nat, at_ tl e = (u : Int) := ⟨(at_ tl e).toNat, by omega⟩
        have hun : u < n := by omega
        have HTU : Hid (tov tl e = u) := by unfold Hid tov; omega
        have HZ := hide hz
        rw [← hz] at r3 hwz
        rw [hu] at r2
        have HEX := hide (fun W => refExtend_any k x z W hxb.1 (by omega) hwz.1 hwz.2)
        obtain ⟨E, hE⟩ : ∃ E, E = ext k x z := ⟨_, rfl⟩
        have HE := hide hE
        rw [← hE] at HEX
        obtain ⟨s0, hs0⟩ : ∃ s0, s0 = at_ st v := ⟨_, rfl⟩
        obtain ⟨s1, hs1⟩ : ∃ s1, s1 = at_ st (v + 1) := ⟨_, rfl⟩
        have HS0 := hide hs0; have HS1 := hide hs1
        rw [← hs0] at r0
        rw [← hs1] at r1
        clear hz hu hE hs0 hs1 hto
        have hvi : (v : Int) < (st.length : Int) := by omega
        have hvi1 : (v : Int) + 1 < (st.length : Int) := by omega
        have hei : (e : Int) < (wt.length : Int) := by omega
        have hei2 : (e : Int) < (tl.length : Int) := by omega
        have HNX : Hid ((s0 ≤ (e : Int) ∧ (e : Int) < s1) → Came n st tl wt k S u E ∧ 0 ≤ E ∧ E < 18446744073709551615) := fun hin => by
          have hsv : src st n e = v := src_eq HGD.out hvn (by have := HS0.out; omega) (by have := HS1.out; omega)
          have h1 := HC.out
          rw [← hsv] at h1
          have h2 := Came.edge e x hem (by unfold Nev; omega) h1
          rw [HTU.out, ← HZ.out, ← HE.out] at h2
          have h3 := ext_lt (k := k) hxb.1 hxb.2 hwz.1
          rw [← HE.out] at h3
          exact ⟨h2, h3⟩
        clear hstl hwl
        by_cases hin : s0 ≤ (e : Int) ∧ (e : Int) < s1
        · obtain ⟨HCN, hE0, hE1⟩ := HNX.out hin
          have HCE := hide HCN
          clear HCN HNX HE HZ HTU HS0 HS1
          by_cases hq : y.tmod tl.length < 0
          · rw [if_pos hq] at he
            go_wp2_with fail
            go_quiet (fail)
            go_wp2_with fail
            rw [← he]
            clear he hq1 hq2 hq
            go_quiet (first | (go_at_call 73; exact (HEX.out _).mono fun _ _ h => ⟨h.1, _, h.2⟩))
            go_wp2
            go_roundw
            case rel => exact ⟨i + 1, u, E, by omega, by simp, rfl, rfl, hun, ⟨hE0, hE1⟩, HCE, _, rfl⟩
            case measure => simp [RowKit.intOf]; omega
          · rw [if_neg hq] at he
            go_wp2_with fail
            go_quiet (fail)
            go_wp2_with fail
            rw [← he]
            clear he hq1 hq2 hq
            go_quiet (first | (go_at_call 73; exact (HEX.out _).mono fun _ _ h => ⟨h.1, _, h.2⟩))
            go_wp2
            go_roundw
            case rel => exact ⟨i + 1, u, E, by omega, by simp, rfl, rfl, hun, ⟨hE0, hE1⟩, HCE, _, rfl⟩
            case measure => simp [RowKit.intOf]; omega
        · clear HNX HE HZ HTU HS0 HS1
          by_cases hq : y.tmod tl.length < 0
          · rw [if_pos hq] at he
            by_cases hi0 : s0 ≤ (e : Int)
            · go_wp2_with fail
              go_quiet (fail)
              go_wp2
              go_roundw
              case rel => exact ⟨i + 1, v, x, by omega, by simp, rfl, rfl, hvn, hxb, HC, _, rfl⟩
              case measure => simp [RowKit.intOf]; omega
            · go_wp2_with fail
              go_quiet (fail)
              go_wp2
              go_roundw
              case rel => exact ⟨i + 1, v, x, by omega, by simp, rfl, rfl, hvn, hxb, HC, _, rfl⟩
              case measure => simp [RowKit.intOf]; omega
          · rw [if_neg hq] at he
            by_cases hi0 : s0 ≤ (e : Int)
            · go_wp2_with fail
              go_quiet (fail)
              go_wp2
              go_roundw
              case rel => exact ⟨i + 1, v, x, by omega, by simp, rfl, rfl, hvn, hxb, HC, _, rfl⟩
              case measure => simp [RowKit.intOf]; omega
            · go_wp2_with fail
              go_quiet (fail)
              go_wp2
              go_roundw
              case rel => exact ⟨i + 1, v, x, by omega, by simp, rfl, rfl, hvn, hxb, HC, _, rfl⟩
              case measure => simp [RowKit.intOf]; omega
      · have hm0' : tl.length = 0 := by omega
        have hli : (i : Int) < (L : Int) := by omega
        rw [hm0'] at g2
        go_wp2
        go_ret2
        exact ⟨_, _, rfl, HK.out.bel.trans (below_drewN (Below.refl _ _) _), .inr ⟨v, hvn, rfl, HC.out⟩⟩
    · obtain rfl : i = L := by omega
      go_wp2
      go_ret2
      exact ⟨_, _, rfl, below_drewN HK.out.bel _, .inr ⟨v, hvn, rfl, HC.out⟩⟩
end Go.Proofs.Ythoklgdlnmccmaa

namespace Go.Proofs.Ythoklgdlnmccmaa
open Go.RowKit Go.Lib
set_option linter.unusedVariables false
/-- Edges that come in. -/
def EAt (w : World) (v : Value) (l : List Ed3) : Prop :=
  ∃ ao c, v = .slice ao l.length c ∧ l.length ≤ c ∧ c ≤ 9223372036854775807 ∧
    ∀ i, i < l.length → ∃ g o, ao = some ⟨g, o, none⟩ ∧ w.cell? ⟨g, o + i * 3, none⟩ = some (.int .i64 (eAt l i).1) ∧ w.cell? ⟨g, o + i * 3 + 1, none⟩ = some (.int .i64 (eAt l i).2.1) ∧ w.cell? ⟨g, o + i * 3 + 2, none⟩ = some (.int .u64 (eAt l i).2.2)
theorem EAt.below {w w' : World} {v : Value} {l : List Ed3} (h : EAt w v l) (hb : Below w.heap.size w w') : EAt w' v l := by
  obtain ⟨ao, c, rfl, h1, h2, h3⟩ := h
  refine ⟨ao, c, rfl, h1, h2, fun i hi => ?_⟩
  obtain ⟨g, o, he, p, q, r⟩ := h3 i hi
  have hl : g < w.heap.size := block_of_cell p
  exact ⟨g, o, he, (below_cell hb hl).trans p, (below_cell hb hl).trans q, (below_cell hb hl).trans r⟩
theorem EAt.cellAt {w : World} {ao : Option Addr} {c : Nat} {l : List Ed3} (h : EAt w (.slice ao l.length c) l) {i : Nat} (hi : i < l.length) :
    ∃ g o, ao = some ⟨g, o, none⟩ ∧ g < w.heap.size ∧ w.cell? ⟨g, o + i * 3, none⟩ = some (.int .i64 (eAt l i).1) ∧ w.cell? ⟨g, o + i * 3 + 1, none⟩ = some (.int .i64 (eAt l i).2.1) ∧ w.cell? ⟨g, o + i * 3 + 2, none⟩ = some (.int .u64 (eAt l i).2.2) := by
  obtain ⟨ao', c', he, _, _, h3⟩ := h
  simp only [Value.slice.injEq, true_and] at he
  obtain ⟨rfl, rfl⟩ := he
  obtain ⟨g, o, e, p, q, r⟩ := h3 i hi
  exact ⟨g, o, e, block_of_cell p, p, q, r⟩
theorem LM.edgeO {w wr : World} {X n c : Nat} {ao : Option Addr} {vb vc : Value} {s : List Int} {l : List Ed3} (h : LM w wr X n vb vc s) (hr : EAt w (.slice ao l.length c) l) {i : Nat} (hi : i < l.length) :
    ∃ g o, ao = some ⟨g, o, none⟩ ∧ g < w.heap.size ∧ wr.cell? ⟨g, o + i * 3, none⟩ = some (.int .i64 (eAt l i).1) ∧ wr.cell? ⟨g, o + i * 3 + 1, none⟩ = some (.int .i64 (eAt l i).2.1) ∧ wr.cell? ⟨g, o + i * 3 + 2, none⟩ = some (.int .u64 (eAt l i).2.2) := by
  obtain ⟨g, o, e, hg, _⟩ := hr.cellAt hi
  obtain ⟨g', o', e', _, p⟩ := (hr.below h.bel).cellAt hi
  rw [e] at e'
  simp only [Option.some.injEq, Addr.mk.injEq, and_true] at e'
  obtain ⟨rfl, rfl⟩ := e'
  exact ⟨g, o, e, hg, p⟩
set_option maxRecDepth 100000 in
set_option maxHeartbeats 4000000 in
theorem laidO_any (n : Nat) (ao : Option Addr) (c : Nat) (l : List Ed3) (w : World) (hc : l.length ≤ c) (hr : EAt w (.slice ao l.length c) l) (ht : Takes n l) :
    Calls Try.prog 84 #[.int .i64 n, .slice ao l.length c] w (LaidPost n l w) := by
  obtain ⟨i0, hi, hz0, hz1, hz2⟩ := info_parts Try.info3
  obtain ⟨i1, hj, hy0, hy1, hy2⟩ := info_parts Try.info22
  have hn := ht.n_le
  have hm := ht.m_le
  obtain ⟨m, hme⟩ : ∃ m, m = l.length := ⟨_, rfl⟩
  rw [← hme] at hm hc ⊢
  have HR := hide hr
  have HT := hide ht
  have HM := hide hme
  clear hr ht hme
  go_enter Try.func84, Try.ntmps84
  go_wp2_with (at_make; refine wpList_make_full _ rfl _ _ 29 rfl w.heap.size 3 i0 (.int .i64 0) 1 Try.underlying29 hi hz0 hz1 _ _ _ _ (n + 1) rfl rfl (by omega) (by omega) (by rw [hz2]; omega) (by unfold maxLen; omega) (by simp) ?_; intro w2 hown hgrow)
  have HL0 : Hid (LM w (w2.alloc (.cells #[.int .i64 n, .slice (some ⟨w.heap.size + 1, 0, none⟩) (n + 1) (n + 1), .slice none 0 0, .slice none 0 0] 32)) w2.heap.size n (.slice none 0 0) (.slice none 0 0) (tab (n + 1) fun _ => 0)) := LM.start hown hgrow
  clear hown hgrow
  generalize hX : w2.heap.size = X at HL0 ⊢
  generalize (w2.alloc (.cells #[.int .i64 n, .slice (some ⟨w.heap.size + 1, 0, none⟩) (n + 1) (n + 1), .slice none 0 0, .slice none 0 0] 32)) = w3 at HL0 ⊢
  clear hX w2
  go_loopw [6] (fun t wr => ∃ (i : Nat) (s : List Int), i ≤ m ∧ t = .int .i64 i ∧ Tally n (eFrom l) i s ∧ LM w wr X n (.slice none 0 0) (.slice none 0 0) s) (fun t _ => m - (RowKit.intOf t).toNat)
  case atStart => exact ⟨0, tab (n + 1) (fun _ => 0), by omega, rfl, ⟨tab_length _ _, tab_at _ _ _ (by omega), fun v hv => tab_at (n + 1) (fun _ => 0) (v + 1) (by omega)⟩, HL0.out⟩
  case round =>
    obtain ⟨i, s, him, rfl, hT, hL⟩ := hrel
    clear HL0
    by_cases hlt : i < m
    · have b1 := cell_of hL.box (i := 1) rfl
      have HE := hide (HT.out.efr i (by rw [← HM.out]; exact hlt))
      obtain ⟨f, hf⟩ : ∃ f, f = eFrom l i := ⟨_, rfl⟩
      have hfn : f < n := by have := HE.out; unfold eFrom at hf; omega
      obtain ⟨g, o, rfl, hgw, e1, _, _⟩ := hL.edgeO HR.out (i := i) (by rw [← HM.out]; exact hlt)
      rw [show (eAt l i).1 = (f : Int) by rw [hf]; unfold eFrom; rw [Int.toNat_of_nonneg HE.out.1]] at e1
      have s1 := hL.arr.cell (f + 1) (by rw [hT.1]; omega)
      have fr := hL.arr.free (f + 1)
      obtain ⟨y, hy, hym⟩ : ∃ y : Nat, at_ s (f + 1) = (y : Int) ∧ y ≤ m := ⟨_, hT.2.2 f hfn, Nat.le_trans (cnt_le _ _) him⟩
      rw [hy] at s1
      have hXB := hL.lt
      have HXL := hide hL; have HXT := hide hT; have HF := hide hf; have HY := hide hy
      clear hL hT hf hy
      go_wp2
      go_region
      go_wp2
      refine ⟨⟨i + 1, s.set (f + 1) ((y : Int) + 1), by omega, by simp, ?_, HXL.out.put _ _⟩, by simp [RowKit.intOf]; omega⟩
      have := HXT.out.step (by rw [← HF.out]; exact hfn)
      rw [← HF.out, HY.out] at this
      exact this
    · obtain rfl : m = i := by omega
      have HL1 := hide hL; have HS1 := hide hT.summed
      clear hL hT
      go_wp2
      go_loopw [7] (fun t wr => ∃ (v : Nat) (s : List Int), v ≤ n ∧ t = .int .i64 v ∧ Summed n m (eFrom l) v s ∧ LM w wr X n (.slice none 0 0) (.slice none 0 0) s) (fun t _ => n - (RowKit.intOf t).toNat)
      case atStart => exact ⟨0, _, by omega, rfl, HS1.out, HL1.out⟩
      case round =>
        obtain ⟨v, s, hvn, rfl, hT, hL⟩ := hrel
        clear HL1 HS1
        by_cases hlt : v < n
        · have b1 := cell_of hL.box (i := 1) rfl
          have s0 := hL.arr.cell v (by rw [hT.1]; omega)
          have s1 := hL.arr.cell (v + 1) (by rw [hT.1]; omega)
          have fr := hL.arr.free (v + 1)
          obtain ⟨x, hx, hxm⟩ : ∃ x : Nat, at_ s v = (x : Int) ∧ x ≤ m := ⟨_, hT.2.1 v (Nat.le_refl _), cnt_le _ _⟩
          obtain ⟨y, hy, hym⟩ : ∃ y : Nat, at_ s (v + 1) = (y : Int) ∧ y ≤ m := ⟨_, hT.2.2 v (Nat.le_refl _) hlt, cnt_le _ _⟩
          rw [hx] at s0
          rw [hy] at s1
          have hXB := hL.lt
          have HXL := hide hL; have HXT := hide hT; have HX := hide hx; have HY := hide hy
          clear hL hT hx hy
          go_wp2
          go_region
          go_wp2
          refine ⟨⟨v + 1, s.set (v + 1) ((y : Int) + (x : Int)), by omega, by simp, ?_, HXL.out.put _ _⟩, by simp [RowKit.intOf]; omega⟩
          have := HXT.out.step hlt
          rw [HX.out, HY.out] at this
          exact this
        · obtain rfl : n = v := by omega
          have hba := below_alloc (Below.refl wr.heap.size wr) (.cells #[] 3)
          have b1 := (below_cell (o := 1) hba (lt_of_heap hL.box)).trans (cell_of hL.box (i := 1) rfl)
          have HRW := hide ((hL.arr.row hT.1 (by omega)).below hba)
          have hsl := hT.1
          have HL2 := hide hL; have HS2 := hide hT
          clear hL hT hba
          go_wp2_with (first
            | (at_builtin; refine wpList_fresh rfl (.tmp 52) (.tmp 54) 29 rfl .i64 3 i0 (.int .i64 0) 8 Try.underlying29 hi hz0 hz1 hz2 rfl wr.heap.size _ (own_new _ 3 wr.heap.size rfl) (by simp) _ s rfl rfl HRW.out (by omega) (by unfold maxLen; omega) ?_; intro v4 w4 hown4 hbel4; obtain ⟨G, cp, rfl, hGX, hcp, hN4⟩ := nx_of hown4 hsl; have HN4 := hide hN4; clear hN4 hown4; have H4 := hide (HL2.out.below (below_on (below_alloc (Below.refl wr.heap.size wr) (.cells #[] 3)) hbel4)))
            | (at_make; refine wpList_make_full _ rfl _ _ 29 rfl w4.heap.size 3 i0 (.int .i64 0) 1 Try.underlying29 hi hz0 hz1 _ _ _ _ m rfl rfl rfl rfl (by rw [hz2]; omega) (by unfold maxLen; omega) (Nat.le_refl _) ?_; intro w5 hown5 hgrow5; have H5 := hide (H4.out.below ((Below.refl _ _).grown hgrow5 (Nat.le_refl _) (by intro k hk; cases hk))); have c5 := cell_of H5.out.box (i := 2) rfl; have f5 := free_of H5.out.box 2)
            | (at_make; refine wpList_make_full _ rfl _ _ 30 rfl w5.heap.size 22 i1 (.int .u64 0) 1 Try.underlying30 hj hy0 hy1 _ _ _ _ m rfl rfl rfl rfl (by rw [hy2]; omega) (by unfold maxLen; omega) (by simp) ?_; intro w6 hown6 hgrow6; have H6 := hide ((H5.out.setTo (.slice (some ⟨w4.heap.size, 0, none⟩) m m)).below ((Below.refl _ _).grown hgrow6 (Nat.le_refl _) (by intro k hk; cases hk))); have c6 := cell_of H6.out.box (i := 3) rfl; have f6 := free_of H6.out.box 3))
          have HLN := hide (LN.start H4.out HN4.out (Nat.lt_of_lt_of_le (lt_of_heap HL2.out.box) hGX) hown5 hgrow5 hown6 hgrow6)
          clear hown5 hgrow5 hown6 hgrow6 c5 f5 c6 f6 b1 H6 H5 H4 HN4 HRW hGX hbel4
          generalize w4.heap.size = T at HLN ⊢
          generalize w5.heap.size = U at HLN ⊢
          generalize (w6.setCell ⟨X, 3, none⟩ (.slice (some ⟨U, 0, none⟩) m m)) = w7 at HLN ⊢
          have HFA : Hid (∀ i, i < m → eFrom l i < n) := fun i hi => by have := HT.out.efr i (by rw [← HM.out]; exact hi); unfold eFrom; omega
          go_loopw [9] (fun t wr => ∃ (i : Nat) (nx tl wt : List Int), i ≤ m ∧ t = .int .i64 i ∧ Laying n m (eFrom l) (eTo l) (eWt l) i nx tl wt ∧ LN w wr X n m G T U s nx tl wt) (fun t _ => m - (RowKit.intOf t).toNat)
          case atStart => exact ⟨0, s, tab m fun _ => 0, tab m fun _ => 0, by omega, rfl, Laying.start HS2.out HFA.out, HLN.out⟩
          case round =>
            obtain ⟨i, nx, tl, wt, him, rfl, hY, hN⟩ := hrel
            clear HLN
            by_cases hlt : i < m
            · have hil : i < l.length := by rw [← HM.out]; exact hlt
              obtain ⟨g, o, rfl, hgw, e0, e1, e2⟩ := hN.lm.edgeO HR.out hil
              obtain ⟨f, hf⟩ : ∃ f, f = eFrom l i := ⟨_, rfl⟩
              obtain ⟨k, hk⟩ : ∃ k, k = place (eFrom l) m i := ⟨_, rfl⟩
              have hfn : f < n := by rw [hf]; exact HFA.out i hlt
              have hkm : k < m := by rw [hk]; exact place_lt hlt
              rw [show (eAt l i).1 = (f : Int) by rw [hf]; unfold eFrom; rw [Int.toNat_of_nonneg (HT.out.efr i hil).1]] at e0
              rw [show (eAt l i).2.1 = ((eTo l i : Nat) : Int) by unfold eTo; rw [Int.toNat_of_nonneg (HT.out.eto i hil).1]] at e1
              rw [show (eAt l i).2.2 = eWt l i from rfl] at e2
              have hat : at_ nx f = (k : Int) := by rw [hf, hk]; exact hY.at (by rw [← hf]; exact hfn)
              have n0 := hN.nxt.at (i := f) (by rw [hY.nlen]; omega)
              rw [hat] at n0
              have n1 := hN.nxt.free f
              have t0 := hN.tla.cell k (by rw [hY.tlen]; exact hkm)
              have t1 := hN.tla.free k
              have u0 := hN.wta.cell k (by rw [hY.wlen]; exact hkm)
              have u1 := hN.wta.free k
              have b2 := cell_of hN.lm.box (i := 2) rfl
              have b3 := cell_of hN.lm.box (i := 3) rfl
              have o0 := hN.lm.lt
              have o1 := hN.o1
              have o2 := hN.o2
              have o3 := hN.o3
              have d1 : ¬ G = X := by omega
              have d2 : ¬ G = g := by omega
              have d3 : ¬ G = T := by omega
              have d4 : ¬ G = U := by omega
              have d5 : ¬ T = X := by omega
              have d6 : ¬ T = g := by omega
              have d7 : ¬ T = U := by omega
              have d8 : ¬ X = G := by omega
              have d9 : ¬ g = G := by omega
              have d10 : ¬ T = G := by omega
              have d11 : ¬ U = G := by omega
              have d12 : ¬ X = T := by omega
              have d13 : ¬ g = T := by omega
              have d14 : ¬ U = T := by omega
              have HST := hide (hY.step hlt (HFA.out i hlt) (by have := HT.out.eto i hil; unfold eTo; omega) (HT.out.ewt i hil))
              rw [← hf, ← hk, hat] at HST
              have HNN := hide hN
              clear hY hN hf hk hat
              generalize eTo l i = x at e1 HST
              generalize eWt l i = z at e2 HST
              go_wp2
              go_region
              go_wp2
              go_region
              go_wp2
              exact ⟨⟨i + 1, _, _, _, by omega, by simp, HST.out, HNN.out.step⟩, by simp [RowKit.intOf]; omega⟩
            · obtain rfl : m = i := by omega
              have HY := hide hY; have HNN := hide hN
              have b0 := cell_of hN.lm.box (i := 0) rfl
              have b1 := cell_of hN.lm.box (i := 1) rfl
              have b2 := cell_of hN.lm.box (i := 2) rfl
              have b3 := cell_of hN.lm.box (i := 3) rfl
              have r0 := cell_of hN.lm.res (i := 0) rfl
              have r1 := cell_of hN.lm.res (i := 1) rfl
              have r2 := cell_of hN.lm.res (i := 2) rfl
              have r3 := cell_of hN.lm.res (i := 3) rfl
              have q0 := free_of hN.lm.res 0
              have q1 := free_of hN.lm.res 1
              have q2 := free_of hN.lm.res 2
              have q3 := free_of hN.lm.res 3
              have o0 := hN.lm.lt
              have d1 : ¬ X = w.heap.size := by omega
              have d2 : ¬ w.heap.size = X := by omega
              clear hY hN
              have HE := hide (HNN.out.finish HS2.out HY.out HM.out hn hm)
              go_wp2
              exact bodyPost_ret (results_cell_row Try.results84 _ _ w.heap.size 32 _ (0, 0) _ rfl HE.out.1 Try.underlying32 rfl (by kernel_rfl)) rfl HE.out.2
structure BMO (w wr : World) (n : Nat) (ao : Option Addr) (len c : Nat) : Prop where
  box : wr.heap[w.heap.size]? = some (.cells #[.int .i64 n, .slice ao len c] 64 (0, 0))
  res : wr.heap[w.heap.size + 1]? = some (.cells #[.int .i64 0, .slice none 0 0, .slice none 0 0, .slice none 0 0] 32 (0, 0))
  bel : Below w.heap.size w wr
theorem BMO.start (w : World) (n : Nat) (ao : Option Addr) (len c : Nat) : BMO w ((w.alloc (.cells #[.int .i64 n, .slice ao len c] 64)).alloc (.cells #[.int .i64 0, .slice none 0 0, .slice none 0 0, .slice none 0 0] 32)) n ao len c := by
  have hs : (w.alloc (.cells #[.int .i64 n, .slice ao len c] 64)).heap.size = w.heap.size + 1 := by simp
  refine ⟨?_, ?_, below_alloc (below_alloc (Below.refl _ _) _) _⟩
  · rw [heap_alloc_old _ _ (by rw [hs]; omega)]; exact heap_new _ _
  · have := heap_new (w.alloc (.cells #[.int .i64 n, .slice ao len c] 64)) (.cells #[.int .i64 0, .slice none 0 0, .slice none 0 0, .slice none 0 0] 32)
    rw [hs] at this; exact this
theorem BMO.below {w wr w' : World} {n len c : Nat} {ao : Option Addr} (h : BMO w wr n ao len c) (hb : Below wr.heap.size wr w') : BMO w w' n ao len c :=
  ⟨(hb.block _ (lt_of_heap h.box)).trans h.box, (hb.block _ (lt_of_heap h.res)).trans h.res, below_on h.bel hb⟩
theorem BMO.put {w wr : World} {n len c : Nat} {ao : Option Addr} (h : BMO w wr n ao len c) (y0 y1 y2 y3 : Value) :
    ((((wr.setCell ⟨w.heap.size + 1, 0, none⟩ y0).setCell ⟨w.heap.size + 1, 1, none⟩ y1).setCell ⟨w.heap.size + 1, 2, none⟩ y2).setCell ⟨w.heap.size + 1, 3, none⟩ y3).heap[w.heap.size + 1]? = some (.cells #[y0, y1, y2, y3] 32 (0, 0)) ∧
    Below w.heap.size w ((((wr.setCell ⟨w.heap.size + 1, 0, none⟩ y0).setCell ⟨w.heap.size + 1, 1, none⟩ y1).setCell ⟨w.heap.size + 1, 2, none⟩ y2).setCell ⟨w.heap.size + 1, 3, none⟩ y3) ∧
    ∀ k, k ≠ w.heap.size + 1 → ((((wr.setCell ⟨w.heap.size + 1, 0, none⟩ y0).setCell ⟨w.heap.size + 1, 1, none⟩ y1).setCell ⟨w.heap.size + 1, 2, none⟩ y2).setCell ⟨w.heap.size + 1, 3, none⟩ y3).heap[k]? = wr.heap[k]? := by
  refine ⟨by rw [heap_set (heap_set (heap_set (heap_set h.res _) _) _) _]; rfl, ?_, fun k hk => ?_⟩
  · exact (((h.bel.setCell (p := ⟨w.heap.size + 1, 0, none⟩) (by simp) _).setCell (p := ⟨w.heap.size + 1, 1, none⟩) (by simp) _).setCell (p := ⟨w.heap.size + 1, 2, none⟩) (by simp) _).setCell (p := ⟨w.heap.size + 1, 3, none⟩) (by simp) _
  · rw [Below.heap_setCell _ _ _ _ (by exact hk), Below.heap_setCell _ _ _ _ (by exact hk), Below.heap_setCell _ _ _ _ (by exact hk), Below.heap_setCell _ _ _ _ (by exact hk)]
set_option maxRecDepth 100000 in
set_option maxHeartbeats 4000000 in
theorem buildO_any (n : Nat) (ao : Option Addr) (c : Nat) (l : List Ed3) (w : World) (hc : l.length ≤ c) (hn : n ≤ 1048576) (hr : EAt w (.slice ao l.length c) l) (hlu : ∀ i, i < l.length → 0 ≤ (eAt l i).2.2) (hl : c ≤ 9223372036854775807) :
    Calls Try.prog 36 #[.agg #[.int .i64 n, .slice ao l.length c]] w (BuildPost n l w) := by
  obtain ⟨m, hme⟩ : ∃ m, m = l.length := ⟨_, rfl⟩
  rw [← hme] at hc ⊢
  have HR := hide hr
  have HM := hide hme
  have HLU := hide hlu
  have HB0 := hide (BMO.start w n ao m c)
  have b0 := cell_of HB0.out.box (i := 0) rfl
  have b1 := cell_of HB0.out.box (i := 1) rfl
  have r0 := cell_of HB0.out.res (i := 0) rfl
  have r1 := cell_of HB0.out.res (i := 1) rfl
  have r2 := cell_of HB0.out.res (i := 2) rfl
  have r3 := cell_of HB0.out.res (i := 3) rfl
  have q0 := free_of HB0.out.res 0
  have q1 := free_of HB0.out.res 1
  have q2 := free_of HB0.out.res 2
  have q3 := free_of HB0.out.res 3
  clear hr hme hlu
  obtain ⟨w1, hw1⟩ : ∃ w1, w1 = (w.alloc (.cells #[.int .i64 n, .slice ao m c] 64)).alloc (.cells #[.int .i64 0, .slice none 0 0, .slice none 0 0, .slice none 0 0] 32) := ⟨_, rfl⟩
  by_cases hbig : m ≤ 4194304
  · go_enter Try.func36, Try.ntmps36
    go_wp2_with fail
    rw [← hw1] at HB0 ⊢
    clear hw1 b0 b1 r0 r1 r2 r3 q0 q1 q2 q3
    go_loopw [5, 6] (fun t u wr => ∃ i : Nat, i ≤ m ∧ t = .int .i64 i ∧ (∀ j, j < i → Fine n l j) ∧ BMO w wr n ao m c) (fun t _ _ => m - (RowKit.intOf t).toNat)
    case atStart => exact ⟨0, by omega, rfl, fun j hj => absurd hj (Nat.not_lt_zero _), HB0.out⟩
    case round =>
      obtain ⟨i, him, rfl, hF, hB⟩ := hrel
      clear HB0
      have HFI := hide hF
      have HB := hide hB
      have b0 := cell_of hB.box (i := 0) rfl
      have b1 := cell_of hB.box (i := 1) rfl
      have r0 := cell_of hB.res (i := 0) rfl
      have r1 := cell_of hB.res (i := 1) rfl
      have r2 := cell_of hB.res (i := 2) rfl
      have r3 := cell_of hB.res (i := 3) rfl
      have q0 := free_of hB.res 0
      have q1 := free_of hB.res 1
      have q2 := free_of hB.res 2
      have q3 := free_of hB.res 3
      have hs1 := lt_of_heap hB.res
      clear hF hB
      by_cases hlt : i < m
      · have hil : i < l.length := by rw [← HM.out]; exact hlt
        obtain ⟨g, o, rfl, hgw, e0, e1, e2⟩ := (HR.out.below HB.out.bel).cellAt hil
        have hwt := HLU.out i hil
        obtain ⟨x1, hx1⟩ : ∃ x, x = (eAt l i).1 := ⟨_, rfl⟩
        obtain ⟨x2, hx2⟩ : ∃ x, x = (eAt l i).2.1 := ⟨_, rfl⟩
        obtain ⟨x3, hx3⟩ : ∃ x, x = (eAt l i).2.2 := ⟨_, rfl⟩
        rw [← hx1] at e0
        rw [← hx2] at e1
        rw [← hx3] at e2 hwt
        have HX1 := hide hx1; have HX2 := hide hx2; have HX3 := hide hx3
        have HBA := hide (HB.out.below ((Below.refl _ _).alloc (Nat.le_refl _) (.cells #[.int .i64 x1, .int .i64 x2, .int .u64 x3] 61)))
        have s0 := cell_of HBA.out.box (i := 0) rfl
        have s1 := cell_of HBA.out.box (i := 1) rfl
        have t0 := cell_of HBA.out.res (i := 0) rfl
        have t1 := cell_of HBA.out.res (i := 1) rfl
        have t2 := cell_of HBA.out.res (i := 2) rfl
        have t3 := cell_of HBA.out.res (i := 3) rfl
        have u0 := free_of HBA.out.res 0
        have u1 := free_of HBA.out.res 1
        have u2 := free_of HBA.out.res 2
        have u3 := free_of HBA.out.res 3
        have hel := heap_new wr (.cells #[.int .i64 x1, .int .i64 x2, .int .u64 x3] 61)
        have v0 := cell_of hel (i := 0) rfl
        have v1 := cell_of hel (i := 1) rfl
        have v2 := cell_of hel (i := 2) rfl
        clear hx1 hx2 hx3 hel
        have HPU := hide (HB.out.put (.int .i64 0) (.slice none 0 0) (.slice none 0 0) (.slice none 0 0))
        have hrf : (((((wr.setCell ⟨w.heap.size + 1, 0, none⟩ (.int .i64 0)).setCell ⟨w.heap.size + 1, 1, none⟩ (.slice none 0 0)).setCell ⟨w.heap.size + 1, 2, none⟩ (.slice none 0 0)).setCell ⟨w.heap.size + 1, 3, none⟩ (.slice none 0 0)).alloc (.cells #[.int .i64 x1, .int .i64 x2, .int .u64 x3] 61)).heap[w.heap.size + 1]? = some (.cells #[.int .i64 0, .slice none 0 0, .slice none 0 0, .slice none 0 0] 32 (0, 0)) := by
          rw [heap_alloc_old _ _ (lt_of_heap HPU.out.1)]; exact HPU.out.1
        have HRF := hide hrf
        have HBL := hide (below_alloc HPU.out.2.1 (.cells #[.int .i64 x1, .int .i64 x2, .int .u64 x3] 61))
        clear hrf
        go_wp2
        all_goals first
          | (refine ⟨⟨i + 1, by omega, by simp, fun j hj => ?_, HBA.out⟩, by simp [RowKit.intOf]; omega⟩
             rcases Nat.lt_or_ge j i with hji | hji
             · exact HFI.out j hji
             · obtain rfl : j = i := by omega
               unfold Fine
               rw [← HX1.out, ← HX2.out, ← HX3.out]
               omega)
          | exact bodyPost_ret (results_cell3 Try.results36 _ _ (w.heap.size + 1) 32 _ (0, 0) _ rfl HRF.out Try.underlying32 rfl (by kernel_rfl) (.int .i64 30) (.int .i64 i) rfl rfl) rfl (.inl ⟨30, i, rfl, by decide, HBL.out⟩)
          | exact bodyPost_ret (results_cell3 Try.results36 _ _ (w.heap.size + 1) 32 _ (0, 0) _ rfl HRF.out Try.underlying32 rfl (by kernel_rfl) (.int .i64 31) (.int .i64 i) rfl rfl) rfl (.inl ⟨31, i, rfl, by decide, HBL.out⟩)
      · obtain rfl : m = i := by omega
        have hT : Takes n l := by
          have hm := HM.out
          exact ⟨hn, by omega, fun i hi => (HFI.out i (by omega)).1, fun i hi => (HFI.out i (by omega)).2.1, fun i hi => ⟨HLU.out i hi, (HFI.out i (by omega)).2.2⟩⟩
        have HT := hide hT
        have hr := HR.out.below HB.out.bel
        have HLA := hide (laidO_any n ao c l wr (by rw [← HM.out]; exact hc) hr hT)
        rw [← HM.out] at HLA
        clear hr hT
        go_wp2_with fail
        refine HLA.out.mono ?_
        rintro e w2 ⟨va, vb, vc, st, to', wt, nx, rfl, hg, hsu, hla, hbel, hna, hnb, hnc⟩
        have HB2 := hide (HB.out.below hbel)
        obtain ⟨ga, la, ca, rfl, hga⟩ := hna
        obtain ⟨gb, lb, cb, rfl, hgb⟩ := hnb
        obtain ⟨gc, lc, cc, rfl, hgc⟩ := hnc
        have hG2 : GIs ((((w2.setCell ⟨w.heap.size + 1, 0, none⟩ (.int .i64 n)).setCell ⟨w.heap.size + 1, 1, none⟩ (.slice (some ⟨ga, 0, none⟩) la ca)).setCell ⟨w.heap.size + 1, 2, none⟩ (.slice (some ⟨gb, 0, none⟩) lb cb)).setCell ⟨w.heap.size + 1, 3, none⟩ (.slice (some ⟨gc, 0, none⟩) lc cc)) n (.slice (some ⟨ga, 0, none⟩) la ca) (.slice (some ⟨gb, 0, none⟩) lb cb) (.slice (some ⟨gc, 0, none⟩) lc cc) st to' wt :=
          ⟨hg.s.set4 (by omega), hg.t.set4 (by omega), hg.u.set4 (by omega)⟩
        have HG2 := hide hG2
        clear hG2
        have HG := hide hg; have HSU := hide hsu; have HLY := hide hla
        have HPU := hide (HB2.out.put (.int .i64 n) (.slice (some ⟨ga, 0, none⟩) la ca) (.slice (some ⟨gb, 0, none⟩) lb cb) (.slice (some ⟨gc, 0, none⟩) lc cc))
        have t0 := cell_of HB2.out.res (i := 0) rfl
        have t1 := cell_of HB2.out.res (i := 1) rfl
        have t2 := cell_of HB2.out.res (i := 2) rfl
        have t3 := cell_of HB2.out.res (i := 3) rfl
        have u0 := free_of HB2.out.res 0
        have u1 := free_of HB2.out.res 1
        have u2 := free_of HB2.out.res 2
        have u3 := free_of HB2.out.res 3
        clear hg hsu hla hbel hga hgb hgc r0 r1 r2 r3 q0 q1 q2 q3 b0 b1 HLA
        unfold gAgg
        go_wp2
        exact bodyPost_ret (results_cell3 Try.results36 _ _ (w.heap.size + 1) 32 _ (0, 0) _ rfl HPU.out.1 Try.underlying32 rfl (by kernel_rfl) (.int .i64 0) (.int .i64 0) rfl rfl) rfl (.inr ⟨HT.out, _, _, _, st, to', wt, nx, rfl, HG2.out, HSU.out, HLY.out, HPU.out.2.1⟩)
  · go_enter Try.func36, Try.ntmps36
    go_wp2_with fail
    rw [← hw1] at HB0 ⊢
    exact bodyPost_ret (results_cell3 Try.results36 _ _ (w.heap.size + 1) 32 _ (0, 0) _ rfl HB0.out.res Try.underlying32 rfl (by kernel_rfl) (.int .i64 22) (.int .i64 (-1)) rfl rfl) rfl (.inl ⟨22, -1, rfl, by decide, HB0.out.bel⟩)
end Go.Proofs.Ythoklgdlnmccmaa

namespace Go.Proofs.Ythoklgdlnmccmaa
open Go.RowKit Go.Lib
set_option linter.unusedVariables false
set_option maxRecDepth 100000 in
set_option maxHeartbeats 8000000 in
theorem reaches_any (n : Nat) (va vb vc : Value) (st tl wt : List Int) (k : Int) (sv : Value) (S : List Pr) (wv : Value) (way : List Int) (t r jj : Nat) (label : Int) (w : World) (hg : GIs w n va vb vc st tl wt) (hgd : Good n st tl wt) (hwb : ∀ e, 0 ≤ at_ wt e ∧ at_ wt e ≤ 18446744073709551615)
    (hs : SAt w sv S) (hSb : ∀ j, j < S.length → 0 ≤ (sAt S j).2 ∧ (sAt S j).2 ≤ 18446744073709551615) (hS : S.length * 16 ≤ 140737488353280) (hw : RowAt .i64 w wv way) (hwl : way.length * 8 ≤ 140737488351232) (hk : fstNo n st tl wt k = 0)
    (hrn : r < n) (hr0 : way.length = 0 → r = t) (hr1 : 0 < way.length → ∃ e, e < tl.length ∧ at_ way 0 = (e : Int) ∧ src st n e = r) (hjj : jj < S.length) (hv : (sAt S jj).1 = (r : Int)) (hle : lenAns n st tl wt k (sAt S jj).2 way = (label, 0)) :
    Calls Try.prog 57 #[gAgg n va vb vc, .int .i64 k, sv, wv, .int .i64 t, .int .u64 label] w fun e w' => e = .returned (.bool true) ∧ Below w.heap.size w w' := by
  have hn := hgd.n_le
  have hm := hgd.m_le
  obtain ⟨ao, ca, rfl⟩ := hg.s.shape
  obtain ⟨bo, cb, rfl⟩ := hg.t.shape
  obtain ⟨co, cc, rfl⟩ := hg.u.shape
  obtain ⟨wo, wc, rfl⟩ := hw.shape
  obtain ⟨so, sc, rfl, hsc, hscm⟩ := hs.shape
  obtain ⟨c0, c1, c2, c3, hb1, hs1⟩ := boxed w (.int .i64 n) (.slice ao st.length ca) (.slice bo tl.length cb) (.slice co wt.length cc)
  have HCP := hide (fun W h => copy_any n (.slice ao st.length ca) (.slice bo tl.length cb) (.slice co wt.length cc) st tl wt W h (by have := hgd.s_len; omega) (by omega) (by have := hgd.w_len; omega))
  have HLE := hide (fun a b c j (hj : j < S.length) W h hw => length_good n a b c st tl wt k (sAt S j).2 (.slice wo way.length wc) way W h hgd hk hw hwl (hSb j hj).1 (hSb j hj).2 hwb)
  have HG1 := hide (hg.below hb1)
  have HW1 := hide (hw.below hb1)
  have HS1 := hide (hs.below hb1)
  have HB1 := hide hb1
  have HGD := hide hgd
  have HST : Hid (st.length = n + 1) := hgd.s_len
  have HJ := hide (And.intro hv hle)
  have HR0 := hide hr0
  have HR1 := hide hr1
  obtain ⟨L, hL⟩ : ∃ L, L = way.length := ⟨_, rfl⟩
  have HWC := hide (fun i (hi : i < way.length) => HW1.out.cellAt i hi)
  obtain ⟨M, hM⟩ : ∃ M, M = S.length := ⟨_, rfl⟩
  unfold gAgg at HCP HLE ⊢
  rw [← hL] at HWC HR0 HR1 HLE HW1 hwl ⊢
  rw [← hM] at HS1 hS hjj hsc HLE ⊢
  have HSC : Hid (∀ W, SAt W (.slice so M sc) S → ∀ i, i < M → ∃ g o, so = some ⟨g, o, none⟩ ∧ W.cell? ⟨g, o + i * 2, none⟩ = some (.int .i64 (sAt S i).1) ∧ W.cell? ⟨g, o + i * 2 + 1, none⟩ = some (.int .u64 (sAt S i).2)) := fun W h i hi => by
    obtain ⟨ao', c', he, h1, h2, h3⟩ := h
    simp only [Value.slice.injEq] at he
    obtain ⟨rfl, _, rfl⟩ := he
    exact h3 i (by omega)
  clear hb1 hg hw hs hgd hk hwb hSb hv hle hr0 hr1 hL hM
  go_enter Try.func57, Try.ntmps57
  by_cases hL0 : L = 0
  · obtain rfl : r = t := HR0.out hL0
    subst hL0
    go_wp2_with fail
    obtain ⟨WB, hWB⟩ : ∃ WB, WB = (w.alloc (.cells #[.int .i64 n, .slice ao st.length ca, .slice bo tl.length cb, .slice co wt.length cc] 32)) := ⟨_, rfl⟩
    rw [← hWB] at c0 c1 c2 c3 hs1 HB1 HG1 HW1 HS1 HWC ⊢
    have HGB := HG1; have HSB := HS1; have HWB2 := HW1; have HBB := HB1
    have z0 := c0; have z1 := c1; have z2 := c2; have z3 := c3
    have hsB := hs1
    clear hWB HG1 HS1 HW1 HB1 c0 c1 c2 c3 hs1
    · skip
      go_loopw [15] (fun x wr => ∃ i : Nat, i ≤ jj ∧ x = .int .i64 i ∧ Below WB.heap.size WB wr) (fun x _ => M - (RowKit.intOf x).toNat)
      case atStart => exact ⟨0, by omega, rfl, Below.refl _ _⟩
      case round =>
        obtain ⟨i, hij, rfl, hB⟩ := hrel
        have hiM : i < M := by omega
        obtain ⟨gs, os, rfl, y0, y1⟩ := HSC.out wr (HSB.out.below hB) i hiM
        obtain ⟨x0, x1, x2, x3⟩ := box_keep hsB hB ⟨z0, z1, z2, z3⟩
        have HB := hide hB
        have HSW := hide (HSB.out.below hB)
        have HGW := hide (HGB.out.below hB)
        have HWW := hide (HWB2.out.below hB)
        have HLI := hide (fun a b c => HLE.out a b c i hiM)
        obtain ⟨ans, hans⟩ : ∃ ans, ans = lenAns n st tl wt k (sAt S i).2 way := ⟨_, rfl⟩
        have HLJ : Hid (i = jj → (sAt S i).1 = (r : Int) ∧ ans = (label, 0)) := fun h => by subst h; exact ⟨HJ.out.1, hans.trans HJ.out.2⟩
        rw [← hans] at HLI
        obtain ⟨lb, hlb⟩ : ∃ lb, lb = (sAt S i).2 := ⟨_, rfl⟩
        obtain ⟨vx, hvx⟩ : ∃ vx, vx = (sAt S i).1 := ⟨_, rfl⟩
        rw [← hlb] at HLI y1
        rw [← hvx] at HLJ y0
        obtain ⟨a1, a2⟩ := ans
        clear hB hans hlb hvx
        by_cases hvr : vx = (r : Int)
        · subst hvr
          go_wp2_with fail
          have HCW := hide (HCP.out wr.drew (HGW.out.below (below_drew (Below.refl _ _))))
          have hgs : gs < wr.heap.size := block_of_cell y0
          go_region_with (first
            | (go_at_call 53; refine HCW.out.mono ?_; rintro e9 w9 ⟨a, b, c, rfl, hg9, hb9⟩; have HL9 := hide (HLI.out a b c w9 hg9 ((HWW.out.below (below_drew (Below.refl _ _))).below hb9)); have y2 := (below_cell (o := os + i * 2 + 1) (below_on (below_drew (Below.refl _ wr)) hb9) hgs).trans y1; have HB9 := hide (below_on (below_drew HB.out) hb9); clear hg9 hb9)
            | (go_at_call 31; refine HL9.out.mono ?_; rintro e8 w8 ⟨rfl, hb8⟩; have HB8 := hide (below_on HB9.out hb8); clear hb8))
          all_goals
            by_cases hz : a2 = 0
            · subst hz
              by_cases hy : a1 = label
              · subst hy
                go_wp2
                go_ret
                exact ⟨rfl, below_on HBB.out HB8.out⟩
              · have hne : (a1 == label) = false := by simp [hy]
                have hij' : i < jj := by
                  rcases Nat.lt_or_ge i jj with h | h
                  · exact h
                  · exact absurd (congrArg Prod.fst (HLJ.out (by omega)).2) hy
                go_wp2
                go_roundw
                case rel => exact ⟨i + 1, by omega, by simp, HB8.out⟩
                case measure => simp [RowKit.intOf]; omega
            · have hne : (a2 == 0) = false := by simp [hz]
              have hij' : i < jj := by
                rcases Nat.lt_or_ge i jj with h | h
                · exact h
                · exact absurd (congrArg Prod.snd (HLJ.out (by omega)).2) hz
              go_wp2
              go_roundw
              case rel => exact ⟨i + 1, by omega, by simp, HB8.out⟩
              case measure => simp [RowKit.intOf]; omega
        · have hij' : i < jj := by
            rcases Nat.lt_or_ge i jj with h | h
            · exact h
            · exact absurd (HLJ.out (by omega)).1 hvr
          have hne : (vx == (r : Int)) = false := by simp [hvr]
          go_wp2
          go_roundw
          case rel => exact ⟨i + 1, by omega, by simp, HB.out⟩
          case measure => simp [RowKit.intOf]; omega
  · have hLp : 0 < L := by omega
    obtain ⟨e, hem, he0, hsr⟩ := HR1.out hLp
    obtain ⟨gw, ow, cw', hsw, hcw, d1⟩ := HWC.out 0 hLp
    simp only [Value.slice.injEq, true_and] at hsw
    obtain ⟨rfl, rfl⟩ := hsw
    rw [he0, Nat.add_zero] at d1
    have hLi : (0 : Int) < (L : Int) := by omega
    go_wp2_with fail
    obtain ⟨W1, hW1⟩ : ∃ W1, W1 = (w.alloc (.cells #[.int .i64 n, .slice ao st.length ca, .slice bo tl.length cb, .slice co wt.length cc] 32)) := ⟨_, rfl⟩
    rw [← hW1] at d1 c0 c1 c2 c3 hs1 HB1 HG1 HW1 HS1 HWC ⊢
    clear hW1
    have HSP := hide (src_spec HGD.out hem)
    rw [hsr] at HSP
    have HSE : Hid (∀ v, v < n → at_ st v ≤ (e : Int) → (e : Int) < at_ st (v + 1) → v = r) := fun v hv h1 h2 => by rw [← hsr]; exact (src_eq HGD.out hv h1 h2).symm
    clear he0 hsr
    have HBX := hide (And.intro c0 (And.intro c1 (And.intro c2 c3)))
    go_loopw [14, 13] (fun x y wr => ∃ (v f : Nat), v ≤ n ∧ x = .int .i64 v ∧ y = .int .i64 f ∧ (r < v → f = r) ∧ ∃ m, wr = W1.drewN m) (fun x _ _ => n - (RowKit.intOf x).toNat)
    case atStart => exact ⟨0, t, by omega, rfl, rfl, fun h => by omega, 0, rfl⟩
    case round =>
      obtain ⟨v, f, hvn, rfl, rfl, hf, m, rfl⟩ := hrel
      by_cases hlt : v < n
      · obtain ⟨ga, oa, ca', hsa, hca, r0⟩ := HG1.out.s.cellAt v (by have := HST.out; omega)
        simp only [Value.slice.injEq, true_and] at hsa
        obtain ⟨rfl, rfl⟩ := hsa
        obtain ⟨ga', oa', ca'', hsa, _, r1⟩ := HG1.out.s.cellAt (v + 1) (by have := HST.out; omega)
        simp only [Value.slice.injEq, true_and, Option.some.injEq, Addr.mk.injEq, and_true] at hsa
        obtain ⟨⟨rfl, rfl⟩, rfl⟩ := hsa
        have hvi : (v : Int) < (st.length : Int) := by have := HST.out; omega
        have hvi1 : (v : Int) + 1 < (st.length : Int) := by have := HST.out; omega
        have HVR := hide (HSE.out v hlt)
        have HRV : Hid (v = r → at_ st v ≤ (e : Int) ∧ (e : Int) < at_ st (v + 1)) := fun h => by subst h; exact HSP.out
        obtain ⟨s0, hs0⟩ : ∃ s0, s0 = at_ st v := ⟨_, rfl⟩
        obtain ⟨s1, hs1'⟩ : ∃ s1, s1 = at_ st (v + 1) := ⟨_, rfl⟩
        rw [← hs0] at r0 HVR HRV
        rw [← hs1'] at r1 HVR HRV
        clear hs0 hs1'
        have HF := hide hf
        clear hf
        obtain ⟨c0, c1, c2, c3⟩ := HBX.out
        by_cases hin0 : s0 ≤ (e : Int)
        · have hi1 : decide ((e : Int) ≥ s0) = true := decide_eq_true hin0
          by_cases hin1 : (e : Int) < s1
          · have hi2 : decide ((e : Int) < s1) = true := decide_eq_true hin1
            have HVE := hide (HVR.out hin0 hin1)
            go_wp2
            go_quiet (fail)
            go_wp2
            go_roundw
            case rel => exact ⟨v + 1, v, by omega, by simp, rfl, fun _ => HVE.out, _, rfl⟩
            case measure => simp [RowKit.intOf]; omega
          · have hi2 : decide ((e : Int) < s1) = false := decide_eq_false hin1
            have HVE : Hid (v ≠ r) := fun h => hin1 (HRV.out h).2
            go_wp2
            go_quiet (fail)
            go_wp2
            go_roundw
            case rel => exact ⟨v + 1, f, by omega, by simp, rfl, fun h => HF.out (by have := HVE.out; omega), _, rfl⟩
            case measure => simp [RowKit.intOf]; omega
        · have hi1 : decide ((e : Int) ≥ s0) = false := decide_eq_false hin0
          have HVE : Hid (v ≠ r) := fun h => hin0 (HRV.out h).1
          go_wp2
          go_quiet (fail)
          go_wp2
          go_roundw
          case rel => exact ⟨v + 1, f, by omega, by simp, rfl, fun h => HF.out (by have := HVE.out; omega), _, rfl⟩
          case measure => simp [RowKit.intOf]; omega
      · obtain rfl : n = v := by omega
        obtain rfl : r = f := (hf hrn).symm
        clear hf
        obtain ⟨c0, c1, c2, c3⟩ := HBX.out
        go_wp2_with fail
        obtain ⟨WB, hWB⟩ : ∃ WB, WB = W1.drewN m := ⟨_, rfl⟩
        have bWB : Below W1.heap.size W1 WB := by rw [hWB]; exact below_drewN (Below.refl _ _) _
        have HGB := hide (HG1.out.below bWB); have HSB := hide (HS1.out.below bWB); have HWB2 := hide (HW1.out.below bWB); have HBB := hide (below_on HB1.out bWB)
        obtain ⟨z0, z1, z2, z3⟩ := box_keep hs1 bWB ⟨c0, c1, c2, c3⟩
        have hsB : w.heap.size < WB.heap.size := Nat.lt_of_lt_of_le hs1 bWB.size
        rw [← hWB]
        clear hWB bWB HG1 HS1 HW1 HB1 c0 c1 c2 c3 hs1 HBX d1 HSE HSP
        · skip
          go_loopw [15] (fun x wr => ∃ i : Nat, i ≤ jj ∧ x = .int .i64 i ∧ Below WB.heap.size WB wr) (fun x _ => M - (RowKit.intOf x).toNat)
          case atStart => exact ⟨0, by omega, rfl, Below.refl _ _⟩
          case round =>
            obtain ⟨i, hij, rfl, hB⟩ := hrel
            have hiM : i < M := by omega
            obtain ⟨gs, os, rfl, y0, y1⟩ := HSC.out wr (HSB.out.below hB) i hiM
            obtain ⟨x0, x1, x2, x3⟩ := box_keep hsB hB ⟨z0, z1, z2, z3⟩
            have HB := hide hB
            have HSW := hide (HSB.out.below hB)
            have HGW := hide (HGB.out.below hB)
            have HWW := hide (HWB2.out.below hB)
            have HLI := hide (fun a b c => HLE.out a b c i hiM)
            obtain ⟨ans, hans⟩ : ∃ ans, ans = lenAns n st tl wt k (sAt S i).2 way := ⟨_, rfl⟩
            have HLJ : Hid (i = jj → (sAt S i).1 = (r : Int) ∧ ans = (label, 0)) := fun h => by subst h; exact ⟨HJ.out.1, hans.trans HJ.out.2⟩
            rw [← hans] at HLI
            obtain ⟨lb, hlb⟩ : ∃ lb, lb = (sAt S i).2 := ⟨_, rfl⟩
            obtain ⟨vx, hvx⟩ : ∃ vx, vx = (sAt S i).1 := ⟨_, rfl⟩
            rw [← hlb] at HLI y1
            rw [← hvx] at HLJ y0
            obtain ⟨a1, a2⟩ := ans
            clear hB hans hlb hvx
            by_cases hvr : vx = (r : Int)
            · subst hvr
              go_wp2_with fail
              have HCW := hide (HCP.out wr.drew (HGW.out.below (below_drew (Below.refl _ _))))
              have hgs : gs < wr.heap.size := block_of_cell y0
              go_region_with (first
                | (go_at_call 53; refine HCW.out.mono ?_; rintro e9 w9 ⟨a, b, c, rfl, hg9, hb9⟩; have HL9 := hide (HLI.out a b c w9 hg9 ((HWW.out.below (below_drew (Below.refl _ _))).below hb9)); have y2 := (below_cell (o := os + i * 2 + 1) (below_on (below_drew (Below.refl _ wr)) hb9) hgs).trans y1; have HB9 := hide (below_on (below_drew HB.out) hb9); clear hg9 hb9)
                | (go_at_call 31; refine HL9.out.mono ?_; rintro e8 w8 ⟨rfl, hb8⟩; have HB8 := hide (below_on HB9.out hb8); clear hb8))
              all_goals
                by_cases hz : a2 = 0
                · subst hz
                  by_cases hy : a1 = label
                  · subst hy
                    go_wp2
                    go_ret
                    exact ⟨rfl, below_on HBB.out HB8.out⟩
                  · have hne : (a1 == label) = false := by simp [hy]
                    have hij' : i < jj := by
                      rcases Nat.lt_or_ge i jj with h | h
                      · exact h
                      · exact absurd (congrArg Prod.fst (HLJ.out (by omega)).2) hy
                    go_wp2
                    go_roundw
                    case rel => exact ⟨i + 1, by omega, by simp, HB8.out⟩
                    case measure => simp [RowKit.intOf]; omega
                · have hne : (a2 == 0) = false := by simp [hz]
                  have hij' : i < jj := by
                    rcases Nat.lt_or_ge i jj with h | h
                    · exact h
                    · exact absurd (congrArg Prod.snd (HLJ.out (by omega)).2) hz
                  go_wp2
                  go_roundw
                  case rel => exact ⟨i + 1, by omega, by simp, HB8.out⟩
                  case measure => simp [RowKit.intOf]; omega
            · have hij' : i < jj := by
                rcases Nat.lt_or_ge i jj with h | h
                · exact h
                · exact absurd (HLJ.out (by omega)).1 hvr
              have hne : (vx == (r : Int)) = false := by simp [hvr]
              go_wp2
              go_roundw
              case rel => exact ⟨i + 1, by omega, by simp, HB.out⟩
              case measure => simp [RowKit.intOf]; omega
end Go.Proofs.Ythoklgdlnmccmaa

namespace Go.Proofs.Ythoklgdlnmccmaa
open Go.RowKit Go.Lib
set_option linter.unusedVariables false
def zSt : List Int := [0, 2, 2, 3]
def zTl : List Int := [1, 2, 1]
def zWt : List Int := [5, 1, 2]
def zL : List Int := [0, 3, 1]
def zM : List Int := [0, 4, 1]
def zY : List Int := [-1, 2, 1]
def zD : List Int := [0, 2, 1]
def zB : List Int := [0, 18446744073709551615, 18446744073709551615]
theorem zchk : (chk (3 : Nat) zSt zTl zWt).1 = 0 := by decide +kernel
theorem zgood : Good 3 zSt zTl zWt := by
  obtain ⟨n, h, hg⟩ := chk_good zchk
  have : n = 3 := by omega
  subst this
  exact hg
theorem zno : srchNo (3 : Nat) zSt zTl zWt 1 xS = 0 := by decide +kernel
theorem zsok : Sok 3 xS := by
  intro j hj
  have : j = 0 := by simp [xS] at hj; omega
  subst this
  decide +kernel
theorem zbeg : Beg 3 xS zB xS.length := by
  have h := beg_step (beg_zero 3 xS) (j := 0) (v := 0) (by decide) zsok (by decide)
  exact h
theorem zwb : ∀ e, 0 ≤ at_ zWt e ∧ at_ zWt e ≤ 18446744073709551615 := by
  intro e
  match e with
  | 0 => decide
  | 1 => decide
  | 2 => decide
  | e + 3 => simp [zWt, at_]
theorem zok : ∀ v, v < 3 → okAt 3 zSt zTl zWt 1 zL zY zD zB v = true := by
  intro v hv
  match v, hv with
  | 0, _ => decide +kernel
  | 1, _ => decide +kernel
  | 2, _ => decide +kernel
theorem zlb : ∀ v, 0 ≤ at_ zL v ∧ at_ zL v ≤ 18446744073709551615 := by
  intro v
  match v with
  | 0 => decide
  | 1 => decide
  | 2 => decide
  | v + 3 => simp [zL, at_]
theorem zlb2 : ∀ v, 0 ≤ at_ zM v ∧ at_ zM v ≤ 18446744073709551615 := by
  intro v
  match v with
  | 0 => decide
  | 1 => decide
  | 2 => decide
  | v + 3 => simp [zM, at_]
theorem zdb : ∀ v, at_ zD v ≤ 9223372036854775807 := by
  intro v
  match v with
  | 0 => decide
  | 1 => decide
  | 2 => decide
  | v + 3 => simp [zD, at_]
theorem zfound : Found 3 zSt zTl zWt 1 xS zL := ok_found zgood zbeg rfl zlb zok
theorem zwhole : Whole 3 zSt zTl zWt 1 xS zL zD zY := by
  refine ⟨3, ⟨rfl, rfl, fun v hv => ?_, fun v hv => ?_⟩, still_at zgood⟩
  · match v, hv with
    | 0, _ => decide +kernel
    | 1, _ => decide +kernel
    | 2, _ => decide +kernel
  · match v, hv with
    | 0, _ => decide +kernel
    | 1, _ => decide +kernel
    | 2, _ => decide +kernel
theorem zck1 : ckAns (okAt 3 zSt zTl zWt 1 zL zY zD zB) 3 = (0, 0) := ck_none zok
theorem zck2 : ckAns (okAt 3 zSt zTl zWt 1 zM zY zD zB) 3 = (53, 1) := by decide +kernel
/-- The graph's lists, its box and the start in memory. -/
structure ZM (w x : World) (a b c s Bg : Nat) : Prop where
  la : Arr x a zSt
  lb : Arr x b zTl
  lc : ArrU x c zWt
  ls : x.heap[s]? = some (.cells #[.int .i64 0, .int .u64 0] 41 (0, 0))
  bg : x.heap[Bg]? = some (.cells #[.int .i64 3, .slice (some ⟨a, 0, none⟩) 4 4, .slice (some ⟨b, 0, none⟩) 3 3, .slice (some ⟨c, 0, none⟩) 3 3] 32 (0, 0))
  bel : Below w.heap.size w x
theorem ZM.below {w x x' : World} {a b c s Bg : Nat} (h : ZM w x a b c s Bg) (hb : Below x.heap.size x x') : ZM w x' a b c s Bg :=
  ⟨(hb.block _ (lt_of_heap h.la)).trans h.la, (hb.block _ (lt_of_heap h.lb)).trans h.lb, (hb.block _ (lt_of_heap h.lc)).trans h.lc, (hb.block _ (lt_of_heap h.ls)).trans h.ls, (hb.block _ (lt_of_heap h.bg)).trans h.bg, below_on h.bel hb⟩
theorem ZM.gis {w x : World} {a b c s Bg : Nat} (h : ZM w x a b c s Bg) : GIs x (3 : Nat) (.slice (some ⟨a, 0, none⟩) 4 4) (.slice (some ⟨b, 0, none⟩) 3 3) (.slice (some ⟨c, 0, none⟩) 3 3) zSt zTl zWt :=
  ⟨h.la.row rfl (by decide), h.lb.row rfl (by decide), h.lc.row rfl (by decide)⟩
theorem ZM.sat {w x : World} {a b c s Bg : Nat} (h : ZM w x a b c s Bg) : SAt x (.slice (some ⟨s, 0, none⟩) 1 1) xS := by
  refine ⟨_, _, rfl, by decide, by decide, fun i hi => ⟨s, 0, rfl, ?_, ?_⟩⟩
  · have : i = 0 := by simp [xS] at hi; omega
    subst this
    exact cell_of h.ls rfl
  · have : i = 0 := by simp [xS] at hi; omega
    subst this
    exact cell_of h.ls rfl
/-- The voucher in memory. -/
structure ZV (x : World) (G GY GD Bv : Nat) (L : List Int) : Prop where
  g : ArrU x G L
  y : Arr x GY zY
  d : Arr x GD zD
  bv : x.heap[Bv]? = some (.cells #[.slice (some ⟨G, 0, none⟩) 3 3, .slice (some ⟨GY, 0, none⟩) 3 3, .slice (some ⟨GD, 0, none⟩) 3 3] 103 (0, 0))
theorem ZV.below {x x' : World} {G GY GD Bv : Nat} {L : List Int} (h : ZV x G GY GD Bv L) (hb : Below x.heap.size x x') : ZV x' G GY GD Bv L :=
  ⟨(hb.block _ (lt_of_heap h.g)).trans h.g, (hb.block _ (lt_of_heap h.y)).trans h.y, (hb.block _ (lt_of_heap h.d)).trans h.d, (hb.block _ (lt_of_heap h.bv)).trans h.bv⟩
theorem ZM.check {w x : World} {a b c s Bg G GY GD Bv : Nat} {L : List Int} {r1 r2 : Int} (h : ZM w x a b c s Bg) (hv : ZV x G GY GD Bv L) (hL : L.length = 3) (hLb : ∀ v, 0 ≤ at_ L v ∧ at_ L v ≤ 18446744073709551615) (hr : ckAns (okAt 3 zSt zTl zWt 1 L zY zD zB) 3 = (r1, r2)) :
    Calls Try.prog 64 #[.agg #[.int .i64 3, .slice (some ⟨a, 0, none⟩) 4 4, .slice (some ⟨b, 0, none⟩) 3 3, .slice (some ⟨c, 0, none⟩) 3 3], .int .i64 1, .slice (some ⟨s, 0, none⟩) 1 1, .agg #[.slice (some ⟨G, 0, none⟩) 3 3, .slice (some ⟨GY, 0, none⟩) 3 3, .slice (some ⟨GD, 0, none⟩) 3 3]] x fun e w' => e = .returned (.tuple #[.int .i64 r1, .int .i64 r2]) ∧ Below x.heap.size x w' := by
  have := check_good 3 (.slice (some ⟨a, 0, none⟩) 4 4) (.slice (some ⟨b, 0, none⟩) 3 3) (.slice (some ⟨c, 0, none⟩) 3 3) zSt zTl zWt 1 (.slice (some ⟨s, 0, none⟩) 1 1) xS (.slice (some ⟨G, 0, none⟩) 3 3) (.slice (some ⟨GY, 0, none⟩) 3 3) (.slice (some ⟨GD, 0, none⟩) 3 3) L zY zD zB x h.gis zgood zwb h.sat zsok (by decide) zno (by decide) zbeg (hv.g.row hL (by decide)) (hv.y.row rfl (by decide)) (hv.d.row rfl (by decide)) hL rfl rfl hLb zdb
  rw [hr] at this
  exact this
theorem five_new (w : World) (o1 o2 o3 o4 o5 : Obj) : let x := ((((w.alloc o1).alloc o2).alloc o3).alloc o4).alloc o5
    x.heap[w.heap.size]? = some o1 ∧ x.heap[w.heap.size + 1]? = some o2 ∧ x.heap[w.heap.size + 1 + 1]? = some o3 ∧ x.heap[w.heap.size + 1 + 1 + 1]? = some o4 ∧ x.heap[w.heap.size + 1 + 1 + 1 + 1]? = some o5 ∧ Below w.heap.size w x := by
  obtain ⟨h1, h2, h3, h4, h5⟩ := four_new w o1 o2 o3 o4
  have hs : ((((w.alloc o1).alloc o2).alloc o3).alloc o4).heap.size = w.heap.size + 4 := by simp
  have h6 := heap_new ((((w.alloc o1).alloc o2).alloc o3).alloc o4) o5
  rw [hs] at h6
  exact ⟨(Below.heap_alloc _ _ _ (by omega)).trans h1, (Below.heap_alloc _ _ _ (by omega)).trans h2, (Below.heap_alloc _ _ _ (by omega)).trans h3, (Below.heap_alloc _ _ _ (by omega)).trans h4, h6, below_alloc h5 _⟩
set_option maxRecDepth 100000 in
set_option maxHeartbeats 8000000 in
theorem straight_any (w : World) : Calls Try.prog 52 #[] w fun e w' => e = .returned (.bool true) ∧ Below w.heap.size w w' := by
  obtain ⟨w1, hw1⟩ : ∃ w1, w1 = ((((w.alloc (.cells #[.int .i64 0, .int .i64 2, .int .i64 2, .int .i64 3] 3)).alloc (.cells #[.int .i64 1, .int .i64 2, .int .i64 1] 3)).alloc (.cells #[.int .u64 5, .int .u64 1, .int .u64 2] 22)).alloc (.cells #[.int .i64 3, .slice (some ⟨w.heap.size, 0, none⟩) 4 4, .slice (some ⟨w.heap.size + 1, 0, none⟩) 3 3, .slice (some ⟨w.heap.size + 1 + 1, 0, none⟩) 3 3] 32)).alloc (.cells #[.int .i64 0, .int .u64 0] 41) := ⟨_, rfl⟩
  have HM1 : Hid (ZM w w1 w.heap.size (w.heap.size + 1) (w.heap.size + 1 + 1) (w.heap.size + 1 + 1 + 1 + 1) (w.heap.size + 1 + 1 + 1)) := by
    obtain ⟨h1, h2, h3, h4, h5, h6⟩ := five_new w (.cells #[.int .i64 0, .int .i64 2, .int .i64 2, .int .i64 3] 3) (.cells #[.int .i64 1, .int .i64 2, .int .i64 1] 3) (.cells #[.int .u64 5, .int .u64 1, .int .u64 2] 22) (.cells #[.int .i64 3, .slice (some ⟨w.heap.size, 0, none⟩) 4 4, .slice (some ⟨w.heap.size + 1, 0, none⟩) 3 3, .slice (some ⟨w.heap.size + 1 + 1, 0, none⟩) 3 3] 32) (.cells #[.int .i64 0, .int .u64 0] 41)
    rw [hw1]
    exact ⟨h1, h2, h3, h5, h4, h6⟩
  have c0 := cell_of HM1.out.bg (i := 0) rfl
  have c1 := cell_of HM1.out.bg (i := 1) rfl
  have c2 := cell_of HM1.out.bg (i := 2) rfl
  have c3 := cell_of HM1.out.bg (i := 3) rfl
  rw [hw1] at c0 c1 c2 c3
  go_enter Try.func52, Try.ntmps52
  go_wp2_with fail
  rw [← hw1] at *
  clear hw1 c0 c1 c2 c3
  refine (rsearch_good 3 _ _ _ zSt zTl zWt 1 _ xS w1 HM1.out.gis zgood zwb HM1.out.sat zsok (by decide) zno).mono ?_
  rintro e w2 ⟨Q, L, rfl, hQl, hQ, hF, hb2⟩
  obtain rfl : L = zL := hF.only zfound zwb (by intro j hj; have := (zsok j hj).2; omega)
  have HM2 := hide (HM1.out.below hb2)
  have HQ2 := hide hQ
  have d0 := cell_of HM2.out.bg (i := 0) rfl
  have d1 := cell_of HM2.out.bg (i := 1) rfl
  have d2 := cell_of HM2.out.bg (i := 2) rfl
  have d3 := cell_of HM2.out.bg (i := 3) rfl
  clear HM1 hb2 hF hQl hQ
  go_wp2_with fail
  clear d0 d1 d2 d3
  refine (make_new 3 _ _ _ zSt zTl zWt 1 _ xS w2 HM2.out.gis zgood zwb HM2.out.sat zsok (by decide) zno).mono ?_
  rintro e w3 ⟨G, GY, GD, L, Y, D, rfl, hG, hY, hD, hF, hW, hb3, hGl⟩
  obtain rfl : L = zL := hF.only zfound zwb (by intro j hj; have := (zsok j hj).2; omega)
  obtain ⟨rfl, rfl⟩ := hW.only zgood zwhole
  obtain ⟨w4, hw4⟩ : ∃ w4, w4 = w3.alloc (.cells #[.slice (some ⟨G, 0, none⟩) 3 3, .slice (some ⟨GY, 0, none⟩) 3 3, .slice (some ⟨GD, 0, none⟩) 3 3] 103) := ⟨_, rfl⟩
  have b4 : Below w3.heap.size w3 w4 := by rw [hw4]; exact below_alloc (Below.refl _ _) _
  have bv : w4.heap[w3.heap.size]? = some (.cells #[.slice (some ⟨G, 0, none⟩) 3 3, .slice (some ⟨GY, 0, none⟩) 3 3, .slice (some ⟨GD, 0, none⟩) 3 3] 103 (0, 0)) := by rw [hw4]; exact heap_new _ _
  have HM4 := hide ((HM2.out.below hb3).below b4)
  have HQ4 : Hid (ArrU w4 Q zL) := (b4.block _ (by have := lt_of_heap HQ2.out; have := hb3.size; omega)).trans ((hb3.block _ (lt_of_heap HQ2.out)).trans HQ2.out)
  have HV4 : Hid (ZV w4 G GY GD w3.heap.size zL) := ⟨(b4.block _ (lt_of_heap hG)).trans hG, (b4.block _ (lt_of_heap hY)).trans hY, (b4.block _ (lt_of_heap hD)).trans hD, bv⟩
  have d0 := cell_of HM4.out.bg (i := 0) rfl
  have d1 := cell_of HM4.out.bg (i := 1) rfl
  have d2 := cell_of HM4.out.bg (i := 2) rfl
  have d3 := cell_of HM4.out.bg (i := 3) rfl
  have v0 := cell_of bv (i := 0) rfl
  have v1 := cell_of bv (i := 1) rfl
  have v2 := cell_of bv (i := 2) rfl
  have hlow : w.heap.size ≤ w3.heap.size := Nat.le_trans HM2.out.bel.size hb3.size
  clear HM2 HQ2 hG hY hD hF hW hb3 hGl b4 bv
  rw [hw4] at d0 d1 d2 d3 v0 v1 v2
  go_wp2_with fail
  rw [← hw4] at *
  clear hw4 d0 d1 d2 d3 v0 v1 v2
  refine (HM4.out.check HV4.out rfl zlb zck1).mono ?_
  rintro e w5 ⟨rfl, hb5⟩
  obtain ⟨wa, hwa⟩ : ∃ wa, wa = w5.alloc (.cells #[.int .u64 0, .int .u64 4, .int .u64 1] 22) := ⟨_, rfl⟩
  have ba : Below w5.heap.size w5 wa := by rw [hwa]; exact below_alloc (Below.refl _ _) _
  have hna : wa.heap[w5.heap.size]? = some (.cells #[.int .u64 0, .int .u64 4, .int .u64 1] 22 (0, 0)) := by rw [hwa]; exact heap_new _ _
  have bw := below_on hb5 ba
  have HMa := hide (HM4.out.below bw)
  have HVa := hide (HV4.out.below bw)
  have HQa : Hid (ArrU wa Q zL) := (bw.block _ (lt_of_heap HQ4.out)).trans HQ4.out
  have p0 := cell_of HVa.out.bv (i := 0) rfl
  have f0 := free_of HVa.out.bv 0
  obtain ⟨w6, hw6⟩ : ∃ w6, w6 = wa.setCell ⟨w3.heap.size, 0, none⟩ (.slice (some ⟨w5.heap.size, 0, none⟩) 3 3) := ⟨_, rfl⟩
  have hne : ∀ k, k ≠ w3.heap.size → w6.heap[k]? = wa.heap[k]? := fun k hk => by rw [hw6]; exact Below.heap_setCell _ _ _ _ (by exact hk)
  have hbv := HVa.out.bv
  have n1 : w.heap.size ≠ w3.heap.size := by intro h; have := HMa.out.la; unfold Arr at this; rw [h, hbv] at this; simp at this
  have n2 : w.heap.size + 1 ≠ w3.heap.size := by intro h; have := HMa.out.lb; unfold Arr at this; rw [h, hbv] at this; simp at this
  have n3 : w.heap.size + 1 + 1 ≠ w3.heap.size := by intro h; have := HMa.out.lc; unfold ArrU at this; rw [h, hbv] at this; simp at this
  have n4 : w.heap.size + 1 + 1 + 1 + 1 ≠ w3.heap.size := by intro h; have := HMa.out.ls; rw [h, hbv] at this; simp at this
  have n5 : w.heap.size + 1 + 1 + 1 ≠ w3.heap.size := by intro h; have := HMa.out.bg; rw [h, hbv] at this; simp at this
  have n6 : Q ≠ w3.heap.size := by intro h; have := HQa.out; unfold ArrU at this; rw [h, hbv] at this; simp at this
  have n7 : GY ≠ w3.heap.size := by intro h; have := HVa.out.y; unfold Arr at this; rw [h, hbv] at this; simp at this
  have n8 : GD ≠ w3.heap.size := by intro h; have := HVa.out.d; unfold Arr at this; rw [h, hbv] at this; simp at this
  have n9 : w5.heap.size ≠ w3.heap.size := by intro h; rw [h, hbv] at hna; simp at hna
  have HM6 : Hid (ZM w w6 w.heap.size (w.heap.size + 1) (w.heap.size + 1 + 1) (w.heap.size + 1 + 1 + 1 + 1) (w.heap.size + 1 + 1 + 1)) :=
    ⟨(hne _ n1).trans HMa.out.la, (hne _ n2).trans HMa.out.lb, (hne _ n3).trans HMa.out.lc, (hne _ n4).trans HMa.out.ls, (hne _ n5).trans HMa.out.bg, by rw [hw6]; exact HMa.out.bel.setCell (p := ⟨w3.heap.size, 0, none⟩) hlow _⟩
  have HV6 : Hid (ZV w6 w5.heap.size GY GD w3.heap.size zM) := ⟨(hne _ n9).trans hna, (hne _ n7).trans HVa.out.y, (hne _ n8).trans HVa.out.d, by rw [hw6, heap_set hbv]; rfl⟩
  have HQ6 : Hid (ArrU w6 Q zL) := (hne _ n6).trans HQa.out
  have d0 := cell_of HM6.out.bg (i := 0) rfl
  have d1 := cell_of HM6.out.bg (i := 1) rfl
  have d2 := cell_of HM6.out.bg (i := 2) rfl
  have d3 := cell_of HM6.out.bg (i := 3) rfl
  have v0 := cell_of HV6.out.bv (i := 0) rfl
  have v1 := cell_of HV6.out.bv (i := 1) rfl
  have v2 := cell_of HV6.out.bv (i := 2) rfl
  rw [hw6, hwa] at d0 d1 d2 d3 v0 v1 v2
  rw [hwa] at p0 f0
  clear n1 n2 n3 n4 n5 n6 n7 n8 n9 hbv hne hna ba bw hb5 HM4 HV4 HQ4 HMa HVa HQa
  go_wp2_with fail
  rw [← hwa, ← hw6]
  clear hw6 hwa d0 d1 d2 d3 v0 v1 v2 p0 f0
  refine (HM6.out.check HV6.out rfl zlb2 zck2).mono ?_
  rintro e w7 ⟨rfl, hb7⟩
  have HB7 := hide (below_on HM6.out.bel hb7)
  have HQ7 : Hid (ArrU w7 Q zL) := (hb7.block _ (lt_of_heap HQ6.out)).trans HQ6.out
  clear hb7 HM6 HV6 HQ6
  go_wp2_with fail
  have HQ8 : Hid (ArrU (w7.alloc (.cells #[.int .u64 0, .int .u64 3, .int .u64 1] 22)) Q zL) := ((below_alloc (Below.refl _ _) _).block _ (lt_of_heap HQ7.out)).trans HQ7.out
  have HA8 : Hid (ArrU (w7.alloc (.cells #[.int .u64 0, .int .u64 3, .int .u64 1] 22)) w7.heap.size zL) := heap_new w7 (.cells #[.int .u64 0, .int .u64 3, .int .u64 1] 22)
  have HB8 := hide (below_alloc HB7.out (.cells #[.int .u64 0, .int .u64 3, .int .u64 1] 22))
  generalize w7.alloc (.cells #[.int .u64 0, .int .u64 3, .int .u64 1] 22) = w8 at HQ8 HA8 HB8 ⊢
  refine (tWords_any _ _ zL w8 (HQ8.out.row rfl (by decide)) (HA8.out.row rfl (by decide))).mono ?_
  rintro e w9 ⟨rfl, hb9⟩
  have HB9 := hide (below_on HB8.out hb9)
  clear hb9
  go_wp2
  go_ret
  exact ⟨rfl, HB9.out⟩
end Go.Proofs.Ythoklgdlnmccmaa

