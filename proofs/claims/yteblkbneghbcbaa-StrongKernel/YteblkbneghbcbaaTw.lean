/- Two marks behind a list; a graph's twin; are graphs alike? -/
import Derived.Test.YteblkbneghbcbaaRo
import Derived.Deep.RegionHeld3
namespace Go.Proofs.Yteblkbneghbcbaa
open Go.RowKit Go.Lib
set_option linter.unusedVariables false
set_option linter.unusedSimpArgs false
/-- A list with two marks behind it, at an own address. -/
def M2A (k : IntKind) (w : World) (g c : Nat) (xs : List Int) (m1 m2 : Int) : Prop := RowAt k w (.slice (some ⟨g, 0, none⟩) (xs.length + 2) c) (xs ++ [m1, m2])
section
variable {k : IntKind} {w w' : World} {g c : Nat} {xs : List Int} {m1 m2 : Int}
theorem M2A.row (h : M2A k w g c xs m1 m2) : RowAt k w (.slice (some ⟨g, 0, none⟩) xs.length c) xs := RowAt.front h
theorem M2A.below (h : M2A k w g c xs m1 m2) (hb : Below w.heap.size w w') : M2A k w' g c xs m1 m2 := RowAt.below h hb
theorem M2A.cap (h : M2A k w g c xs m1 m2) : xs.length + 2 ≤ c ∧ c ≤ 9223372036854775807 := by
  obtain ⟨ao, c', he, h1, h2, _⟩ := h
  simp only [Value.slice.injEq] at he
  obtain ⟨_, _, rfl⟩ := he
  simp at h1
  exact ⟨h1, h2⟩
theorem M2A.ends (h : M2A k w g c xs m1 m2) : w.cell? ⟨g, xs.length, none⟩ = some (.int k m1) ∧ w.cell? ⟨g, xs.length + 1, none⟩ = some (.int k m2) := by
  obtain ⟨ao, c', he, h1, _, _, h4⟩ := h
  simp only [Value.slice.injEq] at he
  obtain ⟨rfl, _, rfl⟩ := he
  have a := h4 _ rfl xs.length (by simp)
  have b := h4 _ rfl (xs.length + 1) (by simp)
  rw [Addr.add_lit] at a b
  rw [show (xs ++ [m1, m2] : List Int).getD xs.length 0 = m1 by simp [List.getD], Nat.zero_add] at a
  rw [show (xs ++ [m1, m2] : List Int).getD (xs.length + 1) 0 = m2 by simp [List.getD], Nat.zero_add] at b
  exact ⟨a, b⟩
end
set_option maxRecDepth 100000 in
set_option maxHeartbeats 2000000 in
theorem ints_any (xv : Value) (xs : List Int) (w : World) (hx : RowAt .i64 w xv xs) (hb : xs.length * 8 ≤ 140737488351232) :
    Calls Try.prog 36 #[xv] w fun e w' => ∃ g c, e = .returned (.slice (some ⟨g, 0, none⟩) xs.length c) ∧ w.heap.size ≤ g ∧ M2A .i64 w' g c xs (-81) (-82) ∧ Below w.heap.size w w' := by
  obtain ⟨i0, hi, hz0, hz1, hz2⟩ := info_parts Try.info3q
  obtain ⟨ao, ca, rfl⟩ : ∃ ao c, xv = .slice ao xs.length c := by obtain ⟨ao, c, h, _⟩ := hx; exact ⟨ao, c, h⟩
  have HX := hide hx
  clear hx
  go_enter Try.func36, Try.ntmps36
  go_wp2_with (first
    | (at_builtin; refine wpList_fresh rfl (.tmp 4) (.tmp 5) 22 rfl .i64 3 i0 (.int .i64 0) 8 Try.underlying22 hi hz0 hz1 hz2 rfl w.heap.size _ (own_new _ 3 w.heap.size rfl) (by simp) _ xs rfl rfl (HX.out.below (below_alloc (Below.refl _ _) _)) (by omega) (by unfold maxLen; omega) ?_; intro v1 w1a hownA1 hbelA1)
    | (at_builtin; refine wpList_append_own _ rfl (.tmp 7) (.tmp 8) 22 rfl _ 3 i0 (.int .i64 0) 1 8 Try.underlying22 hi hz0 hz1 hz2 rfl (by decide) _ _ _ rfl (hownA1.alloc _) ⟨w1a.heap.size, 0, none⟩ 2 2 [.int .i64 (-81), .int .i64 (-82)] rfl rfl (two_at w1a _ _ _) (by simp [Value.oneCell']) (by unfold maxLen; omega) (by omega) (by have hq := hbelA1.size; simp at hq; simp; omega) ?_; intro u1 w1b hownB1 hgrowB1 hqB1; obtain ⟨g1, e1, rfl, ka1, kb1, kc1, hrow1, hbel1⟩ := marks_made hownA1 (below_on (below_alloc (Below.refl _ _) _) hbelA1) hownB1 hgrowB1; have hk2 : (xs.length : Int) ≤ e1 := (by omega); have HROW1 := hide hrow1; have HBEL1 := hide hbel1; clear hownA1 hbelA1 hownB1 hgrowB1 hqB1 hrow1 hbel1)
    | fail)
  go_wp2
  go_ret
  exact ⟨g1, e1, rfl, kc1, HROW1.out, HBEL1.out⟩

set_option maxRecDepth 100000 in
set_option maxHeartbeats 2000000 in
theorem words_any (xv : Value) (xs : List Int) (w : World) (hx : RowAt .u64 w xv xs) (hb : xs.length * 8 ≤ 140737488351232) :
    Calls Try.prog 37 #[xv] w fun e w' => ∃ g c, e = .returned (.slice (some ⟨g, 0, none⟩) xs.length c) ∧ w.heap.size ≤ g ∧ M2A .u64 w' g c xs 83 84 ∧ Below w.heap.size w w' := by
  obtain ⟨i0, hi, hz0, hz1, hz2⟩ := info_parts Try.info58
  obtain ⟨ao, ca, rfl⟩ : ∃ ao c, xv = .slice ao xs.length c := by obtain ⟨ao, c, h, _⟩ := hx; exact ⟨ao, c, h⟩
  have HX := hide hx
  clear hx
  go_enter Try.func37, Try.ntmps37
  go_wp2_with (first
    | (at_builtin; refine wpList_fresh rfl (.tmp 4) (.tmp 5) 23 rfl .u64 58 i0 (.int .u64 0) 8 Try.underlying23 hi hz0 hz1 hz2 rfl w.heap.size _ (own_new _ 58 w.heap.size rfl) (by simp) _ xs rfl rfl (HX.out.below (below_alloc (Below.refl _ _) _)) (by omega) (by unfold maxLen; omega) ?_; intro v1 w1a hownA1 hbelA1)
    | (at_builtin; refine wpList_append_own _ rfl (.tmp 7) (.tmp 8) 23 rfl _ 58 i0 (.int .u64 0) 1 8 Try.underlying23 hi hz0 hz1 hz2 rfl (by decide) _ _ _ rfl (hownA1.alloc _) ⟨w1a.heap.size, 0, none⟩ 2 2 [.int .u64 83, .int .u64 84] rfl rfl (two_at w1a _ _ _) (by simp [Value.oneCell']) (by unfold maxLen; omega) (by omega) (by have hq := hbelA1.size; simp at hq; simp; omega) ?_; intro u1 w1b hownB1 hgrowB1 hqB1; obtain ⟨g1, e1, rfl, ka1, kb1, kc1, hrow1, hbel1⟩ := marks_made hownA1 (below_on (below_alloc (Below.refl _ _) _) hbelA1) hownB1 hgrowB1; have hk2 : (xs.length : Int) ≤ e1 := (by omega); have HROW1 := hide hrow1; have HBEL1 := hide hbel1; clear hownA1 hbelA1 hownB1 hgrowB1 hqB1 hrow1 hbel1)
    | fail)
  go_wp2
  go_ret
  exact ⟨g1, e1, rfl, kc1, HROW1.out, HBEL1.out⟩
theorem two_keep {W x : World} {A B : Nat} {p0 p1 p2 p3 q0 q1 q2 q3 : Value} (hA : W.heap[A]? = some (.cells #[p0, p1, p2, p3] 25 (0, 0))) (hB : W.heap[B]? = some (.cells #[q0, q1, q2, q3] 25 (0, 0))) (h : Below W.heap.size W x) :
    (x.cell? ⟨A, 0, none⟩ = some p0 ∧ x.cell? ⟨A, 1, none⟩ = some p1 ∧ x.cell? ⟨A, 2, none⟩ = some p2 ∧ x.cell? ⟨A, 3, none⟩ = some p3) ∧ x.heap[B]? = some (.cells #[q0, q1, q2, q3] 25 (0, 0)) := by
  have hA' := (h.block A (lt_of_heap hA)).trans hA
  have hB' := (h.block B (lt_of_heap hB)).trans hB
  exact ⟨⟨cell_of hA' rfl, cell_of hA' rfl, cell_of hA' rfl, cell_of hA' rfl⟩, hB'⟩

theorem RowAt.setOther {k : IntKind} {w : World} {ao : Option Addr} {n c : Nat} {xs : List Int} (h : RowAt k w (.slice ao n c) xs) (B i : Nat) (u : Value) (hn : ∀ a, ao = some a → ¬ a.block = B) : RowAt k (w.setCell ⟨B, i, none⟩ u) (.slice ao n c) xs := by
  obtain ⟨ao', c', he, h1, h2, h3, h4⟩ := h
  simp only [Value.slice.injEq] at he
  obtain ⟨rfl, rfl, rfl⟩ := he
  refine ⟨ao, c, rfl, h1, h2, h3, fun a ha j hj => ?_⟩
  have h5 := h4 a ha j hj
  rw [← h5]
  have hb : (a.add j).block ≠ B := by
    have e : (a.add j).block = a.block := by unfold Addr.add; split <;> rfl
    rw [e]; exact hn a ha
  unfold World.cell?
  rw [Below.heap_setCell w ⟨B, i, none⟩ u (a.add j).block hb]
theorem M2A.setOther {k : IntKind} {w : World} {g c : Nat} {xs : List Int} {m1 m2 : Int} (h : M2A k w g c xs m1 m2) (B i : Nat) (u : Value) (hn : ¬ g = B) : M2A k (w.setCell ⟨B, i, none⟩ u) g c xs m1 m2 :=
  RowAt.setOther h B i u fun a ha => by cases ha; exact hn

/-- A twin in memory. -/
structure TIs (w : World) (N : Int) (g1 c1 g2 c2 g3 c3 : Nat) (st tl wt : List Int) : Prop where
  s : M2A .i64 w g1 c1 st (-81) (-82)
  t : M2A .i64 w g2 c2 tl (-81) (-82)
  u : M2A .u64 w g3 c3 wt 83 84
theorem TIs.below {w w' : World} {N : Int} {g1 c1 g2 c2 g3 c3 : Nat} {st tl wt : List Int} (h : TIs w N g1 c1 g2 c2 g3 c3 st tl wt) (hb : Below w.heap.size w w') : TIs w' N g1 c1 g2 c2 g3 c3 st tl wt := ⟨h.s.below hb, h.t.below hb, h.u.below hb⟩
def tAgg (N : Int) (g1 c1 g2 c2 g3 c3 n1 n2 n3 : Nat) : Value := gAgg N (.slice (some ⟨g1, 0, none⟩) n1 c1) (.slice (some ⟨g2, 0, none⟩) n2 c2) (.slice (some ⟨g3, 0, none⟩) n3 c3)
theorem TIs.gis {w : World} {N : Int} {g1 c1 g2 c2 g3 c3 : Nat} {st tl wt : List Int} (h : TIs w N g1 c1 g2 c2 g3 c3 st tl wt) :
    GIs w N (.slice (some ⟨g1, 0, none⟩) st.length c1) (.slice (some ⟨g2, 0, none⟩) tl.length c2) (.slice (some ⟨g3, 0, none⟩) wt.length c3) st tl wt := ⟨h.s.row, h.t.row, h.u.row⟩

theorem twin_end {w W w3 : World} {N : Int} {g1 g2 g3 c1 c2 c3 : Nat} {st tl wt : List Int} {q0 q1 q2 q3 : Value} (hbW : Below w.heap.size w W) (hb3 : Below W.heap.size W w3)
    (hz : w3.heap[w.heap.size + 1]? = some (.cells #[q0, q1, q2, q3] 25 (0, 0))) (h : TIs w3 N g1 c1 g2 c2 g3 c3 st tl wt)
    (m1 : ¬ g1 = w.heap.size + 1) (m2 : ¬ g2 = w.heap.size + 1) (m3 : ¬ g3 = w.heap.size + 1) :
    let v1 : Value := .slice (some ⟨g1, 0, none⟩) st.length c1; let v2 : Value := .slice (some ⟨g2, 0, none⟩) tl.length c2; let v3 : Value := .slice (some ⟨g3, 0, none⟩) wt.length c3
    let wf := (((w3.setCell ⟨w.heap.size + 1, 0, none⟩ (.int .i64 N)).setCell ⟨w.heap.size + 1, 1, none⟩ v1).setCell ⟨w.heap.size + 1, 2, none⟩ v2).setCell ⟨w.heap.size + 1, 3, none⟩ v3
    wf.heap[w.heap.size + 1]? = some (.cells #[.int .i64 N, v1, v2, v3] 25 (0, 0)) ∧ TIs wf N g1 c1 g2 c2 g3 c3 st tl wt ∧ Below w.heap.size w wf := by
  intro v1 v2 v3 wf
  have hh := heap_set (i := 3) (heap_set (i := 2) (heap_set (i := 1) (heap_set (i := 0) hz (.int .i64 N)) v1) v2) v3
  have hw : wf.heap[w.heap.size + 1]? = some (.cells #[.int .i64 N, v1, v2, v3] 25 (0, 0)) := by
    show ((((w3.setCell ⟨w.heap.size + 1, 0, none⟩ (.int .i64 N)).setCell ⟨w.heap.size + 1, 1, none⟩ v1).setCell ⟨w.heap.size + 1, 2, none⟩ v2).setCell ⟨w.heap.size + 1, 3, none⟩ v3).heap[w.heap.size + 1]? = _
    rw [hh]
    simp
  refine ⟨hw, ⟨?_, ?_, ?_⟩, ?_⟩
  · exact (((h.s.setOther _ _ _ m1).setOther _ _ _ m1).setOther _ _ _ m1).setOther _ _ _ m1
  · exact (((h.t.setOther _ _ _ m2).setOther _ _ _ m2).setOther _ _ _ m2).setOther _ _ _ m2
  · exact (((h.u.setOther _ _ _ m3).setOther _ _ _ m3).setOther _ _ _ m3).setOther _ _ _ m3
  · have hb : Below w.heap.size w w3 := below_on hbW hb3
    exact (((hb.setCell (p := ⟨w.heap.size + 1, 0, none⟩) (by show w.heap.size ≤ w.heap.size + 1; omega) _).setCell (p := ⟨w.heap.size + 1, 1, none⟩) (by show w.heap.size ≤ w.heap.size + 1; omega) _).setCell (p := ⟨w.heap.size + 1, 2, none⟩) (by show w.heap.size ≤ w.heap.size + 1; omega) _).setCell (p := ⟨w.heap.size + 1, 3, none⟩) (by show w.heap.size ≤ w.heap.size + 1; omega) _

set_option maxRecDepth 100000 in
set_option maxHeartbeats 8000000 in
theorem twin_any (N : Int) (va vb vc : Value) (st tl wt : List Int) (w : World) (hg : GIs w N va vb vc st tl wt) (hst : st.length * 8 ≤ 140737488351232) (hto : tl.length * 8 ≤ 140737488351232) (hwt : wt.length * 8 ≤ 140737488351232) :
    Calls Try.prog 11 #[gAgg N va vb vc] w fun e w' => ∃ g1 c1 g2 c2 g3 c3, e = .returned (tAgg N g1 c1 g2 c2 g3 c3 st.length tl.length wt.length) ∧ TIs w' N g1 c1 g2 c2 g3 c3 st tl wt ∧ Below w.heap.size w w' := by
  obtain ⟨ao, ca, rfl⟩ := hg.s.shape
  obtain ⟨bo, cb, rfl⟩ := hg.t.shape
  obtain ⟨co, cc, rfl⟩ := hg.u.shape
  have HG := hide hg
  clear hg
  unfold gAgg tAgg
  go_enter Try.func11, Try.ntmps11
  go_wp2_with fail
  obtain ⟨W, hW⟩ : ∃ W, W = (w.alloc (.cells #[.int .i64 N, .slice ao st.length ca, .slice bo tl.length cb, .slice co wt.length cc] 25)).alloc (.cells #[.int .i64 0, .slice none 0 0, .slice none 0 0, .slice none 0 0] 25) := ⟨_, rfl⟩
  have hbW : Below w.heap.size w W := by rw [hW]; exact below_alloc (below_alloc (Below.refl _ _) _) _
  have hA : W.heap[w.heap.size]? = some (.cells #[.int .i64 N, .slice ao st.length ca, .slice bo tl.length cb, .slice co wt.length cc] 25 (0, 0)) := by
    rw [hW]
    exact (((Below.refl _ _).alloc (Nat.le_refl _) _).block w.heap.size (by simp)).trans (heap_new w _)
  have hB : W.heap[w.heap.size + 1]? = some (.cells #[.int .i64 0, .slice none 0 0, .slice none 0 0, .slice none 0 0] 25 (0, 0)) := by
    rw [hW]
    have := heap_new (w.alloc (.cells #[.int .i64 N, .slice ao st.length ca, .slice bo tl.length cb, .slice co wt.length cc] 25)) (.cells #[.int .i64 0, .slice none 0 0, .slice none 0 0, .slice none 0 0] 25)
    simpa using this
  rw [← hW]
  have HA := hide hA; have HB := hide hB; have HBW := hide hbW
  have HGW := hide (HG.out.below hbW)
  obtain ⟨⟨c0, c1, c2, c3⟩, _⟩ := two_keep hA hB (Below.refl _ W)
  have HR := hide (Below.refl W.heap.size W)
  have hWs : w.heap.size + 1 < W.heap.size := lt_of_heap hB
  clear hA hB hbW hW
  refine wp_region_noPanic ?_
  go_region_held3 (fun x => x.cell? ⟨w.heap.size, 0, none⟩ = some (.int .i64 N) ∧ x.cell? ⟨w.heap.size, 1, none⟩ = some (.slice ao st.length ca) ∧ x.cell? ⟨w.heap.size, 2, none⟩ = some (.slice bo tl.length cb) ∧ x.cell? ⟨w.heap.size, 3, none⟩ = some (.slice co wt.length cc)) (first | go_keep | exact ⟨z0, z1, z2, z3⟩)
    (first
      | (go_at_call 36; have hq0 := HB1.out; clear hq0; refine (ints_any (.slice bo tl.length cb) tl _ (HGW.out.below HB1.out).t hto).mono ?_; rintro e w2 ⟨g2, cp2, rfl, hg2, hm2, hbel⟩; have hB2 := below_on (a := W) HB1.out hbel; have hS2 : Below w1.heap.size w1 w2 := hbel; have HS2 := hide hS2; obtain ⟨⟨z0, z1, z2, z3⟩, zB⟩ := two_keep HA.out HB.out hB2; have p2 := HB1.out.size; have hn2 : ¬ g2 = w.heap.size + 1 := (by omega); have HN2 := hide hn2; have HB2 := hide hB2; have HM2 := hide hm2; clear hn2 hg2 hm2 hbel hB2 zB hS2 p2)
      | (go_at_call 36; refine (ints_any (.slice ao st.length ca) st _ (HGW.out.below (below_drew HR.out)).s hst).mono ?_; rintro e w1 ⟨g1, cp1, rfl, hg1, hm1, hbel⟩; have hB1 := below_on (a := W) (below_drew HR.out) hbel; obtain ⟨⟨z0, z1, z2, z3⟩, zB⟩ := two_keep HA.out HB.out hB1; have hn1 : ¬ g1 = w.heap.size + 1 := (by simp at hg1; omega); have HN1 := hide hn1; have HB1 := hide hB1; have HM1 := hide hm1; clear hn1 hg1 hm1 hbel hB1 zB)
      | (go_at_call 37; refine (words_any (.slice co wt.length cc) wt _ (HGW.out.below HB2.out).u hwt).mono ?_; rintro e w3 ⟨g3, cp3, rfl, hg3, hm3, hbel⟩; have hB3 := below_on (a := W) HB2.out hbel; have hS3 : Below w2.heap.size w2 w3 := hbel; have HS3 := hide hS3; obtain ⟨⟨z0, z1, z2, z3⟩, zB⟩ := two_keep HA.out HB.out hB3; have p3 := HB2.out.size; have hn3 : ¬ g3 = w.heap.size + 1 := (by omega); have HN3 := hide hn3; have HB3 := hide hB3; have HM3 := hide hm3; have HZ := hide zB; have e0 : w3.cell? ⟨w.heap.size + 1, 0, none⟩ = some (.int .i64 0) := cell_of HZ.out rfl; have e1 : w3.cell? ⟨w.heap.size + 1, 1, none⟩ = some (.slice none 0 0) := cell_of HZ.out rfl; have e2 : w3.cell? ⟨w.heap.size + 1, 2, none⟩ = some (.slice none 0 0) := cell_of HZ.out rfl; have e3 : w3.cell? ⟨w.heap.size + 1, 3, none⟩ = some (.slice none 0 0) := cell_of HZ.out rfl; have q0 := free_of HZ.out 0; have q1 := free_of HZ.out 1; have q2 := free_of HZ.out 2; have q3 := free_of HZ.out 3; clear hn3 hg3 hm3 hbel hB3 zB hS3 p3))
  all_goals
    refine NoPanic.normal ?_
    obtain ⟨hwf, hG, hL⟩ := twin_end HBW.out HB3.out HZ.out (N := N) ⟨(HM1.out.below HS2.out).below HS3.out, HM2.out.below HS3.out, HM3.out⟩ HN1.out HN2.out HN3.out
    have HGG := hide hG; have HLL := hide hL; have HWF := hide hwf
    generalize ((((w3.setCell ⟨w.heap.size + 1, 0, none⟩ (.int .i64 N)).setCell ⟨w.heap.size + 1, 1, none⟩ (.slice (some ⟨g1, 0, none⟩) st.length cp1)).setCell ⟨w.heap.size + 1, 2, none⟩ (.slice (some ⟨g2, 0, none⟩) tl.length cp2)).setCell ⟨w.heap.size + 1, 3, none⟩ (.slice (some ⟨g3, 0, none⟩) wt.length cp3)) = wf at HWF HGG HLL ⊢
    clear hG hL hwf
    go_wp2
    exact bodyPost_ret (results_cell_row Try.results11 _ wf (w.heap.size + 1) 25 _ (0, 0) _ rfl HWF.out Try.underlying25 rfl (by kernel_rfl)) rfl ⟨_, _, _, _, _, _, rfl, HGG.out, HLL.out⟩
set_option maxHeartbeats 2000000 in
set_option maxRecDepth 100000 in
theorem lawSame_any (v1 v2 : Value) (xs ys : List Int) (w : World) (h1 : RowAt .i64 w v1 xs) (h2 : RowAt .i64 w v2 ys) : Calls Try.prog 14 #[v1, v2] w fun e w' => e = .returned (.bool (decide (xs = ys))) ∧ Below w.heap.size w w' := by
  obtain ⟨a1, c1, rfl⟩ := h1.shape
  obtain ⟨a2, c2, rfl⟩ := h2.shape
  by_cases hl : xs.length = ys.length
  · have M1 : Hid (xs.length ≤ 9223372036854775807) := by
      obtain ⟨_, _, he, q1, q2, _⟩ := h1
      simp only [Value.slice.injEq] at he
      show _ ≤ _
      omega
    have H1 := hide h1; have H2 := hide h2
    obtain ⟨n, hn⟩ : ∃ n, n = ys.length := ⟨_, rfl⟩
    rw [← hn] at hl ⊢
    have HN := hide hn; have HL := hide hl
    rw [hl]
    clear h1 h2 hn hl
    go_enter Try.func14, Try.ntmps14
    go_wp2_with fail
    go_loopw [5] (fun t wr => ∃ k : Nat, k ≤ n ∧ t = .int .i64 k ∧ (∀ i, i < k → at_ xs i = at_ ys i) ∧ Below w.heap.size w wr) (fun t _ => n - (RowKit.intOf t).toNat)
    case atStart => exact ⟨0, by omega, rfl, fun i hi => by omega, Below.refl _ _⟩
    case round =>
      obtain ⟨k, hk, rfl, heq, hbel⟩ := hrel
      have HBL := hide hbel; have HEQ := hide heq
      clear heq
      by_cases hlt : k < n
      · obtain ⟨g1, o1, d1, he1, hc1, x1⟩ := (H1.out.below hbel).cellAt k (by have := HL.out; omega)
        obtain ⟨g2, o2, d2, he2, hc2, x2⟩ := (H2.out.below hbel).cellAt k (by have := HN.out; omega)
        simp only [Value.slice.injEq] at he1 he2
        obtain ⟨rfl, q1, rfl⟩ := he1
        obtain ⟨rfl, q2, rfl⟩ := he2
        have hkm : (k : Int) + 1 ≤ 9223372036854775807 := by have := M1.out; have := HL.out; omega
        have hk1 : (k : Int) < c1 := by have := HL.out; omega
        have hk2 : (k : Int) < c2 := by have := HN.out; omega
        obtain ⟨s, hs⟩ : ∃ s, s = at_ xs k := ⟨_, rfl⟩
        obtain ⟨t, ht⟩ : ∃ t, t = at_ ys k := ⟨_, rfl⟩
        rw [← hs] at x1
        rw [← ht] at x2
        have HST := hide (And.intro hs ht)
        have y1 := gw_cell x1
        have y2 := gw_cell x2
        clear hbel q1 q2 hc1 hc2 hs ht
        by_cases hst : s = t
        · subst hst
          go_wp2_with fail
          refine wp_region_gw (by kernel_rfl) (by kernel_rfl) ?_
          repeat (go_big_quiet_step (rfl))
          refine wpQuiet_nil ?_
          intro _ hw'
          obtain ⟨x, hw''⟩ := hw'
          subst hw''
          go_wp2_with fail
          go_roundw
          case rel =>
            refine ⟨k + 1, Nat.succ_le_of_lt hlt, by go_num, fun i hi => ?_, HBL.out.trans (x.bel.mono HBL.out.size)⟩
            by_cases e : i = k
            · subst e; rw [← HST.out.1, ← HST.out.2]
            · exact HEQ.out i (by omega)
          case measure => exact mdec hlt
        · have hne : (s != t) = true := by simpa using hst
          have HNE : Hid (decide (xs = ys) = false) := by
            refine decide_eq_false fun e => hst ?_
            rw [HST.out.1, HST.out.2, e]
          clear hst
          go_wp2_with fail
          refine wp_region_gw (by kernel_rfl) (by kernel_rfl) ?_
          repeat (go_big_quiet_step (rfl))
          refine wpQuiet_nil ?_
          intro _ hw'
          obtain ⟨x, hw''⟩ := hw'
          subst hw''
          go_wp2_with fail
          go_ret
          rw [HNE.out]; exact ⟨rfl, HBL.out.trans (x.bel.mono HBL.out.size)⟩
      · have HNE : Hid (decide (xs = ys) = true) := by
          refine decide_eq_true (List.ext_getElem? fun i => ?_)
          by_cases hi : i < n
          · have h3 := HEQ.out i (by omega)
            have e1 : xs[i]? = some (at_ xs i) := by simp [at_, show i < xs.length by have := HL.out; omega]
            have e2 : ys[i]? = some (at_ ys i) := by simp [at_, show i < ys.length by have := HN.out; omega]
            rw [e1, e2, h3]
          · rw [List.getElem?_eq_none (by have := HL.out; omega), List.getElem?_eq_none (by have := HN.out; omega)]
        clear hbel
        go_wp2_with fail
        go_ret
        rw [HNE.out]; exact ⟨rfl, HBL.out⟩
  · have hne : ((xs.length : Int) != (ys.length : Int)) = true := by simp; omega
    have HNE : Hid (decide (xs = ys) = false) := decide_eq_false fun e => hl (by rw [e])
    generalize xs.length = n1 at hne ⊢
    generalize ys.length = n2 at hne ⊢
    clear h1 h2 hl
    go_enter Try.func14, Try.ntmps14
    go_wp2
    go_ret
    rw [HNE.out]; exact ⟨rfl, Below.refl _ _⟩
set_option maxHeartbeats 2000000 in
set_option maxRecDepth 100000 in
theorem refSame_any (v1 v2 : Value) (xs ys : List Int) (w : World) (h1 : RowAt .i64 w v1 xs) (h2 : RowAt .i64 w v2 ys) : Calls Try.prog 49 #[v1, v2] w fun e w' => e = .returned (.bool (decide (xs = ys))) ∧ Below w.heap.size w w' := by
  obtain ⟨a1, c1, rfl⟩ := h1.shape
  obtain ⟨a2, c2, rfl⟩ := h2.shape
  by_cases hl : xs.length = ys.length
  · have M1 : Hid (xs.length ≤ 9223372036854775807) := by
      obtain ⟨_, _, he, q1, q2, _⟩ := h1
      simp only [Value.slice.injEq] at he
      show _ ≤ _
      omega
    have H1 := hide h1; have H2 := hide h2
    obtain ⟨n, hn⟩ : ∃ n, n = ys.length := ⟨_, rfl⟩
    rw [← hn] at hl ⊢
    have HN := hide hn; have HL := hide hl
    rw [hl]
    clear h1 h2 hn hl
    go_enter Try.func49, Try.ntmps49
    go_wp2_with fail
    go_loopw [5] (fun t wr => ∃ k : Nat, k ≤ n ∧ t = .int .i64 k ∧ (∀ i, i < k → at_ xs i = at_ ys i) ∧ Below w.heap.size w wr) (fun t _ => n - (RowKit.intOf t).toNat)
    case atStart => exact ⟨0, by omega, rfl, fun i hi => by omega, Below.refl _ _⟩
    case round =>
      obtain ⟨k, hk, rfl, heq, hbel⟩ := hrel
      have HBL := hide hbel; have HEQ := hide heq
      clear heq
      by_cases hlt : k < n
      · obtain ⟨g1, o1, d1, he1, hc1, x1⟩ := (H1.out.below hbel).cellAt k (by have := HL.out; omega)
        obtain ⟨g2, o2, d2, he2, hc2, x2⟩ := (H2.out.below hbel).cellAt k (by have := HN.out; omega)
        simp only [Value.slice.injEq] at he1 he2
        obtain ⟨rfl, q1, rfl⟩ := he1
        obtain ⟨rfl, q2, rfl⟩ := he2
        have hkm : (k : Int) + 1 ≤ 9223372036854775807 := by have := M1.out; have := HL.out; omega
        have hk1 : (k : Int) < c1 := by have := HL.out; omega
        have hk2 : (k : Int) < c2 := by have := HN.out; omega
        obtain ⟨s, hs⟩ : ∃ s, s = at_ xs k := ⟨_, rfl⟩
        obtain ⟨t, ht⟩ : ∃ t, t = at_ ys k := ⟨_, rfl⟩
        rw [← hs] at x1
        rw [← ht] at x2
        have HST := hide (And.intro hs ht)
        have y1 := gw_cell x1
        have y2 := gw_cell x2
        clear hbel q1 q2 hc1 hc2 hs ht
        by_cases hst : s = t
        · subst hst
          go_wp2_with fail
          refine wp_region_gw (by kernel_rfl) (by kernel_rfl) ?_
          repeat (go_big_quiet_step (rfl))
          refine wpQuiet_nil ?_
          intro _ hw'
          obtain ⟨x, hw''⟩ := hw'
          subst hw''
          go_wp2_with fail
          go_roundw
          case rel =>
            refine ⟨k + 1, Nat.succ_le_of_lt hlt, by go_num, fun i hi => ?_, HBL.out.trans (x.bel.mono HBL.out.size)⟩
            by_cases e : i = k
            · subst e; rw [← HST.out.1, ← HST.out.2]
            · exact HEQ.out i (by omega)
          case measure => exact mdec hlt
        · have hne : (s != t) = true := by simpa using hst
          have HNE : Hid (decide (xs = ys) = false) := by
            refine decide_eq_false fun e => hst ?_
            rw [HST.out.1, HST.out.2, e]
          clear hst
          go_wp2_with fail
          refine wp_region_gw (by kernel_rfl) (by kernel_rfl) ?_
          repeat (go_big_quiet_step (rfl))
          refine wpQuiet_nil ?_
          intro _ hw'
          obtain ⟨x, hw''⟩ := hw'
          subst hw''
          go_wp2_with fail
          go_ret
          rw [HNE.out]; exact ⟨rfl, HBL.out.trans (x.bel.mono HBL.out.size)⟩
      · have HNE : Hid (decide (xs = ys) = true) := by
          refine decide_eq_true (List.ext_getElem? fun i => ?_)
          by_cases hi : i < n
          · have h3 := HEQ.out i (by omega)
            have e1 : xs[i]? = some (at_ xs i) := by simp [at_, show i < xs.length by have := HL.out; omega]
            have e2 : ys[i]? = some (at_ ys i) := by simp [at_, show i < ys.length by have := HN.out; omega]
            rw [e1, e2, h3]
          · rw [List.getElem?_eq_none (by have := HL.out; omega), List.getElem?_eq_none (by have := HN.out; omega)]
        clear hbel
        go_wp2_with fail
        go_ret
        rw [HNE.out]; exact ⟨rfl, HBL.out⟩
  · have hne : ((xs.length : Int) != (ys.length : Int)) = true := by simp; omega
    have HNE : Hid (decide (xs = ys) = false) := decide_eq_false fun e => hl (by rw [e])
    generalize xs.length = n1 at hne ⊢
    generalize ys.length = n2 at hne ⊢
    clear h1 h2 hl
    go_enter Try.func49, Try.ntmps49
    go_wp2
    go_ret
    rw [HNE.out]; exact ⟨rfl, Below.refl _ _⟩
theorem refSame_eq (v1 v2 : Value) (xs : List Int) (w : World) (h1 : RowAt .i64 w v1 xs) (h2 : RowAt .i64 w v2 xs) : Calls Try.prog 49 #[v1, v2] w fun e w' => e = .returned (.bool true) ∧ Below w.heap.size w w' :=
  (refSame_any v1 v2 xs xs w h1 h2).mono fun e w' ⟨h, k⟩ => ⟨by rw [h]; simp, k⟩
/-- Two boxes of graphs. -/
theorem box_keep {W x : World} {A : Nat} {p : Array Value} (hA : W.heap[A]? = some (.cells p 25 (0, 0))) (h : Below W.heap.size W x) {j : Nat} {u : Value} (hu : p[j]? = some u) : x.cell? ⟨A, j, none⟩ = some u := cell_of ((h.block A (lt_of_heap hA)).trans hA) hu
set_option maxHeartbeats 4000000 in
set_option maxRecDepth 100000 in
theorem same_any (N : Int) (va vb vc va2 vb2 vc2 : Value) (st tl wt : List Int) (w : World) (hg : GIs w N va vb vc st tl wt) (hg2 : GIs w N va2 vb2 vc2 st tl wt) :
    Calls Try.prog 19 #[gAgg N va vb vc, gAgg N va2 vb2 vc2] w fun e w' => e = .returned (.bool true) ∧ Below w.heap.size w w' := by
  obtain ⟨ao, ca, rfl⟩ := hg.s.shape
  obtain ⟨bo, cb, rfl⟩ := hg.t.shape
  obtain ⟨co, cc, rfl⟩ := hg.u.shape
  obtain ⟨ao2, ca2, rfl⟩ := hg2.s.shape
  obtain ⟨bo2, cb2, rfl⟩ := hg2.t.shape
  obtain ⟨co2, cc2, rfl⟩ := hg2.u.shape
  have M1 : Hid (wt.length ≤ 9223372036854775807) := by
    obtain ⟨_, _, he, q1, q2, _⟩ := hg.u
    simp only [Value.slice.injEq] at he
    show _ ≤ _
    omega
  have HG := hide hg; have HG2 := hide hg2
  obtain ⟨n, hn⟩ : ∃ n, n = wt.length := ⟨_, rfl⟩
  have HN := hide hn
  rw [← hn] at HG HG2 ⊢
  clear hg hg2 hn
  unfold gAgg
  obtain ⟨W, hW⟩ : ∃ W, W = (w.alloc (.cells #[.int .i64 N, .slice ao st.length ca, .slice bo tl.length cb, .slice co n cc] 25)).alloc (.cells #[.int .i64 N, .slice ao2 st.length ca2, .slice bo2 tl.length cb2, .slice co2 n cc2] 25) := ⟨_, rfl⟩
  have hbW : Below w.heap.size w W := by rw [hW]; exact below_alloc (below_alloc (Below.refl _ _) _) _
  have hA : W.heap[w.heap.size]? = some (.cells #[.int .i64 N, .slice ao st.length ca, .slice bo tl.length cb, .slice co n cc] 25 (0, 0)) := by
    rw [hW]
    exact (((Below.refl _ _).alloc (Nat.le_refl _) _).block w.heap.size (by simp)).trans (heap_new w _)
  have hB : W.heap[w.heap.size + 1]? = some (.cells #[.int .i64 N, .slice ao2 st.length ca2, .slice bo2 tl.length cb2, .slice co2 n cc2] 25 (0, 0)) := by
    rw [hW]
    have := heap_new (w.alloc (.cells #[.int .i64 N, .slice ao st.length ca, .slice bo tl.length cb, .slice co n cc] 25)) (.cells #[.int .i64 N, .slice ao2 st.length ca2, .slice bo2 tl.length cb2, .slice co2 n cc2] 25)
    simpa using this
  have HA := hide hA; have HB := hide hB; have HBW := hide hbW
  have HS1 : Hid (∀ X, Below W.heap.size W X → Calls Try.prog 49 #[.slice ao st.length ca, .slice ao2 st.length ca2] X fun e w' => e = .returned (.bool true) ∧ Below W.heap.size W w') := fun X hX => (refSame_eq _ _ st X ((HG.out.below hbW).below hX).s ((HG2.out.below hbW).below hX).s).mono fun e w' ⟨h, k⟩ => ⟨h, below_on hX k⟩
  have HS2 : Hid (∀ X, Below W.heap.size W X → Calls Try.prog 49 #[.slice bo tl.length cb, .slice bo2 tl.length cb2] X fun e w' => e = .returned (.bool true) ∧ Below W.heap.size W w') := fun X hX => (refSame_eq _ _ tl X ((HG.out.below hbW).below hX).t ((HG2.out.below hbW).below hX).t).mono fun e w' ⟨h, k⟩ => ⟨h, below_on hX k⟩
  have HK1 : Hid (∀ X, Below W.heap.size W X → (X.cell? ⟨w.heap.size, 0, none⟩ = some (.int .i64 N) ∧ X.cell? ⟨w.heap.size, 1, none⟩ = some (.slice ao st.length ca) ∧ X.cell? ⟨w.heap.size, 2, none⟩ = some (.slice bo tl.length cb) ∧ X.cell? ⟨w.heap.size, 3, none⟩ = some (.slice co n cc)) ∧ (X.cell? ⟨w.heap.size + 1, 0, none⟩ = some (.int .i64 N) ∧ X.cell? ⟨w.heap.size + 1, 1, none⟩ = some (.slice ao2 st.length ca2) ∧ X.cell? ⟨w.heap.size + 1, 2, none⟩ = some (.slice bo2 tl.length cb2) ∧ X.cell? ⟨w.heap.size + 1, 3, none⟩ = some (.slice co2 n cc2))) := fun X hX => ⟨⟨box_keep hA hX rfl, box_keep hA hX rfl, box_keep hA hX rfl, box_keep hA hX rfl⟩, box_keep hB hX rfl, box_keep hB hX rfl, box_keep hB hX rfl, box_keep hB hX rfl⟩
  go_enter Try.func19, Try.ntmps19
  go_upto_region 1 with fail
  rw [← hW]
  clear hA hB hbW hW
  have HBX : Hid (Below W.heap.size W W) := Below.refl _ _
  obtain ⟨⟨p0, p1, p2, p3⟩, q0, q1, q2, q3⟩ := HK1.out _ HBX.out
  go_wp2_with fail
  refine (HS1.out _ HBX.out).mono ?_
  rintro e w1 ⟨rfl, hb⟩
  replace HBX := hide hb
  clear hb p0 p1 p2 p3 q0 q1 q2 q3
  obtain ⟨⟨p0, p1, p2, p3⟩, q0, q1, q2, q3⟩ := HK1.out _ HBX.out
  go_wp2_with fail
  refine (HS2.out _ HBX.out).mono ?_
  rintro e w2 ⟨rfl, hb⟩
  replace HBX := hide hb
  clear hb p0 p1 p2 p3 q0 q1 q2 q3
  obtain ⟨⟨p0, p1, p2, p3⟩, q0, q1, q2, q3⟩ := HK1.out _ HBX.out
  go_wp2_with fail
  clear p0 p1 p2 p3 q0 q1 q2 q3
  go_loopw [5] (fun t wr => ∃ k : Nat, k ≤ n ∧ t = .int .i64 k ∧ Below W.heap.size W wr) (fun t _ => n - (RowKit.intOf t).toNat)
  case atStart => exact ⟨0, by omega, rfl, HBX.out⟩
  case round =>
    obtain ⟨k, hk, rfl, hbel⟩ := hrel
    have HBL := hide hbel
    obtain ⟨⟨p0, p1, p2, p3⟩, q0, q1, q2, q3⟩ := HK1.out _ hbel
    clear HBX p0 p1 p2 q0 q1 q2
    by_cases hlt : k < n
    · obtain ⟨g1, o1, d1, he1, hc1, x1⟩ := ((HG.out.below HBW.out).below hbel).u.cellAt k (by have := HN.out; omega)
      obtain ⟨g2, o2, d2, he2, hc2, x2⟩ := ((HG2.out.below HBW.out).below hbel).u.cellAt k (by have := HN.out; omega)
      simp only [Value.slice.injEq] at he1 he2
      obtain ⟨rfl, r1, rfl⟩ := he1
      obtain ⟨rfl, r2, rfl⟩ := he2
      have hkm : (k : Int) + 1 ≤ 9223372036854775807 := by have := M1.out; have := HN.out; omega
      have hk1 : (k : Int) < cc := by have := HN.out; omega
      have hk2 : (k : Int) < cc2 := by have := HN.out; omega
      generalize at_ wt k = s at x1 x2
      have y1 := gw_cell x1
      have y2 := gw_cell x2
      have y3 := gw_cell p3
      have y4 := gw_cell q3
      clear hbel r1 r2 hc1 hc2
      go_wp2_with fail
      refine wp_region_gw (by kernel_rfl) (by kernel_rfl) ?_
      repeat (go_big_quiet_step (rfl))
      refine wpQuiet_nil ?_
      intro _ hw'
      obtain ⟨x, hw''⟩ := hw'
      subst hw''
      go_wp2_with fail
      go_roundw
      case rel => exact ⟨k + 1, Nat.succ_le_of_lt hlt, by go_num, below_on HBL.out x.bel⟩
      case measure => exact mdec hlt
    · clear hbel
      go_wp2_with fail
      go_ret
      exact ⟨rfl, below_on HBW.out HBL.out⟩
end Go.Proofs.Yteblkbneghbcbaa
