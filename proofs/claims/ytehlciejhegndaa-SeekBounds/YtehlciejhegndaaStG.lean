import Derived.Test.YtehlciejhegndaaEdgeless
import Derived.Test.YtehlciejhegndaaStarts
import Derived.Test.YtehlciejhegndaaKp
import Derived.Test.YtehlciejhegndaaCheck
import Derived.Deep.Slices
import Derived.SizedLaws
import Derived.ProofKit
import Derived.OpenShut
/- starts: a copy of a list of starts in new memory with one mark behind it. -/
namespace Go.Proofs.Ytehlciejhegndaa
open Go.RowKit Go.Lib
set_option linter.unusedVariables false

theorem sCells_at_all {w : World} {g o : Nat} {l : List Pr} (h : ∀ i, i < l.length → w.cell? ⟨g, o + i * 2, none⟩ = some (.int .i64 (sAt l i).1) ∧ w.cell? ⟨g, o + i * 2 + 1, none⟩ = some (.int .u64 (sAt l i).2)) :
    ∀ j u, (sCells l)[j]? = some u → w.cell? ((⟨g, o, none⟩ : Addr).add j) = some u := by
  intro j u hj
  have hjn : j < l.length * 2 := by
    have := (List.getElem?_eq_some_iff.1 hj).1
    rwa [sCells_length] at this
  obtain ⟨p, q⟩ := sCells_at l (j / 2) (by omega)
  obtain ⟨p', q'⟩ := h (j / 2) (by omega)
  rw [Addr.add_lit]
  rcases Nat.mod_two_eq_zero_or_one j with hm | hm
  · have e : j = j / 2 * 2 := by omega
    rw [← e] at p p'
    rw [p] at hj
    rw [p', ← hj]
  · have e : j = j / 2 * 2 + 1 := by omega
    have e2 : o + j / 2 * 2 + 1 = o + j := by omega
    rw [← e] at q
    rw [e2] at q'
    rw [q] at hj
    rw [q', ← hj]

/-- 'append([]Start{}, xs...)' in a region that goes in the text's order. -/
theorem wpList_freshS {P : Program} {w : World} {ops : Array Oper} {rest : List Oper} {o : Oper} {a : Act} {Q : Exit → Act → World → Prop} (hgd : o.guard = none) (s x : Operand) (t : TypeId)
    (hop : o.op = .call { callee := .builtin .append, args := #[s, x], argTypes := #[t, t] })
    (e : TypeId) (i : TypeInfo) (z : Value) (ht : P.underlying t = some (.slice e)) (hi : P.info? e = some i) (hz : i.zero = some z)
    (hsize : i.size = 2) (hby : i.bytes = 16) (hzs : z.cells.size = 2) (B : Nat) (fr : Nat) (hB : w.ownsRow fr e 2 (.slice (some ⟨B, 0, none⟩) 0 0) 0 []) (hfr : fr ≤ w.heap.size) (xv : Value) (xs : List Pr) (hs : a.eval s = .slice (some ⟨B, 0, none⟩) 0 0) (hx : a.eval x = xv) (hrow : SAt w xv xs) (hb : xs.length * 16 ≤ 140737488355328) (h63 : xs.length ≤ maxLen)
    (h : ∀ v' w', w'.ownsRow fr e 2 v' xs.length (sCells xs) → Below w.heap.size w w' → wpList P ops Q rest (a.put o.dst v') w') : wpList P ops Q (o :: rest) a w := by
  refine wpList_plain hgd fun K hK => ?_
  obtain ⟨xo, c, rfl, h1, h2, h4⟩ := hrow
  rcases Nat.eq_zero_or_pos xs.length with h0 | h0
  · obtain rfl : xs = [] := List.eq_nil_of_length_eq_zero h0
    have hsrc : Src P i.size t (.slice xo 0 c) 0 [] w := by
      cases xo with
      | none => exact Src.ofNil w ht c
      | some a => exact Src.ofSlice w ht a 0 c [] (by simp) (fun j u h => by simp at h) (by simp)
    have hrun := run_append_nothing w t t o.type e i ht hi (some ⟨B, 0, none⟩) 0 0 (Nat.le_refl _) _ hsrc
    have hx' : a.eval x = .slice xo 0 c := hx
    unfold Oper.wp
    simp [execOp, hop, resolve, invoke, builtin, hs, hx', hrun, Result.andThen]
    exact hK _ _ (h _ _ (by simpa [sCells] using hB) (Below.refl _ _))
  · obtain ⟨g, q, rfl, _, _⟩ := h4 0 h0
    have h5 : ∀ i, i < xs.length → w.cell? ⟨g, q + i * 2, none⟩ = some (.int .i64 (sAt xs i).1) ∧ w.cell? ⟨g, q + i * 2 + 1, none⟩ = some (.int .u64 (sAt xs i).2) := by
      intro i hi
      obtain ⟨g', q', he, p1, p2⟩ := h4 i hi
      simp only [Option.some.injEq, Addr.mk.injEq] at he
      obtain ⟨rfl, rfl, _⟩ := he
      exact ⟨p1, p2⟩
    obtain ⟨v', w', hrun, hown, hgrow⟩ := run_append_arg_grows (P := P) (w := w) t o.type e i z 2 16 ht hi hz hsize hby hzs (by decide) ⟨B, 0, none⟩ 0 0 [] rfl (fun j u h => by simp at h) ⟨g, q, none⟩ xs.length c (sCells xs) (by rw [sCells_length]) (sCells_at_all h5) (by omega) (by omega) (by rw [Nat.zero_add]; exact hb)
    simp only [Nat.zero_add, List.nil_append] at hown
    have hbel : Below w.heap.size w w' := (Below.refl _ _).grown hgrow (Nat.le_refl _) (by intro j hj; cases hj)
    unfold Oper.wp
    simp [execOp, hop, resolve, invoke, builtin, hs, hx, hrun, Result.andThen]
    refine hK _ _ (h _ _ ?_ hbel)
    obtain ⟨hl, hh⟩ := hown
    exact ⟨hl, hh.imp id fun ⟨g, cap, cur, he, hg, r⟩ => ⟨g, cap, cur, he, Nat.le_trans hfr hg, r⟩⟩

theorem own_new2 (X : World) (e : TypeId) (B : Nat) (hB : B = X.heap.size) : (X.alloc (.cells #[] e)).ownsRow X.heap.size e 2 (.slice (some ⟨B, 0, none⟩) 0 0) 0 [] := by
  subst hB
  exact World.ownsRow_made X #[] 0 (Nat.le_refl _) (Nat.zero_le _) rfl

theorem markS_made {m : Pr} {w w1 w2 : World} {v1 v2 : Value} {ws : List Pr} {p : Obj} (h1 : w1.ownsRow w.heap.size 47 2 v1 ws.length (sCells ws)) (hb1 : Below w.heap.size w w1)
    (hown : w2.ownsRow w.heap.size 47 2 v2 (ws.length + 1) (sCells ws ++ [.int .i64 m.1, .int .u64 m.2])) (hgrow : (w1.alloc p).grownBy w2 v1.ownBlock) :
    ∃ g c, v2 = .slice (some ⟨g, 0, none⟩) (ws.length + 1) c ∧ ws.length + 1 ≤ c ∧ c ≤ 9223372036854775807 ∧ w.heap.size ≤ g ∧ SAt w2 (.slice (some ⟨g, 0, none⟩) (ws.length + 1) c) (ws ++ [m]) ∧ SAt w2 (.slice (some ⟨g, 0, none⟩) ws.length c) ws ∧ Below w.heap.size w w2 := by
  have hL : Below w.heap.size w w2 := by
    refine (hb1.alloc hb1.size _).grown hgrow (by have := hb1.size; simp; omega) ?_
    intro j hj
    obtain ⟨_, ⟨rfl, _⟩ | ⟨g', cap, cur', rfl, hg', _⟩⟩ := h1
    · simp [Value.ownBlock] at hj
    · simp [Value.ownBlock] at hj; omega
  have hl2 : (ws ++ [m]).length = ws.length + 1 := by simp
  have hr : SRow w2 v2 (ws ++ [m]) := SRow.of_owns (base := w.heap.size) (by rw [hl2, sCells_snoc]; exact hown)
  obtain ⟨_, ⟨rfl, h0⟩ | ⟨g, cap, cur, rfl, hg, hh, hnc, hcm, hcur, htake⟩⟩ := hown
  · omega
  · rcases hr with ⟨he, _⟩ | ⟨g', c', he, k1, k2, k3⟩
    · cases he
    · simp only [Value.slice.injEq, Option.some.injEq, Addr.mk.injEq] at he
      obtain ⟨⟨rfl, _⟩, _, rfl⟩ := he
      refine ⟨g, cap, rfl, hnc, hcm, hg, ⟨_, _, by rw [hl2], by rw [hl2]; exact hnc, hcm, fun i hi => ⟨g, 0, rfl, ?_⟩⟩, ⟨_, _, rfl, by omega, hcm, fun i hi => ⟨g, 0, rfl, ?_⟩⟩, hL⟩
      · simpa using k3 i hi
      · have := k3 i (by omega)
        have e : sAt (ws ++ [m]) i = sAt ws i := by simp [sAt, List.getElem?_append_left hi]
        rw [e] at this
        simpa using this

end Go.Proofs.Ytehlciejhegndaa

/- '!=' of two starts. -/
namespace Go.Proofs.Ytehlciejhegndaa
open Go.RowKit Go.Lib
set_option linter.unusedVariables false
end Go.Proofs.Ytehlciejhegndaa
/- intsKept, wordsKept: the copy is as it was, its marks too. -/
namespace Go.Proofs.Ytehlciejhegndaa
open Go.RowKit Go.Lib
set_option linter.unusedVariables false
end Go.Proofs.Ytehlciejhegndaa
/- twin: a graph's lists, each in new memory with marks behind it; twinKept. -/
namespace Go.Proofs.Ytehlciejhegndaa
open Go.RowKit Go.Lib
set_option linter.unusedVariables false
theorem two_keep {W x : World} {A B : Nat} {p0 p1 p2 p3 q0 q1 q2 q3 : Value} (hA : W.heap[A]? = some (.cells #[p0, p1, p2, p3] 25 (0, 0))) (hB : W.heap[B]? = some (.cells #[q0, q1, q2, q3] 25 (0, 0))) (h : Below W.heap.size W x) :
    (x.cell? ⟨A, 0, none⟩ = some p0 ∧ x.cell? ⟨A, 1, none⟩ = some p1 ∧ x.cell? ⟨A, 2, none⟩ = some p2 ∧ x.cell? ⟨A, 3, none⟩ = some p3) ∧ x.heap[B]? = some (.cells #[q0, q1, q2, q3] 25 (0, 0)) := by
  have hA' := (h.block A (lt_of_heap hA)).trans hA
  have hB' := (h.block B (lt_of_heap hB)).trans hB
  exact ⟨⟨cell_of hA' rfl, cell_of hA' rfl, cell_of hA' rfl, cell_of hA' rfl⟩, hB'⟩

theorem RowAt.setOther {k : IntKind} {w : World} {ao : Option Addr} {n c : Nat} {xs : List Int} (h : RowAt k w (.slice ao n c) xs) (B i : Nat) (u : Value) (hn : ∀ a, ao = some a → ¬ a.block = B) : RowAt k (w.setCell ⟨B, i, none⟩ u) (.slice ao n c) xs := by
  obtain ⟨ao', c', he, h1, h2, h3, h4⟩ := h
  simp only [Value.slice.injEq] at he
  obtain ⟨rfl, rfl, rfl⟩ := he
  refine ⟨ao, c, rfl, h1, h2, h3, fun a ha j hj => ?_⟩
  have h5 := h4 a ha j hj
  rw [← h5]
  have hb : (a.add j).block ≠ B := by
    have e : (a.add j).block = a.block := by unfold Addr.add; split <;> rfl
    rw [e]; exact hn a ha
  unfold World.cell?
  rw [Below.heap_setCell w ⟨B, i, none⟩ u (a.add j).block hb]
theorem MarkAt.setOther {k : IntKind} {w : World} {g c : Nat} {xs : List Int} (h : MarkAt k w g c xs) (B i : Nat) (u : Value) (hn : ¬ g = B) : MarkAt k (w.setCell ⟨B, i, none⟩ u) g c xs :=
  RowAt.setOther h B i u fun a ha => by cases ha; exact hn

/-- A twin in memory. -/
structure TIs (w : World) (N : Int) (g1 c1 g2 c2 g3 c3 : Nat) (st tl wt : List Int) : Prop where
  s : MarkAt .i64 w g1 c1 st
  t : MarkAt .i64 w g2 c2 tl
  u : MarkAt .u64 w g3 c3 wt
theorem TIs.below {w w' : World} {N : Int} {g1 c1 g2 c2 g3 c3 : Nat} {st tl wt : List Int} (h : TIs w N g1 c1 g2 c2 g3 c3 st tl wt) (hb : Below w.heap.size w w') : TIs w' N g1 c1 g2 c2 g3 c3 st tl wt := ⟨h.s.below hb, h.t.below hb, h.u.below hb⟩
def tAgg (N : Int) (g1 c1 g2 c2 g3 c3 n1 n2 n3 : Nat) : Value := gAgg N (.slice (some ⟨g1, 0, none⟩) n1 c1) (.slice (some ⟨g2, 0, none⟩) n2 c2) (.slice (some ⟨g3, 0, none⟩) n3 c3)
theorem TIs.gis {w : World} {N : Int} {g1 c1 g2 c2 g3 c3 : Nat} {st tl wt : List Int} (h : TIs w N g1 c1 g2 c2 g3 c3 st tl wt) :
    GIs w N (.slice (some ⟨g1, 0, none⟩) st.length c1) (.slice (some ⟨g2, 0, none⟩) tl.length c2) (.slice (some ⟨g3, 0, none⟩) wt.length c3) st tl wt := ⟨h.s.row, h.t.row, h.u.row⟩

theorem twin_end {w W w3 : World} {N : Int} {g1 g2 g3 c1 c2 c3 : Nat} {st tl wt : List Int} {q0 q1 q2 q3 : Value} (hbW : Below w.heap.size w W) (hb3 : Below W.heap.size W w3)
    (hz : w3.heap[w.heap.size + 1]? = some (.cells #[q0, q1, q2, q3] 25 (0, 0))) (h : TIs w3 N g1 c1 g2 c2 g3 c3 st tl wt)
    (m1 : ¬ g1 = w.heap.size + 1) (m2 : ¬ g2 = w.heap.size + 1) (m3 : ¬ g3 = w.heap.size + 1) :
    let v1 : Value := .slice (some ⟨g1, 0, none⟩) st.length c1; let v2 : Value := .slice (some ⟨g2, 0, none⟩) tl.length c2; let v3 : Value := .slice (some ⟨g3, 0, none⟩) wt.length c3
    let wf := (((w3.setCell ⟨w.heap.size + 1, 0, none⟩ (.int .i64 N)).setCell ⟨w.heap.size + 1, 1, none⟩ v1).setCell ⟨w.heap.size + 1, 2, none⟩ v2).setCell ⟨w.heap.size + 1, 3, none⟩ v3
    wf.heap[w.heap.size + 1]? = some (.cells #[.int .i64 N, v1, v2, v3] 25 (0, 0)) ∧ TIs wf N g1 c1 g2 c2 g3 c3 st tl wt ∧ Below w.heap.size w wf := by
  intro v1 v2 v3 wf
  have hh := heap_set (i := 3) (heap_set (i := 2) (heap_set (i := 1) (heap_set (i := 0) hz (.int .i64 N)) v1) v2) v3
  have hw : wf.heap[w.heap.size + 1]? = some (.cells #[.int .i64 N, v1, v2, v3] 25 (0, 0)) := by
    show ((((w3.setCell ⟨w.heap.size + 1, 0, none⟩ (.int .i64 N)).setCell ⟨w.heap.size + 1, 1, none⟩ v1).setCell ⟨w.heap.size + 1, 2, none⟩ v2).setCell ⟨w.heap.size + 1, 3, none⟩ v3).heap[w.heap.size + 1]? = _
    rw [hh]
    simp
  refine ⟨hw, ⟨?_, ?_, ?_⟩, ?_⟩
  · exact (((h.s.setOther _ _ _ m1).setOther _ _ _ m1).setOther _ _ _ m1).setOther _ _ _ m1
  · exact (((h.t.setOther _ _ _ m2).setOther _ _ _ m2).setOther _ _ _ m2).setOther _ _ _ m2
  · exact (((h.u.setOther _ _ _ m3).setOther _ _ _ m3).setOther _ _ _ m3).setOther _ _ _ m3
  · have hb : Below w.heap.size w w3 := below_on hbW hb3
    exact (((hb.setCell (p := ⟨w.heap.size + 1, 0, none⟩) (by show w.heap.size ≤ w.heap.size + 1; omega) _).setCell (p := ⟨w.heap.size + 1, 1, none⟩) (by show w.heap.size ≤ w.heap.size + 1; omega) _).setCell (p := ⟨w.heap.size + 1, 2, none⟩) (by show w.heap.size ≤ w.heap.size + 1; omega) _).setCell (p := ⟨w.heap.size + 1, 3, none⟩) (by show w.heap.size ≤ w.heap.size + 1; omega) _

set_option maxRecDepth 100000 in
set_option maxHeartbeats 8000000 in
theorem twin_any (N : Int) (va vb vc : Value) (st tl wt : List Int) (w : World) (hg : GIs w N va vb vc st tl wt) (hst : st.length * 8 ≤ 140737488351232) (hto : tl.length * 8 ≤ 140737488351232) (hwt : wt.length * 8 ≤ 140737488351232) :
    Calls Try.prog 11 #[gAgg N va vb vc] w fun e w' => ∃ g1 c1 g2 c2 g3 c3, e = .returned (tAgg N g1 c1 g2 c2 g3 c3 st.length tl.length wt.length) ∧ TIs w' N g1 c1 g2 c2 g3 c3 st tl wt ∧ Below w.heap.size w w' := by
  obtain ⟨ao, ca, rfl⟩ := hg.s.shape
  obtain ⟨bo, cb, rfl⟩ := hg.t.shape
  obtain ⟨co, cc, rfl⟩ := hg.u.shape
  have HG := hide hg
  clear hg
  unfold gAgg tAgg
  go_enter Try.func11, Try.ntmps11
  go_wp2_with fail
  obtain ⟨W, hW⟩ : ∃ W, W = (w.alloc (.cells #[.int .i64 N, .slice ao st.length ca, .slice bo tl.length cb, .slice co wt.length cc] 25)).alloc (.cells #[.int .i64 0, .slice none 0 0, .slice none 0 0, .slice none 0 0] 25) := ⟨_, rfl⟩
  have hbW : Below w.heap.size w W := by rw [hW]; exact below_alloc (below_alloc (Below.refl _ _) _) _
  have hA : W.heap[w.heap.size]? = some (.cells #[.int .i64 N, .slice ao st.length ca, .slice bo tl.length cb, .slice co wt.length cc] 25 (0, 0)) := by
    rw [hW]
    exact (((Below.refl _ _).alloc (Nat.le_refl _) _).block w.heap.size (by simp)).trans (heap_new w _)
  have hB : W.heap[w.heap.size + 1]? = some (.cells #[.int .i64 0, .slice none 0 0, .slice none 0 0, .slice none 0 0] 25 (0, 0)) := by
    rw [hW]
    have := heap_new (w.alloc (.cells #[.int .i64 N, .slice ao st.length ca, .slice bo tl.length cb, .slice co wt.length cc] 25)) (.cells #[.int .i64 0, .slice none 0 0, .slice none 0 0, .slice none 0 0] 25)
    simpa using this
  rw [← hW]
  have HA := hide hA; have HB := hide hB; have HBW := hide hbW
  have HGW := hide (HG.out.below hbW)
  obtain ⟨⟨c0, c1, c2, c3⟩, _⟩ := two_keep hA hB (Below.refl _ W)
  have HR := hide (Below.refl W.heap.size W)
  have hWs : w.heap.size + 1 < W.heap.size := lt_of_heap hB
  clear hA hB hbW hW
  refine wp_region_noPanic ?_
  go_region_held3 (fun x => x.cell? ⟨w.heap.size, 0, none⟩ = some (.int .i64 N) ∧ x.cell? ⟨w.heap.size, 1, none⟩ = some (.slice ao st.length ca) ∧ x.cell? ⟨w.heap.size, 2, none⟩ = some (.slice bo tl.length cb) ∧ x.cell? ⟨w.heap.size, 3, none⟩ = some (.slice co wt.length cc)) (first | go_keep | exact ⟨z0, z1, z2, z3⟩)
    (first
      | (go_at_call 18; have hq0 := HB1.out; clear hq0; refine (ints_any (.slice bo tl.length cb) tl _ (HGW.out.below HB1.out).t hto).mono ?_; rintro e w2 ⟨g2, cp2, rfl, hg2, hm2, hbel⟩; have hB2 := below_on (a := W) HB1.out hbel; have hS2 : Below w1.heap.size w1 w2 := hbel; have HS2 := hide hS2; obtain ⟨⟨z0, z1, z2, z3⟩, zB⟩ := two_keep HA.out HB.out hB2; have p2 := HB1.out.size; have hn2 : ¬ g2 = w.heap.size + 1 := (by omega); have HN2 := hide hn2; have HB2 := hide hB2; have HM2 := hide hm2; clear hn2 hg2 hm2 hbel hB2 zB hS2 p2)
      | (go_at_call 18; refine (ints_any (.slice ao st.length ca) st _ (HGW.out.below (below_drew HR.out)).s hst).mono ?_; rintro e w1 ⟨g1, cp1, rfl, hg1, hm1, hbel⟩; have hB1 := below_on (a := W) (below_drew HR.out) hbel; obtain ⟨⟨z0, z1, z2, z3⟩, zB⟩ := two_keep HA.out HB.out hB1; have hn1 : ¬ g1 = w.heap.size + 1 := (by simp at hg1; omega); have HN1 := hide hn1; have HB1 := hide hB1; have HM1 := hide hm1; clear hn1 hg1 hm1 hbel hB1 zB)
      | (go_at_call 37; refine (words_any (.slice co wt.length cc) wt _ (HGW.out.below HB2.out).u hwt).mono ?_; rintro e w3 ⟨g3, cp3, rfl, hg3, hm3, hbel⟩; have hB3 := below_on (a := W) HB2.out hbel; have hS3 : Below w2.heap.size w2 w3 := hbel; have HS3 := hide hS3; obtain ⟨⟨z0, z1, z2, z3⟩, zB⟩ := two_keep HA.out HB.out hB3; have p3 := HB2.out.size; have hn3 : ¬ g3 = w.heap.size + 1 := (by omega); have HN3 := hide hn3; have HB3 := hide hB3; have HM3 := hide hm3; have HZ := hide zB; have e0 : w3.cell? ⟨w.heap.size + 1, 0, none⟩ = some (.int .i64 0) := cell_of HZ.out rfl; have e1 : w3.cell? ⟨w.heap.size + 1, 1, none⟩ = some (.slice none 0 0) := cell_of HZ.out rfl; have e2 : w3.cell? ⟨w.heap.size + 1, 2, none⟩ = some (.slice none 0 0) := cell_of HZ.out rfl; have e3 : w3.cell? ⟨w.heap.size + 1, 3, none⟩ = some (.slice none 0 0) := cell_of HZ.out rfl; have q0 := free_of HZ.out 0; have q1 := free_of HZ.out 1; have q2 := free_of HZ.out 2; have q3 := free_of HZ.out 3; clear hn3 hg3 hm3 hbel hB3 zB hS3 p3))
  all_goals
    refine NoPanic.normal ?_
    obtain ⟨hwf, hG, hL⟩ := twin_end HBW.out HB3.out HZ.out (N := N) ⟨(HM1.out.below HS2.out).below HS3.out, HM2.out.below HS3.out, HM3.out⟩ HN1.out HN2.out HN3.out
    have HGG := hide hG; have HLL := hide hL; have HWF := hide hwf
    generalize ((((w3.setCell ⟨w.heap.size + 1, 0, none⟩ (.int .i64 N)).setCell ⟨w.heap.size + 1, 1, none⟩ (.slice (some ⟨g1, 0, none⟩) st.length cp1)).setCell ⟨w.heap.size + 1, 2, none⟩ (.slice (some ⟨g2, 0, none⟩) tl.length cp2)).setCell ⟨w.heap.size + 1, 3, none⟩ (.slice (some ⟨g3, 0, none⟩) wt.length cp3)) = wf at HWF HGG HLL ⊢
    clear hG hL hwf
    go_wp2
    exact bodyPost_ret (results_cell_row Try.results11 _ wf (w.heap.size + 1) 25 _ (0, 0) _ rfl HWF.out Try.underlying25 rfl (by kernel_rfl)) rfl ⟨_, _, _, _, _, _, rfl, HGG.out, HLL.out⟩
end Go.Proofs.Ytehlciejhegndaa

/- twinKept: a twin is as its graph was. -/
namespace Go.Proofs.Ytehlciejhegndaa
open Go.RowKit Go.Lib
set_option linter.unusedVariables false

theorem boxedB (w : World) (x0 x1 x2 x3 : Value) (h : Below w.heap.size w w) :
    ∀ A, A < w.heap.size → ∀ i, (w.alloc (.cells #[x0, x1, x2, x3] 25)).cell? ⟨A, i, none⟩ = w.cell? ⟨A, i, none⟩ := fun A hA i => below_cell (below_alloc h _) hA

set_option maxRecDepth 100000 in
set_option maxHeartbeats 4000000 in
theorem twinKept_any (N : Int) (va vb vc : Value) (st tl wt : List Int) (g1 c1 g2 c2 g3 c3 : Nat) (w : World) (ht : TIs w N g1 c1 g2 c2 g3 c3 st tl wt) (hg : GIs w N va vb vc st tl wt) (hst : st.length * 8 ≤ 140737488351232) (hto : tl.length * 8 ≤ 140737488351232) (hwt : wt.length * 8 ≤ 140737488351232) :
    Calls Try.prog 13 #[tAgg N g1 c1 g2 c2 g3 c3 st.length tl.length wt.length, gAgg N va vb vc] w fun e w' => e = .returned (.bool true) ∧ Below w.heap.size w w' := by
  obtain ⟨ao, ca, rfl⟩ := hg.s.shape
  obtain ⟨bo, cb, rfl⟩ := hg.t.shape
  obtain ⟨co, cc, rfl⟩ := hg.u.shape
  have HG := hide hg; have HT := hide ht
  clear hg ht
  unfold tAgg gAgg
  go_enter Try.func13, Try.ntmps13
  go_wp2_with fail
  obtain ⟨W, hW⟩ : ∃ W, W = (w.alloc (.cells #[.int .i64 N, .slice (some ⟨g1, 0, none⟩) st.length c1, .slice (some ⟨g2, 0, none⟩) tl.length c2, .slice (some ⟨g3, 0, none⟩) wt.length c3] 25)).alloc (.cells #[.int .i64 N, .slice ao st.length ca, .slice bo tl.length cb, .slice co wt.length cc] 25) := ⟨_, rfl⟩
  have hbW : Below w.heap.size w W := by rw [hW]; exact below_alloc (below_alloc (Below.refl _ _) _) _
  have hA : W.heap[w.heap.size]? = some (.cells #[.int .i64 N, .slice (some ⟨g1, 0, none⟩) st.length c1, .slice (some ⟨g2, 0, none⟩) tl.length c2, .slice (some ⟨g3, 0, none⟩) wt.length c3] 25 (0, 0)) := by
    rw [hW]
    exact (((Below.refl _ _).alloc (Nat.le_refl _) _).block w.heap.size (by simp)).trans (heap_new w _)
  have hB : W.heap[w.heap.size + 1]? = some (.cells #[.int .i64 N, .slice ao st.length ca, .slice bo tl.length cb, .slice co wt.length cc] 25 (0, 0)) := by
    rw [hW]
    have := heap_new (w.alloc (.cells #[.int .i64 N, .slice (some ⟨g1, 0, none⟩) st.length c1, .slice (some ⟨g2, 0, none⟩) tl.length c2, .slice (some ⟨g3, 0, none⟩) wt.length c3] 25)) (.cells #[.int .i64 N, .slice ao st.length ca, .slice bo tl.length cb, .slice co wt.length cc] 25)
    simpa using this
  rw [← hW]
  have HA := hide hA; have HB := hide hB; have HBW := hide hbW
  have HK1 := hide (intsKept_any g1 c1 (.slice ao st.length ca) st W (HT.out.below hbW).s (HG.out.below hbW).s hst)
  clear hA hB hbW hW
  refine HK1.out.mono ?_
  rintro e w1 ⟨rfl, hb1⟩
  obtain ⟨⟨z0, z1, z2, z3⟩, _⟩ := two_keep HA.out HB.out hb1
  obtain ⟨⟨y0, y1, y2, y3⟩, _⟩ := two_keep HB.out HA.out hb1
  have HB1 := hide hb1
  clear hb1
  go_wp2_with fail
  refine (intsKept_any g2 c2 (.slice bo tl.length cb) tl w1 ((HT.out.below HBW.out).below HB1.out).t ((HG.out.below HBW.out).below HB1.out).t hto).mono ?_
  rintro e w2 ⟨rfl, hb2⟩
  have hb2' := below_on HB1.out hb2
  clear z0 z1 z2 z3 y0 y1 y2 y3 hb2
  obtain ⟨⟨z0, z1, z2, z3⟩, _⟩ := two_keep HA.out HB.out hb2'
  obtain ⟨⟨y0, y1, y2, y3⟩, _⟩ := two_keep HB.out HA.out hb2'
  have HB2 := hide hb2'
  clear hb2'
  go_wp2_with fail
  refine (wordsKept_any g3 c3 (.slice co wt.length cc) wt w2 ((HT.out.below HBW.out).below HB2.out).u ((HG.out.below HBW.out).below HB2.out).u hwt).mono ?_
  rintro e w3 ⟨rfl, hb3⟩
  have HB3 := hide (below_on HBW.out (below_on HB2.out hb3))
  clear hb3
  go_wp2
  go_ret
  exact ⟨rfl, HB3.out⟩
end Go.Proofs.Ytehlciejhegndaa

/- A graph that comes in, as it is read. -/
namespace Go.Proofs.Ytehlciejhegndaa
open Go.ChangeShapes Go.WideShapes Go.ChangeAt Go.RowKit Go.Deep

section
variable {H : Type} {enc : TypeId × Value → H} {w : World} {base : Nat} {held : Bool} {fuel : Nat} {cs : List Value} {y : DataW H × List MemPlace}

theorem open_row {t e : TypeId} {k : IntKind} (ht : Try.prog.underlying t = some (.slice e)) (he : Try.prog.underlying e = some (.int k)) (hc : Try.prog.cellsOf e = 1)
    (h : DataW.trod enc Try.prog w 0 (fun _ => true) held fuel t cs = some y) :
    ∃ v xs, cs = [v] ∧ RowAt k w v xs ∧ (∀ n ∈ xs, (Lit.int k n).wf = true) ∧ ∀ M, (∀ n ∈ (y.1).weights Try.prog t, n ≤ M) → xs.length * Try.prog.bytesOf e ≤ M := by
  rcases open_ints ht he hc h with ⟨hcs, hy⟩ | ⟨a, len, cap, zs, hcs, _, hl, hm, hz, hy, hcell, hwz⟩
  · exact ⟨_, [], hcs, ⟨none, 0, rfl, by simp, by omega, (fun _ => rfl), (fun a ha => by cases ha)⟩, by simp, fun M _ => by simp⟩
  · simp only [if_true] at hz
    have hlen : (zs.take len).length = len := by rw [List.length_take]; omega
    refine ⟨_, zs.take len, hcs, ⟨some a, cap, by rw [hlen], by omega, hm, (fun e => by cases e), ?_⟩, fun n hn => hwz n (List.mem_of_mem_take hn), ?_⟩
    · intro b hb i hi
      cases hb
      rw [hlen] at hi
      rw [hcell i (by omega)]
      simp [List.getD, List.getElem?_take_of_lt hi]
    · intro M hM
      have h1 := hM ((zs.take len).length * Try.prog.bytesOf e + (zs.drop len).length * Try.prog.bytesOf e) (by
        rw [hy]
        simp only [DataW.weights, ht, lits, List.length_map, List.mem_cons]
        left
        rw [Nat.add_mul])
      omega

theorem one_int {t : TypeId} {k : IntKind} {z : Option (DataW H × List MemPlace)} {o : Nat} (ht : Try.prog.underlying t = some (.int k)) (hc : Try.prog.cellsOf t = 1) (hy : z.isSome = true)
    (h : DataW.trod enc Try.prog w base (fun _ => true) held fuel t ((cs.drop o).take (Try.prog.cellsOf t)) = z) : ∃ n, cs[o]? = some (.int k n) ∧ (Lit.int k n).wf = true := by
  obtain ⟨q, rfl⟩ := Option.isSome_iff_exists.1 hy
  rw [hc] at h
  obtain ⟨n, e, _, hw⟩ := DataW.trod_int ht h
  refine ⟨n, ?_, hw⟩
  have e2 : ((cs.drop o).take 1)[0]? = some (.int k n) := by rw [e]; rfl
  rw [List.getElem?_take_of_lt (by omega), List.getElem?_drop] at e2
  simpa using e2

theorem one_row {t e : TypeId} {k : IntKind} {z : Option (DataW H × List MemPlace)} {o : Nat} (ht : Try.prog.underlying t = some (.slice e)) (he : Try.prog.underlying e = some (.int k)) (hc : Try.prog.cellsOf e = 1) (hc1 : Try.prog.cellsOf t = 1) (hy : z.isSome = true)
    (h : DataW.trod enc Try.prog w 0 (fun _ => true) held fuel t ((cs.drop o).take (Try.prog.cellsOf t)) = z) :
    ∃ v xs q, cs[o]? = some v ∧ z = some q ∧ RowAt k w v xs ∧ (∀ n ∈ xs, (Lit.int k n).wf = true) ∧ ∀ M, (∀ n ∈ (q.1).weights Try.prog t, n ≤ M) → xs.length * Try.prog.bytesOf e ≤ M := by
  obtain ⟨q, rfl⟩ := Option.isSome_iff_exists.1 hy
  rw [hc1] at h
  obtain ⟨v, xs, e1, hr, hw, hM⟩ := open_row ht he hc h
  refine ⟨v, xs, q, ?_, rfl, hr, hw, hM⟩
  have e2 : ((cs.drop o).take 1)[0]? = some v := by rw [e1]; rfl
  rw [List.getElem?_take_of_lt (by omega), List.getElem?_drop] at e2
  simpa using e2
end
theorem Try.c3 : Try.prog.cellsOf 3 = 1 := by kernel_rfl
theorem Try.c22 : Try.prog.cellsOf 22 = 1 := by kernel_rfl
theorem Try.c23 : Try.prog.cellsOf 23 = 1 := by kernel_rfl
theorem Try.c26 : Try.prog.cellsOf 26 = 1 := by kernel_rfl
theorem Try.c25 : Try.prog.cellsOf 25 = 4 := by kernel_rfl
theorem Try.b3 : Try.prog.bytesOf 3 = 8 := by kernel_rfl
theorem Try.b38 : Try.prog.bytesOf 26 = 8 := by kernel_rfl
theorem list4 {l : List Value} {a b c d : Value} (h : l.length = 4) (h0 : l[0]? = some a) (h1 : l[1]? = some b) (h2 : l[2]? = some c) (h3 : l[3]? = some d) : l = [a, b, c, d] := by
  match l, h with
  | [x, y, z, u], _ => simp at h0 h1 h2 h3; subst h0 h1 h2 h3; rfl

set_option maxRecDepth 100000 in
theorem open_graph {H : Type} {enc : TypeId × Value → H} {base : Nat} {held : Bool} {W : World} {v : Value} {d : DataW H} {p : List MemPlace} (hv : Value.okWide Try.prog W .any base 25 v) (h : DataW.Trod enc Try.prog W 0 (fun _ => true) held 25 v d p)
    (hsz : ∀ n ∈ d.weights Try.prog 25, n ≤ reachBytes) :
    ∃ N va vb vc st tl wt, v = gAgg N va vb vc ∧ GIs W N va vb vc st tl wt ∧ (Lit.int .i64 N).wf = true ∧ st.length * 8 ≤ 140737488351232 ∧ tl.length * 8 ≤ 140737488351232 ∧ wt.length * 8 ≤ 140737488351232 ∧ (∀ n ∈ wt, (Lit.int .u64 n).wf = true) := by
  obtain ⟨cs, rfl, hcs⟩ := okWide_struct Try.underlying25 hv
  obtain ⟨fuel, hf⟩ := h
  obtain ⟨xs, n, _, hx, hlen, hxs, hel⟩ := DataW.trod_struct Try.underlying25 hf
  rw [Try.c25] at hlen
  have hxx : ∀ i, i < 4 → (xs[i]?).isSome = true := fun i hi => by rw [List.getElem?_eq_getElem (show i < xs.length by rw [hxs]; exact hi)]; rfl
  obtain ⟨N, h0, w0⟩ := one_int Try.underlying3 Try.c3 (hxx 0 (by omega)) (hel 0 _ rfl)
  obtain ⟨va, st, q1, h1, e1, r1, _, m1⟩ := one_row Try.underlying22 Try.underlying3 Try.c3 Try.c22 (hxx 1 (by omega)) (hel 1 _ rfl)
  obtain ⟨vb, tl, q2, h2, e2, r2, _, m2⟩ := one_row Try.underlying22 Try.underlying3 Try.c3 Try.c22 (hxx 2 (by omega)) (hel 2 _ rfl)
  obtain ⟨vc, wt, q3, h3, e3, r3, z3, m3⟩ := one_row Try.underlying23 Try.underlying26 Try.c26 Try.c23 (hxx 3 (by omega)) (hel 3 _ rfl)
  have hl := list4 hlen h0 h1 h2 h3
  simp only [Prod.mk.injEq] at hx
  have hw : ∀ (i : Nat) (t : TypeId) (q : DataW H × List MemPlace), ([3, 22, 22, 23] : List TypeId)[i]? = some t → xs[i]? = some q → ∀ k ∈ (q.1).weights Try.prog t, k ≤ reachBytes := by
    intro i t q ht hq k hk
    refine hsz k ?_
    rw [hx.1]
    simp only [DataW.weights, Try.underlying25]
    refine DataW.weights_mem_each (j := i) (t := t) (d := q.1) ?_ ?_ k hk
    · exact ht
    · rw [List.getElem?_map, hq]; rfl
  have b1 := m1 reachBytes (hw 1 22 q1 rfl e1)
  have b2 := m2 reachBytes (hw 2 22 q2 rfl e2)
  have b3 := m3 reachBytes (hw 3 23 q3 rfl e3)
  rw [Try.b3] at b1 b2
  rw [Try.b38] at b3
  simp only [reachBytes] at b1 b2 b3
  refine ⟨N, va, vb, vc, st, tl, wt, ?_, ⟨r1, r2, r3⟩, w0, by omega, by omega, by omega, z3⟩
  unfold gAgg
  congr 1
  have : cs.toList = [.int .i64 N, va, vb, vc] := by simpa [Value.cells] using hl
  rw [← Array.toList_inj, this]
end Go.Proofs.Ytehlciejhegndaa

