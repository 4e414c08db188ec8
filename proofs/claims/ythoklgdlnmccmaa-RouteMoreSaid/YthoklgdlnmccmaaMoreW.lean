import Derived.Test.YthoklgdlnmccmaaMoreH
import Derived.Test.YthoklgdlnmccmaaStG
import Derived.Test.YthoklgdlnmccmaaFits
import Derived.Test.YthoklgdlnmccmaaSearches
import Derived.Deep.CutRange
import Derived.Deep.AppendLies
import Derived.BigRegion
import Derived.BigQuiet
/- RouteMore's memory: its boxes, the roads that grow, the starts with one more. -/
namespace Go.Proofs.Ythoklgdlnmccmaa
open Go.RowKit Go.Lib
set_option linter.unusedVariables false
/-- The boxes of RouteMore: the graph, the edge, the start. -/
structure MB (w x : World) (N : Int) (va vb vc : Value) (m1 m2 m3 a1 a2 : Int) : Prop where
  bg : x.heap[w.heap.size]? = some (.cells #[.int .i64 N, va, vb, vc] 32 (0, 0))
  be : x.heap[w.heap.size + 1]? = some (.cells #[.int .i64 m1, .int .i64 m2, .int .u64 m3] 61 (0, 0))
  ba : x.heap[w.heap.size + 2]? = some (.cells #[.int .i64 a1, .int .u64 a2] 41 (0, 0))
  bel : Below w.heap.size w x
section
variable {w x x' : World} {N : Int} {va vb vc : Value} {m1 m2 m3 a1 a2 : Int}
theorem MB.start (w : World) (N : Int) (va vb vc : Value) (m1 m2 m3 a1 a2 : Int) :
    MB w (((w.alloc (.cells #[.int .i64 N, va, vb, vc] 32)).alloc (.cells #[.int .i64 m1, .int .i64 m2, .int .u64 m3] 61)).alloc (.cells #[.int .i64 a1, .int .u64 a2] 41)) N va vb vc m1 m2 m3 a1 a2 := by
  obtain ⟨A, hA⟩ : ∃ A, A = w.alloc (.cells #[.int .i64 N, va, vb, vc] 32) := ⟨_, rfl⟩
  obtain ⟨B, hB⟩ : ∃ B, B = A.alloc (.cells #[.int .i64 m1, .int .i64 m2, .int .u64 m3] 61) := ⟨_, rfl⟩
  have sA : A.heap.size = w.heap.size + 1 := by rw [hA]; simp
  have sB : B.heap.size = w.heap.size + 2 := by rw [hB, World.size_alloc, sA]
  have fA := heap_new w (.cells #[.int .i64 N, va, vb, vc] 32)
  rw [← hA] at fA
  have fB := heap_new A (.cells #[.int .i64 m1, .int .i64 m2, .int .u64 m3] 61)
  rw [← hB, sA] at fB
  have fC := heap_new B (.cells #[.int .i64 a1, .int .u64 a2] 41)
  rw [sB] at fC
  rw [← hA, ← hB]
  refine ⟨?_, ?_, fC, ?_⟩
  · rw [heap_alloc_old _ _ (by omega), hB, heap_alloc_old _ _ (by omega)]; exact fA
  · rw [heap_alloc_old _ _ (by omega)]; exact fB
  · rw [hB, hA]; exact below_alloc (below_alloc (below_alloc (Below.refl _ _) _) _) _
theorem MB.below (h : MB w x N va vb vc m1 m2 m3 a1 a2) (hb : Below x.heap.size x x') : MB w x' N va vb vc m1 m2 m3 a1 a2 :=
  ⟨(hb.block _ (lt_of_heap h.bg)).trans h.bg, (hb.block _ (lt_of_heap h.be)).trans h.be, (hb.block _ (lt_of_heap h.ba)).trans h.ba, below_on h.bel hb⟩
theorem MB.chg {S : Nat → Prop} (h : MB w x N va vb vc m1 m2 m3 a1 a2) (hc : Chg S x x') (hS : ∀ k, S k → w.heap.size + 3 ≤ k) : MB w x' N va vb vc m1 m2 m3 a1 a2 :=
  ⟨hc.heap h.bg fun k => by have := hS _ k; omega, hc.heap h.be fun k => by have := hS _ k; omega, hc.heap h.ba fun k => by have := hS _ k; omega, below_of_chg h.bel hc fun k hk k2 => by have := hS _ k2; omega⟩
theorem MB.lt (h : MB w x N va vb vc m1 m2 m3 a1 a2) : w.heap.size + 3 ≤ x.heap.size := lt_of_heap h.ba
end
/-- The roads, whose list of edges grows in a row of its own. -/
structure RW (w7 wr : World) (R n : Nat) (ve : Value) (l : List Ed3) : Prop where
  rb : wr.heap[R]? = some (.cells #[.int .i64 n, ve] 64 (0, 0))
  own : wr.ownsRow w7.heap.size 61 3 ve l.length (eCells l)
  chg : Chg (fun k => k = R) w7 wr
  lt : R < w7.heap.size
theorem RW.start {w7 : World} {R n : Nat} (h : w7.heap[R]? = some (.cells #[.int .i64 n, .slice none 0 0] 64 (0, 0))) : RW w7 w7 R n (.slice none 0 0) [] where
  rb := h
  own := ⟨rfl, .inl ⟨rfl, rfl⟩⟩
  chg := Chg.refl _ _
  lt := lt_of_heap h
theorem RW.turn {w7 wr X : World} {R n : Nat} {ve : Value} {l : List Ed3} (h : RW w7 wr R n ve l) (hX : Chg (fun _ => False) wr X) : RW w7 X R n ve l where
  rb := hX.heap h.rb fun k => k
  own := own_chg h.own hX fun _ _ k => k
  chg := h.chg.trans (hX.mono fun _ k => k.elim)
  lt := h.lt
theorem RW.step {w7 X w' : World} {R n g cap : Nat} {ve : Value} {l : List Ed3} {x : Ed3} (h : RW w7 X R n ve l)
    (hown : w'.ownsRow w7.heap.size 61 3 (.slice (some ⟨g, 0, none⟩) (l.length + 1) cap) (l.length + 1) (eCells l ++ [.int .i64 x.1, .int .i64 x.2.1, .int .u64 x.2.2])) (hgrow : X.grownBy w' ve.ownBlock) :
    w'.cell? ⟨R, 1, none⟩ = some ve ∧ w'.frozen? ⟨R, 1, none⟩ = false ∧ RW w7 (w'.setCell ⟨R, 1, none⟩ (.slice (some ⟨g, 0, none⟩) (l.length + 1) cap)) R n (.slice (some ⟨g, 0, none⟩) (l.length + 1) cap) (l ++ [x]) := by
  have hlt := h.lt
  have hov : ∀ k, ve.ownBlock = some k → w7.heap.size ≤ k := by
    intro k hk
    obtain ⟨_, ⟨rfl, _⟩ | ⟨g', cap', cur', rfl, hg', _⟩⟩ := h.own
    · simp [Value.ownBlock] at hk
    · simp [Value.ownBlock] at hk; omega
  have hc1 : Chg (fun k => k = R) w7 w' := h.chg.grown hgrow fun k hk => .inr (hov k hk)
  have hr1 : w'.heap[R]? = some (.cells #[.int .i64 n, ve] 64 (0, 0)) := by
    have h2 : Chg (fun k => w7.heap.size ≤ k) X w' := (Chg.refl _ X).grown hgrow fun k hk => .inl (hov k hk)
    exact h2.heap h.rb (by omega)
  have hgg : w7.heap.size ≤ g := by
    obtain ⟨_, ⟨he, _⟩ | ⟨g', cap', cur', he, hg', _⟩⟩ := hown
    · cases he
    · simp only [Value.slice.injEq, Option.some.injEq, Addr.mk.injEq] at he; omega
  refine ⟨cell_of hr1 rfl, free_of hr1 1, ?_, ?_, hc1.setCell rfl _, hlt⟩
  · rw [heap_set hr1]; rfl
  · have hl : (l ++ [x]).length = l.length + 1 := by simp
    rw [hl, eCells_snoc]
    exact own_chg hown ((Chg.refl (fun k => k = R) w').setCell rfl _) fun k hk => by simp [Value.ownBlock] at hk; omega
/-- 'append([]Start{}, xs...)' as one step of a region that draws. -/
theorem step_freshS {P : Program} {w : World} {ops : Array Oper} {o : Oper} {a : Act} {K : Act → World → Prop} {Q : Exit → Act → World → Prop} {E : Prop} (hgd : o.guard = none) (s x : Operand) (t : TypeId)
    (hop : o.op = .call { callee := .builtin .append, args := #[s, x], argTypes := #[t, t] })
    (e : TypeId) (i : TypeInfo) (z : Value) (ht : P.underlying t = some (.slice e)) (hi : P.info? e = some i) (hz : i.zero = some z)
    (hsize : i.size = 2) (hby : i.bytes = 16) (hzs : z.cells.size = 2) (B : Nat) (fr : Nat) (hB : w.ownsRow fr e 2 (.slice (some ⟨B, 0, none⟩) 0 0) 0 []) (hfr : fr ≤ w.heap.size) (xv : Value) (xs : List Pr) (hs : a.eval s = .slice (some ⟨B, 0, none⟩) 0 0) (hx : a.eval x = xv) (hrow : SAt w xv xs) (hb : xs.length * 16 ≤ 140737488355328) (h63 : xs.length ≤ maxLen)
    (h : ∀ v' w', w'.ownsRow fr e 2 v' xs.length (sCells xs) → Below w.heap.size w w' → K (a.put o.dst v') w') :
    if Region.wanted o (yielded ops a.tmps) = true then Oper.wp P o a w K Q else E := by
  have hw : Region.wanted o (yielded ops a.tmps) = true := by simp [Region.wanted, hgd]
  rw [if_pos hw]
  obtain ⟨xo, c, rfl, h1, h2, h4⟩ := hrow
  rcases Nat.eq_zero_or_pos xs.length with h0 | h0
  · obtain rfl : xs = [] := List.eq_nil_of_length_eq_zero h0
    have hsrc : Src P i.size t (.slice xo 0 c) 0 [] w := by
      cases xo with
      | none => exact Src.ofNil w ht c
      | some a => exact Src.ofSlice w ht a 0 c [] (by simp) (fun j u h => by simp at h) (by simp)
    have hrun := run_append_nothing w t t o.type e i ht hi (some ⟨B, 0, none⟩) 0 0 (Nat.le_refl _) _ hsrc
    have hx' : a.eval x = .slice xo 0 c := hx
    unfold Oper.wp
    simp [execOp, hop, resolve, invoke, builtin, hs, hx', hrun, Result.andThen]
    exact h _ _ (by simpa [sCells] using hB) (Below.refl _ _)
  · obtain ⟨g, q, rfl, _, _⟩ := h4 0 h0
    have h5 : ∀ i, i < xs.length → w.cell? ⟨g, q + i * 2, none⟩ = some (.int .i64 (sAt xs i).1) ∧ w.cell? ⟨g, q + i * 2 + 1, none⟩ = some (.int .u64 (sAt xs i).2) := by
      intro i hi
      obtain ⟨g', q', he, p1, p2⟩ := h4 i hi
      simp only [Option.some.injEq, Addr.mk.injEq] at he
      obtain ⟨rfl, rfl, _⟩ := he
      exact ⟨p1, p2⟩
    obtain ⟨v', w', hrun, hown, hgrow⟩ := run_append_arg_grows (P := P) (w := w) t o.type e i z 2 16 ht hi hz hsize hby hzs (by decide) ⟨B, 0, none⟩ 0 0 [] rfl (fun j u h => by simp at h) ⟨g, q, none⟩ xs.length c (sCells xs) (by rw [sCells_length]) (sCells_at_all h5) (by omega) (by omega) (by rw [Nat.zero_add]; exact hb)
    simp only [Nat.zero_add, List.nil_append] at hown
    have hbel : Below w.heap.size w w' := (Below.refl _ _).grown hgrow (Nat.le_refl _) (by intro j hj; cases hj)
    unfold Oper.wp
    simp [execOp, hop, resolve, invoke, builtin, hs, hx, hrun, Result.andThen]
    refine h _ _ ?_ hbel
    obtain ⟨hl, hh⟩ := hown
    exact ⟨hl, hh.imp id fun ⟨g, cap, cur, he, hg, r⟩ => ⟨g, cap, cur, he, Nat.le_trans hfr hg, r⟩⟩
end Go.Proofs.Ythoklgdlnmccmaa

/- RouteMore: what Search takes. Plain. -/
namespace Go.Proofs.Ythoklgdlnmccmaa
set_option linter.unusedVariables false
theorem good_chk {n : Nat} {st tl wt : List Int} (h : Good n st tl wt) : (chk n st tl wt).1 = 0 := by
  have hf : Fits (n : Int) tl.length := ⟨by omega, by have := h.n_le; omega, h.m_le⟩
  unfold chk
  rw [if_pos hf, if_pos ⟨by rw [h.s_len]; omega, h.w_len⟩]
  have h1 : chkRows (n : Int).toNat tl.length st = none := by
    unfold chkRows
    exact first_none fun i hi => by
      rw [Int.toNat_natCast] at hi ⊢
      simpa [badRow] using h.rows i hi
  rw [h1]
  simp only [chkEdges]
  rw [first_none (p := badEdge (n : Int).toNat tl wt) fun e he => by
    rw [Int.toNat_natCast]
    simpa [badEdge] using h.edges e he]
theorem srch_of {n : Nat} {st tl wt : List Int} {k : Int} {S : List Pr} (h : Good n st tl wt) (hk : 1 ≤ k ∧ k ≤ 4) (hs : stNo n S = 0) : srchNo n st tl wt k S = 0 := by
  have hf : fstNo n st tl wt k = 0 := by
    unfold fstNo
    rw [if_pos (good_chk h)]
    exact kindNo_ok hk
  unfold srchNo
  rw [if_pos hf]
  exact hs
theorem st_snoc {n : Nat} {S : List Pr} {v x : Int} (h : stNo n S = 0) (hv : 0 ≤ v ∧ v < n) (hx : x ≤ 4611686018427387904) : stNo n (S ++ [(v, x)]) = 0 := by
  refine st_none fun i hi => ?_
  rw [List.length_append, List.length_singleton] at hi
  rcases Nat.lt_or_ge i S.length with h1 | h1
  · have := st_ok h i h1
    unfold sBad at this ⊢
    rw [sAt_left h1]
    exact this
  · have : i = S.length := by omega
    subst this
    unfold sBad
    rw [sAt_end, if_pos hv, if_neg (by omega)]
end Go.Proofs.Ythoklgdlnmccmaa

/- twin once more: its lists lie in new blocks. -/
namespace Go.Proofs.Ythoklgdlnmccmaa
open Go.RowKit Go.Lib
set_option linter.unusedVariables false
set_option maxRecDepth 100000 in
set_option maxHeartbeats 8000000 in
theorem twin_new (N : Int) (va vb vc : Value) (st tl wt : List Int) (w : World) (hg : GIs w N va vb vc st tl wt) (hst : st.length * 8 ≤ 140737488351232) (hto : tl.length * 8 ≤ 140737488351232) (hwt : wt.length * 8 ≤ 140737488351232) :
    Calls Try.prog 22 #[gAgg N va vb vc] w fun e w' => ∃ g1 c1 g2 c2 g3 c3, e = .returned (tAgg N g1 c1 g2 c2 g3 c3 st.length tl.length wt.length) ∧ TIs w' N g1 c1 g2 c2 g3 c3 st tl wt ∧ Below w.heap.size w w' ∧ w.heap.size ≤ g1 ∧ w.heap.size ≤ g2 ∧ w.heap.size ≤ g3 := by
  obtain ⟨ao, ca, rfl⟩ := hg.s.shape
  obtain ⟨bo, cb, rfl⟩ := hg.t.shape
  obtain ⟨co, cc, rfl⟩ := hg.u.shape
  have HG := hide hg
  clear hg
  unfold gAgg tAgg
  go_enter Try.func22, Try.ntmps22
  go_wp2_with fail
  obtain ⟨W, hW⟩ : ∃ W, W = (w.alloc (.cells #[.int .i64 N, .slice ao st.length ca, .slice bo tl.length cb, .slice co wt.length cc] 32)).alloc (.cells #[.int .i64 0, .slice none 0 0, .slice none 0 0, .slice none 0 0] 32) := ⟨_, rfl⟩
  have hbW : Below w.heap.size w W := by rw [hW]; exact below_alloc (below_alloc (Below.refl _ _) _) _
  have hA : W.heap[w.heap.size]? = some (.cells #[.int .i64 N, .slice ao st.length ca, .slice bo tl.length cb, .slice co wt.length cc] 32 (0, 0)) := by
    rw [hW]
    exact (((Below.refl _ _).alloc (Nat.le_refl _) _).block w.heap.size (by simp)).trans (heap_new w _)
  have hB : W.heap[w.heap.size + 1]? = some (.cells #[.int .i64 0, .slice none 0 0, .slice none 0 0, .slice none 0 0] 32 (0, 0)) := by
    rw [hW]
    have := heap_new (w.alloc (.cells #[.int .i64 N, .slice ao st.length ca, .slice bo tl.length cb, .slice co wt.length cc] 32)) (.cells #[.int .i64 0, .slice none 0 0, .slice none 0 0, .slice none 0 0] 32)
    simpa using this
  rw [← hW]
  have HA := hide hA; have HB := hide hB; have HBW := hide hbW
  have HGW := hide (HG.out.below hbW)
  obtain ⟨⟨c0, c1, c2, c3⟩, _⟩ := two_keep hA hB (Below.refl _ W)
  have HR := hide (Below.refl W.heap.size W)
  have hWs : w.heap.size + 1 < W.heap.size := lt_of_heap hB
  clear hA hB hbW hW
  refine wp_region_noPanic ?_
  go_region_held3 (fun x => x.cell? ⟨w.heap.size, 0, none⟩ = some (.int .i64 N) ∧ x.cell? ⟨w.heap.size, 1, none⟩ = some (.slice ao st.length ca) ∧ x.cell? ⟨w.heap.size, 2, none⟩ = some (.slice bo tl.length cb) ∧ x.cell? ⟨w.heap.size, 3, none⟩ = some (.slice co wt.length cc)) (first | go_keep | exact ⟨z0, z1, z2, z3⟩)
    (first
      | (go_at_call 26; have hq0 := HB1.out; clear hq0; refine (ints_any (.slice bo tl.length cb) tl _ (HGW.out.below HB1.out).t hto).mono ?_; rintro e w2 ⟨g2, cp2, rfl, hg2, hm2, hbel⟩; have hB2 := below_on (a := W) HB1.out hbel; have hS2 : Below w1.heap.size w1 w2 := hbel; have HS2 := hide hS2; obtain ⟨⟨z0, z1, z2, z3⟩, zB⟩ := two_keep HA.out HB.out hB2; have p2 := HB1.out.size; have hn2 : ¬ g2 = w.heap.size + 1 := (by omega); have HN2 := hide hn2; have hl2 : w.heap.size ≤ g2 := (by omega); have HL2 := hide hl2; clear hl2; have HB2 := hide hB2; have HM2 := hide hm2; clear hn2 hg2 hm2 hbel hB2 zB hS2 p2)
      | (go_at_call 26; refine (ints_any (.slice ao st.length ca) st _ (HGW.out.below (below_drew HR.out)).s hst).mono ?_; rintro e w1 ⟨g1, cp1, rfl, hg1, hm1, hbel⟩; have hB1 := below_on (a := W) (below_drew HR.out) hbel; obtain ⟨⟨z0, z1, z2, z3⟩, zB⟩ := two_keep HA.out HB.out hB1; have hn1 : ¬ g1 = w.heap.size + 1 := (by simp at hg1; omega); have HN1 := hide hn1; have hl1 : w.heap.size ≤ g1 := (by simp at hg1; omega); have HL1 := hide hl1; clear hl1; have HB1 := hide hB1; have HM1 := hide hm1; clear hn1 hg1 hm1 hbel hB1 zB)
      | (go_at_call 44; refine (words_any (.slice co wt.length cc) wt _ (HGW.out.below HB2.out).u hwt).mono ?_; rintro e w3 ⟨g3, cp3, rfl, hg3, hm3, hbel⟩; have hB3 := below_on (a := W) HB2.out hbel; have hS3 : Below w2.heap.size w2 w3 := hbel; have HS3 := hide hS3; obtain ⟨⟨z0, z1, z2, z3⟩, zB⟩ := two_keep HA.out HB.out hB3; have p3 := HB2.out.size; have hn3 : ¬ g3 = w.heap.size + 1 := (by omega); have HN3 := hide hn3; have hl3 : w.heap.size ≤ g3 := (by omega); have HL3 := hide hl3; clear hl3; have HB3 := hide hB3; have HM3 := hide hm3; have HZ := hide zB; have e0 : w3.cell? ⟨w.heap.size + 1, 0, none⟩ = some (.int .i64 0) := cell_of HZ.out rfl; have e1 : w3.cell? ⟨w.heap.size + 1, 1, none⟩ = some (.slice none 0 0) := cell_of HZ.out rfl; have e2 : w3.cell? ⟨w.heap.size + 1, 2, none⟩ = some (.slice none 0 0) := cell_of HZ.out rfl; have e3 : w3.cell? ⟨w.heap.size + 1, 3, none⟩ = some (.slice none 0 0) := cell_of HZ.out rfl; have q0 := free_of HZ.out 0; have q1 := free_of HZ.out 1; have q2 := free_of HZ.out 2; have q3 := free_of HZ.out 3; clear hn3 hg3 hm3 hbel hB3 zB hS3 p3))
  all_goals
    refine NoPanic.normal ?_
    obtain ⟨hwf, hG, hL⟩ := twin_end HBW.out HB3.out HZ.out (N := N) ⟨(HM1.out.below HS2.out).below HS3.out, HM2.out.below HS3.out, HM3.out⟩ HN1.out HN2.out HN3.out
    have HGG := hide hG; have HLL := hide hL; have HWF := hide hwf
    generalize ((((w3.setCell ⟨w.heap.size + 1, 0, none⟩ (.int .i64 N)).setCell ⟨w.heap.size + 1, 1, none⟩ (.slice (some ⟨g1, 0, none⟩) st.length cp1)).setCell ⟨w.heap.size + 1, 2, none⟩ (.slice (some ⟨g2, 0, none⟩) tl.length cp2)).setCell ⟨w.heap.size + 1, 3, none⟩ (.slice (some ⟨g3, 0, none⟩) wt.length cp3)) = wf at HWF HGG HLL ⊢
    clear hG hL hwf
    go_wp2
    exact bodyPost_ret (results_cell_row Try.results22 _ wf (w.heap.size + 1) 32 _ (0, 0) _ rfl HWF.out Try.underlying32 rfl (by kernel_rfl)) rfl ⟨_, _, _, _, _, _, rfl, HGG.out, HLL.out, HL1.out, HL2.out, HL3.out⟩
end Go.Proofs.Ythoklgdlnmccmaa

/- An edge, a start that come in, as they are read. -/
namespace Go.Proofs.Ythoklgdlnmccmaa
open Go.ChangeShapes Go.WideShapes Go.ChangeAt Go.RowKit Go.Deep
set_option linter.unusedVariables false
theorem Try.c61 : Try.prog.cellsOf 61 = 3 := by kernel_rfl
theorem list2' {l : List Value} {a b : Value} (h : l.length = 2) (h0 : l[0]? = some a) (h1 : l[1]? = some b) : l = [a, b] := by
  match l, h with
  | [x, y], _ => simp at h0 h1; rw [h0, h1]
theorem list3' {l : List Value} {a b c : Value} (h : l.length = 3) (h0 : l[0]? = some a) (h1 : l[1]? = some b) (h2 : l[2]? = some c) : l = [a, b, c] := by
  match l, h with
  | [x, y, z], _ => simp at h0 h1 h2; rw [h0, h1, h2]
section
variable {H : Type} {enc : TypeId × Value → H} {base : Nat} {held : Bool}
set_option maxRecDepth 100000 in
theorem open_start {W : World} {v : Value} {d : DataW H} {p : List MemPlace} (hv : Value.okWide Try.prog W .any base 41 v) (h : DataW.Trod enc Try.prog W 0 (fun _ => true) held 41 v d p) :
    ∃ a b : Int, v = .agg #[.int .i64 a, .int .u64 b] ∧ 0 ≤ b ∧ b < 18446744073709551616 := by
  obtain ⟨cs, rfl, hsz⟩ := okWide_struct Try.underlying41 hv
  obtain ⟨fuel, hf⟩ := h
  obtain ⟨xs, n, _, _, hlen, hxs, hel⟩ := DataW.trod_struct Try.underlying41 hf
  rw [Try.c41] at hlen
  have hx : ∀ i, i < 2 → (xs[i]?).isSome = true := fun i hi => by rw [List.getElem?_eq_getElem (show i < xs.length by rw [hxs]; exact hi)]; rfl
  obtain ⟨k0, h0, _⟩ := one_int Try.underlying3 Try.c3 (hx 0 (by omega)) (hel 0 _ rfl)
  obtain ⟨k1, h1, w1⟩ := one_int Try.underlying22 Try.c22 (hx 1 (by omega)) (hel 1 _ rfl)
  obtain ⟨b0, b1⟩ := Go.bounds_u64 w1
  refine ⟨k0, k1, ?_, b0, by omega⟩
  congr 1
  have e := list2' hlen h0 h1
  have : cs.toList = [.int .i64 k0, .int .u64 k1] := by simpa [Value.cells] using e
  rw [← Array.toList_inj, this]
set_option maxRecDepth 100000 in
theorem open_edge {W : World} {v : Value} {d : DataW H} {p : List MemPlace} (hv : Value.okWide Try.prog W .any base 61 v) (h : DataW.Trod enc Try.prog W 0 (fun _ => true) held 61 v d p) :
    ∃ a b c : Int, v = .agg #[.int .i64 a, .int .i64 b, .int .u64 c] ∧ 0 ≤ c ∧ c < 18446744073709551616 := by
  obtain ⟨cs, rfl, hsz⟩ := okWide_struct Try.underlying61 hv
  obtain ⟨fuel, hf⟩ := h
  obtain ⟨xs, n, _, _, hlen, hxs, hel⟩ := DataW.trod_struct Try.underlying61 hf
  rw [Try.c61] at hlen
  have hx : ∀ i, i < 3 → (xs[i]?).isSome = true := fun i hi => by rw [List.getElem?_eq_getElem (show i < xs.length by rw [hxs]; exact hi)]; rfl
  obtain ⟨k0, h0, _⟩ := one_int Try.underlying3 Try.c3 (hx 0 (by omega)) (hel 0 _ rfl)
  obtain ⟨k1, h1, _⟩ := one_int Try.underlying3 Try.c3 (hx 1 (by omega)) (hel 1 _ rfl)
  obtain ⟨k2, h2, w2⟩ := one_int Try.underlying22 Try.c22 (hx 2 (by omega)) (hel 2 _ rfl)
  obtain ⟨b0, b1⟩ := Go.bounds_u64 w2
  refine ⟨k0, k1, k2, ?_, b0, by omega⟩
  congr 1
  have e := list3' hlen h0 h1 h2
  have : cs.toList = [.int .i64 k0, .int .i64 k1, .int .u64 k2] := by simpa [Value.cells] using e
  rw [← Array.toList_inj, this]
end
end Go.Proofs.Ythoklgdlnmccmaa

/- RouteMore: the walk. -/
namespace Go.Proofs.Ythoklgdlnmccmaa
open Go.RowKit Go.Lib
set_option linter.unusedVariables false
theorem Try.info61 : (Try.prog.info? 61).map (fun i => (i.zero, i.size, i.bytes)) = some (some (.agg #[.int .i64 0, .int .i64 0, .int .u64 0]), 3, 24) := by kernel_rfl

theorem RW.step' {w7 wr w' : World} {R n i g cap : Nat} {ve : Value} {l : List Ed3} {x : Ed3} (h : RW w7 wr R n ve l) (hi : l.length = i)
    (hown : w'.ownsRow w7.heap.size 61 3 (.slice (some ⟨g, 0, none⟩) (i + 1) cap) (i + 1) (eCells l ++ [.int .i64 x.1, .int .i64 x.2.1, .int .u64 x.2.2])) {o : Obj} (hgrow : (wr.alloc o).drew.grownBy w' ve.ownBlock) :
    w'.cell? ⟨R, 1, none⟩ = some ve ∧ w'.frozen? ⟨R, 1, none⟩ = false ∧ RW w7 (w'.setCell ⟨R, 1, none⟩ (.slice (some ⟨g, 0, none⟩) (i + 1) cap)) R n (.slice (some ⟨g, 0, none⟩) (i + 1) cap) (l ++ [x]) := by
  subst hi
  exact (h.turn (((Chg.refl _ wr).alloc o).drew)).step hown hgrow
theorem three_at' (w : World) (x y z : Value) (t : TypeId) : ∀ j u, [x, y, z][j]? = some u → (w.alloc (.cells #[x, y, z] t)).drew.cell? ((⟨w.heap.size, 0, none⟩ : Addr).add j) = some u := fun j u h => three_at w x y z t j u h
theorem RW.step2 {w7 wr w' : World} {R n i g cap : Nat} {ve : Value} {l : List Ed3} {x : Ed3} (h : RW w7 wr R n ve l) (hi : l.length = i)
    (hown : w'.ownsRow w7.heap.size 61 3 (.slice (some ⟨g, 0, none⟩) (i + 1) cap) (i + 1) (eCells l ++ [.int .i64 x.1, .int .i64 x.2.1, .int .u64 x.2.2])) {o : Obj} (hgrow : (wr.alloc o).grownBy w' ve.ownBlock) :
    w'.cell? ⟨R, 1, none⟩ = some ve ∧ w'.frozen? ⟨R, 1, none⟩ = false ∧ RW w7 (w'.setCell ⟨R, 1, none⟩ (.slice (some ⟨g, 0, none⟩) (i + 1) cap)) R n (.slice (some ⟨g, 0, none⟩) (i + 1) cap) (l ++ [x]) := by
  subst hi
  exact (h.turn ((Chg.refl _ wr).alloc o)).step hown hgrow
theorem own_cap {w : World} {B e size g n cap : Nat} {xs : List Value} (h : w.ownsRow B e size (.slice (some ⟨g, 0, none⟩) n cap) n xs) : n ≤ cap ∧ cap ≤ 9223372036854775807 := by
  obtain ⟨_, ⟨he, _⟩ | ⟨g', cap', cur', he, _, _, h1, h2, _⟩⟩ := h
  · cases he
  · simp only [Value.slice.injEq] at he
    obtain ⟨_, _, rfl⟩ := he
    exact ⟨h1, h2⟩
theorem RW.far {w7 wr w2 : World} {R n : Nat} {ve : Value} {l : List Ed3} (h : RW w7 wr R n ve l) {o : Obj} (hgrow : (wr.alloc o).drew.grownBy w2 ve.ownBlock) {a : Addr} {u : Value} (hu : wr.cell? a = some u) (hlt : a.block < w7.heap.size) : w2.cell? a = some u := by
  have hov : ∀ k, ve.ownBlock = some k → w7.heap.size ≤ k := by
    intro k hk
    obtain ⟨_, ⟨rfl, _⟩ | ⟨g', cap', cur', rfl, hg', _⟩⟩ := h.own
    · simp [Value.ownBlock] at hk
    · simp [Value.ownBlock] at hk; omega
  have hc : Chg (fun k => w7.heap.size ≤ k) wr w2 := (((Chg.refl (fun k => w7.heap.size ≤ k) wr).alloc o).drew).grown hgrow fun k hk => .inl (hov k hk)
  have hb := block_of_cell hu
  rw [← hu]
  simp only [World.cell?]
  rw [hc.block a.block hb (by omega)]
theorem cell_setFar {w : World} {a : Addr} {u : Value} {R k : Nat} {v : Value} (h : w.cell? a = some u) (hne : a.block ≠ R) : (w.setCell ⟨R, k, none⟩ v).cell? a = some u := by
  rw [World.cell?_setCell_far _ _ _ _ (fun e => hne e.symm)]; exact h
/-- Build's answer, in one shape. -/
def BuildU (n : Nat) (l : List Ed3) (w : World) (e : Ending) (w' : World) : Prop :=
  ∃ (N f p : Int) (oa ob oc : Option Addr) (la ca lb cb lc cc : Nat), e = .returned (.tuple #[.agg #[.int .i64 N, .slice oa la ca, .slice ob lb cb, .slice oc lc cc], .int .i64 f, .int .i64 p]) ∧ Below w.heap.size w w' ∧
    (f = 0 → N = n ∧ Takes n l ∧ ∃ st to' wt nx, GIs w' n (.slice oa la ca) (.slice ob lb cb) (.slice oc lc cc) st to' wt ∧ Summed n l.length (eFrom l) n st ∧ Laying n l.length (eFrom l) (eTo l) (eWt l) l.length nx to' wt)
theorem BuildPost.one {n : Nat} {l : List Ed3} {w w' : World} {e : Ending} (h : BuildPost n l w e w') : BuildU n l w e w' := by
  rcases h with ⟨f, p, rfl, hf, hb⟩ | ⟨ht, va, vb, vc, st, to', wt, nx, rfl, hg, hs, hl, hb⟩
  · exact ⟨0, f, p, none, none, none, 0, 0, 0, 0, 0, 0, rfl, hb, fun h => absurd h hf⟩
  · obtain ⟨ao, ca, rfl⟩ := hg.s.shape
    obtain ⟨bo, cb, rfl⟩ := hg.t.shape
    obtain ⟨co, cc, rfl⟩ := hg.u.shape
    exact ⟨n, 0, 0, ao, bo, co, st.length, ca, to'.length, cb, wt.length, cc, rfl, hb, fun _ => ⟨rfl, ht, st, to', wt, nx, hg, hs, hl⟩⟩
theorem srch_kind {N : Int} {st tl wt : List Int} {k : Int} {S : List Pr} (h : srchNo N st tl wt k S = 0) : (1 ≤ k ∧ k ≤ 4) ∧ stNo N S = 0 := by
  unfold srchNo at h
  by_cases hc : fstNo N st tl wt k = 0
  · rw [if_pos hc] at h
    exact ⟨(fst_good hc).1, h⟩
  · rw [if_neg hc] at h; exact absurd h hc
theorem lay_words {n m : Nat} {F T : Nat → Nat} {W : Nat → Int} {nx tl wt : List Int} (h : Laying n m F T W m nx tl wt) (e : Nat) : 0 ≤ at_ wt e ∧ at_ wt e ≤ 18446744073709551615 := by
  rcases Nat.lt_or_ge e m with he | he
  · have := h.win e he; omega
  · have : at_ wt e = 0 := by unfold at_; rw [List.getElem?_eq_none (by rw [h.wlen]; exact he)]; rfl
    omega
theorem sok_words {n : Nat} {S : List Pr} (h : Sok n S) : ∀ j, j < S.length → 0 ≤ (sAt S j).2 ∧ (sAt S j).2 ≤ 18446744073709551615 := fun j hj => by have := (h j hj).2; omega
theorem edge_words {n : Nat} {st tl wt : List Int} {m1 m2 m3 : Int} (hw : ∀ e, 0 ≤ at_ wt e ∧ at_ wt e ≤ 18446744073709551615) (h3 : 0 ≤ m3) (i : Nat) : ∀ j, j < (gEdges n st tl wt i ++ [(m1, m2, m3)]).length → 0 ≤ (eAt (gEdges n st tl wt i ++ [(m1, m2, m3)]) j).2.2 := by
  intro j hj
  rw [List.length_append, gEdges_length, List.length_singleton] at hj
  rcases Nat.lt_or_ge j i with h | h
  · rw [eAt_left (by rw [gEdges_length]; exact h), gEdges_at h]; exact (hw j).1
  · have : j = (gEdges n st tl wt i).length := by rw [gEdges_length]; omega
    rw [this, eAt_end]; exact h3
theorem own_lower2 {w : World} {B B' e n : Nat} {v : Value} {xs : List Value} (h : w.ownsRow B e 2 v n xs) (hb : B' ≤ B) : w.ownsRow B' e 2 v n xs :=
  ⟨h.1, h.2.imp id fun ⟨g, cap, cur, he, hg, r⟩ => ⟨g, cap, cur, he, Nat.le_trans hb hg, r⟩⟩
theorem fresh_a (w : World) : (w.drew.alloc (.cells #[] 41)).ownsRow w.heap.size 41 2 (.slice (some ⟨w.heap.size, 0, none⟩) 0 0) 0 [] := own_new2 w.drew 41 _ rfl
theorem fresh_b (w : World) (o : Obj) : ((w.drew.alloc (.cells #[] 41)).alloc o).ownsRow w.heap.size 41 2 (.slice (some ⟨w.heap.size, 0, none⟩) 0 0) 0 [] := (fresh_a w).alloc o
theorem fresh_c (w : World) (o : Obj) : ((w.drew.alloc o).alloc (.cells #[] 41)).ownsRow w.heap.size 41 2 (.slice (some ⟨w.heap.size + 1, 0, none⟩) 0 0) 0 [] :=
  own_lower2 (own_new2 (w.drew.alloc o) 41 _ (by simp)) (by simp)
theorem grow_below {wc X X0 wE : World} {e n : Nat} {v1 : Value} {xs : List Value} (hb : Below wc.heap.size wc X) (ho : X0.ownsRow wc.heap.size e 2 v1 n xs) (hg : X.grownBy wE v1.ownBlock) : Below wc.heap.size wc wE := by
  refine hb.grown hg hb.size ?_
  intro k hk
  obtain ⟨_, ⟨rfl, _⟩ | ⟨g', cap', cur', rfl, hg', _⟩⟩ := ho
  · simp [Value.ownBlock] at hk
  · simp [Value.ownBlock] at hk; omega
theorem news_b {w wX : World} {o : Obj} {x y : Value} {t : TypeId} (h : Below ((w.drew.alloc o).alloc (.cells #[x, y] t)).heap.size ((w.drew.alloc o).alloc (.cells #[x, y] t)) wX) : ∀ j u, [x, y][j]? = some u → wX.cell? ((⟨w.heap.size + 1, 0, none⟩ : Addr).add j) = some u := by
  intro j u hj
  have h1 := two_at (w.drew.alloc o) x y t j u hj
  have e : (w.drew.alloc o).heap.size = w.heap.size + 1 := by simp
  rw [e, Addr.add_lit] at h1
  rw [Addr.add_lit]
  exact (below_cell h (block_of_cell h1)).trans h1
theorem news_c {w wX : World} {o : Obj} {x y : Value} {t : TypeId} (h : Below ((w.drew.alloc (.cells #[x, y] t)).alloc o).heap.size ((w.drew.alloc (.cells #[x, y] t)).alloc o) wX) : ∀ j u, [x, y][j]? = some u → wX.cell? ((⟨w.heap.size, 0, none⟩ : Addr).add j) = some u := by
  intro j u hj
  have h1 := two_at w.drew x y t j u hj
  rw [show w.drew.heap.size = w.heap.size from rfl, Addr.add_lit] at h1
  rw [Addr.add_lit]
  have hb : Below (w.drew.alloc (.cells #[x, y] t)).heap.size (w.drew.alloc (.cells #[x, y] t)) wX := below_on (below_alloc (Below.refl _ _) _) h
  exact (below_cell hb (block_of_cell h1)).trans h1
theorem sat_own {w : World} {B g n c : Nat} {l : List Pr} (h : w.ownsRow B 41 2 (.slice (some ⟨g, 0, none⟩) n c) n (sCells l)) (hn : l.length = n) : SAt w (.slice (some ⟨g, 0, none⟩) n c) l := by
  subst hn
  rcases SRow.of_owns h with ⟨he, _⟩ | ⟨g', c', he, h1, h2, h3⟩
  · cases he
  · simp only [Value.slice.injEq, Option.some.injEq, Addr.mk.injEq] at he
    obtain ⟨⟨rfl, _⟩, _, rfl⟩ := he
    exact ⟨_, _, rfl, h1, h2, fun i hi => ⟨g, 0, rfl, by simpa using h3 i hi⟩⟩
theorem snoc_words {S : List Pr} {v x : Int} (h : ∀ j, j < S.length → 0 ≤ (sAt S j).2) (hx : 0 ≤ x) : ∀ j, j < (S ++ [(v, x)]).length → 0 ≤ (sAt (S ++ [(v, x)]) j).2 := by
  intro j hj
  rw [List.length_append, List.length_singleton] at hj
  rcases Nat.lt_or_ge j S.length with h1 | h1
  · rw [sAt_left h1]; exact h j h1
  · have : j = S.length := by omega
    subst this
    rw [sAt_end]; exact hx
theorem RowAt.sameB {k : IntKind} {w w' : World} {g n c : Nat} {xs : List Int} (h : RowAt k w (.slice (some ⟨g, 0, none⟩) n c) xs) (hb : w'.heap[g]? = w.heap[g]?) : RowAt k w' (.slice (some ⟨g, 0, none⟩) n c) xs := by
  obtain ⟨ao, c', he, h1, h2, h3, h4⟩ := h
  simp only [Value.slice.injEq] at he
  obtain ⟨rfl, rfl, rfl⟩ := he
  refine ⟨_, _, rfl, h1, h2, h3, fun a ha i hi => ?_⟩
  have := h4 a ha i hi
  cases ha
  rw [Addr.add_lit] at this ⊢
  rw [← this]
  simp only [World.cell?]
  rw [hb]
theorem MarkAt.chg {k : IntKind} {w w' : World} {g c : Nat} {xs : List Int} {S : Nat → Prop} (h : MarkAt k w g c xs) (hc : Chg S w w') (hS : ¬ S g) : MarkAt k w' g c xs := by
  have hl : g < w.heap.size := by
    obtain ⟨g', o', c', he, _, _, hcell⟩ := RowAt.spot h (by simp)
    simp only [Value.slice.injEq, Option.some.injEq, Addr.mk.injEq] at he
    obtain ⟨⟨rfl, _⟩, _⟩ := he
    exact block_of_cell (hcell 0 (by simp))
  exact RowAt.sameB h (hc.block g hl hS)
theorem TIs.chg {w w' : World} {N : Int} {g1 c1 g2 c2 g3 c3 : Nat} {st tl wt : List Int} {S : Nat → Prop} (h : TIs w N g1 c1 g2 c2 g3 c3 st tl wt) (hc : Chg S w w') (h1 : ¬ S g1) (h2 : ¬ S g2) (h3 : ¬ S g3) : TIs w' N g1 c1 g2 c2 g3 c3 st tl wt :=
  ⟨h.s.chg hc h1, h.t.chg hc h2, h.u.chg hc h3⟩
theorem own_at {w : World} {B g n c : Nat} {xs : List Value} (h : w.ownsRow B 41 2 (.slice (some ⟨g, 0, none⟩) n c) n xs) : B ≤ g ∧ ∃ cur fr, w.heap[g]? = some (.cells cur 41 fr) := by
  obtain ⟨_, ⟨he, _⟩ | ⟨g', cap', cur', he, hg, hh, _⟩⟩ := h
  · cases he
  · simp only [Value.slice.injEq, Option.some.injEq, Addr.mk.injEq] at he
    obtain ⟨⟨rfl, _⟩, _⟩ := he
    exact ⟨hg, _, _, hh⟩
theorem arru_ne {w : World} {G g : Nat} {L : List Int} {cur : Array Value} {fr : Nat × Nat} (h : ArrU w G L) (h2 : w.heap[g]? = some (.cells cur 41 fr)) : G ≠ g := by
  rintro rfl
  unfold ArrU at h
  rw [h] at h2
  simp at h2
theorem news_d {w wX : World} {x y : Value} {t : TypeId} (h : Below (w.drew.alloc (.cells #[x, y] t)).heap.size (w.drew.alloc (.cells #[x, y] t)) wX) : ∀ j u, [x, y][j]? = some u → wX.cell? ((⟨w.heap.size, 0, none⟩ : Addr).add j) = some u := by
  intro j u hj
  have h1 := two_at w.drew x y t j u hj
  rw [show w.drew.heap.size = w.heap.size from rfl, Addr.add_lit] at h1
  rw [Addr.add_lit]
  exact (below_cell h (block_of_cell h1)).trans h1
theorem news_e (w : World) (x y : Value) (t : TypeId) : ∀ j u, [x, y][j]? = some u → (w.drew.alloc (.cells #[x, y] t)).cell? ((⟨w.heap.size, 0, none⟩ : Addr).add j) = some u := fun j u hj => two_at w.drew x y t j u hj
/-- The append to the starts turned only their own row. -/
theorem grow_one {w X wE : World} {g n c : Nat} (hb : Below w.heap.size w X) (hg : X.grownBy wE (Value.slice (some ⟨g, 0, none⟩) n c).ownBlock) : Chg (fun k => k = g) w wE :=
  (Chg.of_below hb).grown hg fun k hk => .inl (by simp [Value.ownBlock] at hk; exact hk.symm)
theorem grow_two {X wE : World} {g n c : Nat} (hg : X.grownBy wE (Value.slice (some ⟨g, 0, none⟩) n c).ownBlock) : Chg (fun k => k = g) X wE :=
  (Chg.refl _ X).grown hg fun k hk => .inl (by simp [Value.ownBlock] at hk; exact hk.symm)
theorem chg_cell {w w' : World} {S : Nat → Prop} {a : Addr} {u : Value} (hc : Chg S w w') (h : w.cell? a = some u) (hS : ¬ S a.block) : w'.cell? a = some u := by
  rw [← h]
  simp only [World.cell?]
  rw [hc.block a.block (block_of_cell h) hS]
theorem from_here {w : World} {F m : Nat} {f : Nat → Int} (h : RowAt .i64 w (.slice (some ⟨F, 0, none⟩) m m) (tab m f)) {i : Nat} (hi : i < m) : w.cell? ⟨F, i, none⟩ = some (.int .i64 (f i)) := by
  have hne : tab m f ≠ [] := by intro e; have := tab_length m f; rw [e] at this; simp at this; omega
  obtain ⟨g, o, c, he, _, _, hc⟩ := h.spot hne
  simp only [Value.slice.injEq, Option.some.injEq, Addr.mk.injEq] at he
  obtain ⟨⟨rfl, rfl, _⟩, _, _⟩ := he
  have h2 := hc i (by rw [tab_length]; exact hi)
  rw [Nat.zero_add, show (tab m f)[i]?.getD 0 = at_ (tab m f) i from rfl, tab_at _ _ _ hi] at h2
  exact h2
theorem RW.fne {w7 wr : World} {R F n m : Nat} {ve : Value} {l : List Ed3} {f : Nat → Nat} (h : RW w7 wr R n ve l) (h0 : w7.heap[R]? = some (.cells #[.int .i64 n, .slice none 0 0] 64 (0, 0))) (hF : RowAt .i64 w7 (.slice (some ⟨F, 0, none⟩) m m) (tab m fun p => (f p : Int)))
    {i : Nat} (hi : i < m) (hf : f 0 < n) : F ≠ R := by
  rintro rfl
  have h1 := from_here hF (i := 0) (by omega)
  have h2 := cell_of h0 (i := 0) rfl
  rw [h1] at h2
  simp only [Option.some.injEq] at h2
  simp at h2
  omega
theorem RW.from {w7 wr : World} {R F n m : Nat} {ve : Value} {l : List Ed3} {f : Nat → Nat} (h : RW w7 wr R n ve l) (h0 : w7.heap[R]? = some (.cells #[.int .i64 n, .slice none 0 0] 64 (0, 0))) (hF : RowAt .i64 w7 (.slice (some ⟨F, 0, none⟩) m m) (tab m fun p => (f p : Int)))
    {i : Nat} (hi : i < m) (hf : f 0 < n) : wr.cell? ⟨F, i, none⟩ = some (.int .i64 (f i : Int)) := by
  have hne : F ≠ R := h.fne h0 hF hi hf
  have h3 := from_here hF hi
  have hb := block_of_cell h3
  rw [← h3]
  simp only [World.cell?]
  rw [h.chg.block F hb hne]
set_option maxRecDepth 100000 in
set_option maxHeartbeats 4000000 in
theorem more_bad (N : Int) (va vb vc : Value) (st tl wt : List Int) (k : Int) (sv : Value) (S : List Pr) (m1 m2 m3 a1 a2 : Int) (w : World) (hg : GIs w N va vb vc st tl wt) (hst : st.length * 8 ≤ 140737488351232) (hto : tl.length * 8 ≤ 140737488351232) (hwt : wt.length * 8 ≤ 140737488351232)
    (hs : SAt w sv S) (hw : ∀ j, j < S.length → 0 ≤ (sAt S j).2) (hS : S.length * 16 ≤ 140737488353280) (hno : srchNo N st tl wt k S ≠ 0) :
    Calls Try.prog 8 #[gAgg N va vb vc, .int .i64 k, sv, .agg #[.int .i64 m1, .int .i64 m2, .int .u64 m3], .agg #[.int .i64 a1, .int .u64 a2]] w fun e w' => e = .returned (.bool true) ∧ Below w.heap.size w w' := by
  obtain ⟨ao, ca, rfl⟩ := hg.s.shape
  obtain ⟨bo, cb, rfl⟩ := hg.t.shape
  obtain ⟨co, cc, rfl⟩ := hg.u.shape
  obtain ⟨so, sc, rfl, hsc, hscm⟩ := hs.shape
  have HSE := hide (fun a b c W h h2 => rsearch_bad N a b c st tl wt k (.slice so S.length sc) S W h (by omega) (by omega) (by omega) h2 hno)
  have HM1 := hide (MB.start w N (.slice ao st.length ca) (.slice bo tl.length cb) (.slice co wt.length cc) m1 m2 m3 a1 a2)
  have HF := hide (fits_law N _ _ _ st tl wt k _ S _ (hg.below HM1.out.bel) hst hto hwt (hs.below HM1.out.bel) hw hS)
  rw [decide_eq_false hno] at HF
  have HG := hide hg
  have HS := hide hs
  obtain ⟨x, hX⟩ : ∃ x, x = srchNo N st tl wt k S := ⟨_, rfl⟩
  rw [← hX] at HSE hno
  have hx : (x != 0) = true := by simp [hno]
  have c0 := cell_of HM1.out.bg (i := 0) rfl
  have c1 := cell_of HM1.out.bg (i := 1) rfl
  have c2 := cell_of HM1.out.bg (i := 2) rfl
  have c3 := cell_of HM1.out.bg (i := 3) rfl
  unfold gAgg at HF HSE ⊢
  clear hX hg hs hw hno
  go_enter Try.func8, Try.ntmps8
  go_wp2_with fail
  generalize (((w.alloc (.cells #[.int .i64 N, .slice ao st.length ca, .slice bo tl.length cb, .slice co wt.length cc] 32)).alloc (.cells #[.int .i64 m1, .int .i64 m2, .int .u64 m3] 61)).alloc (.cells #[.int .i64 a1, .int .u64 a2] 41)) = w1 at c0 c1 c2 c3 HM1 HF ⊢
  refine HF.out.mono ?_
  rintro e w2 ⟨rfl, hb2⟩
  have HM2 := hide (HM1.out.below hb2)
  have d0 := cell_of HM2.out.bg (i := 0) rfl
  have d1 := cell_of HM2.out.bg (i := 1) rfl
  have d2 := cell_of HM2.out.bg (i := 2) rfl
  have d3 := cell_of HM2.out.bg (i := 3) rfl
  clear c0 c1 c2 c3 hb2 HF HM1
  go_wp2_with fail
  have HTW := hide (twin_any N _ _ _ st tl wt w2 (HG.out.below HM2.out.bel) hst hto hwt)
  unfold gAgg at HTW
  refine HTW.out.mono ?_
  rintro e w3 ⟨g1, p1, g2, p2, g3, p3, rfl, ht, hb3⟩
  have HM3 := hide (HM2.out.below hb3)
  have HT3 := hide ht
  clear d0 d1 d2 d3 hb3 HTW ht HM2
  unfold tAgg gAgg
  go_wp2_with fail
  refine (HSE.out _ _ _ _ HT3.out.gis (HS.out.below HM3.out.bel)).mono ?_
  rintro e w4 ⟨rfl, hb4⟩
  have HM4 := hide (HM3.out.below hb4)
  clear hb4
  go_wp2
  go_ret
  exact ⟨rfl, HM4.out.bel⟩
set_option maxRecDepth 100000 in
set_option maxHeartbeats 8000000 in
theorem more_good (n : Nat) (va vb vc : Value) (st tl wt : List Int) (k : Int) (sv : Value) (S : List Pr) (m1 m2 m3 a1 a2 : Int) (w : World) (hg : GIs w n va vb vc st tl wt) (hgd : Good n st tl wt) (hwb : ∀ e, 0 ≤ at_ wt e ∧ at_ wt e ≤ 18446744073709551615)
    (hs : SAt w sv S) (hok : Sok n S) (hS : S.length * 16 ≤ 140737488351232) (hno : srchNo n st tl wt k S = 0) (hm3 : 0 ≤ m3) (ha2 : 0 ≤ a2) :
    Calls Try.prog 8 #[gAgg n va vb vc, .int .i64 k, sv, .agg #[.int .i64 m1, .int .i64 m2, .int .u64 m3], .agg #[.int .i64 a1, .int .u64 a2]] w fun e w' => e = .returned (.bool true) ∧ Below w.heap.size w w' := by
  have hn := hgd.n_le
  have hm := hgd.m_le
  have hst : st.length * 8 ≤ 140737488351232 := by have := hgd.s_len; omega
  have hto : tl.length * 8 ≤ 140737488351232 := by omega
  have hwt : wt.length * 8 ≤ 140737488351232 := by have := hgd.w_len; omega
  have hS2 : S.length * 16 ≤ 140737488353280 := by omega
  obtain ⟨i0, hi, hz0, hz1, hz2⟩ := info_parts Try.info61
  obtain ⟨i1, hj, hy0, hy1, hy2⟩ := info_parts Try.info41
  obtain ⟨ao, ca, rfl⟩ := hg.s.shape
  obtain ⟨bo, cb, rfl⟩ := hg.t.shape
  obtain ⟨co, cc, rfl⟩ := hg.u.shape
  obtain ⟨so, sc, rfl, hsc, hscm⟩ := hs.shape
  have HSE := hide (fun a b c v W h h2 => rsearch_good n a b c st tl wt k v S W h hgd hwb h2 hok hS2 hno)
  have HM1 := hide (MB.start w n (.slice ao st.length ca) (.slice bo tl.length cb) (.slice co wt.length cc) m1 m2 m3 a1 a2)
  have HF := hide (fits_law n _ _ _ st tl wt k _ S _ (hg.below HM1.out.bel) hst hto hwt (hs.below HM1.out.bel) (fun j hj => (hok j hj).2.1) hS2)
  rw [decide_eq_true hno] at HF
  have HG := hide hg
  have HS := hide hs
  have HD := hide hgd
  have HOK := hide hok
  have HWB := hide hwb
  have HNO := hide hno
  have c0 := cell_of HM1.out.bg (i := 0) rfl
  have c1 := cell_of HM1.out.bg (i := 1) rfl
  have c2 := cell_of HM1.out.bg (i := 2) rfl
  have c3 := cell_of HM1.out.bg (i := 3) rfl
  unfold gAgg at HF HSE ⊢
  clear hg hs hno hgd hwb hok
  go_enter Try.func8, Try.ntmps8
  go_wp2_with fail
  generalize (((w.alloc (.cells #[.int .i64 n, .slice ao st.length ca, .slice bo tl.length cb, .slice co wt.length cc] 32)).alloc (.cells #[.int .i64 m1, .int .i64 m2, .int .u64 m3] 61)).alloc (.cells #[.int .i64 a1, .int .u64 a2] 41)) = w1 at c0 c1 c2 c3 HM1 HF ⊢
  refine HF.out.mono ?_
  rintro e w2 ⟨rfl, hb2⟩
  have HM2 := hide (HM1.out.below hb2)
  have d0 := cell_of HM2.out.bg (i := 0) rfl
  have d1 := cell_of HM2.out.bg (i := 1) rfl
  have d2 := cell_of HM2.out.bg (i := 2) rfl
  have d3 := cell_of HM2.out.bg (i := 3) rfl
  clear c0 c1 c2 c3 hb2 HF HM1
  go_wp2_with fail
  have HTW := hide (twin_any n _ _ _ st tl wt w2 (HG.out.below HM2.out.bel) hst hto hwt)
  unfold gAgg at HTW
  refine HTW.out.mono ?_
  rintro e w3 ⟨g1, p1, g2, p2, g3, p3, rfl, ht, hb3⟩
  have HM3 := hide (HM2.out.below hb3)
  have HT3 := hide ht
  clear d0 d1 d2 d3 hb3 HTW ht HM2
  unfold tAgg gAgg
  go_wp2_with fail
  refine (startsC_any _ S w3 (HS.out.below HM3.out.bel) hS2).mono ?_
  rintro e w4 ⟨g4, p4, rfl, hg4, hsa4, hb4⟩
  have HM4 := hide (HM3.out.below hb4)
  have HT4 := hide (HT3.out.below hb4)
  have HSC := hide hsa4
  clear hb4 hsa4 hg4 HM3 HT3
  go_wp2_with fail
  refine (HSE.out _ _ _ _ w4 HT4.out.gis HSC.out).mono ?_
  rintro e w5 ⟨G, L, rfl, hG, hA, hFd, hb5⟩
  have HM5 := hide (HM4.out.below hb5)
  have HA5 := hide hA
  have HFD := hide hFd
  have d0 := cell_of HM5.out.bg (i := 0) rfl
  have d1 := cell_of HM5.out.bg (i := 1) rfl
  have d2 := cell_of HM5.out.bg (i := 2) rfl
  have d3 := cell_of HM5.out.bg (i := 3) rfl
  clear hb5 hA hFd hG HM4 HT4 HSC
  have hnn : ((n : Int) != (n : Int)) = false := by simp
  have HB6 := hide (below_alloc (Below.refl w5.heap.size w5) (.cells #[.int .i64 n, .slice none 0 0] 64))
  have HM6 := hide (HM5.out.below HB6.out)
  have HR6 := hide (heap_new w5 (.cells #[.int .i64 n, .slice none 0 0] 64))
  have e0 := cell_of HM6.out.bg (i := 0) rfl
  have e1 := cell_of HM6.out.bg (i := 1) rfl
  have e2 := cell_of HM6.out.bg (i := 2) rfl
  have e3 := cell_of HM6.out.bg (i := 3) rfl
  go_wp2_with fail
  have HFR := hide (from_any n _ _ _ st tl wt _ (HG.out.below HM6.out.bel) HD.out)
  unfold gAgg at HFR
  refine HFR.out.mono ?_
  rintro e w7 ⟨F, rfl, hF, hb7⟩
  have HM7 := hide (HM6.out.below hb7)
  have HR7 := hide ((hb7.block _ (lt_of_heap HR6.out)).trans HR6.out)
  have HRW0 : Hid (RW w7 w7 w5.heap.size n (.slice none 0 0) []) := RW.start ((hb7.block _ (lt_of_heap HR6.out)).trans HR6.out)
  have HA7 : Hid (ArrU w7 G L) := (((below_on HB6.out hb7).block _ (lt_of_heap HA5.out)).trans HA5.out)
  have HF7 := hide hF
  have hRw : w.heap.size + 3 ≤ w5.heap.size := HM5.out.lt
  have hGR : G < w5.heap.size := lt_of_heap HA5.out
  clear hF hb7 HFR HB6 HM6 HR6 e0 e1 e2 e3 d0 d1 d2 d3 hnn HA5 HM5
  generalize w5.heap.size = R at HRW0 HR7 hRw hGR ⊢
  clear w5
  go_wp2_with fail
  obtain ⟨m, hme⟩ : ∃ m, m = tl.length := ⟨_, rfl⟩
  go_loopw [17] (fun t wr => ∃ (i : Nat) (ve : Value), i ≤ tl.length ∧ t = .int .i64 i ∧ RW w7 wr R n ve (gEdges n st tl wt i)) (fun t _ => tl.length - (RowKit.intOf t).toNat)
  case atStart => exact ⟨0, _, Nat.zero_le _, rfl, HRW0.out⟩
  case round =>
    obtain ⟨i, ve, hil, rfl, hrw⟩ := hrel
    clear HRW0
    have HMR := hide (HM7.out.chg hrw.chg (fun k hk => by omega))
    have HRW := hide hrw
    have g2 := cell_of HMR.out.bg (i := 2) rfl
    have g3 := cell_of HMR.out.bg (i := 3) rfl
    have q1 := cell_of hrw.rb (i := 1) rfl
    have hlen := gEdges_length n st tl wt i
    by_cases hlt : i < tl.length
    · as_aux_lemma =>
      have hne : tl ≠ [] := by intro h; rw [h] at hlt; exact absurd hlt (Nat.not_lt_zero _)
      have hwl := HD.out.w_len
      have hnw : wt ≠ [] := by intro h; rw [h] at hwl; simp at hwl; omega
      obtain ⟨gb, ob, cb', he, hb1, hb2, hcb⟩ := (HG.out.below HMR.out.bel).t.spot hne
      simp only [Value.slice.injEq] at he
      obtain ⟨rfl, _, rfl⟩ := he
      obtain ⟨gc, oc, cc', he, hc1, hc2, hcc⟩ := (HG.out.below HMR.out.bel).u.spot hnw
      simp only [Value.slice.injEq] at he
      obtain ⟨rfl, _, rfl⟩ := he
      have t1 := hcb i hlt
      have t2 := hcc i (by omega)
      have hsrc := src_lt HD.out hlt
      have f1 : wr.cell? ⟨F, i, none⟩ = some (.int .i64 (src st n i : Int)) := hrw.from HR7.out HF7.out hlt (src_lt HD.out (by omega))
      have HOWN : Hid (wr.ownsRow w7.heap.size 61 3 ve i (eCells (gEdges n st tl wt i))) := by have := hrw.own; rw [hlen] at this; exact this
      have hsz : w7.heap.size ≤ wr.heap.size := hrw.chg.size
      have HLEN := hide hlen
      have hil2 : i ≤ 4194304 := by omega
      have hltw : i < wt.length := by omega
      obtain ⟨x1, hx1⟩ : ∃ x : Nat, x = src st n i := ⟨_, rfl⟩
      obtain ⟨x2, hx2⟩ : ∃ x, x = at_ tl i := ⟨_, rfl⟩
      obtain ⟨x3, hx3⟩ : ∃ x, x = at_ wt i := ⟨_, rfl⟩
      rw [← hx1] at f1
      rw [show tl[i]?.getD 0 = x2 from hx2.symm] at t1
      rw [show wt[i]?.getD 0 = x3 from hx3.symm] at t2
      have HX1 := hide hx1; have HX2 := hide hx2; have HX3 := hide hx3
      have hRs : R < wr.heap.size := lt_of_heap hrw.rb
      have hgbw0 : gb < w.heap.size := by
        obtain ⟨gb', ob', _, he2, _, _, hcb2⟩ := HG.out.t.spot hne
        simp only [Value.slice.injEq, Option.some.injEq, Addr.mk.injEq] at he2
        obtain ⟨⟨rfl, rfl, _⟩, _, _⟩ := he2
        exact block_of_cell (hcb2 i hlt)
      have hgcw0 : gc < w.heap.size := by
        obtain ⟨gb', ob', _, he2, _, _, hcb2⟩ := HG.out.u.spot hnw
        simp only [Value.slice.injEq, Option.some.injEq, Addr.mk.injEq] at he2
        obtain ⟨⟨rfl, rfl, _⟩, _, _⟩ := he2
        exact block_of_cell (hcb2 i (by omega))
      have hFR0 : F ≠ R := hrw.fne HR7.out HF7.out hlt (src_lt HD.out (by omega))
      clear hcb hcc hrw hlen hx1 hx2 hx3 hsrc hne hnw hwl
      go_wp2_with fail
      have hS0 : wr.drew.cell? ⟨w.heap.size, 2, none⟩ = some (.slice (some ⟨gb, ob, none⟩) tl.length cb) ∧ wr.drew.cell? ⟨w.heap.size, 3, none⟩ = some (.slice (some ⟨gc, oc, none⟩) wt.length cc) ∧ wr.drew.cell? ⟨F, i, none⟩ = some (.int .i64 x1) ∧ wr.drew.cell? ⟨gb, ob + i, none⟩ = some (.int .i64 x2) ∧ wr.drew.cell? ⟨gc, oc + i, none⟩ = some (.int .u64 x3) := ⟨g2, g3, f1, t1, t2⟩
      have h3w := HM7.out.lt
      have hl0 : w.heap.size < w7.heap.size := by omega
      have hl1 : F < w7.heap.size := block_of_cell (from_here HF7.out hlt)
      have hgbw : gb < w.heap.size := hgbw0
      have hgcw : gc < w.heap.size := hgcw0
      have hl2 : gb < w7.heap.size := by omega
      have hl3 : gc < w7.heap.size := by omega
      have hn0 : w.heap.size ≠ R := by omega
      have hn1 : F ≠ R := hFR0
      have hn2 : gb ≠ R := by omega
      have hn3 : gc ≠ R := by omega
      refine wp_region_noPanic ?_
      refine wp_region_held_drew (S := (fun x => x.cell? ⟨w.heap.size, 2, none⟩ = some (.slice (some ⟨gb, ob, none⟩) tl.length cb) ∧ x.cell? ⟨w.heap.size, 3, none⟩ = some (.slice (some ⟨gc, oc, none⟩) wt.length cc) ∧ x.cell? ⟨F, i, none⟩ = some (.int .i64 x1) ∧ x.cell? ⟨gb, ob + i, none⟩ = some (.int .i64 x2) ∧ x.cell? ⟨gc, oc + i, none⟩ = some (.int .u64 x3))) (by kernel_rfl) hS0 (fun hHeld => ?_)
      refine wpAnyH_take (i := 0) (oi := { dst := some 71, op := Op.fieldAddr 64 (Operand.tmp 15) 1, type := 0, pos := "route.go:283", after := #[], guard := none }) (v := ?_) rfl (by kernel_rfl) (by kernel_rfl) (by kernel_rfl) (fun _ _ _ h => h) (Or.inl ⟨by rfl, ?_⟩) (by assumption) ?_
      rotate_left
      · intro w hSw
        try dsimp only at hSw
        go_simp
        all_goals try with_reducible rfl
      try simp only [Act.put, List.setIfInBounds_toArray, List.set_cons_zero, List.set_cons_succ]
      refine wpAnyH_take (i := 2) (oi := { dst := some 73, op := Op.move (Operand.tmp 16), type := 29, pos := "route.go:283", after := #[], guard := none }) (v := ?_) rfl (by kernel_rfl) (by kernel_rfl) (by kernel_rfl) (fun _ _ _ h => h) (Or.inl ⟨by rfl, ?_⟩) (by assumption) ?_
      rotate_left
      · intro w hSw
        try dsimp only at hSw
        go_simp
        all_goals try with_reducible rfl
      try simp only [Act.put, List.setIfInBounds_toArray, List.set_cons_zero, List.set_cons_succ]
      refine wpAnyH_take (i := 3) (oi := { dst := some 74, op := Op.move (Operand.tmp 17), type := 3, pos := "route.go:283", after := #[], guard := none }) (v := ?_) rfl (by kernel_rfl) (by kernel_rfl) (by kernel_rfl) (fun _ _ _ h => h) (Or.inl ⟨by rfl, ?_⟩) (by assumption) ?_
      rotate_left
      · intro w hSw
        try dsimp only at hSw
        go_simp
        all_goals try with_reducible rfl
      try simp only [Act.put, List.setIfInBounds_toArray, List.set_cons_zero, List.set_cons_succ]
      refine wpAnyH_take (i := 4) (oi := { dst := some 75, op := Op.indexAddr 29 (Operand.tmp 73) (Operand.tmp 74), type := 0, pos := "route.go:283", after := #[{ on := 2, ground := Ground.data }, { on := 3, ground := Ground.data }], guard := none }) (v := ?_) rfl (by kernel_rfl) (by kernel_rfl) (by kernel_rfl) (fun _ _ _ h => h) (Or.inl ⟨by rfl, ?_⟩) (by assumption) ?_
      rotate_left
      · intro w hSw
        try dsimp only at hSw
        go_simp
        all_goals try with_reducible rfl
      try simp only [Act.put, List.setIfInBounds_toArray, List.set_cons_zero, List.set_cons_succ]
      refine wpAnyH_take (i := 5) (oi := { dst := some 76, op := Op.load 3 (Operand.tmp 75), type := 3, pos := "route.go:283", after := #[{ on := 4, ground := Ground.data }], guard := none }) (v := ?_) rfl (by kernel_rfl) (by kernel_rfl) (by kernel_rfl) (fun _ _ _ h => h) (Or.inl ⟨by rfl, ?_⟩) (by assumption) ?_
      rotate_left
      · intro w hSw
        try dsimp only at hSw
        go_simp
        all_goals try with_reducible rfl
      try simp only [Act.put, List.setIfInBounds_toArray, List.set_cons_zero, List.set_cons_succ]
      refine wpAnyH_take (i := 6) (oi := { dst := some 77, op := Op.fieldAddr 32 (Operand.tmp 5) 2, type := 0, pos := "route.go:283", after := #[], guard := none }) (v := ?_) rfl (by kernel_rfl) (by kernel_rfl) (by kernel_rfl) (fun _ _ _ h => h) (Or.inl ⟨by rfl, ?_⟩) (by assumption) ?_
      rotate_left
      · intro w hSw
        try dsimp only at hSw
        go_simp
        all_goals try with_reducible rfl
      try simp only [Act.put, List.setIfInBounds_toArray, List.set_cons_zero, List.set_cons_succ]
      refine wpAnyH_take (i := 7) (oi := { dst := some 78, op := Op.load 29 (Operand.tmp 77), type := 29, pos := "route.go:283", after := #[{ on := 6, ground := Ground.data }], guard := none }) (v := ?_) rfl (by kernel_rfl) (by kernel_rfl) (by kernel_rfl) (fun _ _ _ h => h) (Or.inl ⟨by rfl, ?_⟩) (by assumption) ?_
      rotate_left
      · intro w hSw
        try dsimp only at hSw
        go_simp
        all_goals try with_reducible rfl
      try simp only [Act.put, List.setIfInBounds_toArray, List.set_cons_zero, List.set_cons_succ]
      refine wpAnyH_take (i := 8) (oi := { dst := some 79, op := Op.move (Operand.tmp 17), type := 3, pos := "route.go:283", after := #[], guard := none }) (v := ?_) rfl (by kernel_rfl) (by kernel_rfl) (by kernel_rfl) (fun _ _ _ h => h) (Or.inl ⟨by rfl, ?_⟩) (by assumption) ?_
      rotate_left
      · intro w hSw
        try dsimp only at hSw
        go_simp
        all_goals try with_reducible rfl
      try simp only [Act.put, List.setIfInBounds_toArray, List.set_cons_zero, List.set_cons_succ]
      refine wpAnyH_take (i := 9) (oi := { dst := some 80, op := Op.indexAddr 29 (Operand.tmp 78) (Operand.tmp 79), type := 0, pos := "route.go:283", after := #[{ on := 7, ground := Ground.data }, { on := 8, ground := Ground.data }], guard := none }) (v := ?_) rfl (by kernel_rfl) (by kernel_rfl) (by kernel_rfl) (fun _ _ _ h => h) (Or.inl ⟨by rfl, ?_⟩) (by assumption) ?_
      rotate_left
      · intro w hSw
        try dsimp only at hSw
        go_simp
        all_goals try with_reducible rfl
      try simp only [Act.put, List.setIfInBounds_toArray, List.set_cons_zero, List.set_cons_succ]
      refine wpAnyH_take (i := 10) (oi := { dst := some 81, op := Op.load 3 (Operand.tmp 80), type := 3, pos := "route.go:283", after := #[{ on := 9, ground := Ground.data }], guard := none }) (v := ?_) rfl (by kernel_rfl) (by kernel_rfl) (by kernel_rfl) (fun _ _ _ h => h) (Or.inl ⟨by rfl, ?_⟩) (by assumption) ?_
      rotate_left
      · intro w hSw
        try dsimp only at hSw
        go_simp
        all_goals try with_reducible rfl
      try simp only [Act.put, List.setIfInBounds_toArray, List.set_cons_zero, List.set_cons_succ]
      refine wpAnyH_take (i := 11) (oi := { dst := some 82, op := Op.fieldAddr 32 (Operand.tmp 5) 3, type := 0, pos := "route.go:283", after := #[], guard := none }) (v := ?_) rfl (by kernel_rfl) (by kernel_rfl) (by kernel_rfl) (fun _ _ _ h => h) (Or.inl ⟨by rfl, ?_⟩) (by assumption) ?_
      rotate_left
      · intro w hSw
        try dsimp only at hSw
        go_simp
        all_goals try with_reducible rfl
      try simp only [Act.put, List.setIfInBounds_toArray, List.set_cons_zero, List.set_cons_succ]
      refine wpAnyH_take (i := 12) (oi := { dst := some 83, op := Op.load 30 (Operand.tmp 82), type := 30, pos := "route.go:283", after := #[{ on := 11, ground := Ground.data }], guard := none }) (v := ?_) rfl (by kernel_rfl) (by kernel_rfl) (by kernel_rfl) (fun _ _ _ h => h) (Or.inl ⟨by rfl, ?_⟩) (by assumption) ?_
      rotate_left
      · intro w hSw
        try dsimp only at hSw
        go_simp
        all_goals try with_reducible rfl
      try simp only [Act.put, List.setIfInBounds_toArray, List.set_cons_zero, List.set_cons_succ]
      refine wpAnyH_take (i := 13) (oi := { dst := some 84, op := Op.move (Operand.tmp 17), type := 3, pos := "route.go:283", after := #[], guard := none }) (v := ?_) rfl (by kernel_rfl) (by kernel_rfl) (by kernel_rfl) (fun _ _ _ h => h) (Or.inl ⟨by rfl, ?_⟩) (by assumption) ?_
      rotate_left
      · intro w hSw
        try dsimp only at hSw
        go_simp
        all_goals try with_reducible rfl
      try simp only [Act.put, List.setIfInBounds_toArray, List.set_cons_zero, List.set_cons_succ]
      refine wpAnyH_take (i := 14) (oi := { dst := some 85, op := Op.indexAddr 30 (Operand.tmp 83) (Operand.tmp 84), type := 0, pos := "route.go:283", after := #[{ on := 12, ground := Ground.data }, { on := 13, ground := Ground.data }], guard := none }) (v := ?_) rfl (by kernel_rfl) (by kernel_rfl) (by kernel_rfl) (fun _ _ _ h => h) (Or.inl ⟨by rfl, ?_⟩) (by assumption) ?_
      rotate_left
      · intro w hSw
        try dsimp only at hSw
        go_simp
        all_goals try with_reducible rfl
      try simp only [Act.put, List.setIfInBounds_toArray, List.set_cons_zero, List.set_cons_succ]
      refine wpAnyH_take (i := 15) (oi := { dst := some 86, op := Op.load 22 (Operand.tmp 85), type := 22, pos := "route.go:283", after := #[{ on := 14, ground := Ground.data }], guard := none }) (v := ?_) rfl (by kernel_rfl) (by kernel_rfl) (by kernel_rfl) (fun _ _ _ h => h) (Or.inl ⟨by rfl, ?_⟩) (by assumption) ?_
      rotate_left
      · intro w hSw
        try dsimp only at hSw
        go_simp
        all_goals try with_reducible rfl
      try simp only [Act.put, List.setIfInBounds_toArray, List.set_cons_zero, List.set_cons_succ]
      refine wpAnyH_take (i := 16) (oi := { dst := some 87, op := Op.build 61 #[(0, Operand.tmp 76), (1, Operand.tmp 81), (2, Operand.tmp 86)], type := 61, pos := "route.go:283", after := #[{ on := 5, ground := Ground.data }, { on := 10, ground := Ground.data }, { on := 15, ground := Ground.data }], guard := none }) (v := ?_) rfl (by kernel_rfl) (by kernel_rfl) (by kernel_rfl) (fun _ _ _ h => h) (Or.inl ⟨by rfl, ?_⟩) (by assumption) ?_
      rotate_left
      · intro w hSw
        try dsimp only at hSw
        go_simp
        all_goals try with_reducible rfl
      try simp only [Act.put, List.setIfInBounds_toArray, List.set_cons_zero, List.set_cons_succ]
      refine wpAnyH_ready (rs := [1, 17]) (by kernel_rfl) (by simp) ?_
      refine AllReadyH.cons (o := { dst := some 72, op := Op.load 62 (Operand.tmp 71), type := 62, pos := "route.go:283", after := #[{ on := 0, ground := Ground.data }], guard := none }) rfl (fun K hK => ?_) (AllReadyH.cons (o := { dst := some 88, op := Op.buildSlice 62 1 #[(0, Operand.tmp 87)], type := 62, pos := "route.go:283", after := #[{ on := 16, ground := Ground.data }], guard := none }) rfl (fun K hK => ?_) AllReadyH.nil)
      · go_simp
        refine hK.out _ _ (by first | exact hS0 | go_keep) (fun hHeld => ?_)
        clear hK K
        try simp only [Act.put, List.setIfInBounds_toArray, List.set_cons_zero, List.set_cons_succ]
        refine wpAnyH_ready (rs := [17]) (by kernel_rfl) (by simp) ?_
        refine AllReadyH.cons (o := { dst := some 88, op := Op.buildSlice 62 1 #[(0, Operand.tmp 87)], type := 62, pos := "route.go:283", after := #[{ on := 16, ground := Ground.data }], guard := none }) rfl (fun K hK => ?_) AllReadyH.nil
        go_simp
        refine hK.out _ _ (by first | exact hHeld | go_keep) (fun hHeld => ?_)
        clear hK K
        try simp only [Act.put, List.setIfInBounds_toArray, List.set_cons_zero, List.set_cons_succ]
        refine wpAnyH_ready (rs := [18]) (by kernel_rfl) (by simp) ?_
        refine AllReadyH.cons (o := { dst := some 89, op := Op.call { callee := Callee.builtin Builtin.append, args := #[Operand.tmp 72, Operand.tmp 88], argTypes := #[62, 62] }, type := 62, pos := "route.go:283", after := #[{ on := 1, ground := Ground.data }, { on := 17, ground := Ground.data }], guard := none }) rfl (fun K hK => ?_) AllReadyH.nil
        refine step_append_lies _ (by rfl) _ _ _ (by rfl) w7.heap.size 61 i0 (.agg #[.int .i64 0, .int .i64 0, .int .u64 0]) 3 24 Try.underlying62 hi hz0 hz1 hz2 rfl (by omega) ve i (eCells (gEdges n st tl wt i)) (by rfl) ((HOWN.out.alloc _).drew) ⟨wr.heap.size, 0, none⟩ 1 1 [.int .i64 x1, .int .i64 x2, .int .u64 x3] (by rfl) (by rfl) (three_at' wr _ _ _ _) (by simp [Value.oneCell']) (by omega) (by unfold maxLen; omega) (by omega) (by simp; omega) (wr.heap.size + 1) (by simp) ?_; intro g cap w2 hown hgrow hat hlt2; obtain ⟨z0, zf, hpw⟩ := HRW.out.step' (x := ((x1 : Int), x2, x3)) HLEN.out hown hgrow; have HPW := hide hpw; have hSn := And.intro (HRW.out.far hgrow hS0.1 hl0) (And.intro (HRW.out.far hgrow hS0.2.1 hl0) (And.intro (HRW.out.far hgrow hS0.2.2.1 hl1) (And.intro (HRW.out.far hgrow hS0.2.2.2.1 hl2) (HRW.out.far hgrow hS0.2.2.2.2 hl3)))); clear hown hgrow hat hpw
        refine hK.out _ _ hSn (fun hHeld => ?_)
        clear hK K
        try simp only [Act.put, List.setIfInBounds_toArray, List.set_cons_zero, List.set_cons_succ]
        refine wpAnyH_take (i := 19) (oi := { dst := some 90, op := Op.fieldAddr 64 (Operand.tmp 15) 1, type := 0, pos := "route.go:283", after := #[{ on := 0, ground := Ground.phase }, { on := 1, ground := Ground.phase }, { on := 2, ground := Ground.phase }, { on := 3, ground := Ground.phase }, { on := 4, ground := Ground.phase }, { on := 5, ground := Ground.phase }, { on := 6, ground := Ground.phase }, { on := 7, ground := Ground.phase }, { on := 8, ground := Ground.phase }, { on := 9, ground := Ground.phase }, { on := 10, ground := Ground.phase }, { on := 11, ground := Ground.phase }, { on := 12, ground := Ground.phase }, { on := 13, ground := Ground.phase }, { on := 14, ground := Ground.phase }, { on := 15, ground := Ground.phase }, { on := 16, ground := Ground.phase }, { on := 17, ground := Ground.phase }, { on := 18, ground := Ground.phase }], guard := none }) (v := ?_) rfl (by kernel_rfl) (by kernel_rfl) (by kernel_rfl) (fun _ _ _ h => h) (Or.inl ⟨by rfl, ?_⟩) (by assumption) ?_
        rotate_left
        · intro w hSw
          try dsimp only at hSw
          go_simp
          all_goals try with_reducible rfl
        try simp only [Act.put, List.setIfInBounds_toArray, List.set_cons_zero, List.set_cons_succ]
        refine wpAnyH_ready (rs := [20]) (by kernel_rfl) (by simp) ?_
        refine AllReadyH.cons (o := { dst := none, op := Op.store 62 (Operand.tmp 90) (Operand.tmp 89), type := 0, pos := "route.go:283", after := #[{ on := 19, ground := Ground.data }, { on := 18, ground := Ground.data }, { on := 18, ground := Ground.chain }, { on := 0, ground := Ground.phase }, { on := 1, ground := Ground.phase }, { on := 2, ground := Ground.phase }, { on := 3, ground := Ground.phase }, { on := 4, ground := Ground.phase }, { on := 5, ground := Ground.phase }, { on := 6, ground := Ground.phase }, { on := 7, ground := Ground.phase }, { on := 8, ground := Ground.phase }, { on := 9, ground := Ground.phase }, { on := 10, ground := Ground.phase }, { on := 11, ground := Ground.phase }, { on := 12, ground := Ground.phase }, { on := 13, ground := Ground.phase }, { on := 14, ground := Ground.phase }, { on := 15, ground := Ground.phase }, { on := 16, ground := Ground.phase }, { on := 17, ground := Ground.phase }, { on := 18, ground := Ground.phase }], guard := none }) rfl (fun K hK => ?_) AllReadyH.nil
        go_simp
        refine hK.out _ _ ⟨cell_setFar hSn.1 hn0, cell_setFar hSn.2.1 hn0, cell_setFar hSn.2.2.1 hn1, cell_setFar hSn.2.2.2.1 hn2, cell_setFar hSn.2.2.2.2 hn3⟩ (fun hHeld => ?_)
        clear hK K
        try simp only [Act.put, List.setIfInBounds_toArray, List.set_cons_zero, List.set_cons_succ]
        refine wpAnyH_done (by kernel_rfl) ?_ _
        refine NoPanic.normal ?_
        go_wp2
        refine ⟨⟨i + 1, .slice (some ⟨g, 0, none⟩) (i + 1) cap, by omega, by simp, ?_⟩, by simp [RowKit.intOf]; omega⟩
        rw [gEdges_succ, ← HX1.out, ← HX2.out, ← HX3.out]
        exact HPW.out
      · go_simp
        refine hK.out _ _ (by first | exact hHeld | go_keep) (fun hHeld => ?_)
        clear hK K
        try simp only [Act.put, List.setIfInBounds_toArray, List.set_cons_zero, List.set_cons_succ]
        refine wpAnyH_ready (rs := [1]) (by kernel_rfl) (by simp) ?_
        refine AllReadyH.cons (o := { dst := some 72, op := Op.load 62 (Operand.tmp 71), type := 62, pos := "route.go:283", after := #[{ on := 0, ground := Ground.data }], guard := none }) rfl (fun K hK => ?_) AllReadyH.nil
        go_simp
        refine hK.out _ _ (by first | exact hS0 | go_keep) (fun hHeld => ?_)
        clear hK K
        try simp only [Act.put, List.setIfInBounds_toArray, List.set_cons_zero, List.set_cons_succ]
        refine wpAnyH_ready (rs := [18]) (by kernel_rfl) (by simp) ?_
        refine AllReadyH.cons (o := { dst := some 89, op := Op.call { callee := Callee.builtin Builtin.append, args := #[Operand.tmp 72, Operand.tmp 88], argTypes := #[62, 62] }, type := 62, pos := "route.go:283", after := #[{ on := 1, ground := Ground.data }, { on := 17, ground := Ground.data }], guard := none }) rfl (fun K hK => ?_) AllReadyH.nil
        refine step_append_lies _ (by rfl) _ _ _ (by rfl) w7.heap.size 61 i0 (.agg #[.int .i64 0, .int .i64 0, .int .u64 0]) 3 24 Try.underlying62 hi hz0 hz1 hz2 rfl (by omega) ve i (eCells (gEdges n st tl wt i)) (by rfl) ((HOWN.out.alloc _).drew) ⟨wr.heap.size, 0, none⟩ 1 1 [.int .i64 x1, .int .i64 x2, .int .u64 x3] (by rfl) (by rfl) (three_at' wr _ _ _ _) (by simp [Value.oneCell']) (by omega) (by unfold maxLen; omega) (by omega) (by simp; omega) (wr.heap.size + 1) (by simp) ?_; intro g cap w2 hown hgrow hat hlt2; obtain ⟨z0, zf, hpw⟩ := HRW.out.step' (x := ((x1 : Int), x2, x3)) HLEN.out hown hgrow; have HPW := hide hpw; have hSn := And.intro (HRW.out.far hgrow hS0.1 hl0) (And.intro (HRW.out.far hgrow hS0.2.1 hl0) (And.intro (HRW.out.far hgrow hS0.2.2.1 hl1) (And.intro (HRW.out.far hgrow hS0.2.2.2.1 hl2) (HRW.out.far hgrow hS0.2.2.2.2 hl3)))); clear hown hgrow hat hpw
        refine hK.out _ _ hSn (fun hHeld => ?_)
        clear hK K
        try simp only [Act.put, List.setIfInBounds_toArray, List.set_cons_zero, List.set_cons_succ]
        refine wpAnyH_take (i := 19) (oi := { dst := some 90, op := Op.fieldAddr 64 (Operand.tmp 15) 1, type := 0, pos := "route.go:283", after := #[{ on := 0, ground := Ground.phase }, { on := 1, ground := Ground.phase }, { on := 2, ground := Ground.phase }, { on := 3, ground := Ground.phase }, { on := 4, ground := Ground.phase }, { on := 5, ground := Ground.phase }, { on := 6, ground := Ground.phase }, { on := 7, ground := Ground.phase }, { on := 8, ground := Ground.phase }, { on := 9, ground := Ground.phase }, { on := 10, ground := Ground.phase }, { on := 11, ground := Ground.phase }, { on := 12, ground := Ground.phase }, { on := 13, ground := Ground.phase }, { on := 14, ground := Ground.phase }, { on := 15, ground := Ground.phase }, { on := 16, ground := Ground.phase }, { on := 17, ground := Ground.phase }, { on := 18, ground := Ground.phase }], guard := none }) (v := ?_) rfl (by kernel_rfl) (by kernel_rfl) (by kernel_rfl) (fun _ _ _ h => h) (Or.inl ⟨by rfl, ?_⟩) (by assumption) ?_
        rotate_left
        · intro w hSw
          try dsimp only at hSw
          go_simp
          all_goals try with_reducible rfl
        try simp only [Act.put, List.setIfInBounds_toArray, List.set_cons_zero, List.set_cons_succ]
        refine wpAnyH_ready (rs := [20]) (by kernel_rfl) (by simp) ?_
        refine AllReadyH.cons (o := { dst := none, op := Op.store 62 (Operand.tmp 90) (Operand.tmp 89), type := 0, pos := "route.go:283", after := #[{ on := 19, ground := Ground.data }, { on := 18, ground := Ground.data }, { on := 18, ground := Ground.chain }, { on := 0, ground := Ground.phase }, { on := 1, ground := Ground.phase }, { on := 2, ground := Ground.phase }, { on := 3, ground := Ground.phase }, { on := 4, ground := Ground.phase }, { on := 5, ground := Ground.phase }, { on := 6, ground := Ground.phase }, { on := 7, ground := Ground.phase }, { on := 8, ground := Ground.phase }, { on := 9, ground := Ground.phase }, { on := 10, ground := Ground.phase }, { on := 11, ground := Ground.phase }, { on := 12, ground := Ground.phase }, { on := 13, ground := Ground.phase }, { on := 14, ground := Ground.phase }, { on := 15, ground := Ground.phase }, { on := 16, ground := Ground.phase }, { on := 17, ground := Ground.phase }, { on := 18, ground := Ground.phase }], guard := none }) rfl (fun K hK => ?_) AllReadyH.nil
        go_simp
        refine hK.out _ _ ⟨cell_setFar hSn.1 hn0, cell_setFar hSn.2.1 hn0, cell_setFar hSn.2.2.1 hn1, cell_setFar hSn.2.2.2.1 hn2, cell_setFar hSn.2.2.2.2 hn3⟩ (fun hHeld => ?_)
        clear hK K
        try simp only [Act.put, List.setIfInBounds_toArray, List.set_cons_zero, List.set_cons_succ]
        refine wpAnyH_done (by kernel_rfl) ?_ _
        refine NoPanic.normal ?_
        go_wp2
        refine ⟨⟨i + 1, .slice (some ⟨g, 0, none⟩) (i + 1) cap, by omega, by simp, ?_⟩, by simp [RowKit.intOf]; omega⟩
        rw [gEdges_succ, ← HX1.out, ← HX2.out, ← HX3.out]
        exact HPW.out
    · have him : i = tl.length := by omega
      have HIM := hide him
      have hil2 : i ≤ 4194304 := by omega
      clear him
      have e0 := cell_of HMR.out.be (i := 0) rfl
      have e1 := cell_of HMR.out.be (i := 1) rfl
      have e2 := cell_of HMR.out.be (i := 2) rfl
      have HOWN : Hid (wr.ownsRow w7.heap.size 61 3 ve i (eCells (gEdges n st tl wt i))) := by have := hrw.own; rw [hlen] at this; exact this
      have hsz : w7.heap.size ≤ wr.heap.size := hrw.chg.size
      have HLEN := hide hlen
      have hRs : R < wr.heap.size := lt_of_heap hrw.rb
      have hRn : R ≠ wr.heap.size := by omega
      have q1a : (wr.alloc (.cells #[.int .i64 m1, .int .i64 m2, .int .u64 m3] 61)).cell? ⟨R, 1, none⟩ = some ve := (below_cell ((Below.refl _ _).alloc (Nat.le_refl _) _) hRs).trans q1
      clear hrw hlen
      go_wp2_with (first
        | (at_builtin; refine wpList_append_lies _ rfl (.tmp 92) (.tmp 94) 62 rfl w7.heap.size 61 i0 (.agg #[.int .i64 0, .int .i64 0, .int .u64 0]) 3 24 Try.underlying62 hi hz0 hz1 hz2 rfl (by omega) ve i (eCells (gEdges n st tl wt i)) rfl (HOWN.out.alloc _) ⟨wr.heap.size, 0, none⟩ 1 1 [.int .i64 m1, .int .i64 m2, .int .u64 m3] rfl rfl (three_at wr _ _ _ _) (by simp [Value.oneCell']) (by omega) (by unfold maxLen; omega) (by omega) (by simp; omega) (wr.heap.size + 1) (by simp) ?_; intro g cap w2 hown hgrow hat hlt2; obtain ⟨z0, zf, hpw⟩ := HRW.out.step2 (x := (m1, m2, m3)) HLEN.out hown hgrow; have HPW := hide hpw; have y0 := cell_of hpw.rb (i := 0) rfl; have y1 := cell_of hpw.rb (i := 1) rfl; have hcap := own_cap hown; clear hown hgrow hat hpw)
        | fail)
      have HM8 := hide (HM7.out.chg HPW.out.chg (fun k hk => by omega))
      have HA8 : Hid (ArrU (w2.setCell ⟨R, 1, none⟩ (.slice (some ⟨g, 0, none⟩) (i + 1) cap)) G L) := HPW.out.chg.heap HA7.out (by omega)
      have hl8 : (gEdges n st tl wt i ++ [(m1, m2, m3)]).length = i + 1 := by rw [List.length_append, gEdges_length]; rfl
      have HBU := hide (build_any n g cap (gEdges n st tl wt i ++ [(m1, m2, m3)]) _ (by rw [hl8]; exact hcap.1) hn (by have := ERow.of_owns HPW.out.own; rw [hl8]; exact this) (edge_words HWB.out hm3 i) (by omega))
      rw [hl8] at HBU
      clear hl8 HPW z0 zf y0 y1 hcap e0 e1 e2 g2 g3 q1 q1a HOWN hRn hRs HMR HRW
      generalize (w2.setCell ⟨R, 1, none⟩ (.slice (some ⟨g, 0, none⟩) (i + 1) cap)) = w8 at HM8 HA8 HBU ⊢
      refine HBU.out.mono ?_
      intro e w9 hbu
      obtain ⟨N9, f9, p9, oa, ob, oc, la, ca9, lb, cb9, lc, cc9, rfl, hb9, hbf⟩ := BuildPost.one hbu
      have HM9 := hide (HM8.out.below hb9)
      have HA9 : Hid (ArrU w9 G L) := (hb9.block _ (lt_of_heap HA8.out)).trans HA8.out
      have HBF := hide hbf
      clear hb9 hbf hbu HBU HM8 HA8
      go_upto_if 104 with fail
      have hb10 := below_alloc (Below.refl w9.heap.size w9) (.cells #[.int .i64 N9, .slice oa la ca9, .slice ob lb cb9, .slice oc lc cc9] 32)
      have HM10 := hide (HM9.out.below hb10)
      have HA10 : Hid (ArrU _ G L) := (hb10.block _ (lt_of_heap HA9.out)).trans HA9.out
      have HX10 := hide (heap_new w9 (.cells #[.int .i64 N9, .slice oa la ca9, .slice ob lb cb9, .slice oc lc cc9] 32))
      have HBF10 : Hid (f9 = 0 → N9 = n ∧ Takes n (gEdges n st tl wt i ++ [(m1, m2, m3)]) ∧ ∃ st' to' wt' nx, GIs (w9.alloc (.cells #[.int .i64 N9, .slice oa la ca9, .slice ob lb cb9, .slice oc lc cc9] 32)) n (.slice oa la ca9) (.slice ob lb cb9) (.slice oc lc cc9) st' to' wt' ∧ Summed n (gEdges n st tl wt i ++ [(m1, m2, m3)]).length (eFrom (gEdges n st tl wt i ++ [(m1, m2, m3)])) n st' ∧ Laying n (gEdges n st tl wt i ++ [(m1, m2, m3)]).length (eFrom (gEdges n st tl wt i ++ [(m1, m2, m3)])) (eTo (gEdges n st tl wt i ++ [(m1, m2, m3)])) (eWt (gEdges n st tl wt i ++ [(m1, m2, m3)])) (gEdges n st tl wt i ++ [(m1, m2, m3)]).length nx to' wt') := by
        intro hf
        obtain ⟨h1, h2, st', to', wt', nx, h3, h4, h5⟩ := HBF.out hf
        exact ⟨h1, h2, st', to', wt', nx, h3.below hb10, h4, h5⟩
      clear HM9 HA9 HBF hb10
      generalize hB9 : w9.heap.size = B at HX10 ⊢
      generalize (w9.alloc (.cells #[.int .i64 N9, .slice oa la ca9, .slice ob lb cb9, .slice oc lc cc9] 32)) = w10 at HM10 HA10 HX10 HBF10 ⊢
      clear hB9 w9
      go_cut [21, 22] from 97 to 120 (fun s t wx => Below w10.heap.size w10 wx)
      case first =>
        by_cases hf : f9 = 0
        · obtain ⟨hN, ht, st', tl', wt', nx, hgi, hsu, hla⟩ := HBF10.out hf
          subst hN
          have hfb : (f9 == 0) = true := by simp [hf]
          obtain ⟨hwid, hgood⟩ := wider_edge (S := S) HD.out (gEdges n st tl wt i ++ [(m1, m2, m3)]) (by rw [HIM.out]) ht hsu hla
          have HWID := hide hwid
          have HWL := hide (lay_words hla)
          have HSN := hide (fun v W h h2 => rsearch_good n (.slice oa la ca9) (.slice ob lb cb9) (.slice oc lc cc9) st' tl' wt' k v S W h hgood HWL.out h2 HOK.out hS2 (srch_of hgood (srch_kind HNO.out).1 (srch_kind HNO.out).2))
          have HGI := hide hgi
          have x0 := cell_of HX10.out (i := 0) rfl
          have x1 := cell_of HX10.out (i := 1) rfl
          have x2 := cell_of HX10.out (i := 2) rfl
          have x3 := cell_of HX10.out (i := 3) rfl
          have hBw : B < w10.heap.size := lt_of_heap HX10.out
          have HKE := hide (fun W (h : Below w10.heap.size w10 W) => box_keep hBw h ⟨x0, x1, x2, x3⟩)
          have HS10 := hide (HS.out.below HM10.out.bel)
          unfold gAgg at HSN
          clear hf ht hsu hla hgi hwid hgood
          go_wp2_with fail
          refine wp_region_noPanic ?_
          go_region_held3 (fun x => x.cell? ⟨B, 0, none⟩ = some (.int .i64 n) ∧ x.cell? ⟨B, 1, none⟩ = some (.slice oa la ca9) ∧ x.cell? ⟨B, 2, none⟩ = some (.slice ob lb cb9) ∧ x.cell? ⟨B, 3, none⟩ = some (.slice oc lc cc9))
            (first | go_keep | exact HKE.out _ HBS.out | exact HKE.out _ HBM.out)
            (first
              | (go_at_call 34; refine (startsC_any _ S _ (HS10.out.below (below_drew (Below.refl _ _))) hS2).mono ?_; rintro e wS ⟨g21, p21, rfl, hdr, hsa, hbS⟩; have HSS := hide hsa; have HBS : Hid (Below w10.heap.size w10 wS) := (below_on (below_drew (Below.refl _ _)) hbS); clear hsa hbS hdr)
              | (go_at_call 33; refine (HSN.out _ _ (HGI.out.below HBS.out) HSS.out).mono ?_; rintro e wM ⟨GM, M, rfl, hGM, hAM, hFM, hbM⟩; have HAM := hide hAM; have HFM := hide hFM; have HBM : Hid (Below w10.heap.size w10 wM) := (below_on HBS.out hbM); clear hAM hFM hbM hGM))
          all_goals
            refine NoPanic.normal ?_
            go_wp2_with fail
            refine (below_any n GM G M L wM HAM.out ((HBM.out.block _ (lt_of_heap HA10.out)).trans HA10.out) HFM.out.len HFD.out.len hn (fun v hv => Found.below HWID.out HFD.out HFM.out HWL.out (sok_words HOK.out) hv)).mono ?_
            rintro e wB ⟨rfl, hbB⟩
            have HBB := hide (below_on HBM.out hbB)
            clear hbB
            go_wp2_with fail
            go_meet
            case rel => exact HBB.out
        · have hfb : (f9 == 0) = false := by simp [hf]
          go_wp2_with fail
          go_meet
          case rel => exact Below.refl _ _
      case rest =>
        have HM11 := hide (HM10.out.below hcut)
        have HA11 : Hid (ArrU wc G L) := (hcut.block _ (lt_of_heap HA10.out)).trans HA10.out
        clear hcut HM10 HA10 HX10 HBF10
        clear w10
        have a0 : wc.cell? ⟨w.heap.size + 1 + 1, 0, none⟩ = some (.int .i64 a1) := cell_of HM11.out.ba (i := 0) rfl
        have a1' : wc.cell? ⟨w.heap.size + 1 + 1, 1, none⟩ = some (.int .u64 a2) := cell_of HM11.out.ba (i := 1) rfl
        have HS11 := hide (HS.out.below HM11.out.bel)
        have hlt11 := HM11.out.lt
        have HW11 : Hid (∀ W, Below wc.heap.size wc W → W.cell? ⟨w.heap.size + 1 + 1, 0, none⟩ = some (.int .i64 a1) ∧ W.cell? ⟨w.heap.size + 1 + 1, 1, none⟩ = some (.int .u64 a2)) := fun W h => ⟨(below_cell h (by omega)).trans a0, (below_cell h (by omega)).trans a1'⟩
        go_wp2_with fail
        go_cut [23] from 121 to 126 (fun s wx => ∃ g c, s = .slice (some ⟨g, 0, none⟩) (S.length + 1) c ∧ wx.ownsRow wc.heap.size 41 2 (.slice (some ⟨g, 0, none⟩) (S.length + 1) c) (S.length + 1) (sCells (S ++ [(a1, a2)])) ∧ Below wc.heap.size wc wx)
        case first =>
          refine wp_region_noPanic ?_
          go_region_held3 (fun x => x.cell? ⟨w.heap.size + 1 + 1, 0, none⟩ = some (.int .i64 a1) ∧ x.cell? ⟨w.heap.size + 1 + 1, 1, none⟩ = some (.int .u64 a2))
            (first | go_keep | exact HW11.out _ HBX.out | exact HW11.out _ HBE.out)
            (first
              | (refine step_freshS (by rfl) _ _ _ (by rfl) 41 i1 (.agg #[.int .i64 0, .int .u64 0]) Try.underlying33 hj hy0 hy1 hy2 rfl _ wc.heap.size (by first | exact fresh_a _ | exact fresh_b _ _ | exact fresh_c _ _) (by first | (simp; done) | (simp; omega)) _ S (by rfl) (by rfl) (by first | exact HS11.out.below (below_alloc (below_drew (Below.refl _ _)) _) | exact HS11.out.below (below_alloc (below_alloc (below_drew (Below.refl _ _)) _) _)) (by omega) (by unfold maxLen; omega) ?_; intro v1 wX hown1 hbel1; have HBX : Hid (Below wc.heap.size wc wX) := (by first | exact below_on (below_alloc (below_drew (Below.refl _ _)) _) hbel1 | exact below_on (below_alloc (below_alloc (below_drew (Below.refl _ _)) _) _) hbel1); have HOX := hide hown1; have HBL := hide hbel1; have hszX := HBX.out.size; clear hown1 hbel1)
              | (refine step_append_lies _ (by rfl) _ _ _ (by rfl) wc.heap.size 41 i1 (.agg #[.int .i64 0, .int .u64 0]) 2 16 Try.underlying33 hj hy0 hy1 hy2 rfl (by omega) v1 S.length (sCells S) (by rfl) HOX.out ⟨wc.heap.size + 1, 0, none⟩ 1 1 [.int .i64 a1, .int .u64 a2] (by rfl) (by rfl) (news_b HBL.out) (by simp [Value.oneCell']) (by omega) (by unfold maxLen; omega) (by omega) (by first | omega | (simp; omega)) _ (by rfl) ?_; intro g cap wE hown hgrow hat hlt2; have HBE := hide (grow_below HBX.out HOX.out hgrow); have HOE := hide hown; clear hown hgrow hat hlt2)
              | (refine step_append_lies _ (by rfl) _ _ _ (by rfl) wc.heap.size 41 i1 (.agg #[.int .i64 0, .int .u64 0]) 2 16 Try.underlying33 hj hy0 hy1 hy2 rfl (by omega) v1 S.length (sCells S) (by rfl) HOX.out ⟨wc.heap.size, 0, none⟩ 1 1 [.int .i64 a1, .int .u64 a2] (by rfl) (by rfl) (news_c HBL.out) (by simp [Value.oneCell']) (by omega) (by unfold maxLen; omega) (by omega) (by first | omega | (simp; omega)) _ (by rfl) ?_; intro g cap wE hown hgrow hat hlt2; have HBE := hide (grow_below HBX.out HOX.out hgrow); have HOE := hide hown; clear hown hgrow hat hlt2)
              | (refine step_append_lies _ (by rfl) _ _ _ (by rfl) wc.heap.size 41 i1 (.agg #[.int .i64 0, .int .u64 0]) 2 16 Try.underlying33 hj hy0 hy1 hy2 rfl (by omega) v1 S.length (sCells S) (by rfl) (HOX.out.alloc _) ⟨wX.heap.size, 0, none⟩ 1 1 [.int .i64 a1, .int .u64 a2] (by rfl) (by rfl) (two_at wX _ _ _) (by simp [Value.oneCell']) (by omega) (by unfold maxLen; omega) (by omega) (by first | omega | (simp; omega)) _ (by rfl) ?_; intro g cap wE hown hgrow hat hlt2; have HBE := hide (grow_below (below_alloc HBX.out _) HOX.out hgrow); have HOE := hide hown; clear hown hgrow hat hlt2))
          all_goals
            refine NoPanic.normal ?_
            go_wp2_with fail
            go_meet
            case rel => exact ⟨g, cap, rfl, by rw [sCells_snoc]; exact HOE.out, HBE.out⟩
        case rest =>
          obtain ⟨g5, c5, rfl, hO5, hb5⟩ := hcut
          have HM12 := hide (HM11.out.below hb5)
          have HA12 : Hid (ArrU _ G L) := (hb5.block _ (lt_of_heap HA11.out)).trans HA11.out
          have hl5 : (S ++ [(a1, a2)]).length = S.length + 1 := by rw [List.length_append]; rfl
          have HSA := hide (sat_own hO5 hl5)
          obtain ⟨B5, hB5, HO⟩ : ∃ B5, w.heap.size + 3 ≤ B5 ∧ Hid (World.ownsRow _ B5 41 2 (.slice (some ⟨g5, 0, none⟩) (S.length + 1) c5) (S.length + 1) (sCells (S ++ [(a1, a2)]))) := ⟨_, hlt11, hide hO5⟩
          have HN5 := hide (snoc_words (v := a1) (x := a2) (fun j hj => (HOK.out j hj).2.1) ha2)
          obtain ⟨S2, hS2d⟩ : ∃ S2, S2 = S ++ [(a1, a2)] := ⟨_, rfl⟩
          rw [← hS2d] at HSA HO HN5 hl5
          have hS2b : S2.length * 16 ≤ 140737488353280 := by omega
          have hSl : S.length * 16 ≤ 140737488351232 := by omega
          have HS2D := hide hS2d
          have HL5 := hide hl5
          clear hO5 hb5 HM11 HA11 a0 a1' HS11 hlt11 HW11 hS2d hl5
          have c0 := cell_of HM12.out.bg (i := 0) rfl
          have c1 := cell_of HM12.out.bg (i := 1) rfl
          have c2 := cell_of HM12.out.bg (i := 2) rfl
          have c3 := cell_of HM12.out.bg (i := 3) rfl
          have HF2 := hide (fits_law n _ _ _ st tl wt k _ S2 _ (HG.out.below HM12.out.bel) hst hto hwt HSA.out HN5.out hS2b)
          unfold gAgg at HF2
          by_cases hno2 : srchNo n st tl wt k S2 = 0
          · rw [decide_eq_true hno2] at HF2
            have HNO2 := hide hno2
            clear hno2
            go_wp2_with fail
            refine HF2.out.mono ?_
            rintro e w13 ⟨rfl, hb13⟩
            have HM13 := hide (HM12.out.below hb13)
            have HA13 : Hid (ArrU w13 G L) := (hb13.block _ (lt_of_heap HA12.out)).trans HA12.out
            have HSA13 := hide (HSA.out.below hb13)
            have HO13 : Hid (w13.ownsRow B5 41 2 (.slice (some ⟨g5, 0, none⟩) (S.length + 1) c5) (S.length + 1) (sCells S2)) := own_chg HO.out (Chg.of_below (S := fun _ => False) hb13) (fun _ _ h => h)
            have d0 := cell_of HM13.out.bg (i := 0) rfl
            have d1 := cell_of HM13.out.bg (i := 1) rfl
            have d2 := cell_of HM13.out.bg (i := 2) rfl
            have d3 := cell_of HM13.out.bg (i := 3) rfl
            clear c0 c1 c2 c3 HM12 HA12 HO HSA hb13 HF2
            go_wp2_with fail
            have HTW := hide (twin_any n _ _ _ st tl wt w13 (HG.out.below HM13.out.bel) hst hto hwt)
            unfold gAgg at HTW
            refine HTW.out.mono ?_
            rintro e w14 ⟨g1', p1', g2', p2', g3', p3', rfl, ht, hb14⟩
            have HM14 := hide (HM13.out.below hb14)
            have HA14 : Hid (ArrU w14 G L) := (hb14.block _ (lt_of_heap HA13.out)).trans HA13.out
            have HSA14 := hide (HSA13.out.below hb14)
            have HO14 : Hid (w14.ownsRow B5 41 2 (.slice (some ⟨g5, 0, none⟩) (S.length + 1) c5) (S.length + 1) (sCells S2)) := own_chg HO13.out (Chg.of_below (S := fun _ => False) hb14) (fun _ _ h => h)
            have HT14 := hide ht
            have HOK2 := hide (sok_of (srch_kind HNO2.out).2 HN5.out)
            have HSE2 := hide (fun a b c v W h h2 => rsearch_good n a b c st tl wt k v S2 W h HD.out HWB.out h2 HOK2.out hS2b HNO2.out)
            unfold gAgg at HSE2
            clear d0 d1 d2 d3 HM13 HA13 HO13 HSA13 hb14 HTW ht
            unfold tAgg gAgg
            go_wp2_with fail
            refine (HSE2.out _ _ _ _ w14 HT14.out.gis HSA14.out).mono ?_
            rintro e w15 ⟨GM, M, rfl, hGM, hAM, hFM, hb15⟩
            have HM15 := hide (HM14.out.below hb15)
            have HA15 : Hid (ArrU w15 G L) := (hb15.block _ (lt_of_heap HA14.out)).trans HA14.out
            have HO15 : Hid (w15.ownsRow B5 41 2 (.slice (some ⟨g5, 0, none⟩) (S.length + 1) c5) (S.length + 1) (sCells S2)) := own_chg HO14.out (Chg.of_below (S := fun _ => False) hb15) (fun _ _ h => h)
            have HAM := hide hAM; have HFM := hide hFM
            clear HM14 HA14 HO14 HSA14 hb15 hAM hFM hGM HT14 HSE2
            go_wp2_with fail
            refine (below_any n GM G M L w15 HAM.out HA15.out HFM.out.len HFD.out.len hn (fun v hv => Found.below (by rw [HS2D.out]; exact wider_start _) HFD.out HFM.out HWB.out (sok_words HOK2.out) hv)).mono ?_
            rintro e w16 ⟨rfl, hb16⟩
            have HM16 := hide (HM15.out.below hb16)
            have HO16 : Hid (w16.ownsRow B5 41 2 (.slice (some ⟨g5, 0, none⟩) (S.length + 1) c5) (S.length + 1) (sCells S2)) := own_chg HO15.out (Chg.of_below (S := fun _ => False) hb16) (fun _ _ h => h)
            have HAM16 : Hid (ArrU w16 GM M) := (hb16.block _ (lt_of_heap HAM.out)).trans HAM.out
            clear HM15 HA15 HO15 hb16 HAM
            have hva : 0 ≤ a1 ∧ a1 < n := by
              have := (HOK2.out S.length (by rw [HL5.out]; omega)).1
              rw [HS2D.out, sAt_end] at this
              exact this
            obtain ⟨a, rfl⟩ : ∃ a : Nat, a1 = a := ⟨a1.toNat, by omega⟩
            have han : a < n := by omega
            have hMl := HFM.out.len
            have v0 : w16.cell? ⟨w.heap.size + 1 + 1, 0, none⟩ = some (.int .i64 a) := cell_of HM16.out.ba (i := 0) rfl
            have v1 := HAM16.out.cell a (by omega)
            obtain ⟨x, hx⟩ : ∃ x, x = at_ M a := ⟨_, rfl⟩
            rw [← hx] at v1
            have HX := hide hx
            have hrng := HFM.out.rng a han
            rw [← hx] at hrng
            clear hx hMl hva
            by_cases hbig : 4611686018427387904 < x
            · go_wp2
              go_ret
              exact ⟨rfl, HM16.out.bel⟩
            · have HO5b := hide (own_at HO16.out)
              have hg5w : g5 < w16.heap.size := by obtain ⟨_, cur, fr, hh⟩ := HO5b.out; exact lt_of_heap hh
              have hB5w : B5 ≤ w16.heap.size := by have := HO5b.out.1; omega
              have hg5 : w.heap.size + 3 ≤ g5 := by have := HO5b.out.1; omega
              have hGMg : GM ≠ g5 := by obtain ⟨_, cur, fr, hh⟩ := HO5b.out; exact arru_ne HAM16.out hh
              have hGMw := lt_of_heap HAM16.out
              have sat3 : ∀ {W : World} {g c : Nat}, W.ownsRow B5 41 2 (.slice (some ⟨g, 0, none⟩) (S.length + 1 + 1) c) (S.length + 1 + 1) (sCells S2 ++ [.int .i64 a, .int .u64 x]) → SAt W (.slice (some ⟨g, 0, none⟩) (S.length + 1 + 1) c) (S2 ++ [((a : Int), x)]) := fun h => sat_own (by rw [sCells_snoc]; exact h) (by rw [List.length_append, HL5.out]; rfl)
              have hno3 : srchNo n st tl wt k (S2 ++ [((a : Int), x)]) = 0 := srch_of HD.out (srch_kind HNO2.out).1 (st_snoc (srch_kind HNO2.out).2 ⟨by omega, by omega⟩ (by omega))
              have hS3b : (S2 ++ [((a : Int), x)]).length * 16 ≤ 140737488353280 := by rw [List.length_append, HL5.out]; simp; omega
              have HSE3 := hide (fun a' b c v W h h2 => rsearch_good n a' b c st tl wt k v (S2 ++ [((a : Int), x)]) W h HD.out HWB.out h2 (sok_of (srch_kind hno3).2 (snoc_words HN5.out hrng.1)) hS3b hno3)
              unfold gAgg at HSE3
              have HTW := hide (fun W h => twin_new n (.slice ao st.length ca) (.slice bo tl.length cb) (.slice co wt.length cc) st tl wt W h hst hto hwt)
              unfold tAgg gAgg at HTW
              have c0 := cell_of HM16.out.bg (i := 0) rfl
              have c1 := cell_of HM16.out.bg (i := 1) rfl
              have c2 := cell_of HM16.out.bg (i := 2) rfl
              have c3 := cell_of HM16.out.bg (i := 3) rfl
              have HKE : Hid (∀ W, Chg (fun k => k = g5) w16 W → (W.cell? ⟨w.heap.size, 0, none⟩ = some (.int .i64 n) ∧ W.cell? ⟨w.heap.size, 1, none⟩ = some (.slice ao st.length ca) ∧ W.cell? ⟨w.heap.size, 2, none⟩ = some (.slice bo tl.length cb) ∧ W.cell? ⟨w.heap.size, 3, none⟩ = some (.slice co wt.length cc)) ∧ W.cell? ⟨w.heap.size + 1 + 1, 0, none⟩ = some (.int .i64 a) ∧ W.cell? ⟨GM, a, none⟩ = some (.int .u64 x)) := fun W h => ⟨⟨chg_cell h c0 (by show w.heap.size ≠ g5; omega), chg_cell h c1 (by show w.heap.size ≠ g5; omega), chg_cell h c2 (by show w.heap.size ≠ g5; omega), chg_cell h c3 (by show w.heap.size ≠ g5; omega)⟩, chg_cell h v0 (by show w.heap.size + 1 + 1 ≠ g5; omega), chg_cell h v1 hGMg⟩
              have HGB : Hid (∀ W, Chg (fun k => k = g5) w16 W → GIs W n (.slice ao st.length ca) (.slice bo tl.length cb) (.slice co wt.length cc) st tl wt) := fun W h => HG.out.below (below_of_chg HM16.out.bel h (fun k hk => by omega))
              have HAMC : Hid (∀ W, Chg (fun k => k = g5) w16 W → ArrU W GM M) := fun W h => h.heap HAM16.out hGMg
              have HEQ : Hid (∀ L3, Found n st tl wt k (S2 ++ [((a : Int), x)]) L3 → L3 = M) := fun L3 h => by
                rw [HX.out] at h
                exact HFM.out.again han h HWB.out (sok_words HOK2.out)
              have HEND : Hid (∀ W, Chg (fun k => k = g5) w16 W → Below w.heap.size w W) := fun W h => below_of_chg HM16.out.bel h (fun k hk => by omega)
              clear hno3 hS3b
              go_wp2_with fail
              refine wp_region_noPanic ?_
              go_region_held3 (fun x' => (x'.cell? ⟨w.heap.size, 0, none⟩ = some (.int .i64 n) ∧ x'.cell? ⟨w.heap.size, 1, none⟩ = some (.slice ao st.length ca) ∧ x'.cell? ⟨w.heap.size, 2, none⟩ = some (.slice bo tl.length cb) ∧ x'.cell? ⟨w.heap.size, 3, none⟩ = some (.slice co wt.length cc)) ∧ x'.cell? ⟨w.heap.size + 1 + 1, 0, none⟩ = some (.int .i64 a) ∧ x'.cell? ⟨GM, a, none⟩ = some (.int .u64 x))
                (first | go_keep | exact HKE.out _ HCF.out | exact HKE.out _ HCT.out | exact HKE.out _ HCE.out | exact HKE.out _ (Chg.of_below HBT.out))
                (first
                  | (go_at_call 22; have hq0 := HCE.out; clear hq0; refine (HTW.out _ (HGB.out _ HCE.out)).mono ?_; rintro e wT ⟨g11, p11, g12, p12, g13, p13, rfl, hT, hbT, hl1, hl2, hl3⟩; have HTE := hide hT; have HSE := hide (HSE0.out.below hbT); have HCT := hide (HCE.out.trans (Chg.of_below hbT)); clear hT hbT hl1 hl2 hl3)
                  | (go_at_call 22; refine (HTW.out _ (HGB.out _ (by first | exact (Chg.refl _ w16).drew | exact ((Chg.refl _ w16).drew).alloc _))).mono ?_; rintro e wT ⟨g11, p11, g12, p12, g13, p13, rfl, hT, hbT, hl1, hl2, hl3⟩; have HT := hide hT; have HbT := hide hbT; have HBT : Hid (Below w16.heap.size w16 wT) := (by first | exact below_on (below_drew (Below.refl _ _)) hbT | exact below_on (below_alloc (below_drew (Below.refl _ _)) _) hbT); have HL11 : Hid (w16.heap.size ≤ g11) := (by first | exact hl1 | (simp at hl1; show w16.heap.size ≤ g11; omega)); have HL12 : Hid (w16.heap.size ≤ g12) := (by first | exact hl2 | (simp at hl2; show w16.heap.size ≤ g12; omega)); have HL13 : Hid (w16.heap.size ≤ g13) := (by first | exact hl3 | (simp at hl3; show w16.heap.size ≤ g13; omega)); have hszT := HBT.out.size; clear hT hbT hl1 hl2 hl3)
                  | (refine step_append_lies _ (by rfl) _ _ _ (by rfl) B5 41 i1 (.agg #[.int .i64 0, .int .u64 0]) 2 16 Try.underlying33 hj hy0 hy1 hy2 rfl (by omega) (.slice (some ⟨g5, 0, none⟩) (S.length + 1) c5) (S.length + 1) (sCells S2) (by rfl) ((own_chg HO16.out (Chg.of_below (S := fun _ => False) HBT.out) (fun _ _ h => h)).alloc _) ⟨wT.heap.size, 0, none⟩ 1 1 [.int .i64 a, .int .u64 x] (by rfl) (by rfl) (two_at wT _ _ _) (by simp [Value.oneCell']) (by omega) (by unfold maxLen; omega) (by omega) (by first | omega | (simp; omega)) _ (by rfl) ?_; intro g6 cap6 wE hown hgrow hat hlt6; have HSE0 := hide (sat3 hown); have HCE := hide (grow_one (below_alloc HBT.out _) hgrow); have HTE := hide (HT.out.chg (((Chg.refl _ wT).alloc _).trans (grow_two hgrow)) (by have := HL11.out; omega) (by have := HL12.out; omega) (by have := HL13.out; omega)); have HSE := hide HSE0.out; clear hown hgrow hat hlt6)
                  | (refine step_append_lies _ (by rfl) _ _ _ (by rfl) B5 41 i1 (.agg #[.int .i64 0, .int .u64 0]) 2 16 Try.underlying33 hj hy0 hy1 hy2 rfl (by omega) (.slice (some ⟨g5, 0, none⟩) (S.length + 1) c5) (S.length + 1) (sCells S2) (by rfl) (own_chg HO16.out (Chg.of_below (S := fun _ => False) HBT.out) (fun _ _ h => h)) ⟨w16.heap.size, 0, none⟩ 1 1 [.int .i64 a, .int .u64 x] (by rfl) (by rfl) (news_d HbT.out) (by simp [Value.oneCell']) (by omega) (by unfold maxLen; omega) (by omega) (by first | omega | (simp; omega)) _ (by rfl) ?_; intro g6 cap6 wE hown hgrow hat hlt6; have HSE0 := hide (sat3 hown); have HCE := hide (grow_one HBT.out hgrow); have HTE := hide (HT.out.chg (grow_two hgrow) (by have := HL11.out; omega) (by have := HL12.out; omega) (by have := HL13.out; omega)); have HSE := hide HSE0.out; clear hown hgrow hat hlt6)
                  | (refine step_append_lies _ (by rfl) _ _ _ (by rfl) B5 41 i1 (.agg #[.int .i64 0, .int .u64 0]) 2 16 Try.underlying33 hj hy0 hy1 hy2 rfl (by omega) (.slice (some ⟨g5, 0, none⟩) (S.length + 1) c5) (S.length + 1) (sCells S2) (by rfl) (own_chg HO16.out (((Chg.refl (fun _ => False) w16).drew).alloc _) (fun _ _ h => h)) ⟨w16.heap.size, 0, none⟩ 1 1 [.int .i64 a, .int .u64 x] (by rfl) (by rfl) (news_e w16 _ _ _) (by simp [Value.oneCell']) (by omega) (by unfold maxLen; omega) (by omega) (by first | omega | (simp; omega)) _ (by rfl) ?_; intro g6 cap6 wE hown hgrow hat hlt6; have HSE0 := hide (sat3 hown); have HCE := hide (grow_one (below_alloc (below_drew (Below.refl _ _)) _) hgrow); clear hown hgrow hat hlt6)
                  | (go_at_call 33; refine (HSE3.out _ _ _ _ _ HTE.out.gis HSE.out).mono ?_; rintro e wF ⟨G3, L3, rfl, hG3, hA3, hF3, hbF⟩; have HCF : Hid (Chg (fun k => k = g5) w16 wF) := (by first | exact HCT.out.trans (Chg.of_below hbF) | exact HCE.out.trans (Chg.of_below hbF)); have HA3 : Hid (ArrU wF G3 M) := (by rw [← HEQ.out L3 hF3]; exact hA3); clear hA3 hF3 hbF hG3))
              all_goals
                refine NoPanic.normal ?_
                go_wp2_with fail
                refine (sameU_any _ _ M wF (HA3.out.row HFM.out.len (by omega)) ((HAMC.out _ HCF.out).row HFM.out.len (by omega))).mono ?_
                rintro e wZ ⟨rfl, hbZ⟩
                have HBZ := hide (HCF.out.trans (Chg.of_below hbZ))
                clear hbZ
                go_wp2
                go_ret
                exact ⟨rfl, HEND.out _ HBZ.out⟩
          · rw [decide_eq_false hno2] at HF2
            clear hno2
            go_wp2_with fail
            refine HF2.out.mono ?_
            rintro e w13 ⟨rfl, hb13⟩
            have HM13 := hide (HM12.out.below hb13)
            clear c0 c1 c2 c3 HM12 HA12 HO HSA hb13 HF2
            go_wp2
            go_ret
            exact ⟨rfl, HM13.out.bel⟩
end Go.Proofs.Ythoklgdlnmccmaa
