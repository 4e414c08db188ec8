/- live: it is true. -/
import Derived.Test.YtmagigmcbegmiaaGL
namespace Go.Proofs.Ytmagigmcbegmiaa
open Go.RowKit Go.Lib
set_option linter.unusedVariables false
set_option linter.unusedSimpArgs false
theorem four_ints (w : World) (B : Nat) (hB : B = w.heap.size) (a b c d : Int) : RowAt .i64 (w.alloc (.cells #[.int .i64 a, .int .i64 b, .int .i64 c, .int .i64 d] 3)) (.slice (some ⟨B, 0, none⟩) 4 4) [a, b, c, d] := by
  subst hB
  exact block_row w _ [a, b, c, d] rfl (by simp) (heap_new _ _)
theorem one_ints (w : World) (B : Nat) (hB : B = w.heap.size) (a : Int) : RowAt .i64 (w.alloc (.cells #[.int .i64 a] 3)) (.slice (some ⟨B, 0, none⟩) 1 1) [a] := by
  subst hB
  exact block_row w _ [a] rfl (by simp) (heap_new _ _)
/-- live's memory behind Build: the graph's box. -/
structure LBm (w1 : World) (va vb vc : Value) (X : World) : Prop where
  bx : X.heap[w1.heap.size]? = some (.cells #[.int .i64 3, va, vb, vc] 25 (0, 0))
  bel : Below w1.heap.size w1 X
theorem LBm.below {w1 X Y : World} {va vb vc : Value} (h : LBm w1 va vb vc X) (hb : Below X.heap.size X Y) : LBm w1 va vb vc Y := ⟨(hb.block _ (lt_of_heap h.bx)).trans h.bx, below_on h.bel hb⟩
theorem LBm.start (w1 : World) (va vb vc : Value) : LBm w1 va vb vc (w1.alloc (.cells #[.int .i64 3, va, vb, vc] 25)) := ⟨heap_new _ _, below_alloc (Below.refl _ _) _⟩
theorem LBm.cells {w1 X : World} {va vb vc : Value} (h : LBm w1 va vb vc X) : X.cell? ⟨w1.heap.size, 0, none⟩ = some (.int .i64 3) ∧ X.cell? ⟨w1.heap.size, 1, none⟩ = some va ∧ X.cell? ⟨w1.heap.size, 2, none⟩ = some vb ∧ X.cell? ⟨w1.heap.size, 3, none⟩ = some vc :=
  ⟨cell_of h.bx (i := 0) rfl, cell_of h.bx (i := 1) rfl, cell_of h.bx (i := 2) rfl, cell_of h.bx (i := 3) rfl⟩
theorem RowAt.cellIs {k : IntKind} {X : World} {g o c n : Nat} {xs : List Int} (h : RowAt k X (.slice (some ⟨g, o, none⟩) n c) xs) (i : Nat) (hi : i < xs.length) : X.cell? ⟨g, o + i, none⟩ = some (.int k (at_ xs i)) := by
  obtain ⟨ao, c', e, _, _, _, h4⟩ := h
  simp only [Value.slice.injEq] at e
  obtain ⟨rfl, _, _⟩ := e
  have := h4 _ rfl i hi
  rw [Addr.add_lit] at this
  rw [this]
  simp [at_, List.getD]
set_option maxRecDepth 100000 in
set_option maxHeartbeats 8000000 in
theorem live_any (w : World) : Calls Try.prog 25 #[] w fun e w' => e = .returned (.bool true) ∧ Below w.heap.size w w' := by
  have HB := hide live_build
  have HR := hide live_reaches
  have HT := hide live_turns
  have HS := hide same_any
  have HE := hide (live_edges w)
  go_enter Try.func25, Try.ntmps25
  go_wp2_with (first
    | (go_at_call 30; refine (HB.out _ _ HE.out).mono ?_; rintro e w1 ⟨ao, ca, bo, cb, co, cc, rfl, hgi, hb1⟩; obtain ⟨gw, ow, cq, hco, hq1, hq2⟩ := (hgi w1 (Below.refl _ _)).u.spot (by simp); simp only [Value.slice.injEq] at hco; obtain ⟨rfl, hq3, rfl⟩ := hco; clear hq1 hq2 hq3; have HGI := hide hgi; have HB1 := hide (below_on (below_alloc (Below.refl _ _) _) hb1); have HL1 := hide (LBm.start w1 (.slice ao 4 ca) (.slice bo 4 cb) (.slice (some ⟨gw, ow, none⟩) 4 cc)); clear hgi hb1)
    | (go_at_call 20; refine (HS.out _ _ [0, 2, 2, 4] _ (HGI.out _ (HL1.out.below (below_alloc (Below.refl _ _) _)).bel).s (four_ints _ _ (by simp) 0 2 2 4)).mono ?_; rintro e w2 ⟨rfl, hb2⟩; have HL2 := hide ((HL1.out.below (below_alloc (Below.refl _ _) _)).below hb2); obtain ⟨x0, x1, x2, x3⟩ := HL2.out.cells; clear hb2 HL1)
    | (go_at_call 20; refine (HS.out _ _ [2, 1, 0, 2] _ (HGI.out _ (HL2.out.below (below_alloc (Below.refl _ _) _)).bel).t (four_ints _ _ (by simp) 2 1 0 2)).mono ?_; rintro e w3 ⟨rfl, hb3⟩; clear x0 x1 x2 x3; have HL3 := hide ((HL2.out.below (below_alloc (Below.refl _ _) _)).below hb3); obtain ⟨x0, x1, x2, x3⟩ := HL3.out.cells; have z1 : w3.cell? ⟨gw, ow + 1, none⟩ = some (.int .u64 7) := (HGI.out _ HL3.out.bel).u.cellIs 1 (by simp); clear hb3 HL2)
    | (go_at_call 18; refine (HR.out _ _ _ _ _ (HGI.out _ (HL3.out.below (below_alloc (Below.refl _ _) _)).bel) (one_ints _ _ (by simp) 2)).mono ?_; rintro e w4 ⟨R, rfl, hrc, hb4⟩; clear x0 x1 x2 x3 z1; have HL4 := hide ((HL3.out.below (below_alloc (Below.refl _ _) _)).below hb4); obtain ⟨x0, x1, x2, x3⟩ := HL4.out.cells; have HRC := hide hrc; clear hb4 HL3 hrc)
    | (go_at_call 33; refine (HT.out _ _ _ _ (HGI.out _ HL4.out.bel)).mono ?_; rintro e w5 ⟨ao5, la5, ca5, bo5, cb5, co5, lc5, cc5, rfl, hr5, hb5⟩; clear x0 x1 x2 x3; have HL5 := hide (HL4.out.below hb5); have HR5 := hide hr5; have HRD := hide (fun X (hX : Below w5.heap.size w5 X) => (⟨(below_cell (below_on hb5 hX) (block_of_cell HRC.out.1)).trans HRC.out.1, (below_cell (below_on hb5 hX) (block_of_cell HRC.out.2.1)).trans HRC.out.2.1, (below_cell (below_on hb5 hX) (block_of_cell HRC.out.2.2)).trans HRC.out.2.2⟩ : X.cell? ⟨R, 0, none⟩ = some (.bool true) ∧ X.cell? ⟨R, 1, none⟩ = some (.bool true) ∧ X.cell? ⟨R, 2, none⟩ = some (.bool true))); clear hb5 HL4 hr5 HRC; obtain ⟨y0, y1, y2⟩ := HRD.out _ (below_alloc (Below.refl _ _) (.cells #[.int .i64 3, .slice ao5 la5 ca5, .slice bo5 4 cb5, .slice co5 lc5 cc5] 25)))
    | (go_at_call 20; refine (HS.out _ _ [2, 0, 0, 2] _ (HR5.out.below (below_alloc (below_alloc (Below.refl _ _) _) _)) (four_ints _ _ (by simp) 2 0 0 2)).mono ?_; rintro e w6 ⟨rfl, hb6⟩; have HF := hide (below_on (below_on HB1.out HL5.out.bel) (below_on (below_alloc (below_alloc (Below.refl _ _) _) _) hb6)); clear hb6 HL5)
    | fail)
  go_ret
  exact ⟨rfl, HF.out⟩
end Go.Proofs.Ytmagigmcbegmiaa
