/- RouteStarts: the walk. -/
import Derived.Test.YtpfalalmfoiloaaRefStarts
import Derived.Test.YtpfalalmfoiloaaTwinKept
import Derived.Test.YtpfalalmfoiloaaOpen
namespace Go.Proofs.Ytpfalalmfoiloaa
open Go.RowKit Go.Lib
set_option linter.unusedVariables false

theorem field_int {d : Nat} {f : Field} {fs : List Field} {l m : Array Value} {k : IntKind} {x y : Int} {r : Bool} {w : World} (hn : f.name ≠ "_") (hu : Try.prog.underlying f.type = some (.int k))
    (hl : (part f.type l f.offset).run Try.prog w = .ok (.int k x) w) (hm : (part f.type m f.offset).run Try.prog w = .ok (.int k y) w)
    (h : (Op.eqFields (d + 1) l m fs).run Try.prog w = .ok r w) : (Op.eqFields (d + 1) l m (f :: fs)).run Try.prog w = .ok (x == y && r) w := by
  simp only [Op.eqFields, if_pos hn, Sem.run_bind]
  rw [hl, Result.andThen_ok, hm, Result.andThen_ok, run_equalIn_int w d f.type k k x y hu, Result.andThen_ok]
  cases hxy : (x == y)
  · simp
  · simpa using h
theorem part3 (l : Array Value) (i : Nat) (x : Value) (w : World) (h : l[i]? = some x) : (part 3 l i).run Try.prog w = .ok x w := by
  simp [part, Try.sizeOf3, Try.isAgg3, h]
theorem part22 (l : Array Value) (i : Nat) (x : Value) (w : World) (h : l[i]? = some x) : (part 22 l i).run Try.prog w = .ok x w := by
  simp [part, Try.sizeOf22, Try.isAgg22, h]
theorem Try.fields41 : Try.prog.underlying 41 = some (.struct (Try.prog.fieldsOf 41)) := by kernel_rfl
theorem Try.held41 : Try.prog.stoodInHeld 41 = false := by kernel_rfl
theorem Try.list41 : (Try.prog.fieldsOf 41).toList = [{ name := "Vertex", type := 3, offset := 0, embedded := false, tag := "", pkgPath := "", byteOffset := 0 }, { name := "Label", type := 22, offset := 1, embedded := false, tag := "", pkgPath := "", byteOffset := 8 }] := by kernel_rfl
theorem neq_start (a0 a1 b0 b1 : Int) (w : World) :
    (binOp .neq 41 (.agg #[.int .i64 a0, .int .u64 a1]) (.agg #[.int .i64 b0, .int .u64 b1])).run Try.prog w = .ok (.bool (!(a0 == b0 && (a1 == b1 && true)))) w := by
  have h : (Op.equalIn 10000 41 (.agg #[.int .i64 a0, .int .u64 a1]) (.agg #[.int .i64 b0, .int .u64 b1])).run Try.prog w = .ok (a0 == b0 && (a1 == b1 && true)) w := by
    rw [show (10000 : Nat) = 9998 + 1 + 1 from rfl, run_equalIn_struct w (9998 + 1) 41 _ _ Try.fields41 Try.held41, Try.list41]
    refine field_int (by decide) Try.underlying3 (part3 _ _ _ _ rfl) (part3 _ _ _ _ rfl) ?_
    refine field_int (by decide) Try.underlying22 (part22 _ _ _ _ rfl) (part22 _ _ _ _ rfl) ?_
    simp [Op.eqFields]
  rw [run_neq_struct, h, Result.andThen_ok]

/-- What Starts answers, of whatever it is given. -/
def stAns (N : Int) (st to wt : List Int) (k f : Int) : List (Int × Int) × Int :=
  if fstNo N st to wt k = 0 then (if 0 ≤ f ∧ f < N then (startsL k N.toNat f, 0) else ([], 30)) else ([], fstNo N st to wt k)
theorem starts_any (N : Int) (va vb vc : Value) (st to wt : List Int) (k f : Int) (w : World) (hg : GIs w N va vb vc st to wt) (hst : st.length ≤ 17592186044416) (hto : to.length ≤ 17592186044416) (hwt : wt.length ≤ 17592186044416) :
    Calls Try.prog 18 #[gAgg N va vb vc, .int .i64 k, .int .i64 f] w (StPost w (stAns N st to wt k f).1 (stAns N st to wt k f).2) := by
  unfold stAns
  by_cases h : fstNo N st to wt k = 0
  · rw [if_pos h]
    by_cases hf : 0 ≤ f ∧ f < N
    · rw [if_pos hf]
      obtain ⟨_, n, rfl, hgd⟩ := fst_good h
      exact starts_in n va vb vc st to wt k f w hg hst hto hwt h hgd.n_le hf
    · rw [if_neg hf]
      exact starts_out N va vb vc st to wt k f w hg hst hto hwt h hf
  · rw [if_neg h]
    exact starts_bad N va vb vc st to wt k f w hg hst hto hwt h
theorem refStarts_any (N : Int) (va vb vc : Value) (st to wt : List Int) (k f : Int) (w : World) (hg : GIs w N va vb vc st to wt) (hst : st.length ≤ 17592186044416) (hto : to.length ≤ 17592186044416) (hwt : wt.length ≤ 17592186044416) :
    Calls Try.prog 16 #[gAgg N va vb vc, .int .i64 k, .int .i64 f] w (StPost w (stAns N st to wt k f).1 (stAns N st to wt k f).2) := by
  unfold stAns
  by_cases h : fstNo N st to wt k = 0
  · rw [if_pos h]
    by_cases hf : 0 ≤ f ∧ f < N
    · rw [if_pos hf]
      obtain ⟨_, n, rfl, hgd⟩ := fst_good h
      exact refStarts_in n va vb vc st to wt k f w hg hst hto hwt h hgd.n_le hf
    · rw [if_neg hf]
      exact refStarts_out N va vb vc st to wt k f w hg hst hto hwt h hf
  · rw [if_neg h]
    exact refStarts_bad N va vb vc st to wt k f w hg hst hto hwt h

theorem SRow.shape {w : World} {v : Value} {l : List (Int × Int)} (h : SRow w v l) : ∃ ao c, v = .slice ao l.length c := by
  rcases h with ⟨rfl, rfl⟩ | ⟨g, c, rfl, _⟩
  · exact ⟨none, 0, rfl⟩
  · exact ⟨_, c, rfl⟩
theorem SRow.cellAt {w : World} {v : Value} {l : List (Int × Int)} (h : SRow w v l) (i : Nat) (hi : i < l.length) :
    ∃ g c, v = .slice (some ⟨g, 0, none⟩) l.length c ∧ l.length ≤ c ∧ c ≤ 9223372036854775807 ∧ w.cell? ⟨g, i * 2, none⟩ = some (.int .i64 (sAt l i).1) ∧ w.cell? ⟨g, i * 2 + 1, none⟩ = some (.int .u64 (sAt l i).2) := by
  rcases h with ⟨rfl, rfl⟩ | ⟨g, c, rfl, h1, h2, h3⟩
  · simp at hi
  · exact ⟨g, c, rfl, h1, h2, (h3 i hi).1, (h3 i hi).2⟩
theorem SRow.len {w : World} {v : Value} {l : List (Int × Int)} (h : SRow w v l) : l.length ≤ 9223372036854775807 := by
  rcases h with ⟨rfl, rfl⟩ | ⟨g, c, rfl, h1, h2, h3⟩
  · simp
  · omega

set_option maxRecDepth 100000 in
set_option maxHeartbeats 4000000 in
theorem starts_law (N : Int) (va vb vc : Value) (st to wt : List Int) (k f : Int) (w : World) (hg : GIs w N va vb vc st to wt) (hst : st.length * 8 ≤ 140737488351232) (hto : to.length * 8 ≤ 140737488351232) (hwt : wt.length * 8 ≤ 140737488351232) :
    Calls Try.prog 4 #[gAgg N va vb vc, .int .i64 k, .int .i64 f] w fun e w' => e = .returned (.bool true) ∧ Below w.heap.size w w' := by
  obtain ⟨ao, ca, rfl⟩ := hg.s.shape
  obtain ⟨bo, cb, rfl⟩ := hg.t.shape
  obtain ⟨co, cc, rfl⟩ := hg.u.shape
  have HG := hide hg
  clear hg
  obtain ⟨c0, c1, c2, c3, hb1, hs1⟩ := boxed w (.int .i64 N) (.slice ao st.length ca) (.slice bo to.length cb) (.slice co wt.length cc)
  have HR := hide (refStarts_any N _ _ _ st to wt k f _ (HG.out.below hb1) (by omega) (by omega) (by omega))
  have HST := hide (fun a b c W h => starts_any N a b c st to wt k f W h (by omega) (by omega) (by omega))
  have HG1 := hide (HG.out.below hb1)
  have HB1 := hide hb1
  obtain ⟨X, hX⟩ : ∃ X, X = stAns N st to wt k f := ⟨_, rfl⟩
  rw [← hX] at HR HST
  obtain ⟨L, x⟩ := X
  unfold gAgg at HR ⊢
  clear hb1 hX
  go_enter Try.func4, Try.ntmps4
  go_wp2_with fail
  generalize (w.alloc (.cells #[.int .i64 N, .slice ao st.length ca, .slice bo to.length cb, .slice co wt.length cc] 32)) = w1 at c0 c1 c2 c3 hs1 HB1 HR HG1 ⊢
  refine HR.out.mono ?_
  rintro e w2 ⟨v1, rfl, hr1, hb2⟩
  have d0 := (below_cell (o := 0) hb2 hs1).trans c0
  have d1 := (below_cell (o := 1) hb2 hs1).trans c1
  have d2 := (below_cell (o := 2) hb2 hs1).trans c2
  have d3 := (below_cell (o := 3) hb2 hs1).trans c3
  have hs2 : w.heap.size < w2.heap.size := by have := hb2.size; omega
  have HB2 := hide (below_on HB1.out hb2)
  have HG2 := hide (HG1.out.below hb2)
  have HR1 := hide hr1
  obtain ⟨xo, xc, rfl⟩ := hr1.shape
  clear c0 c1 c2 c3 hb2 HR hr1 HG1 HB1
  go_wp2_with fail
  have HTW := hide (twin_any N _ _ _ st to wt w2 HG2.out hst hto hwt)
  unfold gAgg at HTW
  refine HTW.out.mono ?_
  rintro e w3 ⟨g1, p1, g2, p2, g3, p3, rfl, ht, hb3⟩
  have e0 := (below_cell (o := 0) hb3 hs2).trans d0
  have e1 := (below_cell (o := 1) hb3 hs2).trans d1
  have e2 := (below_cell (o := 2) hb3 hs2).trans d2
  have e3 := (below_cell (o := 3) hb3 hs2).trans d3
  have hs3 : w.heap.size < w3.heap.size := by have := hb3.size; omega
  have HB3 := hide (below_on HB2.out hb3)
  have HG3 := hide (HG2.out.below hb3)
  have HR3 := hide (HR1.out.below hb3)
  have HT3 := hide ht
  clear d0 d1 d2 d3 hb3 HTW ht HG2 HB2 HR1
  unfold tAgg gAgg
  go_wp2_with fail
  obtain ⟨b0, b1, b2, b3, hb4, hs4⟩ := boxed w3 (.int .i64 N) (.slice (some ⟨g1, 0, none⟩) st.length p1) (.slice (some ⟨g2, 0, none⟩) to.length p2) (.slice (some ⟨g3, 0, none⟩) wt.length p3)
  have f0 := (below_cell (o := 0) hb4 hs3).trans e0
  have f1 := (below_cell (o := 1) hb4 hs3).trans e1
  have f2 := (below_cell (o := 2) hb4 hs3).trans e2
  have f3 := (below_cell (o := 3) hb4 hs3).trans e3
  have HB4 := hide (below_on HB3.out hb4)
  have HG4 := hide (HG3.out.below hb4)
  have HR4 := hide (HR3.out.below hb4)
  have HT4 := hide (HT3.out.below hb4)
  clear e0 e1 e2 e3 hb4 HG3 HB3 HR3 HT3
  generalize (w3.alloc (.cells #[.int .i64 N, .slice (some ⟨g1, 0, none⟩) st.length p1, .slice (some ⟨g2, 0, none⟩) to.length p2, .slice (some ⟨g3, 0, none⟩) wt.length p3] 32)) = w4 at b0 b1 b2 b3 hs4 f0 f1 f2 f3 HB4 HG4 HR4 HT4 ⊢
  have HS := hide (HST.out _ _ _ w4 HT4.out.gis)
  unfold gAgg at HS
  refine HS.out.mono ?_
  rintro e w5 ⟨v2, rfl, hr2, hb5⟩
  have hs5 : w.heap.size < w4.heap.size := by omega
  have q0 := (below_cell (o := 0) hb5 hs5).trans f0
  have q1 := (below_cell (o := 1) hb5 hs5).trans f1
  have q2 := (below_cell (o := 2) hb5 hs5).trans f2
  have q3 := (below_cell (o := 3) hb5 hs5).trans f3
  have r0 := (below_cell (o := 0) hb5 hs4).trans b0
  have r1 := (below_cell (o := 1) hb5 hs4).trans b1
  have r2 := (below_cell (o := 2) hb5 hs4).trans b2
  have r3 := (below_cell (o := 3) hb5 hs4).trans b3
  have HB5 := hide (below_on HB4.out hb5)
  have HG5 := hide (HG4.out.below hb5)
  have HR5 := hide (HR4.out.below hb5)
  have HT5 := hide (HT4.out.below hb5)
  have HV5 := hide hr2
  obtain ⟨yo, yc, rfl⟩ := hr2.shape
  have hLn := hr2.len
  clear f0 f1 f2 f3 b0 b1 b2 b3 hb5 HG4 HB4 HR4 HT4 hr2 HS HST
  go_wp2_with fail
  have HK := hide (twinKept_any N _ _ _ st to wt g1 p1 g2 p2 g3 p3 w5 HT5.out HG5.out hst hto hwt)
  unfold tAgg gAgg at HK
  refine HK.out.mono ?_
  rintro e w6 ⟨rfl, hb6⟩
  have HB6 := hide (below_on HB5.out hb6)
  have HP6 := hide (HR5.out.below hb6)
  have HV6 := hide (HV5.out.below hb6)
  clear q0 q1 q2 q3 r0 r1 r2 r3 hb6 HK HG5 HB5 HR5 HT5 HV5 HG
  have HC := hide (fun (i : Nat) (hi : i < L.length) => HP6.out.cellAt i hi)
  have HD := hide (fun (i : Nat) (hi : i < L.length) => HV6.out.cellAt i hi)
  obtain ⟨n, hn⟩ : ∃ n, n = L.length := ⟨_, rfl⟩
  rw [← hn] at HC HD hLn ⊢
  clear hn HP6 HV6
  have hneq := neq_start
  go_wp2
  go_loopw [12] (fun t wr => ∃ i : Nat, i ≤ n ∧ t = .int .i64 i ∧ ∃ m, wr = w6.drewN m) (fun t _ => n - (RowKit.intOf t).toNat)
  case atStart => exact ⟨0, by omega, rfl, 0, rfl⟩
  case round =>
    obtain ⟨i, hin, rfl, m, rfl⟩ := hrel
    by_cases hlt : i < n
    · obtain ⟨ga, ca', hsa, hca, hcm, a0, a1⟩ := HC.out i hlt
      obtain ⟨gb, cb', hsb, hcb, hcm2, b0, b1⟩ := HD.out i hlt
      simp only [Value.slice.injEq, true_and] at hsa hsb
      obtain ⟨rfl, rfl⟩ := hsa
      obtain ⟨rfl, rfl⟩ := hsb
      obtain ⟨u, hu⟩ : ∃ u, u = (sAt L i).1 := ⟨_, rfl⟩
      obtain ⟨v, hv⟩ : ∃ v, v = (sAt L i).2 := ⟨_, rfl⟩
      rw [← hu] at a0 b0
      rw [← hv] at a1 b1
      clear hu hv
      have hself : (!(u == u && (v == v && true))) = false := by simp
      go_wp2_with fail
      go_region
      all_goals
        go_wp2_with fail
        go_roundw
        case rel => exact ⟨i + 1, by omega, by go_num, m + 1, rfl⟩
        case measure => simp [RowKit.intOf]; omega
    · go_wp2_with fail
      go_ret
      exact ⟨rfl, below_drewN HB6.out _⟩
end Go.Proofs.Ytpfalalmfoiloaa
