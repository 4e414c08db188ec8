/- What a search may be asked: the graph, the kind, the starts; the program's and the reference's. -/
import Derived.Test.YtehlciejhegndaaStarted
import Derived.Test.YtehlciejhegndaaLenWalk
namespace Go.Proofs.Ytehlciejhegndaa
open Go.RowKit Go.Lib
set_option linter.unusedVariables false

/-- What is wrong with the start number j: 0, if nothing is. -/
def sBad (N : Int) (S : List Pr) (j : Nat) : Int := if 0 ≤ (sAt S j).1 ∧ (sAt S j).1 < N then (if 4611686018427387904 < (sAt S j).2 then 51 else 0) else 30
def stNo (N : Int) (S : List Pr) : Int := match first (fun j => decide (sBad N S j ≠ 0)) S.length with | some j => sBad N S j | none => 0
def srchNo (N : Int) (st tl wt : List Int) (k : Int) (S : List Pr) : Int := if fstNo N st tl wt k = 0 then stNo N S else fstNo N st tl wt k
theorem st_some {N : Int} {S : List Pr} {j : Nat} (hj : j < S.length) (h : sBad N S j ≠ 0) (hb : ∀ i, i < j → sBad N S i = 0) : stNo N S = sBad N S j := by
  unfold stNo
  rw [first_some (p := fun j => decide (sBad N S j ≠ 0)) hj (decide_eq_true h) (fun i hi => decide_eq_false (by rw [hb i hi]; simp))]
theorem st_none {N : Int} {S : List Pr} (hb : ∀ i, i < S.length → sBad N S i = 0) : stNo N S = 0 := by
  unfold stNo
  rw [first_none (p := fun j => decide (sBad N S j ≠ 0)) (fun i hi => decide_eq_false (by rw [hb i hi]; simp))]
theorem st_ok {N : Int} {S : List Pr} (h : stNo N S = 0) : ∀ i, i < S.length → sBad N S i = 0 := by
  unfold stNo at h
  cases he : first (fun j => decide (sBad N S j ≠ 0)) S.length with
  | some j =>
    rw [he] at h
    have := (first_of_some he).2
    simp only [decide_eq_true_eq] at this
    exact absurd h this
  | none =>
    intro i hi
    have := first_none_of he i hi
    simpa using this
theorem sok_of {n : Nat} {S : List Pr} (h : stNo n S = 0) (hw : ∀ j, j < S.length → 0 ≤ (sAt S j).2) : Sok n S := by
  intro j hj
  have := st_ok h j hj
  unfold sBad at this
  by_cases h1 : 0 ≤ (sAt S j).1 ∧ (sAt S j).1 < (n : Int)
  · rw [if_pos h1] at this
    by_cases h2 : 4611686018427387904 < (sAt S j).2
    · rw [if_pos h2] at this; omega
    · exact ⟨h1, hw j hj, by omega⟩
  · rw [if_neg h1] at this; omega

set_option maxRecDepth 100000 in
set_option maxHeartbeats 8000000 in
theorem termsS_any (N : Int) (va vb vc : Value) (st tl wt : List Int) (k : Int) (sv : Value) (S : List Pr) (w : World) (hg : GIs w N va vb vc st tl wt) (hst : st.length ≤ 17592186044416) (hto : tl.length ≤ 17592186044416) (hwt : wt.length ≤ 17592186044416) (hs : SAt w sv S) :
    Calls Try.prog 50 #[gAgg N va vb vc, .int .i64 k, sv] w fun e w' => e = .returned (.int .i64 (srchNo N st tl wt k S)) ∧ Below w.heap.size w w' := by
  obtain ⟨ao, ca, rfl⟩ := hg.s.shape
  obtain ⟨bo, cb, rfl⟩ := hg.t.shape
  obtain ⟨co, cc, rfl⟩ := hg.u.shape
  obtain ⟨so, sc, rfl, hsc, hscm⟩ := hs.shape
  obtain ⟨c0, c1, c2, c3, hb1, hs1⟩ := boxed w (.int .i64 N) (.slice ao st.length ca) (.slice bo tl.length cb) (.slice co wt.length cc)
  have HF := hide (graphNo_any N _ _ _ st tl wt k _ (hg.below hb1) hst hto hwt)
  have HV := hide (fun x W => isVtx_any N (.slice ao st.length ca) (.slice bo tl.length cb) (.slice co wt.length cc) x W)
  have HB1 := hide hb1
  have HS1 := hide (hs.below hb1)
  unfold gAgg at HF HV ⊢
  unfold srchNo
  obtain ⟨f, hf⟩ : ∃ f, f = fstNo N st tl wt k := ⟨_, rfl⟩
  rw [← hf] at HF ⊢
  clear hb1 hg hs hf
  by_cases hf0 : f = 0
  · subst hf0
    rw [if_pos rfl]
    have HSO := hide (fun j => @st_some N S j)
    have HNO := hide (@st_none N S)
    obtain ⟨T, hT⟩ : ∃ T, T = stNo N S := ⟨_, rfl⟩
    rw [← hT] at HSO HNO ⊢
    obtain ⟨M, hM⟩ : ∃ M, M = S.length := ⟨_, rfl⟩
    rw [← hM] at hsc HS1 HSO HNO ⊢
    have HM := hide hM
    clear hT hM
    go_enter Try.func50, Try.ntmps50
    go_wp2_with fail
    generalize (w.alloc (.cells #[.int .i64 N, .slice ao st.length ca, .slice bo tl.length cb, .slice co wt.length cc] 25)) = w1 at c0 c1 c2 c3 hs1 HB1 HS1 HF ⊢
    refine HF.out.mono ?_
    rintro e w2 ⟨rfl, hb2⟩
    have HBX := hide (box_keep hs1 hb2 ⟨c0, c1, c2, c3⟩)
    have HS2 := hide (HS1.out.below hb2)
    have HB2 := hide (below_on HB1.out hb2)
    have hs2 : w.heap.size < w2.heap.size := by have := hb2.size; omega
    clear c0 c1 c2 c3 hb2 HF HS1 HB1 hs1
    go_wp2
    go_loopw [18] (fun t wr => ∃ j : Nat, j ≤ M ∧ t = .int .i64 j ∧ (∀ i, i < j → sBad N S i = 0) ∧ Below w2.heap.size w2 wr) (fun t _ => M - (RowKit.intOf t).toNat)
    case atStart => exact ⟨0, by omega, rfl, fun i hi => by omega, Below.refl _ _⟩
    case round =>
      obtain ⟨j, hjM, rfl, hall, hB⟩ := hrel
      by_cases hlt : j < M
      · obtain ⟨g, o, he, p0, p1⟩ := (HS2.out.below hB).cellAt j (by have := HM.out; omega)
        subst he
        have HSB := hide (fun h => HSO.out j hlt h hall)
        have hsd : sBad N S j = if 0 ≤ (sAt S j).1 ∧ (sAt S j).1 < N then (if 4611686018427387904 < (sAt S j).2 then 51 else 0) else 30 := rfl
        obtain ⟨x, hx⟩ : ∃ x, x = (sAt S j).1 := ⟨_, rfl⟩
        obtain ⟨y, hy⟩ : ∃ y, y = (sAt S j).2 := ⟨_, rfl⟩
        rw [← hx] at p0 hsd
        rw [← hy] at p1 hsd
        have HSD := hide hsd
        have HALL := hide hall
        obtain ⟨x0, x1, x2, x3⟩ := box_keep hs2 hB HBX.out
        have hwr : w.heap.size < wr.heap.size := by have := hB.size; omega
        have HVX := hide (fun W => HV.out x W)
        have hbx : (wr.alloc (.cells #[.int .i64 x, .int .u64 y] 47)).heap[wr.heap.size]? = some (.cells #[.int .i64 x, .int .u64 y] 47 (0, 0)) := heap_new _ _
        have t0 := cell_of hbx (i := 0) rfl
        have hba : Below wr.heap.size wr (wr.alloc (.cells #[.int .i64 x, .int .u64 y] 47)) := below_alloc (Below.refl _ _) _
        obtain ⟨y0, y1, y2, y3⟩ := box_keep hwr hba ⟨x0, x1, x2, x3⟩
        have hwl : wr.heap.size < (wr.alloc (.cells #[.int .i64 x, .int .u64 y] 47)).heap.size := by simp
        have HTB : Hid (∀ W, Below (wr.alloc (.cells #[.int .i64 x, .int .u64 y] 47)).heap.size (wr.alloc (.cells #[.int .i64 x, .int .u64 y] 47)) W → W.cell? ⟨wr.heap.size, 1, none⟩ = some (.int .u64 y) ∧ Below w2.heap.size w2 W) := fun W hW => ⟨(below_cell hW hwl).trans (cell_of hbx rfl), below_on (below_on hB hba) hW⟩
        clear hall hB hx hy hsd hbx hba hwl
        by_cases hv : 0 ≤ x ∧ x < N
        · rw [decide_eq_true hv] at HVX
          by_cases hl : 4611686018427387904 < y
          · have hs51 : sBad N S j = 51 := by rw [HSD.out, if_pos hv, if_pos hl]
            have HT := hide (HSB.out (by rw [hs51]; omega))
            rw [hs51] at HT
            clear hs51 hv
            go_wp2_with fail
            refine (HVX.out _).mono ?_
            rintro e w4 ⟨rfl, hb4⟩
            obtain ⟨t1, hb5⟩ := HTB.out _ hb4
            have HB5 := hide hb5
            clear hb4 hb5 t0 y0 y1 y2 y3 p0 p1 x0 x1 x2 x3
            go_wp2
            go_ret
            exact ⟨by rw [HT.out]; rfl, below_on HB2.out HB5.out⟩
          · have hs0 : sBad N S j = 0 := by rw [HSD.out, if_pos hv, if_neg hl]
            have HS0 := hide hs0
            clear hs0 hv
            go_wp2_with fail
            refine (HVX.out _).mono ?_
            rintro e w4 ⟨rfl, hb4⟩
            obtain ⟨t1, hb5⟩ := HTB.out _ hb4
            have HB5 := hide hb5
            clear hb4 hb5 t0 y0 y1 y2 y3 p0 p1 x0 x1 x2 x3
            go_wp2
            refine ⟨⟨j + 1, by omega, by simp, fun i hi => ?_, HB5.out⟩, by simp [RowKit.intOf]; omega⟩
            rcases Nat.lt_or_ge i j with h | h
            · exact HALL.out i h
            · obtain rfl : i = j := by omega
              exact HS0.out
        · rw [decide_eq_false hv] at HVX
          have hs30 : sBad N S j = 30 := by rw [HSD.out, if_neg hv]
          have HT := hide (HSB.out (by rw [hs30]; omega))
          rw [hs30] at HT
          clear hs30 hv
          go_wp2_with fail
          refine (HVX.out _).mono ?_
          rintro e w4 ⟨rfl, hb4⟩
          obtain ⟨t1, hb5⟩ := HTB.out _ hb4
          have HB5 := hide hb5
          clear hb4 hb5 t0 y0 y1 y2 y3 p0 p1 x0 x1 x2 x3
          go_wp2
          go_ret
          exact ⟨by rw [HT.out]; rfl, below_on HB2.out HB5.out⟩
      · obtain rfl : j = M := by omega
        go_wp2
        go_ret
        exact ⟨by rw [HNO.out hall]; rfl, below_on HB2.out hB⟩
  · have hx : (f != 0) = true := by simp [hf0]
    rw [if_neg hf0]
    clear hf0
    go_enter Try.func50, Try.ntmps50
    go_wp2_with fail
    generalize (w.alloc (.cells #[.int .i64 N, .slice ao st.length ca, .slice bo tl.length cb, .slice co wt.length cc] 25)) = w1 at c0 c1 c2 c3 hs1 HB1 HS1 HF ⊢
    refine HF.out.mono ?_
    rintro e w2 ⟨rfl, hb2⟩
    have HB2 := hide (below_on HB1.out hb2)
    clear c0 c1 c2 c3 hb2 HF
    go_wp2
    go_ret
    exact ⟨rfl, HB2.out⟩
end Go.Proofs.Ytehlciejhegndaa
