/- fits: do the arguments have no error? -/
import Derived.Test.YthoklgdlnmccmaaEdgeless
namespace Go.Proofs.Ythoklgdlnmccmaa
open Go.RowKit Go.Lib
set_option linter.unusedVariables false

def rowsObj (n : Nat) : Obj := .cells (iCells (tab n (fun _ => 0))) 3
theorem made_rows (n : Nat) : Obj.cells (madeCells (Value.int .i64 0).cells (n * 1)) 3 = rowsObj n := by
  unfold rowsObj
  congr 1
  apply Array.ext
  · simp [madeCells, iCells, tab]
  · intro i h1 h2
    simp [madeCells, Value.cells, Nat.mod_one, iCells, tab]
theorem run_makeRows (n : Nat) (hn : n ≤ 17592186044416) (w : World) :
    (Instr.makeSlice 29 (.int .i64 n) (.int .i64 n)).run Try.prog w = .ok (.slice (some ⟨w.heap.size, 0, none⟩) n n) (w.alloc (rowsObj n)) := by
  obtain ⟨i0, hi, hz0, hz1, hz2⟩ := info_parts Try.info3
  have h := run_make (P := Try.prog) w 29 3 i0 (.int .i64 0) Try.underlying29 hi hz0 .i64 .i64 n n (by omega) (Int.le_refl _) (by rw [hz2]; omega) (by omega)
  rw [hz1] at h
  simp only [Int.toNat_natCast] at h
  rw [made_rows] at h
  exact h
theorem rows_in (w : World) (n : Nat) (hn : n ≤ 17592186044416) : RowAt .i64 (w.alloc (rowsObj n)) (.slice (some ⟨w.heap.size, 0, none⟩) n n) (tab n (fun _ => 0)) :=
  Arr.row (show Arr (w.alloc (rowsObj n)) w.heap.size _ from heap_new _ _) (tab_length _ _) (by omega)
def noRows (n : Nat) : List Int := tab n (fun _ => 0)
theorem chk_none {n : Nat} (hn : n ≤ 1048576) : (chk n (noRows (n + 1)) [] []).1 = 0 := by
  unfold chk
  rw [if_pos (show Fits (n : Int) ([] : List Int).length from ⟨by omega, by omega, by simp⟩), if_pos (show ((noRows (n + 1)).length : Int) = (n : Int) + 1 ∧ ([] : List Int).length = ([] : List Int).length from ⟨by unfold noRows; rw [tab_length]; simp, rfl⟩)]
  have h1 : chkRows (n : Int).toNat ([] : List Int).length (noRows (n + 1)) = none := by
    unfold chkRows
    refine first_none fun j hj => decide_eq_false ?_
    simp only [Int.toNat_natCast] at hj ⊢
    have a1 : at_ (noRows (n + 1)) j = 0 := tab_at _ _ _ hj
    have a2 : ahead (noRows (n + 1)) j = 0 := by
      unfold ahead
      by_cases e : j = 0
      · rw [if_pos e]
      · rw [if_neg e]; exact tab_at _ _ _ (by omega)
    unfold BadRow
    rw [a1, a2]
    simp
  rw [h1]
  rfl
theorem fits_iff (N : Int) (st tl wt : List Int) (k : Int) (S : List Pr) : (srchNo N (noRows st.length) [] [] k S = 0 ∧ (chk N st tl wt).1 = 0) ↔ srchNo N st tl wt k S = 0 := by
  constructor
  · rintro ⟨h1, h2⟩
    unfold srchNo at h1 ⊢
    by_cases h3 : fstNo N (noRows st.length) [] [] k = 0
    · rw [if_pos h3] at h1
      have hk := (fst_good h3).1
      have h4 : fstNo N st tl wt k = 0 := by unfold fstNo; rw [if_pos h2]; exact kindNo_ok hk
      rw [if_pos h4]; exact h1
    · rw [if_neg h3] at h1; exact absurd h1 h3
  · intro h1
    unfold srchNo at h1 ⊢
    by_cases h3 : fstNo N st tl wt k = 0
    · rw [if_pos h3] at h1
      obtain ⟨hk, n, rfl, hgd⟩ := fst_good h3
      have h5 : (chk n st tl wt).1 = 0 := by
        unfold fstNo at h3
        by_cases hc : (chk n st tl wt).1 = 0
        · exact hc
        · rw [if_neg hc] at h3; exact absurd h3 hc
      have h4 : fstNo n (noRows st.length) [] [] k = 0 := by
        unfold fstNo
        rw [hgd.s_len, if_pos (chk_none hgd.n_le)]
        exact kindNo_ok hk
      exact ⟨by rw [if_pos h4]; exact h1, h5⟩
    · rw [if_neg h3] at h1; exact absurd h1 h3

set_option maxRecDepth 100000 in
set_option maxHeartbeats 8000000 in
theorem fits_law (N : Int) (va vb vc : Value) (st tl wt : List Int) (k : Int) (sv : Value) (S : List Pr) (w : World) (hg : GIs w N va vb vc st tl wt) (hst : st.length * 8 ≤ 140737488351232) (hto : tl.length * 8 ≤ 140737488351232) (hwt : wt.length * 8 ≤ 140737488351232) (hs : SAt w sv S) (hw : ∀ j, j < S.length → 0 ≤ (sAt S j).2) (hS : S.length * 16 ≤ 140737488353280) :
    Calls Try.prog 32 #[gAgg N va vb vc, .int .i64 k, sv] w fun e w' => e = .returned (.bool (decide (srchNo N st tl wt k S = 0))) ∧ Below w.heap.size w w' := by
  obtain ⟨ao, ca, rfl⟩ := hg.s.shape
  obtain ⟨bo, cb, rfl⟩ := hg.t.shape
  obtain ⟨co, cc, rfl⟩ := hg.u.shape
  obtain ⟨so, sc, rfl, hsc, hscm⟩ := hs.shape
  obtain ⟨c0, c1, c2, c3, hb1, hs1⟩ := boxed w (.int .i64 N) (.slice ao st.length ca) (.slice bo tl.length cb) (.slice co wt.length cc)
  have HRS := hide (fun a W h1 h2 => refSearch_none N a (noRows st.length) k (.slice so S.length sc) S W h1 (by unfold noRows; rw [tab_length]; omega) h2 hw hS)
  have HRC := hide (fun W h => refCheck_all N (.slice ao st.length ca) (.slice bo tl.length cb) (.slice co wt.length cc) st tl wt W h (by omega) (by omega) (by omega))
  have HIF := hide (fits_iff N st tl wt k S)
  have HG1 := hide (hg.below hb1)
  have HS1 := hide (hs.below hb1)
  have HB1 := hide hb1
  unfold gAgg at HRS HRC ⊢
  unfold ChkPost at HRC
  obtain ⟨X, hX⟩ : ∃ X, X = chk N st tl wt := ⟨_, rfl⟩
  rw [← hX] at HRC HIF
  obtain ⟨x, y⟩ := X
  obtain ⟨z, hz⟩ : ∃ z, z = srchNo N (noRows st.length) [] [] k S := ⟨_, rfl⟩
  rw [← hz] at HRS HIF
  obtain ⟨bb, hbb⟩ : ∃ bb, bb = decide (srchNo N st tl wt k S = 0) := ⟨_, rfl⟩
  rw [← hbb]
  have HBB := hide hbb
  clear hb1 hg hs hw hX hz hbb
  go_enter Try.func32, Try.ntmps32
  go_wp2_with fail
  generalize (w.alloc (.cells #[.int .i64 N, .slice ao st.length ca, .slice bo tl.length cb, .slice co wt.length cc] 32)) = w1 at c0 c1 c2 c3 hs1 HB1 HS1 HG1 ⊢
  have hmk := run_makeRows st.length (by omega)
  have HBA : Hid (Below w1.heap.size w1 (w1.drew.alloc (rowsObj st.length))) := below_alloc (below_drew (Below.refl _ _)) _
  have HBA2 : Hid (Below w1.heap.size w1 (w1.alloc (rowsObj st.length)).drew) := below_drew (below_alloc (Below.refl _ _) _)
  have HRI := hide (fun W : World => rows_in W st.length (by omega))
  go_cut [7, 8] from 12 to 23 (fun t u wx => u = .int .i64 z ∧ Below w1.heap.size w1 wx)
  case first =>
    refine wp_region_noPanic ?_
    go_region_held3 (fun x => x.cell? ⟨w.heap.size, 0, none⟩ = some (.int .i64 N) ∧ x.cell? ⟨w.heap.size, 1, none⟩ = some (.slice ao st.length ca)) (first | go_keep | exact ⟨m0, m1⟩ | exact ⟨(below_cell (o := 0) HBA.out hs1).trans c0, (below_cell (o := 1) HBA.out hs1).trans c1⟩ | exact ⟨(below_cell (o := 0) HBA2.out hs1).trans c0, (below_cell (o := 1) HBA2.out hs1).trans c1⟩)
      ((go_at_call 39; refine (HRS.out _ _ (by first | exact ⟨HRI.out _, RowAt.nil _, ⟨none, 0, rfl, by simp, by omega, (fun _ => rfl), (fun a ha => by cases ha)⟩⟩) (by first | exact HS1.out.below HBA.out | exact HS1.out.below HBA2.out)).mono ?_; rintro e w3 ⟨vv, rfl, hb3⟩; have hB3 := below_on (a := w1) (by first | exact HBA.out | exact HBA2.out) hb3; have m0 := (below_cell (o := 0) hB3 hs1).trans c0; have m1 := (below_cell (o := 1) hB3 hs1).trans c1; have HB3 := hide hB3; clear hb3 hB3))
    all_goals
      refine NoPanic.normal ?_
      go_wp2_with fail
      go_meet
      case rel => exact ⟨rfl, HB3.out⟩
  case rest =>
    obtain ⟨rfl, hbx⟩ := hcut
    obtain ⟨d0, d1, d2, d3⟩ := box_keep hs1 hbx ⟨c0, c1, c2, c3⟩
    have HG2 := hide (HG1.out.below hbx)
    have HBX := hide (below_on HB1.out hbx)
    clear hbx c0 c1 c2 c3
    go_wp2_with fail
    refine (HRC.out _ HG2.out).mono ?_
    rintro e w3 ⟨rfl, hb3⟩
    have HB3 := hide (below_on HBX.out hb3)
    clear hb3 d0 d1 d2 d3
    have hif : (z = 0 ∧ x = 0) ↔ srchNo N st tl wt k S = 0 := HIF.out
    by_cases hz0 : z = 0
    · by_cases hx0 : x = 0
      · have HV := hide (HBB.out.trans (decide_eq_true (hif.1 ⟨hz0, hx0⟩)))
        have b1 : (z == 0) = true := by simp [hz0]
        have b2 : (x == 0) = true := by simp [hx0]
        clear hif hz0 hx0
        go_wp2
        go_ret
        exact ⟨by rw [HV.out]; rfl, HB3.out⟩
      · have HV := hide (HBB.out.trans (decide_eq_false (fun h => hx0 (hif.2 h).2)))
        have b1 : (z == 0) = true := by simp [hz0]
        have b2 : (x == 0) = false := by simp [hx0]
        clear hif hz0 hx0
        go_wp2
        go_ret
        exact ⟨by rw [HV.out]; rfl, HB3.out⟩
    · have HV := hide (HBB.out.trans (decide_eq_false (fun h => hz0 (hif.2 h).1)))
      have b1 : (z == 0) = false := by simp [hz0]
      clear hif hz0
      go_wp2
      go_ret
      exact ⟨by rw [HV.out]; rfl, HB3.out⟩
end Go.Proofs.Ythoklgdlnmccmaa
