/- Order, the program's and the document's. -/
import Derived.Test.YtacmlilcamkndaaLg
namespace Go.Proofs.Ytacmlilcamkndaa
open Go.RowKit Go.Lib
set_option linter.unusedVariables false
set_option linter.unusedSimpArgs false
theorem RowAt.nil (k : IntKind) (w : World) : RowAt k w (.slice none 0 0) [] := ⟨none, 0, rfl, Nat.le_refl _, by omega, fun _ => rfl, fun a ha => by cases ha⟩
/-- A list and a number are answered. -/
def LN (w : World) (r : List Int × Int) (e : Ending) (w' : World) : Prop := ∃ cv, e = .returned (.tuple #[cv, .int .i64 r.2]) ∧ RowAt .i64 w' cv r.1 ∧ Below w.heap.size w w'
set_option maxHeartbeats 4000000 in
set_option maxRecDepth 100000 in
theorem ord_any (N : Int) (va vb vc : Value) (st tl wt : List Int) (w : World) (hg : GIs w N va vb vc st tl wt) (hst : st.length ≤ 17592186044416) (hto : tl.length ≤ 17592186044416) (hwt : wt.length ≤ 17592186044416) :
    Calls Try.prog 6 #[gAgg N va vb vc] w (LN w (ordA N st tl wt)) := by
  obtain ⟨W, hW⟩ : ∃ W, W = w.alloc (.cells #[.int .i64 N, va, vb, vc] 25) := ⟨_, rfl⟩
  have hbW : Below w.heap.size w W := by rw [hW]; exact below_alloc (Below.refl _ _) _
  have hA : W.heap[w.heap.size]? = some (.cells #[.int .i64 N, va, vb, vc] 25 (0, 0)) := by rw [hW]; exact heap_new _ _
  have HA := hide hA; have HBW := hide hbW; have HG := hide hg
  have HCk := hide (check_all N va vb vc st tl wt W (hg.below hbW) hst hto hwt)
  have HK : Hid (∀ X, Below W.heap.size W X → X.cell? ⟨w.heap.size, 0, none⟩ = some (.int .i64 N) ∧ X.cell? ⟨w.heap.size, 1, none⟩ = some va ∧ X.cell? ⟨w.heap.size, 2, none⟩ = some vb ∧ X.cell? ⟨w.heap.size, 3, none⟩ = some vc) := fun X hX => ⟨box_keep hA hX rfl, box_keep hA hX rfl, box_keep hA hX rfl, box_keep hA hX rfl⟩
  obtain ⟨r1, r2, hr⟩ : ∃ r1 r2, (r1, r2) = chk N st tl wt := ⟨_, _, rfl⟩
  have HR := hide hr
  unfold ChkPost at HCk
  rw [← hr] at HCk
  clear hg hA hbW hr
  unfold gAgg at *
  go_enter Try.func6, Try.ntmps6
  go_upto_region 1 with fail
  rw [← hW]
  clear hW
  obtain ⟨p0, p1, p2, p3⟩ := HK.out _ (Below.refl _ _)
  go_wp2_with fail
  refine HCk.out.mono ?_
  rintro e w1 ⟨rfl, hb1⟩
  have HB1 := hide hb1
  clear p0 p1 p2 p3
  obtain ⟨p0, p1, p2, p3⟩ := HK.out _ hb1
  clear hb1
  by_cases hz : r1 = 0
  · subst hz
    have hc0 : (chk N st tl wt).1 = 0 := by rw [← HR.out]
    obtain ⟨n, rfl, hgood⟩ := chk_good hc0
    have HFw := hide (forwards_any n va vb vc st tl wt w1 ((HG.out.below HBW.out).below HB1.out) hgood)
    unfold gAgg at HFw
    have HC0 := hide hc0
    clear hc0
    go_wp2_with fail
    refine HFw.out.mono ?_
    rintro e w2 ⟨cv, l, rfl, hfin, hrow, hb2⟩
    have HB2 := hide (below_on HB1.out hb2); have HFin := hide hfin; have HRow := hide hrow
    obtain ⟨co, cc, rfl⟩ := hrow.shape
    clear p0 p1 p2 p3 hb2 hfin hrow
    obtain ⟨p0, p1, p2, p3⟩ := HK.out _ HB2.out
    by_cases hlt : l.length < n
    · have HAns := hide (ordA_few HC0.out HFin.out hlt)
      have hlti : (l.length : Int) < (n : Int) := by omega
      obtain ⟨k, hk⟩ : ∃ k, k = l.length := ⟨_, rfl⟩
      rw [← hk] at hlti hlt ⊢
      clear hk
      go_wp2_with fail
      go_ret2
      rw [HAns.out]
      exact ⟨_, rfl, RowAt.nil _ _, below_on HBW.out HB2.out⟩
    · have HAns := hide (ordA_all HC0.out HFin.out hlt)
      have hlti : ¬ (l.length : Int) < (n : Int) := by omega
      obtain ⟨k, hk⟩ : ∃ k, k = l.length := ⟨_, rfl⟩
      have HKK := hide hk
      rw [← hk] at hlti hlt ⊢
      clear hk
      go_wp2_with fail
      go_ret2
      rw [HAns.out]
      exact ⟨_, rfl, by rw [HKK.out]; exact HRow.out, below_on HBW.out HB2.out⟩
  · have HAns : Hid (ordA N st tl wt = ([], r1)) := by
      rw [ordA_bad (by rw [← HR.out]; exact hz), ← HR.out]
      exact hide rfl
    have hzb : (r1 != 0) = true := by simpa using hz
    go_wp2_with fail
    go_ret2
    rw [HAns.out]
    exact ⟨_, rfl, RowAt.nil _ _, below_on HBW.out HB1.out⟩
set_option maxHeartbeats 4000000 in
set_option maxRecDepth 100000 in
theorem refOrd_any (N : Int) (va vb vc : Value) (st tl wt : List Int) (w : World) (hg : GIs w N va vb vc st tl wt) (hst : st.length ≤ 17592186044416) (hto : tl.length ≤ 17592186044416) (hwt : wt.length ≤ 17592186044416) :
    Calls Try.prog 7 #[gAgg N va vb vc] w (LN w (ordA N st tl wt)) := by
  obtain ⟨W, hW⟩ : ∃ W, W = w.alloc (.cells #[.int .i64 N, va, vb, vc] 25) := ⟨_, rfl⟩
  have hbW : Below w.heap.size w W := by rw [hW]; exact below_alloc (Below.refl _ _) _
  have hA : W.heap[w.heap.size]? = some (.cells #[.int .i64 N, va, vb, vc] 25 (0, 0)) := by rw [hW]; exact heap_new _ _
  have HA := hide hA; have HBW := hide hbW; have HG := hide hg
  have HCk := hide (refCheck_all N va vb vc st tl wt W (hg.below hbW) hst hto hwt)
  have HK : Hid (∀ X, Below W.heap.size W X → X.cell? ⟨w.heap.size, 0, none⟩ = some (.int .i64 N) ∧ X.cell? ⟨w.heap.size, 1, none⟩ = some va ∧ X.cell? ⟨w.heap.size, 2, none⟩ = some vb ∧ X.cell? ⟨w.heap.size, 3, none⟩ = some vc) := fun X hX => ⟨box_keep hA hX rfl, box_keep hA hX rfl, box_keep hA hX rfl, box_keep hA hX rfl⟩
  obtain ⟨r1, r2, hr⟩ : ∃ r1 r2, (r1, r2) = chk N st tl wt := ⟨_, _, rfl⟩
  have HR := hide hr
  unfold ChkPost at HCk
  rw [← hr] at HCk
  clear hg hA hbW hr
  unfold gAgg at *
  go_enter Try.func7, Try.ntmps7
  go_upto_region 1 with fail
  rw [← hW]
  clear hW
  obtain ⟨p0, p1, p2, p3⟩ := HK.out _ (Below.refl _ _)
  go_wp2_with fail
  refine HCk.out.mono ?_
  rintro e w1 ⟨rfl, hb1⟩
  have HB1 := hide hb1
  clear p0 p1 p2 p3
  obtain ⟨p0, p1, p2, p3⟩ := HK.out _ hb1
  clear hb1
  by_cases hz : r1 = 0
  · subst hz
    have hc0 : (chk N st tl wt).1 = 0 := by rw [← HR.out]
    obtain ⟨n, rfl, hgood⟩ := chk_good hc0
    have HFw := hide (order_any n va vb vc st tl wt w1 ((HG.out.below HBW.out).below HB1.out) hgood)
    unfold gAgg at HFw
    have HC0 := hide hc0
    clear hc0
    go_wp2_with fail
    refine HFw.out.mono ?_
    rintro e w2 ⟨cv, l, rfl, hfin, hrow, hb2⟩
    have HB2 := hide (below_on HB1.out hb2); have HFin := hide hfin; have HRow := hide hrow
    obtain ⟨co, cc, rfl⟩ := hrow.shape
    clear p0 p1 p2 p3 hb2 hfin hrow
    obtain ⟨p0, p1, p2, p3⟩ := HK.out _ HB2.out
    by_cases hlt : l.length < n
    · have HAns := hide (ordA_few HC0.out HFin.out hlt)
      have hlti : (l.length : Int) < (n : Int) := by omega
      obtain ⟨k, hk⟩ : ∃ k, k = l.length := ⟨_, rfl⟩
      rw [← hk] at hlti hlt ⊢
      clear hk
      go_wp2_with fail
      go_ret2
      rw [HAns.out]
      exact ⟨_, rfl, RowAt.nil _ _, below_on HBW.out HB2.out⟩
    · have HAns := hide (ordA_all HC0.out HFin.out hlt)
      have hlti : ¬ (l.length : Int) < (n : Int) := by omega
      obtain ⟨k, hk⟩ : ∃ k, k = l.length := ⟨_, rfl⟩
      have HKK := hide hk
      rw [← hk] at hlti hlt ⊢
      clear hk
      go_wp2_with fail
      go_ret2
      rw [HAns.out]
      exact ⟨_, rfl, by rw [HKK.out]; exact HRow.out, below_on HBW.out HB2.out⟩
  · have HAns : Hid (ordA N st tl wt = ([], r1)) := by
      rw [ordA_bad (by rw [← HR.out]; exact hz), ← HR.out]
      exact hide rfl
    have hzb : (r1 != 0) = true := by simpa using hz
    go_wp2_with fail
    go_ret2
    rw [HAns.out]
    exact ⟨_, rfl, RowAt.nil _ _, below_on HBW.out HB1.out⟩
end Go.Proofs.Ytacmlilcamkndaa
