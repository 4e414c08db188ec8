/- Circle. -/
import Derived.Test.YtacmlilcamkndaaCb
namespace Go.Proofs.Ytacmlilcamkndaa
open Go.RowKit Go.Lib
set_option linter.unusedVariables false
set_option linter.unusedSimpArgs false
theorem chk_not (N : Int) (st tl wt : List Int) : (chk N st tl wt).1 ≠ 33 := by
  unfold chk
  split
  · split
    · split
      · simp
      · unfold chkEdges
        split
        · simp only [edgeNo]
          split
          · split <;> simp
          · simp
        · simp
    · simp
  · simp
/-- What Circle answers: list, whether there is one, number. -/
def CA (N : Int) (st tl wt c : List Int) (b : Bool) (E : Int) : Prop :=
  ((ordA N st tl wt).2 ≠ 0 ∧ (ordA N st tl wt).2 ≠ 33 ∧ E = (ordA N st tl wt).2 ∧ b = false ∧ c = []) ∨
  ((ordA N st tl wt).2 = 0 ∧ E = 0 ∧ b = false ∧ c = [] ∧ ((ordA N st tl wt).1.length : Int) = N) ∨
  ((ordA N st tl wt).2 = 33 ∧ E = 0 ∧ b = true ∧ ∃ n : Nat, N = n ∧ Good n st tl wt ∧ Ci n st tl c)
set_option maxHeartbeats 4000000 in
set_option maxRecDepth 100000 in
theorem circle_any (N : Int) (va vb vc : Value) (st tl wt : List Int) (w : World) (hg : GIs w N va vb vc st tl wt) (hst : st.length ≤ 17592186044416) (hto : tl.length ≤ 17592186044416) (hwt : wt.length ≤ 17592186044416) :
    Calls Try.prog 13 #[gAgg N va vb vc] w fun e w' => ∃ cv c b E, e = .returned (.tuple #[cv, .bool b, .int .i64 E]) ∧ RowAt .i64 w' cv c ∧ CA N st tl wt c b E ∧ Below w.heap.size w w' := by
  obtain ⟨W, hW⟩ : ∃ W, W = w.alloc (.cells #[.int .i64 N, va, vb, vc] 25) := ⟨_, rfl⟩
  have hbW : Below w.heap.size w W := by rw [hW]; exact below_alloc (Below.refl _ _) _
  have hA : W.heap[w.heap.size]? = some (.cells #[.int .i64 N, va, vb, vc] 25 (0, 0)) := by rw [hW]; exact heap_new _ _
  have HA := hide hA; have HBW := hide hbW; have HG := hide hg
  have HCk := hide (check_all N va vb vc st tl wt W (hg.below hbW) hst hto hwt)
  have HK : Hid (∀ X, Below W.heap.size W X → X.cell? ⟨w.heap.size, 0, none⟩ = some (.int .i64 N) ∧ X.cell? ⟨w.heap.size, 1, none⟩ = some va ∧ X.cell? ⟨w.heap.size, 2, none⟩ = some vb ∧ X.cell? ⟨w.heap.size, 3, none⟩ = some vc) := fun X hX => ⟨box_keep hA hX rfl, box_keep hA hX rfl, box_keep hA hX rfl, box_keep hA hX rfl⟩
  obtain ⟨r1, r2, hr⟩ : ∃ r1 r2, (r1, r2) = chk N st tl wt := ⟨_, _, rfl⟩
  have HR := hide hr
  unfold ChkPost at HCk
  rw [← hr] at HCk
  clear hg hA hbW hr
  unfold gAgg at *
  go_enter Try.func13, Try.ntmps13
  go_upto_region 1 with fail
  rw [← hW]
  clear hW
  obtain ⟨p0, p1, p2, p3⟩ := HK.out _ (Below.refl _ _)
  go_wp2_with fail
  refine HCk.out.mono ?_
  rintro e w1 ⟨rfl, hb1⟩
  have HB1 := hide hb1
  clear p0 p1 p2 p3
  obtain ⟨p0, p1, p2, p3⟩ := HK.out _ hb1
  clear hb1
  by_cases hz : r1 = 0
  · subst hz
    have hc0 : (chk N st tl wt).1 = 0 := by rw [← HR.out]
    obtain ⟨n, rfl, hgood⟩ := chk_good hc0
    have HGd := hide hgood
    have HFw := hide (forwards_any n va vb vc st tl wt w1 ((HG.out.below HBW.out).below HB1.out) hgood)
    unfold gAgg at HFw
    have HC0 := hide hc0
    clear hc0 hgood
    go_wp2_with fail
    refine HFw.out.mono ?_
    rintro e w2 ⟨cv, l, rfl, hfin, hrow, hb2⟩
    have HB2 := hide (below_on HB1.out hb2); have HFin := hide hfin; have HRow := hide hrow
    obtain ⟨co, cc, rfl⟩ := hrow.shape
    clear p0 p1 p2 p3 hb2 hfin hrow
    obtain ⟨p0, p1, p2, p3⟩ := HK.out _ HB2.out
    by_cases hlt : l.length < n
    · have HAns := hide (ordA_few HC0.out HFin.out hlt)
      have hlti : ¬ (l.length : Int) = (n : Int) := by omega
      have HBh := hide (behind_any n va vb vc _ st tl wt l w2 ((HG.out.below HBW.out).below HB2.out) HGd.out HRow.out HFin.out hlt (Sq.rng n st tl HFin.out.1).1)
      unfold gAgg at HBh
      obtain ⟨k, hk⟩ : ∃ k, k = l.length := ⟨_, rfl⟩
      rw [← hk] at hlti hlt HBh ⊢
      clear hk
      go_wp2_with fail
      refine HBh.out.mono ?_
      rintro e w3 ⟨cv, c, rfl, hrow, hci, hb3⟩
      have HR3 := hide hrow; have HCI := hide hci; have HB3 := hide (below_on HB2.out hb3)
      clear hrow hci hb3 p0 p1 p2 p3
      go_wp2_with fail
      go_ret3
      refine ⟨_, _, _, _, rfl, HR3.out, .inr (.inr ⟨?_, rfl, rfl, n, rfl, HGd.out, HCI.out⟩), below_on HBW.out HB3.out⟩
      rw [HAns.out]
    · have HAns := hide (ordA_all HC0.out HFin.out hlt)
      have hle := Sq.len n st tl HFin.out.1
      have hlti : (l.length : Int) = (n : Int) := by omega
      have HLT := hide hlti
      obtain ⟨k, hk⟩ : ∃ k, k = l.length := ⟨_, rfl⟩
      rw [← hk] at hlti hlt ⊢
      have hkb : ((k : Int) == (n : Int)) = true := by simpa using hlti
      clear hk hle hlti hlt
      go_wp2_with fail
      go_ret3
      refine ⟨_, _, _, _, rfl, RowAt.nil _ _, .inr (.inl ⟨?_, rfl, rfl, rfl, ?_⟩), below_on HBW.out HB2.out⟩
      · rw [HAns.out]
      · rw [HAns.out]; exact HLT.out
  · have HAns : Hid (ordA N st tl wt = ([], r1)) := by
      rw [ordA_bad (by rw [← HR.out]; exact hz), ← HR.out]
      exact hide rfl
    have hzb : (r1 != 0) = true := by simpa using hz
    go_wp2_with fail
    go_ret3
    refine ⟨_, _, _, _, rfl, RowAt.nil _ _, .inl ⟨?_, ?_, ?_, rfl, rfl⟩, below_on HBW.out HB1.out⟩
    · rw [HAns.out]; exact hz
    · rw [HAns.out]; have := chk_not N st tl wt; rw [← HR.out] at this; exact this
    · rw [HAns.out]
end Go.Proofs.Ytacmlilcamkndaa
