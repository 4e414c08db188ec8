/- distances; seek.Far. -/
import Derived.Test.YtnjljhabbgceoaaFaA
import Derived.Test.YtnjljhabbgceoaaPath
namespace Go.Proofs.Ytnjljhabbgceoaa
open Go.RowKit Go.Lib
set_option linter.unusedVariables false
set_option linter.unusedSimpArgs false
theorem srch0 {n : Nat} {st tl wt l : List Int} (hchk : (chk n st tl wt).1 = 0) (hv : Vs n l) : srchNo n st tl wt 1 (S0 l) = 0 := by
  have h1 : fstNo n st tl wt 1 = 0 := by unfold fstNo; rw [if_pos hchk]; rfl
  unfold srchNo
  rw [if_pos h1]
  refine st_none fun i hi => ?_
  rw [S0_len] at hi
  unfold sBad
  rw [S0_at l i hi, if_pos (hv i hi), if_neg (show ¬ (4611686018427387904 : Int) < 0 by decide)]
/-- What distances answers. -/
def DistPost (w : World) (n : Nat) (st tl wt l : List Int) (e : Ending) (w' : World) : Prop := ∃ G L, e = .returned (.slice (some ⟨G, 0, none⟩) n n) ∧ w.heap.size ≤ G ∧ ArrU w' G L ∧ Found n st tl wt 1 (S0 l) L ∧ Below w.heap.size w w'
set_option maxRecDepth 100000 in
set_option maxHeartbeats 4000000 in
theorem dist_any (n : Nat) (va vb vc : Value) (st tl wt : List Int) (vl : Value) (l : List Int) (w : World) (hg : GIs w n va vb vc st tl wt) (hgd : Good n st tl wt) (hchk : (chk n st tl wt).1 = 0) (hw : ∀ e, 0 ≤ at_ wt e ∧ at_ wt e ≤ 18446744073709551615)
    (hl : RowAt .i64 w vl l) (hv : Vs n l) (hlen : l.length ≤ 64) :
    Calls Try.prog 16 #[gAgg n va vb vc, vl] w (DistPost w n st tl wt l) := by
  obtain ⟨i0, hi, hz0, hz1, hz2⟩ := info_parts Try.info40
  obtain ⟨ao, ca, rfl⟩ := hl.shape
  obtain ⟨c0, c1, c2, c3, hb1, hs1⟩ := boxed w (.int .i64 n) va vb vc
  have HSR : Hid (∀ W, Below w.heap.size w W → ∀ sv, SAt W sv (S0 l) → Calls Try.prog 27 #[gAgg n va vb vc, .int .i64 1, sv] W (SrOk n st tl wt 1 (S0 l) W)) := fun W hb sv hs => rsearch_good n va vb vc st tl wt 1 sv (S0 l) W (hg.below hb) hgd hw hs hv.sok (by rw [S0_len]; omega) (srch0 hchk hv)
  have HLC : Hid (∀ W, Below w.heap.size w W → RowAt .i64 W (.slice ao l.length ca) l) := fun W hb => hl.below hb
  have HBX := hide (And.intro c0 (And.intro c1 (And.intro c2 c3)))
  have HB1 := hide hb1
  obtain ⟨m, hm⟩ : ∃ m, m = l.length := ⟨_, rfl⟩
  have HM := hide hm
  have HSAT : Hid (∀ W g, SF W g m l m → SAt W (.slice (some ⟨g, 0, none⟩) m m) (S0 l)) := fun W g h => by rw [hm] at h ⊢; exact h.sat (by omega)
  rw [← hm] at hlen HLC ⊢
  clear hb1 hl hm hg c0 c1 c2 c3
  unfold gAgg at HSR ⊢
  go_enter Try.func16, Try.ntmps16
  go_wp2_with (at_make; refine wpList_make_full _ rfl _ _ 41 rfl (w.alloc (.cells #[.int .i64 (n : Int), va, vb, vc] 25)).heap.size 40 i0 (.agg #[.int .i64 0, .int .u64 0]) 2 Try.underlying41 hi hz0 hz1 _ _ _ _ m rfl rfl rfl rfl (by rw [hz2]; omega) (by unfold maxLen; omega) (Nat.le_refl _) ?_; intro w2 hown hgrow)
  have hA := sf_made l hown
  have hB : Below (w.alloc (.cells #[.int .i64 (n : Int), va, vb, vc] 25)).heap.size (w.alloc (.cells #[.int .i64 (n : Int), va, vb, vc] 25)) w2 := (Below.refl _ _).grown hgrow (Nat.le_refl _) (by intro k hk; cases hk)
  have hsz : (w.alloc (.cells #[.int .i64 (n : Int), va, vb, vc] 25)).heap.size = w.heap.size + 1 := by simp
  rw [hsz] at hA
  have HA := hide hA; have HB := hide hB; have HSZ := hide hsz
  clear hA hB hown hgrow hsz
  generalize (w.alloc (.cells #[.int .i64 (n : Int), va, vb, vc] 25)) = w1 at HBX HB1 HB HA hs1 HSZ
  obtain ⟨b1, hb1⟩ : ∃ b1, b1 = w.heap.size + 1 := ⟨_, rfl⟩
  rw [← hb1] at HA HSZ ⊢
  clear hb1
  go_loopw [15] (fun t wr => ∃ i : Nat, i ≤ m ∧ t = .int .i64 (i : Int) ∧ SF wr b1 m l i ∧ Below w1.heap.size w1 wr) (fun t _ => m - (RowKit.intOf t).toNat)
  case atStart => exact ⟨0, Nat.zero_le _, rfl, HA.out, HB.out⟩
  case round =>
    obtain ⟨i, him, rfl, hA, hB⟩ := hrel
    clear HA HB
    by_cases hlt : i < m
    · obtain ⟨x0, f0⟩ := hA.at_ hlt
      have HA := hide (hA.next hlt); have HB := hide hB
      obtain ⟨gb, ob, cb', hsb, hcb, d1⟩ := (HLC.out wr (below_on HB1.out hB)).cellAt i (by rw [← HM.out]; exact hlt)
      simp only [Value.slice.injEq] at hsb
      obtain ⟨k1, k2, k3⟩ := hsb
      subst k1 k3
      clear k2
      obtain ⟨x, hx⟩ : ∃ x, x = at_ l i := ⟨_, rfl⟩
      rw [← hx] at d1 HA
      clear hA hB hx
      go_wp2
      exact ⟨⟨i + 1, hlt, by simp, HA.out, HB.out.setCell (p := ⟨b1, i * 2, none⟩) (by rw [HSZ.out]; exact Nat.le_refl _) _⟩, mdec hlt⟩
    · obtain rfl : i = m := by omega
      obtain ⟨x0, x1, x2, x3⟩ := box_keep hs1 hB HBX.out
      have HBW := hide (below_on HB1.out hB)
      have HS := hide (HSAT.out _ _ hA)
      clear hA hB
      go_wp2_with (first
        | (go_at_call 27; refine (HSR.out _ HBW.out _ HS.out).mono ?_; rintro e w3 ⟨G, L, rfl, hG, hAr, hF, hb⟩; have HR := hide (And.intro hAr (And.intro hF (And.intro (Nat.le_trans HBW.out.size hG) (below_on HBW.out hb)))); clear hAr hF hb hG)
        | fail)
      go_ret
      exact ⟨G, L, rfl, HR.out.2.2.1, HR.out.1, HR.out.2.1, HR.out.2.2.2⟩
end Go.Proofs.Ytnjljhabbgceoaa
