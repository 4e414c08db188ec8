/- The reference's From: for each edge the vertex in whose row it stands. -/
import Derived.Test.YtehlciejhegndaaSrc
namespace Go.Proofs.Ytehlciejhegndaa
open Go.RowKit Go.Lib
set_option linter.unusedVariables false

/-- The first i edges' vertices. -/
def upSrc (st : List Int) (n m : Nat) (i : Int) : List Int := tab m (fun p => if (p : Int) < i then (src st n p : Int) else 0)
theorem upSrc_next {n : Nat} {st to wt : List Int} (h : Good n st to wt) {v i : Nat} (hv : v < n) (h1 : at_ st v ≤ (i : Int)) (h2 : (i : Int) < at_ st (v + 1)) :
    (upSrc st n to.length i).set i (v : Int) = upSrc st n to.length ((i : Int) + 1) := by
  unfold upSrc
  rw [tab_set]
  apply tab_congr
  intro p hp
  by_cases e : p = i
  · subst e
    rw [if_pos rfl, if_pos (by omega), src_eq h hv h1 h2]
  · rw [if_neg e]
    by_cases hl : (p : Int) < (i : Int)
    · rw [if_pos hl, if_pos (by omega)]
    · rw [if_neg hl, if_neg (by omega)]

set_option maxRecDepth 100000 in
set_option maxHeartbeats 4000000 in
theorem from_any (n : Nat) (va vb vc : Value) (st to wt : List Int) (w : World) (hg : GIs w n va vb vc st to wt) (hgd : Good n st to wt) :
    Calls Try.prog 85 #[gAgg n va vb vc] w fun e w' => ∃ g, e = .returned (.slice (some ⟨g, 0, none⟩) to.length to.length) ∧ RowAt .i64 w' (.slice (some ⟨g, 0, none⟩) to.length to.length) (tab to.length (fun p => (src st n p : Int))) ∧ Below w.heap.size w w' := by
  obtain ⟨i0, hi, hz0, hz1, hz2⟩ := info_parts Try.info3
  obtain ⟨ga, oa, ca, rfl, hca, hcm, hcell⟩ := hg.s.spot (by intro e; have := hgd.s_len; rw [e] at this; simp at this)
  obtain ⟨bo, cb, rfl⟩ := hg.t.shape
  obtain ⟨co, cc, rfl⟩ := hg.u.shape
  have hga : ga < w.heap.size := block_of_cell (hcell 0 (by have := hgd.s_len; omega))
  have hn := hgd.n_le
  have hm := hgd.m_le
  have HS := hide (fun i (hi : i < n + 1) => hcell i (by have := hgd.s_len; omega))
  have HD := hide hgd
  have hsl := hgd.s_len
  rw [hsl] at hca ⊢
  obtain ⟨c0, c1, c2, c3, hb1, hs1⟩ := boxed w (.int .i64 n) (.slice (some ⟨ga, oa, none⟩) (n + 1) ca) (.slice bo to.length cb) (.slice co wt.length cc)
  have HB1 := hide hb1
  have HN := hide (fun v i (hv : v < n) h1 h2 => upSrc_next hgd (v := v) (i := i) hv h1 h2)
  have HMO := hide (fun i (hi : i < n) => And.intro (hgd.step i hi) (And.intro (hgd.range i (by omega)) (hgd.range (i + 1) (by omega))))
  have HZ := hide (And.intro hgd.zero hgd.last)
  unfold gAgg
  obtain ⟨m, hme⟩ : ∃ m, m = to.length := ⟨_, rfl⟩
  rw [← hme] at hm HN HMO HZ ⊢
  rw [← hme] at c0 c1 c2 c3 hs1 HB1
  clear hg hcell hgd hb1 hsl hme HD
  go_enter Try.func85, Try.ntmps85
  go_wp2_with (at_make; generalize (w.alloc (.cells #[.int .i64 n, .slice (some ⟨ga, oa, none⟩) (n + 1) ca, .slice bo m cb, .slice co wt.length cc] 25)) = w1 at c0 c1 c2 c3 hs1 HB1 ⊢; refine wpList_make_full _ rfl _ _ 22 rfl w1.heap.size 3 i0 (.int .i64 0) 1 Try.underlying22 hi hz0 hz1 _ _ _ _ m rfl rfl rfl rfl (by rw [hz2]; omega) (by unfold maxLen; omega) (Nat.le_refl _) ?_; intro w2 hown hgrow)
  have hA : Arr w2 w1.heap.size (upSrc st n m (at_ st 0)) := by
    have := arr_made hown
    rw [tab_congr (h := fun p => if (p : Int) < at_ st 0 then (src st n p : Int) else 0) (fun v _ => by rw [HZ.out.1, if_neg (by omega)])] at this
    exact this
  have hB : Below w1.heap.size w1 w2 := (Below.refl _ _).grown hgrow (Nat.le_refl _) (by intro k hk; cases hk)
  have HA := hide hA; have HB := hide hB
  clear hA hB hown hgrow
  go_loopw [4] (fun t wr => ∃ v : Nat, v ≤ n ∧ t = .int .i64 v ∧ Arr wr w1.heap.size (upSrc st n m (at_ st v)) ∧ Below w1.heap.size w1 wr) (fun t _ => n - (RowKit.intOf t).toNat)
  case atStart => exact ⟨0, by omega, rfl, HA.out, HB.out⟩
  case round =>
    obtain ⟨v, hvn, rfl, hA, hB⟩ := hrel
    clear HA HB
    have x0 := (below_cell (o := 0) hB hs1).trans c0
    have x1 := (below_cell (o := 1) hB hs1).trans c1
    by_cases hlt : v < n
    · have s0 : wr.cell? ⟨ga, oa + v, none⟩ = some (.int .i64 (at_ st v)) := by
        rw [below_cell hB (show ga < w1.heap.size by have := HB1.out.size; omega), below_cell HB1.out hga]; exact HS.out v (by omega)
      obtain ⟨hmo, ⟨ha0, ha1⟩, hb0, hb1⟩ := HMO.out v hlt
      have HNX := hide (fun i => HN.out v i hlt)
      obtain ⟨a, ha⟩ : ∃ a : Nat, at_ st v = (a : Int) := ⟨(at_ st v).toNat, by omega⟩
      obtain ⟨b, hb⟩ : ∃ b : Nat, at_ st (v + 1) = (b : Int) := ⟨(at_ st (v + 1)).toNat, by omega⟩
      have HEA := hide ha; have HEB := hide hb
      rw [ha] at s0 hA hmo ha1 HNX
      rw [hb] at hmo hb1 HNX
      have HA := hide hA; have HB := hide hB
      have hab : a ≤ b := by omega
      have hbm : b ≤ m := by omega
      have HSB : Hid (∀ W, Below w1.heap.size w1 W → W.cell? ⟨ga, oa + (v + 1), none⟩ = some (.int .i64 (b : Int))) := fun W h => by
        rw [below_cell h (show ga < w1.heap.size by have := HB1.out.size; omega), below_cell HB1.out hga]; rw [← HEB.out]; exact HS.out (v + 1) (by omega)
      clear ha hb ha0 ha1 hb0 hb1 hmo hA hB
      go_wp2
      go_loopw [5] (fun t wr => ∃ i : Nat, a ≤ i ∧ i ≤ b ∧ t = .int .i64 i ∧ Arr wr w1.heap.size (upSrc st n m i) ∧ Below w1.heap.size w1 wr) (fun t _ => b - (RowKit.intOf t).toNat)
      case atStart => exact ⟨a, Nat.le_refl _, hab, rfl, HA.out, HB.out⟩
      case round =>
        obtain ⟨i, hai, hib, rfl, hA, hB⟩ := hrel
        clear HA HB s0 x0 x1
        have x1 := (below_cell (o := 1) hB hs1).trans c1
        have s1 := HSB.out _ hB
        by_cases hlt2 : i < b
        · have hcl := hA.cell i (by unfold upSrc; rw [tab_length]; omega)
          have hfr := hA.free i
          have hA2 := hA.put i (v : Int)
          rw [HNX.out i (by omega) (by omega)] at hA2
          have HA := hide hA2; have HB := hide hB
          clear hA hA2 hB
          go_wp2
          refine ⟨⟨i + 1, by omega, by omega, by simp, ?_, HB.out.setCell (p := ⟨w1.heap.size, i, none⟩) (Nat.le_refl _) _⟩, by simp [RowKit.intOf]; omega⟩
          have := HA.out
          exact_mod_cast this
        · obtain rfl : i = b := by omega
          have HA := hide hA; have HB := hide hB
          clear hA hB
          go_wp2
          refine ⟨⟨v + 1, by omega, by simp, by rw [HEB.out]; exact HA.out, HB.out⟩, by simp [RowKit.intOf]; omega⟩
    · obtain rfl : v = n := by omega
      have HA := hide hA; have HB := hide hB
      clear hA hB
      go_wp2
      go_ret
      refine ⟨w1.heap.size, rfl, ?_, below_on HB1.out HB.out⟩
      have := HA.out.row (n := m) (by unfold upSrc; rw [tab_length]) (by omega)
      unfold upSrc at this
      rw [tab_congr (h := fun p => (src st v p : Int)) (fun p hp => by rw [HZ.out.2, if_pos (by omega)])] at this
      exact this
end Go.Proofs.Ytehlciejhegndaa
