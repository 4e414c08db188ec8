/- The reference's search over a graph without edges: that it comes to an end. -/
import Derived.Test.YtehlciejhegndaaFirstS
namespace Go.Proofs.Ytehlciejhegndaa
open Go.RowKit Go.Lib
set_option linter.unusedVariables false

def SomeLabels (w : World) (n : Nat) (e : Ending) (w' : World) : Prop := ∃ G L, e = .returned (.slice (some ⟨G, 0, none⟩) n n) ∧ ArrU w' G L ∧ L.length = n ∧ Below w.heap.size w w'

set_option maxRecDepth 100000 in
set_option maxHeartbeats 8000000 in
theorem begin_any (n : Nat) (va vb vc : Value) (sv : Value) (S : List Pr) (w : World) (hn : n ≤ 1048576) (hs : SAt w sv S) (hok : Sok n S) (hS : S.length * 16 ≤ 140737488353280) :
    Calls Try.prog 105 #[gAgg n va vb vc, sv] w (SomeLabels w n) := by
  obtain ⟨i0, hi, hz0, hz1, hz2⟩ := info_parts Try.info26
  obtain ⟨so, sc, rfl, hsc, hscm⟩ := hs.shape
  obtain ⟨c0, c1, c2, c3, hb1, hs1⟩ := boxed w (.int .i64 n) va vb vc
  have HB1 := hide hb1
  have HS1 := hide (hs.below hb1)
  have HOK := hide hok
  unfold gAgg
  clear hb1 hs hok c1 c2 c3
  go_enter Try.func105, Try.ntmps105
  go_wp2_with (at_make; generalize (w.alloc (.cells #[.int .i64 n, va, vb, vc] 25)) = w1 at c0 hs1 HB1 HS1 ⊢; refine wpList_make_full _ rfl _ _ 23 rfl w1.heap.size 26 i0 (.int .u64 0) 1 Try.underlying23 hi hz0 hz1 _ _ _ _ n rfl rfl rfl rfl (by rw [hz2]; omega) (by unfold maxLen; omega) (Nat.le_refl _) ?_; intro w2 hown hgrow)
  have hA := arru_made hown
  have hB : Below w1.heap.size w1 w2 := (Below.refl _ _).grown hgrow (Nat.le_refl _) (by intro k hk; cases hk)
  have HA := hide hA; have HB := hide hB
  clear hA hB hown hgrow
  go_loopw [6] (fun t wr => ∃ (i : Nat) (L : List Int), i ≤ n ∧ t = .int .i64 i ∧ ArrU wr w1.heap.size L ∧ L.length = n ∧ Below w1.heap.size w1 wr) (fun t _ => n - (RowKit.intOf t).toNat)
  case atStart => exact ⟨0, _, by omega, rfl, HA.out, tab_length _ _, HB.out⟩
  case round =>
    obtain ⟨i, L, hin, rfl, hA, hL, hB⟩ := hrel
    clear HA HB
    have x0 := (below_cell (o := 0) hB hs1).trans c0
    by_cases hlt : i < n
    · have hcl := hA.cell i (by omega)
      have hfr := hA.free i
      have HA := hide (hA.put i 18446744073709551615); have HB := hide hB
      have HL := hide (show (L.set i 18446744073709551615).length = n by rw [List.length_set]; exact hL)
      clear hA hB hL
      go_wp2
      exact ⟨⟨i + 1, _, by omega, by simp, HA.out, HL.out, HB.out.setCell (p := ⟨w1.heap.size, i, none⟩) (Nat.le_refl _) _⟩, by simp [RowKit.intOf]; omega⟩
    · obtain rfl : i = n := by omega
      have HA := hide hA; have HB := hide hB; have HL := hide hL
      obtain ⟨M, hM⟩ : ∃ M, M = S.length := ⟨_, rfl⟩
      rw [← hM] at hsc hS HS1 ⊢
      have HM := hide hM
      clear hA hB hM hL
      obtain ⟨wq, hwq⟩ : ∃ wq, wq = wr := ⟨_, rfl⟩
      subst hwq
      go_wp2
      go_loopw [7] (fun t wr => ∃ (j : Nat) (L : List Int), j ≤ M ∧ t = .int .i64 j ∧ ArrU wr w1.heap.size L ∧ L.length = i ∧ Below w1.heap.size w1 wr) (fun t _ => M - (RowKit.intOf t).toNat)
      case atStart => exact ⟨0, _, by omega, rfl, HA.out, HL.out, HB.out⟩
      case round =>
        obtain ⟨j, L, hjM, rfl, hA, hL, hB⟩ := hrel
        by_cases hlt2 : j < M
        · obtain ⟨g, o, he, p0, p1⟩ := (HS1.out.below hB).cellAt j (by have := HM.out; omega)
          subst he
          obtain ⟨v, hv⟩ : ∃ v : Nat, (sAt S j).1 = (v : Int) := ⟨((sAt S j).1).toNat, by have := (HOK.out j (by have := HM.out; omega)).1; omega⟩
          have hvn : v < i := by have := (HOK.out j (by have := HM.out; omega)).1; omega
          rw [hv] at p0
          have f0 := hA.cell v (by omega)
          have ff := hA.free v
          obtain ⟨y, hy⟩ : ∃ y, y = (sAt S j).2 := ⟨_, rfl⟩
          rw [← hy] at p1
          obtain ⟨z, hz⟩ : ∃ z, z = at_ L v := ⟨_, rfl⟩
          rw [← hz] at f0
          have HA3 := hide hA; have HB3 := hide hB; have HL3 := hide hL
          have HL4 := hide (show (L.set v y).length = i by rw [List.length_set]; exact hL)
          have hji : (j : Int) < (M : Int) := by omega
          have hvi : (v : Int) < (i : Int) := by omega
          clear hA hB hL hy hz HA HB HL
          by_cases hc : y < z
          · have hd : decide (y < z) = true := decide_eq_true hc
            go_wp2_with fail
            go_quiet (fail)
            go_wp2_with fail
            go_region
            all_goals
              go_wp2
              exact ⟨⟨j + 1, _, by omega, by simp, ArrU.put (show ArrU (wr.drewN _) _ _ from HA3.out) v y, HL4.out, (below_drewN HB3.out _).setCell (p := ⟨w1.heap.size, v, none⟩) (Nat.le_refl _) _⟩, by simp [RowKit.intOf]; omega⟩
          · have hd : decide (y < z) = false := decide_eq_false hc
            go_wp2_with fail
            go_quiet (fail)
            go_wp2
            exact ⟨⟨j + 1, L, by omega, by simp, show ArrU (wr.drewN _) _ _ from HA3.out, HL3.out, below_drewN HB3.out _⟩, by simp [RowKit.intOf]; omega⟩
        · obtain rfl : j = M := by omega
          go_wp2
          go_ret
          exact ⟨w1.heap.size, L, rfl, hA, hL, below_on HB1.out hB⟩

set_option maxRecDepth 100000 in
set_option maxHeartbeats 8000000 in
theorem longer_none (n : Nat) (va : Value) (fo : Option Addr) (fc : Nat) (k : Int) (G : Nat) (L : List Int) (w : World) (hn : n ≤ 1048576) (hA0 : ArrU w G L) (hL0 : L.length = n) :
    Calls Try.prog 106 #[gAgg n va (.slice none 0 0) (.slice none 0 0), .slice fo 0 fc, .int .i64 k, .slice (some ⟨G, 0, none⟩) n n] w fun e w' => ∃ G' L', e = .returned (.tuple #[.slice (some ⟨G', 0, none⟩) n n, .bool false]) ∧ ArrU w' G' L' ∧ L'.length = n ∧ Below w.heap.size w w' := by
  obtain ⟨i0, hi, hz0, hz1, hz2⟩ := info_parts Try.info26
  obtain ⟨c0, c1, c2, c3, hb1, hs1⟩ := boxed w (.int .i64 n) va (.slice none 0 0) (.slice none 0 0)
  have HB1 := hide hb1
  have hGw := lt_of_heap hA0
  have HA1 : Hid (ArrU (w.alloc (.cells #[.int .i64 n, va, .slice none 0 0, .slice none 0 0] 25)) G L) := (hb1.block G hGw).trans hA0
  have hG1 : G < (w.alloc (.cells #[.int .i64 n, va, .slice none 0 0, .slice none 0 0] 25)).heap.size := by simp; omega
  unfold gAgg
  clear hb1 hA0 c0 c1 c3
  go_enter Try.func106, Try.ntmps106
  go_wp2_with (at_make; generalize (w.alloc (.cells #[.int .i64 n, va, .slice none 0 0, .slice none 0 0] 25)) = w1 at c2 hs1 HB1 HA1 hG1 ⊢; refine wpList_make_full _ rfl _ _ 23 rfl w1.heap.size 26 i0 (.int .u64 0) 1 Try.underlying23 hi hz0 hz1 _ _ _ _ n rfl rfl rfl rfl (by rw [hz2]; omega) (by unfold maxLen; omega) (Nat.le_refl _) ?_; intro w2 hown hgrow)
  have hA := arru_made hown
  have hB : Below w1.heap.size w1 w2 := (Below.refl _ _).grown hgrow (Nat.le_refl _) (by intro k hk; cases hk)
  have HA := hide hA; have HB := hide hB
  clear hA hB hown hgrow
  go_loopw [11] (fun t wr => ∃ (i : Nat) (M : List Int), i ≤ n ∧ t = .int .i64 i ∧ ArrU wr w1.heap.size M ∧ M.length = n ∧ Below w1.heap.size w1 wr) (fun t _ => n - (RowKit.intOf t).toNat)
  case atStart => exact ⟨0, _, by omega, rfl, HA.out, tab_length _ _, HB.out⟩
  case round =>
    obtain ⟨i, M, hin, rfl, hA, hM, hB⟩ := hrel
    clear HA HB
    have x2 := (below_cell (o := 2) hB hs1).trans c2
    by_cases hlt : i < n
    · have hcl := hA.cell i (by omega)
      have hfr := hA.free i
      have hrd : wr.cell? ⟨G, i, none⟩ = some (.int .u64 (at_ L i)) := (below_cell hB hG1).trans (HA1.out.cell i (by omega))
      have HA := hide (hA.put i (at_ L i)); have HB := hide hB
      have HM := hide (show (M.set i (at_ L i)).length = n by rw [List.length_set]; exact hM)
      obtain ⟨z, hz⟩ : ∃ z, z = at_ L i := ⟨_, rfl⟩
      rw [← hz] at hrd HA HM
      clear hA hB hM hz
      go_wp2
      exact ⟨⟨i + 1, _, by omega, by simp, HA.out, HM.out, HB.out.setCell (p := ⟨w1.heap.size, i, none⟩) (Nat.le_refl _) _⟩, by simp [RowKit.intOf]; omega⟩
    · obtain rfl : i = n := by omega
      have HA := hide hA; have HB := hide hB; have HM := hide hM
      clear hA hB hM
      go_wp2
      refine wp_loop_rounds 1 ?_
      rw [rounds_succ]
      go_wp2
      go_ret2
      exact ⟨w1.heap.size, M, rfl, HA.out, HM.out, below_on HB1.out HB.out⟩

set_option maxRecDepth 100000 in
set_option maxHeartbeats 8000000 in
theorem least_none (n : Nat) (va : Value) (st : List Int) (k : Int) (sv : Value) (S : List Pr) (w : World) (hg : GIs w n va (.slice none 0 0) (.slice none 0 0) st [] []) (hgd : Good n st [] []) (hs : SAt w sv S) (hok : Sok n S) (hS : S.length * 16 ≤ 140737488353280) :
    Calls Try.prog 69 #[gAgg n va (.slice none 0 0) (.slice none 0 0), .int .i64 k, sv] w (SomeLabels w n) := by
  have hn := hgd.n_le
  obtain ⟨ao, ca, rfl⟩ := hg.s.shape
  obtain ⟨so, sc, rfl, hsc, hscm⟩ := hs.shape
  obtain ⟨c0, c1, c2, c3, hb1, hs1⟩ := boxed w (.int .i64 n) (.slice ao st.length ca) (.slice none 0 0) (.slice none 0 0)
  have HFR := hide (from_any n _ _ _ st [] [] _ (hg.below hb1) hgd)
  have HBE := hide (fun W h => begin_any n (.slice ao st.length ca) (.slice none 0 0) (.slice none 0 0) (.slice so S.length sc) S W hn h hok hS)
  have HLO := hide (fun fo fc G L W a b => longer_none n (.slice ao st.length ca) fo fc k G L W hn a b)
  have HB1 := hide hb1
  have HS1 := hide (hs.below hb1)
  unfold gAgg at HFR HBE HLO ⊢
  clear hb1 hg hs hok hgd
  go_enter Try.func69, Try.ntmps69
  go_wp2_with fail
  generalize (w.alloc (.cells #[.int .i64 n, .slice ao st.length ca, .slice none 0 0, .slice none 0 0] 25)) = w1 at c0 c1 c2 c3 hs1 HB1 HS1 HFR ⊢
  refine HFR.out.mono ?_
  rintro e w2 ⟨gf, rfl, _, hb2⟩
  obtain ⟨x0, x1, x2, x3⟩ := box_keep hs1 hb2 ⟨c0, c1, c2, c3⟩
  have HBX := hide (box_keep hs1 hb2 ⟨c0, c1, c2, c3⟩)
  have HB2 := hide (below_on HB1.out hb2)
  have HS2 := hide (HS1.out.below hb2)
  have hs2 : w.heap.size < w2.heap.size := by have := hb2.size; omega
  clear c0 c1 c2 c3 hb2 HFR HS1 HB1 hs1
  go_wp2_with fail
  refine (HBE.out w2 HS2.out).mono ?_
  rintro e w3 ⟨G, L, rfl, hA, hL, hb3⟩
  clear x0 x1 x2 x3
  obtain ⟨x0, x1, x2, x3⟩ := box_keep hs2 hb3 HBX.out
  have HB3 := hide (below_on HB2.out hb3)
  have HLG := hide (HLO.out (some ⟨gf, 0, none⟩) 0 G L w3 hA hL)
  clear hA hL hb3 HBE
  go_wp2
  refine wp_loop_rounds 2 ?_
  rw [rounds_succ]
  go_wp2_with fail
  refine HLG.out.mono ?_
  rintro e w4 ⟨G2, L2, rfl, hA2, hL2, hb4⟩
  have HE : Hid (SomeLabels w n (.returned (.slice (some ⟨G2, 0, none⟩) n n)) w4) := ⟨G2, L2, rfl, hA2, hL2, below_on HB3.out hb4⟩
  clear hA2 hL2 hb4 x0 x1 x2 x3
  go_wp2
  rw [rounds_succ]
  go_wp2
  go_ret
  exact HE.out

end Go.Proofs.Ytehlciejhegndaa
