/- A circuit's twin is as it was. -/
import Derived.Test.YtdjkidgkeekenaaGreatK5
namespace Go.Proofs.YtdjkidgkeekenaaGreat
open Go.RowKit Go.Lib
set_option linter.unusedVariables false
set_option linter.unusedSimpArgs false
set_option maxRecDepth 100000 in
set_option maxHeartbeats 4000000 in
theorem twinKept_any (G C g d : Nat) (v0 v1 : Value) (ls : List (List Int)) (aw : List Int) (b : Int) (w : World) (ht : TwM w G C g d ls aw) (hr : RwsI w v0 ls) (ha : RowAt .i64 w v1 aw) (hN : Bnd ls aw) :
    Calls Tryz.prog 30 #[.agg #[.slice (some ⟨G, 0, none⟩) ls.length C, .slice (some ⟨g, 0, none⟩) aw.length d, .int .i64 b], .agg #[v0, v1, .int .i64 b]] w fun e w' => e = .returned (.bool true) ∧ Below w.heap.size w w' := by
  obtain ⟨hc1, hc2⟩ := ht.f.cap
  obtain ⟨ao, cc, rfl, hc, hc63, hrow⟩ := id hr
  obtain ⟨bo, cb, rfl⟩ := ha.shape
  obtain ⟨K, hK⟩ : ∃ K, K = ls.length := ⟨_, rfl⟩
  have hn := hN.n
  have HC1 := hide (fun W (h : Below w.heap.size w W) => intsKept_any (.slice bo aw.length cb) aw g d W (ha.below h) (ht.a.below h) hN.a)
  have HROW : Hid (∀ W, Below w.heap.size w W → ∀ i, i < K → ∃ g o vi, ao = some ⟨g, o, none⟩ ∧ W.cell? ⟨g, o + i, none⟩ = some vi ∧ RowAt .i64 W vi (rowL ls i)) := fun W h i hi => by
    obtain ⟨g, o, vi, e1, e2, e3, e4⟩ := hrow i (by rw [← hK]; exact hi)
    exact ⟨g, o, vi, e1, (below_cell h e2).trans e3, e4.below h⟩
  have HMR : Hid (∀ W, Below w.heap.size w W → ∀ i, i < K → ∃ g c, W.cell? ⟨G, i, none⟩ = some (.slice (some ⟨g, 0, none⟩) (rowL ls i).length c) ∧ M3 W g c (rowL ls i)) := fun W h i hi => (ht.f.below h).row i (by rw [← hK]; exact hi)
  have HML : Hid (∀ W, Below w.heap.size w W → ∃ q, W.cell? ⟨G, K, none⟩ = some (.slice (some ⟨q, 0, none⟩) 1 1) ∧ W.cell? ⟨q, 0, none⟩ = some (.int .i64 71)) := fun W h => by
    obtain ⟨q, e1, e2, _⟩ := (ht.f.below h).last
    exact ⟨q, by rw [hK]; exact e1, e2⟩
  have HN := hide hN
  rw [← hK] at hn hc hc1 ⊢
  clear hrow hK ha hN hr ht
  have hw1 : IntKind.i64.wrap ((K : Int) + 1) = (K : Int) + 1 := IntWalk.i64_in _ (by omega)
  have hcc : (K : Int) + 1 ≤ (C : Int) := by omega
  obtain ⟨W, hW⟩ : ∃ W, W = (w.alloc (.cells #[.slice (some ⟨G, 0, none⟩) K C, .slice (some ⟨g, 0, none⟩) aw.length d, .int .i64 b] 25)).alloc (.cells #[.slice ao K cc, .slice bo aw.length cb, .int .i64 b] 25) := ⟨_, rfl⟩
  have hbW : Below w.heap.size w W := by rw [hW]; exact below_alloc (below_alloc (Below.refl _ _) _) _
  have hA : W.heap[w.heap.size]? = some (.cells #[.slice (some ⟨G, 0, none⟩) K C, .slice (some ⟨g, 0, none⟩) aw.length d, .int .i64 b] 25 (0, 0)) := by
    rw [hW]
    exact (((Below.refl _ _).alloc (Nat.le_refl _) _).block w.heap.size (by simp)).trans (heap_new w _)
  have hB : W.heap[w.heap.size + 1]? = some (.cells #[.slice ao K cc, .slice bo aw.length cb, .int .i64 b] 25 (0, 0)) := by
    rw [hW]
    have := heap_new (w.alloc (.cells #[.slice (some ⟨G, 0, none⟩) K C, .slice (some ⟨g, 0, none⟩) aw.length d, .int .i64 b] 25)) (.cells #[.slice ao K cc, .slice bo aw.length cb, .int .i64 b] 25)
    simpa using this
  have HA := hide hA; have HB := hide hB; have HBW := hide hbW
  have a0 := cell_of hA (i := 0) rfl; have b0 := cell_of hB (i := 0) rfl
  have a1 := cell_of hA (i := 1) rfl; have b1 := cell_of hB (i := 1) rfl
  have a2 := cell_of hA (i := 2) rfl; have b2 := cell_of hB (i := 2) rfl
  clear hA hB hbW
  rw [hW] at a0 b0 a1 b1 a2 b2
  go_enter Tryz.func30, Tryz.ntmps30
  go_wp2_with fail
  rw [← hW]
  clear hW a0 b0 a1 b1 a2 b2
  refine (HC1.out W HBW.out).mono ?_
  rintro e x1 ⟨rfl, h1⟩
  have q1 := (h1.block _ (lt_of_heap HA.out)).trans HA.out
  have q2 := (h1.block _ (lt_of_heap HB.out)).trans HB.out
  have a0 := cell_of q1 (i := 0) rfl; have b0 := cell_of q2 (i := 0) rfl
  have HX1 := hide (below_on HBW.out h1); have HQ1 := hide q1; have HQ2 := hide q2
  clear h1 q1 q2
  go_wp2_with fail
  go_loopw [6] (fun t wr => ∃ i : Nat, i ≤ K ∧ t = .int .i64 i ∧ Below x1.heap.size x1 wr) (fun t _ => K - (RowKit.intOf t).toNat)
  case atStart => exact ⟨0, Nat.zero_le _, rfl, Below.refl _ _⟩
  case round =>
    obtain ⟨i, hik, rfl, hbw⟩ := hrel
    have HBX := hide hbw
    have hbt := below_on HX1.out hbw
    have HBT := hide hbt
    have q2 := (hbw.block _ (lt_of_heap HQ2.out)).trans HQ2.out
    have s0 := cell_of q2 (i := 0) rfl
    clear a0 b0
    by_cases hlt : i < K
    · have hii : (i : Int) < (K : Int) := by omega
      have hii1 : (i : Int) < ((K : Int) + 1) := by omega
      obtain ⟨g', o, vi, rfl, d0, hrow⟩ := HROW.out wr hbt i hlt
      obtain ⟨g2, c2, d2, hmk⟩ := HMR.out wr hbt i hlt
      obtain ⟨vo, vc, rfl⟩ := hrow.shape
      have HC := hide (fun (x : GW wr) => intsKept_any (.slice vo (rowL ls i).length vc) _ g2 c2 x.world (hrow.below x.bel) (hmk.below x.bel) (HN.out.r i))
      have HD := fun (x : GW wr) => (below_cell x.bel (block_of_cell d0)).trans d0
      have HD2 := fun (x : GW wr) => (below_cell x.bel (block_of_cell d2)).trans d2
      have HS0 := fun (x : GW wr) => (below_cell x.bel (block_of_cell s0)).trans s0
      clear d0 d2 hrow hmk hbw hbt q2
      go_wp2_with fail
      refine wp_region_gw (by kernel_rfl) (by kernel_rfl) ?_
      repeat (go_big_quiet_step (first
        | (go_at_call 57; exact gw_of (HC.out _))
        | rfl))
      refine wpQuiet_nil ?_
      intro _ hw'
      obtain ⟨x, hw''⟩ := hw'
      subst hw''
      go_wp2
      exact ⟨⟨i + 1, hlt, by simp, below_on HBX.out x.bel⟩, mdecR hlt⟩
    · obtain rfl : i = K := by omega
      obtain ⟨q, d0, d2⟩ := HML.out wr hbt
      have hii1 : (i : Int) < ((i : Int) + 1) := by omega
      clear hbw hbt q2
      go_wp2
      go_ret
      exact ⟨rfl, HBT.out⟩
end Go.Proofs.YtdjkidgkeekenaaGreat
