import Derived.Test.YthoklgdlnmccmaaCheck
import Derived.Test.YthoklgdlnmccmaaLists
import Derived.Test.YthoklgdlnmccmaaStG
import Derived.Deep.CutRange
import Derived.Deep.AppendLies
import Derived.Deep.RegionHeld
import Derived.Test.YthoklgdlnmccmaaLen
import Derived.BigQuiet
import Derived.Test.YthoklgdlnmccmaaTreeC
/- The law's comparisons, where the two are alike. -/
namespace Go.Proofs.Ythoklgdlnmccmaa
open Go.RowKit Go.Lib
set_option linter.unusedVariables false
set_option maxRecDepth 100000 in
theorem vWords_empty (v1 v2 : Value) (w : World) (h1 : RowAt .u64 w v1 []) (h2 : RowAt .u64 w v2 []) :
    Calls Try.prog 67 #[v1, v2] w fun e w' => e = .returned (.bool true) ∧ Below w.heap.size w w' := by
  obtain ⟨a1, c1, rfl⟩ := h1.empty
  obtain ⟨a2, c2, rfl⟩ := h2.empty
  clear h1 h2
  go_enter Try.func67, Try.ntmps67
  go_wp2
  refine wp_loop_rounds 1 ?_
  rw [rounds_succ]
  go_wp2
  go_ret
  exact ⟨rfl, Below.refl _ _⟩

set_option maxRecDepth 100000 in
theorem vWords_any (v1 v2 : Value) (xs : List Int) (w : World) (h1 : RowAt .u64 w v1 xs) (h2 : RowAt .u64 w v2 xs) :
    Calls Try.prog 67 #[v1, v2] w fun e w' => e = .returned (.bool true) ∧ Below w.heap.size w w' := by
  by_cases hne : xs = []
  · subst hne; exact vWords_empty v1 v2 w h1 h2
  · obtain ⟨g1, o1, c1, rfl, hc1, hm1, hcell1⟩ := h1.spot hne
    obtain ⟨g2, o2, c2, rfl, hc2, hm2, hcell2⟩ := h2.spot hne
    clear h1 h2 hne
    obtain ⟨n, hn⟩ : ∃ n, n = xs.length := ⟨_, rfl⟩
    rw [← hn] at hcell1 hcell2 hc1 hc2 ⊢
    have H1 := hide hcell1; have H2 := hide hcell2
    clear hcell1 hcell2 hn
    go_enter Try.func67, Try.ntmps67
    go_wp2
    go_loopw [5] (fun t wr => ∃ k : Nat, k ≤ n ∧ t = .int .i64 k ∧ ∃ m, wr = w.drewN m) (fun t _ => n - (RowKit.intOf t).toNat)
    case atStart => exact ⟨0, by omega, rfl, 0, rfl⟩
    case round =>
      obtain ⟨k, hk, rfl, m, rfl⟩ := hrel
      by_cases hlt : k < n
      · have d1 := H1.out k hlt
        have d2 := H2.out k hlt
        go_wp2
        go_region
        all_goals
          go_wp2
          go_roundw
          case rel => exact ⟨k + 1, by omega, by go_num, m + 1, rfl⟩
          case measure => simp [RowKit.intOf]; omega
      · go_wp2
        go_ret
        exact ⟨rfl, below_drewN (Below.refl _ _) _⟩

set_option maxRecDepth 100000 in
theorem vInts_empty (v1 v2 : Value) (w : World) (h1 : RowAt .i64 w v1 []) (h2 : RowAt .i64 w v2 []) :
    Calls Try.prog 69 #[v1, v2] w fun e w' => e = .returned (.bool true) ∧ Below w.heap.size w w' := by
  obtain ⟨a1, c1, rfl⟩ := h1.empty
  obtain ⟨a2, c2, rfl⟩ := h2.empty
  clear h1 h2
  go_enter Try.func69, Try.ntmps69
  go_wp2
  refine wp_loop_rounds 1 ?_
  rw [rounds_succ]
  go_wp2
  go_ret
  exact ⟨rfl, Below.refl _ _⟩

set_option maxRecDepth 100000 in
theorem vInts_any (v1 v2 : Value) (xs : List Int) (w : World) (h1 : RowAt .i64 w v1 xs) (h2 : RowAt .i64 w v2 xs) :
    Calls Try.prog 69 #[v1, v2] w fun e w' => e = .returned (.bool true) ∧ Below w.heap.size w w' := by
  by_cases hne : xs = []
  · subst hne; exact vInts_empty v1 v2 w h1 h2
  · obtain ⟨g1, o1, c1, rfl, hc1, hm1, hcell1⟩ := h1.spot hne
    obtain ⟨g2, o2, c2, rfl, hc2, hm2, hcell2⟩ := h2.spot hne
    clear h1 h2 hne
    obtain ⟨n, hn⟩ : ∃ n, n = xs.length := ⟨_, rfl⟩
    rw [← hn] at hcell1 hcell2 hc1 hc2 ⊢
    have H1 := hide hcell1; have H2 := hide hcell2
    clear hcell1 hcell2 hn
    go_enter Try.func69, Try.ntmps69
    go_wp2
    go_loopw [5] (fun t wr => ∃ k : Nat, k ≤ n ∧ t = .int .i64 k ∧ ∃ m, wr = w.drewN m) (fun t _ => n - (RowKit.intOf t).toNat)
    case atStart => exact ⟨0, by omega, rfl, 0, rfl⟩
    case round =>
      obtain ⟨k, hk, rfl, m, rfl⟩ := hrel
      by_cases hlt : k < n
      · have d1 := H1.out k hlt
        have d2 := H2.out k hlt
        go_wp2
        go_region
        all_goals
          go_wp2
          go_roundw
          case rel => exact ⟨k + 1, by omega, by go_num, m + 1, rfl⟩
          case measure => simp [RowKit.intOf]; omega
      · go_wp2
        go_ret
        exact ⟨rfl, below_drewN (Below.refl _ _) _⟩

set_option maxRecDepth 100000 in
theorem rInts_empty (v1 v2 : Value) (w : World) (h1 : RowAt .i64 w v1 []) (h2 : RowAt .i64 w v2 []) :
    Calls Try.prog 134 #[v1, v2] w fun e w' => e = .returned (.bool true) ∧ Below w.heap.size w w' := by
  obtain ⟨a1, c1, rfl⟩ := h1.empty
  obtain ⟨a2, c2, rfl⟩ := h2.empty
  clear h1 h2
  go_enter Try.func134, Try.ntmps134
  go_wp2
  refine wp_loop_rounds 1 ?_
  rw [rounds_succ]
  go_wp2
  go_ret
  exact ⟨rfl, Below.refl _ _⟩

set_option maxRecDepth 100000 in
theorem rInts_any (v1 v2 : Value) (xs : List Int) (w : World) (h1 : RowAt .i64 w v1 xs) (h2 : RowAt .i64 w v2 xs) :
    Calls Try.prog 134 #[v1, v2] w fun e w' => e = .returned (.bool true) ∧ Below w.heap.size w w' := by
  by_cases hne : xs = []
  · subst hne; exact rInts_empty v1 v2 w h1 h2
  · obtain ⟨g1, o1, c1, rfl, hc1, hm1, hcell1⟩ := h1.spot hne
    obtain ⟨g2, o2, c2, rfl, hc2, hm2, hcell2⟩ := h2.spot hne
    clear h1 h2 hne
    obtain ⟨n, hn⟩ : ∃ n, n = xs.length := ⟨_, rfl⟩
    rw [← hn] at hcell1 hcell2 hc1 hc2 ⊢
    have H1 := hide hcell1; have H2 := hide hcell2
    clear hcell1 hcell2 hn
    go_enter Try.func134, Try.ntmps134
    go_wp2
    go_loopw [5] (fun t wr => ∃ k : Nat, k ≤ n ∧ t = .int .i64 k ∧ ∃ m, wr = w.drewN m) (fun t _ => n - (RowKit.intOf t).toNat)
    case atStart => exact ⟨0, by omega, rfl, 0, rfl⟩
    case round =>
      obtain ⟨k, hk, rfl, m, rfl⟩ := hrel
      by_cases hlt : k < n
      · have d1 := H1.out k hlt
        have d2 := H2.out k hlt
        go_wp2
        go_region
        all_goals
          go_wp2
          go_roundw
          case rel => exact ⟨k + 1, by omega, by go_num, m + 1, rfl⟩
          case measure => simp [RowKit.intOf]; omega
      · go_wp2
        go_ret
        exact ⟨rfl, below_drewN (Below.refl _ _) _⟩

set_option maxRecDepth 100000 in
theorem tWords_empty (v1 v2 : Value) (w : World) (h1 : RowAt .u64 w v1 []) (h2 : RowAt .u64 w v2 []) :
    Calls Try.prog 55 #[v1, v2] w fun e w' => e = .returned (.bool true) ∧ Below w.heap.size w w' := by
  obtain ⟨a1, c1, rfl⟩ := h1.empty
  obtain ⟨a2, c2, rfl⟩ := h2.empty
  clear h1 h2
  go_enter Try.func55, Try.ntmps55
  go_wp2
  refine wp_loop_rounds 1 ?_
  rw [rounds_succ]
  go_wp2
  go_ret
  exact ⟨rfl, Below.refl _ _⟩

set_option maxRecDepth 100000 in
theorem tWords_any (v1 v2 : Value) (xs : List Int) (w : World) (h1 : RowAt .u64 w v1 xs) (h2 : RowAt .u64 w v2 xs) :
    Calls Try.prog 55 #[v1, v2] w fun e w' => e = .returned (.bool true) ∧ Below w.heap.size w w' := by
  by_cases hne : xs = []
  · subst hne; exact tWords_empty v1 v2 w h1 h2
  · obtain ⟨g1, o1, c1, rfl, hc1, hm1, hcell1⟩ := h1.spot hne
    obtain ⟨g2, o2, c2, rfl, hc2, hm2, hcell2⟩ := h2.spot hne
    clear h1 h2 hne
    obtain ⟨n, hn⟩ : ∃ n, n = xs.length := ⟨_, rfl⟩
    rw [← hn] at hcell1 hcell2 hc1 hc2 ⊢
    have H1 := hide hcell1; have H2 := hide hcell2
    clear hcell1 hcell2 hn
    go_enter Try.func55, Try.ntmps55
    go_wp2
    go_loopw [5] (fun t wr => ∃ k : Nat, k ≤ n ∧ t = .int .i64 k ∧ ∃ m, wr = w.drewN m) (fun t _ => n - (RowKit.intOf t).toNat)
    case atStart => exact ⟨0, by omega, rfl, 0, rfl⟩
    case round =>
      obtain ⟨k, hk, rfl, m, rfl⟩ := hrel
      by_cases hlt : k < n
      · have d1 := H1.out k hlt
        have d2 := H2.out k hlt
        go_wp2
        go_region
        all_goals
          go_wp2
          go_roundw
          case rel => exact ⟨k + 1, by omega, by go_num, m + 1, rfl⟩
          case measure => simp [RowKit.intOf]; omega
      · go_wp2
        go_ret
        exact ⟨rfl, below_drewN (Below.refl _ _) _⟩

set_option maxRecDepth 100000 in
set_option maxHeartbeats 4000000 in
theorem sameG_any (N : Int) (va vb vc va' vb' vc' : Value) (st tl wt : List Int) (w : World) (hg : GIs w N va vb vc st tl wt) (hg' : GIs w N va' vb' vc' st tl wt) (hwt : wt.length ≤ 17592186044416) :
    Calls Try.prog 110 #[gAgg N va vb vc, gAgg N va' vb' vc'] w fun e w' => e = .returned (.bool true) ∧ Below w.heap.size w w' := by
  obtain ⟨ao, ca, rfl⟩ := hg.s.shape
  obtain ⟨bo, cb, rfl⟩ := hg.t.shape
  obtain ⟨co, cc, rfl⟩ := hg.u.shape
  obtain ⟨ao', ca', rfl⟩ := hg'.s.shape
  obtain ⟨bo', cb', rfl⟩ := hg'.t.shape
  obtain ⟨co', cc', rfl⟩ := hg'.u.shape
  have HG := hide hg; have HG' := hide hg'
  clear hg hg'
  unfold gAgg
  obtain ⟨W, hW⟩ : ∃ W, W = (w.alloc (.cells #[.int .i64 N, .slice ao st.length ca, .slice bo tl.length cb, .slice co wt.length cc] 32)).alloc (.cells #[.int .i64 N, .slice ao' st.length ca', .slice bo' tl.length cb', .slice co' wt.length cc'] 32) := ⟨_, rfl⟩
  have hb1 : Below w.heap.size w (w.alloc (.cells #[.int .i64 N, .slice ao st.length ca, .slice bo tl.length cb, .slice co wt.length cc] 32)) := (Below.refl _ _).alloc (Nat.le_refl _) _
  have hbW : Below w.heap.size w W := by rw [hW]; exact hb1.alloc hb1.size _
  have hA : W.heap[w.heap.size]? = some (.cells #[.int .i64 N, .slice ao st.length ca, .slice bo tl.length cb, .slice co wt.length cc] 32 (0, 0)) := by
    rw [hW]
    exact (((Below.refl _ _).alloc (Nat.le_refl _) _).block w.heap.size (by simp)).trans (heap_new w _)
  have hB : W.heap[w.heap.size + 1]? = some (.cells #[.int .i64 N, .slice ao' st.length ca', .slice bo' tl.length cb', .slice co' wt.length cc'] 32 (0, 0)) := by
    rw [hW]
    have := heap_new (w.alloc (.cells #[.int .i64 N, .slice ao st.length ca, .slice bo tl.length cb, .slice co wt.length cc] 32)) (.cells #[.int .i64 N, .slice ao' st.length ca', .slice bo' tl.length cb', .slice co' wt.length cc'] 32)
    simpa using this
  have HA := hide hA; have HB := hide hB; have HBW := hide hbW
  have HGW := hide (HG.out.below hbW); have HGW' := hide (HG'.out.below hbW)
  have a0 := cell_of hA (i := 0) rfl; have a1 := cell_of hA (i := 1) rfl; have a2 := cell_of hA (i := 2) rfl; have a3 := cell_of hA (i := 3) rfl
  have b0 := cell_of hB (i := 0) rfl; have b1 := cell_of hB (i := 1) rfl; have b2 := cell_of hB (i := 2) rfl; have b3 := cell_of hB (i := 3) rfl
  have hWA : w.heap.size < W.heap.size := lt_of_heap hA
  have hWB : w.heap.size + 1 < W.heap.size := lt_of_heap hB
  clear hA hB hbW hb1
  go_enter Try.func110, Try.ntmps110
  go_wp2_with fail
  rw [← hW]
  clear hW
  refine (rInts_any _ _ st W HGW.out.s HGW'.out.s).mono ?_
  rintro e w1 ⟨rfl, hb1⟩
  have a2' := (below_cell (o := 2) hb1 hWA).trans a2
  have a3' := (below_cell (o := 3) hb1 hWA).trans a3
  have b2' := (below_cell (o := 2) hb1 hWB).trans b2
  have b3' := (below_cell (o := 3) hb1 hWB).trans b3
  have HB1 := hide hb1
  clear hb1 a0 a1 a2 a3 b0 b1 b2 b3
  go_wp2_with fail
  refine (rInts_any _ _ tl w1 (HGW.out.below HB1.out).t (HGW'.out.below HB1.out).t).mono ?_
  rintro e w2 ⟨rfl, hb2⟩
  have hs1 : w.heap.size < w1.heap.size := by have := HB1.out.size; omega
  have hs2 : w.heap.size + 1 < w1.heap.size := by have := HB1.out.size; omega
  have a3 := (below_cell (o := 3) hb2 hs1).trans a3'
  have b3 := (below_cell (o := 3) hb2 hs2).trans b3'
  have HG2 := hide ((HGW.out.below HB1.out).below hb2)
  have HG2' := hide ((HGW'.out.below HB1.out).below hb2)
  have HB2 : Hid (Below w.heap.size w w2) := (HBW.out.trans (HB1.out.mono HBW.out.size)).trans (hb2.mono (by have := HBW.out.size; have := HB1.out.size; omega))
  clear hb2 a2' a3' b2' b3' HB1
  have HL := hide (fun i (hi : i < wt.length) => And.intro (HG2.out.u.cellAt i hi) (HG2'.out.u.cellAt i hi))
  obtain ⟨m, hm⟩ : ∃ m, m = wt.length := ⟨_, rfl⟩
  rw [← hm] at HL hwt a3 b3 ⊢
  clear hm
  go_wp2
  go_loopw [5] (fun t wr => ∃ k : Nat, k ≤ m ∧ t = .int .i64 k ∧ ∃ j, wr = w2.drewN j) (fun t _ => m - (RowKit.intOf t).toNat)
  case atStart => exact ⟨0, by omega, rfl, 0, rfl⟩
  case round =>
    obtain ⟨k, hk, rfl, j, rfl⟩ := hrel
    by_cases hlt : k < m
    · obtain ⟨⟨g, o, c, hs, hc, d1⟩, ⟨g', o', c', hs', hc', d2⟩⟩ := HL.out k hlt
      simp only [Value.slice.injEq, true_and] at hs hs'
      obtain ⟨rfl, rfl⟩ := hs
      obtain ⟨rfl, rfl⟩ := hs'
      have hki : (k : Int) < (m : Int) := by omega
      go_wp2
      go_region
      all_goals
        go_wp2
        go_roundw
        case rel => exact ⟨k + 1, by omega, by go_num, _, rfl⟩
        case measure => simp [RowKit.intOf]; omega
    · go_wp2
      go_ret
      exact ⟨rfl, below_drewN HB2.out _⟩
end Go.Proofs.Ythoklgdlnmccmaa

/- Lists with two marks behind them; that they are kept. -/
namespace Go.Proofs.Ythoklgdlnmccmaa
open Go.RowKit Go.Lib
set_option linter.unusedVariables false
def M2 (k : IntKind) (w : World) (g c : Nat) (xs : List Int) (m1 m2 : Int) : Prop := RowAt k w (.slice (some ⟨g, 0, none⟩) (xs.length + 2) c) (xs ++ [m1, m2])
section
variable {k : IntKind} {w w' : World} {g c : Nat} {xs : List Int} {m1 m2 : Int}
theorem M2.row (h : M2 k w g c xs m1 m2) : RowAt k w (.slice (some ⟨g, 0, none⟩) xs.length c) xs := RowAt.front h
theorem M2.below (h : M2 k w g c xs m1 m2) (hb : Below w.heap.size w w') : M2 k w' g c xs m1 m2 := RowAt.below h hb
theorem M2.ends (h : M2 k w g c xs m1 m2) : w.cell? ⟨g, xs.length, none⟩ = some (.int k m1) ∧ w.cell? ⟨g, xs.length + 1, none⟩ = some (.int k m2) ∧ xs.length + 2 ≤ c ∧ c ≤ 9223372036854775807 := by
  obtain ⟨ao, c', he, h1, h2, _, h4⟩ := h
  simp only [Value.slice.injEq] at he
  obtain ⟨rfl, _, rfl⟩ := he
  have a := h4 _ rfl xs.length (by simp)
  have b := h4 _ rfl (xs.length + 1) (by simp)
  rw [Addr.add_lit] at a b
  have e1 : (xs ++ [m1, m2]).getD xs.length 0 = m1 := by simp [List.getD]
  have e2 : (xs ++ [m1, m2]).getD (xs.length + 1) 0 = m2 := by simp [List.getD]
  rw [e1, Nat.zero_add] at a
  rw [e2, Nat.zero_add] at b
  simp at h1
  exact ⟨a, b, h1, h2⟩
end
set_option maxRecDepth 100000 in
set_option maxHeartbeats 2000000 in
theorem ints2_any (xv : Value) (xs : List Int) (w : World) (hx : RowAt .i64 w xv xs) (hb : xs.length * 8 ≤ 140737488351232) :
    Calls Try.prog 106 #[xv] w fun e w' => ∃ g c, e = .returned (.slice (some ⟨g, 0, none⟩) xs.length c) ∧ w.heap.size ≤ g ∧ M2 .i64 w' g c xs (-81) (-82) ∧ Below w.heap.size w w' := by
  obtain ⟨i0, hi, hz0, hz1, hz2⟩ := info_parts Try.info3
  obtain ⟨ao, ca, rfl⟩ : ∃ ao c, xv = .slice ao xs.length c := by obtain ⟨ao, c, h, _⟩ := hx; exact ⟨ao, c, h⟩
  have HX := hide hx
  clear hx
  go_enter Try.func106, Try.ntmps106
  go_wp2_with (first
    | (at_builtin; refine wpList_fresh rfl (.tmp 4) (.tmp 5) 29 rfl .i64 3 i0 (.int .i64 0) 8 Try.underlying29 hi hz0 hz1 hz2 rfl w.heap.size _ (own_new _ 3 w.heap.size rfl) (by simp) _ xs rfl rfl (HX.out.below (below_alloc (Below.refl _ _) _)) (by omega) (by unfold maxLen; omega) ?_; intro v1 w1a hownA1 hbelA1)
    | (at_builtin; refine wpList_append_own _ rfl (.tmp 7) (.tmp 8) 29 rfl _ 3 i0 (.int .i64 0) 1 8 Try.underlying29 hi hz0 hz1 hz2 rfl (by decide) _ _ _ rfl (hownA1.alloc _) ⟨w1a.heap.size, 0, none⟩ 2 2 [.int .i64 (-81), .int .i64 (-82)] rfl rfl (two_at w1a _ _ _) (by simp [Value.oneCell']) (by unfold maxLen; omega) (by omega) (by have hq := hbelA1.size; simp at hq; simp; omega) ?_; intro u1 w1b hownB1 hgrowB1 hqB1; obtain ⟨g1, e1, rfl, ka1, kb1, kc1, hrow1, hbel1⟩ := marks_made hownA1 (below_on (below_alloc (Below.refl _ _) _) hbelA1) hownB1 hgrowB1; have HROW1 := hide hrow1; have HBEL1 := hide hbel1; clear hownA1 hbelA1 hownB1 hgrowB1 hqB1 hrow1 hbel1)
    | fail)
  go_wp2
  go_ret
  exact ⟨g1, e1, rfl, kc1, HROW1.out, HBEL1.out⟩

set_option maxRecDepth 100000 in
set_option maxHeartbeats 2000000 in
theorem words2_any (xv : Value) (xs : List Int) (w : World) (hx : RowAt .u64 w xv xs) (hb : xs.length * 8 ≤ 140737488351232) :
    Calls Try.prog 107 #[xv] w fun e w' => ∃ g c, e = .returned (.slice (some ⟨g, 0, none⟩) xs.length c) ∧ w.heap.size ≤ g ∧ M2 .u64 w' g c xs (83) (84) ∧ Below w.heap.size w w' := by
  obtain ⟨i0, hi, hz0, hz1, hz2⟩ := info_parts Try.info22
  obtain ⟨ao, ca, rfl⟩ : ∃ ao c, xv = .slice ao xs.length c := by obtain ⟨ao, c, h, _⟩ := hx; exact ⟨ao, c, h⟩
  have HX := hide hx
  clear hx
  go_enter Try.func107, Try.ntmps107
  go_wp2_with (first
    | (at_builtin; refine wpList_fresh rfl (.tmp 4) (.tmp 5) 30 rfl .u64 22 i0 (.int .u64 0) 8 Try.underlying30 hi hz0 hz1 hz2 rfl w.heap.size _ (own_new _ 22 w.heap.size rfl) (by simp) _ xs rfl rfl (HX.out.below (below_alloc (Below.refl _ _) _)) (by omega) (by unfold maxLen; omega) ?_; intro v1 w1a hownA1 hbelA1)
    | (at_builtin; refine wpList_append_own _ rfl (.tmp 7) (.tmp 8) 30 rfl _ 22 i0 (.int .u64 0) 1 8 Try.underlying30 hi hz0 hz1 hz2 rfl (by decide) _ _ _ rfl (hownA1.alloc _) ⟨w1a.heap.size, 0, none⟩ 2 2 [.int .u64 (83), .int .u64 (84)] rfl rfl (two_at w1a _ _ _) (by simp [Value.oneCell']) (by unfold maxLen; omega) (by omega) (by have hq := hbelA1.size; simp at hq; simp; omega) ?_; intro u1 w1b hownB1 hgrowB1 hqB1; obtain ⟨g1, e1, rfl, ka1, kb1, kc1, hrow1, hbel1⟩ := marks_made hownA1 (below_on (below_alloc (Below.refl _ _) _) hbelA1) hownB1 hgrowB1; have HROW1 := hide hrow1; have HBEL1 := hide hbel1; clear hownA1 hbelA1 hownB1 hgrowB1 hqB1 hrow1 hbel1)
    | fail)
  go_wp2
  go_ret
  exact ⟨g1, e1, rfl, kc1, HROW1.out, HBEL1.out⟩
set_option maxRecDepth 100000 in
set_option maxHeartbeats 2000000 in
theorem keptInts_any (g c : Nat) (lv : Value) (xs : List Int) (w : World) (hm : M2 .i64 w g c xs (-81) (-82)) (hl : RowAt .i64 w lv xs) (hb : xs.length * 8 ≤ 140737488351232) :
    Calls Try.prog 108 #[.slice (some ⟨g, 0, none⟩) xs.length c, lv] w fun e w' => e = .returned (.bool true) ∧ Below w.heap.size w w' := by
  obtain ⟨lo, cl, rfl⟩ : ∃ ao c, lv = .slice ao xs.length c := by obtain ⟨ao, c, h, _⟩ := hl; exact ⟨ao, c, h⟩
  have HS := hide (vInts_any (.slice (some ⟨g, 0, none⟩) xs.length c) (.slice lo xs.length cl) xs w hm.row hl)
  obtain ⟨p1, p2, hc, hc2⟩ := hm.ends
  obtain ⟨n, hn⟩ : ∃ n, n = xs.length := ⟨_, rfl⟩
  rw [← hn] at HS p1 p2 hc hb ⊢
  clear hn hl hm
  go_enter Try.func108, Try.ntmps108
  go_wp2_with fail
  refine HS.out.mono ?_
  rintro e w1 ⟨rfl, hb1⟩
  have q1 := (below_cell hb1 (block_of_cell p1)).trans p1
  have q2 := (below_cell hb1 (block_of_cell p2)).trans p2
  have HB := hide hb1
  clear p1 p2 hb1 HS
  go_wp2
  go_ret
  exact ⟨rfl, HB.out⟩
set_option maxRecDepth 100000 in
set_option maxHeartbeats 2000000 in
theorem keptWords_any (g c : Nat) (lv : Value) (xs : List Int) (w : World) (hm : M2 .u64 w g c xs (83) (84)) (hl : RowAt .u64 w lv xs) (hb : xs.length * 8 ≤ 140737488351232) :
    Calls Try.prog 109 #[.slice (some ⟨g, 0, none⟩) xs.length c, lv] w fun e w' => e = .returned (.bool true) ∧ Below w.heap.size w w' := by
  obtain ⟨lo, cl, rfl⟩ : ∃ ao c, lv = .slice ao xs.length c := by obtain ⟨ao, c, h, _⟩ := hl; exact ⟨ao, c, h⟩
  have HS := hide (vWords_any (.slice (some ⟨g, 0, none⟩) xs.length c) (.slice lo xs.length cl) xs w hm.row hl)
  obtain ⟨p1, p2, hc, hc2⟩ := hm.ends
  obtain ⟨n, hn⟩ : ∃ n, n = xs.length := ⟨_, rfl⟩
  rw [← hn] at HS p1 p2 hc hb ⊢
  clear hn hl hm
  go_enter Try.func109, Try.ntmps109
  go_wp2_with fail
  refine HS.out.mono ?_
  rintro e w1 ⟨rfl, hb1⟩
  have q1 := (below_cell hb1 (block_of_cell p1)).trans p1
  have q2 := (below_cell hb1 (block_of_cell p2)).trans p2
  have HB := hide hb1
  clear p1 p2 hb1 HS
  go_wp2
  go_ret
  exact ⟨rfl, HB.out⟩
end Go.Proofs.Ythoklgdlnmccmaa

/- hold: all lists in new memory with marks behind them. -/
namespace Go.Proofs.Ythoklgdlnmccmaa
open Go.RowKit Go.Lib
set_option linter.unusedVariables false
/-- hold's boxes: the graph, the voucher, the result, the Hold that is filled. -/
structure HX (w x : World) (N : Int) (va vb vc l1 l2 l3 y0 y1 y2 y3 y4 y5 y6 y7 : Value) : Prop where
  bg : x.heap[w.heap.size]? = some (.cells #[.int .i64 N, va, vb, vc] 32 (0, 0))
  bv : x.heap[w.heap.size + 1]? = some (.cells #[l1, l2, l3] 103 (0, 0))
  rs : x.heap[w.heap.size + 2]? = some (.cells #[.int .i64 0, .slice none 0 0, .slice none 0 0, .slice none 0 0, .slice none 0 0, .slice none 0 0, .slice none 0 0, .slice none 0 0] 105 (0, 0))
  hb : x.heap[w.heap.size + 3]? = some (.cells #[y0, y1, y2, y3, y4, y5, y6, y7] 105 (0, 0))
  bel : Below w.heap.size w x
section
variable {w x x' : World} {N : Int} {va vb vc l1 l2 l3 y0 y1 y2 y3 y4 y5 y6 y7 : Value}
theorem HX.start (w : World) (N : Int) (va vb vc l1 l2 l3 : Value) :
    HX w ((((w.alloc (.cells #[.int .i64 N, va, vb, vc] 32)).alloc (.cells #[l1, l2, l3] 103)).alloc (.cells #[.int .i64 0, .slice none 0 0, .slice none 0 0, .slice none 0 0, .slice none 0 0, .slice none 0 0, .slice none 0 0, .slice none 0 0] 105)).alloc (.cells #[.int .i64 0, .slice none 0 0, .slice none 0 0, .slice none 0 0, .slice none 0 0, .slice none 0 0, .slice none 0 0, .slice none 0 0] 105)) N va vb vc l1 l2 l3
      (.int .i64 0) (.slice none 0 0) (.slice none 0 0) (.slice none 0 0) (.slice none 0 0) (.slice none 0 0) (.slice none 0 0) (.slice none 0 0) := by
  obtain ⟨A, hA⟩ : ∃ A, A = w.alloc (.cells #[.int .i64 N, va, vb, vc] 32) := ⟨_, rfl⟩
  obtain ⟨B, hB⟩ : ∃ B, B = A.alloc (.cells #[l1, l2, l3] 103) := ⟨_, rfl⟩
  obtain ⟨Z, hZ⟩ : ∃ Z : Obj, Z = .cells #[.int .i64 0, .slice none 0 0, .slice none 0 0, .slice none 0 0, .slice none 0 0, .slice none 0 0, .slice none 0 0, .slice none 0 0] 105 := ⟨_, rfl⟩
  obtain ⟨C, hC⟩ : ∃ C, C = B.alloc Z := ⟨_, rfl⟩
  have sA : A.heap.size = w.heap.size + 1 := by rw [hA]; simp
  have sB : B.heap.size = w.heap.size + 2 := by rw [hB, World.size_alloc, sA]
  have sC : C.heap.size = w.heap.size + 3 := by rw [hC, World.size_alloc, sB]
  have fA := heap_new w (.cells #[.int .i64 N, va, vb, vc] 32)
  rw [← hA] at fA
  have fB := heap_new A (.cells #[l1, l2, l3] 103)
  rw [← hB, sA] at fB
  have fC := heap_new B Z
  rw [← hC, sB] at fC
  have fD := heap_new C Z
  rw [sC] at fD
  rw [← hA, ← hB, ← hZ, ← hC]
  refine ⟨?_, ?_, ?_, ?_, ?_⟩
  · rw [heap_alloc_old _ _ (by omega), hC, heap_alloc_old _ _ (by omega), hB, heap_alloc_old _ _ (by omega)]; exact fA
  · rw [heap_alloc_old _ _ (by omega), hC, heap_alloc_old _ _ (by omega)]; exact fB
  · rw [heap_alloc_old _ _ (by omega), fC, hZ]
  · rw [fD, hZ]
  · rw [hC, hB, hA]; exact below_alloc (below_alloc (below_alloc (below_alloc (Below.refl _ _) _) _) _) _
theorem HX.below (h : HX w x N va vb vc l1 l2 l3 y0 y1 y2 y3 y4 y5 y6 y7) (hb : Below x.heap.size x x') : HX w x' N va vb vc l1 l2 l3 y0 y1 y2 y3 y4 y5 y6 y7 :=
  ⟨(hb.block _ (lt_of_heap h.bg)).trans h.bg, (hb.block _ (lt_of_heap h.bv)).trans h.bv, (hb.block _ (lt_of_heap h.rs)).trans h.rs, (hb.block _ (lt_of_heap h.hb)).trans h.hb, below_on h.bel hb⟩
theorem HX.lt (h : HX w x N va vb vc l1 l2 l3 y0 y1 y2 y3 y4 y5 y6 y7) : w.heap.size + 3 < x.heap.size := lt_of_heap h.hb
theorem HX.far (h : HX w x N va vb vc l1 l2 l3 y0 y1 y2 y3 y4 y5 y6 y7) (i : Nat) (u : Value) (k : Nat) (hk : k ≠ w.heap.size + 3) : (x.setCell ⟨w.heap.size + 3, i, none⟩ u).heap[k]? = x.heap[k]? := Below.heap_setCell _ _ _ _ hk
theorem HX.put (h : HX w x N va vb vc l1 l2 l3 y0 y1 y2 y3 y4 y5 y6 y7) (i : Nat) (u : Value) {z0 z1 z2 z3 z4 z5 z6 z7 : Value} (hz : (#[y0, y1, y2, y3, y4, y5, y6, y7] : Array Value).setIfInBounds i u = #[z0, z1, z2, z3, z4, z5, z6, z7]) : HX w (x.setCell ⟨w.heap.size + 3, i, none⟩ u) N va vb vc l1 l2 l3 z0 z1 z2 z3 z4 z5 z6 z7 where
  bg := (h.far i u _ (by omega)).trans h.bg
  bv := (h.far i u _ (by omega)).trans h.bv
  rs := (h.far i u _ (by omega)).trans h.rs
  hb := by rw [heap_set h.hb, hz]
  bel := h.bel.setCell (p := ⟨w.heap.size + 3, i, none⟩) (by simp) _
end
theorem hk4_of {w x : World} {N : Int} {va vb vc l1 l2 l3 y0 y1 y2 y3 y4 y5 y6 y7 : Value} (h : HX w x N va vb vc l1 l2 l3 y0 y1 y2 y3 y4 y5 y6 y7) (z0 z1 z2 z3 : Value) :
    ((((x.setCell ⟨w.heap.size + 1 + 1 + 1, 0, none⟩ z0).setCell ⟨w.heap.size + 1 + 1 + 1, 1, none⟩ z1).setCell ⟨w.heap.size + 1 + 1 + 1, 2, none⟩ z2).setCell ⟨w.heap.size + 1 + 1 + 1, 3, none⟩ z3).cell? ⟨w.heap.size, 0, none⟩ = some (.int .i64 N) ∧
    ((((x.setCell ⟨w.heap.size + 1 + 1 + 1, 0, none⟩ z0).setCell ⟨w.heap.size + 1 + 1 + 1, 1, none⟩ z1).setCell ⟨w.heap.size + 1 + 1 + 1, 2, none⟩ z2).setCell ⟨w.heap.size + 1 + 1 + 1, 3, none⟩ z3).cell? ⟨w.heap.size, 1, none⟩ = some va ∧
    ((((x.setCell ⟨w.heap.size + 1 + 1 + 1, 0, none⟩ z0).setCell ⟨w.heap.size + 1 + 1 + 1, 1, none⟩ z1).setCell ⟨w.heap.size + 1 + 1 + 1, 2, none⟩ z2).setCell ⟨w.heap.size + 1 + 1 + 1, 3, none⟩ z3).cell? ⟨w.heap.size, 2, none⟩ = some vb ∧
    ((((x.setCell ⟨w.heap.size + 1 + 1 + 1, 0, none⟩ z0).setCell ⟨w.heap.size + 1 + 1 + 1, 1, none⟩ z1).setCell ⟨w.heap.size + 1 + 1 + 1, 2, none⟩ z2).setCell ⟨w.heap.size + 1 + 1 + 1, 3, none⟩ z3).cell? ⟨w.heap.size, 3, none⟩ = some vc := by
  have hx := (((h.put 0 z0 rfl).put 1 z1 rfl).put 2 z2 rfl).put 3 z3 rfl
  exact ⟨cell_of hx.bg (i := 0) rfl, cell_of hx.bg (i := 1) rfl, cell_of hx.bg (i := 2) rfl, cell_of hx.bg (i := 3) rfl⟩
theorem hk7_of {w x : World} {N : Int} {va vb vc l1 l2 l3 y0 y1 y2 y3 y4 y5 y6 y7 : Value} (h : HX w x N va vb vc l1 l2 l3 y0 y1 y2 y3 y4 y5 y6 y7) (z5 z6 z7 : Value) :
    (((x.setCell ⟨w.heap.size + 1 + 1 + 1, 5, none⟩ z5).setCell ⟨w.heap.size + 1 + 1 + 1, 6, none⟩ z6).setCell ⟨w.heap.size + 1 + 1 + 1, 7, none⟩ z7).cell? ⟨w.heap.size + 1, 0, none⟩ = some l1 ∧
    (((x.setCell ⟨w.heap.size + 1 + 1 + 1, 5, none⟩ z5).setCell ⟨w.heap.size + 1 + 1 + 1, 6, none⟩ z6).setCell ⟨w.heap.size + 1 + 1 + 1, 7, none⟩ z7).cell? ⟨w.heap.size + 1, 1, none⟩ = some l2 ∧
    (((x.setCell ⟨w.heap.size + 1 + 1 + 1, 5, none⟩ z5).setCell ⟨w.heap.size + 1 + 1 + 1, 6, none⟩ z6).setCell ⟨w.heap.size + 1 + 1 + 1, 7, none⟩ z7).cell? ⟨w.heap.size + 1, 2, none⟩ = some l3 := by
  have hx := ((h.put 5 z5 rfl).put 6 z6 rfl).put 7 z7 rfl
  exact ⟨cell_of hx.bv (i := 0) rfl, cell_of hx.bv (i := 1) rfl, cell_of hx.bv (i := 2) rfl⟩
theorem M2.far {k : IntKind} {w : World} {g c : Nat} {xs : List Int} {m1 m2 : Int} (h : M2 k w g c xs m1 m2) (B i : Nat) (u : Value) (hn : ¬ g = B) : M2 k (w.setCell ⟨B, i, none⟩ u) g c xs m1 m2 :=
  RowAt.setOther h B i u fun a ha => by cases ha; exact hn
/-- The graph's lists, copied with marks. -/
structure G2 (w : World) (b g1 c1 g2 c2 g3 c3 : Nat) (st tl wt : List Int) : Prop where
  s : M2 .i64 w g1 c1 st (-81) (-82)
  t : M2 .i64 w g2 c2 tl (-81) (-82)
  u : M2 .u64 w g3 c3 wt 83 84
  b1 : b ≤ g1
  b2 : b ≤ g2
  b3 : b ≤ g3
theorem G2.below {w w' : World} {b g1 c1 g2 c2 g3 c3 : Nat} {st tl wt : List Int} (h : G2 w b g1 c1 g2 c2 g3 c3 st tl wt) (hb : Below w.heap.size w w') : G2 w' b g1 c1 g2 c2 g3 c3 st tl wt := ⟨h.s.below hb, h.t.below hb, h.u.below hb, h.b1, h.b2, h.b3⟩
theorem G2.far {w : World} {b g1 c1 g2 c2 g3 c3 : Nat} {st tl wt : List Int} (h : G2 w b g1 c1 g2 c2 g3 c3 st tl wt) (B i : Nat) (u : Value) (hB : B < b) : G2 (w.setCell ⟨B, i, none⟩ u) b g1 c1 g2 c2 g3 c3 st tl wt :=
  have h1 := h.b1; have h2 := h.b2; have h3 := h.b3
  ⟨h.s.far B i u (by omega), h.t.far B i u (by omega), h.u.far B i u (by omega), h1, h2, h3⟩
/-- The voucher's lists, copied with marks. -/
structure V2 (w : World) (b g1 c1 g2 c2 g3 c3 : Nat) (V Y D : List Int) : Prop where
  s : M2 .u64 w g1 c1 V 83 84
  t : M2 .i64 w g2 c2 Y (-81) (-82)
  u : M2 .i64 w g3 c3 D (-81) (-82)
  b1 : b ≤ g1
  b2 : b ≤ g2
  b3 : b ≤ g3
theorem V2.below {w w' : World} {b g1 c1 g2 c2 g3 c3 : Nat} {st tl wt : List Int} (h : V2 w b g1 c1 g2 c2 g3 c3 st tl wt) (hb : Below w.heap.size w w') : V2 w' b g1 c1 g2 c2 g3 c3 st tl wt := ⟨h.s.below hb, h.t.below hb, h.u.below hb, h.b1, h.b2, h.b3⟩
theorem V2.far {w : World} {b g1 c1 g2 c2 g3 c3 : Nat} {st tl wt : List Int} (h : V2 w b g1 c1 g2 c2 g3 c3 st tl wt) (B i : Nat) (u : Value) (hB : B < b) : V2 (w.setCell ⟨B, i, none⟩ u) b g1 c1 g2 c2 g3 c3 st tl wt :=
  have h1 := h.b1; have h2 := h.b2; have h3 := h.b3
  ⟨h.s.far B i u (by omega), h.t.far B i u (by omega), h.u.far B i u (by omega), h1, h2, h3⟩
theorem vsat_own {w : World} {B g n c : Nat} {l : List Pr} (h : w.ownsRow B 41 2 (.slice (some ⟨g, 0, none⟩) n c) n (sCells l)) (hn : l.length = n) : SAt w (.slice (some ⟨g, 0, none⟩) n c) l ∧ n ≤ c ∧ c ≤ 9223372036854775807 ∧ B ≤ g := by
  subst hn
  obtain ⟨_, ⟨he0, _⟩ | ⟨g', cap', cur', he0, hg0, _, hc1, hc2, _⟩⟩ := id h
  · cases he0
  · simp only [Value.slice.injEq, Option.some.injEq, Addr.mk.injEq] at he0
    obtain ⟨⟨rfl, _⟩, _, rfl⟩ := he0
    refine ⟨?_, hc1, hc2, hg0⟩
    rcases SRow.of_owns h with ⟨he, _⟩ | ⟨g', c', he, h1, h2, h3⟩
    · cases he
    · simp only [Value.slice.injEq, Option.some.injEq, Addr.mk.injEq] at he
      obtain ⟨⟨rfl, _⟩, _, rfl⟩ := he
      exact ⟨_, _, rfl, h1, h2, fun i hi => ⟨g, 0, rfl, by simpa using h3 i hi⟩⟩
theorem SAt.front {w : World} {g n c : Nat} {S T : List Pr} (h : SAt w (.slice (some ⟨g, 0, none⟩) n c) (S ++ T)) : SAt w (.slice (some ⟨g, 0, none⟩) S.length c) S := by
  obtain ⟨ao, c', he, h1, h2, h3⟩ := h
  simp only [Value.slice.injEq] at he
  obtain ⟨rfl, _, rfl⟩ := he
  rw [List.length_append] at h1 h3
  refine ⟨_, _, rfl, by omega, h2, fun i hi => ?_⟩
  obtain ⟨g', q, e, p1, p2⟩ := h3 i (by omega)
  have e2 : sAt (S ++ T) i = sAt S i := by simp [sAt, List.getElem?_append_left hi]
  rw [e2] at p1 p2
  exact ⟨g', q, e, p1, p2⟩
def vMarks : List Pr := [((-85 : Int), (0 : Int)), ((-86 : Int), (0 : Int))]
/-- The starts, copied with two marks. -/
structure S2 (w : World) (b g c : Nat) (S : List Pr) : Prop where
  all : SAt w (.slice (some ⟨g, 0, none⟩) (S.length + 2) c) (S ++ vMarks)
  le : S.length + 2 ≤ c
  cap : c ≤ 9223372036854775807
  b1 : b ≤ g
theorem S2.row {w : World} {b g c : Nat} {S : List Pr} (h : S2 w b g c S) : SAt w (.slice (some ⟨g, 0, none⟩) S.length c) S := h.all.front
theorem S2.below {w w' : World} {b g c : Nat} {S : List Pr} (h : S2 w b g c S) (hb : Below w.heap.size w w') : S2 w' b g c S := ⟨h.all.below hb, h.le, h.cap, h.b1⟩
theorem SAt.setFar {w : World} {g n c B i : Nat} {u : Value} {S : List Pr} (h : SAt w (.slice (some ⟨g, 0, none⟩) n c) S) (hn : g ≠ B) : SAt (w.setCell ⟨B, i, none⟩ u) (.slice (some ⟨g, 0, none⟩) n c) S := by
  obtain ⟨ao, c', he, h1, h2, h3⟩ := h
  refine ⟨ao, c', he, h1, h2, fun j hj => ?_⟩
  obtain ⟨g', q, e, p1, p2⟩ := h3 j hj
  simp only [Value.slice.injEq] at he
  obtain ⟨he1, _, _⟩ := he
  rw [e] at he1
  simp only [Option.some.injEq, Addr.mk.injEq] at he1
  obtain ⟨rfl, _⟩ := he1
  refine ⟨g, q, e, ?_, ?_⟩
  · rw [World.cell?_setCell_far _ _ _ _ (fun e => hn e.symm)]; exact p1
  · rw [World.cell?_setCell_far _ _ _ _ (fun e => hn e.symm)]; exact p2
theorem S2.far {w : World} {b g c : Nat} {S : List Pr} (h : S2 w b g c S) (B i : Nat) (u : Value) (hB : B < b) : S2 (w.setCell ⟨B, i, none⟩ u) b g c S :=
  ⟨h.all.setFar (by have := h.b1; omega), h.le, h.cap, h.b1⟩
theorem S2.ends {w : World} {b g c : Nat} {S : List Pr} (h : S2 w b g c S) : w.cell? ⟨g, S.length * 2, none⟩ = some (.int .i64 (-85)) ∧ w.cell? ⟨g, (S.length + 1) * 2, none⟩ = some (.int .i64 (-86)) := by
  obtain ⟨g1, o1, he, p1, _⟩ := h.all.cellAt S.length (by simp [vMarks])
  obtain ⟨g2, o2, he2, p2, _⟩ := h.all.cellAt (S.length + 1) (by simp [vMarks])
  simp only [Option.some.injEq, Addr.mk.injEq, and_true] at he he2
  obtain ⟨rfl, rfl⟩ := he
  obtain ⟨rfl, rfl⟩ := he2
  have e1 : sAt (S ++ vMarks) S.length = (-85, 0) := by simp [sAt, vMarks]
  have e2 : sAt (S ++ vMarks) (S.length + 1) = (-86, 0) := by simp [sAt, vMarks]
  rw [e1, Nat.zero_add] at p1
  rw [e2, Nat.zero_add] at p2
  exact ⟨p1, p2⟩
theorem four_at (w : World) (x y z u : Value) (t : TypeId) : ∀ j v, [x, y, z, u][j]? = some v → (w.alloc (.cells #[x, y, z, u] t)).cell? ((⟨w.heap.size, 0, none⟩ : Addr).add j) = some v := by
  intro j v hj
  have hh : (w.alloc (.cells #[x, y, z, u] t)).heap[w.heap.size]? = some (.cells #[x, y, z, u] t (0, 0)) := heap_new _ _
  rw [Addr.add_lit]
  match j, hj with
  | 0, hj => simp at hj; subst hj; exact cell_of hh rfl
  | 1, hj => simp at hj; subst hj; exact cell_of hh rfl
  | 2, hj => simp at hj; subst hj; exact cell_of hh rfl
  | 3, hj => simp at hj; subst hj; exact cell_of hh rfl
theorem s2_made {w w1 w2 : World} {v1 : Value} {S : List Pr} {p : Obj} {g c b : Nat} (h1 : w1.ownsRow w.heap.size 41 2 v1 S.length (sCells S)) (hb1 : Below w.heap.size w w1)
    (hown : w2.ownsRow w.heap.size 41 2 (.slice (some ⟨g, 0, none⟩) (S.length + 2) c) (S.length + 2) (sCells S ++ [.int .i64 (-85), .int .u64 0, .int .i64 (-86), .int .u64 0])) (hgrow : (w1.alloc p).grownBy w2 v1.ownBlock) (hb : b ≤ w.heap.size) :
    S2 w2 b g c S ∧ Below w.heap.size w w2 := by
  have hL : Below w.heap.size w w2 := by
    refine (hb1.alloc hb1.size _).grown hgrow (by have := hb1.size; simp; omega) ?_
    intro j hj
    obtain ⟨_, ⟨rfl, _⟩ | ⟨g', cap, cur', rfl, hg', _⟩⟩ := h1
    · simp [Value.ownBlock] at hj
    · simp [Value.ownBlock] at hj; omega
  have e : sCells (S ++ vMarks) = sCells S ++ [.int .i64 (-85), .int .u64 0, .int .i64 (-86), .int .u64 0] := by simp [sCells, vMarks]
  rw [← e] at hown
  obtain ⟨k1, k2, k3, k4⟩ := vsat_own hown (by simp [vMarks])
  exact ⟨⟨k1, k2, k3, by omega⟩, hL⟩
abbrev set8 (x : World) (Z : Nat) (y0 y1 y2 y3 y4 y5 y6 y7 : Value) : World := (((((((x.setCell ⟨Z, 0, none⟩ y0).setCell ⟨Z, 1, none⟩ y1).setCell ⟨Z, 2, none⟩ y2).setCell ⟨Z, 3, none⟩ y3).setCell ⟨Z, 4, none⟩ y4).setCell ⟨Z, 5, none⟩ y5).setCell ⟨Z, 6, none⟩ y6).setCell ⟨Z, 7, none⟩ y7
theorem HX.ret {w x : World} {N : Int} {va vb vc l1 l2 l3 y0 y1 y2 y3 y4 y5 y6 y7 : Value} (h : HX w x N va vb vc l1 l2 l3 y0 y1 y2 y3 y4 y5 y6 y7) :
    (set8 x (w.heap.size + 2) y0 y1 y2 y3 y4 y5 y6 y7).heap[w.heap.size + 2]? = some (.cells #[y0, y1, y2, y3, y4, y5, y6, y7] 105 (0, 0)) ∧ Below w.heap.size w (set8 x (w.heap.size + 2) y0 y1 y2 y3 y4 y5 y6 y7) := by
  refine ⟨?_, ?_⟩
  · unfold set8
    rw [heap_set (heap_set (heap_set (heap_set (heap_set (heap_set (heap_set (heap_set h.rs _) _) _) _) _) _) _) _]
    simp
  · have step : ∀ {X : World} (i : Nat) (u : Value), Below w.heap.size w X → Below w.heap.size w (X.setCell ⟨w.heap.size + 2, i, none⟩ u) := fun i u hb => hb.setCell (p := ⟨w.heap.size + 2, i, none⟩) (by simp) u
    exact step 7 _ (step 6 _ (step 5 _ (step 4 _ (step 3 _ (step 2 _ (step 1 _ (step 0 _ h.bel)))))))
theorem G2.far8 {x : World} {b g1 c1 g2 c2 g3 c3 : Nat} {st tl wt : List Int} {Z : Nat} {y0 y1 y2 y3 y4 y5 y6 y7 : Value} (h : G2 x b g1 c1 g2 c2 g3 c3 st tl wt) (hB : Z < b) : G2 (set8 x Z y0 y1 y2 y3 y4 y5 y6 y7) b g1 c1 g2 c2 g3 c3 st tl wt := (((((((h.far Z 0 _ hB).far Z 1 _ hB).far Z 2 _ hB).far Z 3 _ hB).far Z 4 _ hB).far Z 5 _ hB).far Z 6 _ hB).far Z 7 _ hB
theorem V2.far8 {x : World} {b g1 c1 g2 c2 g3 c3 : Nat} {st tl wt : List Int} {Z : Nat} {y0 y1 y2 y3 y4 y5 y6 y7 : Value} (h : V2 x b g1 c1 g2 c2 g3 c3 st tl wt) (hB : Z < b) : V2 (set8 x Z y0 y1 y2 y3 y4 y5 y6 y7) b g1 c1 g2 c2 g3 c3 st tl wt := (((((((h.far Z 0 _ hB).far Z 1 _ hB).far Z 2 _ hB).far Z 3 _ hB).far Z 4 _ hB).far Z 5 _ hB).far Z 6 _ hB).far Z 7 _ hB
theorem S2.far8 {x : World} {b g1 c1 : Nat} {S : List Pr} {Z : Nat} {y0 y1 y2 y3 y4 y5 y6 y7 : Value} (h : S2 x b g1 c1 S) (hB : Z < b) : S2 (set8 x Z y0 y1 y2 y3 y4 y5 y6 y7) b g1 c1 S := (((((((h.far Z 0 _ hB).far Z 1 _ hB).far Z 2 _ hB).far Z 3 _ hB).far Z 4 _ hB).far Z 5 _ hB).far Z 6 _ hB).far Z 7 _ hB
theorem Try.results58 : Try.f58.results = #[.cell 6 105] := by kernel_rfl
set_option maxRecDepth 100000 in
set_option maxHeartbeats 8000000 in
theorem hold_any (N : Int) (va vb vc : Value) (st tl wt : List Int) (sv : Value) (S : List Pr) (l1 l2 l3 : Value) (V Y D : List Int) (w : World) (hg : GIs w N va vb vc st tl wt) (hst : st.length * 8 ≤ 140737488351232) (hto : tl.length * 8 ≤ 140737488351232) (hwt : wt.length * 8 ≤ 140737488351232)
    (hs : SAt w sv S) (hS : S.length * 16 ≤ 140737488353280) (h1 : RowAt .u64 w l1 V) (h2 : RowAt .i64 w l2 Y) (h3 : RowAt .i64 w l3 D) (hV : V.length * 8 ≤ 140737488351232) (hY : Y.length * 8 ≤ 140737488351232) (hD : D.length * 8 ≤ 140737488351232) :
    Calls Try.prog 58 #[gAgg N va vb vc, sv, .agg #[l1, l2, l3]] w fun e w' => ∃ g1 c1 g2 c2 g3 c3 g4 c4 g5 c5 g6 c6 g7 c7, e = .returned (.agg #[.int .i64 N, .slice (some ⟨g1, 0, none⟩) st.length c1, .slice (some ⟨g2, 0, none⟩) tl.length c2, .slice (some ⟨g3, 0, none⟩) wt.length c3, .slice (some ⟨g4, 0, none⟩) S.length c4, .slice (some ⟨g5, 0, none⟩) V.length c5, .slice (some ⟨g6, 0, none⟩) Y.length c6, .slice (some ⟨g7, 0, none⟩) D.length c7]) ∧ G2 w' (w.heap.size + 4) g1 c1 g2 c2 g3 c3 st tl wt ∧ S2 w' (w.heap.size + 4) g4 c4 S ∧ V2 w' (w.heap.size + 4) g5 c5 g6 c6 g7 c7 V Y D ∧ Below w.heap.size w w' := by
  obtain ⟨i1, hj, hy0, hy1, hy2⟩ := info_parts Try.info41
  obtain ⟨ao, ca, rfl⟩ := hg.s.shape
  obtain ⟨bo, cb, rfl⟩ := hg.t.shape
  obtain ⟨co, cc, rfl⟩ := hg.u.shape
  obtain ⟨so, sc, rfl, hsc, hscm⟩ := hs.shape
  obtain ⟨ao1, ca1, rfl⟩ := h1.shape
  obtain ⟨ao2, ca2, rfl⟩ := h2.shape
  obtain ⟨ao3, ca3, rfl⟩ := h3.shape
  have HX1 := hide (HX.start w N (.slice ao st.length ca) (.slice bo tl.length cb) (.slice co wt.length cc) (.slice ao1 V.length ca1) (.slice ao2 Y.length ca2) (.slice ao3 D.length ca3))
  have HG := hide hg; have HS := hide hs; have H1 := hide h1; have H2 := hide h2; have H3 := hide h3
  unfold gAgg
  clear hg hs h1 h2 h3
  go_enter Try.func58, Try.ntmps58
  go_wp2_with fail
  generalize ((((w.alloc (.cells #[.int .i64 N, .slice ao st.length ca, .slice bo tl.length cb, .slice co wt.length cc] 32)).alloc (.cells #[.slice ao1 V.length ca1, .slice ao2 Y.length ca2, .slice ao3 D.length ca3] 103)).alloc (.cells #[.int .i64 0, .slice none 0 0, .slice none 0 0, .slice none 0 0, .slice none 0 0, .slice none 0 0, .slice none 0 0, .slice none 0 0] 105)).alloc (.cells #[.int .i64 0, .slice none 0 0, .slice none 0 0, .slice none 0 0, .slice none 0 0, .slice none 0 0, .slice none 0 0, .slice none 0 0] 105)) = w1 at HX1 ⊢
  have x0 := cell_of HX1.out.bg (i := 0) rfl
  have x1 := cell_of HX1.out.bg (i := 1) rfl
  have x2 := cell_of HX1.out.bg (i := 2) rfl
  have x3 := cell_of HX1.out.bg (i := 3) rfl
  have hlt := HX1.out.lt
  have HKE := hide (fun W (h : Below w1.heap.size w1 W) => box_keep (show w.heap.size < w1.heap.size by omega) h ⟨x0, x1, x2, x3⟩)
  have HGW := hide (HG.out.below HX1.out.bel)
  have HR := hide (Below.refl w1.heap.size w1)
  go_cut [] from 9 to 21 (fun wx => ∃ g1 c1 g2 c2 g3 c3, HX w wx N (.slice ao st.length ca) (.slice bo tl.length cb) (.slice co wt.length cc) (.slice ao1 V.length ca1) (.slice ao2 Y.length ca2) (.slice ao3 D.length ca3) (.int .i64 N) (.slice (some ⟨g1, 0, none⟩) st.length c1) (.slice (some ⟨g2, 0, none⟩) tl.length c2) (.slice (some ⟨g3, 0, none⟩) wt.length c3) (.slice none 0 0) (.slice none 0 0) (.slice none 0 0) (.slice none 0 0) ∧ G2 wx (w.heap.size + 4) g1 c1 g2 c2 g3 c3 st tl wt)
  case first =>
    refine wp_region_noPanic ?_
    go_region_held3 (fun x => x.cell? ⟨w.heap.size, 0, none⟩ = some (.int .i64 N) ∧ x.cell? ⟨w.heap.size, 1, none⟩ = some (.slice ao st.length ca) ∧ x.cell? ⟨w.heap.size, 2, none⟩ = some (.slice bo tl.length cb) ∧ x.cell? ⟨w.heap.size, 3, none⟩ = some (.slice co wt.length cc)) (first | exact HKE.out _ HB3.out | exact HKE.out _ HB2.out | exact HKE.out _ HB1.out | exact HK4.out | go_keep)
      (first
        | (go_at_call 106; have hq0 := HB1.out; clear hq0; refine (ints2_any (.slice bo tl.length cb) tl _ (HGW.out.below HB1.out).t hto).mono ?_; rintro e w2 ⟨g2, cp2, rfl, hg2, hm2, hbel⟩; have hB2 := below_on (a := w1) HB1.out hbel; have HS2 := hide hbel; have p2 := HB1.out.size; have hl2 : w.heap.size + 4 ≤ g2 := (by omega); have HL2 := hide hl2; have HB2 := hide hB2; have HM2 := hide hm2; clear hl2 hg2 hm2 hbel hB2 p2)
        | (go_at_call 106; refine (ints2_any (.slice ao st.length ca) st _ (HGW.out.below (below_drew HR.out)).s hst).mono ?_; rintro e wA ⟨g1, cp1, rfl, hg1, hm1, hbel⟩; have hB1 := below_on (a := w1) (below_drew HR.out) hbel; have hl1 : w.heap.size + 4 ≤ g1 := (by simp at hg1; omega); have HL1 := hide hl1; have HB1 := hide hB1; have HM1 := hide hm1; clear hl1 hg1 hm1 hbel hB1)
        | (go_at_call 107; refine (words2_any (.slice co wt.length cc) wt _ (HGW.out.below HB2.out).u hwt).mono ?_; rintro e w3 ⟨g3, cp3, rfl, hg3, hm3, hbel⟩; have hB3 := below_on (a := w1) HB2.out hbel; have HS3 := hide hbel; have p3 := HB2.out.size; have hl3 : w.heap.size + 4 ≤ g3 := (by omega); have HL3 := hide hl3; have HB3 := hide hB3; have HM3 := hide hm3; have HX3 := hide (HX1.out.below hB3); have e0 := cell_of HX3.out.hb (i := 0) rfl; have e1 := cell_of HX3.out.hb (i := 1) rfl; have e2 := cell_of HX3.out.hb (i := 2) rfl; have e3 := cell_of HX3.out.hb (i := 3) rfl; have q0 := free_of HX3.out.hb 0; have q1 := free_of HX3.out.hb 1; have q2 := free_of HX3.out.hb 2; have q3 := free_of HX3.out.hb 3; have hk4 := hk4_of HX3.out (.int .i64 N) (.slice (some ⟨g1, 0, none⟩) st.length cp1) (.slice (some ⟨g2, 0, none⟩) tl.length cp2) (.slice (some ⟨g3, 0, none⟩) wt.length cp3); have HK4 := hide hk4; clear hk4 hl3 hg3 hm3 hbel hB3 p3))
    all_goals
      refine NoPanic.normal ?_
      go_wp2_with fail
      go_meet
      case rel =>
        refine ⟨g1, cp1, g2, cp2, g3, cp3, (((HX3.out.put 0 _ rfl).put 1 _ rfl).put 2 _ rfl).put 3 _ rfl, ?_⟩
        exact ((((⟨(HM1.out.below HS2.out).below HS3.out, HM2.out.below HS3.out, HM3.out, HL1.out, HL2.out, HL3.out⟩ : G2 w3 (w.heap.size + 4) g1 cp1 g2 cp2 g3 cp3 st tl wt).far (w.heap.size + 3) 0 _ (by omega)).far (w.heap.size + 3) 1 _ (by omega)).far (w.heap.size + 3) 2 _ (by omega)).far (w.heap.size + 3) 3 _ (by omega)
  case rest =>
    obtain ⟨g1, c1, g2, c2, g3, c3, hx4, hg4⟩ := hcut
    have HX4 := hide hx4
    have HG4 := hide hg4
    have hsz4 := hx4.lt
    clear hx4 hg4 HX1 HKE HGW HR x0 x1 x2 x3 hlt
    have e4 := cell_of HX4.out.hb (i := 4) rfl
    have HSW := hide (HS.out.below HX4.out.bel)
    go_wp2_with (first
      | (at_builtin; refine wpList_freshS rfl (.tmp 22) (.tmp 23) 33 rfl 41 i1 (.agg #[.int .i64 0, .int .u64 0]) Try.underlying33 hj hy0 hy1 hy2 rfl wc.heap.size _ (own_new2 _ 41 wc.heap.size rfl) (by simp) _ S rfl rfl (HSW.out.below (below_alloc (Below.refl _ _) _)) (by omega) (by unfold maxLen; omega) ?_; intro v5 w5a hownA hbelA)
      | (at_builtin; refine wpList_append_lies _ rfl (.tmp 25) (.tmp 28) 33 rfl wc.heap.size 41 i1 (.agg #[.int .i64 0, .int .u64 0]) 2 16 Try.underlying33 hj hy0 hy1 hy2 rfl (by omega) v5 S.length (sCells S) rfl (hownA.alloc _) ⟨w5a.heap.size, 0, none⟩ 2 2 [.int .i64 (-85), .int .u64 0, .int .i64 (-86), .int .u64 0] rfl rfl (four_at w5a _ _ _ _ _) (by simp [Value.oneCell']) (by omega) (by unfold maxLen; omega) (by omega) (by have hq := hbelA.size; simp at hq; simp; omega) _ rfl ?_; intro g4 c4 w5 hown hgrow hat hlt2; obtain ⟨hs5, hb5⟩ := s2_made (b := w.heap.size + 4) hownA (below_on (below_alloc (Below.refl _ _) _) hbelA) hown hgrow (by omega); have HS5 := hide hs5; have hle5 := hs5.le; have hcp5 := hs5.cap; have HX5 := hide (HX4.out.below hb5); have HG5 := hide (HG4.out.below hb5); have f4 := cell_of HX5.out.hb (i := 4) rfl; have q4 := free_of HX5.out.hb 4; clear hownA hbelA hown hgrow hat hlt2 hs5 hb5)
      | fail)
    have HXP := hide (HX5.out.put 4 (.slice (some ⟨g4, 0, none⟩) S.length c4) rfl)
    have HSP := hide (HS5.out.far (w.heap.size + 3) 4 (.slice (some ⟨g4, 0, none⟩) S.length c4) (by omega))
    have HGP := hide (HG5.out.far (w.heap.size + 3) 4 (.slice (some ⟨g4, 0, none⟩) S.length c4) (by omega))
    generalize (w5.setCell ⟨w.heap.size + 3, 4, none⟩ (.slice (some ⟨g4, 0, none⟩) S.length c4)) = w6 at HXP HSP HGP ⊢
    clear HX5 HS5 HG5 f4 q4 e4 HX4 HG4 HSW
    clear w5
    have x0 := cell_of HXP.out.bv (i := 0) rfl
    have x1 := cell_of HXP.out.bv (i := 1) rfl
    have x2 := cell_of HXP.out.bv (i := 2) rfl
    have hlt6 := HXP.out.lt
    have HKE : Hid (∀ W, Below w6.heap.size w6 W → W.cell? ⟨w.heap.size + 1, 0, none⟩ = some (.slice ao1 V.length ca1) ∧ W.cell? ⟨w.heap.size + 1, 1, none⟩ = some (.slice ao2 Y.length ca2) ∧ W.cell? ⟨w.heap.size + 1, 2, none⟩ = some (.slice ao3 D.length ca3)) := fun W h => ⟨(below_cell h (by omega)).trans x0, (below_cell h (by omega)).trans x1, (below_cell h (by omega)).trans x2⟩
    have HR := hide (Below.refl w6.heap.size w6)
    have H1W := hide (H1.out.below HXP.out.bel); have H2W := hide (H2.out.below HXP.out.bel); have H3W := hide (H3.out.below HXP.out.bel)
    go_cut [] from 34 to 44 (fun wx => ∃ g5 c5 g6 c6 g7 c7, HX w wx N (.slice ao st.length ca) (.slice bo tl.length cb) (.slice co wt.length cc) (.slice ao1 V.length ca1) (.slice ao2 Y.length ca2) (.slice ao3 D.length ca3) (.int .i64 N) (.slice (some ⟨g1, 0, none⟩) st.length c1) (.slice (some ⟨g2, 0, none⟩) tl.length c2) (.slice (some ⟨g3, 0, none⟩) wt.length c3) (.slice (some ⟨g4, 0, none⟩) S.length c4) (.slice (some ⟨g5, 0, none⟩) V.length c5) (.slice (some ⟨g6, 0, none⟩) Y.length c6) (.slice (some ⟨g7, 0, none⟩) D.length c7) ∧ G2 wx (w.heap.size + 4) g1 c1 g2 c2 g3 c3 st tl wt ∧ S2 wx (w.heap.size + 4) g4 c4 S ∧ V2 wx (w.heap.size + 4) g5 c5 g6 c6 g7 c7 V Y D)
    case first =>
      refine wp_region_noPanic ?_
      go_region_held3 (fun x => x.cell? ⟨w.heap.size + 1, 0, none⟩ = some (.slice ao1 V.length ca1) ∧ x.cell? ⟨w.heap.size + 1, 1, none⟩ = some (.slice ao2 Y.length ca2) ∧ x.cell? ⟨w.heap.size + 1, 2, none⟩ = some (.slice ao3 D.length ca3)) (first | exact HKE.out _ HB3.out | exact HKE.out _ HB2.out | exact HKE.out _ HB1.out | exact HK4.out | go_keep)
        (first
          | (go_at_call 106; have hq0 := HB2.out; clear hq0; refine (ints2_any (.slice ao3 D.length ca3) D _ (H3W.out.below HB2.out) hD).mono ?_; rintro e w3 ⟨g7, cp7, rfl, hg3, hm3, hbel⟩; have hB3 := below_on (a := w6) HB2.out hbel; have HS3 := hide hbel; have p3 := HB2.out.size; have hl3 : w.heap.size + 4 ≤ g7 := (by omega); have HL3 := hide hl3; have HB3 := hide hB3; have HM3 := hide hm3; have HX3 := hide (HXP.out.below hB3); have e5 := cell_of HX3.out.hb (i := 5) rfl; have e6 := cell_of HX3.out.hb (i := 6) rfl; have e7 := cell_of HX3.out.hb (i := 7) rfl; have q5 := free_of HX3.out.hb 5; have q6 := free_of HX3.out.hb 6; have q7 := free_of HX3.out.hb 7; have hk4 := hk7_of HX3.out (.slice (some ⟨g5, 0, none⟩) V.length cp5) (.slice (some ⟨g6, 0, none⟩) Y.length cp6) (.slice (some ⟨g7, 0, none⟩) D.length cp7); have HK4 := hide hk4; clear hk4 hl3 hg3 hm3 hbel hB3 p3)
          | (go_at_call 106; refine (ints2_any (.slice ao2 Y.length ca2) Y _ (H2W.out.below HB1.out) hY).mono ?_; rintro e w2 ⟨g6, cp6, rfl, hg2, hm2, hbel⟩; have hB2 := below_on (a := w6) HB1.out hbel; have HS2 := hide hbel; have p2 := HB1.out.size; have hl2 : w.heap.size + 4 ≤ g6 := (by omega); have HL2 := hide hl2; have HB2 := hide hB2; have HM2 := hide hm2; clear hl2 hg2 hm2 hbel hB2 p2)
          | (go_at_call 107; refine (words2_any (.slice ao1 V.length ca1) V _ (H1W.out.below (below_drew HR.out)) hV).mono ?_; rintro e wA ⟨g5, cp5, rfl, hg1, hm1, hbel⟩; have hB1 := below_on (a := w6) (below_drew HR.out) hbel; have hl1 : w.heap.size + 4 ≤ g5 := (by simp at hg1; omega); have HL1 := hide hl1; have HB1 := hide hB1; have HM1 := hide hm1; clear hl1 hg1 hm1 hbel hB1))
      all_goals
        refine NoPanic.normal ?_
        go_wp2_with fail
        go_meet
        case rel =>
          refine ⟨g5, cp5, g6, cp6, g7, cp7, ((HX3.out.put 5 _ rfl).put 6 _ rfl).put 7 _ rfl, ?_, ?_, ?_⟩
          · exact (((HGP.out.below HB3.out).far (w.heap.size + 3) 5 _ (by omega)).far (w.heap.size + 3) 6 _ (by omega)).far (w.heap.size + 3) 7 _ (by omega)
          · exact (((HSP.out.below HB3.out).far (w.heap.size + 3) 5 _ (by omega)).far (w.heap.size + 3) 6 _ (by omega)).far (w.heap.size + 3) 7 _ (by omega)
          · exact (((⟨(HM1.out.below HS2.out).below HS3.out, HM2.out.below HS3.out, HM3.out, HL1.out, HL2.out, HL3.out⟩ : V2 w3 (w.heap.size + 4) g5 cp5 g6 cp6 g7 cp7 V Y D).far (w.heap.size + 3) 5 _ (by omega)).far (w.heap.size + 3) 6 _ (by omega)).far (w.heap.size + 3) 7 _ (by omega)
    case rest =>
      obtain ⟨g5, c5, g6, c6, g7, c7, hx7, hg7, hs7, hv7⟩ := hcut
      have HX7 := hide hx7; have HG7 := hide hg7; have HS7 := hide hs7; have HV7 := hide hv7
      clear hx7 hg7 hs7 hv7 HXP HSP HGP HKE HR H1W H2W H3W x0 x1 x2 hlt6
      have f0 := cell_of HX7.out.hb (i := 0) rfl
      have f1 := cell_of HX7.out.hb (i := 1) rfl
      have f2 := cell_of HX7.out.hb (i := 2) rfl
      have f3 := cell_of HX7.out.hb (i := 3) rfl
      have f4 := cell_of HX7.out.hb (i := 4) rfl
      have f5 := cell_of HX7.out.hb (i := 5) rfl
      have f6 := cell_of HX7.out.hb (i := 6) rfl
      have f7 := cell_of HX7.out.hb (i := 7) rfl
      have r0 := cell_of HX7.out.rs (i := 0) rfl
      have r1 := cell_of HX7.out.rs (i := 1) rfl
      have r2 := cell_of HX7.out.rs (i := 2) rfl
      have r3 := cell_of HX7.out.rs (i := 3) rfl
      have r4 := cell_of HX7.out.rs (i := 4) rfl
      have r5 := cell_of HX7.out.rs (i := 5) rfl
      have r6 := cell_of HX7.out.rs (i := 6) rfl
      have r7 := cell_of HX7.out.rs (i := 7) rfl
      have u0 := free_of HX7.out.rs 0
      have u1 := free_of HX7.out.rs 1
      have u2 := free_of HX7.out.rs 2
      have u3 := free_of HX7.out.rs 3
      have u4 := free_of HX7.out.rs 4
      have u5 := free_of HX7.out.rs 5
      have u6 := free_of HX7.out.rs 6
      have u7 := free_of HX7.out.rs 7
      go_wp2
      exact bodyPost_ret (results_cell_row Try.results58 _ _ (w.heap.size + 2) 105 _ (0, 0) _ rfl HX7.out.ret.1 Try.underlying105 rfl (by kernel_rfl)) rfl
        ⟨g1, c1, g2, c2, g3, c3, g4, c4, g5, c5, g6, c6, g7, c7, rfl, HG7.out.far8 (by omega), HS7.out.far8 (by omega), HV7.out.far8 (by omega), HX7.out.ret.2⟩
end Go.Proofs.Ythoklgdlnmccmaa

/- kept: what hold handed out is as it was. -/
namespace Go.Proofs.Ythoklgdlnmccmaa
open Go.RowKit Go.Lib
set_option linter.unusedVariables false
theorem G2.gis {w : World} {N : Int} {b g1 c1 g2 c2 g3 c3 : Nat} {st tl wt : List Int} (h : G2 w b g1 c1 g2 c2 g3 c3 st tl wt) : GIs w N (.slice (some ⟨g1, 0, none⟩) st.length c1) (.slice (some ⟨g2, 0, none⟩) tl.length c2) (.slice (some ⟨g3, 0, none⟩) wt.length c3) st tl wt := ⟨h.s.row, h.t.row, h.u.row⟩
/-- A Hold in memory. -/
structure HIs (w : World) (R : Nat) (N : Int) (g1 c1 g2 c2 g3 c3 g4 c4 g5 c5 g6 c6 g7 c7 : Nat) (st tl wt : List Int) (S : List Pr) (V Y D : List Int) : Prop where
  hh : w.heap[R]? = some (.cells #[.int .i64 N, .slice (some ⟨g1, 0, none⟩) st.length c1, .slice (some ⟨g2, 0, none⟩) tl.length c2, .slice (some ⟨g3, 0, none⟩) wt.length c3, .slice (some ⟨g4, 0, none⟩) S.length c4, .slice (some ⟨g5, 0, none⟩) V.length c5, .slice (some ⟨g6, 0, none⟩) Y.length c6, .slice (some ⟨g7, 0, none⟩) D.length c7] 105 (0, 0))
  g : G2 w 0 g1 c1 g2 c2 g3 c3 st tl wt
  s : S2 w 0 g4 c4 S
  v : V2 w 0 g5 c5 g6 c6 g7 c7 V Y D
theorem HIs.below {w w' : World} {R : Nat} {N : Int} {g1 c1 g2 c2 g3 c3 g4 c4 g5 c5 g6 c6 g7 c7 : Nat} {st tl wt : List Int} {S : List Pr} {V Y D : List Int} (h : HIs w R N g1 c1 g2 c2 g3 c3 g4 c4 g5 c5 g6 c6 g7 c7 st tl wt S V Y D) (hb : Below w.heap.size w w') : HIs w' R N g1 c1 g2 c2 g3 c3 g4 c4 g5 c5 g6 c6 g7 c7 st tl wt S V Y D :=
  ⟨(hb.block _ (lt_of_heap h.hh)).trans h.hh, h.g.below hb, h.s.below hb, h.v.below hb⟩
set_option maxRecDepth 100000 in
set_option maxHeartbeats 8000000 in
theorem kept_any (R : Nat) (N : Int) (va vb vc : Value) (st tl wt : List Int) (sv : Value) (S : List Pr) (l1 l2 l3 : Value) (V Y D : List Int) (g1 c1 g2 c2 g3 c3 g4 c4 g5 c5 g6 c6 g7 c7 : Nat) (w : World)
    (hh : HIs w R N g1 c1 g2 c2 g3 c3 g4 c4 g5 c5 g6 c6 g7 c7 st tl wt S V Y D) (hg : GIs w N va vb vc st tl wt) (hst : st.length * 8 ≤ 140737488351232) (hto : tl.length * 8 ≤ 140737488351232) (hwt : wt.length * 8 ≤ 140737488351232)
    (hs : SAt w sv S) (hS : S.length * 16 ≤ 140737488353280) (h1 : RowAt .u64 w l1 V) (h2 : RowAt .i64 w l2 Y) (h3 : RowAt .i64 w l3 D) (hV : V.length * 8 ≤ 140737488351232) (hY : Y.length * 8 ≤ 140737488351232) (hD : D.length * 8 ≤ 140737488351232) :
    Calls Try.prog 63 #[.pointer (some ⟨R, 0, none⟩), gAgg N va vb vc, sv, .agg #[l1, l2, l3]] w fun e w' => e = .returned (.bool true) ∧ Below w.heap.size w w' := by
  obtain ⟨ao, ca, rfl⟩ := hg.s.shape
  obtain ⟨bo, cb, rfl⟩ := hg.t.shape
  obtain ⟨co, cc, rfl⟩ := hg.u.shape
  obtain ⟨so, sc, rfl, hsc, hscm⟩ := hs.shape
  obtain ⟨ao1, ca1, rfl⟩ := h1.shape
  obtain ⟨ao2, ca2, rfl⟩ := h2.shape
  obtain ⟨ao3, ca3, rfl⟩ := h3.shape
  have hb1 := below_alloc (below_alloc (Below.refl w.heap.size w) (.cells #[.int .i64 N, .slice ao st.length ca, .slice bo tl.length cb, .slice co wt.length cc] 32)) (.cells #[.slice ao1 V.length ca1, .slice ao2 Y.length ca2, .slice ao3 D.length ca3] 103)
  have hbx : ((w.alloc (.cells #[.int .i64 N, .slice ao st.length ca, .slice bo tl.length cb, .slice co wt.length cc] 32)).alloc (.cells #[.slice ao1 V.length ca1, .slice ao2 Y.length ca2, .slice ao3 D.length ca3] 103)).heap[w.heap.size]? = some (.cells #[.int .i64 N, .slice ao st.length ca, .slice bo tl.length cb, .slice co wt.length cc] 32 (0, 0)) := by
    rw [heap_alloc_old _ _ (by simp)]; exact heap_new _ _
  have hvx : ((w.alloc (.cells #[.int .i64 N, .slice ao st.length ca, .slice bo tl.length cb, .slice co wt.length cc] 32)).alloc (.cells #[.slice ao1 V.length ca1, .slice ao2 Y.length ca2, .slice ao3 D.length ca3] 103)).heap[w.heap.size + 1]? = some (.cells #[.slice ao1 V.length ca1, .slice ao2 Y.length ca2, .slice ao3 D.length ca3] 103 (0, 0)) := by
    have := heap_new (w.alloc (.cells #[.int .i64 N, .slice ao st.length ca, .slice bo tl.length cb, .slice co wt.length cc] 32)) (.cells #[.slice ao1 V.length ca1, .slice ao2 Y.length ca2, .slice ao3 D.length ca3] 103)
    simpa using this
  have HH := hide (hh.below hb1); have HG := hide (hg.below hb1); have HS := hide (hs.below hb1); have H1 := hide (h1.below hb1); have H2 := hide (h2.below hb1); have H3 := hide (h3.below hb1)
  have HB1 := hide hb1
  have HBX := hide hbx; have HVX := hide hvx
  have hneq := neq_start
  unfold gAgg
  clear hg hs h1 h2 h3 hh hb1 hbx hvx
  go_enter Try.func63, Try.ntmps63
  have r4 := cell_of HH.out.hh (i := 4) rfl
  have hle := HH.out.s.le
  have hcp := HH.out.s.cap
  go_wp2_with fail
  generalize ((w.alloc (.cells #[.int .i64 N, .slice ao st.length ca, .slice bo tl.length cb, .slice co wt.length cc] 32)).alloc (.cells #[.slice ao1 V.length ca1, .slice ao2 Y.length ca2, .slice ao3 D.length ca3] 103)) = w1 at HH HG HS H1 H2 H3 HB1 HBX HVX r4 ⊢
  have HC := hide (fun (i : Nat) (hi : i < S.length) => HH.out.s.row.cellAt i hi)
  have HD := hide (fun (i : Nat) (hi : i < S.length) => HS.out.cellAt i hi)
  have HE := hide HH.out.s.ends
  obtain ⟨n, hn⟩ : ∃ n, n = S.length := ⟨_, rfl⟩
  have HN := hide hn
  rw [← hn] at HC HD HE hle hsc hS r4 ⊢
  clear hn
  go_loopw [11] (fun t wr => ∃ i : Nat, i ≤ n ∧ t = .int .i64 i ∧ ∃ m, wr = w1.drewN m) (fun t _ => n - (RowKit.intOf t).toNat)
  case atStart => exact ⟨0, by omega, rfl, 0, rfl⟩
  case round =>
    obtain ⟨i, hin, rfl, m, rfl⟩ := hrel
    by_cases hlt : i < n
    · as_aux_lemma =>
      obtain ⟨ga, oa, hsa, a0, a1⟩ := HC.out i hlt
      obtain ⟨gb, ob, hsb, b0, b1⟩ := HD.out i hlt
      simp only [Option.some.injEq, Addr.mk.injEq, and_true] at hsa
      obtain ⟨rfl, rfl⟩ := hsa
      subst hsb
      rw [Nat.zero_add] at a0 a1
      obtain ⟨u, hu⟩ : ∃ u, u = (sAt S i).1 := ⟨_, rfl⟩
      obtain ⟨v, hv⟩ : ∃ v, v = (sAt S i).2 := ⟨_, rfl⟩
      rw [← hu] at a0 b0
      rw [← hv] at a1 b1
      clear hu hv
      have hself : (!(u == u && (v == v && true))) = false := by simp
      go_wp2_with fail
      go_region
      all_goals
        go_wp2_with fail
        go_roundw
        case rel => exact ⟨i + 1, by omega, by go_num, m + 1, rfl⟩
        case measure => simp [RowKit.intOf]; omega
    · have hin2 : i = n := by omega
      subst hin2
      have p1 := HE.out.1
      have p2 := HE.out.2
      have R0 := cell_of HH.out.hh (i := 0) rfl
      have B0 := cell_of HBX.out (i := 0) rfl
      have hk1 : ((-85 : Int) != (-85 : Int)) = false := by decide
      have hk2 : ((-86 : Int) != (-86 : Int)) = false := by decide
      have hk3 : (N != N) = false := by simp
      have hi1 : (i : Int) < (i : Int) + 2 := by omega
      have hi2 : (i : Int) + 1 < (i : Int) + 2 := by omega
      go_wp2_with fail
      go_quiet (fail)
      go_wp2_with fail
      have hX : Below w1.heap.size w1 ((w1.drewN m).drewN nq) := below_drewN (below_drewN (Below.refl _ _) _) _
      obtain ⟨X, hXe⟩ : ∃ X, X = (w1.drewN m).drewN nq := ⟨_, rfl⟩
      rw [← hXe] at hX ⊢
      have HX := hide hX
      have HHX := hide (HH.out.below hX); have HGX := hide (HG.out.below hX); have H1X := hide (H1.out.below hX); have H2X := hide (H2.out.below hX); have H3X := hide (H3.out.below hX)
      have HBXX := hide ((hX.block _ (lt_of_heap HBX.out)).trans HBX.out)
      have HVXX := hide ((hX.block _ (lt_of_heap HVX.out)).trans HVX.out)
      clear hXe hX p1 p2 R0 B0 hk1 hk2 hk3 hi1 hi2 HC HD HE r4
      have r1 : ∀ x : GW X, x.world.cell? ⟨R, 1, none⟩ = some (.slice (some ⟨g1, 0, none⟩) st.length c1) := fun x => cell_of (HHX.out.below x.bel).hh rfl
      have r2 : ∀ x : GW X, x.world.cell? ⟨R, 2, none⟩ = some (.slice (some ⟨g2, 0, none⟩) tl.length c2) := fun x => cell_of (HHX.out.below x.bel).hh rfl
      have r3 : ∀ x : GW X, x.world.cell? ⟨R, 3, none⟩ = some (.slice (some ⟨g3, 0, none⟩) wt.length c3) := fun x => cell_of (HHX.out.below x.bel).hh rfl
      have b1 : ∀ x : GW X, x.world.cell? ⟨w.heap.size, 1, none⟩ = some (.slice ao st.length ca) := fun x => cell_of ((x.bel.block _ (lt_of_heap HBXX.out)).trans HBXX.out) rfl
      have b2 : ∀ x : GW X, x.world.cell? ⟨w.heap.size, 2, none⟩ = some (.slice bo tl.length cb) := fun x => cell_of ((x.bel.block _ (lt_of_heap HBXX.out)).trans HBXX.out) rfl
      have b3 : ∀ x : GW X, x.world.cell? ⟨w.heap.size, 3, none⟩ = some (.slice co wt.length cc) := fun x => cell_of ((x.bel.block _ (lt_of_heap HBXX.out)).trans HBXX.out) rfl
      have HK1 := hide (fun (x : GW X) => keptInts_any g1 c1 (.slice ao st.length ca) st x.world (HHX.out.below x.bel).g.s (HGX.out.below x.bel).s hst)
      have HK2 := hide (fun (x : GW X) => keptInts_any g2 c2 (.slice bo tl.length cb) tl x.world (HHX.out.below x.bel).g.t (HGX.out.below x.bel).t hto)
      have HK3 := hide (fun (x : GW X) => keptWords_any g3 c3 (.slice co wt.length cc) wt x.world (HHX.out.below x.bel).g.u (HGX.out.below x.bel).u hwt)
      refine wp_region_gw (by kernel_rfl) (by kernel_rfl) ?_
      repeat (go_big_quiet_step (first
        | (go_at_call 108; with_reducible exact gw_of (HK1.out _))
        | (go_at_call 108; with_reducible exact gw_of (HK2.out _))
        | (go_at_call 109; with_reducible exact gw_of (HK3.out _))
        | rfl))
      refine wpQuiet_nil ?_
      intro _ hw'
      obtain ⟨x, hw''⟩ := hw'
      subst hw''
      have hX2 : Below w1.heap.size w1 x.world := below_on HX.out x.bel
      obtain ⟨X2, hXe⟩ : ∃ X2, X2 = x.world := ⟨_, rfl⟩
      rw [← hXe] at hX2 ⊢
      clear hXe r1 r2 r3 b1 b2 b3 HK1 HK2 HK3 HHX HGX H1X H2X H3X HBXX HVXX HX
      have HX := hide hX2
      have HHX := hide (HH.out.below hX2); have HGX := hide (HG.out.below hX2); have H1X := hide (H1.out.below hX2); have H2X := hide (H2.out.below hX2); have H3X := hide (H3.out.below hX2)
      have HBXX := hide ((hX2.block _ (lt_of_heap HBX.out)).trans HBX.out)
      have HVXX := hide ((hX2.block _ (lt_of_heap HVX.out)).trans HVX.out)
      clear hX2
      have r0 : ∀ x : GW X2, x.world.cell? ⟨R, 0, none⟩ = some (.int .i64 N) := fun x => cell_of (HHX.out.below x.bel).hh rfl
      have r1 : ∀ x : GW X2, x.world.cell? ⟨R, 1, none⟩ = some (.slice (some ⟨g1, 0, none⟩) st.length c1) := fun x => cell_of (HHX.out.below x.bel).hh rfl
      have r2 : ∀ x : GW X2, x.world.cell? ⟨R, 2, none⟩ = some (.slice (some ⟨g2, 0, none⟩) tl.length c2) := fun x => cell_of (HHX.out.below x.bel).hh rfl
      have r3 : ∀ x : GW X2, x.world.cell? ⟨R, 3, none⟩ = some (.slice (some ⟨g3, 0, none⟩) wt.length c3) := fun x => cell_of (HHX.out.below x.bel).hh rfl
      have r5 : ∀ x : GW X2, x.world.cell? ⟨R, 5, none⟩ = some (.slice (some ⟨g5, 0, none⟩) V.length c5) := fun x => cell_of (HHX.out.below x.bel).hh rfl
      have r6 : ∀ x : GW X2, x.world.cell? ⟨R, 6, none⟩ = some (.slice (some ⟨g6, 0, none⟩) Y.length c6) := fun x => cell_of (HHX.out.below x.bel).hh rfl
      have r7 : ∀ x : GW X2, x.world.cell? ⟨R, 7, none⟩ = some (.slice (some ⟨g7, 0, none⟩) D.length c7) := fun x => cell_of (HHX.out.below x.bel).hh rfl
      have b0 : ∀ x : GW X2, x.world.cell? ⟨w.heap.size, 0, none⟩ = some (.int .i64 N) := fun x => cell_of ((x.bel.block _ (lt_of_heap HBXX.out)).trans HBXX.out) rfl
      have b1 : ∀ x : GW X2, x.world.cell? ⟨w.heap.size, 1, none⟩ = some (.slice ao st.length ca) := fun x => cell_of ((x.bel.block _ (lt_of_heap HBXX.out)).trans HBXX.out) rfl
      have b2 : ∀ x : GW X2, x.world.cell? ⟨w.heap.size, 2, none⟩ = some (.slice bo tl.length cb) := fun x => cell_of ((x.bel.block _ (lt_of_heap HBXX.out)).trans HBXX.out) rfl
      have b3 : ∀ x : GW X2, x.world.cell? ⟨w.heap.size, 3, none⟩ = some (.slice co wt.length cc) := fun x => cell_of ((x.bel.block _ (lt_of_heap HBXX.out)).trans HBXX.out) rfl
      have v0 : ∀ x : GW X2, x.world.cell? ⟨w.heap.size + 1, 0, none⟩ = some (.slice ao1 V.length ca1) := fun x => cell_of ((x.bel.block _ (lt_of_heap HVXX.out)).trans HVXX.out) rfl
      have v1 : ∀ x : GW X2, x.world.cell? ⟨w.heap.size + 1, 1, none⟩ = some (.slice ao2 Y.length ca2) := fun x => cell_of ((x.bel.block _ (lt_of_heap HVXX.out)).trans HVXX.out) rfl
      have v2 : ∀ x : GW X2, x.world.cell? ⟨w.heap.size + 1, 2, none⟩ = some (.slice ao3 D.length ca3) := fun x => cell_of ((x.bel.block _ (lt_of_heap HVXX.out)).trans HVXX.out) rfl
      have HK1 := hide (fun (x : GW X2) => keptWords_any g5 c5 (.slice ao1 V.length ca1) V x.world (HHX.out.below x.bel).v.s (H1X.out.below x.bel) hV)
      have HK2 := hide (fun (x : GW X2) => keptInts_any g6 c6 (.slice ao2 Y.length ca2) Y x.world (HHX.out.below x.bel).v.t (H2X.out.below x.bel) hY)
      have HK3 := hide (fun (x : GW X2) => keptInts_any g7 c7 (.slice ao3 D.length ca3) D x.world (HHX.out.below x.bel).v.u (H3X.out.below x.bel) hD)
      have HK4 := hide (fun (x : GW X2) => sameG_any N _ _ _ _ _ _ st tl wt x.world (HHX.out.below x.bel).g.gis (HGX.out.below x.bel) (by omega))
      unfold gAgg at HK4
      go_wp2_with fail
      refine wp_region_gw (by kernel_rfl) (by kernel_rfl) ?_
      repeat (go_big_quiet_step (first
        | (go_at_call 109; with_reducible exact gw_of (HK1.out _))
        | (go_at_call 108; with_reducible exact gw_of (HK2.out _))
        | (go_at_call 108; with_reducible exact gw_of (HK3.out _))
        | (go_at_call 110; with_reducible exact gw_of (HK4.out _))
        | rfl))
      refine wpQuiet_nil ?_
      intro _ hw'
      obtain ⟨y, hw''⟩ := hw'
      subst hw''
      go_wp2
      go_ret
      exact ⟨rfl, below_on HB1.out (below_on HX.out y.bel)⟩
end Go.Proofs.Ythoklgdlnmccmaa

/- voucher.Make and the reference's. -/
namespace Go.Proofs.Ythoklgdlnmccmaa
open Go.RowKit Go.Lib
set_option linter.unusedVariables false
theorem results_cell2 {P : Program} {fn : Func} {p u : Tmp} {ty : TypeId} (h : fn.results = #[.cell p ty, .tmp u]) (tmps : Array Value) (w : World) (g : Nat) (t : TypeId) (cs : Array Value) (fr : Nat × Nat) (d : TypeDesc)
    (hp : tmps.getD p undef = .pointer (some ⟨g, 0, none⟩)) (hg : w.heap[g]? = some (.cells cs t fr))
    (hu : P.underlying ty = some d) (hd : (match d with | .struct _ | .array _ _ => true | _ => false) = true) (hi : (P.info? ty).map (·.size) = some cs.size) (x : Value) (hx : tmps.getD u undef = x) :
    (results fn tmps).run P w = .ok (.tuple #[.agg cs, x]) w := by
  subst hx
  have hp' : tmps[p]?.getD undef = .pointer (some ⟨g, 0, none⟩) := by simpa using hp
  simp only [results, h]
  simp [Result.andThen, hp', asAddr, run_loadVar_row w g t ty cs fr d hg hu hd hi]
/-- A voucher's lists, as a value. -/
def vAgg (a b c : Value) : Value := .agg #[a, b, c]
/-- Make's memory: the graph's box, the result. -/
structure MK (w x : World) (N : Int) (va vb vc : Value) : Prop where
  bg : x.heap[w.heap.size]? = some (.cells #[.int .i64 N, va, vb, vc] 32 (0, 0))
  rs : x.heap[w.heap.size + 1]? = some (.cells #[.slice none 0 0, .slice none 0 0, .slice none 0 0] 103 (0, 0))
  bel : Below w.heap.size w x
theorem MK.start (w : World) (N : Int) (va vb vc : Value) : MK w ((w.alloc (.cells #[.int .i64 N, va, vb, vc] 32)).alloc (.cells #[.slice none 0 0, .slice none 0 0, .slice none 0 0] 103)) N va vb vc := by
  have hs : (w.alloc (.cells #[.int .i64 N, va, vb, vc] 32)).heap.size = w.heap.size + 1 := by simp
  refine ⟨?_, ?_, below_alloc (below_alloc (Below.refl _ _) _) _⟩
  · rw [heap_alloc_old _ _ (by rw [hs]; omega)]; exact heap_new _ _
  · have := heap_new (w.alloc (.cells #[.int .i64 N, va, vb, vc] 32)) (.cells #[.slice none 0 0, .slice none 0 0, .slice none 0 0] 103)
    rw [hs] at this; exact this
theorem MK.below {w x x' : World} {N : Int} {va vb vc : Value} (h : MK w x N va vb vc) (hb : Below x.heap.size x x') : MK w x' N va vb vc :=
  ⟨(hb.block _ (lt_of_heap h.bg)).trans h.bg, (hb.block _ (lt_of_heap h.rs)).trans h.rs, below_on h.bel hb⟩
theorem MK.put {w x : World} {N : Int} {va vb vc : Value} (h : MK w x N va vb vc) (y0 y1 y2 : Value) :
    (((x.setCell ⟨w.heap.size + 1, 0, none⟩ y0).setCell ⟨w.heap.size + 1, 1, none⟩ y1).setCell ⟨w.heap.size + 1, 2, none⟩ y2).heap[w.heap.size + 1]? = some (.cells #[y0, y1, y2] 103 (0, 0)) ∧
    Below w.heap.size w (((x.setCell ⟨w.heap.size + 1, 0, none⟩ y0).setCell ⟨w.heap.size + 1, 1, none⟩ y1).setCell ⟨w.heap.size + 1, 2, none⟩ y2) ∧
    ∀ k, k ≠ w.heap.size + 1 → (((x.setCell ⟨w.heap.size + 1, 0, none⟩ y0).setCell ⟨w.heap.size + 1, 1, none⟩ y1).setCell ⟨w.heap.size + 1, 2, none⟩ y2).heap[k]? = x.heap[k]? := by
  refine ⟨by rw [heap_set (heap_set (heap_set h.rs _) _) _]; rfl, ?_, fun k hk => ?_⟩
  · exact ((h.bel.setCell (p := ⟨w.heap.size + 1, 0, none⟩) (by simp) _).setCell (p := ⟨w.heap.size + 1, 1, none⟩) (by simp) _).setCell (p := ⟨w.heap.size + 1, 2, none⟩) (by simp) _
  · rw [Below.heap_setCell _ _ _ _ (by exact hk), Below.heap_setCell _ _ _ _ (by exact hk), Below.heap_setCell _ _ _ _ (by exact hk)]
/-- What Make answers where the arguments may be. -/
def MadeW (w : World) (n : Nat) (st tl wt : List Int) (k : Int) (S : List Pr) (e : Ending) (w' : World) : Prop :=
  ∃ (G GY GD : Nat) (L Y D : List Int), e = .returned (.tuple #[.agg #[.slice (some ⟨G, 0, none⟩) n n, .slice (some ⟨GY, 0, none⟩) n n, .slice (some ⟨GD, 0, none⟩) n n], .int .i64 0]) ∧ ArrU w' G L ∧ Arr w' GY Y ∧ Arr w' GD D ∧ Found n st tl wt k S L ∧ Whole n st tl wt k S L D Y ∧ Below w.heap.size w w'
theorem Try.results59 : Try.f59.results = #[.cell 6 103, .tmp 7] := by kernel_rfl
theorem Try.results60 : Try.f60.results = #[.cell 6 103, .tmp 7] := by kernel_rfl
theorem arru_ne' {w : World} {G Z : Nat} {L : List Int} {cs : Array Value} {t : TypeId} {fr : Nat × Nat} (h : ArrU w G L) (h2 : w.heap[Z]? = some (.cells cs t fr)) (ht : t ≠ 22) : G ≠ Z := by
  rintro rfl
  unfold ArrU at h
  rw [h] at h2
  simp at h2
  exact ht h2.2.1.symm
theorem arr_ne' {w : World} {G Z : Nat} {L : List Int} {cs : Array Value} {t : TypeId} {fr : Nat × Nat} (h : Arr w G L) (h2 : w.heap[Z]? = some (.cells cs t fr)) (ht : t ≠ 3) : G ≠ Z := by
  rintro rfl
  unfold Arr at h
  rw [h] at h2
  simp at h2
  exact ht h2.2.1.symm
set_option maxRecDepth 100000 in
set_option maxHeartbeats 4000000 in
theorem make_good (n : Nat) (va vb vc : Value) (st tl wt : List Int) (k : Int) (sv : Value) (S : List Pr) (w : World) (hg : GIs w n va vb vc st tl wt) (hgd : Good n st tl wt) (hwb : ∀ e, 0 ≤ at_ wt e ∧ at_ wt e ≤ 18446744073709551615)
    (hs : SAt w sv S) (hok : Sok n S) (hS : S.length * 16 ≤ 140737488353280) (hno : srchNo n st tl wt k S = 0) :
    Calls Try.prog 59 #[gAgg n va vb vc, .int .i64 k, sv] w (MadeW w n st tl wt k S) := by
  obtain ⟨ao, ca, rfl⟩ := hg.s.shape
  obtain ⟨bo, cb, rfl⟩ := hg.t.shape
  obtain ⟨co, cc, rfl⟩ := hg.u.shape
  obtain ⟨so, sc, rfl, hsc, hscm⟩ := hs.shape
  have hSb : ∀ j, j < S.length → 0 ≤ (sAt S j).2 ∧ (sAt S j).2 ≤ 18446744073709551615 := fun j hj => by have := (hok j hj).2; omega
  have HSE := hide (fun a b c v W h h2 => rsearch_good n a b c st tl wt k v S W h hgd hwb h2 hok hS hno)
  have HTR := hide (fun a b c v lv L W h h2 h3 h4 => tree_good n a b c st tl wt k v S lv L W h hno hwb h2 hSb hS h3 h4)
  have HK1 := hide (MK.start w n (.slice ao st.length ca) (.slice bo tl.length cb) (.slice co wt.length cc))
  have HG := hide hg; have HS := hide hs
  have hn := hgd.n_le
  have c0 := cell_of HK1.out.bg (i := 0) rfl
  have c1 := cell_of HK1.out.bg (i := 1) rfl
  have c2 := cell_of HK1.out.bg (i := 2) rfl
  have c3 := cell_of HK1.out.bg (i := 3) rfl
  unfold gAgg at HSE HTR ⊢
  clear hg hs hgd hwb hok hno hSb
  go_enter Try.func59, Try.ntmps59
  go_wp2_with fail
  generalize ((w.alloc (.cells #[.int .i64 n, .slice ao st.length ca, .slice bo tl.length cb, .slice co wt.length cc] 32)).alloc (.cells #[.slice none 0 0, .slice none 0 0, .slice none 0 0] 103)) = w1 at c0 c1 c2 c3 HK1 ⊢
  refine (HSE.out _ _ _ _ w1 (HG.out.below HK1.out.bel) (HS.out.below HK1.out.bel)).mono ?_
  rintro e w2 ⟨G, L, rfl, hG, hA, hF, hb2⟩
  have HK2 := hide (HK1.out.below hb2)
  have HA2 := hide hA; have HF := hide hF
  have d0 := cell_of HK2.out.bg (i := 0) rfl
  have d1 := cell_of HK2.out.bg (i := 1) rfl
  have d2 := cell_of HK2.out.bg (i := 2) rfl
  have d3 := cell_of HK2.out.bg (i := 3) rfl
  clear c0 c1 c2 c3 HK1 hb2 hA hF hG HSE
  go_wp2_with fail
  refine (HTR.out _ _ _ _ _ L w2 (HG.out.below HK2.out.bel) (HS.out.below HK2.out.bel) (HA2.out.row HF.out.len (by omega)) HF.out).mono ?_
  rintro e w3 ⟨GY, GD, Y, D, rfl, hY, hD, hW, hb3⟩
  have HK3 := hide (HK2.out.below hb3)
  have HA3 : Hid (ArrU w3 G L) := (hb3.block _ (lt_of_heap HA2.out)).trans HA2.out
  have HY := hide hY; have HD := hide hD; have HW := hide hW
  have t0 := cell_of HK3.out.rs (i := 0) rfl
  have t1 := cell_of HK3.out.rs (i := 1) rfl
  have t2 := cell_of HK3.out.rs (i := 2) rfl
  have u0 := free_of HK3.out.rs 0
  have u1 := free_of HK3.out.rs 1
  have u2 := free_of HK3.out.rs 2
  have HPU := hide (HK3.out.put (.slice (some ⟨G, 0, none⟩) n n) (.slice (some ⟨GY, 0, none⟩) n n) (.slice (some ⟨GD, 0, none⟩) n n))
  clear hb3 hY hD hW d0 d1 d2 d3 HK2 HA2 HTR
  go_wp2
  exact bodyPost_ret (results_cell2 Try.results59 _ _ (w.heap.size + 1) 103 _ (0, 0) _ rfl HPU.out.1 Try.underlying103 rfl (by kernel_rfl) (.int .i64 0) rfl) rfl
    ⟨G, GY, GD, L, Y, D, rfl, (HPU.out.2.2 _ (arru_ne' HA3.out HK3.out.rs (by decide))).trans HA3.out, (HPU.out.2.2 _ (arr_ne' HY.out HK3.out.rs (by decide))).trans HY.out, (HPU.out.2.2 _ (arr_ne' HD.out HK3.out.rs (by decide))).trans HD.out, HF.out, HW.out, HPU.out.2.1⟩
set_option maxRecDepth 100000 in
set_option maxHeartbeats 4000000 in
theorem refMake_good (n : Nat) (va vb vc : Value) (st tl wt : List Int) (k : Int) (sv : Value) (S : List Pr) (w : World) (hg : GIs w n va vb vc st tl wt) (hgd : Good n st tl wt) (hwb : ∀ e, 0 ≤ at_ wt e ∧ at_ wt e ≤ 18446744073709551615)
    (hs : SAt w sv S) (hok : Sok n S) (hS : S.length * 16 ≤ 140737488353280) (hno : srchNo n st tl wt k S = 0) :
    Calls Try.prog 60 #[gAgg n va vb vc, .int .i64 k, sv] w (MadeW w n st tl wt k S) := by
  obtain ⟨ao, ca, rfl⟩ := hg.s.shape
  obtain ⟨bo, cb, rfl⟩ := hg.t.shape
  obtain ⟨co, cc, rfl⟩ := hg.u.shape
  obtain ⟨so, sc, rfl, hsc, hscm⟩ := hs.shape
  have hSb : ∀ j, j < S.length → 0 ≤ (sAt S j).2 ∧ (sAt S j).2 ≤ 18446744073709551615 := fun j hj => by have := (hok j hj).2; omega
  have HSE := hide (fun a b c v W h h2 => refSearch_good n a b c st tl wt k v S W h hno (by have := hgd.s_len; have := hgd.n_le; omega) (by have := hgd.m_le; omega) (by have := hgd.w_len; have := hgd.m_le; omega) hwb h2 (fun j hj => (hok j hj).2.1) hS)
  have HTR := hide (fun a b c v lv L W h h2 h3 h4 => refTree_good n a b c st tl wt k v S lv L W h hno hwb h2 hSb hS h3 h4)
  have HK1 := hide (MK.start w n (.slice ao st.length ca) (.slice bo tl.length cb) (.slice co wt.length cc))
  have HG := hide hg; have HS := hide hs
  have hn := hgd.n_le
  have c0 := cell_of HK1.out.bg (i := 0) rfl
  have c1 := cell_of HK1.out.bg (i := 1) rfl
  have c2 := cell_of HK1.out.bg (i := 2) rfl
  have c3 := cell_of HK1.out.bg (i := 3) rfl
  unfold gAgg at HSE HTR ⊢
  clear hg hs hgd hwb hok hno hSb
  go_enter Try.func60, Try.ntmps60
  go_wp2_with fail
  generalize ((w.alloc (.cells #[.int .i64 n, .slice ao st.length ca, .slice bo tl.length cb, .slice co wt.length cc] 32)).alloc (.cells #[.slice none 0 0, .slice none 0 0, .slice none 0 0] 103)) = w1 at c0 c1 c2 c3 HK1 ⊢
  refine (HSE.out _ _ _ _ w1 (HG.out.below HK1.out.bel) (HS.out.below HK1.out.bel)).mono ?_
  rintro e w2 ⟨G, L, rfl, hG, hA, hF, hb2⟩
  have HK2 := hide (HK1.out.below hb2)
  have HA2 := hide hA; have HF := hide hF
  have d0 := cell_of HK2.out.bg (i := 0) rfl
  have d1 := cell_of HK2.out.bg (i := 1) rfl
  have d2 := cell_of HK2.out.bg (i := 2) rfl
  have d3 := cell_of HK2.out.bg (i := 3) rfl
  clear c0 c1 c2 c3 HK1 hb2 hA hF hG HSE
  go_wp2_with fail
  refine (HTR.out _ _ _ _ _ L w2 (HG.out.below HK2.out.bel) (HS.out.below HK2.out.bel) (HA2.out.row HF.out.len (by omega)) HF.out).mono ?_
  rintro e w3 ⟨GY, GD, Y, D, rfl, hY, hD, hW, hb3⟩
  have HK3 := hide (HK2.out.below hb3)
  have HA3 : Hid (ArrU w3 G L) := (hb3.block _ (lt_of_heap HA2.out)).trans HA2.out
  have HY := hide hY; have HD := hide hD; have HW := hide hW
  have t0 := cell_of HK3.out.rs (i := 0) rfl
  have t1 := cell_of HK3.out.rs (i := 1) rfl
  have t2 := cell_of HK3.out.rs (i := 2) rfl
  have u0 := free_of HK3.out.rs 0
  have u1 := free_of HK3.out.rs 1
  have u2 := free_of HK3.out.rs 2
  have HPU := hide (HK3.out.put (.slice (some ⟨G, 0, none⟩) n n) (.slice (some ⟨GY, 0, none⟩) n n) (.slice (some ⟨GD, 0, none⟩) n n))
  clear hb3 hY hD hW d0 d1 d2 d3 HK2 HA2 HTR
  go_wp2
  exact bodyPost_ret (results_cell2 Try.results60 _ _ (w.heap.size + 1) 103 _ (0, 0) _ rfl HPU.out.1 Try.underlying103 rfl (by kernel_rfl) (.int .i64 0) rfl) rfl
    ⟨G, GY, GD, L, Y, D, rfl, (HPU.out.2.2 _ (arru_ne' HA3.out HK3.out.rs (by decide))).trans HA3.out, (HPU.out.2.2 _ (arr_ne' HY.out HK3.out.rs (by decide))).trans HY.out, (HPU.out.2.2 _ (arr_ne' HD.out HK3.out.rs (by decide))).trans HD.out, HF.out, HW.out, HPU.out.2.1⟩
set_option maxRecDepth 100000 in
set_option maxHeartbeats 4000000 in
theorem make_bad (N : Int) (va vb vc : Value) (st tl wt : List Int) (k : Int) (sv : Value) (S : List Pr) (w : World) (hg : GIs w N va vb vc st tl wt) (hst : st.length ≤ 17592186044416) (hto : tl.length ≤ 17592186044416) (hwt : wt.length ≤ 17592186044416) (hs : SAt w sv S) (hS : S.length * 16 ≤ 140737488353280) (hno : srchNo N st tl wt k S ≠ 0) :
    Calls Try.prog 59 #[gAgg N va vb vc, .int .i64 k, sv] w fun e w' => e = .returned (.tuple #[.agg #[.slice none 0 0, .slice none 0 0, .slice none 0 0], .int .i64 (srchNo N st tl wt k S)]) ∧ Below w.heap.size w w' := by
  obtain ⟨ao, ca, rfl⟩ := hg.s.shape
  obtain ⟨bo, cb, rfl⟩ := hg.t.shape
  obtain ⟨co, cc, rfl⟩ := hg.u.shape
  obtain ⟨so, sc, rfl, hsc, hscm⟩ := hs.shape
  have HSE := hide (fun a b c v W h h2 => rsearch_bad N a b c st tl wt k v S W h hst hto hwt h2 hno)
  have HK1 := hide (MK.start w N (.slice ao st.length ca) (.slice bo tl.length cb) (.slice co wt.length cc))
  have HG := hide hg; have HS := hide hs
  obtain ⟨x, hX⟩ : ∃ x, x = srchNo N st tl wt k S := ⟨_, rfl⟩
  rw [← hX] at HSE hno ⊢
  have hx : (x != 0) = true := by simp [hno]
  have c0 := cell_of HK1.out.bg (i := 0) rfl
  have c1 := cell_of HK1.out.bg (i := 1) rfl
  have c2 := cell_of HK1.out.bg (i := 2) rfl
  have c3 := cell_of HK1.out.bg (i := 3) rfl
  unfold gAgg at HSE ⊢
  clear hg hs hX hno
  go_enter Try.func59, Try.ntmps59
  go_wp2_with fail
  generalize ((w.alloc (.cells #[.int .i64 N, .slice ao st.length ca, .slice bo tl.length cb, .slice co wt.length cc] 32)).alloc (.cells #[.slice none 0 0, .slice none 0 0, .slice none 0 0] 103)) = w1 at c0 c1 c2 c3 HK1 ⊢
  refine (HSE.out _ _ _ _ w1 (HG.out.below HK1.out.bel) (HS.out.below HK1.out.bel)).mono ?_
  rintro e w2 ⟨rfl, hb2⟩
  have HK3 := hide (HK1.out.below hb2)
  have t0 := cell_of HK3.out.rs (i := 0) rfl
  have t1 := cell_of HK3.out.rs (i := 1) rfl
  have t2 := cell_of HK3.out.rs (i := 2) rfl
  have u0 := free_of HK3.out.rs 0
  have u1 := free_of HK3.out.rs 1
  have u2 := free_of HK3.out.rs 2
  have HPU := hide (HK3.out.put (.slice none 0 0) (.slice none 0 0) (.slice none 0 0))
  clear c0 c1 c2 c3 HK1 hb2 HSE
  go_wp2
  exact bodyPost_ret (results_cell2 Try.results59 _ _ (w.heap.size + 1) 103 _ (0, 0) _ rfl HPU.out.1 Try.underlying103 rfl (by kernel_rfl) (.int .i64 x) rfl) rfl ⟨rfl, HPU.out.2.1⟩
set_option maxRecDepth 100000 in
set_option maxHeartbeats 4000000 in
theorem refMake_bad (N : Int) (va vb vc : Value) (st tl wt : List Int) (k : Int) (sv : Value) (S : List Pr) (w : World) (hg : GIs w N va vb vc st tl wt) (hst : st.length ≤ 17592186044416) (hto : tl.length ≤ 17592186044416) (hwt : wt.length ≤ 17592186044416) (hs : SAt w sv S) (hS : S.length * 16 ≤ 140737488353280) (hno : srchNo N st tl wt k S ≠ 0) :
    Calls Try.prog 60 #[gAgg N va vb vc, .int .i64 k, sv] w fun e w' => e = .returned (.tuple #[.agg #[.slice none 0 0, .slice none 0 0, .slice none 0 0], .int .i64 (srchNo N st tl wt k S)]) ∧ Below w.heap.size w w' := by
  obtain ⟨ao, ca, rfl⟩ := hg.s.shape
  obtain ⟨bo, cb, rfl⟩ := hg.t.shape
  obtain ⟨co, cc, rfl⟩ := hg.u.shape
  obtain ⟨so, sc, rfl, hsc, hscm⟩ := hs.shape
  have HSE := hide (fun a b c v W h h2 => refSearch_bad N a b c st tl wt k v S W h hno hst hto hwt h2 hS)
  have HK1 := hide (MK.start w N (.slice ao st.length ca) (.slice bo tl.length cb) (.slice co wt.length cc))
  have HG := hide hg; have HS := hide hs
  obtain ⟨x, hX⟩ : ∃ x, x = srchNo N st tl wt k S := ⟨_, rfl⟩
  rw [← hX] at HSE hno ⊢
  have hx : (x != 0) = true := by simp [hno]
  have c0 := cell_of HK1.out.bg (i := 0) rfl
  have c1 := cell_of HK1.out.bg (i := 1) rfl
  have c2 := cell_of HK1.out.bg (i := 2) rfl
  have c3 := cell_of HK1.out.bg (i := 3) rfl
  unfold gAgg at HSE ⊢
  clear hg hs hX hno
  go_enter Try.func60, Try.ntmps60
  go_wp2_with fail
  generalize ((w.alloc (.cells #[.int .i64 N, .slice ao st.length ca, .slice bo tl.length cb, .slice co wt.length cc] 32)).alloc (.cells #[.slice none 0 0, .slice none 0 0, .slice none 0 0] 103)) = w1 at c0 c1 c2 c3 HK1 ⊢
  refine (HSE.out _ _ _ _ w1 (HG.out.below HK1.out.bel) (HS.out.below HK1.out.bel)).mono ?_
  rintro e w2 ⟨rfl, hb2⟩
  have HK3 := hide (HK1.out.below hb2)
  have t0 := cell_of HK3.out.rs (i := 0) rfl
  have t1 := cell_of HK3.out.rs (i := 1) rfl
  have t2 := cell_of HK3.out.rs (i := 2) rfl
  have u0 := free_of HK3.out.rs 0
  have u1 := free_of HK3.out.rs 1
  have u2 := free_of HK3.out.rs 2
  have HPU := hide (HK3.out.put (.slice none 0 0) (.slice none 0 0) (.slice none 0 0))
  clear c0 c1 c2 c3 HK1 hb2 HSE
  go_wp2
  exact bodyPost_ret (results_cell2 Try.results60 _ _ (w.heap.size + 1) 103 _ (0, 0) _ rfl HPU.out.1 Try.underlying103 rfl (by kernel_rfl) (.int .i64 x) rfl) rfl ⟨rfl, HPU.out.2.1⟩
set_option maxRecDepth 100000 in
theorem no_any (x : Int) (w : World) : Calls Try.prog 62 #[.int .i64 x] w fun e w' => e = .returned (.int .i64 x) ∧ w' = w := by
  go_enter Try.func62, Try.ntmps62
  go_wp2
  go_ret
  exact ⟨rfl, rfl⟩
set_option maxRecDepth 100000 in
set_option maxHeartbeats 4000000 in
theorem vsame_any (a b c a' b' c' : Value) (V Y D : List Int) (w : World) (h1 : RowAt .u64 w a V) (h2 : RowAt .i64 w b Y) (h3 : RowAt .i64 w c D) (h1' : RowAt .u64 w a' V) (h2' : RowAt .i64 w b' Y) (h3' : RowAt .i64 w c' D) :
    Calls Try.prog 61 #[.agg #[a, b, c], .agg #[a', b', c']] w fun e w' => e = .returned (.bool true) ∧ Below w.heap.size w w' := by
  obtain ⟨ao, ca, rfl⟩ := h1.shape
  obtain ⟨bo, cb, rfl⟩ := h2.shape
  obtain ⟨co, cc, rfl⟩ := h3.shape
  obtain ⟨ao', ca', rfl⟩ := h1'.shape
  obtain ⟨bo', cb', rfl⟩ := h2'.shape
  obtain ⟨co', cc', rfl⟩ := h3'.shape
  have hb1 := below_alloc (below_alloc (Below.refl w.heap.size w) (.cells #[.slice ao V.length ca, .slice bo Y.length cb, .slice co D.length cc] 103)) (.cells #[.slice ao' V.length ca', .slice bo' Y.length cb', .slice co' D.length cc'] 103)
  have hA : ((w.alloc (.cells #[.slice ao V.length ca, .slice bo Y.length cb, .slice co D.length cc] 103)).alloc (.cells #[.slice ao' V.length ca', .slice bo' Y.length cb', .slice co' D.length cc'] 103)).heap[w.heap.size]? = some (.cells #[.slice ao V.length ca, .slice bo Y.length cb, .slice co D.length cc] 103 (0, 0)) := by
    rw [heap_alloc_old _ _ (by simp)]; exact heap_new _ _
  have hB : ((w.alloc (.cells #[.slice ao V.length ca, .slice bo Y.length cb, .slice co D.length cc] 103)).alloc (.cells #[.slice ao' V.length ca', .slice bo' Y.length cb', .slice co' D.length cc'] 103)).heap[w.heap.size + 1]? = some (.cells #[.slice ao' V.length ca', .slice bo' Y.length cb', .slice co' D.length cc'] 103 (0, 0)) := by
    have := heap_new (w.alloc (.cells #[.slice ao V.length ca, .slice bo Y.length cb, .slice co D.length cc] 103)) (.cells #[.slice ao' V.length ca', .slice bo' Y.length cb', .slice co' D.length cc'] 103)
    simpa using this
  have H1 := hide (h1.below hb1); have H2 := hide (h2.below hb1); have H3 := hide (h3.below hb1); have H1' := hide (h1'.below hb1); have H2' := hide (h2'.below hb1); have H3' := hide (h3'.below hb1)
  have HB1 := hide hb1; have HA := hide hA; have HB := hide hB
  have a0 := cell_of hA (i := 0) rfl
  have b0 := cell_of hB (i := 0) rfl
  clear hb1 hA hB h1 h2 h3 h1' h2' h3'
  go_enter Try.func61, Try.ntmps61
  go_wp2_with fail
  generalize ((w.alloc (.cells #[.slice ao V.length ca, .slice bo Y.length cb, .slice co D.length cc] 103)).alloc (.cells #[.slice ao' V.length ca', .slice bo' Y.length cb', .slice co' D.length cc'] 103)) = w1 at H1 H2 H3 H1' H2' H3' HB1 HA HB a0 b0 ⊢
  refine (vWords_any _ _ V w1 H1.out H1'.out).mono ?_
  rintro e w2 ⟨rfl, hb2⟩
  have a1 := cell_of ((hb2.block _ (lt_of_heap HA.out)).trans HA.out) (i := 1) rfl
  have b1 := cell_of ((hb2.block _ (lt_of_heap HB.out)).trans HB.out) (i := 1) rfl
  have HB2 := hide hb2
  clear a0 b0 hb2
  go_wp2_with fail
  refine (vInts_any _ _ Y w2 (H2.out.below HB2.out) (H2'.out.below HB2.out)).mono ?_
  rintro e w3 ⟨rfl, hb3⟩
  have HB3 := hide (below_on HB2.out hb3)
  have a2 := cell_of ((HB3.out.block _ (lt_of_heap HA.out)).trans HA.out) (i := 2) rfl
  have b2 := cell_of ((HB3.out.block _ (lt_of_heap HB.out)).trans HB.out) (i := 2) rfl
  clear a1 b1 hb3
  go_wp2_with fail
  refine (vInts_any _ _ D w3 (H3.out.below HB3.out) (H3'.out.below HB3.out)).mono ?_
  rintro e w4 ⟨rfl, hb4⟩
  have HB4 := hide (below_on HB1.out (below_on HB3.out hb4))
  clear a2 b2 hb4
  go_wp2
  go_ret
  exact ⟨rfl, HB4.out⟩
end Go.Proofs.Ythoklgdlnmccmaa

/- VoucherMakes: the walk. -/
namespace Go.Proofs.Ythoklgdlnmccmaa
open Go.RowKit Go.Lib
set_option linter.unusedVariables false
theorem G2.low {w : World} {b b' g1 c1 g2 c2 g3 c3 : Nat} {st tl wt : List Int} (h : G2 w b g1 c1 g2 c2 g3 c3 st tl wt) (hb : b' ≤ b) : G2 w b' g1 c1 g2 c2 g3 c3 st tl wt := ⟨h.s, h.t, h.u, Nat.le_trans hb h.b1, Nat.le_trans hb h.b2, Nat.le_trans hb h.b3⟩
theorem V2.low {w : World} {b b' g1 c1 g2 c2 g3 c3 : Nat} {st tl wt : List Int} (h : V2 w b g1 c1 g2 c2 g3 c3 st tl wt) (hb : b' ≤ b) : V2 w b' g1 c1 g2 c2 g3 c3 st tl wt := ⟨h.s, h.t, h.u, Nat.le_trans hb h.b1, Nat.le_trans hb h.b2, Nat.le_trans hb h.b3⟩
theorem S2.low {w : World} {b b' g c : Nat} {S : List Pr} (h : S2 w b g c S) (hb : b' ≤ b) : S2 w b' g c S := ⟨h.all, h.le, h.cap, Nat.le_trans hb h.b1⟩
theorem box3 (w : World) (a b c : Value) : (w.alloc (.cells #[a, b, c] 103)).heap[w.heap.size]? = some (.cells #[a, b, c] 103 (0, 0)) := heap_new _ _
set_option maxRecDepth 100000 in
set_option maxHeartbeats 8000000 in
theorem makes_good (n : Nat) (va vb vc : Value) (st tl wt : List Int) (k : Int) (sv : Value) (S : List Pr) (w : World) (hg : GIs w n va vb vc st tl wt) (hgd : Good n st tl wt) (hwb : ∀ e, 0 ≤ at_ wt e ∧ at_ wt e ≤ 18446744073709551615)
    (hs : SAt w sv S) (hok : Sok n S) (hS : S.length * 16 ≤ 140737488353280) (hno : srchNo n st tl wt k S = 0) :
    Calls Try.prog 15 #[gAgg n va vb vc, .int .i64 k, sv] w fun e w' => e = .returned (.bool true) ∧ Below w.heap.size w w' := by
  have hn := hgd.n_le
  have hst : st.length * 8 ≤ 140737488351232 := by have := hgd.s_len; omega
  have hto : tl.length * 8 ≤ 140737488351232 := by have := hgd.m_le; omega
  have hwt : wt.length * 8 ≤ 140737488351232 := by have := hgd.w_len; have := hgd.m_le; omega
  obtain ⟨ao, ca, rfl⟩ := hg.s.shape
  obtain ⟨bo, cb, rfl⟩ := hg.t.shape
  obtain ⟨co, cc, rfl⟩ := hg.u.shape
  obtain ⟨so, sc, rfl, hsc, hscm⟩ := hs.shape
  obtain ⟨V, hV⟩ : ∃ V : List Int, V = [] := ⟨_, rfl⟩
  have hVn : V.length * 8 ≤ 140737488351232 := by rw [hV]; decide
  have HVU : Hid (∀ W : World, RowAt .u64 W (.slice none 0 0) V) := fun W => by rw [hV]; exact ⟨none, 0, rfl, by simp, by omega, fun _ => rfl, fun a ha => by cases ha⟩
  have HVI : Hid (∀ W : World, RowAt .i64 W (.slice none 0 0) V) := fun W => by rw [hV]; exact RowAt.nil W
  obtain ⟨c0, c1, c2, c3, hb1, hs1⟩ := boxed w (.int .i64 n) (.slice ao st.length ca) (.slice bo tl.length cb) (.slice co wt.length cc)
  have hbx : (w.alloc (.cells #[.int .i64 n, .slice ao st.length ca, .slice bo tl.length cb, .slice co wt.length cc] 32)).heap[w.heap.size]? = some (.cells #[.int .i64 n, .slice ao st.length ca, .slice bo tl.length cb, .slice co wt.length cc] 32 (0, 0)) := heap_new _ _
  have HO := hide (hold_any n _ _ _ st tl wt _ S _ _ _ V V V _ (hg.below hb1) hst hto hwt (hs.below hb1) hS (HVU.out _) (HVI.out _) (HVI.out _) hVn hVn hVn)
  have HMK := hide (fun a b c v W h h2 => make_good n a b c st tl wt k v S W h hgd hwb h2 hok hS hno)
  have HRM := hide (fun a b c v W h h2 => refMake_good n a b c st tl wt k v S W h hgd hwb h2 hok hS hno)
  have HG1 := hide (hg.below hb1)
  have HS1 := hide (hs.below hb1)
  have HB1 := hide hb1
  have HX1 := hide hbx
  have HD := hide hgd
  have HOK := hide hok
  have HWB := hide hwb
  unfold gAgg at HO HMK HRM ⊢
  clear hb1 hg hs hno hgd hwb hok hV hbx
  go_enter Try.func15, Try.ntmps15
  go_wp2_with fail
  generalize (w.alloc (.cells #[.int .i64 n, .slice ao st.length ca, .slice bo tl.length cb, .slice co wt.length cc] 32)) = w1 at c0 c1 c2 c3 hs1 HB1 HO HG1 HS1 HX1 ⊢
  refine HO.out.mono ?_
  rintro e w2 ⟨g1, c1', g2, c2', g3, c3', g4, c4, g5, c5, g6, c6, g7, c7, rfl, hG, hSS, hVV, hb2⟩
  have hb3 := below_alloc (Below.refl w2.heap.size w2) (.cells #[.int .i64 n, .slice (some ⟨g1, 0, none⟩) st.length c1', .slice (some ⟨g2, 0, none⟩) tl.length c2', .slice (some ⟨g3, 0, none⟩) wt.length c3', .slice (some ⟨g4, 0, none⟩) S.length c4, .slice (some ⟨g5, 0, none⟩) V.length c5, .slice (some ⟨g6, 0, none⟩) V.length c6, .slice (some ⟨g7, 0, none⟩) V.length c7] 105)
  have HH3 : Hid (HIs (w2.alloc (.cells #[.int .i64 n, .slice (some ⟨g1, 0, none⟩) st.length c1', .slice (some ⟨g2, 0, none⟩) tl.length c2', .slice (some ⟨g3, 0, none⟩) wt.length c3', .slice (some ⟨g4, 0, none⟩) S.length c4, .slice (some ⟨g5, 0, none⟩) V.length c5, .slice (some ⟨g6, 0, none⟩) V.length c6, .slice (some ⟨g7, 0, none⟩) V.length c7] 105)) w2.heap.size n g1 c1' g2 c2' g3 c3' g4 c4 g5 c5 g6 c6 g7 c7 st tl wt S V V V) :=
    ⟨heap_new _ _, (hG.below hb3).low (Nat.zero_le _), (hSS.below hb3).low (Nat.zero_le _), (hVV.below hb3).low (Nat.zero_le _)⟩
  have HB3 := hide (below_on hb2 hb3)
  have r0 := cell_of HH3.out.hh (i := 0) rfl
  have r1 := cell_of HH3.out.hh (i := 1) rfl
  have r2 := cell_of HH3.out.hh (i := 2) rfl
  have r3 := cell_of HH3.out.hh (i := 3) rfl
  have r4 := cell_of HH3.out.hh (i := 4) rfl
  clear hG hSS hVV hb2 hb3 c0 c1 c2 c3 HO
  go_wp2_with fail
  generalize hR : w2.heap.size = R at HH3 r0 r1 r2 r3 r4 ⊢
  generalize (w2.alloc (.cells #[.int .i64 n, .slice (some ⟨g1, 0, none⟩) st.length c1', .slice (some ⟨g2, 0, none⟩) tl.length c2', .slice (some ⟨g3, 0, none⟩) wt.length c3', .slice (some ⟨g4, 0, none⟩) S.length c4, .slice (some ⟨g5, 0, none⟩) V.length c5, .slice (some ⟨g6, 0, none⟩) V.length c6, .slice (some ⟨g7, 0, none⟩) V.length c7] 105)) = w3 at HH3 HB3 r0 r1 r2 r3 r4 ⊢
  clear hR w2
  refine (HMK.out _ _ _ _ w3 HH3.out.g.gis HH3.out.s.row).mono ?_
  rintro e w4 ⟨G, GY, GD, L, Y, D, rfl, hA, hAY, hAD, hF, hW, hb4⟩
  have hb5 := below_alloc hb4 (.cells #[.slice (some ⟨G, 0, none⟩) n n, .slice (some ⟨GY, 0, none⟩) n n, .slice (some ⟨GD, 0, none⟩) n n] 103)
  have hb45 := below_alloc (Below.refl w4.heap.size w4) (.cells #[.slice (some ⟨G, 0, none⟩) n n, .slice (some ⟨GY, 0, none⟩) n n, .slice (some ⟨GD, 0, none⟩) n n] 103)
  have HA5 : Hid (ArrU (w4.alloc (.cells #[.slice (some ⟨G, 0, none⟩) n n, .slice (some ⟨GY, 0, none⟩) n n, .slice (some ⟨GD, 0, none⟩) n n] 103)) G L) := (hb45.block _ (lt_of_heap hA)).trans hA
  have HY5 : Hid (Arr (w4.alloc (.cells #[.slice (some ⟨G, 0, none⟩) n n, .slice (some ⟨GY, 0, none⟩) n n, .slice (some ⟨GD, 0, none⟩) n n] 103)) GY Y) := (hb45.block _ (lt_of_heap hAY)).trans hAY
  have HD5 : Hid (Arr (w4.alloc (.cells #[.slice (some ⟨G, 0, none⟩) n n, .slice (some ⟨GY, 0, none⟩) n n, .slice (some ⟨GD, 0, none⟩) n n] 103)) GD D) := (hb45.block _ (lt_of_heap hAD)).trans hAD
  have HQ5 := hide (box3 w4 (.slice (some ⟨G, 0, none⟩) n n) (.slice (some ⟨GY, 0, none⟩) n n) (.slice (some ⟨GD, 0, none⟩) n n))
  have HB5 := hide (below_on HB3.out hb5)
  have HH5 := hide (HH3.out.below hb5)
  have HF := hide hF; have HW := hide hW
  have HYL : Hid (Y.length = n) := by obtain ⟨d, h1, _⟩ := hW; exact h1.yl
  have HDL : Hid (D.length = n) := by obtain ⟨d, h1, _⟩ := hW; exact h1.dl
  have HX5 := hide ((HB5.out.block _ (lt_of_heap HX1.out)).trans HX1.out)
  have d0 := cell_of HX5.out (i := 0) rfl
  have d1 := cell_of HX5.out (i := 1) rfl
  have d2 := cell_of HX5.out (i := 2) rfl
  have d3 := cell_of HX5.out (i := 3) rfl
  clear hA hAY hAD hF hW hb4 hb5 hb45 r0 r1 r2 r3 r4 HMK HH3 HB3
  go_wp2_with fail
  generalize hQ : w4.heap.size = Q1 at HQ5 ⊢
  generalize (w4.alloc (.cells #[.slice (some ⟨G, 0, none⟩) n n, .slice (some ⟨GY, 0, none⟩) n n, .slice (some ⟨GD, 0, none⟩) n n] 103)) = w5 at HA5 HY5 HD5 HQ5 HB5 HH5 HX5 d0 d1 d2 d3 ⊢
  clear hQ w4
  refine (HRM.out _ _ _ _ w5 (HG1.out.below HB5.out) (HS1.out.below HB5.out)).mono ?_
  rintro e w6 ⟨G', GY', GD', L', Y', D', rfl, hA, hAY, hAD, hF, hW, hb6⟩
  obtain rfl : L = L' := HF.out.only hF HWB.out (fun j hj => by have := (HOK.out j hj).2; omega)
  obtain ⟨rfl, rfl⟩ := Whole.only HD.out HW.out hW
  have hb7 := below_alloc hb6 (.cells #[.slice (some ⟨G', 0, none⟩) n n, .slice (some ⟨GY', 0, none⟩) n n, .slice (some ⟨GD', 0, none⟩) n n] 103)
  have hb67 := below_alloc (Below.refl w6.heap.size w6) (.cells #[.slice (some ⟨G', 0, none⟩) n n, .slice (some ⟨GY', 0, none⟩) n n, .slice (some ⟨GD', 0, none⟩) n n] 103)
  have HA7' : Hid (ArrU (w6.alloc (.cells #[.slice (some ⟨G', 0, none⟩) n n, .slice (some ⟨GY', 0, none⟩) n n, .slice (some ⟨GD', 0, none⟩) n n] 103)) G' L) := (hb67.block _ (lt_of_heap hA)).trans hA
  have HY7' : Hid (Arr (w6.alloc (.cells #[.slice (some ⟨G', 0, none⟩) n n, .slice (some ⟨GY', 0, none⟩) n n, .slice (some ⟨GD', 0, none⟩) n n] 103)) GY' Y) := (hb67.block _ (lt_of_heap hAY)).trans hAY
  have HD7' : Hid (Arr (w6.alloc (.cells #[.slice (some ⟨G', 0, none⟩) n n, .slice (some ⟨GY', 0, none⟩) n n, .slice (some ⟨GD', 0, none⟩) n n] 103)) GD' D) := (hb67.block _ (lt_of_heap hAD)).trans hAD
  have HA7 : Hid (ArrU (w6.alloc (.cells #[.slice (some ⟨G', 0, none⟩) n n, .slice (some ⟨GY', 0, none⟩) n n, .slice (some ⟨GD', 0, none⟩) n n] 103)) G L) := (hb7.block _ (lt_of_heap HA5.out)).trans HA5.out
  have HY7 : Hid (Arr (w6.alloc (.cells #[.slice (some ⟨G', 0, none⟩) n n, .slice (some ⟨GY', 0, none⟩) n n, .slice (some ⟨GD', 0, none⟩) n n] 103)) GY Y) := (hb7.block _ (lt_of_heap HY5.out)).trans HY5.out
  have HD7 : Hid (Arr (w6.alloc (.cells #[.slice (some ⟨G', 0, none⟩) n n, .slice (some ⟨GY', 0, none⟩) n n, .slice (some ⟨GD', 0, none⟩) n n] 103)) GD D) := (hb7.block _ (lt_of_heap HD5.out)).trans HD5.out
  have HQ7 := hide ((hb7.block _ (lt_of_heap HQ5.out)).trans HQ5.out)
  have HQ7' := hide (box3 w6 (.slice (some ⟨G', 0, none⟩) n n) (.slice (some ⟨GY', 0, none⟩) n n) (.slice (some ⟨GD', 0, none⟩) n n))
  have HB7 := hide (below_on HB5.out hb7)
  have HH7 := hide (HH5.out.below hb7)
  have q0 := cell_of HQ7.out (i := 0) rfl
  have q1 := cell_of HQ7.out (i := 1) rfl
  have q2 := cell_of HQ7.out (i := 2) rfl
  have s0 := cell_of HQ7'.out (i := 0) rfl
  have s1 := cell_of HQ7'.out (i := 1) rfl
  have s2 := cell_of HQ7'.out (i := 2) rfl
  clear hA hAY hAD hF hW hb6 hb7 hb67 d0 d1 d2 d3 HRM HH5 HB5 HA5 HY5 HD5 HQ5 HX5
  go_wp2_with fail
  generalize hQ' : w6.heap.size = Q2 at HQ7' s0 s1 s2 ⊢
  generalize (w6.alloc (.cells #[.slice (some ⟨G', 0, none⟩) n n, .slice (some ⟨GY', 0, none⟩) n n, .slice (some ⟨GD', 0, none⟩) n n] 103)) = w7 at HA7 HY7 HD7 HA7' HY7' HD7' HQ7 HQ7' HB7 HH7 q0 q1 q2 s0 s1 s2 ⊢
  clear hQ' w6
  refine (vsame_any _ _ _ _ _ _ L Y D w7 (HA7.out.row HF.out.len (by omega)) (HY7.out.row HYL.out (by omega)) (HD7.out.row HDL.out (by omega)) (HA7'.out.row HF.out.len (by omega)) (HY7'.out.row HYL.out (by omega)) (HD7'.out.row HDL.out (by omega))).mono ?_
  rintro e w8 ⟨rfl, hb8⟩
  have HB8 := hide (below_on HB7.out hb8)
  have HH8 := hide (HH7.out.below hb8)
  have HX8 := hide ((HB8.out.block _ (lt_of_heap HX1.out)).trans HX1.out)
  have d0 := cell_of HX8.out (i := 0) rfl
  have d1 := cell_of HX8.out (i := 1) rfl
  have d2 := cell_of HX8.out (i := 2) rfl
  have d3 := cell_of HX8.out (i := 3) rfl
  clear hb8 q0 q1 q2 s0 s1 s2 HQ7 HQ7' HA7 HY7 HD7 HA7' HY7' HD7' HB7 HH7
  go_wp2_with fail
  refine (no_any 0 w8).mono ?_
  rintro e w9 ⟨rfl, rfl⟩
  have HKP := hide (kept_any R n _ _ _ st tl wt _ S _ _ _ V V V g1 c1' g2 c2' g3 c3' g4 c4 g5 c5 g6 c6 g7 c7 _ HH8.out (HG1.out.below HB8.out) hst hto hwt (HS1.out.below HB8.out) hS (HVU.out _) (HVI.out _) (HVI.out _) hVn hVn hVn)
  unfold gAgg at HKP
  go_wp2_with fail
  refine HKP.out.mono ?_
  rintro e w10 ⟨rfl, hb10⟩
  have HEND := hide (below_on HB1.out (below_on HB8.out hb10))
  clear hb10 HKP
  go_wp2
  go_ret
  exact ⟨rfl, HEND.out⟩
set_option maxRecDepth 100000 in
set_option maxHeartbeats 8000000 in
theorem makes_bad (n : Int) (va vb vc : Value) (st tl wt : List Int) (k : Int) (sv : Value) (S : List Pr) (w : World) (hg : GIs w n va vb vc st tl wt) (hst : st.length * 8 ≤ 140737488351232) (hto : tl.length * 8 ≤ 140737488351232) (hwt : wt.length * 8 ≤ 140737488351232)
    (hs : SAt w sv S) (hS : S.length * 16 ≤ 140737488353280) (hno : srchNo n st tl wt k S ≠ 0) :
    Calls Try.prog 15 #[gAgg n va vb vc, .int .i64 k, sv] w fun e w' => e = .returned (.bool true) ∧ Below w.heap.size w w' := by
  obtain ⟨ao, ca, rfl⟩ := hg.s.shape
  obtain ⟨bo, cb, rfl⟩ := hg.t.shape
  obtain ⟨co, cc, rfl⟩ := hg.u.shape
  obtain ⟨so, sc, rfl, hsc, hscm⟩ := hs.shape
  obtain ⟨V, hV⟩ : ∃ V : List Int, V = [] := ⟨_, rfl⟩
  have hVn : V.length * 8 ≤ 140737488351232 := by rw [hV]; decide
  have HVU : Hid (∀ W : World, RowAt .u64 W (.slice none 0 0) V) := fun W => by rw [hV]; exact ⟨none, 0, rfl, by simp, by omega, fun _ => rfl, fun a ha => by cases ha⟩
  have HVI : Hid (∀ W : World, RowAt .i64 W (.slice none 0 0) V) := fun W => by rw [hV]; exact RowAt.nil W
  obtain ⟨c0, c1, c2, c3, hb1, hs1⟩ := boxed w (.int .i64 n) (.slice ao st.length ca) (.slice bo tl.length cb) (.slice co wt.length cc)
  have hbx : (w.alloc (.cells #[.int .i64 n, .slice ao st.length ca, .slice bo tl.length cb, .slice co wt.length cc] 32)).heap[w.heap.size]? = some (.cells #[.int .i64 n, .slice ao st.length ca, .slice bo tl.length cb, .slice co wt.length cc] 32 (0, 0)) := heap_new _ _
  have HO := hide (hold_any n _ _ _ st tl wt _ S _ _ _ V V V _ (hg.below hb1) hst hto hwt (hs.below hb1) hS (HVU.out _) (HVI.out _) (HVI.out _) hVn hVn hVn)
  have HMK := hide (fun a b c v W h h2 => make_bad n a b c st tl wt k v S W h (by omega) (by omega) (by omega) h2 hS hno)
  have HRM := hide (fun a b c v W h h2 => refMake_bad n a b c st tl wt k v S W h (by omega) (by omega) (by omega) h2 hS hno)
  have HG1 := hide (hg.below hb1)
  have HS1 := hide (hs.below hb1)
  have HB1 := hide hb1
  have HX1 := hide hbx
  obtain ⟨x, hx⟩ : ∃ x, x = srchNo n st tl wt k S := ⟨_, rfl⟩
  rw [← hx] at HMK HRM
  have hxx : (x == x) = true := by simp
  unfold gAgg at HO HMK HRM ⊢
  clear hb1 hg hs hno hV hbx hx
  go_enter Try.func15, Try.ntmps15
  go_wp2_with fail
  generalize (w.alloc (.cells #[.int .i64 n, .slice ao st.length ca, .slice bo tl.length cb, .slice co wt.length cc] 32)) = w1 at c0 c1 c2 c3 hs1 HB1 HO HG1 HS1 HX1 ⊢
  refine HO.out.mono ?_
  rintro e w2 ⟨g1, c1', g2, c2', g3, c3', g4, c4, g5, c5, g6, c6, g7, c7, rfl, hG, hSS, hVV, hb2⟩
  have hb3 := below_alloc (Below.refl w2.heap.size w2) (.cells #[.int .i64 n, .slice (some ⟨g1, 0, none⟩) st.length c1', .slice (some ⟨g2, 0, none⟩) tl.length c2', .slice (some ⟨g3, 0, none⟩) wt.length c3', .slice (some ⟨g4, 0, none⟩) S.length c4, .slice (some ⟨g5, 0, none⟩) V.length c5, .slice (some ⟨g6, 0, none⟩) V.length c6, .slice (some ⟨g7, 0, none⟩) V.length c7] 105)
  have HH3 : Hid (HIs (w2.alloc (.cells #[.int .i64 n, .slice (some ⟨g1, 0, none⟩) st.length c1', .slice (some ⟨g2, 0, none⟩) tl.length c2', .slice (some ⟨g3, 0, none⟩) wt.length c3', .slice (some ⟨g4, 0, none⟩) S.length c4, .slice (some ⟨g5, 0, none⟩) V.length c5, .slice (some ⟨g6, 0, none⟩) V.length c6, .slice (some ⟨g7, 0, none⟩) V.length c7] 105)) w2.heap.size n g1 c1' g2 c2' g3 c3' g4 c4 g5 c5 g6 c6 g7 c7 st tl wt S V V V) :=
    ⟨heap_new _ _, (hG.below hb3).low (Nat.zero_le _), (hSS.below hb3).low (Nat.zero_le _), (hVV.below hb3).low (Nat.zero_le _)⟩
  have HB3 := hide (below_on hb2 hb3)
  have r0 := cell_of HH3.out.hh (i := 0) rfl
  have r1 := cell_of HH3.out.hh (i := 1) rfl
  have r2 := cell_of HH3.out.hh (i := 2) rfl
  have r3 := cell_of HH3.out.hh (i := 3) rfl
  have r4 := cell_of HH3.out.hh (i := 4) rfl
  clear hG hSS hVV hb2 hb3 c0 c1 c2 c3 HO
  go_wp2_with fail
  generalize hR : w2.heap.size = R at HH3 r0 r1 r2 r3 r4 ⊢
  generalize (w2.alloc (.cells #[.int .i64 n, .slice (some ⟨g1, 0, none⟩) st.length c1', .slice (some ⟨g2, 0, none⟩) tl.length c2', .slice (some ⟨g3, 0, none⟩) wt.length c3', .slice (some ⟨g4, 0, none⟩) S.length c4, .slice (some ⟨g5, 0, none⟩) V.length c5, .slice (some ⟨g6, 0, none⟩) V.length c6, .slice (some ⟨g7, 0, none⟩) V.length c7] 105)) = w3 at HH3 HB3 r0 r1 r2 r3 r4 ⊢
  clear hR w2
  refine (HMK.out _ _ _ _ w3 HH3.out.g.gis HH3.out.s.row).mono ?_
  rintro e w4 ⟨rfl, hb4⟩
  have hb5 := below_alloc hb4 (.cells #[.slice none 0 0, .slice none 0 0, .slice none 0 0] 103)
  have HQ5 := hide (box3 w4 (.slice none 0 0) (.slice none 0 0) (.slice none 0 0))
  have HB5 := hide (below_on HB3.out hb5)
  have HH5 := hide (HH3.out.below hb5)
  have HX5 := hide ((HB5.out.block _ (lt_of_heap HX1.out)).trans HX1.out)
  have d0 := cell_of HX5.out (i := 0) rfl
  have d1 := cell_of HX5.out (i := 1) rfl
  have d2 := cell_of HX5.out (i := 2) rfl
  have d3 := cell_of HX5.out (i := 3) rfl
  clear hb4 hb5 r0 r1 r2 r3 r4 HMK HH3 HB3
  go_wp2_with fail
  generalize hQ : w4.heap.size = Q1 at HQ5 ⊢
  generalize (w4.alloc (.cells #[.slice none 0 0, .slice none 0 0, .slice none 0 0] 103)) = w5 at HQ5 HB5 HH5 HX5 d0 d1 d2 d3 ⊢
  clear hQ w4
  refine (HRM.out _ _ _ _ w5 (HG1.out.below HB5.out) (HS1.out.below HB5.out)).mono ?_
  rintro e w6 ⟨rfl, hb6⟩
  have hb7 := below_alloc hb6 (.cells #[.slice none 0 0, .slice none 0 0, .slice none 0 0] 103)
  have HQ7 := hide ((hb7.block _ (lt_of_heap HQ5.out)).trans HQ5.out)
  have HQ7' := hide (box3 w6 (.slice none 0 0) (.slice none 0 0) (.slice none 0 0))
  have HB7 := hide (below_on HB5.out hb7)
  have HH7 := hide (HH5.out.below hb7)
  have q0 := cell_of HQ7.out (i := 0) rfl
  have q1 := cell_of HQ7.out (i := 1) rfl
  have q2 := cell_of HQ7.out (i := 2) rfl
  have s0 := cell_of HQ7'.out (i := 0) rfl
  have s1 := cell_of HQ7'.out (i := 1) rfl
  have s2 := cell_of HQ7'.out (i := 2) rfl
  clear hb6 hb7 d0 d1 d2 d3 HRM HH5 HB5 HQ5 HX5
  go_wp2_with fail
  generalize hQ' : w6.heap.size = Q2 at HQ7' s0 s1 s2 ⊢
  generalize (w6.alloc (.cells #[.slice none 0 0, .slice none 0 0, .slice none 0 0] 103)) = w7 at HQ7 HQ7' HB7 HH7 q0 q1 q2 s0 s1 s2 ⊢
  clear hQ' w6
  refine (vsame_any _ _ _ _ _ _ V V V w7 (HVU.out _) (HVI.out _) (HVI.out _) (HVU.out _) (HVI.out _) (HVI.out _)).mono ?_
  rintro e w8 ⟨rfl, hb8⟩
  have HB8 := hide (below_on HB7.out hb8)
  have HH8 := hide (HH7.out.below hb8)
  have HX8 := hide ((HB8.out.block _ (lt_of_heap HX1.out)).trans HX1.out)
  have d0 := cell_of HX8.out (i := 0) rfl
  have d1 := cell_of HX8.out (i := 1) rfl
  have d2 := cell_of HX8.out (i := 2) rfl
  have d3 := cell_of HX8.out (i := 3) rfl
  clear hb8 q0 q1 q2 s0 s1 s2 HQ7 HQ7' HB7 HH7
  go_wp2_with fail
  refine (no_any x w8).mono ?_
  rintro e w9 ⟨rfl, rfl⟩
  have HKP := hide (kept_any R n _ _ _ st tl wt _ S _ _ _ V V V g1 c1' g2 c2' g3 c3' g4 c4 g5 c5 g6 c6 g7 c7 _ HH8.out (HG1.out.below HB8.out) hst hto hwt (HS1.out.below HB8.out) hS (HVU.out _) (HVI.out _) (HVI.out _) hVn hVn hVn)
  unfold gAgg at HKP
  go_wp2_with fail
  refine HKP.out.mono ?_
  rintro e w10 ⟨rfl, hb10⟩
  have HEND := hide (below_on HB1.out (below_on HB8.out hb10))
  clear hb10 HKP
  go_wp2
  go_ret
  exact ⟨rfl, HEND.out⟩
end Go.Proofs.Ythoklgdlnmccmaa
