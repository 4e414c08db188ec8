/- What all walks over graphs share: rows, the lists of a graph, sameInts (the law's and the reference's). -/
import Derived.Test.YtmagigmcbegmiaaBase
import Derived.RegionTactic
import Derived.BigRegion
import Derived.BigQuiet
import Derived.WalkSmall
import Derived.Deep.Draws
namespace Go.Proofs.Ytmagigmcbegmiaa
open Go.RowKit Go.Lib

theorem hide {p : Prop} (h : p) : Hid p := h

theorem heap_set {w : World} {b i : Nat} {cs : Array Value} {t : TypeId} {fr : Nat × Nat} (h : w.heap[b]? = some (.cells cs t fr)) (u : Value) :
    (w.setCell ⟨b, i, none⟩ u).heap[b]? = some (.cells (cs.setIfInBounds i u) t fr) := by
  simp [World.setCell, Array.getElem?_modify, h]

theorem cell_of {w : World} {b i : Nat} {cs : Array Value} {t : TypeId} {fr : Nat × Nat} {v : Value} (h : w.heap[b]? = some (.cells cs t fr)) (hv : cs[i]? = some v) :
    w.cell? ⟨b, i, none⟩ = some v := by simp [World.cell?, h, hv]
theorem free_of {w : World} {b : Nat} {cs : Array Value} {t : TypeId} (h : w.heap[b]? = some (.cells cs t (0, 0))) (i : Nat) :
    w.frozen? ⟨b, i, none⟩ = false := by simp [World.frozen?, h]

theorem heap_new (w : World) (o : Obj) : (w.alloc o).heap[w.heap.size]? = some o := by
  show (w.heap.push o)[w.heap.size]? = _
  simp


/-- A row that is not empty lies at a plain address. -/
theorem RowAt.spot {k : IntKind} {w : World} {v : Value} {xs : List Int} (h : RowAt k w v xs) (hne : xs ≠ []) :
    ∃ g o c, v = .slice (some ⟨g, o, none⟩) xs.length c ∧ xs.length ≤ c ∧ c ≤ 9223372036854775807 ∧ ∀ i, i < xs.length → w.cell? ⟨g, o + i, none⟩ = some (.int k (xs[i]?.getD 0)) := by
  obtain ⟨ao, c, rfl, h1, h2, h3, h4⟩ := h
  have hl : 0 < xs.length := List.length_pos_iff.2 hne
  cases ao with
  | none => have := h3 rfl; omega
  | some a =>
    obtain ⟨b, o, sp⟩ := a
    have h0 := h4 _ rfl 0 hl
    have hs : sp = none := by simpa [Addr.add] using World.cell?_spot h0
    subst hs
    refine ⟨b, o, c, rfl, h1, h2, fun i hi => ?_⟩
    have := h4 _ rfl i hi
    rw [Addr.add_lit] at this
    simpa [List.getD] using this

theorem RowAt.empty {k : IntKind} {w : World} {v : Value} (h : RowAt k w v []) : ∃ ao c, v = .slice ao 0 c := by
  obtain ⟨ao, c, rfl, _⟩ := h
  exact ⟨ao, c, rfl⟩

theorem RowAt.below {k : IntKind} {w w' : World} {v : Value} {xs : List Int} (h : RowAt k w v xs) (hb : Below w.heap.size w w') : RowAt k w' v xs := by
  obtain ⟨ao, c, rfl, h1, h2, h3, h4⟩ := h
  refine ⟨ao, c, rfl, h1, h2, h3, fun a ha i hi => ?_⟩
  have h5 := h4 a ha i hi
  have hl : (a.add i).block < w.heap.size := block_of_cell h5
  rw [World.cell?, hb.block _ hl]
  exact h5
set_option maxRecDepth 100000 in
theorem same_empty (v1 v2 : Value) (w : World) (h1 : RowAt .i64 w v1 []) (h2 : RowAt .i64 w v2 []) :
    Calls Try.prog 20 #[v1, v2] w fun e w' => e = .returned (.bool true) ∧ Below w.heap.size w w' := by
  obtain ⟨a1, c1, rfl⟩ := h1.empty
  obtain ⟨a2, c2, rfl⟩ := h2.empty
  clear h1 h2
  go_enter Try.func20, Try.ntmps20
  go_wp2
  refine wp_loop_rounds 1 ?_
  rw [rounds_succ]
  go_wp2
  go_ret
  exact ⟨rfl, Below.refl _ _⟩

set_option maxRecDepth 100000 in
theorem same_any (v1 v2 : Value) (xs : List Int) (w : World) (h1 : RowAt .i64 w v1 xs) (h2 : RowAt .i64 w v2 xs) :
    Calls Try.prog 20 #[v1, v2] w fun e w' => e = .returned (.bool true) ∧ Below w.heap.size w w' := by
  by_cases hne : xs = []
  · subst hne; exact same_empty v1 v2 w h1 h2
  · obtain ⟨g1, o1, c1, rfl, hc1, hm1, hcell1⟩ := h1.spot hne
    obtain ⟨g2, o2, c2, rfl, hc2, hm2, hcell2⟩ := h2.spot hne
    clear h1 h2 hne
    obtain ⟨n, hn⟩ : ∃ n, n = xs.length := ⟨_, rfl⟩
    rw [← hn] at hcell1 hcell2 hc1 hc2 ⊢
    have H1 := hide hcell1; have H2 := hide hcell2
    clear hcell1 hcell2 hn
    go_enter Try.func20, Try.ntmps20
    go_wp2
    go_loopw [5] (fun t wr => ∃ k : Nat, k ≤ n ∧ t = .int .i64 k ∧ ∃ m, wr = w.drewN m) (fun t _ => n - (RowKit.intOf t).toNat)
    case atStart => exact ⟨0, by omega, rfl, 0, rfl⟩
    case round =>
      obtain ⟨k, hk, rfl, m, rfl⟩ := hrel
      by_cases hlt : k < n
      · have d1 := H1.out k hlt
        have d2 := H2.out k hlt
        go_wp2
        go_region
        all_goals
          go_wp2
          go_roundw
          case rel => exact ⟨k + 1, by omega, by go_num, m + 1, rfl⟩
          case measure => simp [RowKit.intOf]; omega
      · go_wp2
        go_ret
        exact ⟨rfl, below_drewN (Below.refl _ _) _⟩
set_option maxRecDepth 100000 in
theorem refSame_empty (v1 v2 : Value) (w : World) (h1 : RowAt .i64 w v1 []) (h2 : RowAt .i64 w v2 []) :
    Calls Try.prog 82 #[v1, v2] w fun e w' => e = .returned (.bool true) ∧ Below w.heap.size w w' := by
  obtain ⟨a1, c1, rfl⟩ := h1.empty
  obtain ⟨a2, c2, rfl⟩ := h2.empty
  clear h1 h2
  go_enter Try.func82, Try.ntmps82
  go_wp2
  refine wp_loop_rounds 1 ?_
  rw [rounds_succ]
  go_wp2
  go_ret
  exact ⟨rfl, Below.refl _ _⟩

set_option maxRecDepth 100000 in
theorem refSame_any (v1 v2 : Value) (xs : List Int) (w : World) (h1 : RowAt .i64 w v1 xs) (h2 : RowAt .i64 w v2 xs) :
    Calls Try.prog 82 #[v1, v2] w fun e w' => e = .returned (.bool true) ∧ Below w.heap.size w w' := by
  by_cases hne : xs = []
  · subst hne; exact refSame_empty v1 v2 w h1 h2
  · obtain ⟨g1, o1, c1, rfl, hc1, hm1, hcell1⟩ := h1.spot hne
    obtain ⟨g2, o2, c2, rfl, hc2, hm2, hcell2⟩ := h2.spot hne
    clear h1 h2 hne
    obtain ⟨n, hn⟩ : ∃ n, n = xs.length := ⟨_, rfl⟩
    rw [← hn] at hcell1 hcell2 hc1 hc2 ⊢
    have H1 := hide hcell1; have H2 := hide hcell2
    clear hcell1 hcell2 hn
    go_enter Try.func82, Try.ntmps82
    go_wp2
    go_loopw [5] (fun t wr => ∃ k : Nat, k ≤ n ∧ t = .int .i64 k ∧ ∃ m, wr = w.drewN m) (fun t _ => n - (RowKit.intOf t).toNat)
    case atStart => exact ⟨0, by omega, rfl, 0, rfl⟩
    case round =>
      obtain ⟨k, hk, rfl, m, rfl⟩ := hrel
      by_cases hlt : k < n
      · have d1 := H1.out k hlt
        have d2 := H2.out k hlt
        go_wp2
        go_region
        all_goals
          go_wp2
          go_roundw
          case rel => exact ⟨k + 1, by omega, by go_num, m + 1, rfl⟩
          case measure => simp [RowKit.intOf]; omega
      · go_wp2
        go_ret
        exact ⟨rfl, below_drewN (Below.refl _ _) _⟩
end Go.Proofs.Ytmagigmcbegmiaa
