/- rest, Mod, sameInts. -/
import Derived.Test.YtmmjfngcaioepaaBase
import Derived.Test.YtmmjfngcaioepaaPlain
import Derived.RegionTactic
import Derived.BigRegion
import Derived.WalkSmall
import Derived.Deep.Draws
namespace Go.Proofs.Ytmmjfngcaioepaa
open Go.RowKit Go.Lib

theorem hide {p : Prop} (h : p) : Hid p := h

theorem tmod_bounds (x n : Int) (hn : 0 < n) : -n < x.tmod n ∧ x.tmod n < n := by
  constructor
  · have := Int.lt_tmod_of_pos x hn; omega
  · exact Int.tmod_lt_of_pos x hn
theorem emod_of_tmod (x n : Int) (hn : 0 < n) : x % n = if x.tmod n < 0 then x.tmod n + n else x.tmod n := by
  rw [Int.emod_eq_tmod]
  have hb := tmod_bounds x n hn
  by_cases h0 : 0 ≤ x ∨ n ∣ x
  · rw [if_pos h0]
    have : 0 ≤ x.tmod n := by
      rcases h0 with h | h
      · exact Int.tmod_nonneg n h
      · rw [Int.tmod_eq_zero_of_dvd h]; omega
    rw [if_neg (by omega)]; simp
  · rw [if_neg h0]
    have h1 : x.tmod n ≤ 0 := by
      have := Int.tmod_nonneg (a := -x) n (by omega)
      rw [Int.neg_tmod] at this
      omega
    have h2 : x.tmod n ≠ 0 := by
      intro e
      exact h0 (.inr (Int.dvd_of_tmod_eq_zero e))
    rw [if_pos (by omega)]
    omega

set_option maxRecDepth 100000 in
theorem rest_any (x n : Int) (w : World) (hn : 0 < n) (hb : n ≤ 9223372036854775807) :
    Calls Try.prog 7 #[.int .i64 x, .int .i64 n] w fun e w' => e = .returned (.int .i64 (x % n)) ∧ w' = w := by
  have hr := tmod_bounds x n hn
  have HE := hide (emod_of_tmod x n hn)
  have hne : n ≠ 0 := by omega
  go_enter Try.func7, Try.ntmps7
  go_wp2
  · rename_i h
    go_ret
    rw [HE.out, if_pos h]
    exact ⟨rfl, rfl⟩
  · rename_i h
    go_ret
    rw [HE.out, if_neg (by omega)]
    exact ⟨rfl, rfl⟩

set_option maxRecDepth 100000 in
theorem mod_any (x n : Int) (w : World) (hn : 0 < n) (hb : n ≤ 9223372036854775807) :
    Calls Try.prog 8 #[.int .i64 x, .int .i64 n] w fun e w' => e = .returned (.int .i64 (x % n)) ∧ w' = w := by
  have hr := tmod_bounds x n hn
  have HE := hide (emod_of_tmod x n hn)
  have hne : n ≠ 0 := by omega
  go_enter Try.func8, Try.ntmps8
  go_wp2
  · rename_i h
    go_ret
    rw [HE.out, if_pos h]
    exact ⟨rfl, rfl⟩
  · rename_i h
    go_ret
    rw [HE.out, if_neg (by omega)]
    exact ⟨rfl, rfl⟩

theorem heap_set {w : World} {b i : Nat} {cs : Array Value} {t : TypeId} {fr : Nat × Nat} (h : w.heap[b]? = some (.cells cs t fr)) (u : Value) :
    (w.setCell ⟨b, i, none⟩ u).heap[b]? = some (.cells (cs.setIfInBounds i u) t fr) := by
  simp [World.setCell, Array.getElem?_modify, h]

theorem cell_of {w : World} {b i : Nat} {cs : Array Value} {t : TypeId} {fr : Nat × Nat} {v : Value} (h : w.heap[b]? = some (.cells cs t fr)) (hv : cs[i]? = some v) :
    w.cell? ⟨b, i, none⟩ = some v := by simp [World.cell?, h, hv]
theorem free_of {w : World} {b : Nat} {cs : Array Value} {t : TypeId} (h : w.heap[b]? = some (.cells cs t (0, 0))) (i : Nat) :
    w.frozen? ⟨b, i, none⟩ = false := by simp [World.frozen?, h]

theorem heap_new (w : World) (o : Obj) : (w.alloc o).heap[w.heap.size]? = some o := by
  show (w.heap.push o)[w.heap.size]? = _
  simp


/-- A block of plain numbers. -/
def ints (l : List Int) : Array Value := (l.map (Value.int .i64)).toArray
def Arr (w : World) (g : Nat) (l : List Int) : Prop := w.heap[g]? = some (.cells (ints l) 3 (0, 0))

theorem Arr.cell {w : World} {g : Nat} {l : List Int} (h : Arr w g l) (i : Nat) (hi : i < l.length) : w.cell? ⟨g, i, none⟩ = some (.int .i64 (l[i]?.getD 0)) := by
  refine cell_of h ?_
  simp [ints, List.getElem?_eq_getElem hi]
theorem Arr.free {w : World} {g : Nat} {l : List Int} (h : Arr w g l) (i : Nat) : w.frozen? ⟨g, i, none⟩ = false := free_of h i
theorem Arr.set {w : World} {g : Nat} {l : List Int} (h : Arr w g l) (i : Nat) (x : Int) : Arr (w.setCell ⟨g, i, none⟩ (.int .i64 x)) g (l.set i x) := by
  unfold Arr
  rw [heap_set h]
  simp [ints, List.map_set]
theorem Arr.lt {w : World} {g : Nat} {l : List Int} (h : Arr w g l) : g < w.heap.size := lt_of_heap h
theorem Arr.but {w w' : World} {g b : Nat} {l : List Int} (h : Arr w g l) (k : But b w w') (hb : g ≠ b) : Arr w' g l := k.heap h hb


/-- A row that is not empty lies at a plain address. -/
theorem RowAt.spot {k : IntKind} {w : World} {v : Value} {xs : List Int} (h : RowAt k w v xs) (hne : xs ≠ []) :
    ∃ g o c, v = .slice (some ⟨g, o, none⟩) xs.length c ∧ xs.length ≤ c ∧ c ≤ 9223372036854775807 ∧ ∀ i, i < xs.length → w.cell? ⟨g, o + i, none⟩ = some (.int k (xs[i]?.getD 0)) := by
  obtain ⟨ao, c, rfl, h1, h2, h3, h4⟩ := h
  have hl : 0 < xs.length := List.length_pos_iff.2 hne
  cases ao with
  | none => have := h3 rfl; omega
  | some a =>
    obtain ⟨b, o, sp⟩ := a
    have h0 := h4 _ rfl 0 hl
    have hs : sp = none := by simpa [Addr.add] using World.cell?_spot h0
    subst hs
    refine ⟨b, o, c, rfl, h1, h2, fun i hi => ?_⟩
    have := h4 _ rfl i hi
    rw [Addr.add_lit] at this
    simpa [List.getD] using this

theorem RowAt.empty {k : IntKind} {w : World} {v : Value} (h : RowAt k w v []) : ∃ ao c, v = .slice ao 0 c := by
  obtain ⟨ao, c, rfl, _⟩ := h
  exact ⟨ao, c, rfl⟩

set_option maxRecDepth 100000 in
theorem same_empty (v1 v2 : Value) (w : World) (h1 : RowAt .i64 w v1 []) (h2 : RowAt .i64 w v2 []) :
    Calls Try.prog 6 #[v1, v2] w fun e w' => e = .returned (.bool true) ∧ Below w.heap.size w w' := by
  obtain ⟨a1, c1, rfl⟩ := h1.empty
  obtain ⟨a2, c2, rfl⟩ := h2.empty
  clear h1 h2
  go_enter Try.func6, Try.ntmps6
  go_wp2
  refine wp_loop_rounds 1 ?_
  rw [rounds_succ]
  go_wp2
  go_ret
  exact ⟨rfl, Below.refl _ _⟩

set_option maxRecDepth 100000 in
theorem same_any (v1 v2 : Value) (xs : List Int) (w : World) (h1 : RowAt .i64 w v1 xs) (h2 : RowAt .i64 w v2 xs) :
    Calls Try.prog 6 #[v1, v2] w fun e w' => e = .returned (.bool true) ∧ Below w.heap.size w w' := by
  by_cases hne : xs = []
  · subst hne; exact same_empty v1 v2 w h1 h2
  · obtain ⟨g1, o1, c1, rfl, hc1, hm1, hcell1⟩ := h1.spot hne
    obtain ⟨g2, o2, c2, rfl, hc2, hm2, hcell2⟩ := h2.spot hne
    clear h1 h2 hne
    obtain ⟨n, hn⟩ : ∃ n, n = xs.length := ⟨_, rfl⟩
    rw [← hn] at hcell1 hcell2 hc1 hc2 ⊢
    have H1 := hide hcell1; have H2 := hide hcell2
    clear hcell1 hcell2 hn
    go_enter Try.func6, Try.ntmps6
    go_wp2
    go_loopw [5] (fun t wr => ∃ k : Nat, k ≤ n ∧ t = .int .i64 k ∧ ∃ m, wr = w.drewN m) (fun t _ => n - (RowKit.intOf t).toNat)
    case atStart => exact ⟨0, by omega, rfl, 0, rfl⟩
    case round =>
      obtain ⟨k, hk, rfl, m, rfl⟩ := hrel
      by_cases hlt : k < n
      · have d1 := H1.out k hlt
        have d2 := H2.out k hlt
        go_wp2
        go_region
        all_goals
          go_wp2
          go_roundw
          case rel => exact ⟨k + 1, by omega, by go_num, m + 1, rfl⟩
          case measure => simp [RowKit.intOf]; omega
      · go_wp2
        go_ret
        exact ⟨rfl, below_drewN (Below.refl _ _) _⟩
end Go.Proofs.Ytmmjfngcaioepaa
