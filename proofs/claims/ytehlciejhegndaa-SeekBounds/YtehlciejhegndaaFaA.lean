/- vertex, slices.Max, slices.Index, distances. -/
import Derived.Test.YtehlciejhegndaaFaP
import Derived.Test.YtehlciejhegndaaRSearch
import Derived.Test.YtehlciejhegndaaStarts
namespace Go.Proofs.Ytehlciejhegndaa
open Go.RowKit Go.Lib
set_option linter.unusedVariables false
set_option linter.unusedSimpArgs false
set_option maxRecDepth 100000 in
theorem rVtx_any (N : Int) (va vb vc : Value) (v : Int) (w : World) :
    Calls Try.prog 58 #[gAgg N va vb vc, .int .i64 v] w fun e w' => e = .returned (.bool (decide (0 ≤ v ∧ v < N))) ∧ Below w.heap.size w w' := by
  obtain ⟨c0, c1, c2, c3, hb1, hs1⟩ := boxed w (.int .i64 N) va vb vc
  have HB1 := hide hb1
  clear hb1
  unfold gAgg
  by_cases h : 0 ≤ v ∧ v < N
  · rw [decide_eq_true h]
    obtain ⟨h1, h2⟩ := h
    go_enter Try.func58, Try.ntmps58
    go_wp2
    all_goals first
      | (exfalso; omega)
      | (go_ret; exact ⟨by simp; omega, HB1.out⟩)
      | (go_ret; exact ⟨rfl, HB1.out⟩)
  · rw [decide_eq_false h]
    have hh : v < 0 ∨ N ≤ v := by omega
    clear h
    go_enter Try.func58, Try.ntmps58
    go_wp2
    all_goals first
      | (exfalso; omega)
      | (go_ret; exact ⟨by simp; omega, HB1.out⟩)
      | (go_ret; exact ⟨rfl, HB1.out⟩)
theorem mdec {i n : Nat} (h : i < n) : n - (RowKit.intOf (.int .i64 ((i : Int) + 1))).toNat < n - (RowKit.intOf (.int .i64 (i : Int))).toNat := by simp [RowKit.intOf]; omega
theorem amx_max (L : List Int) (i : Nat) : max (at_ L (amx L i)) (at_ L i) = at_ L (amx L (i + 1)) := by
  show _ = at_ L (if at_ L (amx L i) < at_ L i then i else amx L i)
  split <;> omega
/-- Starts under way: the first i have their vertices. -/
def SF (w : World) (g m : Nat) (l : List Int) (i : Nat) : Prop := ∃ cs, w.heap[g]? = some (.cells cs 47 (0, 0)) ∧ cs.size = m * 2 ∧ ∀ j, j < m → cs[j * 2]? = some (.int .i64 (if j < i then at_ l j else 0)) ∧ cs[j * 2 + 1]? = some (.int .u64 0)
theorem SF.at_ {w : World} {g m i k : Nat} {l : List Int} (h : SF w g m l i) (hk : k < m) : w.cell? ⟨g, k * 2, none⟩ = some (.int .i64 (if k < i then Ytehlciejhegndaa.at_ l k else 0)) ∧ w.frozen? ⟨g, k * 2, none⟩ = false := by
  obtain ⟨cs, h1, h2, h3⟩ := h
  exact ⟨cell_of h1 (h3 k hk).1, free_of h1 _⟩
theorem SF.next {w : World} {g m i : Nat} {l : List Int} (h : SF w g m l i) (hi : i < m) : SF (w.setCell ⟨g, i * 2, none⟩ (.int .i64 (Ytehlciejhegndaa.at_ l i))) g m l (i + 1) := by
  obtain ⟨cs, h1, h2, h3⟩ := h
  refine ⟨_, heap_set h1 _, by simp [h2], fun j hj => ?_⟩
  obtain ⟨p, q⟩ := h3 j hj
  by_cases e : j = i
  · subst e
    constructor
    · rw [Array.getElem?_setIfInBounds_self_of_lt (by omega), if_pos (by omega)]
    · rw [Array.getElem?_setIfInBounds_ne (by omega)]; exact q
  · constructor
    · rw [Array.getElem?_setIfInBounds_ne (by omega), p]
      by_cases h : j < i
      · rw [if_pos h, if_pos (by omega)]
      · rw [if_neg h, if_neg (by omega)]
    · rw [Array.getElem?_setIfInBounds_ne (by omega)]; exact q
theorem SF.sat {w : World} {g : Nat} {l : List Int} (h : SF w g l.length l l.length) (hm : l.length ≤ 9223372036854775807) : SAt w (.slice (some ⟨g, 0, none⟩) l.length l.length) (S0 l) := by
  obtain ⟨cs, h1, h2, h3⟩ := h
  refine ⟨_, l.length, by rw [S0_len], by rw [S0_len]; omega, hm, fun i hi => ⟨g, 0, rfl, ?_⟩⟩
  rw [S0_len] at hi
  rw [S0_at l i hi, Nat.zero_add]
  obtain ⟨p, q⟩ := h3 i hi
  rw [if_pos hi] at p
  exact ⟨cell_of h1 p, cell_of h1 q⟩
theorem sf_made {w : World} {base g n : Nat} (l : List Int) (h : w.ownsRow base 47 2 (.slice (some ⟨g, 0, none⟩) n n) n (madeCells (Value.agg #[.int .i64 0, .int .u64 0]).cells (n * 2)).toList) : SF w g n l 0 := by
  obtain ⟨h1, ⟨he, _⟩ | ⟨g', cap, cur, he, hg, hh, hnc, hcm, hcur, htake⟩⟩ := h
  · simp at he
  · simp only [Value.slice.injEq, Option.some.injEq, Addr.mk.injEq, true_and, and_true] at he
    obtain ⟨rfl, rfl⟩ := he
    rw [List.take_of_length_le (by simp; omega)] at htake
    have key : ∀ k, k < n * 2 → cur[k]? = some (if k % 2 = 0 then .int .i64 0 else .int .u64 0) := by
      intro k hk
      rw [← Array.getElem?_toList, htake]
      have : (Value.agg #[.int .i64 0, .int .u64 0]).cells = #[.int .i64 0, .int .u64 0] := rfl
      rw [this]
      simp only [madeCells]
      simp [hk]
      rcases Nat.mod_two_eq_zero_or_one k with e | e <;> simp [e]
    refine ⟨cur, hh, hcur, fun j hj => ⟨?_, ?_⟩⟩
    · rw [key _ (by omega), if_pos (by omega), if_neg (by omega)]
    · rw [key _ (by omega), if_neg (by omega)]
end Go.Proofs.Ytehlciejhegndaa
