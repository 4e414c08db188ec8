/- slices.Reverse of a row at the head of a block. -/
import Derived.Test.YtacmlilcamkndaaRp
import Derived.Test.YtacmlilcamkndaaCi
namespace Go.Proofs.Ytacmlilcamkndaa
open Go.RowKit Go.Lib
set_option linter.unusedVariables false
set_option linter.unusedSimpArgs false
/-- A row at the head of a block, of numbers that may be written over. -/
def RowW (w : World) (g : Nat) (l : List Int) : Prop := ∃ cs, w.heap[g]? = some (.cells cs 3 (0, 0)) ∧ l.length ≤ cs.size ∧ ∀ k, k < l.length → cs[k]? = some (.int .i64 (at_ l k))
theorem RowW.cell {w : World} {g : Nat} {l : List Int} (h : RowW w g l) (k : Nat) (hk : k < l.length) : w.cell? ⟨g, k, none⟩ = some (.int .i64 (at_ l k)) := by
  obtain ⟨cs, h1, h2, h3⟩ := h
  exact cell_of h1 (h3 k hk)
theorem RowW.free {w : World} {g : Nat} {l : List Int} (h : RowW w g l) (k : Nat) : w.frozen? ⟨g, k, none⟩ = false := by
  obtain ⟨cs, h1, h2, h3⟩ := h
  exact free_of h1 k
theorem RowW.put {w : World} {g : Nat} {l : List Int} (h : RowW w g l) (k : Nat) (hk : k < l.length) (x : Int) : RowW (w.setCell ⟨g, k, none⟩ (.int .i64 x)) g (l.set k x) := by
  obtain ⟨cs, h1, h2, h3⟩ := h
  refine ⟨_, heap_set h1 _, by simpa using h2, fun i hi => ?_⟩
  rw [List.length_set] at hi
  by_cases e : i = k
  · subst e
    rw [Array.getElem?_setIfInBounds_self_of_lt (by omega)]
    simp [at_, hk]
  · rw [Array.getElem?_setIfInBounds_ne (fun h => e h.symm), h3 i hi]
    simp only [at_]
    rw [List.getElem?_set_ne (fun h => e h.symm)]
theorem RowW.row {w : World} {g c : Nat} {l : List Int} (h : RowW w g l) (hc : l.length ≤ c) (hc2 : c ≤ 9223372036854775807) : RowAt .i64 w (.slice (some ⟨g, 0, none⟩) l.length c) l := by
  refine ⟨_, c, rfl, hc, hc2, (fun e => by cases e), fun a ha i hi => ?_⟩
  cases ha
  rw [Addr.add_lit, Nat.zero_add, h.cell i hi]
  rfl
theorem RowW.of_owns {w : World} {base g n c : Nat} {l : List Int} (h : w.ownsRow base 3 1 (.slice (some ⟨g, 0, none⟩) n c) l.length (l.map (Value.int .i64))) : RowW w g l ∧ l.length ≤ c ∧ c ≤ 9223372036854775807 ∧ base ≤ g ∧ n = l.length := by
  have hr := RowAt.of_owns h
  obtain ⟨h1, ⟨he, _⟩ | ⟨g', cap, cur, he, hg, hh, hnc, hcm, hcur, htake⟩⟩ := h
  · simp at he
  · simp only [Value.slice.injEq, Option.some.injEq, Addr.mk.injEq, and_true] at he
    obtain ⟨rfl, rfl, rfl⟩ := he
    refine ⟨⟨cur, hh, by omega, fun k hk => ?_⟩, hnc, hcm, hg, rfl⟩
    have : (cur.toList.take (l.length * 1))[k]? = (l.map (Value.int .i64))[k]? := by rw [htake]
    rw [List.getElem?_take_of_lt (by omega)] at this
    have e : cur[k]? = cur.toList[k]? := by simp
    rw [e, this]
    simp [at_, hk]

/-- A list of which the i outermost on both sides have changed places. -/
def revUp (l : List Int) (i : Nat) : List Int := tab l.length (fun k => if k < i ∨ l.length - 1 - k < i then at_ l (l.length - 1 - k) else at_ l k)
theorem revUp_length (l : List Int) (i : Nat) : (revUp l i).length = l.length := tab_length _ _
theorem tab_self (l : List Int) : tab l.length (fun k => at_ l k) = l := by
  apply List.ext_getElem
  · simp [tab]
  · intro i h1 h2
    simp [tab, at_, h2]
theorem revUp_zero (l : List Int) : revUp l 0 = l := by
  unfold revUp
  rw [tab_congr (h := fun k => at_ l k) (fun k hk => by rw [if_neg (by omega)]), tab_self]
theorem revUp_next (l : List Int) (i : Nat) (h : 2 * i + 1 < l.length) :
    ((revUp l i).set i (at_ (revUp l i) (l.length - 1 - i))).set (l.length - 1 - i) (at_ (revUp l i) i) = revUp l (i + 1) := by
  unfold revUp
  rw [tab_at _ _ _ (by omega), tab_at _ _ _ (by omega), tab_set, tab_set]
  apply tab_congr
  intro k hk
  by_cases e1 : k = l.length - 1 - i
  · subst e1
    rw [if_pos rfl, if_neg (by omega), if_pos (by omega), show l.length - 1 - (l.length - 1 - i) = i by omega]
  · rw [if_neg e1]
    by_cases e2 : k = i
    · subst e2
      rw [if_pos rfl, if_neg (by omega), if_pos (by omega)]
    · rw [if_neg e2]
      by_cases e3 : k < i ∨ l.length - 1 - k < i
      · rw [if_pos e3, if_pos (by omega)]
      · rw [if_neg e3, if_neg (by omega)]
theorem revUp_end (l : List Int) (i : Nat) (h : l.length ≤ 2 * i + 1) : revUp l i = l.reverse := by
  unfold revUp
  apply List.ext_getElem
  · simp [tab]
  · intro k h1 h2
    have hk : k < l.length := by simpa [tab] using h1
    simp only [tab, List.getElem_map, List.getElem_range, List.getElem_reverse]
    by_cases e : k < i ∨ l.length - 1 - k < i
    · rw [if_pos e]; simp [at_, show l.length - 1 - k < l.length by omega]
    · rw [if_neg e]
      have : l.length - 1 - k = k := by omega
      simp [at_, hk, this]
theorem RowW.drew {w : World} {g : Nat} {l : List Int} (h : RowW w g l) : RowW w.drew g l := h

set_option maxRecDepth 100000 in
set_option maxHeartbeats 4000000 in
theorem reverse_any (g c : Nat) (l : List Int) (w : World) (B : Nat) (hB : B ≤ g) (h : RowW w g l) (hl : l.length ≤ 1048576) (hc : l.length ≤ c) (hc2 : c ≤ 9223372036854775807) :
    Calls Try.prog 35 #[.slice (some ⟨g, 0, none⟩) l.length c] w fun e w' => e = .returned (.tuple #[]) ∧ RowW w' g l.reverse ∧ Below B w w' := by
  have HN := hide (fun i h => revUp_next l i h)
  have HE := hide (fun i h => revUp_end l i h)
  have HLN := hide (fun i => revUp_length l i)
  have HZ := hide (show RowW w g (revUp l 0) by rw [revUp_zero]; exact h)
  obtain ⟨n, hn⟩ : ∃ n, n = l.length := ⟨_, rfl⟩
  rw [← hn] at HN HE HLN hl hc ⊢
  clear h hn
  go_enter Try.func35, Try.ntmps35
  go_wp2
  go_loopw [2, 3] (fun t u wr => ∃ i : Nat, 2 * i ≤ n + 1 ∧ t = .int .i64 i ∧ u = .int .i64 ((n : Int) - 1 - (i : Int)) ∧ RowW wr g (revUp l i) ∧ Below B w wr) (fun t _ _ => n - (RowKit.intOf t).toNat)
  case atStart => exact ⟨0, by omega, rfl, by simp, HZ.out, Below.refl _ _⟩
  case round =>
    obtain ⟨i, hi, rfl, rfl, hR, hL⟩ := hrel
    by_cases hlt : 2 * i + 1 < n
    · have hln := HLN.out i
      have f0 := hR.free i
      have f1 := hR.free (n - 1 - i)
      have x0 := hR.cell i (by omega)
      have x1 := hR.cell (n - 1 - i) (by omega)
      have hR2 := (hR.put i (by omega) (at_ (revUp l i) (n - 1 - i))).put (n - 1 - i) (by rw [List.length_set]; omega) (at_ (revUp l i) i)
      rw [HN.out i hlt] at hR2
      have HR := hide hR2; have HL := hide hL
      obtain ⟨a, ha⟩ : ∃ a, a = at_ (revUp l i) i := ⟨_, rfl⟩
      obtain ⟨b, hb⟩ : ∃ b, b = at_ (revUp l i) (n - 1 - i) := ⟨_, rfl⟩
      rw [← ha] at x0 HR
      rw [← hb] at x1 HR
      obtain ⟨j, hj⟩ : ∃ j, j = n - 1 - i := ⟨_, rfl⟩
      rw [← hj] at x1 f1 HR
      have hji : (n : Int) - 1 - (i : Int) = (j : Int) := by omega
      have hij : i < j := by omega
      have hjn : j < n := by omega
      have hne : ¬ i = j := by omega
      have HJ := hide hj
      rw [hji]
      clear hR hR2 hL ha hb hln hj hji
      go_wp2
      go_region
      all_goals
        go_wp2
        refine ⟨⟨i + 1, by have := HJ.out; omega, by simp, by congr 1; have := HJ.out; simp; omega, HR.out.drew, ?_⟩, by simp [RowKit.intOf]; omega⟩
        exact ((HL.out.setCell (p := ⟨g, i, none⟩) hB _).setCell (p := ⟨g, j, none⟩) hB _).drew
    · have HR := hide hR; have HL := hide hL
      rw [HE.out i (by omega)] at HR
      clear hR hL
      go_wp2
      first | go_end0 | refine bodyPost_ret (results_none rfl _ _ _) rfl ?_
      exact ⟨rfl, HR.out, HL.out⟩
end Go.Proofs.Ytacmlilcamkndaa
