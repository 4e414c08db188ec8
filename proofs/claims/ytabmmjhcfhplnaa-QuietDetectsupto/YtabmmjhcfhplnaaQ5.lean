/- laid: an arena with these cells. -/
import Derived.Test.YtabmmjhcfhplnaaQ4
namespace Go.Proofs.Ytabmmjhcfhplnaa
open Go.RowKit Go.Lib Go.MuLone
set_option linter.unusedVariables false
/-- A fresh arena that keeps its log, with these cells. -/
def Ast.laid (xs : List Int) : Ast := ⟨xs, true, [], 0, false, 0, 0, 0⟩
/-- A slice of words below B, at any address. -/
def UAt (w : World) (B : Nat) (v : Value) (xs : List Int) : Prop :=
  ∃ g o c, v = .slice (some ⟨g, o, none⟩) xs.length c ∧ xs.length ≤ c ∧ g < B ∧ ∀ i, i < xs.length → w.cell? ⟨g, o + i, none⟩ = some (.int .u64 (nth xs i))
theorem nth_set (xs : List Int) (i j : Nat) (x : Int) (hi : i < xs.length) : nth (xs.set i x) j = if j = i then x else nth xs j := by
  unfold nth
  by_cases h : j = i
  · subst h; simp [List.getD, hi]
  · simp only [List.getD, List.getElem?_set]
    rw [if_neg (fun e => h e.symm), if_neg h]
theorem nth_ext {a b : List Int} (h1 : a.length = b.length) (h2 : ∀ i, i < a.length → nth a i = nth b i) : a = b := by
  apply List.ext_getElem h1
  intro i h3 h4
  have := h2 i h3
  simpa [nth, List.getD, h3, h4] using this
set_option maxRecDepth 100000 in
set_option maxHeartbeats 2000000 in
theorem laid_any (w : World) (v : Value) (xs : List Int) (h : UAt w w.heap.size v xs) (hn : xs.length ≤ 16777216) :
    Calls Try.prog 8 #[v] w fun e w' => e = .returned (.pointer (some ⟨w.heap.size + 1, 0, none⟩)) ∧ AIs w' (w.heap.size + 2) (w.heap.size + 1) w.heap.size (.slice none 0 0) (Ast.laid xs) ∧ Below w.heap.size w w' := by
  obtain ⟨g, o, c, rfl, hc, hg, hx⟩ := h
  have HX := hide hx
  obtain ⟨n, hnn⟩ : ∃ n, n = xs.length := ⟨_, rfl⟩
  rw [← hnn] at hn hc HX ⊢
  have HNN := hide hnn
  have HNW := hide (new_any n true w hn)
  clear hx hnn
  go_enter Try.func8, Try.ntmps8
  go_wp2_with (go_at_call 29; refine HNW.out.mono ?_; rintro e w1 ⟨rfl, h1, h2, h3⟩; have HA := hide h1; have HB := hide h3; clear h1 h2 h3)
  clear HNW
  have HI : Hid (∃ C : List Int, C.length = n ∧ (∀ j, j < 0 → nth C j = nth xs j) ∧ AIs w1 (w.heap.size + 2) (w.heap.size + 1) w.heap.size (.slice none 0 0) (Ast.laid C)) := ⟨List.replicate n 0, by simp, fun j hj => by omega, HA.out⟩
  clear HA
  go_loopw [5, 6] (fun t u wr => ∃ i : Nat, i ≤ n ∧ t = .int .i64 i ∧ (∃ C : List Int, C.length = n ∧ (∀ j, j < i → nth C j = nth xs j) ∧ AIs wr (w.heap.size + 2) (w.heap.size + 1) w.heap.size (.slice none 0 0) (Ast.laid C)) ∧ Below w.heap.size w wr) (fun t _ _ => n - (RowKit.intOf t).toNat)
  case atStart => exact ⟨0, by omega, rfl, HI.out, HB.out⟩
  case round =>
    obtain ⟨i, hi, rfl, ⟨C, hC, hall, ha⟩, hb⟩ := hrel
    clear HI HB
    have HB := hide hb
    have HALL := hide hall
    have HC := hide hC
    by_cases hlt : i < n
    · have hil : (i : Int) < (n : Int) := by omega
      have e0 := (below_cell (o := o + i) hb hg).trans (HX.out i hlt)
      have HPK := hide (poke_in _ _ _ _ _ i (nth xs i) wr ha (by show i < C.length; omega))
      obtain ⟨x, hx⟩ : ∃ x, x = nth xs i := ⟨_, rfl⟩
      rw [← hx] at e0 HPK
      have HXX := hide hx
      have hic : i < c := by omega
      clear ha hb hall hC hx
      go_wp2_with (go_at_call 30; refine HPK.out.mono ?_; rintro e w2 ⟨rfl, h1, h2⟩; have HA2 := hide h1; have HB2 := hide (Chg.below HB.out h2 (fun k hk => by rcases hk with e | e <;> omega) HB.out.size); clear h1 h2)
      have hwi : wrap64 ((i : Int) + 1) = (i : Int) + 1 := IntWalk.wrap64_in _ (by omega)
      try rw [hwi]
      go_roundw
      case rel =>
        refine ⟨i + 1, by omega, by simp, ⟨C.set i x, by rw [List.length_set]; exact HC.out, fun j hj => ?_, HA2.out⟩, HB2.out⟩
        rw [nth_set C i j x (by have := HC.out; omega)]
        by_cases hji : j = i
        · rw [if_pos hji, hji]; exact HXX.out
        · rw [if_neg hji]; exact HALL.out j (by omega)
      case measure => simp [RowKit.intOf]; omega
    · obtain rfl : i = n := by omega
      have hCx : C = xs := nth_ext (by rw [hC]; exact HNN.out) (fun j hj => hall j (by omega))
      subst hCx
      have HA2 := hide ha
      clear ha hb hall hC
      go_wp2_with fail
      go_ret
      exact ⟨rfl, HA2.out, HB.out⟩
end Go.Proofs.Ytabmmjhcfhplnaa
