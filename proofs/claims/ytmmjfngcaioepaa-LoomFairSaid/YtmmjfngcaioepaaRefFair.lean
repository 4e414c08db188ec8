/- The reference's Fair. -/
import Derived.Test.YtmmjfngcaioepaaFairWalk
namespace Go.Proofs.Ytmmjfngcaioepaa
open Go.RowKit Go.Lib

def lasts (xs : List Int) (n i : Nat) (v : Nat) : Int := (lst (who xs n) v i : Nat)
theorem lasts_next (xs : List Int) (n i : Nat) : tab n (put (lasts xs n i) (who xs n i) ((i : Int) + 1)) = tab n (lasts xs n (i + 1)) := by
  apply tab_congr
  intro v _
  unfold put lasts
  simp only [lst]
  by_cases e : v = who xs n i
  · rw [if_pos e, if_pos e.symm]; rfl
  · rw [if_neg e, if_neg (fun h => e h.symm)]

set_option maxRecDepth 100000 in
set_option maxHeartbeats 2000000 in
theorem refFair_main (v : Value) (xs : List Int) (n k : Nat) (w : World) (hv : RowAt .i64 w v xs) (hn : 0 < n) (hnk : n ≤ k) (hk : k ≤ 9223372036854775807) (hn3 : n ≤ 1000) (hbig : xs.length * 8 ≤ 140737488355328) :
    Calls Try.prog 5 #[v, .int .i64 n, .int .i64 k] w (FairPost w (Fairs (who xs n) n k xs.length)) := by
  obtain ⟨i0, hi, hz0, hz1, hz2⟩ := info_parts Try.info3
  have HV := hide hv
  obtain ⟨ao, c, rfl⟩ : ∃ ao c, v = .slice ao xs.length c := by obtain ⟨ao, c, h, _⟩ := hv; exact ⟨ao, c, h⟩
  have HL : Hid (xs = [] ∨ 0 < xs.length) := by rcases Nat.eq_zero_or_pos xs.length with h | h; exact .inl (List.eq_nil_of_length_eq_zero h); exact .inr h
  obtain ⟨L, hL⟩ : ∃ L, L = xs.length := ⟨_, rfl⟩
  rw [← hL] at hbig HV HL ⊢
  have HLE := hide hL
  clear hv hL
  go_enter Try.func5, Try.ntmps5
  go_wp2_with (at_make; refine wpList_make_full _ rfl _ _ 22 rfl w.heap.size 3 i0 (.int .i64 0) 1 Try.underlying22 hi hz0 hz1 _ _ _ _ n rfl rfl rfl rfl (by rw [hz2]; omega) (by unfold maxLen; omega) (Nat.le_refl _) ?_; intro w1 hown hgrow)
  have hA : Arr w1 w.heap.size (tab n (fun _ => 0)) := made_arr hown
  have hB : Below w.heap.size w w1 := (Below.refl _ _).grown hgrow (Nat.le_refl _) (by intro k hk; cases hk)
  have HA := hide hA; have HB := hide hB
  clear hA hB hown hgrow
  go_loopw [8] (fun t wr => ∃ i : Nat, i ≤ L ∧ t = .int .i64 i ∧ Arr wr w.heap.size (tab n (lasts xs n i)) ∧ Below w.heap.size w wr ∧ ∀ j, j < i → k ≤ j + 1 → Full (who xs n) n k j) (fun t _ => L - (RowKit.intOf t).toNat)
  case atStart =>
    refine ⟨0, by omega, rfl, ?_, HB.out, fun j hj => by omega⟩
    rw [← tab_congr (g := fun _ => 0) (h := lasts xs n 0) (fun v _ => by simp [lasts, lst])]
    exact HA.out
  case round =>
    obtain ⟨i, hiL, rfl, hA, hB, hF⟩ := hrel
    clear HA HB
    by_cases hlt : i < L
    · have hne : xs ≠ [] := by intro e; have := HLE.out; rw [e] at this; simp at this; omega
      obtain ⟨g, o, c', hsl, _, _, hcell⟩ := HV.out.spot hne
      simp only [Value.slice.injEq, HLE.out, true_and] at hsl
      obtain ⟨rfl, rfl⟩ := hsl
      have hx0 := hcell i (by have := HLE.out; omega)
      have hgs : g < w.heap.size := block_of_cell hx0
      have hx : wr.cell? ⟨g, o + i, none⟩ = some (.int .i64 (xs[i]?.getD 0)) := by
        rw [World.cell?, hB.block g hgs]
        exact hx0
      clear hx0 hcell hne
      have HR := hide (mod_any (xs[i]?.getD 0) n wr (by omega) (by omega))
      have HW := hide (who_int xs n i hn)
      have hal := who_lt xs n i hn
      have hA1 := hA.put (who xs n i) ((i : Int) + 1)
      rw [lasts_next] at hA1
      have fa := hA.free (who xs n i)
      obtain ⟨q, cq⟩ : ∃ q, wr.cell? ⟨w.heap.size, who xs n i, none⟩ = some (.int .i64 q) := ⟨_, hA.tcell _ hal⟩
      have hB1 : Below w.heap.size w (wr.setCell ⟨w.heap.size, who xs n i, none⟩ (.int .i64 ((i : Int) + 1))) := hB.setCell (Nat.le_refl _) _
      obtain ⟨a, ha⟩ : ∃ a, a = who xs n i := ⟨_, rfl⟩
      rw [← ha] at HW hal hA1 fa cq hB1
      have HA1 := hide hA1; have HB1 := hide hB1; have HF := hide hF
      have hal' : (a : Int) < (n : Int) := by omega
      clear hA hB hF ha hA1 hB1
      go_wp2_with fail
      refine HR.out.mono ?_
      rw [HW.out]
      rintro e w2 ⟨rfl, rfl⟩
      clear HR HW
      go_wp2
      obtain ⟨w3, hw3⟩ : ∃ w3, w3 = w2.setCell ⟨w.heap.size, a, none⟩ (.int .i64 ((i : Int) + 1)) := ⟨_, rfl⟩
      rw [← hw3] at HA1 HB1 ⊢
      clear hw3 fa cq hx
      go_loopw [9] (fun t wr => ∃ u : Nat, u ≤ n ∧ t = .int .i64 u ∧ wr = w3 ∧ ∀ u', u' < u → k ≤ i + 1 → ¬ lst (who xs n) u' (i + 1) ≤ i + 1 - k) (fun t _ => n - (RowKit.intOf t).toNat)
      case atStart => exact ⟨0, by omega, rfl, rfl, fun u' hu => by omega⟩
      case round =>
        obtain ⟨u, hun, rfl, rfl, hu⟩ := hrel
        have HU := hide hu
        clear hu
        by_cases hki : k ≤ i + 1
        · by_cases hul : u < n
          · have cu := HA1.out.tcell u hul
            have hul' : (u : Int) < (n : Int) := by omega
            obtain ⟨x, hx⟩ : ∃ x, x = lst (who xs n) u (i + 1) := ⟨_, rfl⟩
            have cu' : wr.cell? ⟨w.heap.size, u, none⟩ = some (.int .i64 (x : Int)) := by rw [cu, hx]; rfl
            have HX := hide hx
            clear hx cu
            by_cases hle : x ≤ i + 1 - k
            · have hle' : (x : Int) ≤ (i : Int) + 1 - (k : Int) := by omega
              go_wp2
              go_ret
              refine ⟨false, rfl, ?_, HB1.out⟩
              simp only [Bool.false_eq_true, false_iff]
              intro H
              exact (full_lst (who xs n) n k i hki).1 (H i hki hlt) u hul (by rw [← HX.out]; exact hle)
            · have hle' : ¬ (x : Int) ≤ (i : Int) + 1 - (k : Int) := by omega
              go_wp2
              go_roundw
              case rel =>
                refine ⟨u + 1, by omega, by simp, by first | rfl | trivial, fun u' h1 h2 => ?_⟩
                rcases Nat.lt_or_ge u' u with h | h
                · exact HU.out u' h h2
                · obtain rfl : u' = u := by omega
                  rw [← HX.out]; exact hle
              case measure => simp [RowKit.intOf]; omega
          · obtain rfl : n = u := by omega
            go_wp2
            go_roundw
            case rel =>
              refine ⟨i + 1, by omega, by simp, HA1.out, HB1.out, fun j h1 h2 => ?_⟩
              rcases Nat.lt_or_ge j i with h | h
              · exact HF.out j h h2
              · obtain rfl : j = i := by omega
                exact (full_lst (who xs n) n k j hki).2 (fun v hv => HU.out v hv hki)
            case measure => simp [RowKit.intOf]; omega
        · by_cases hul : u < n
          all_goals
            go_wp2
            go_roundw
            case rel =>
              refine ⟨i + 1, by omega, by simp, HA1.out, HB1.out, fun j h1 h2 => ?_⟩
              exact HF.out j (by omega) h2
            case measure => simp [RowKit.intOf]; omega
    · go_wp2
      go_ret
      refine ⟨true, rfl, ?_, hB⟩
      simp only [true_iff]
      intro j h1 h2
      exact hF j (by omega) h1

/-- The refusals, and rows that are too short. -/
theorem fairs_short (f : Nat → Nat) (n k L : Nat) (h : L < k) : Fairs f n k L := fun i h1 h2 => by omega
theorem fairs_few (xs : List Int) (n k L : Nat) (h : k < n) (hk : 0 < k) (hL : k ≤ L) : ¬ Fairs (who xs n) n k L := by
  intro H
  have h1 := H (k - 1) (by omega) (by omega)
  unfold Full at h1
  rw [show k - 1 + 1 - k = 0 by omega] at h1
  -- so many numbers do not fit into a row: the number of those that stand in it is at most its length
  have hs : ∀ m, zeros n (fun v => (wc (who xs n) v 0 m : Nat)) + m ≥ n := by
    intro m
    induction m with
    | zero =>
      rw [zeros_congr (h := fun _ => 0) (fun v _ => by simp [wc]), zeros_const]
      omega
    | succ m ih =>
      have h2 := zeros_set n (fun v => (wc (who xs n) v 0 m : Nat)) (who xs n m) ((wc (who xs n) (who xs n m) 0 m : Nat) + 1) (who_lt xs n m (by omega))
      have h3 : zeros n (fun v => (wc (who xs n) v 0 (m + 1) : Nat)) = zeros n (fun v => if v = who xs n m then ((wc (who xs n) (who xs n m) 0 m : Nat) : Int) + 1 else ((wc (who xs n) v 0 m : Nat) : Int)) := by
        apply zeros_congr
        intro v _
        simp only [wc, Nat.zero_add]
        by_cases e : v = who xs n m
        · rw [if_pos e, if_pos e.symm, e]; omega
        · rw [if_neg e, if_neg (fun h => e h.symm)]; omega
      rw [h3, h2]
      split <;> split <;> omega
  have h2 := hs k
  have h3 : 0 < zeros n (fun v => (wc (who xs n) v 0 k : Nat)) := by omega
  obtain ⟨v, hv, h0⟩ := (zeros_pos n _).1 h3
  exact h1 v hv (by omega)
end Go.Proofs.Ytmmjfngcaioepaa
