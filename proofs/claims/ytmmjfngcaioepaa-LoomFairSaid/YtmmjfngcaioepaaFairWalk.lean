/- loom.Fair: the walk. -/
import Derived.Test.YtmmjfngcaioepaaFair
namespace Go.Proofs.Ytmmjfngcaioepaa
open Go.RowKit Go.Lib

theorem Try.info3 : (Try.prog.info? 3).map (fun i => (i.zero, i.size, i.bytes)) = some (some (.int .i64 0), 1, 8) := by kernel_rfl

theorem made_arr {w : World} {B g n : Nat} (h : w.ownsRow B 3 1 (.slice (some ⟨g, 0, none⟩) n n) n (madeCells (Value.int .i64 0).cells (n * 1)).toList) : Arr w g (tab n (fun _ => 0)) := by
  obtain ⟨hl, ⟨he, _⟩ | ⟨g', cap, cur, he, hg, hh, hnc, hcm, hcur, htake⟩⟩ := h
  · cases he
  · simp only [Value.slice.injEq, Option.some.injEq, true_and] at he
    obtain ⟨h1, rfl⟩ := he
    injection h1 with h1
    subst h1
    unfold Arr
    rw [hh]
    have e : cur = ints (tab n (fun _ => 0)) := by
      apply Array.ext'
      rw [List.take_of_length_le (by simp; omega)] at htake
      rw [htake]
      apply List.ext_getElem
      · simp [madeCells, ints, tab]
      · intro i h1 h2
        simp [madeCells, ints, Value.cells, Nat.mod_one, tab]
    rw [e]
theorem Arr.below {w w' : World} {g B : Nat} {l : List Int} (h : Arr w g l) (k : Below B w w') (hb : g < B) : Arr w' g l := (k.block g hb).trans h
theorem Arr.put {w : World} {g n : Nat} {f : Nat → Int} (h : Arr w g (tab n f)) (i : Nat) (x : Int) : Arr (w.setCell ⟨g, i, none⟩ (.int .i64 x)) g (tab n (put f i x)) := by
  have := h.set i x
  rw [tab_set] at this
  exact this
theorem Arr.tcell {w : World} {g n : Nat} {f : Nat → Int} (h : Arr w g (tab n f)) (i : Nat) (hi : i < n) : w.cell? ⟨g, i, none⟩ = some (.int .i64 (f i)) := by
  have := h.cell i (by rw [tab_length]; exact hi)
  rw [tab_at n f i hi] at this
  exact this

def FairPost (w : World) (P : Prop) (e : Ending) (w' : World) : Prop := ∃ b : Bool, e = .returned (.bool b) ∧ (b = true ↔ P) ∧ Below w.heap.size w w'

theorem fair_short {xs : List Int} {n k i L : Nat} {w w1 : World} {M1 : Nat} {m : Int} {f : Nat → Int} (HF : Hid (∀ j, j < i → k ≤ j + 1 → Full (who xs n) n k j)) (HB : Hid (Below w.heap.size w w1)) (HA : Hid (Arr w1 w.heap.size (tab n f)))
    (HS : Hid (tab n f = tab n (tms xs n k (i + 1)) ∧ M1 = zeros n (tms xs n k (i + 1)))) (hs : i + 1 < k) (hlt : i < L) (hm : m = M1) :
    ∃ j : Nat, j ≤ L ∧ Value.int .i64 ((i : Int) + 1) = .int .i64 j ∧ Value.int .i64 m = .int .i64 (zeros n (tms xs n k j) : Nat) ∧ Arr w1 w.heap.size (tab n (tms xs n k j)) ∧ Below w.heap.size w w1 ∧ ∀ i', i' < j → k ≤ i' + 1 → Full (who xs n) n k i' := by
  refine ⟨i + 1, by omega, by simp, ?_, ?_, HB.out, fun j hj hk => ?_⟩
  · rw [hm, HS.out.2]
  · rw [← HS.out.1]; exact HA.out
  · rcases Nat.lt_or_ge j i with h | h
    · exact HF.out j h hk
    · omega

theorem fair_no {xs : List Int} {n k i L : Nat} {w w1 : World} {M1 : Nat} (HFF : Hid (Full (who xs n) n k i ↔ M1 = 0)) (HB : Hid (Below w.heap.size w w1)) (hM : M1 ≠ 0) (hs : k ≤ i + 1) (hlt : i < L) :
    FairPost w (Fairs (who xs n) n k L) (.returned (.bool false)) w1 := by
  refine ⟨false, rfl, ?_, HB.out⟩
  simp only [Bool.false_eq_true, false_iff]
  intro H
  exact hM (HFF.out.1 (H i hs hlt))

theorem fair_long {xs : List Int} {n k i L : Nat} {w w1 : World} {m : Int} {c : Nat} {f : Nat → Int} (HF : Hid (∀ j, j < i → k ≤ j + 1 → Full (who xs n) n k j)) (HB : Hid (Below w.heap.size w w1)) (HA : Hid (Arr w1 w.heap.size (tab n f)))
    (HFF : Hid (Full (who xs n) n k i)) (HS : Hid (tab n f = tab n (tms xs n k (i + 1)) ∧ zeros n (tms xs n k (i + 1)) = c)) (hlt : i < L) (hm : m = c) :
    ∃ j : Nat, j ≤ L ∧ Value.int .i64 ((i : Int) + 1) = .int .i64 j ∧ Value.int .i64 m = .int .i64 (zeros n (tms xs n k j) : Nat) ∧ Arr w1 w.heap.size (tab n (tms xs n k j)) ∧ Below w.heap.size w w1 ∧ ∀ i', i' < j → k ≤ i' + 1 → Full (who xs n) n k i' := by
  refine ⟨i + 1, by omega, by simp, ?_, ?_, HB.out, fun j hj hk => ?_⟩
  · rw [hm, HS.out.2]
  · rw [← HS.out.1]; exact HA.out
  · rcases Nat.lt_or_ge j i with h | h
    · exact HF.out j h hk
    · obtain rfl : j = i := by omega
      exact HFF.out

set_option maxRecDepth 100000 in
set_option maxHeartbeats 2000000 in
theorem fair_main (v : Value) (xs : List Int) (n k : Nat) (w : World) (hv : RowAt .i64 w v xs) (hn : 0 < n) (hnk : n ≤ k) (hkL : k ≤ xs.length) (hbig : xs.length * 8 ≤ 140737488355328) :
    Calls Try.prog 4 #[v, .int .i64 n, .int .i64 k] w (FairPost w (Fairs (who xs n) n k xs.length)) := by
  obtain ⟨i0, hi, hz0, hz1, hz2⟩ := info_parts Try.info3
  have hne : xs ≠ [] := by intro e; rw [e] at hkL; simp at hkL; omega
  obtain ⟨g, o, c, rfl, hc, hm, hcell⟩ := hv.spot hne
  obtain ⟨L, hL⟩ : ∃ L, L = xs.length := ⟨_, rfl⟩
  rw [← hL] at hcell hc hkL hbig ⊢
  have hgs : g < w.heap.size := by have := block_of_cell (hcell 0 (by omega)); exact this
  have HC := hide hcell
  clear hv hne hcell hL
  go_enter Try.func4, Try.ntmps4
  go_wp2_with (at_make; refine wpList_make_full _ rfl _ _ 22 rfl w.heap.size 3 i0 (.int .i64 0) 1 Try.underlying22 hi hz0 hz1 _ _ _ _ n rfl rfl rfl rfl (by rw [hz2]; omega) (by unfold maxLen; omega) (Nat.le_refl _) ?_; intro w1 hown hgrow)
  have hA : Arr w1 w.heap.size (tab n (fun _ => 0)) := made_arr hown
  have hB : Below w.heap.size w w1 := (Below.refl _ _).grown hgrow (Nat.le_refl _) (by intro k hk; cases hk)
  have HA := hide hA; have HB := hide hB
  clear hA hB hown hgrow
  go_loopw [31, 8] (fun t m wr => ∃ i : Nat, i ≤ L ∧ t = .int .i64 i ∧ m = .int .i64 (zeros n (tms xs n k i) : Nat) ∧ Arr wr w.heap.size (tab n (tms xs n k i)) ∧ Below w.heap.size w wr ∧ ∀ j, j < i → k ≤ j + 1 → Full (who xs n) n k j) (fun t _ _ => L - (RowKit.intOf t).toNat)
  case atStart =>
    have e : ∀ v, v < n → (0 : Int) = tms xs n k 0 v := by intro v _; unfold tms; simp [wc]
    refine ⟨0, by omega, rfl, ?_, ?_, HB.out, fun j hj => by omega⟩
    · rw [← zeros_congr e, zeros_const]
    · rw [← tab_congr e]; exact HA.out
  case round =>
    obtain ⟨i, hiL, rfl, rfl, hA, hB, hF⟩ := hrel
    clear HA HB
    by_cases hlt : i < L
    · have hx : wr.cell? ⟨g, o + i, none⟩ = some (.int .i64 (xs[i]?.getD 0)) := by
        have hx0 := HC.out i hlt
        rw [World.cell?, hB.block g hgs]
        exact hx0
      have HR := hide (rest_any (xs[i]?.getD 0) n wr (by omega) (by omega))
      have hal := who_lt xs n i hn
      have hal' : ((who xs n i : Nat) : Int) < (n : Int) := by omega
      have hta := tms_bounds xs n k i (who xs n i)
      have hzl := zeros_le n (tms xs n k i)
      have HZ := hide (zeros_in xs n k i hn)
      have ca := hA.tcell (who xs n i) hal
      have fa := hA.free (who xs n i)
      have HW := hide (who_int xs n i hn)
      have HA := hide hA; have HB := hide hB; have HF := hide hF
      have HS := hide (fun h => next_short xs n k i h)
      have HFI := hide (fun h => full_in xs n k i (by omega) h)
      have HNL := hide (fun h => next_long xs n k i hn (by omega) h _ rfl)
      obtain ⟨T, hT⟩ : ∃ T, T = tms xs n k i := ⟨_, rfl⟩
      rw [← hT] at hta hzl HZ ca HA HS HFI HNL ⊢
      obtain ⟨a, ha⟩ : ∃ a, a = who xs n i := ⟨_, rfl⟩
      rw [← ha] at hta hal hal' HZ ca fa HW HS HFI HNL
      obtain ⟨M, hM⟩ : ∃ M, M = zeros n T := ⟨_, rfl⟩
      rw [← hM] at hzl HZ ⊢
      have HTE := hide hT; have HAE := hide ha; have HME := hide hM
      clear hA hB hF hT ha hM
      go_wp2_with fail
      refine HR.out.mono ?_
      rw [HW.out]
      rintro e w2 ⟨rfl, rfl⟩
      clear HR HW
      have hb1 : k - 1 < i + 1 ∨ i + 1 < k := by omega
      have hA1 := HA.out.put a (T a + 1)
      have hB1 : Below w.heap.size w (w2.setCell ⟨w.heap.size, a, none⟩ (.int .i64 (T a + 1))) := HB.out.setCell (Nat.le_refl _) _
      obtain ⟨M1, hM1⟩ : ∃ M1, M1 = zeros n (put T a (T a + 1)) := ⟨_, rfl⟩
      rw [← hM1] at HS HFI HNL HZ
      have HM0 := hide hM1
      have HTB := hide (fun v => HTE.out ▸ tms_bounds xs n k i v : ∀ v, 0 ≤ T v ∧ T v ≤ i)
      have hMM : (T a = 0 → (M : Int) - 1 = (M1 : Int)) ∧ (¬ T a = 0 → M = M1) := by
        have h1 := HZ.out
        constructor
        · intro h0
          rw [if_pos h0] at h1
          have : 0 < M := by rw [HME.out]; exact (zeros_pos n T).2 ⟨a, hal, h0⟩
          omega
        · intro h0
          rw [if_neg h0] at h1
          omega
      have HMM := hide hMM
      have HA1 := hide hA1; have HB1 := hide hB1
      clear hMM hM1 HZ hA1 hB1
      by_cases hs : i + 1 < k
      · have HSS := hide (HS.out hs)
        clear HS HFI HNL hb1
        by_cases hTa : T a = 0
        · have e1 := HMM.out.1 hTa
          rw [show T a + 1 = 1 from by omega] at HB1 HA1 HSS
          go_wp2
          go_roundw
          case rel => exact fair_short HF HB1 HA1 HSS hs hlt (by rw [← e1])
          case measure => simp [RowKit.intOf]; omega
        · obtain rfl := HMM.out.2 hTa
          go_wp2
          go_roundw
          case rel => exact fair_short HF HB1 HA1 HSS hs hlt rfl
          case measure => simp [RowKit.intOf]; omega
      · have hs' : k ≤ i + 1 := by omega
        have HFF := hide (HFI.out hs')
        have HNN := hide (HNL.out hs')
        clear HS HFI HNL hb1
        by_cases hM1 : M1 = 0
        · subst hM1
          obtain ⟨T1, hT1⟩ : ∃ T1, T1 = put T a (T a + 1) := ⟨_, rfl⟩
          rw [← hT1] at HA1 HNN
          have hz1 : zeros n T1 = 0 := by rw [hT1]; exact HM0.out.symm
          obtain ⟨b, hb⟩ : ∃ b, b = who xs n (i + 1 - k) := ⟨_, rfl⟩
          have hbl : b < n := hb ▸ who_lt xs n _ hn
          rw [← hb] at HNN
          obtain ⟨tb, htb⟩ : ∃ tb, tb = T1 b := ⟨_, rfl⟩
          have htb0 : 0 < tb ∧ tb ≤ 9223372036854775806 := by
            have h1 : ¬ T1 b = 0 := fun h0 => by have := (zeros_pos n T1).2 ⟨b, hbl, h0⟩; omega
            have h2 : 0 ≤ T1 b ∧ T1 b ≤ i + 1 := by
              rw [hT1]; unfold put
              have := HTB.out b
              split <;> omega
            omega
          rw [← htb] at HNN
          have hA2 := HA1.out.put b (tb - 1)
          have hB2 := hide (HB1.out.setCell (p := ⟨w.heap.size, b, none⟩) (Nat.le_refl _) (.int .i64 (tb - 1)))
          have cb := HA1.out.tcell b hbl
          rw [← htb] at cb
          have fb := HA1.out.free b
          have cb2 := hA2.tcell b hbl
          rw [show put T1 b (tb - 1) b = tb - 1 by unfold put; rw [if_pos rfl]] at cb2
          have HA2 := hide hA2; have HB2 := hB2
          have hx2 : (w2.setCell ⟨w.heap.size, a, none⟩ (.int .i64 (T a + 1))).cell? ⟨g, o + ((i : Int) - (k : Int) + 1).toNat, none⟩ = some (.int .i64 (xs[i + 1 - k]?.getD 0)) := by
            have hx0 := HC.out (i + 1 - k) (by omega)
            rw [World.cell?, HB1.out.block g hgs, show ((i : Int) - (k : Int) + 1).toNat = i + 1 - k by omega]
            exact hx0
          have HR2 := hide (rest_any (xs[i + 1 - k]?.getD 0) n (w2.setCell ⟨w.heap.size, a, none⟩ (.int .i64 (T a + 1))) (by omega) (by omega))
          have HW2 := hide (who_int xs n (i + 1 - k) hn)
          rw [← hb] at HW2
          have HHH := hide (And.intro hT1 (And.intro hz1 (And.intro hb htb)))
          have hbl' : (b : Int) < (n : Int) := by omega
          have ix : 0 ≤ (i : Int) - (k : Int) + 1 ∧ (i : Int) - (k : Int) + 1 < (L : Int) := by omega
          have HNN' := hide (HNN.out rfl)
          have HFU := hide (HFF.out.2 rfl)
          clear hA2 hB2 hT1 hz1 hb htb HNN HFF
          have HNN := HNN'
          clear HNN'
          by_cases hTa : T a = 0
          · have e1 := HMM.out.1 hTa
            have e2 : (M : Int) = 1 := by omega
            have e3 : (1 : Int) - 1 = 0 := by omega
            rw [show T a + 1 = 1 from by omega] at HB1 HA1 HB2 HA2 cb fb cb2 hx2 HR2
            obtain rfl : M = 1 := by omega
            go_wp2_with fail
            refine HR2.out.mono ?_
            rw [HW2.out]
            rintro e w3 ⟨rfl, rfl⟩
            by_cases h1 : tb = 1
            · have h1' : tb - 1 = 0 := by omega
              rw [h1'] at HB2 HA2 HNN cb2
              rw [if_pos h1] at HNN
              go_wp2
              go_roundw
              case rel => exact fair_long HF HB2 HA2 HFU HNN hlt rfl
              case measure => simp [RowKit.intOf]; omega
            · have h1' : ¬ tb - 1 = 0 := by omega
              rw [if_neg h1] at HNN
              go_wp2
              go_roundw
              case rel => exact fair_long HF HB2 HA2 HFU HNN hlt rfl
              case measure => simp [RowKit.intOf]; omega
          · obtain rfl := HMM.out.2 hTa
            go_wp2_with fail
            refine HR2.out.mono ?_
            rw [HW2.out]
            rintro e w3 ⟨rfl, rfl⟩
            by_cases h1 : tb = 1
            · have h1' : tb - 1 = 0 := by omega
              rw [h1'] at HB2 HA2 HNN cb2
              rw [if_pos h1] at HNN
              go_wp2
              go_roundw
              case rel => exact fair_long HF HB2 HA2 HFU HNN hlt rfl
              case measure => simp [RowKit.intOf]; omega
            · have h1' : ¬ tb - 1 = 0 := by omega
              rw [if_neg h1] at HNN
              go_wp2
              go_roundw
              case rel => exact fair_long HF HB2 HA2 HFU HNN hlt rfl
              case measure => simp [RowKit.intOf]; omega
        · have hM1' : 0 < M1 := by omega
          by_cases hTa : T a = 0
          · have e1 := HMM.out.1 hTa
            have e2 : 0 < (M : Int) - 1 := by omega
            rw [show T a + 1 = 1 from by omega] at HB1
            go_wp2
            go_ret
            exact fair_no HFF HB1 hM1 hs' hlt
          · obtain rfl := HMM.out.2 hTa
            have e2 : 0 < (M : Int) := by omega
            go_wp2
            go_ret
            exact fair_no HFF HB1 hM1 hs' hlt
    · go_wp2
      go_ret
      refine ⟨true, rfl, ?_, hB⟩
      simp only [true_iff]
      intro j h1 h2
      exact hF j (by omega) h1
end Go.Proofs.Ytmmjfngcaioepaa
