/- LoomFair: the walk. -/
import Derived.Test.YtmmjfngcaioepaaRefFair
namespace Go.Proofs.Ytmmjfngcaioepaa
open Go.RowKit Go.Lib

def FairIs (xs : List Int) (n k : Int) : Prop := ¬ (n < 1 ∨ k < 1) ∧ Fairs (who xs n.toNat) n.toNat k.toNat xs.length

set_option maxRecDepth 100000 in
set_option maxHeartbeats 2000000 in
theorem fair_any (v : Value) (xs : List Int) (n k : Int) (w : World) (hv : RowAt .i64 w v xs) (hn : n ≤ 1000) (hk : k ≤ 9223372036854775807) (hbig : xs.length * 8 ≤ 140737488355328) :
    Calls Try.prog 4 #[v, .int .i64 n, .int .i64 k] w (FairPost w (FairIs xs n k)) := by
  by_cases h1 : n < 1 ∨ k < 1
  · have HP : Hid (∀ w', Below w.heap.size w w' → FairPost w (FairIs xs n k) (.returned (.bool false)) w') := fun w' hb => ⟨false, rfl, by simp [FairIs, h1], hb⟩
    obtain ⟨ao, c, rfl⟩ : ∃ ao c, v = .slice ao xs.length c := by obtain ⟨ao, c, h, _⟩ := hv; exact ⟨ao, c, h⟩
    clear hv
    go_enter Try.func4, Try.ntmps4
    rcases h1 with h1 | h1
    · go_wp2
      all_goals first
        | omega
        | (go_ret; exact HP.out _ (Below.refl _ _))
    · go_wp2
      all_goals first
        | omega
        | (go_ret; exact HP.out _ (Below.refl _ _))
  · obtain ⟨n', rfl⟩ : ∃ n' : Nat, n = n' := ⟨n.toNat, by omega⟩
    obtain ⟨k', rfl⟩ : ∃ k' : Nat, k = k' := ⟨k.toNat, by omega⟩
    have hP : FairIs xs n' k' ↔ Fairs (who xs n') n' k' xs.length := by
      unfold FairIs
      simp only [Int.toNat_natCast]
      exact ⟨fun h => h.2, fun h => ⟨h1, h⟩⟩
    by_cases h2 : xs.length < k'
    · have HP : Hid (∀ w', Below w.heap.size w w' → FairPost w (FairIs xs n' k') (.returned (.bool true)) w') := fun w' hb => ⟨true, rfl, by simp [hP, fairs_short _ n' k' _ h2], hb⟩
      obtain ⟨ao, c, rfl⟩ : ∃ ao c, v = .slice ao xs.length c := by obtain ⟨ao, c, h, _⟩ := hv; exact ⟨ao, c, h⟩
      clear hv hP
      go_enter Try.func4, Try.ntmps4
      go_wp2
      go_ret
      exact HP.out _ (Below.refl _ _)
    · by_cases h3 : k' < n'
      · have HP : Hid (∀ w', Below w.heap.size w w' → FairPost w (FairIs xs n' k') (.returned (.bool false)) w') := fun w' hb => ⟨false, rfl, by simp [hP, fairs_few xs n' k' xs.length h3 (by omega) (by omega)], hb⟩
        obtain ⟨ao, c, rfl⟩ : ∃ ao c, v = .slice ao xs.length c := by obtain ⟨ao, c, h, _⟩ := hv; exact ⟨ao, c, h⟩
        clear hv hP
        go_enter Try.func4, Try.ntmps4
        go_wp2
        go_ret
        exact HP.out _ (Below.refl _ _)
      · refine (fair_main v xs n' k' w hv (by omega) (by omega) (by omega) hbig).mono ?_
        rintro e w' ⟨b, rfl, hb, hB⟩
        exact ⟨b, rfl, hb.trans hP.symm, hB⟩

set_option maxRecDepth 100000 in
set_option maxHeartbeats 2000000 in
theorem refFair_any (v : Value) (xs : List Int) (n k : Int) (w : World) (hv : RowAt .i64 w v xs) (hn : n ≤ 1000) (hk : k ≤ 9223372036854775807) (hbig : xs.length * 8 ≤ 140737488355328) :
    Calls Try.prog 5 #[v, .int .i64 n, .int .i64 k] w (FairPost w (FairIs xs n k)) := by
  by_cases h1 : n < 1 ∨ k < 1
  · have HP : Hid (∀ w', Below w.heap.size w w' → FairPost w (FairIs xs n k) (.returned (.bool false)) w') := fun w' hb => ⟨false, rfl, by simp [FairIs, h1], hb⟩
    obtain ⟨ao, c, rfl⟩ : ∃ ao c, v = .slice ao xs.length c := by obtain ⟨ao, c, h, _⟩ := hv; exact ⟨ao, c, h⟩
    clear hv
    go_enter Try.func5, Try.ntmps5
    rcases h1 with h1 | h1
    · go_wp2
      all_goals first
        | omega
        | (go_ret; exact HP.out _ (Below.refl _ _))
    · go_wp2
      all_goals first
        | omega
        | (go_ret; exact HP.out _ (Below.refl _ _))
  · obtain ⟨n', rfl⟩ : ∃ n' : Nat, n = n' := ⟨n.toNat, by omega⟩
    obtain ⟨k', rfl⟩ : ∃ k' : Nat, k = k' := ⟨k.toNat, by omega⟩
    have hP : FairIs xs n' k' ↔ Fairs (who xs n') n' k' xs.length := by
      unfold FairIs
      simp only [Int.toNat_natCast]
      exact ⟨fun h => h.2, fun h => ⟨h1, h⟩⟩
    by_cases h3 : k' < n'
    · by_cases h2 : xs.length < k'
      · have HP : Hid (∀ w', Below w.heap.size w w' → FairPost w (FairIs xs n' k') (.returned (.bool true)) w') := fun w' hb => ⟨true, rfl, by simp [hP, fairs_short _ n' k' _ h2], hb⟩
        obtain ⟨ao, c, rfl⟩ : ∃ ao c, v = .slice ao xs.length c := by obtain ⟨ao, c, h, _⟩ := hv; exact ⟨ao, c, h⟩
        clear hv hP
        go_enter Try.func5, Try.ntmps5
        go_wp2
        go_ret
        exact HP.out _ (Below.refl _ _)
      · have HP : Hid (∀ w', Below w.heap.size w w' → FairPost w (FairIs xs n' k') (.returned (.bool false)) w') := fun w' hb => ⟨false, rfl, by simp [hP, fairs_few xs n' k' xs.length h3 (by omega) (by omega)], hb⟩
        obtain ⟨ao, c, rfl⟩ : ∃ ao c, v = .slice ao xs.length c := by obtain ⟨ao, c, h, _⟩ := hv; exact ⟨ao, c, h⟩
        clear hv hP
        go_enter Try.func5, Try.ntmps5
        go_wp2
        go_ret
        exact HP.out _ (Below.refl _ _)
    · refine (refFair_main v xs n' k' w hv (by omega) (by omega) (by omega) (by omega) hbig).mono ?_
      rintro e w' ⟨b, rfl, hb, hB⟩
      exact ⟨b, rfl, hb.trans hP.symm, hB⟩
end Go.Proofs.Ytmmjfngcaioepaa
