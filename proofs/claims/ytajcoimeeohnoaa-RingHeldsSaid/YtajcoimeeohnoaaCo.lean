/- A list of handles; slices.IndexFunc 56 and ContainsFunc 32 with Held's closure. -/
import Derived.Test.YtajcoimeeohnoaaTo
import Derived.Test.YtajcoimeeohnoaaCl
import Derived.Deep.RegionHeld3
namespace Go.Proofs.Ytajcoimeeohnoaa
open Go.RowKit Go.Lib
set_option linter.unusedVariables false
set_option linter.unusedSimpArgs false
/-- A handle: nil, or where it lies and of which ring it is. -/
abbrev Hn := Option (Nat × Int × Int)
def hPtr : Hn → Value
  | none => .pointer none
  | some (H, _, _) => .pointer (some ⟨H, 0, none⟩)
def hOth (b C : Int) : Hn → Bool
  | none => true
  | some (_, b', C') => oth b C b' C'
def hIn (w : World) : Hn → Prop
  | none => True
  | some (H, b', C') => HAt w H b' C'
def hAt (l : List Hn) (i : Nat) : Hn := l[i]?.getD none
/-- A list of handles without open operations. -/
def HsAt (w : World) (v : Value) (l : List Hn) : Prop :=
  ∃ ao c, v = .slice ao l.length c ∧ l.length ≤ c ∧ c ≤ 9223372036854775807 ∧ ∀ i, i < l.length → ∃ g o, ao = some ⟨g, o, none⟩ ∧ w.cell? ⟨g, o + i, none⟩ = some (hPtr (hAt l i)) ∧ hIn w (hAt l i)
theorem hIn_below {w w' : World} (x : Hn) (h : hIn w x) (hb : Below w.heap.size w w') : hIn w' x := by
  match x, h with
  | none, _ => trivial
  | some (H, b', C'), h => exact HAt.below h hb
theorem HsAt.below {w w' : World} {v : Value} {l : List Hn} (h : HsAt w v l) (hb : Below w.heap.size w w') : HsAt w' v l := by
  obtain ⟨ao, c, rfl, h1, h2, h3⟩ := h
  refine ⟨ao, c, rfl, h1, h2, fun i hi => ?_⟩
  obtain ⟨g, o, e, p, q⟩ := h3 i hi
  exact ⟨g, o, e, (below_cell hb (block_of_cell p)).trans p, hIn_below _ q hb⟩
theorem held1_all (x : Hn) (L : Nat) (b C : Int) (w : World) (h : hIn w x) (l0 : w.cell? ⟨L, 0, none⟩ = some (.int .i64 b)) (l1 : w.cell? ⟨L, 1, none⟩ = some (.int .i64 C)) :
    Calls Try.prog 33 #[hPtr x, .pointer (some ⟨L, 0, none⟩)] w fun e w' => e = .returned (.bool (hOth b C x)) ∧ Below w.heap.size w w' := by
  match x, h with
  | none, _ => exact held1_nil L w
  | some (H, b', C'), h => exact held1_any H L b C b' C' w h l0 l1
set_option maxRecDepth 100000 in
set_option maxHeartbeats 4000000 in
theorem index_any (v : Value) (l : List Hn) (L : Nat) (b C : Int) (w : World) (h : HsAt w v l) (l0 : w.cell? ⟨L, 0, none⟩ = some (.int .i64 b)) (l1 : w.cell? ⟨L, 1, none⟩ = some (.int .i64 C)) :
    Calls Try.prog 56 #[v, .func (.func 33) #[] #[.pointer (some ⟨L, 0, none⟩)]] w fun e w' => ∃ z : Int, e = .returned (.int .i64 z) ∧ decide (0 ≤ z) = (List.range l.length).any (fun i => hOth b C (hAt l i)) ∧ Below w.heap.size w w' := by
  obtain ⟨ao, c, rfl, h1, h2, h3⟩ := id h
  have HH := hide h
  have HL : Hid (∀ X, Below w.heap.size w X → X.cell? ⟨L, 0, none⟩ = some (.int .i64 b) ∧ X.cell? ⟨L, 1, none⟩ = some (.int .i64 C)) := fun X hX => ⟨(below_cell hX (block_of_cell l0)).trans l0, (below_cell hX (block_of_cell l1)).trans l1⟩
  have HP : Hid (∀ X, Below w.heap.size w X → ∀ i, i < l.length → ∃ g o, ao = some ⟨g, o, none⟩ ∧ X.cell? ⟨g, o + i, none⟩ = some (hPtr (hAt l i)) ∧ hIn X (hAt l i)) := fun X hX i hi => by
    obtain ⟨g, o, e, p, q⟩ := h3 i hi
    exact ⟨g, o, e, (below_cell hX (block_of_cell p)).trans p, hIn_below _ q hX⟩
  have HY : Hid (∀ i, i < l.length → hOth b C (hAt l i) = true → (List.range l.length).any (fun i => hOth b C (hAt l i)) = true) := fun i hi hq => List.any_eq_true.2 ⟨i, List.mem_range.2 hi, hq⟩
  have HZ : Hid ((∀ i, i < l.length → hOth b C (hAt l i) = false) → (List.range l.length).any (fun i => hOth b C (hAt l i)) = false) := fun hq => by
    rw [List.any_eq_false]; intro i hi; rw [hq i (List.mem_range.1 hi)]; simp
  generalize (List.range l.length).any (fun i => hOth b C (hAt l i)) = A at HY HZ ⊢
  obtain ⟨N, hN⟩ : ∃ N, N = l.length := ⟨_, rfl⟩
  rw [← hN] at HP HY HZ h1 ⊢
  clear h h3 l0 l1 hN HH
  have n1 : (N : Int) ≤ 9223372036854775807 := by omega
  go_enter Try.func56, Try.ntmps56
  go_wp2_with fail
  go_loopw [8] (fun t wr => ∃ i : Nat, i ≤ N ∧ t = .int .i64 i ∧ (∀ j, j < i → hOth b C (hAt l j) = false) ∧ Below w.heap.size w wr) (fun t _ => N - (RowKit.intOf t).toNat)
  case atStart => exact ⟨0, by omega, rfl, fun j hj => absurd hj (Nat.not_lt_zero _), Below.refl _ _⟩
  case round =>
    obtain ⟨i, hi, rfl, hall, hbel⟩ := hrel
    have HALL := hide hall
    have HBEL := hide hbel
    clear hall
    by_cases hlt : i < N
    · obtain ⟨g, o, rfl, p, q⟩ := HP.out _ hbel i hlt
      have HC := hide (held1_all (hAt l i) L b C wr q (HL.out _ hbel).1 (HL.out _ hbel).2)
      obtain ⟨x, hx⟩ : ∃ x, x = hAt l i := ⟨_, rfl⟩
      rw [← hx] at HC p
      have HX := hide hx
      clear hx q hbel
      have i1 : (i : Int) < (N : Int) := by omega
      have hwr : IntKind.i64.wrap ((i : Int) + 1) = (i : Int) + 1 := IntWalk.i64_in _ (by omega)
      obtain ⟨pv, hpv⟩ : ∃ pv, pv = hPtr x := ⟨_, rfl⟩
      rw [← hpv] at p HC
      clear hpv
      cases hq : hOth b C x
      · rw [hq] at HC
        have HQ := hide hq
        clear hq
        go_wp2_with fail
        refine HC.out.mono ?_
        rintro e w2 ⟨rfl, hb2⟩
        clear p
        go_wp2
        go_roundw
        case rel =>
          refine ⟨i + 1, by omega, by simp, fun j hj => ?_, below_on HBEL.out hb2⟩
          rcases Nat.lt_or_ge j i with h | h
          · exact HALL.out j h
          · obtain rfl : j = i := by omega
            rw [← HX.out]; exact HQ.out
        case measure => simp [RowKit.intOf]; omega
      · rw [hq] at HC
        have HE := hide (HY.out i hlt (by rw [← HX.out]; exact hq))
        clear hq
        go_wp2_with fail
        refine HC.out.mono ?_
        rintro e w2 ⟨rfl, hb2⟩
        clear p
        go_wp2
        go_ret
        exact ⟨_, rfl, by rw [HE.out]; simp, below_on HBEL.out hb2⟩
    · obtain rfl : i = N := by omega
      have HE := hide (HZ.out HALL.out)
      clear hbel
      go_wp2
      go_ret
      exact ⟨_, rfl, by rw [HE.out]; rfl, HBEL.out⟩
set_option maxRecDepth 100000 in
set_option maxHeartbeats 2000000 in
theorem contains_any (v : Value) (l : List Hn) (L : Nat) (b C : Int) (w : World) (h : HsAt w v l) (l0 : w.cell? ⟨L, 0, none⟩ = some (.int .i64 b)) (l1 : w.cell? ⟨L, 1, none⟩ = some (.int .i64 C)) :
    Calls Try.prog 32 #[v, .func (.func 33) #[] #[.pointer (some ⟨L, 0, none⟩)]] w fun e w' => e = .returned (.bool ((List.range l.length).any (fun i => hOth b C (hAt l i)))) ∧ Below w.heap.size w w' := by
  have HI := hide (index_any v l L b C w h l0 l1)
  obtain ⟨ao, c, rfl, _⟩ := h
  clear l0 l1
  generalize (List.range l.length).any (fun i => hOth b C (hAt l i)) = A at HI ⊢
  go_enter Try.func32, Try.ntmps32
  go_wp2_with fail
  refine HI.out.mono ?_
  rintro e w2 ⟨z, rfl, hz, hb⟩
  go_wp2
  go_ret
  exact ⟨by rw [← hz]; rfl, hb⟩
end Go.Proofs.Ytajcoimeeohnoaa
