/- The reference's HeldError 14; lists of rings. -/
import Derived.Test.YtajcoimeeohnoaaTo
import Derived.Test.YtajcoimeeohnoaaCl
import Derived.Deep.RegionHeld3
namespace Go.Proofs.Ytajcoimeeohnoaa
open Go.RowKit Go.Lib
set_option linter.unusedVariables false
set_option linter.unusedSimpArgs false
theorem Try.fields47 : Try.prog.underlying 47 = some (.struct (Try.prog.fieldsOf 47)) := by kernel_rfl
theorem Try.held47 : Try.prog.stoodInHeld 47 = false := by kernel_rfl
theorem Try.list47 : (Try.prog.fieldsOf 47).toList = [{ name := "Base", type := 3, offset := 0, embedded := false, tag := "", pkgPath := "", byteOffset := 0 }, { name := "Cap", type := 3, offset := 1, embedded := false, tag := "", pkgPath := "", byteOffset := 8 }] := by kernel_rfl
theorem neq_ring (a0 a1 b0 b1 : Int) (w : World) :
    (binOp .neq 47 (.agg #[.int .i64 a0, .int .i64 a1]) (.agg #[.int .i64 b0, .int .i64 b1])).run Try.prog w = .ok (.bool (!(a0 == b0 && (a1 == b1 && true)))) w := by
  have h : (Op.equalIn 10000 47 (.agg #[.int .i64 a0, .int .i64 a1]) (.agg #[.int .i64 b0, .int .i64 b1])).run Try.prog w = .ok (a0 == b0 && (a1 == b1 && true)) w := by
    rw [show (10000 : Nat) = 9998 + 1 + 1 from rfl, run_equalIn_struct w (9998 + 1) 47 _ _ Try.fields47 Try.held47, Try.list47]
    refine field_int (by decide) Try.underlying3 (part3 _ _ _ _ rfl) (part3 _ _ _ _ rfl) ?_
    refine field_int (by decide) Try.underlying3 (part3 _ _ _ _ rfl) (part3 _ _ _ _ rfl) ?_
    simp [Op.eqFields]
  rw [run_neq_struct, h, Result.andThen_ok]
def rAt (l : List (Int × Int)) (i : Nat) : Int × Int := l[i]?.getD (0, 0)
/-- Rings that lie anywhere. -/
def RsAt (w : World) (v : Value) (l : List (Int × Int)) : Prop :=
  ∃ ao c, v = .slice ao l.length c ∧ l.length ≤ c ∧ c ≤ 9223372036854775807 ∧
    ∀ i, i < l.length → ∃ g o, ao = some ⟨g, o, none⟩ ∧ w.cell? ⟨g, o + i * 2, none⟩ = some (.int .i64 (rAt l i).1) ∧ w.cell? ⟨g, o + i * 2 + 1, none⟩ = some (.int .i64 (rAt l i).2)
theorem RsAt.below {w w' : World} {v : Value} {l : List (Int × Int)} (h : RsAt w v l) (hb : Below w.heap.size w w') : RsAt w' v l := by
  obtain ⟨ao, c, rfl, h1, h2, h3⟩ := h
  refine ⟨ao, c, rfl, h1, h2, fun i hi => ?_⟩
  obtain ⟨g, o, e, p, q⟩ := h3 i hi
  have hl : g < w.heap.size := block_of_cell p
  exact ⟨g, o, e, (below_cell hb hl).trans p, (below_cell hb hl).trans q⟩
/-- What the reference's HeldError answers where shape and cells are fine. -/
def rOth (b C : Int) (l : List (Int × Int)) : Bool := (List.range l.length).any fun i => oth b C (rAt l i).1 (rAt l i).2
set_option maxRecDepth 100000 in
set_option maxHeartbeats 4000000 in
theorem herr_shape (b C : Int) (ao ro : Option Addr) (n c m d : Nat) (w : World) (h : ¬ OkR b C) :
    Calls Try.prog 14 #[qAgg b C, .slice ao n c, .slice ro m d] w fun e w' => e = .returned (.int .i64 60) ∧ Below w.heap.size w w' := by
  have hc := fun W => valid_any b C W
  simp only [decide_eq_false h] at hc
  have HC := hide hc
  clear hc
  have HQ := hide (qm_one w 47 b C)
  unfold qAgg at HC ⊢
  go_enter Try.func14, Try.ntmps14
  go_wp2_with (go_at_call 30; refine (HC.out _).mono ?_; rintro e w2 ⟨rfl, hb2⟩)
  go_ret
  exact ⟨rfl, below_on HQ.out.bel hb2⟩
set_option maxRecDepth 100000 in
set_option maxHeartbeats 4000000 in
theorem herr_list (b C : Int) (ao ro : Option Addr) (n c m d : Nat) (w : World) (h : OkR b C) (hn : (n : Int) < b + 2 + 3 * C) :
    Calls Try.prog 14 #[qAgg b C, .slice ao n c, .slice ro m d] w fun e w' => e = .returned (.int .i64 34) ∧ Below w.heap.size w w' := by
  have hc := fun W => valid_any b C W
  simp only [decide_eq_true h] at hc
  have HC := hide hc
  clear hc
  have HQ := hide (qm_one w 47 b C)
  obtain ⟨⟨h1, h2⟩, h3, h4⟩ := h
  unfold qAgg at HC ⊢
  go_enter Try.func14, Try.ntmps14
  go_wp2_with (go_at_call 30; refine (HC.out _).mono ?_; rintro e w2 ⟨rfl, hb2⟩; replace HQ := hide (HQ.out.below hb2); clear hb2; obtain ⟨s0, s1⟩ := HQ.out.two)
  go_ret
  exact ⟨rfl, HQ.out.bel⟩
set_option maxRecDepth 100000 in
set_option maxHeartbeats 4000000 in
theorem herr_rest (b C : Int) (ao : Option Addr) (n c : Nat) (v : Value) (l : List (Int × Int)) (w : World) (h : OkR b C) (hn : ¬ (n : Int) < b + 2 + 3 * C) (hl : RsAt w v l) :
    Calls Try.prog 14 #[qAgg b C, .slice ao n c, v] w fun e w' => e = .returned (.int .i64 (if rOth b C l then 60 else 0)) ∧ Below w.heap.size w w' := by
  have hc := fun W => valid_any b C W
  simp only [decide_eq_true h] at hc
  have HC := hide hc
  clear hc
  have HQ := hide (qm_one w 47 b C)
  obtain ⟨ro, d, rfl, m1, m2, h3⟩ := hl
  have HP : Hid (∀ X, Below w.heap.size w X → ∀ i, i < l.length → ∃ g o, ro = some ⟨g, o, none⟩ ∧ X.cell? ⟨g, o + i * 2, none⟩ = some (.int .i64 (rAt l i).1) ∧ X.cell? ⟨g, o + i * 2 + 1, none⟩ = some (.int .i64 (rAt l i).2)) := fun X hX i hi => by
    obtain ⟨g, o, e, p, q⟩ := h3 i hi
    exact ⟨g, o, e, (below_cell hX (block_of_cell p)).trans p, (below_cell hX (block_of_cell p)).trans q⟩
  have HY : Hid (∀ i, i < l.length → oth b C (rAt l i).1 (rAt l i).2 = true → rOth b C l = true) := fun i hi hq => List.any_eq_true.2 ⟨i, List.mem_range.2 hi, hq⟩
  have HZ : Hid ((∀ i, i < l.length → oth b C (rAt l i).1 (rAt l i).2 = false) → rOth b C l = false) := fun hq => by
    unfold rOth
    rw [List.any_eq_false]; intro i hi; rw [hq i (List.mem_range.1 hi)]; simp
  obtain ⟨R, hR⟩ : ∃ R : Int, R = if rOth b C l then 60 else 0 := ⟨_, rfl⟩
  rw [← hR]
  replace HY : Hid (∀ i, i < l.length → oth b C (rAt l i).1 (rAt l i).2 = true → R = 60) := fun i hi hq => by rw [hR, if_pos (HY.out i hi hq)]
  replace HZ : Hid ((∀ i, i < l.length → oth b C (rAt l i).1 (rAt l i).2 = false) → R = 0) := fun hq => by rw [hR, HZ.out hq]; rfl
  clear hR
  obtain ⟨N, hN⟩ : ∃ N, N = l.length := ⟨_, rfl⟩
  rw [← hN] at HP HY HZ m1 ⊢
  clear h3 hN
  obtain ⟨⟨h1, h2⟩, h3, h4⟩ := h
  have n1 : (N : Int) ≤ 9223372036854775807 := by omega
  unfold qAgg at HC ⊢
  go_enter Try.func14, Try.ntmps14
  go_wp2_with (go_at_call 30; refine (HC.out _).mono ?_; rintro e w2 ⟨rfl, hb2⟩; replace HQ := hide (HQ.out.below hb2); clear hb2; obtain ⟨s0, s1⟩ := HQ.out.two)
  clear s0 s1
  go_loopw [7] (fun t wr => ∃ i : Nat, i ≤ N ∧ t = .int .i64 i ∧ (∀ j, j < i → oth b C (rAt l j).1 (rAt l j).2 = false) ∧ QM w w.heap.size 47 b C wr) (fun t _ => N - (RowKit.intOf t).toNat)
  case atStart => exact ⟨0, by omega, rfl, fun j hj => absurd hj (Nat.not_lt_zero _), HQ.out⟩
  case round =>
    obtain ⟨i, hi, rfl, hall, hqm⟩ := hrel
    clear HQ
    have HALL := hide hall
    have HQ := hide hqm
    obtain ⟨s0, s1⟩ := hqm.two
    clear hall hqm
    by_cases hlt : i < N
    · obtain ⟨g, o, rfl, p, q⟩ := HP.out _ HQ.out.bel i hlt
      have hNq := fun W => neq_ring (rAt l i).1 (rAt l i).2 b C W
      have HYi := hide (HY.out i hlt)
      have ho : (!((rAt l i).1 == b && ((rAt l i).2 == C && true))) = oth b C (rAt l i).1 (rAt l i).2 := rfl
      rw [ho] at hNq
      obtain ⟨x, hx⟩ : ∃ x, x = (rAt l i).1 := ⟨_, rfl⟩
      obtain ⟨y, hy⟩ : ∃ x, x = (rAt l i).2 := ⟨_, rfl⟩
      have HX := hide hx
      have HYY := hide hy
      rw [← hx] at p hNq HYi
      rw [← hy] at q hNq HYi
      clear hx hy ho
      have y0 := gw_cell p; have y1 := gw_cell q; have y2 := gw_cell s0; have y3 := gw_cell s1
      have i1 : (i : Int) < (N : Int) := by omega
      have hwr : IntKind.i64.wrap ((i : Int) + 1) = (i : Int) + 1 := IntWalk.i64_in _ (by omega)
      cases hq : oth b C x y
      · rw [hq] at hNq
        have HQQ := hide hq
        clear hq
        go_wp2_with fail
        refine wp_region_gw (by kernel_rfl) (by kernel_rfl) ?_
        repeat (go_big_quiet_step (rfl))
        refine wpQuiet_nil ?_
        intro _ hw'
        obtain ⟨x', hw''⟩ := hw'
        subst hw''
        have HQ2 := hide (HQ.out.below x'.bel)
        clear y0 y1 y2 y3 p q s0 s1 hNq
        generalize x'.world = w3 at HQ2 ⊢
        clear x'
        go_wp2
        go_roundw
        case rel =>
          refine ⟨i + 1, by omega, by simp, fun j hj => ?_, HQ2.out⟩
          rcases Nat.lt_or_ge j i with h | h
          · exact HALL.out j h
          · obtain rfl : j = i := by omega
            rw [← HX.out, ← HYY.out]; exact HQQ.out
        case measure => simp [RowKit.intOf]; omega
      · rw [hq] at hNq
        have HE := hide (HYi.out hq)
        clear hq
        go_wp2_with fail
        refine wp_region_gw (by kernel_rfl) (by kernel_rfl) ?_
        repeat (go_big_quiet_step (rfl))
        refine wpQuiet_nil ?_
        intro _ hw'
        obtain ⟨x', hw''⟩ := hw'
        subst hw''
        have HQ2 := hide (HQ.out.below x'.bel)
        clear y0 y1 y2 y3 p q s0 s1 hNq
        generalize x'.world = w3 at HQ2 ⊢
        clear x'
        go_wp2
        go_ret
        exact ⟨by rw [HE.out]; rfl, HQ2.out.bel⟩
    · obtain rfl : i = N := by omega
      have HE := hide (HZ.out HALL.out)
      go_wp2
      go_ret
      exact ⟨by rw [HE.out]; rfl, HQ.out.bel⟩
end Go.Proofs.Ytajcoimeeohnoaa
