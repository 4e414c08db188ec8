import Derived.Test.YtgjdjdgondpjeaaGreatTo
import Derived.Test.YtgjdjdgondpjeaaGreatHd
import Derived.Deep.RegionHeld3
/- ring's Open 13; a handle without an open operation: inHand 35. -/
namespace Go.Proofs.YtgjdjdgondpjeaaGreat
open Go.RowKit Go.Lib
set_option linter.unusedVariables false
set_option linter.unusedSimpArgs false
set_option maxRecDepth 100000 in
set_option maxHeartbeats 2000000 in
/-- A handle without an open operation holds no task. -/
theorem inHand_idle (H : Nat) (v : Value) (w : World) (h : w.cell? ⟨H, 2, none⟩ = some (.int .i64 0)) :
    Calls Tryz.prog 61 #[.pointer (some ⟨H, 0, none⟩), v] w fun e w' => e = .returned (.slice none 0 0) ∧ w' = w := by
  go_enter Tryz.func61, Tryz.ntmps61
  go_wp2
  go_ret
  exact ⟨rfl, rfl⟩
/-- A handle of the ring (b, C) without an open operation. -/
structure HAt (w : World) (H : Nat) (b C : Int) : Prop where
  c0 : w.cell? ⟨H, 0, none⟩ = some (.int .i64 b)
  c1 : w.cell? ⟨H, 1, none⟩ = some (.int .i64 C)
theorem HAt.below {w w' : World} {H : Nat} {b C : Int} (h : HAt w H b C) (hb : Below w.heap.size w w') : HAt w' H b C :=
  ⟨(below_cell hb (block_of_cell h.c0)).trans h.c0, (below_cell hb (block_of_cell h.c1)).trans h.c1⟩
set_option maxRecDepth 100000 in
set_option maxHeartbeats 2000000 in
theorem open_shape (b C i : Int) (w : World) (h : ¬ OkR b C) :
    Calls Tryz.prog 29 #[qAgg b C, .int .i64 i] w fun e w' => e = .returned (.tuple #[.pointer none, .int .i64 60]) ∧ Below w.heap.size w w' := by
  have hc := fun W => qCheck_any b C W
  simp only [if_neg h] at hc
  have HC := hide hc
  clear hc
  have HQ := hide (qm_two w 121 (.cells #[.int .i64 b, .int .i64 C] 23) b C)
  unfold qAgg at HC ⊢
  go_enter Tryz.func29, Tryz.ntmps29
  go_wp2_with (go_at_call 65; refine (HC.out _).mono ?_; rintro e w2 ⟨rfl, hb2⟩)
  go_ret2
  exact ⟨rfl, below_on HQ.out.bel hb2⟩
set_option maxRecDepth 100000 in
set_option maxHeartbeats 2000000 in
theorem open_neg (b C i : Int) (w : World) (h : OkR b C) (hi : i < 0) :
    Calls Tryz.prog 29 #[qAgg b C, .int .i64 i] w fun e w' => e = .returned (.tuple #[.pointer none, .int .i64 6]) ∧ Below w.heap.size w w' := by
  have hc := fun W => qCheck_any b C W
  simp only [if_pos h] at hc
  have HC := hide hc
  clear hc
  have HQ := hide (qm_two w 121 (.cells #[.int .i64 b, .int .i64 C] 23) b C)
  unfold qAgg at HC ⊢
  go_enter Tryz.func29, Tryz.ntmps29
  go_wp2_with (go_at_call 65; refine (HC.out _).mono ?_; rintro e w2 ⟨rfl, hb2⟩)
  go_ret2
  exact ⟨rfl, below_on HQ.out.bel hb2⟩
set_option maxRecDepth 100000 in
set_option maxHeartbeats 2000000 in
theorem open_ok (b C i : Int) (w : World) (h : OkR b C) (hi : 0 ≤ i) :
    Calls Tryz.prog 29 #[qAgg b C, .int .i64 i] w fun e w' => ∃ H, e = .returned (.tuple #[.pointer (some ⟨H, 0, none⟩), .int .i64 0]) ∧ w.heap.size ≤ H ∧ HAt w' H b C ∧ Below w.heap.size w w' := by
  have hc := fun W => qCheck_any b C W
  simp only [if_pos h] at hc
  have HC := hide hc
  clear hc
  have HQ := hide (qm_two w 121 (.cells #[.int .i64 b, .int .i64 C] 23) b C)
  unfold qAgg at HC ⊢
  go_enter Tryz.func29, Tryz.ntmps29
  go_wp2_with (go_at_call 65; refine (HC.out _).mono ?_; rintro e w2 ⟨rfl, hb2⟩; have HM := hide (HQ.out.below hb2); clear hb2; obtain ⟨s0, s1⟩ := HM.out.two)
  have hs := HM.out.bel.size
  go_ret2
  refine ⟨_, rfl, hs, ⟨cell_of (heap_new _ _) rfl, cell_of (heap_new _ _) rfl⟩, below_alloc HM.out.bel _⟩
end Go.Proofs.YtgjdjdgondpjeaaGreat

/- ring's Held$1 33: whether a handle is nil or of another ring. -/
namespace Go.Proofs.YtgjdjdgondpjeaaGreat
open Go.RowKit Go.Lib
set_option linter.unusedVariables false
set_option linter.unusedSimpArgs false
theorem Tryz.fields121 : Tryz.prog.underlying 121 = some (.struct (Tryz.prog.fieldsOf 121)) := by kernel_rfl
theorem Tryz.held121 : Tryz.prog.stoodInHeld 121 = false := by kernel_rfl
theorem Tryz.list121 : (Tryz.prog.fieldsOf 121).toList = [{ name := "Base", type := 3, offset := 0, embedded := false, tag := "", pkgPath := "", byteOffset := 0 }, { name := "Cap", type := 3, offset := 1, embedded := false, tag := "", pkgPath := "", byteOffset := 8 }] := by kernel_rfl
theorem neq_lay (a0 a1 b0 b1 : Int) (w : World) :
    (binOp .neq 121 (.agg #[.int .i64 a0, .int .i64 a1]) (.agg #[.int .i64 b0, .int .i64 b1])).run Tryz.prog w = .ok (.bool (!(a0 == b0 && (a1 == b1 && true)))) w := by
  have h : (Op.equalIn 10000 121 (.agg #[.int .i64 a0, .int .i64 a1]) (.agg #[.int .i64 b0, .int .i64 b1])).run Tryz.prog w = .ok (a0 == b0 && (a1 == b1 && true)) w := by
    rw [show (10000 : Nat) = 9998 + 1 + 1 from rfl, run_equalIn_struct w (9998 + 1) 121 _ _ Tryz.fields121 Tryz.held121, Tryz.list121]
    refine field_int (by decide) Tryz.underlying3 (part3 _ _ _ _ rfl) (part3 _ _ _ _ rfl) ?_
    refine field_int (by decide) Tryz.underlying3 (part3 _ _ _ _ rfl) (part3 _ _ _ _ rfl) ?_
    simp [Op.eqFields]
  rw [run_neq_struct, h, Result.andThen_ok]
/-- Whether a handle is of another ring. -/
def oth (b C b' C' : Int) : Bool := !(b' == b && (C' == C && true))
set_option maxRecDepth 100000 in
set_option maxHeartbeats 2000000 in
theorem held1_nil (L : Nat) (w : World) :
    Calls Tryz.prog 59 #[.pointer none, .pointer (some ⟨L, 0, none⟩)] w fun e w' => e = .returned (.bool true) ∧ Below w.heap.size w w' := by
  go_enter Tryz.func59, Tryz.ntmps59
  go_wp2_with fail
  refine wp_region_gw (by kernel_rfl) (by kernel_rfl) ?_
  repeat (go_big_quiet_step (rfl))
  refine wpQuiet_nil ?_
  intro _ hw'
  obtain ⟨x', hw''⟩ := hw'
  subst hw''
  go_wp2
  go_ret
  exact ⟨rfl, x'.bel⟩
set_option maxRecDepth 100000 in
set_option maxHeartbeats 2000000 in
theorem held1_any (H L : Nat) (b C b' C' : Int) (w : World) (h : HAt w H b' C') (l0 : w.cell? ⟨L, 0, none⟩ = some (.int .i64 b)) (l1 : w.cell? ⟨L, 1, none⟩ = some (.int .i64 C)) :
    Calls Tryz.prog 59 #[.pointer (some ⟨H, 0, none⟩), .pointer (some ⟨L, 0, none⟩)] w fun e w' => e = .returned (.bool (oth b C b' C')) ∧ Below w.heap.size w w' := by
  have x0 := gw_cell h.c0; have x1 := gw_cell h.c1; have x2 := gw_cell l0; have x3 := gw_cell l1
  have hN := fun W => neq_lay b' C' b C W
  have ho : (!(b' == b && (C' == C && true))) = oth b C b' C' := rfl
  rw [ho] at hN
  generalize oth b C b' C' = q at hN ⊢
  clear ho h l0 l1
  go_enter Tryz.func59, Tryz.ntmps59
  go_wp2_with fail
  refine wp_region_gw (by kernel_rfl) (by kernel_rfl) ?_
  repeat (go_big_quiet_step (rfl))
  refine wpQuiet_nil ?_
  intro _ hw'
  obtain ⟨x', hw''⟩ := hw'
  subst hw''
  go_wp2
  go_ret
  exact ⟨rfl, x'.bel⟩
end Go.Proofs.YtgjdjdgondpjeaaGreat

/- A list of handles; slices.IndexFunc 56 and ContainsFunc 40 with Held's closure. -/
namespace Go.Proofs.YtgjdjdgondpjeaaGreat
open Go.RowKit Go.Lib
set_option linter.unusedVariables false
set_option linter.unusedSimpArgs false
/-- A handle: nil, or where it lies and of which ring it is. -/
abbrev Hn := Option (Nat × Int × Int)
def hPtr : Hn → Value
  | none => .pointer none
  | some (H, _, _) => .pointer (some ⟨H, 0, none⟩)
def hOth (b C : Int) : Hn → Bool
  | none => true
  | some (_, b', C') => oth b C b' C'
def hIn (w : World) : Hn → Prop
  | none => True
  | some (H, b', C') => HAt w H b' C'
def hAt (l : List Hn) (i : Nat) : Hn := l[i]?.getD none
/-- A list of handles without open operations. -/
def HsAt (w : World) (v : Value) (l : List Hn) : Prop :=
  ∃ ao c, v = .slice ao l.length c ∧ l.length ≤ c ∧ c ≤ 9223372036854775807 ∧ ∀ i, i < l.length → ∃ g o, ao = some ⟨g, o, none⟩ ∧ w.cell? ⟨g, o + i, none⟩ = some (hPtr (hAt l i)) ∧ hIn w (hAt l i)
theorem hIn_below {w w' : World} (x : Hn) (h : hIn w x) (hb : Below w.heap.size w w') : hIn w' x := by
  match x, h with
  | none, _ => trivial
  | some (H, b', C'), h => exact HAt.below h hb
theorem HsAt.below {w w' : World} {v : Value} {l : List Hn} (h : HsAt w v l) (hb : Below w.heap.size w w') : HsAt w' v l := by
  obtain ⟨ao, c, rfl, h1, h2, h3⟩ := h
  refine ⟨ao, c, rfl, h1, h2, fun i hi => ?_⟩
  obtain ⟨g, o, e, p, q⟩ := h3 i hi
  exact ⟨g, o, e, (below_cell hb (block_of_cell p)).trans p, hIn_below _ q hb⟩
theorem held1_all (x : Hn) (L : Nat) (b C : Int) (w : World) (h : hIn w x) (l0 : w.cell? ⟨L, 0, none⟩ = some (.int .i64 b)) (l1 : w.cell? ⟨L, 1, none⟩ = some (.int .i64 C)) :
    Calls Tryz.prog 59 #[hPtr x, .pointer (some ⟨L, 0, none⟩)] w fun e w' => e = .returned (.bool (hOth b C x)) ∧ Below w.heap.size w w' := by
  match x, h with
  | none, _ => exact held1_nil L w
  | some (H, b', C'), h => exact held1_any H L b C b' C' w h l0 l1
set_option maxRecDepth 100000 in
set_option maxHeartbeats 4000000 in
theorem index_any (v : Value) (l : List Hn) (L : Nat) (b C : Int) (w : World) (h : HsAt w v l) (l0 : w.cell? ⟨L, 0, none⟩ = some (.int .i64 b)) (l1 : w.cell? ⟨L, 1, none⟩ = some (.int .i64 C)) :
    Calls Tryz.prog 92 #[v, .func (.func 59) #[] #[.pointer (some ⟨L, 0, none⟩)]] w fun e w' => ∃ z : Int, e = .returned (.int .i64 z) ∧ decide (0 ≤ z) = (List.range l.length).any (fun i => hOth b C (hAt l i)) ∧ Below w.heap.size w w' := by
  obtain ⟨ao, c, rfl, h1, h2, h3⟩ := id h
  have HH := hide h
  have HL : Hid (∀ X, Below w.heap.size w X → X.cell? ⟨L, 0, none⟩ = some (.int .i64 b) ∧ X.cell? ⟨L, 1, none⟩ = some (.int .i64 C)) := fun X hX => ⟨(below_cell hX (block_of_cell l0)).trans l0, (below_cell hX (block_of_cell l1)).trans l1⟩
  have HP : Hid (∀ X, Below w.heap.size w X → ∀ i, i < l.length → ∃ g o, ao = some ⟨g, o, none⟩ ∧ X.cell? ⟨g, o + i, none⟩ = some (hPtr (hAt l i)) ∧ hIn X (hAt l i)) := fun X hX i hi => by
    obtain ⟨g, o, e, p, q⟩ := h3 i hi
    exact ⟨g, o, e, (below_cell hX (block_of_cell p)).trans p, hIn_below _ q hX⟩
  have HY : Hid (∀ i, i < l.length → hOth b C (hAt l i) = true → (List.range l.length).any (fun i => hOth b C (hAt l i)) = true) := fun i hi hq => List.any_eq_true.2 ⟨i, List.mem_range.2 hi, hq⟩
  have HZ : Hid ((∀ i, i < l.length → hOth b C (hAt l i) = false) → (List.range l.length).any (fun i => hOth b C (hAt l i)) = false) := fun hq => by
    rw [List.any_eq_false]; intro i hi; rw [hq i (List.mem_range.1 hi)]; simp
  generalize (List.range l.length).any (fun i => hOth b C (hAt l i)) = A at HY HZ ⊢
  obtain ⟨N, hN⟩ : ∃ N, N = l.length := ⟨_, rfl⟩
  rw [← hN] at HP HY HZ h1 ⊢
  clear h h3 l0 l1 hN HH
  have n1 : (N : Int) ≤ 9223372036854775807 := by omega
  go_enter Tryz.func92, Tryz.ntmps92
  go_wp2_with fail
  go_loopw [8] (fun t wr => ∃ i : Nat, i ≤ N ∧ t = .int .i64 i ∧ (∀ j, j < i → hOth b C (hAt l j) = false) ∧ Below w.heap.size w wr) (fun t _ => N - (RowKit.intOf t).toNat)
  case atStart => exact ⟨0, by omega, rfl, fun j hj => absurd hj (Nat.not_lt_zero _), Below.refl _ _⟩
  case round =>
    obtain ⟨i, hi, rfl, hall, hbel⟩ := hrel
    have HALL := hide hall
    have HBEL := hide hbel
    clear hall
    by_cases hlt : i < N
    · obtain ⟨g, o, rfl, p, q⟩ := HP.out _ hbel i hlt
      have HC := hide (held1_all (hAt l i) L b C wr q (HL.out _ hbel).1 (HL.out _ hbel).2)
      obtain ⟨x, hx⟩ : ∃ x, x = hAt l i := ⟨_, rfl⟩
      rw [← hx] at HC p
      have HX := hide hx
      clear hx q hbel
      have i1 : (i : Int) < (N : Int) := by omega
      have hwr : IntKind.i64.wrap ((i : Int) + 1) = (i : Int) + 1 := IntWalk.i64_in _ (by omega)
      obtain ⟨pv, hpv⟩ : ∃ pv, pv = hPtr x := ⟨_, rfl⟩
      rw [← hpv] at p HC
      clear hpv
      cases hq : hOth b C x
      · rw [hq] at HC
        have HQ := hide hq
        clear hq
        go_wp2_with fail
        refine HC.out.mono ?_
        rintro e w2 ⟨rfl, hb2⟩
        clear p
        go_wp2
        go_roundw
        case rel =>
          refine ⟨i + 1, by omega, by simp, fun j hj => ?_, below_on HBEL.out hb2⟩
          rcases Nat.lt_or_ge j i with h | h
          · exact HALL.out j h
          · obtain rfl : j = i := by omega
            rw [← HX.out]; exact HQ.out
        case measure => simp [RowKit.intOf]; omega
      · rw [hq] at HC
        have HE := hide (HY.out i hlt (by rw [← HX.out]; exact hq))
        clear hq
        go_wp2_with fail
        refine HC.out.mono ?_
        rintro e w2 ⟨rfl, hb2⟩
        clear p
        go_wp2
        go_ret
        exact ⟨_, rfl, by rw [HE.out]; simp, below_on HBEL.out hb2⟩
    · obtain rfl : i = N := by omega
      have HE := hide (HZ.out HALL.out)
      clear hbel
      go_wp2
      go_ret
      exact ⟨_, rfl, by rw [HE.out]; rfl, HBEL.out⟩
set_option maxRecDepth 100000 in
set_option maxHeartbeats 2000000 in
theorem contains_any (v : Value) (l : List Hn) (L : Nat) (b C : Int) (w : World) (h : HsAt w v l) (l0 : w.cell? ⟨L, 0, none⟩ = some (.int .i64 b)) (l1 : w.cell? ⟨L, 1, none⟩ = some (.int .i64 C)) :
    Calls Tryz.prog 58 #[v, .func (.func 59) #[] #[.pointer (some ⟨L, 0, none⟩)]] w fun e w' => e = .returned (.bool ((List.range l.length).any (fun i => hOth b C (hAt l i)))) ∧ Below w.heap.size w w' := by
  have HI := hide (index_any v l L b C w h l0 l1)
  obtain ⟨ao, c, rfl, _⟩ := h
  clear l0 l1
  generalize (List.range l.length).any (fun i => hOth b C (hAt l i)) = A at HI ⊢
  go_enter Tryz.func58, Tryz.ntmps58
  go_wp2_with fail
  refine HI.out.mono ?_
  rintro e w2 ⟨z, rfl, hz, hb⟩
  go_wp2
  go_ret
  exact ⟨by rw [← hz]; rfl, hb⟩
end Go.Proofs.YtgjdjdgondpjeaaGreat
