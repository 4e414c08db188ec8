/- slices.Equal of spans. -/
import Derived.Test.YtfoeljcgbfpknaaH1
import Derived.Test.YtfoeljcgbfpknaaEq
import Derived.BigQuiet
namespace Go.Proofs.Ytfoeljcgbfpknaa
open Go.RowKit Go.Lib
set_option linter.unusedVariables false
set_option linter.unusedSimpArgs false
def eqS (a b : Sp) : Bool := a.who == b.who && (a.ins == b.ins && ((a.key == b.key && (a.load == b.load && true)) && (a.beg == b.beg && (a.en == b.en && (a.kind == b.kind && true)))))
theorem eqS_iff (a b : Sp) : eqS a b = true ↔ a = b := by
  obtain ⟨a0, a1, a2, a3, a4, a5, a6⟩ := a
  obtain ⟨b0, b1, b2, b3, b4, b5, b6⟩ := b
  simp [eqS, and_assoc]
theorem neq_spanG (a0 : Int) (a1 : Bool) (a2 a3 a4 a5 a6 : Int) (b0 : Int) (b1 : Bool) (b2 b3 b4 b5 b6 : Int) (w : World) :
    (binOp .neq 69 (.agg #[.int .i64 a0, .bool a1, .int .u64 a2, .int .u64 a3, .int .i64 a4, .int .i64 a5, .int .i64 a6]) (.agg #[.int .i64 b0, .bool b1, .int .u64 b2, .int .u64 b3, .int .i64 b4, .int .i64 b5, .int .i64 b6])).run Try.prog w = .ok (.bool (!eqS ⟨a0, a1, a2, a3, a4, a5, a6⟩ ⟨b0, b1, b2, b3, b4, b5, b6⟩)) w := by
  have h : (Op.equalIn 10000 69 (.agg #[.int .i64 a0, .bool a1, .int .u64 a2, .int .u64 a3, .int .i64 a4, .int .i64 a5, .int .i64 a6]) (.agg #[.int .i64 b0, .bool b1, .int .u64 b2, .int .u64 b3, .int .i64 b4, .int .i64 b5, .int .i64 b6])).run Try.prog w
      = .ok (a0 == b0 && (a1 == b1 && ((a2 == b2 && (a3 == b3 && true)) && (a4 == b4 && (a5 == b5 && (a6 == b6 && true)))))) w := by
    rw [show (10000 : Nat) = 9998 + 1 + 1 from rfl, run_equalIn_struct w (9998 + 1) 69 _ _ Try.fields69 Try.held69, Try.list69]
    refine field_int (by decide) Try.underlying3 (part3 _ _ _ _ rfl) (part3 _ _ _ _ rfl) ?_
    refine field_bool (by decide) Try.underlying4 (part4 _ _ _ _ rfl) (part4 _ _ _ _ rfl) ?_
    refine field_any (by decide) (part34 _ _ _ _ _ rfl) (part34 _ _ _ _ _ rfl) (equal_task 9997 _ _ _ _ _) ?_
    refine field_int (by decide) Try.underlying3 (part3 _ _ _ _ rfl) (part3 _ _ _ _ rfl) ?_
    refine field_int (by decide) Try.underlying3 (part3 _ _ _ _ rfl) (part3 _ _ _ _ rfl) ?_
    refine field_int (by decide) Try.underlying3 (part3 _ _ _ _ rfl) (part3 _ _ _ _ rfl) ?_
    simp [Op.eqFields]
  rw [run_neq_struct, h, Result.andThen_ok]
  rfl
/-- What Equal answers. -/
def EqP (l m : List Sp) (w : World) (x : Ending) (w' : World) : Prop := Below w.heap.size w w' ∧ ∃ b : Bool, x = .returned (.bool b) ∧ (b = true ↔ l = m)
theorem EqP.made {l m : List Sp} {w w' : World} {x : Ending} {b : Bool} (h1 : Below w.heap.size w w') (h2 : x = .returned (.bool b)) (h3 : b = true ↔ l = m) : EqP l m w x w' := ⟨h1, b, h2, h3⟩
theorem sp_ext {l m : List Sp} (hl : l.length = m.length) (h : ∀ j, j < l.length → spAt l j = spAt m j) : l = m := by
  apply List.ext_getElem?
  intro i
  by_cases hi : i < l.length
  · rw [spAt_get hi, spAt_get (by omega), h i hi]
  · rw [List.getElem?_eq_none (by omega), List.getElem?_eq_none (by omega)]
set_option maxRecDepth 100000 in
set_option maxHeartbeats 4000000 in
theorem equal_any (v1 v2 : Value) (l m : List Sp) (w : World) (h1 : RAt Sp.arr 7 w v1 l) (h2 : RAt Sp.arr 7 w v2 m) : Calls Try.prog 56 #[v1, v2] w (EqP l m w) := by
  obtain ⟨ao, cap, rfl, hcap, h63⟩ := h1.shape
  obtain ⟨bo, cap2, rfl, hcap2, h632⟩ := h2.shape
  have H1 := hide h1; have H2 := hide h2
  obtain ⟨n, hn⟩ : ∃ n, n = l.length := ⟨_, rfl⟩
  obtain ⟨p, hp⟩ : ∃ p, p = m.length := ⟨_, rfl⟩
  have HN := hide hn; have HP := hide hp
  rw [← hn] at hcap H1 ⊢
  rw [← hp] at hcap2 H2 ⊢
  clear h1 h2 hn hp
  by_cases hnp : n = p
  · subst hnp
    have HLL : Hid (l.length = m.length) := by show l.length = m.length; rw [← HN.out, ← HP.out]
    have hnn : ((n : Int) != (n : Int)) = false := by simp
    go_enter Try.func56, Try.ntmps56
    go_wp2_with fail
    clear hnn
    go_loopw [4, 5, 13] (fun va _ t wr => ∃ i : Nat, i ≤ n ∧ va = .bool false ∧ t = .int .i64 (i : Int) ∧ Below w.heap.size w wr ∧ ∀ j, j < i → spAt l j = spAt m j) (fun _ _ t _ => n - (RowKit.intOf t).toNat)
    case atStart => exact ⟨0, Nat.zero_le _, rfl, rfl, Below.refl _ _, fun j hj => by omega⟩
    case round =>
      obtain ⟨i, hin, rfl, rfl, hb, hall⟩ := hrel
      have HB := hide hb; have HAL := hide hall
      clear hb hall
      by_cases hlt : i < n
      · have hli : (i : Int) < (n : Int) := by omega
        obtain ⟨gs, os, rfl, _, i0, i1, i2, i3, i4, i5, i6⟩ := sp_cells (H1.out.below HB.out) i (by rw [← HN.out]; exact hlt)
        obtain ⟨gk, ok, rfl, _, k0, k1, k2, k3, k4, k5, k6⟩ := sp_cells (H2.out.below HB.out) i (by rw [← HP.out]; exact hlt)
        have HEQ : Hid (eqS (spAt l i) (spAt m i) = true ↔ spAt l i = spAt m i) := eqS_iff _ _
        have HYS : Hid (spAt l i = spAt m i → ∀ j, j < i + 1 → spAt l j = spAt m j) := fun e j hj => by
          by_cases q : j = i
          · subst q; exact e
          · exact HAL.out j (by omega)
        have HNO : Hid (¬ spAt l i = spAt m i → (false = true ↔ l = m)) := fun e => ⟨fun a => (by cases a), fun a => (e (by rw [a])).elim⟩
        generalize spAt l i = a at i0 i1 i2 i3 i4 i5 i6 HEQ HYS HNO
        generalize spAt m i = b at k0 k1 k2 k3 k4 k5 k6 HEQ HYS HNO
        obtain ⟨a0, a1, a2, a3, a4, a5, a6⟩ := a
        obtain ⟨b0, b1, b2, b3, b4, b5, b6⟩ := b
        simp only at i0 i1 i2 i3 i4 i5 i6 k0 k1 k2 k3 k4 k5 k6
        have hne := fun W => neq_spanG a0 a1 a2 a3 a4 a5 a6 b0 b1 b2 b3 b4 b5 b6 W
        cases hq : eqS ⟨a0, a1, a2, a3, a4, a5, a6⟩ ⟨b0, b1, b2, b3, b4, b5, b6⟩ with
        | true =>
          rw [hq] at hne HEQ
          have HR := hide (HYS.out (HEQ.out.1 rfl))
          simp only [Bool.not_true] at hne
          clear HEQ HYS HNO hq
          go_wp2_with fail
          go_quiet (fail)
          go_wp2_with fail
          exact ⟨⟨i + 1, by omega, rfl, by simp, below_on HB.out (below_drewN _ _), HR.out⟩, mdecH hlt⟩
        | false =>
          rw [hq] at hne HEQ
          have HR := hide (HNO.out (fun e => by have := HEQ.out.2 e; cases this))
          simp only [Bool.not_false] at hne
          clear HEQ HYS HNO hq
          go_wp2_with fail
          go_quiet (fail)
          go_wp2_with fail
          go_ret
          exact EqP.made (below_on HB.out (below_drewN _ _)) rfl HR.out
      · obtain rfl : i = n := by omega
        have hli : ¬ (i : Int) < (i : Int) := by omega
        have HR : Hid (l = m) := sp_ext HLL.out (fun j hj => HAL.out j (by rw [HN.out]; exact hj))
        go_wp2_with fail
        go_ret
        exact EqP.made (b := true) HB.out rfl ⟨fun _ => HR.out, fun _ => rfl⟩
  · have hnn : ((n : Int) != (p : Int)) = true := by simp; omega
    have HR : Hid (false = true ↔ l = m) := ⟨fun a => (by cases a), fun a => (hnp (by rw [HN.out, HP.out, a])).elim⟩
    clear hnp
    go_enter Try.func56, Try.ntmps56
    go_wp2_with fail
    go_ret
    exact EqP.made (Below.refl _ _) rfl HR.out
end Go.Proofs.Ytfoeljcgbfpknaa
