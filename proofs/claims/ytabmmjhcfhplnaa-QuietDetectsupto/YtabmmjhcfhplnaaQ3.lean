/- Step; what the law's own helpers make. -/
import Derived.Test.YtabmmjhcfhplnaaQ2
namespace Go.Proofs.Ytabmmjhcfhplnaa
open Go.RowKit Go.Lib Go.MuLone
set_option linter.unusedVariables false
def QOp.cell (o : QOp) (n : Nat) : Nat := if o.ph = 1 ∨ o.ph = 2 then n else if o.ph = 3 ∨ o.ph = 4 then n + 2 else n + 1
def QOp.acc (o : QOp) (who : Int) (n : Nat) (x : Int) : Acc :=
  match o.ph with
  | 1 => ⟨who, 4, n, 0, 1, x, IntKind.u64.wrap (x + 1), true⟩
  | 2 => ⟨who, 4, n, 0, 18446744073709551615, x, IntKind.u64.wrap (x + 18446744073709551615), true⟩
  | 3 => ⟨who, 1, ((n + 2 : Nat) : Int), 0, 0, x, x, true⟩
  | 4 => ⟨who, 3, ((n + 2 : Nat) : Int), 0, o.code, x, if x = 0 then o.code else x, decide (x = 0)⟩
  | 5 => ⟨who, 2, ((n + 1 : Nat) : Int), 0, 1, x, 1, true⟩
  | _ => ⟨who, 1, ((n + 1 : Nat) : Int), 0, 0, x, x, true⟩
def QOp.next (o : QOp) (x : Int) : QOp :=
  match o.ph with
  | 1 => ⟨o.base, o.code, 0, 1⟩
  | 2 => if x = 1 then ⟨o.base, o.code, 5, o.st⟩ else ⟨o.base, o.code, 0, 1⟩
  | 3 => if x = 0 then ⟨o.base, o.code, 6, o.st⟩ else ⟨o.base, o.code, 0, 6⟩
  | 4 => ⟨o.base, o.code, 0, 1⟩
  | 5 => ⟨o.base, o.code, 0, 1⟩
  | _ => ⟨o.base, o.code, 0, if x = 0 then 7 else 1⟩
section
variable {w : World} {Y b gc p : Nat} {lv : Value} {s : Ast} {who : Int} {q n : Nat} {code st base : Int}
set_option maxRecDepth 100000 in
theorem step_over (pv : Value) (h : w.heap[q]? = some (QObjV base code .nilFunc st)) : Calls Try.prog 11 #[.pointer (some ⟨q, 0, none⟩), pv] w fun e w' => e = .returned (.tuple #[]) ∧ w' = w := by
  have HO := hide (over_none w q base code st h)
  clear h
  go_enter Try.func11, Try.ntmps11
  go_wp2_with (go_at_call 12; refine HO.out.mono ?_; rintro e w1 ⟨rfl, rfl⟩)
  first | go_end0 | refine bodyPost_ret (results_none rfl _ _ _) rfl ?_
  exact ⟨rfl, rfl⟩
set_option maxRecDepth 100000 in
theorem step_1 (pv : Value) (R : Ending → World → Prop) (h : w.heap[q]? = some (QObjV base code (nx 1) st)) (hc : Calls Try.prog 66 #[.pointer (some ⟨q, 0, none⟩), pv] w fun e w' => e = .returned (.tuple #[]) ∧ R e w') : Calls Try.prog 11 #[.pointer (some ⟨q, 0, none⟩), pv] w fun e w' => e = .returned (.tuple #[]) ∧ R e w' := by
  have HO := hide (over_some w q base code st 66 _ _ h)
  have c2 : w.cell? ⟨q, 2, none⟩ = some (.func (.func 66) #[] #[]) := cell_of h (i := 2) rfl
  have HC := hide hc
  clear h hc
  go_enter Try.func11, Try.ntmps11
  go_wp2_with (first
    | (go_at_call 12; refine HO.out.mono ?_; rintro e w1 ⟨rfl, rfl⟩)
    | (go_at_call 66; refine HC.out.mono ?_; rintro e w1 ⟨rfl, hr⟩; have HR := hide hr; clear hr))
  first | go_end0 | refine bodyPost_ret (results_none rfl _ _ _) rfl ?_
  exact ⟨rfl, HR.out⟩
set_option maxRecDepth 100000 in
theorem step_2 (pv : Value) (R : Ending → World → Prop) (h : w.heap[q]? = some (QObjV base code (nx 2) st)) (hc : Calls Try.prog 70 #[.pointer (some ⟨q, 0, none⟩), pv] w fun e w' => e = .returned (.tuple #[]) ∧ R e w') : Calls Try.prog 11 #[.pointer (some ⟨q, 0, none⟩), pv] w fun e w' => e = .returned (.tuple #[]) ∧ R e w' := by
  have HO := hide (over_some w q base code st 70 _ _ h)
  have c2 : w.cell? ⟨q, 2, none⟩ = some (.func (.func 70) #[] #[]) := cell_of h (i := 2) rfl
  have HC := hide hc
  clear h hc
  go_enter Try.func11, Try.ntmps11
  go_wp2_with (first
    | (go_at_call 12; refine HO.out.mono ?_; rintro e w1 ⟨rfl, rfl⟩)
    | (go_at_call 70; refine HC.out.mono ?_; rintro e w1 ⟨rfl, hr⟩; have HR := hide hr; clear hr))
  first | go_end0 | refine bodyPost_ret (results_none rfl _ _ _) rfl ?_
  exact ⟨rfl, HR.out⟩
set_option maxRecDepth 100000 in
theorem step_3 (pv : Value) (R : Ending → World → Prop) (h : w.heap[q]? = some (QObjV base code (nx 3) st)) (hc : Calls Try.prog 72 #[.pointer (some ⟨q, 0, none⟩), pv] w fun e w' => e = .returned (.tuple #[]) ∧ R e w') : Calls Try.prog 11 #[.pointer (some ⟨q, 0, none⟩), pv] w fun e w' => e = .returned (.tuple #[]) ∧ R e w' := by
  have HO := hide (over_some w q base code st 72 _ _ h)
  have c2 : w.cell? ⟨q, 2, none⟩ = some (.func (.func 72) #[] #[]) := cell_of h (i := 2) rfl
  have HC := hide hc
  clear h hc
  go_enter Try.func11, Try.ntmps11
  go_wp2_with (first
    | (go_at_call 12; refine HO.out.mono ?_; rintro e w1 ⟨rfl, rfl⟩)
    | (go_at_call 72; refine HC.out.mono ?_; rintro e w1 ⟨rfl, hr⟩; have HR := hide hr; clear hr))
  first | go_end0 | refine bodyPost_ret (results_none rfl _ _ _) rfl ?_
  exact ⟨rfl, HR.out⟩
set_option maxRecDepth 100000 in
theorem step_4 (pv : Value) (R : Ending → World → Prop) (h : w.heap[q]? = some (QObjV base code (nx 4) st)) (hc : Calls Try.prog 76 #[.pointer (some ⟨q, 0, none⟩), pv] w fun e w' => e = .returned (.tuple #[]) ∧ R e w') : Calls Try.prog 11 #[.pointer (some ⟨q, 0, none⟩), pv] w fun e w' => e = .returned (.tuple #[]) ∧ R e w' := by
  have HO := hide (over_some w q base code st 76 _ _ h)
  have c2 : w.cell? ⟨q, 2, none⟩ = some (.func (.func 76) #[] #[]) := cell_of h (i := 2) rfl
  have HC := hide hc
  clear h hc
  go_enter Try.func11, Try.ntmps11
  go_wp2_with (first
    | (go_at_call 12; refine HO.out.mono ?_; rintro e w1 ⟨rfl, rfl⟩)
    | (go_at_call 76; refine HC.out.mono ?_; rintro e w1 ⟨rfl, hr⟩; have HR := hide hr; clear hr))
  first | go_end0 | refine bodyPost_ret (results_none rfl _ _ _) rfl ?_
  exact ⟨rfl, HR.out⟩
set_option maxRecDepth 100000 in
theorem step_5 (pv : Value) (R : Ending → World → Prop) (h : w.heap[q]? = some (QObjV base code (nx 5) st)) (hc : Calls Try.prog 71 #[.pointer (some ⟨q, 0, none⟩), pv] w fun e w' => e = .returned (.tuple #[]) ∧ R e w') : Calls Try.prog 11 #[.pointer (some ⟨q, 0, none⟩), pv] w fun e w' => e = .returned (.tuple #[]) ∧ R e w' := by
  have HO := hide (over_some w q base code st 71 _ _ h)
  have c2 : w.cell? ⟨q, 2, none⟩ = some (.func (.func 71) #[] #[]) := cell_of h (i := 2) rfl
  have HC := hide hc
  clear h hc
  go_enter Try.func11, Try.ntmps11
  go_wp2_with (first
    | (go_at_call 12; refine HO.out.mono ?_; rintro e w1 ⟨rfl, rfl⟩)
    | (go_at_call 71; refine HC.out.mono ?_; rintro e w1 ⟨rfl, hr⟩; have HR := hide hr; clear hr))
  first | go_end0 | refine bodyPost_ret (results_none rfl _ _ _) rfl ?_
  exact ⟨rfl, HR.out⟩
set_option maxRecDepth 100000 in
theorem step_6 (pv : Value) (R : Ending → World → Prop) (h : w.heap[q]? = some (QObjV base code (nx 6) st)) (hc : Calls Try.prog 75 #[.pointer (some ⟨q, 0, none⟩), pv] w fun e w' => e = .returned (.tuple #[]) ∧ R e w') : Calls Try.prog 11 #[.pointer (some ⟨q, 0, none⟩), pv] w fun e w' => e = .returned (.tuple #[]) ∧ R e w' := by
  have HO := hide (over_some w q base code st 75 _ _ h)
  have c2 : w.cell? ⟨q, 2, none⟩ = some (.func (.func 75) #[] #[]) := cell_of h (i := 2) rfl
  have HC := hide hc
  clear h hc
  go_enter Try.func11, Try.ntmps11
  go_wp2_with (first
    | (go_at_call 12; refine HO.out.mono ?_; rintro e w1 ⟨rfl, rfl⟩)
    | (go_at_call 75; refine HC.out.mono ?_; rintro e w1 ⟨rfl, hr⟩; have HR := hide hr; clear hr))
  first | go_end0 | refine bodyPost_ret (results_none rfl _ _ _) rfl ?_
  exact ⟨rfl, HR.out⟩
theorem step_any (o : QOp) (ho : o.base = n) (hp : 1 ≤ o.ph) (hp6 : o.ph ≤ 6) (h : Rdy w Y b gc p lv s who q n o.obj) :
    Calls Try.prog 11 #[.pointer (some ⟨q, 0, none⟩), .pointer (some ⟨p, 0, none⟩)] w fun e w' => e = .returned (.tuple #[]) ∧ StP w w' Y b gc q s (o.cell n) (o.acc who n (nth s.cells (o.cell n))) (o.next (nth s.cells (o.cell n))).obj := by
  obtain ⟨bs, c, ph, st⟩ := o
  simp only at ho hp hp6
  subst ho
  match ph, hp, hp6, h with
  | 1, _, _, h => exact step_1 _ (fun _ w' => StP w w' Y b gc q s n _ _) h.op (ph1_any h)
  | 2, _, _, h =>
    refine step_2 _ (fun _ w' => StP w w' Y b gc q s n _ _) h.op ((ph2_any h).mono fun e w' hh => ⟨hh.1, ?_⟩)
    have := hh.2
    show StP w w' Y b gc q s n _ (QOp.next ⟨n, c, 2, st⟩ (nth s.cells n)).obj
    unfold QOp.next
    simp only
    split
    · rename_i e; rw [if_pos e] at this; exact this
    · rename_i e; rw [if_neg e] at this; exact this
  | 3, _, _, h =>
    refine step_3 _ (fun _ w' => StP w w' Y b gc q s (n + 2) _ _) h.op ((ph3_any h).mono fun e w' hh => ⟨hh.1, ?_⟩)
    have := hh.2
    show StP w w' Y b gc q s (n + 2) _ (QOp.next ⟨n, c, 3, st⟩ (nth s.cells (n + 2))).obj
    unfold QOp.next
    simp only
    split
    · rename_i e; rw [if_pos e] at this; exact this
    · rename_i e; rw [if_neg e] at this; exact this
  | 4, _, _, h => exact step_4 _ (fun _ w' => StP w w' Y b gc q s (n + 2) _ _) h.op (ph4_any h)
  | 5, _, _, h => exact step_5 _ (fun _ w' => StP w w' Y b gc q s (n + 1) _ _) h.op (ph5_any h)
  | 6, _, _, h => exact step_6 _ (fun _ w' => StP w w' Y b gc q s (n + 1) _ _) h.op (ph6_any h)
end
end Go.Proofs.Ytabmmjhcfhplnaa
