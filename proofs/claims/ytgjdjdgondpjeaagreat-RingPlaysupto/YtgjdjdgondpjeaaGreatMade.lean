/- The five accesses, where they are made. -/
import Derived.Test.YtgjdjdgondpjeaaGreatAccess
namespace Go.Proofs.YtgjdjdgondpjeaaGreat
open Go.RowKit Go.Lib Go.MuLone

/-- An access may be made. -/
structure Ready (w : World) (Y b gc p : Nat) (lv : Value) (s : Ast) (who : Int) (i : Nat) : Prop where
  ar : AIs w Y b gc lv s
  po : w.heap[p]? = some (PObj b who true)
  pb : p ≠ b
  pg : p ≠ gc
  pl : lv.ownBlock ≠ some p
  go : s.stopped = false
  at_ : i < s.cells.length
  c0 : 0 ≤ s.count
  c1 : s.count < 9223372036854775807
  big : (s.log.length + 1) * 64 ≤ 140737488355328
/-- What it leaves. -/
def AccPost (w w' : World) (Y b gc p : Nat) (lv : Value) (s : Ast) (who : Int) (i : Nat) (m : Acc) : Prop :=
  ∃ lv', AIs w' Y b gc lv' (s.made i m) ∧ (lv'.ownBlock = lv.ownBlock ∨ ∃ g, lv'.ownBlock = some g ∧ w.heap.size ≤ g) ∧ w'.heap[p]? = some (PObj b who false) ∧ Chg (accSet b gc p lv) w w'

theorem access_ready {w : World} {Y b gc p : Nat} {lv : Value} {s : Ast} {who : Int} {i : Nat} (R : Ready w Y b gc p lv s who i) (k want put : Int) (m : Acc) (hm : m = carry ⟨who, k, i, want, put, 0, 0, false⟩ (nth s.cells i)) (hmc : m.cell = i) :
    Calls Tryz.prog 100 #[.pointer (some ⟨p, 0, none⟩), .agg #[.int .i64 0, .int .i64 k, .int .i64 i, .int .u64 want, .int .u64 put, .int .u64 0, .int .u64 0, .bool false]] w fun r w' =>
      r = .returned (.agg #[.int .i64 m.who, .int .i64 m.kind, .int .i64 m.cell, .int .u64 m.want, .int .u64 m.put, .int .u64 m.seen, .int .u64 m.left, .bool m.ok]) ∧ AccPost w w' Y b gc p lv s who i m :=
  access_made p Y b gc lv s who k want put i w R.ar R.po R.pb R.pg R.pl R.go R.at_ m hm hmc R.c0 R.c1 R.big

theorem field5 (a b c d e f g : Int) (o : Bool) (w : World) : (Instr.field 55 (.agg #[.int .i64 a, .int .i64 b, .int .i64 c, .int .u64 d, .int .u64 e, .int .u64 f, .int .u64 g, .bool o]) 5).run Tryz.prog w = .ok (.int .u64 f) w := by kernel_rfl
theorem field7 (a b c d e f g : Int) (o : Bool) (w : World) : (Instr.field 55 (.agg #[.int .i64 a, .int .i64 b, .int .i64 c, .int .u64 d, .int .u64 e, .int .u64 f, .int .u64 g, .bool o]) 7).run Tryz.prog w = .ok (.bool o) w := by kernel_rfl

variable {w : World} {Y b gc p : Nat} {lv : Value} {s : Ast} {who : Int} {i : Nat}

set_option maxRecDepth 100000 in
theorem load_made (R : Ready w Y b gc p lv s who i) :
    Calls Tryz.prog 77 #[.pointer (some ⟨p, 0, none⟩), .int .i64 i] w fun r w' => r = .returned (.int .u64 (nth s.cells i)) ∧ AccPost w w' Y b gc p lv s who i ⟨who, 1, i, 0, 0, nth s.cells i, nth s.cells i, true⟩ := by
  have HC := hide (access_ready R 1 0 0 ⟨who, 1, i, 0, 0, nth s.cells i, nth s.cells i, true⟩ rfl rfl)
  clear R
  have hf5 := field5
  go_enter Tryz.func77, Tryz.ntmps77
  go_wp2_with fail
  refine HC.out.mono ?_
  rintro e w' ⟨rfl, hp⟩
  have H := hide hp
  clear hp
  go_wp2_with fail
  go_ret
  exact ⟨rfl, H.out⟩
set_option maxRecDepth 100000 in
theorem store_made (x : Int) (R : Ready w Y b gc p lv s who i) :
    Calls Tryz.prog 81 #[.pointer (some ⟨p, 0, none⟩), .int .i64 i, .int .u64 x] w fun r w' => r = .returned (.tuple #[]) ∧ AccPost w w' Y b gc p lv s who i ⟨who, 2, i, 0, x, nth s.cells i, x, true⟩ := by
  have HC := hide (access_ready R 2 0 x ⟨who, 2, i, 0, x, nth s.cells i, x, true⟩ rfl rfl)
  clear R
  go_enter Tryz.func81, Tryz.ntmps81
  go_wp2_with fail
  refine HC.out.mono ?_
  rintro e w' ⟨rfl, hp⟩
  have H := hide hp
  clear hp
  go_wp2_with fail
  first | go_end0 | refine bodyPost_ret (results_none rfl _ _ _) rfl ?_
  exact ⟨rfl, H.out⟩
set_option maxRecDepth 100000 in
theorem cas_gen (x y L : Int) (O : Bool) (R : Ready w Y b gc p lv s who i) (hm : (⟨who, 3, i, x, y, nth s.cells i, L, O⟩ : Acc) = carry ⟨who, 3, i, x, y, 0, 0, false⟩ (nth s.cells i)) :
    Calls Tryz.prog 80 #[.pointer (some ⟨p, 0, none⟩), .int .i64 i, .int .u64 x, .int .u64 y] w fun r w' => r = .returned (.bool O) ∧ AccPost w w' Y b gc p lv s who i ⟨who, 3, i, x, y, nth s.cells i, L, O⟩ := by
  have HC := hide (access_ready R 3 x y ⟨who, 3, i, x, y, nth s.cells i, L, O⟩ hm rfl)
  clear R hm
  have hf7 := field7
  go_enter Tryz.func80, Tryz.ntmps80
  go_wp2_with fail
  refine HC.out.mono ?_
  rintro e w' ⟨rfl, hp⟩
  have H := hide hp
  clear hp
  go_wp2_with fail
  go_ret
  exact ⟨rfl, H.out⟩
theorem cas_made (x y : Int) (R : Ready w Y b gc p lv s who i) :
    Calls Tryz.prog 80 #[.pointer (some ⟨p, 0, none⟩), .int .i64 i, .int .u64 x, .int .u64 y] w fun r w' => r = .returned (.bool (decide (nth s.cells i = x))) ∧
      AccPost w w' Y b gc p lv s who i ⟨who, 3, i, x, y, nth s.cells i, if nth s.cells i = x then y else nth s.cells i, decide (nth s.cells i = x)⟩ :=
  cas_gen x y _ _ R (by simp [carry])
end Go.Proofs.YtgjdjdgondpjeaaGreat
