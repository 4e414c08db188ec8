/- carryOut. -/
import Derived.Test.YtgjdjdgondpjeaaGreatClone
namespace Go.Proofs.YtgjdjdgondpjeaaGreat
open Go.RowKit Go.Lib Go.MuLone

/-- What an access asks for. -/
def carry (a : Acc) (seen : Int) : Acc :=
  if a.kind = 1 then ⟨a.who, a.kind, a.cell, 0, 0, seen, seen, true⟩
  else if a.kind = 2 ∨ a.kind = 5 then ⟨a.who, a.kind, a.cell, 0, a.put, seen, a.put, true⟩
  else if a.kind = 3 then ⟨a.who, a.kind, a.cell, a.want, a.put, seen, if seen = a.want then a.put else seen, decide (seen = a.want)⟩
  else if a.kind = 4 then ⟨a.who, a.kind, a.cell, 0, a.put, seen, IntKind.u64.wrap (seen + a.put), true⟩
  else Acc.zero
def known (k : Int) : Bool := decide (1 ≤ k ∧ k ≤ 5)

theorem below3 (w : World) (a b c : Obj) : Below w.heap.size w (((w.alloc a).alloc b).alloc c) :=
  (((Below.refl _ _).alloc (Nat.le_refl _) _).alloc (by simp) _).alloc (by simp; omega) _
theorem below3d (w : World) (a b c : Obj) : Below w.heap.size w (((w.alloc a).alloc b).alloc c).drew := (below3 w a b c).drew
theorem below2 (w : World) (a b : Obj) : Below w.heap.size w ((w.alloc a).alloc b) :=
  ((Below.refl _ _).alloc (Nat.le_refl _) _).alloc (by simp) _

set_option maxRecDepth 100000 in
theorem carry1 (who cell want put sn left seen : Int) (ok : Bool) (w : World) :
    Calls Tryz.prog 116 #[.agg #[.int .i64 who, .int .i64 1, .int .i64 cell, .int .u64 want, .int .u64 put, .int .u64 sn, .int .u64 left, .bool ok], .int .u64 seen] w fun r w' =>
      r = .returned (.tuple #[Acc.val ⟨who, 1, cell, 0, 0, seen, seen, true⟩, .bool true]) ∧ Below w.heap.size w w' := by
  go_enter Tryz.func116, Tryz.ntmps116
  go_wp2
  refine bodyPost_ret (v := .tuple #[Acc.val ⟨who, 1, cell, 0, 0, seen, seen, true⟩, .bool true]) (by simp [results, Tryz.results116, go_sem, Acc.val, Acc.arr]) rfl ⟨rfl, ?_⟩
  exact below3 _ _ _ _
set_option maxRecDepth 100000 in
theorem carry2 (who cell want put sn left seen : Int) (ok : Bool) (w : World) :
    Calls Tryz.prog 116 #[.agg #[.int .i64 who, .int .i64 2, .int .i64 cell, .int .u64 want, .int .u64 put, .int .u64 sn, .int .u64 left, .bool ok], .int .u64 seen] w fun r w' =>
      r = .returned (.tuple #[Acc.val ⟨who, 2, cell, 0, put, seen, put, true⟩, .bool true]) ∧ Below w.heap.size w w' := by
  go_enter Tryz.func116, Tryz.ntmps116
  go_wp2
  refine bodyPost_ret (v := .tuple #[Acc.val ⟨who, 2, cell, 0, put, seen, put, true⟩, .bool true]) (by simp [results, Tryz.results116, go_sem, Acc.val, Acc.arr]) rfl ⟨rfl, ?_⟩
  exact below3 _ _ _ _
set_option maxRecDepth 100000 in
theorem carry5 (who cell want put sn left seen : Int) (ok : Bool) (w : World) :
    Calls Tryz.prog 116 #[.agg #[.int .i64 who, .int .i64 5, .int .i64 cell, .int .u64 want, .int .u64 put, .int .u64 sn, .int .u64 left, .bool ok], .int .u64 seen] w fun r w' =>
      r = .returned (.tuple #[Acc.val ⟨who, 5, cell, 0, put, seen, put, true⟩, .bool true]) ∧ Below w.heap.size w w' := by
  go_enter Tryz.func116, Tryz.ntmps116
  go_wp2
  refine bodyPost_ret (v := .tuple #[Acc.val ⟨who, 5, cell, 0, put, seen, put, true⟩, .bool true]) (by simp [results, Tryz.results116, go_sem, Acc.val, Acc.arr]) rfl ⟨rfl, ?_⟩
  exact below3 _ _ _ _
set_option maxRecDepth 100000 in
theorem carry4 (who cell want put sn left seen : Int) (ok : Bool) (w : World) :
    Calls Tryz.prog 116 #[.agg #[.int .i64 who, .int .i64 4, .int .i64 cell, .int .u64 want, .int .u64 put, .int .u64 sn, .int .u64 left, .bool ok], .int .u64 seen] w fun r w' =>
      r = .returned (.tuple #[Acc.val ⟨who, 4, cell, 0, put, seen, IntKind.u64.wrap (seen + put), true⟩, .bool true]) ∧ Below w.heap.size w w' := by
  go_enter Tryz.func116, Tryz.ntmps116
  go_wp2
  refine bodyPost_ret (v := .tuple #[Acc.val ⟨who, 4, cell, 0, put, seen, IntKind.u64.wrap (seen + put), true⟩, .bool true]) (by simp [results, Tryz.results116, go_sem, Acc.val, Acc.arr]) rfl ⟨rfl, ?_⟩
  exact below3 _ _ _ _
set_option maxRecDepth 100000 in
theorem carry3y (who cell want put sn left seen : Int) (ok : Bool) (w : World) (hs : seen = want) :
    Calls Tryz.prog 116 #[.agg #[.int .i64 who, .int .i64 3, .int .i64 cell, .int .u64 want, .int .u64 put, .int .u64 sn, .int .u64 left, .bool ok], .int .u64 seen] w fun r w' =>
      r = .returned (.tuple #[Acc.val ⟨who, 3, cell, want, put, seen, put, true⟩, .bool true]) ∧ Below w.heap.size w w' := by
  subst hs
  go_enter Tryz.func116, Tryz.ntmps116
  go_wp2
  go_region
  all_goals
    go_wp2
    refine bodyPost_ret (v := .tuple #[Acc.val ⟨who, 3, cell, seen, put, seen, put, true⟩, .bool true]) (by simp [results, Tryz.results116, go_sem, Acc.val, Acc.arr]) rfl ⟨rfl, ?_⟩
    exact below3d _ _ _ _
set_option maxRecDepth 100000 in
theorem carry3n (who cell want put sn left seen : Int) (ok : Bool) (w : World) (hs : ¬ seen = want) :
    Calls Tryz.prog 116 #[.agg #[.int .i64 who, .int .i64 3, .int .i64 cell, .int .u64 want, .int .u64 put, .int .u64 sn, .int .u64 left, .bool ok], .int .u64 seen] w fun r w' =>
      r = .returned (.tuple #[Acc.val ⟨who, 3, cell, want, put, seen, seen, false⟩, .bool true]) ∧ Below w.heap.size w w' := by
  have hb : (seen == want) = false := by simp [hs]
  go_enter Tryz.func116, Tryz.ntmps116
  go_wp2
  go_region
  all_goals
    go_wp2
    refine bodyPost_ret (v := .tuple #[Acc.val ⟨who, 3, cell, want, put, seen, seen, false⟩, .bool true]) (by simp [results, Tryz.results116, go_sem, Acc.val, Acc.arr]) rfl ⟨rfl, ?_⟩
    exact below3d _ _ _ _
set_option maxRecDepth 100000 in
theorem carry0 (who cell want put sn left seen : Int) (ok : Bool) (w : World) (kind : Int) (h1 : ¬ kind = 1) (h2 : ¬ kind = 2) (h3 : ¬ kind = 3) (h4 : ¬ kind = 4) (h5 : ¬ kind = 5) :
    Calls Tryz.prog 116 #[.agg #[.int .i64 who, .int .i64 kind, .int .i64 cell, .int .u64 want, .int .u64 put, .int .u64 sn, .int .u64 left, .bool ok], .int .u64 seen] w fun r w' =>
      r = .returned (.tuple #[Acc.val Acc.zero, .bool false]) ∧ Below w.heap.size w w' := by
  go_enter Tryz.func116, Tryz.ntmps116
  go_wp2
  refine bodyPost_ret (v := .tuple #[Acc.val Acc.zero, .bool false]) (by simp [results, Tryz.results116, go_sem, Acc.val, Acc.arr, Acc.zero]) rfl ⟨rfl, ?_⟩
  exact below3 _ _ _ _

theorem carry_any (a : Acc) (seen : Int) (w : World) :
    Calls Tryz.prog 116 #[a.val, .int .u64 seen] w fun r w' => r = .returned (.tuple #[(carry a seen).val, .bool (known a.kind)]) ∧ Below w.heap.size w w' := by
  obtain ⟨who, kind, cell, want, put, sn, left, ok⟩ := a
  by_cases h1 : kind = 1
  · subst h1; exact carry1 who cell want put sn left seen ok w
  by_cases h2 : kind = 2
  · subst h2; exact carry2 who cell want put sn left seen ok w
  by_cases h5 : kind = 5
  · subst h5; exact carry5 who cell want put sn left seen ok w
  by_cases h3 : kind = 3
  · subst h3
    by_cases hs : seen = want
    · have h := carry3y who cell want put sn left seen ok w hs
      simpa [carry, known, hs, Acc.val, Acc.arr] using h
    · have h := carry3n who cell want put sn left seen ok w hs
      simpa [carry, known, hs, Acc.val, Acc.arr] using h
  by_cases h4 : kind = 4
  · subst h4; exact carry4 who cell want put sn left seen ok w
  · have h := carry0 who cell want put sn left seen ok w kind h1 h2 h3 h4 h5
    have e1 : carry ⟨who, kind, cell, want, put, sn, left, ok⟩ seen = Acc.zero := by simp [carry, h1, h2, h3, h4, h5]
    have e2 : known kind = false := by simp [known]; omega
    rw [e1, e2]
    exact h
end Go.Proofs.YtgjdjdgondpjeaaGreat
