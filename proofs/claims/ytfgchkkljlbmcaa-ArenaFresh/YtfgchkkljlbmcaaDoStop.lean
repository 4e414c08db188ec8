/- Accesses of a stopped arena; do; sameWords. -/
import Derived.Test.YtfgchkkljlbmcaaNoAcc
import Derived.Test.YtfgchkkljlbmcaaRoom
import Derived.WalkSmall
import Derived.Deep.Draws
namespace Go.Proofs.Ytfgchkkljlbmcaa
open Go.RowKit Go.Lib Go.MuLone

/-- A stopped arena and a port of it. -/
structure Still (w : World) (Y b gc p : Nat) (lv : Value) (s : Ast) (who : Int) (g : Bool) : Prop where
  ar : AIs w Y b gc lv s
  po : w.heap[p]? = some (PObj b who g)
  pb : p ≠ b
  st : s.stopped = true
def StillPost (w w' : World) (Y b gc : Nat) (lv : Value) (s : Ast) : Prop := AIs w' Y b gc lv s ∧ Chg (fun k => k = b) w w'

variable {w : World} {Y b gc p : Nat} {lv : Value} {s : Ast} {who : Int} {g : Bool}

theorem still_acc (R : Still w Y b gc p lv s who g) (k want put i : Int) :
    Calls Try.prog 52 #[.pointer (some ⟨p, 0, none⟩), .agg #[.int .i64 0, .int .i64 k, .int .i64 i, .int .u64 want, .int .u64 put, .int .u64 0, .int .u64 0, .bool false]] w fun r w' =>
      r = .returned (.agg #[.int .i64 0, .int .i64 0, .int .i64 0, .int .u64 0, .int .u64 0, .int .u64 0, .int .u64 0, .bool false]) ∧ StillPost w w' Y b gc lv s :=
  access_stopped p Y b gc lv s who g k want put i w R.ar R.po R.pb R.st

set_option maxRecDepth 100000 in
theorem load_still (i : Int) (R : Still w Y b gc p lv s who g) :
    Calls Try.prog 35 #[.pointer (some ⟨p, 0, none⟩), .int .i64 i] w fun r w' => r = .returned (.int .u64 0) ∧ StillPost w w' Y b gc lv s := by
  have HC := hide (still_acc R 1 0 0 i)
  clear R
  have hf5 := field5
  go_enter Try.func35, Try.ntmps35
  go_wp2_with fail
  refine HC.out.mono ?_
  rintro e w' ⟨rfl, hp⟩
  have H := hide hp
  clear hp
  go_wp2_with fail
  go_ret
  exact ⟨rfl, H.out⟩
set_option maxRecDepth 100000 in
theorem store_still (i x : Int) (R : Still w Y b gc p lv s who g) :
    Calls Try.prog 48 #[.pointer (some ⟨p, 0, none⟩), .int .i64 i, .int .u64 x] w fun r w' => r = .returned (.tuple #[]) ∧ StillPost w w' Y b gc lv s := by
  have HC := hide (still_acc R 2 0 x i)
  clear R
  go_enter Try.func48, Try.ntmps48
  go_wp2_with fail
  refine HC.out.mono ?_
  rintro e w' ⟨rfl, hp⟩
  have H := hide hp
  clear hp
  go_wp2_with fail
  first | go_end0 | refine bodyPost_ret (results_none rfl _ _ _) rfl ?_
  exact ⟨rfl, H.out⟩
set_option maxRecDepth 100000 in
theorem cas_still (i x y : Int) (R : Still w Y b gc p lv s who g) :
    Calls Try.prog 34 #[.pointer (some ⟨p, 0, none⟩), .int .i64 i, .int .u64 x, .int .u64 y] w fun r w' => r = .returned (.bool false) ∧ StillPost w w' Y b gc lv s := by
  have HC := hide (still_acc R 3 x y i)
  clear R
  have hf7 := field7
  go_enter Try.func34, Try.ntmps34
  go_wp2_with fail
  refine HC.out.mono ?_
  rintro e w' ⟨rfl, hp⟩
  have H := hide hp
  clear hp
  go_wp2_with fail
  go_ret
  exact ⟨rfl, H.out⟩
set_option maxRecDepth 100000 in
theorem add_still (i x : Int) (R : Still w Y b gc p lv s who g) :
    Calls Try.prog 44 #[.pointer (some ⟨p, 0, none⟩), .int .i64 i, .int .u64 x] w fun r w' => r = .returned (.int .u64 0) ∧ StillPost w w' Y b gc lv s := by
  have HC := hide (still_acc R 4 0 x i)
  clear R
  have hf5 := field5
  go_enter Try.func44, Try.ntmps44
  go_wp2_with fail
  refine HC.out.mono ?_
  rintro e w' ⟨rfl, hp⟩
  have H := hide hp
  clear hp
  go_wp2_with fail
  go_ret
  exact ⟨rfl, H.out⟩
set_option maxRecDepth 100000 in
theorem swap_still (i x : Int) (R : Still w Y b gc p lv s who g) :
    Calls Try.prog 49 #[.pointer (some ⟨p, 0, none⟩), .int .i64 i, .int .u64 x] w fun r w' => r = .returned (.int .u64 0) ∧ StillPost w w' Y b gc lv s := by
  have HC := hide (still_acc R 5 0 x i)
  clear R
  have hf5 := field5
  go_enter Try.func49, Try.ntmps49
  go_wp2_with fail
  refine HC.out.mono ?_
  rintro e w' ⟨rfl, hp⟩
  have H := hide hp
  clear hp
  go_wp2_with fail
  go_ret
  exact ⟨rfl, H.out⟩

/-- One call of a script. -/
structure Opr where
  kind : Int
  second : Bool
  port : Int
  cell : Int
  want : Int
  put : Int
  fw : Int
  fk : Int
  fc : Int
def Opr.arr (o : Opr) : Array Value := #[.int .i64 o.kind, .bool o.second, .int .i64 o.port, .int .i64 o.cell, .int .u64 o.want, .int .u64 o.put, .int .i64 o.fw, .int .i64 o.fk, .int .i64 o.fc]

theorem Still.alloc (R : Still w Y b gc p lv s who g) (o : Obj) : Still (w.alloc o) Y b gc p lv s who g :=
  ⟨R.ar.below ((Below.refl _ _).alloc (Nat.le_refl _) _), heap_old R.po o, R.pb, R.st⟩
theorem StillPost.alloc {w' : World} {o : Obj} (h : StillPost (w.alloc o) w' Y b gc lv s) : StillPost w w' Y b gc lv s :=
  ⟨h.1, (((Chg.refl _ w).alloc o)).trans h.2⟩

set_option maxRecDepth 100000 in
theorem do_still (o : Opr) (i : Int) (R : Still w Y b gc p lv s who g) (h1 : 1 ≤ o.kind) (h5 : o.kind ≤ 5) :
    Calls Try.prog 22 #[.pointer (some ⟨p, 0, none⟩), .agg o.arr, .int .i64 i] w fun r w' => ∃ bb, r = .returned (.tuple #[.int .u64 0, .bool bb]) ∧ (o.kind = 3 → bb = false) ∧ StillPost w w' Y b gc lv s := by
  obtain ⟨kind, second, port, cell, want, put, fw, fk, fc⟩ := o
  have HR := hide R
  clear R
  simp only at h1 h5
  simp only [Opr.arr]
  rcases (show kind = 1 ∨ kind = 2 ∨ kind = 3 ∨ kind = 4 ∨ kind = 5 by omega) with rfl | rfl | rfl | rfl | rfl
  · go_enter Try.func22, Try.ntmps22
    go_wp2_with fail
    refine (load_still i (HR.out.alloc _)).mono ?_
    rintro e w' ⟨rfl, hp⟩
    have H := hide hp.alloc
    clear hp
    go_wp2_with fail
    go_ret2
    exact ⟨true, rfl, (fun h => by cases h), H.out⟩
  · go_enter Try.func22, Try.ntmps22
    go_wp2_with fail
    refine (store_still i put (HR.out.alloc _)).mono ?_
    rintro e w' ⟨rfl, hp⟩
    have H := hide hp.alloc
    clear hp
    go_wp2_with fail
    go_ret2
    exact ⟨true, rfl, (fun h => by cases h), H.out⟩
  · go_enter Try.func22, Try.ntmps22
    go_wp2_with fail
    refine (cas_still i want put (HR.out.alloc _)).mono ?_
    rintro e w' ⟨rfl, hp⟩
    have H := hide hp.alloc
    clear hp
    go_wp2_with fail
    go_ret2
    exact ⟨false, rfl, (fun _ => rfl), H.out⟩
  · go_enter Try.func22, Try.ntmps22
    go_wp2_with fail
    refine (add_still i put (HR.out.alloc _)).mono ?_
    rintro e w' ⟨rfl, hp⟩
    have H := hide hp.alloc
    clear hp
    go_wp2_with fail
    go_ret2
    exact ⟨true, rfl, (fun h => by cases h), H.out⟩
  · go_enter Try.func22, Try.ntmps22
    go_wp2_with fail
    refine (swap_still i put (HR.out.alloc _)).mono ?_
    rintro e w' ⟨rfl, hp⟩
    have H := hide hp.alloc
    clear hp
    go_wp2_with fail
    go_ret2
    exact ⟨true, rfl, (fun h => by cases h), H.out⟩

theorem WordsAt.cell {w : World} {v : Value} {xs : List Int} (h : WordsAt w v xs) : ∃ ao c, v = .slice ao xs.length c ∧ ∀ i, i < xs.length → ∃ g o, ao = some ⟨g, o, none⟩ ∧ xs.length ≤ c ∧ c ≤ 9223372036854775807 ∧ w.cell? ⟨g, o + i, none⟩ = some (.int .u64 (nth xs i)) := by
  rcases h with ⟨rfl, rfl⟩ | ⟨g, o, c, rfl, hg, hl, hm, hc⟩
  · exact ⟨none, 0, rfl, fun i hi => absurd hi (Nat.not_lt_zero _)⟩
  · exact ⟨_, c, rfl, fun i hi => ⟨g, o, rfl, hl, hm, hc i hi⟩⟩

set_option maxRecDepth 100000 in
set_option maxHeartbeats 1000000 in
theorem sameWords_any (v1 v2 : Value) (xs : List Int) (w : World) (h1 : WordsAt w v1 xs) (h2 : WordsAt w v2 xs) :
    Calls Try.prog 15 #[v1, v2] w fun e w' => e = .returned (.bool true) ∧ ∃ m, w' = w.drewN m := by
  obtain ⟨a1, c1, rfl, k1⟩ := h1.cell
  obtain ⟨a2, c2, rfl, k2⟩ := h2.cell
  have K1 := hide k1
  have K2 := hide k2
  clear h1 h2 k1 k2
  generalize hN : xs.length = n at *
  go_enter Try.func15, Try.ntmps15
  go_wp2
  go_loopw [5] (fun t wr => ∃ k : Nat, k ≤ n ∧ t = .int .i64 k ∧ ∃ m, wr = w.drewN m) (fun t _ => n - (RowKit.intOf t).toNat)
  case atStart => exact ⟨0, by omega, rfl, 0, rfl⟩
  case round =>
    obtain ⟨k, hk, rfl, m, rfl⟩ := hrel
    by_cases hlt : k < n
    · obtain ⟨g1, o1, rfl, hl1, hm1, e1⟩ := K1.out k hlt
      have hkm : (k : Int) + 1 ≤ 9223372036854775807 := by omega
      clear hm1
      obtain ⟨g2, o2, rfl, hl2, _, e2⟩ := K2.out k hlt
      go_wp2
      go_region
      all_goals
        go_wp2
        go_roundw
        case rel => exact ⟨k + 1, by omega, by go_num, m + 1, rfl⟩
        case measure => simp [RowKit.intOf]; omega
    · go_wp2
      go_ret
      exact ⟨rfl, m, rfl⟩
end Go.Proofs.Ytfgchkkljlbmcaa
