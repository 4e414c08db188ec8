/- The five accesses where access answers zeros. -/
import Derived.Test.YtfgchkkljlbmcaaRefused
import Derived.Test.YtfgchkkljlbmcaaDoStop
namespace Go.Proofs.Ytfgchkkljlbmcaa
open Go.RowKit Go.Lib Go.MuLone

/-- access of that port at that cell answers zeros, whatever else is asked, and leaves Post. -/
def Zeros (w : World) (p : Nat) (i : Int) (Post : World → Prop) : Prop := ∀ k want put : Int,
    Calls Try.prog 52 #[.pointer (some ⟨p, 0, none⟩), .agg #[.int .i64 0, .int .i64 k, .int .i64 i, .int .u64 want, .int .u64 put, .int .u64 0, .int .u64 0, .bool false]] w fun r w' =>
      r = .returned (.agg #[.int .i64 0, .int .i64 0, .int .i64 0, .int .u64 0, .int .u64 0, .int .u64 0, .int .u64 0, .bool false]) ∧ Post w'
variable {w : World} {p : Nat} {Post : World → Prop}

set_option maxRecDepth 100000 in
theorem load_zero (i : Int) (R : Zeros w p i Post) :
    Calls Try.prog 35 #[.pointer (some ⟨p, 0, none⟩), .int .i64 i] w fun r w' => r = .returned (.int .u64 0) ∧ Post w' := by
  have HC := hide (R 1 0 0)
  clear R
  have hf5 := field5
  go_enter Try.func35, Try.ntmps35
  go_wp2_with fail
  refine HC.out.mono ?_
  rintro e w' ⟨rfl, hp⟩
  have H := hide hp
  clear hp
  go_wp2_with fail
  go_ret
  exact ⟨rfl, H.out⟩
set_option maxRecDepth 100000 in
theorem store_zero (i x : Int) (R : Zeros w p i Post) :
    Calls Try.prog 48 #[.pointer (some ⟨p, 0, none⟩), .int .i64 i, .int .u64 x] w fun r w' => r = .returned (.tuple #[]) ∧ Post w' := by
  have HC := hide (R 2 0 x)
  clear R
  go_enter Try.func48, Try.ntmps48
  go_wp2_with fail
  refine HC.out.mono ?_
  rintro e w' ⟨rfl, hp⟩
  have H := hide hp
  clear hp
  go_wp2_with fail
  first | go_end0 | refine bodyPost_ret (results_none rfl _ _ _) rfl ?_
  exact ⟨rfl, H.out⟩
set_option maxRecDepth 100000 in
theorem cas_zero (i x y : Int) (R : Zeros w p i Post) :
    Calls Try.prog 34 #[.pointer (some ⟨p, 0, none⟩), .int .i64 i, .int .u64 x, .int .u64 y] w fun r w' => r = .returned (.bool false) ∧ Post w' := by
  have HC := hide (R 3 x y)
  clear R
  have hf7 := field7
  go_enter Try.func34, Try.ntmps34
  go_wp2_with fail
  refine HC.out.mono ?_
  rintro e w' ⟨rfl, hp⟩
  have H := hide hp
  clear hp
  go_wp2_with fail
  go_ret
  exact ⟨rfl, H.out⟩
set_option maxRecDepth 100000 in
theorem add_zero (i x : Int) (R : Zeros w p i Post) :
    Calls Try.prog 44 #[.pointer (some ⟨p, 0, none⟩), .int .i64 i, .int .u64 x] w fun r w' => r = .returned (.int .u64 0) ∧ Post w' := by
  have HC := hide (R 4 0 x)
  clear R
  have hf5 := field5
  go_enter Try.func44, Try.ntmps44
  go_wp2_with fail
  refine HC.out.mono ?_
  rintro e w' ⟨rfl, hp⟩
  have H := hide hp
  clear hp
  go_wp2_with fail
  go_ret
  exact ⟨rfl, H.out⟩
set_option maxRecDepth 100000 in
theorem swap_zero (i x : Int) (R : Zeros w p i Post) :
    Calls Try.prog 49 #[.pointer (some ⟨p, 0, none⟩), .int .i64 i, .int .u64 x] w fun r w' => r = .returned (.int .u64 0) ∧ Post w' := by
  have HC := hide (R 5 0 x)
  clear R
  have hf5 := field5
  go_enter Try.func49, Try.ntmps49
  go_wp2_with fail
  refine HC.out.mono ?_
  rintro e w' ⟨rfl, hp⟩
  have H := hide hp
  clear hp
  go_wp2_with fail
  go_ret
  exact ⟨rfl, H.out⟩
end Go.Proofs.Ytfgchkkljlbmcaa
