/- The reference's five accesses of a cell that is none. -/
import Derived.Test.YtfgchkkljlbmcaaRefPorts
namespace Go.Proofs.Ytfgchkkljlbmcaa
open Go.RowKit Go.Lib Go.MuLone

set_option maxRecDepth 100000 in
theorem refLoad_out (Y b gc : Nat) (lv : Value) (s : Ast) (who cell : Int) (w : World) (h : RIs w Y b gc lv s) (hs : s.stopped = false) (hi : cell < 0 ∨ (s.cells.length : Int) ≤ cell) :
    Calls Try.prog 77 #[.pointer (some ⟨b, 0, none⟩), .int .i64 who, .int .i64 cell] w fun r w' => r = .returned (.int .u64 0) ∧ RIs w' Y b gc lv (s.stop who 1 cell) ∧ Chg (fun k => k = b) w w' := by
  have HT := hide (there_out Y b gc lv s who cell w h hs hi)
  clear h hi
  go_enter Try.func77, Try.ntmps77
  go_wp2_with fail
  refine HT.out.mono ?_
  rintro e w1 ⟨rfl, hr, hk⟩
  have HR := hide hr
  have HK := hide hk
  clear hr hk
  go_wp2_with fail
  go_ret
  exact ⟨rfl, HR.out, HK.out⟩

set_option maxRecDepth 100000 in
theorem refStore_out (Y b gc : Nat) (lv : Value) (s : Ast) (who cell : Int) (v : Int) (w : World) (h : RIs w Y b gc lv s) (hs : s.stopped = false) (hi : cell < 0 ∨ (s.cells.length : Int) ≤ cell) :
    Calls Try.prog 78 #[.pointer (some ⟨b, 0, none⟩), .int .i64 who, .int .i64 cell, .int .u64 v] w fun r w' => r = .returned (.tuple #[]) ∧ RIs w' Y b gc lv (s.stop who 1 cell) ∧ Chg (fun k => k = b) w w' := by
  have HT := hide (there_out Y b gc lv s who cell w h hs hi)
  clear h hi
  go_enter Try.func78, Try.ntmps78
  go_wp2_with fail
  refine HT.out.mono ?_
  rintro e w1 ⟨rfl, hr, hk⟩
  have HR := hide hr
  have HK := hide hk
  clear hr hk
  go_wp2_with fail
  first | go_end0 | refine bodyPost_ret (results_none rfl _ _ _) rfl ?_
  exact ⟨rfl, HR.out, HK.out⟩

set_option maxRecDepth 100000 in
theorem refCas_out (Y b gc : Nat) (lv : Value) (s : Ast) (who cell : Int) (want put : Int) (w : World) (h : RIs w Y b gc lv s) (hs : s.stopped = false) (hi : cell < 0 ∨ (s.cells.length : Int) ≤ cell) :
    Calls Try.prog 79 #[.pointer (some ⟨b, 0, none⟩), .int .i64 who, .int .i64 cell, .int .u64 want, .int .u64 put] w fun r w' => r = .returned (.bool false) ∧ RIs w' Y b gc lv (s.stop who 1 cell) ∧ Chg (fun k => k = b) w w' := by
  have HT := hide (there_out Y b gc lv s who cell w h hs hi)
  clear h hi
  go_enter Try.func79, Try.ntmps79
  go_wp2_with fail
  refine HT.out.mono ?_
  rintro e w1 ⟨rfl, hr, hk⟩
  have HR := hide hr
  have HK := hide hk
  clear hr hk
  go_wp2_with fail
  go_ret
  exact ⟨rfl, HR.out, HK.out⟩

set_option maxRecDepth 100000 in
theorem refAdd_out (Y b gc : Nat) (lv : Value) (s : Ast) (who cell : Int) (v : Int) (w : World) (h : RIs w Y b gc lv s) (hs : s.stopped = false) (hi : cell < 0 ∨ (s.cells.length : Int) ≤ cell) :
    Calls Try.prog 80 #[.pointer (some ⟨b, 0, none⟩), .int .i64 who, .int .i64 cell, .int .u64 v] w fun r w' => r = .returned (.int .u64 0) ∧ RIs w' Y b gc lv (s.stop who 1 cell) ∧ Chg (fun k => k = b) w w' := by
  have HT := hide (there_out Y b gc lv s who cell w h hs hi)
  clear h hi
  go_enter Try.func80, Try.ntmps80
  go_wp2_with fail
  refine HT.out.mono ?_
  rintro e w1 ⟨rfl, hr, hk⟩
  have HR := hide hr
  have HK := hide hk
  clear hr hk
  go_wp2_with fail
  go_ret
  exact ⟨rfl, HR.out, HK.out⟩

set_option maxRecDepth 100000 in
theorem refSwap_out (Y b gc : Nat) (lv : Value) (s : Ast) (who cell : Int) (v : Int) (w : World) (h : RIs w Y b gc lv s) (hs : s.stopped = false) (hi : cell < 0 ∨ (s.cells.length : Int) ≤ cell) :
    Calls Try.prog 81 #[.pointer (some ⟨b, 0, none⟩), .int .i64 who, .int .i64 cell, .int .u64 v] w fun r w' => r = .returned (.int .u64 0) ∧ RIs w' Y b gc lv (s.stop who 1 cell) ∧ Chg (fun k => k = b) w w' := by
  have HT := hide (there_out Y b gc lv s who cell w h hs hi)
  clear h hi
  go_enter Try.func81, Try.ntmps81
  go_wp2_with fail
  refine HT.out.mono ?_
  rintro e w1 ⟨rfl, hr, hk⟩
  have HR := hide hr
  have HK := hide hk
  clear hr hk
  go_wp2_with fail
  go_ret
  exact ⟨rfl, HR.out, HK.out⟩

end Go.Proofs.Ytfgchkkljlbmcaa
