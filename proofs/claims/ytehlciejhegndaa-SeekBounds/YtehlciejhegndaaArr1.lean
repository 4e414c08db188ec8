/- slices.Clone of ints. -/
import Derived.Test.YtehlciejhegndaaIterT
namespace Go.Proofs.Ytehlciejhegndaa
open Go.RowKit Go.Lib
set_option linter.unusedVariables false
theorem arr_new {w : World} {g n : Nat} (h : w.heap[g]? = some (.cells (madeCells #[.int .i64 0] n) 3 (0, 0))) : Arr w g (tab n (fun _ => 0)) := by
  unfold Arr
  rw [h]
  have e : madeCells #[Value.int .i64 0] n = iCells (tab n (fun _ => 0)) := by
    apply Array.ext'
    apply List.ext_getElem
    · simp [madeCells, iCells, tab]
    · intro i h1 h2
      simp [madeCells, iCells, tab, Nat.mod_one]
  rw [e]
theorem cd_drew (X : World) (a : Addr) : X.drew.cell? a = X.cell? a := rfl
theorem ck {X Y : World} {b o : Nat} {v : Value} (hb : Below X.heap.size X Y) (h : X.cell? ⟨b, o, none⟩ = some v) : Y.cell? ⟨b, o, none⟩ = some v := (below_cell hb (block_of_cell h)).trans h
theorem cAl {X : World} {b i : Nat} {v : Value} (o : Obj) (h : X.cell? ⟨b, i, none⟩ = some v) : (X.alloc o).cell? ⟨b, i, none⟩ = some v := ck (below_alloc (Below.refl _ _) _) h
set_option maxRecDepth 100000 in
theorem cloneInts_any (g o c : Nat) (xs : List Int) (w : World) (hr : RowAt .i64 w (.slice (some ⟨g, o, none⟩) xs.length c) xs) (hl : xs.length ≤ 4194305) :
    Calls Try.prog 48 #[.slice (some ⟨g, o, none⟩) xs.length c] w fun e w' => ∃ v, e = .returned v ∧ w'.ownsRow w.heap.size 3 1 v xs.length (xs.map (Value.int .i64)) ∧ Below w.heap.size w w' := by
  obtain ⟨i0, hi, hz0, hz1, hz2⟩ := info_parts Try.info3
  have q29 : ∀ (w : World) (a : Option Addr) (n c n' c' : Nat), (binOp .eql 22 (.slice a n c) (.slice none n' c')).run Try.prog w = .ok (.bool a.isNone) w := fun w a n c n' c' => Lib.run_eql_slice_nil w _ _ a n c n' c' Try.underlying22
  have HR := hide hr
  clear hr
  go_enter Try.func48, Try.ntmps48
  go_wp2_with (at_builtin; refine wpList_fresh rfl _ _ 22 rfl .i64 3 i0 (.int .i64 0) 8 Try.underlying22 hi hz0 hz1 hz2 rfl w.heap.size _ (own_new _ 3 w.heap.size rfl) (by simp) _ xs rfl rfl (HR.out.below (below_alloc (Below.refl _ _) _)) (by omega) (by unfold maxLen; omega) ?_; intro v' w1 hown hbel; have HO := hide hown; have HB := hide hbel; clear hown hbel)
  go_ret
  exact ⟨_, rfl, HO.out, below_on (below_alloc (Below.refl _ _) _) HB.out⟩
end Go.Proofs.Ytehlciejhegndaa
