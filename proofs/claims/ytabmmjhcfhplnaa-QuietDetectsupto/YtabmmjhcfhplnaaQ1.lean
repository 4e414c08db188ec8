/- quiet's operations in memory; what they are made of, and one step of each. -/
import Derived.Test.YtabmmjhcfhplnaaHold
import Derived.Laws.EntriesVeiled
import Derived.Deep.Cut
import Derived.Deep.RegionHeld3
namespace Go.Proofs.Ytabmmjhcfhplnaa
open Go.RowKit Go.Lib Go.MuLone
set_option linter.unusedVariables false

theorem below_alloc {a w : World} (h : Below a.heap.size a w) (o : Obj) : Below a.heap.size a (w.alloc o) := h.alloc h.size o
theorem below_drew {a w : World} (h : Below a.heap.size a w) : Below a.heap.size a w.drew := h.drew
theorem below_on {a w w' : World} (h : Below a.heap.size a w) (k : Below w.heap.size w w') : Below a.heap.size a w' := h.trans (k.mono h.size)
theorem below_cell {w w' : World} {g B o : Nat} (h : Below B w w') (hg : g < B) : w'.cell? ⟨g, o, none⟩ = w.cell? ⟨g, o, none⟩ := by
  simp only [World.cell?]
  rw [h.block g hg]
/-- An operation: ph: which access comes next (0: it is over; 1 raise, 2 lower, 3 ask, 4 fail, 5 the second of a lower, 6 the second of an ask). -/
structure QOp where
  base : Int
  code : Int
  ph : Nat
  st : Int
def nx : Nat → Value
  | 1 => .func (.func 66) #[] #[]
  | 2 => .func (.func 70) #[] #[]
  | 3 => .func (.func 72) #[] #[]
  | 4 => .func (.func 76) #[] #[]
  | 5 => .func (.func 71) #[] #[]
  | 6 => .func (.func 75) #[] #[]
  | _ => .nilFunc
def QObjV (base code : Int) (v : Value) (st : Int) : Obj := .cells #[.int .i64 base, .int .u64 code, v, .int .i64 st] 86 (0, 0)
def QOp.obj (o : QOp) : Obj := QObjV o.base o.code (nx o.ph) o.st
theorem eql_func_nil (w : World) (f : FuncId) (bs cs : Array Value) : (binOp .eql 84 (.func (.func f) bs cs) .nilFunc).run Try.prog w = .ok (.bool false) w := by kernel_rfl
theorem eql_nil_nil (w : World) : (binOp .eql 84 .nilFunc .nilFunc).run Try.prog w = .ok (.bool true) w := by kernel_rfl
set_option maxRecDepth 100000 in
theorem over_some (w : World) (q : Nat) (base code st : Int) (f : FuncId) (bs cs : Array Value) (h : w.heap[q]? = some (QObjV base code (.func (.func f) bs cs) st)) :
    Calls Try.prog 12 #[.pointer (some ⟨q, 0, none⟩)] w fun e w' => e = .returned (.bool false) ∧ w' = w := by
  have c2 := cell_of h (i := 2) rfl
  have he := fun w => eql_func_nil w f bs cs
  clear h
  go_enter Try.func12, Try.ntmps12
  go_wp2
  go_ret
  exact ⟨rfl, rfl⟩
set_option maxRecDepth 100000 in
theorem over_none (w : World) (q : Nat) (base code st : Int) (h : w.heap[q]? = some (QObjV base code .nilFunc st)) :
    Calls Try.prog 12 #[.pointer (some ⟨q, 0, none⟩)] w fun e w' => e = .returned (.bool true) ∧ w' = w := by
  have c2 := cell_of h (i := 2) rfl
  have he := eql_nil_nil
  clear h
  go_enter Try.func12, Try.ntmps12
  go_wp2
  go_ret
  exact ⟨rfl, rfl⟩
theorem over_any (w : World) (q : Nat) (o : QOp) (hp : o.ph ≤ 6) (h : w.heap[q]? = some o.obj) :
    Calls Try.prog 12 #[.pointer (some ⟨q, 0, none⟩)] w fun e w' => e = .returned (.bool (decide (o.ph = 0))) ∧ w' = w := by
  obtain ⟨b, c, ph, st⟩ := o
  match ph, hp, h with
  | 0, _, h => exact over_none w q b c st h
  | 1, _, h => exact over_some w q b c st 66 _ _ h
  | 2, _, h => exact over_some w q b c st 70 _ _ h
  | 3, _, h => exact over_some w q b c st 72 _ _ h
  | 4, _, h => exact over_some w q b c st 76 _ _ h
  | 5, _, h => exact over_some w q b c st 71 _ _ h
  | 6, _, h => exact over_some w q b c st 75 _ _ h
theorem Try.results21 : Try.f21.results = #[.cell 2 71] := by kernel_rfl
set_option maxRecDepth 100000 in
/-- Reply: the status, no tasks. -/
theorem reply_any (w : World) (q : Nat) (base code st : Int) (v : Value) (h : w.heap[q]? = some (QObjV base code v st)) :
    Calls Try.prog 21 #[.pointer (some ⟨q, 0, none⟩)] w fun e w' => e = .returned (.agg #[.int .i64 st, .slice none 0 0]) ∧ Below w.heap.size w w' := by
  have hq := lt_of_heap h
  have c3 : (w.alloc (.cells #[.int .i64 0, .slice none 0 0] 71)).cell? ⟨q, 3, none⟩ = some (.int .i64 st) := cell_of (heap_old h _) (i := 3) rfl
  clear h
  go_enter Try.func21, Try.ntmps21
  go_wp2
  have hh := heap_new w (.cells #[.int .i64 st, .slice none 0 0] 71)
  exact bodyPost_ret (results_cell_row Try.results21 _ _ w.heap.size 71 _ (0, 0) _ rfl hh Try.underlying71 rfl (by kernel_rfl)) rfl ⟨rfl, below_alloc (Below.refl _ _) _⟩
section
variable (w : World) (q : Nat) (base code st : Int) (v : Value)
set_option maxRecDepth 100000 in
theorem pending_any (h : w.heap[q]? = some (QObjV base code v st)) : Calls Try.prog 68 #[.pointer (some ⟨q, 0, none⟩)] w fun e w' => e = .returned (.int .i64 base) ∧ w' = w := by
  have c0 := cell_of h (i := 0) rfl
  clear h
  go_enter Try.func68, Try.ntmps68
  go_wp2
  go_ret
  exact ⟨rfl, rfl⟩
set_option maxRecDepth 100000 in
theorem done_any (h : w.heap[q]? = some (QObjV base code v st)) (hb : 0 ≤ base ∧ base ≤ 16777213) : Calls Try.prog 87 #[.pointer (some ⟨q, 0, none⟩)] w fun e w' => e = .returned (.int .i64 (base + 1)) ∧ w' = w := by
  have c0 := cell_of h (i := 0) rfl
  have hw : wrap64 (base + 1) = base + 1 := IntWalk.wrap64_in _ (by omega)
  clear h
  go_enter Try.func87, Try.ntmps87
  go_wp2
  go_ret
  exact ⟨by first | rfl | rw [hw], rfl⟩
set_option maxRecDepth 100000 in
theorem faultCell_any (h : w.heap[q]? = some (QObjV base code v st)) (hb : 0 ≤ base ∧ base ≤ 16777213) : Calls Try.prog 74 #[.pointer (some ⟨q, 0, none⟩)] w fun e w' => e = .returned (.int .i64 (base + 2)) ∧ w' = w := by
  have c0 := cell_of h (i := 0) rfl
  have hw : wrap64 (base + 2) = base + 2 := IntWalk.wrap64_in _ (by omega)
  clear h
  go_enter Try.func74, Try.ntmps74
  go_wp2
  go_ret
  exact ⟨by first | rfl | rw [hw], rfl⟩
set_option maxRecDepth 100000 in
theorem end_any (x : Int) (h : w.heap[q]? = some (QObjV base code v st)) : Calls Try.prog 69 #[.pointer (some ⟨q, 0, none⟩), .int .i64 x] w fun e w' => e = .returned (.tuple #[]) ∧ w'.heap[q]? = some (QObjV base code .nilFunc x) ∧ Chg (fun k => k = q) w w' := by
  have c2 := cell_of h (i := 2) rfl
  have c3 := cell_of h (i := 3) rfl
  have f2 := free_of h 2
  have f3 := free_of h 3
  have HE : Hid (((w.setCell ⟨q, 2, none⟩ .nilFunc).setCell ⟨q, 3, none⟩ (.int .i64 x)).heap[q]? = some (QObjV base code .nilFunc x) ∧ Chg (fun k => k = q) w ((w.setCell ⟨q, 2, none⟩ .nilFunc).setCell ⟨q, 3, none⟩ (.int .i64 x))) := by
    refine ⟨by rw [heap_set (heap_set h _) _]; rfl, Chg.setCell (S := fun k => k = q) (Chg.setCell (S := fun k => k = q) (Chg.refl _ w) (p := ⟨q, 2, none⟩) rfl _) (p := ⟨q, 3, none⟩) rfl _⟩
  clear h
  go_enter Try.func69, Try.ntmps69
  go_wp2
  first | go_end0 | refine bodyPost_ret (results_none rfl _ _ _) rfl ?_
  exact ⟨rfl, HE.out⟩
end
theorem Try.results56 : Try.f56.results = #[.cell 0 118] := by kernel_rfl
set_option maxRecDepth 100000 in
theorem firsts_any (w : World) : Calls Try.prog 56 #[] w fun e w' => e = .returned (.agg #[nx 1, nx 2, nx 3, nx 4]) ∧ Below w.heap.size w w' := by
  unfold nx
  go_enter Try.func56, Try.ntmps56
  go_wp2
  have hh := heap_new w (.cells #[nx 1, nx 2, nx 3, nx 4] 118)
  exact bodyPost_ret (results_cell_row Try.results56 _ _ w.heap.size 118 _ (0, 0) _ rfl hh Try.underlying118 rfl (by kernel_rfl)) rfl ⟨rfl, below_alloc (Below.refl _ _) _⟩
/-- What a constructor has made. -/
def Made1 (w : World) (base code : Int) (k : Nat) (e : Ending) (w' : World) : Prop :=
  ∃ q, e = .returned (.tuple #[.pointer (some ⟨q, 0, none⟩), .int .i64 0]) ∧ w'.heap[q]? = some (QObjV base code (nx k) 0) ∧ w.heap.size ≤ q ∧ Below w.heap.size w w'
set_option maxRecDepth 100000 in
theorem begin_bad (w : World) (base k code : Int) (h : ¬ (0 ≤ base ∧ base ≤ 16777213)) : Calls Try.prog 49 #[.agg #[.int .i64 base], .int .i64 k, .int .u64 code] w fun e w' => e = .returned (.tuple #[.pointer none, .int .i64 60]) ∧ Below w.heap.size w w' := by
  have hh := heap_new w (.cells #[.int .i64 base] 50)
  have c0 := cell_of hh (i := 0) rfl
  have HB := hide (below_alloc (Below.refl w.heap.size w) (.cells #[.int .i64 base] 50))
  clear hh
  by_cases h1 : base < 0
  · go_enter Try.func49, Try.ntmps49
    go_wp2
    exact bodyPost_ret (results_tmp2 rfl _ _ _) rfl ⟨rfl, HB.out⟩
  · have h2 : 16777213 < base := by omega
    go_enter Try.func49, Try.ntmps49
    go_wp2
    exact bodyPost_ret (results_tmp2 rfl _ _ _) rfl ⟨rfl, HB.out⟩
set_option maxRecDepth 100000 in
theorem begin_0 (w : World) (base code : Int) (h : 0 ≤ base ∧ base ≤ 16777213) : Calls Try.prog 49 #[.agg #[.int .i64 base], .int .i64 0, .int .u64 code] w (Made1 w base code 1) := by
  have hh := heap_new w (.cells #[.int .i64 base] 50)
  have c0 := cell_of hh (i := 0) rfl
  have hb := below_alloc (Below.refl w.heap.size w) (.cells #[.int .i64 base] 50)
  have hs : w.heap.size < (w.alloc (.cells #[.int .i64 base] 50)).heap.size := by simp
  have HB := hide hb
  have h1 : ¬ base < 0 := by omega
  have h2 : ¬ 16777213 < base := by omega
  have hix : ∀ W, (Instr.index 118 (.agg #[.func (.func 66) #[] #[], .func (.func 70) #[] #[], .func (.func 72) #[] #[], .func (.func 76) #[] #[]]) (.int .i64 0)).run Try.prog W = .ok (.func (.func 66) #[] #[]) W := fun W => by kernel_rfl
  clear hh hb
  go_enter Try.func49, Try.ntmps49
  go_upto_region 3 with fail
  generalize (w.alloc (.cells #[.int .i64 base] 50)) = w1 at c0 hs HB ⊢
  have HC := hide (fun X (hX : Below w1.heap.size w1 X) => (below_cell (o := 0) hX hs).trans c0)
  go_region_held3 (fun X => X.cell? ⟨w.heap.size, 0, none⟩ = some (.int .i64 base)) (first | go_keep | exact HC.out _ HBX.out | exact HC.out _ (below_alloc HBX.out _) | exact HC.out _ (below_drew (below_alloc HBX.out _)))
    ((go_at_call 56; refine (firsts_any _).mono ?_; unfold nx; rintro e w2 ⟨rfl, hb2⟩; have HBX := hide (below_on (below_drew (Below.refl w1.heap.size w1)) hb2); clear hb2))
  all_goals
    go_wp2
    refine bodyPost_ret (results_tmp2 rfl _ _ _) rfl ?_
    exact ⟨_, rfl, heap_new _ _, by have := HBX.out.size; omega, below_on HB.out (below_alloc HBX.out _)⟩
set_option maxRecDepth 100000 in
theorem begin_1 (w : World) (base code : Int) (h : 0 ≤ base ∧ base ≤ 16777213) : Calls Try.prog 49 #[.agg #[.int .i64 base], .int .i64 1, .int .u64 code] w (Made1 w base code 2) := by
  have hh := heap_new w (.cells #[.int .i64 base] 50)
  have c0 := cell_of hh (i := 0) rfl
  have hb := below_alloc (Below.refl w.heap.size w) (.cells #[.int .i64 base] 50)
  have hs : w.heap.size < (w.alloc (.cells #[.int .i64 base] 50)).heap.size := by simp
  have HB := hide hb
  have h1 : ¬ base < 0 := by omega
  have h2 : ¬ 16777213 < base := by omega
  have hix : ∀ W, (Instr.index 118 (.agg #[.func (.func 66) #[] #[], .func (.func 70) #[] #[], .func (.func 72) #[] #[], .func (.func 76) #[] #[]]) (.int .i64 1)).run Try.prog W = .ok (.func (.func 70) #[] #[]) W := fun W => by kernel_rfl
  clear hh hb
  go_enter Try.func49, Try.ntmps49
  go_upto_region 3 with fail
  generalize (w.alloc (.cells #[.int .i64 base] 50)) = w1 at c0 hs HB ⊢
  have HC := hide (fun X (hX : Below w1.heap.size w1 X) => (below_cell (o := 0) hX hs).trans c0)
  go_region_held3 (fun X => X.cell? ⟨w.heap.size, 0, none⟩ = some (.int .i64 base)) (first | go_keep | exact HC.out _ HBX.out | exact HC.out _ (below_alloc HBX.out _) | exact HC.out _ (below_drew (below_alloc HBX.out _)))
    ((go_at_call 56; refine (firsts_any _).mono ?_; unfold nx; rintro e w2 ⟨rfl, hb2⟩; have HBX := hide (below_on (below_drew (Below.refl w1.heap.size w1)) hb2); clear hb2))
  all_goals
    go_wp2
    refine bodyPost_ret (results_tmp2 rfl _ _ _) rfl ?_
    exact ⟨_, rfl, heap_new _ _, by have := HBX.out.size; omega, below_on HB.out (below_alloc HBX.out _)⟩
set_option maxRecDepth 100000 in
theorem begin_2 (w : World) (base code : Int) (h : 0 ≤ base ∧ base ≤ 16777213) : Calls Try.prog 49 #[.agg #[.int .i64 base], .int .i64 2, .int .u64 code] w (Made1 w base code 3) := by
  have hh := heap_new w (.cells #[.int .i64 base] 50)
  have c0 := cell_of hh (i := 0) rfl
  have hb := below_alloc (Below.refl w.heap.size w) (.cells #[.int .i64 base] 50)
  have hs : w.heap.size < (w.alloc (.cells #[.int .i64 base] 50)).heap.size := by simp
  have HB := hide hb
  have h1 : ¬ base < 0 := by omega
  have h2 : ¬ 16777213 < base := by omega
  have hix : ∀ W, (Instr.index 118 (.agg #[.func (.func 66) #[] #[], .func (.func 70) #[] #[], .func (.func 72) #[] #[], .func (.func 76) #[] #[]]) (.int .i64 2)).run Try.prog W = .ok (.func (.func 72) #[] #[]) W := fun W => by kernel_rfl
  clear hh hb
  go_enter Try.func49, Try.ntmps49
  go_upto_region 3 with fail
  generalize (w.alloc (.cells #[.int .i64 base] 50)) = w1 at c0 hs HB ⊢
  have HC := hide (fun X (hX : Below w1.heap.size w1 X) => (below_cell (o := 0) hX hs).trans c0)
  go_region_held3 (fun X => X.cell? ⟨w.heap.size, 0, none⟩ = some (.int .i64 base)) (first | go_keep | exact HC.out _ HBX.out | exact HC.out _ (below_alloc HBX.out _) | exact HC.out _ (below_drew (below_alloc HBX.out _)))
    ((go_at_call 56; refine (firsts_any _).mono ?_; unfold nx; rintro e w2 ⟨rfl, hb2⟩; have HBX := hide (below_on (below_drew (Below.refl w1.heap.size w1)) hb2); clear hb2))
  all_goals
    go_wp2
    refine bodyPost_ret (results_tmp2 rfl _ _ _) rfl ?_
    exact ⟨_, rfl, heap_new _ _, by have := HBX.out.size; omega, below_on HB.out (below_alloc HBX.out _)⟩
set_option maxRecDepth 100000 in
theorem begin_3 (w : World) (base code : Int) (h : 0 ≤ base ∧ base ≤ 16777213) : Calls Try.prog 49 #[.agg #[.int .i64 base], .int .i64 3, .int .u64 code] w (Made1 w base code 4) := by
  have hh := heap_new w (.cells #[.int .i64 base] 50)
  have c0 := cell_of hh (i := 0) rfl
  have hb := below_alloc (Below.refl w.heap.size w) (.cells #[.int .i64 base] 50)
  have hs : w.heap.size < (w.alloc (.cells #[.int .i64 base] 50)).heap.size := by simp
  have HB := hide hb
  have h1 : ¬ base < 0 := by omega
  have h2 : ¬ 16777213 < base := by omega
  have hix : ∀ W, (Instr.index 118 (.agg #[.func (.func 66) #[] #[], .func (.func 70) #[] #[], .func (.func 72) #[] #[], .func (.func 76) #[] #[]]) (.int .i64 3)).run Try.prog W = .ok (.func (.func 76) #[] #[]) W := fun W => by kernel_rfl
  clear hh hb
  go_enter Try.func49, Try.ntmps49
  go_upto_region 3 with fail
  generalize (w.alloc (.cells #[.int .i64 base] 50)) = w1 at c0 hs HB ⊢
  have HC := hide (fun X (hX : Below w1.heap.size w1 X) => (below_cell (o := 0) hX hs).trans c0)
  go_region_held3 (fun X => X.cell? ⟨w.heap.size, 0, none⟩ = some (.int .i64 base)) (first | go_keep | exact HC.out _ HBX.out | exact HC.out _ (below_alloc HBX.out _) | exact HC.out _ (below_drew (below_alloc HBX.out _)))
    ((go_at_call 56; refine (firsts_any _).mono ?_; unfold nx; rintro e w2 ⟨rfl, hb2⟩; have HBX := hide (below_on (below_drew (Below.refl w1.heap.size w1)) hb2); clear hb2))
  all_goals
    go_wp2
    refine bodyPost_ret (results_tmp2 rfl _ _ _) rfl ?_
    exact ⟨_, rfl, heap_new _ _, by have := HBX.out.size; omega, below_on HB.out (below_alloc HBX.out _)⟩

end Go.Proofs.Ytabmmjhcfhplnaa
