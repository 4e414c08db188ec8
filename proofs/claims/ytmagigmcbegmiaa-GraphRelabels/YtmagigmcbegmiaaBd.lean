/- graph.ByDegree: the comparison. -/
import Derived.Test.YtmagigmcbegmiaaSoI
import Derived.Deep.RegionHeld3
import Derived.BigRegion
import Derived.BigQuiet
namespace Go.Proofs.Ytmagigmcbegmiaa
open Go.RowKit Go.Lib
set_option linter.unusedVariables false
/-- How many edges a vertex has. -/
def dg (st : List Int) (v : Nat) : Int := at_ st (v + 1) - at_ st v
set_option maxRecDepth 100000 in
theorem deg_any (n v Bg : Nat) (va : Value) (st : List Int) (w : World) (hn : n ≤ 1048576) (hv : v < n) (hl : st.length = n + 1) (hr : ∀ i, i ≤ n → 0 ≤ at_ st i ∧ at_ st i ≤ 4194304) (hc : w.cell? ⟨Bg, 1, none⟩ = some va) (hs : RowAt .i64 w va st) :
    Calls Try.prog 67 #[.int .i64 (v : Int), .pointer (some ⟨Bg, 0, none⟩)] w fun e w' => e = .returned (.int .i64 (dg st v)) ∧ ∃ q, w' = w.drewN q := by
  obtain ⟨g, o, c, he, _, s0⟩ := hs.cellAt v (by omega)
  subst he
  obtain ⟨g1, o1, c1, he, _, s1⟩ := hs.cellAt (v + 1) (by omega)
  simp only [Value.slice.injEq, Option.some.injEq, Addr.mk.injEq, and_true, true_and] at he
  obtain ⟨⟨rfl, rfl⟩, rfl⟩ := he
  have r0 := hr v (by omega)
  have r1 := hr (v + 1) (by omega)
  unfold dg
  obtain ⟨a, ha⟩ : ∃ a, a = at_ st v := ⟨_, rfl⟩
  obtain ⟨b, hb⟩ : ∃ b, b = at_ st (v + 1) := ⟨_, rfl⟩
  rw [← ha] at s0 r0 ⊢
  rw [← hb] at s1 r1 ⊢
  have h1 : (v : Int) + 1 < (st.length : Int) := by omega
  have h2 : (v : Int) < (st.length : Int) := by omega
  clear ha hb hs hr
  go_enter Try.func67, Try.ntmps67
  go_upto_region 1 with fail
  go_quiet (fail)
  go_wp2_with fail
  go_ret
  exact ⟨rfl, _, rfl⟩
def or2 (a b : Int) : Int := if a = 0 then b else a
/-- Those with the most edges first, then by number. -/
def dcf (st : List Int) (x y : Nat) : Int := or2 (cmpI (dg st y) (dg st x)) (cmpI (x : Int) (y : Int))
set_option maxRecDepth 100000 in
set_option maxHeartbeats 4000000 in
theorem dclos_any (n x y Bg Bd : Nat) (va : Value) (st : List Int) (w : World) (hn : n ≤ 1048576) (hx : x < n) (hy : y < n) (hl : st.length = n + 1) (hr : ∀ i, i ≤ n → 0 ≤ at_ st i ∧ at_ st i ≤ 4194304) (hc : w.cell? ⟨Bg, 1, none⟩ = some va) (hs : RowAt .i64 w va st) (hd : w.cell? ⟨Bd, 0, none⟩ = some (.func (.func 67) #[] #[.pointer (some ⟨Bg, 0, none⟩)])) :
    Calls Try.prog 69 #[.int .i64 (x : Int), .int .i64 (y : Int), .pointer (some ⟨Bd, 0, none⟩)] w fun e w' => e = .returned (.int .i64 (dcf st x y)) ∧ ∃ q os', w' = Go.Sort.grow (w.drewN q) os' := by
  have HD : Hid (∀ (v : Nat) X, v < n → Below w.heap.size w X → Calls Try.prog 67 #[.int .i64 (v : Int), .pointer (some ⟨Bg, 0, none⟩)] X fun e w' => e = .returned (.int .i64 (dg st v)) ∧ ∃ q', w' = X.drewN q') := fun v X hv hX => deg_any n v Bg va st X hn hv hl hr ((below_cell hX (block_of_cell hc)).trans hc) (hs.below hX)
  have HC := hide (fun a b W => cmpI_any a b W)
  have HO : Hid (∀ k a b, Calls Try.prog 70 #[.slice (some ⟨w.heap.size, 0, none⟩) 2 2] ((w.drewN k).alloc (.cells #[.int .i64 a, .int .i64 b] 3)) fun e w' => e = .returned (.int .i64 (or2 a b)) ∧ w' = (w.drewN k).alloc (.cells #[.int .i64 a, .int .i64 b] 3)) := fun k a b => or_any a b w.heap.size _ (cell_of (i := 0) (heap_new (w.drewN k) (.cells #[.int .i64 a, .int .i64 b] 3)) rfl) (cell_of (i := 1) (heap_new (w.drewN k) (.cells #[.int .i64 a, .int .i64 b] 3)) rfl)
  unfold dcf
  clear hs hr hc
  go_enter Try.func69, Try.ntmps69
  go_upto_region 1 with fail
  refine wp_region_noPanic ?_
  go_region_held3 (fun z => z.cell? ⟨Bd, 0, none⟩ = some (.func (.func 67) #[] #[.pointer (some ⟨Bg, 0, none⟩)])) (first | exact hd | exact cellAl _ hd)
    (first
      | (go_at_call 71; refine (HC.out _ _ _).mono ?_; rintro e w' ⟨rfl, rfl⟩)
      | (go_at_call 67; refine (HD.out _ _ (by assumption) (by first | exact below_drew (Below.refl _ _) | exact ⟨rfl, rfl, rfl, Nat.le_refl _, fun _ _ => rfl⟩)).mono ?_; rintro e8 w8 ⟨rfl, q8, rfl⟩)
      | (go_at_call 70; refine (HO.out _ _ _).mono ?_; rintro e w' ⟨rfl, rfl⟩))
  refine NoPanic.normal ?_
  go_wp2_with fail
  go_ret
  exact ⟨rfl, _, #[.cells #[.int .i64 (cmpI (dg st y) (dg st x)), .int .i64 (cmpI (x : Int) (y : Int))] 3], Go.Sort.alloc_eq_grow _ _⟩
end Go.Proofs.Ytmagigmcbegmiaa
