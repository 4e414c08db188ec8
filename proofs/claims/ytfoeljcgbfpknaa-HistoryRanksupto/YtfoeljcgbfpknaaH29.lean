/- What is told of ranks; the program's sumUp. -/
import Derived.Test.YtfoeljcgbfpknaaH24
import Derived.Test.YtfoeljcgbfpknaaFl
import Derived.Laws.FloatArith
import Derived.Laws.Rows
import Derived.Laws.ResultCell
namespace Go.Proofs.Ytfoeljcgbfpknaa
open Go.RowKit Go.Lib
set_option linter.unusedVariables false
set_option linter.unusedSimpArgs false
/-- Ranks as they come of a history. -/
def RkOk (R : List Int) : Prop := R.length ≤ 2000 ∧ ∀ i, i < R.length → 0 ≤ at_ R i ∧ at_ R i ≤ 2000
def sm (R : List Int) : Nat → Int
  | 0 => 0
  | i + 1 => sm R i + at_ R i
def mx (R : List Int) : Nat → Int
  | 0 => 0
  | i + 1 => max (mx R i) (at_ R i)
def fl (n : Int) : Nat := floatOfInt .f64 n
def dv (M : Nat) (r : Int) : Nat := subF (fl r) M
def vs (M : Nat) (R : List Int) : Nat → Nat
  | 0 => 0
  | i + 1 => addF (vs M R i) (mulF (dv M (at_ R i)) (dv M (at_ R i)))
def mnF (R : List Int) : Nat := divF (fl (sm R R.length)) (fl R.length)
def zr : Array Value := #[.int .i64 0, .int .i64 0, .int .i64 0, .float .f64 0, .float .f64 0]
def rkV (R : List Int) : Array Value := if R.length = 0 then zr else #[.int .i64 R.length, .int .i64 (mx R R.length), .int .i64 (sm R R.length), .float .f64 (mnF R), .float .f64 (divF (vs (mnF R) R R.length) (fl R.length))]
section
variable {R : List Int} (h : RkOk R)
include h
theorem sm_bd : ∀ i, i ≤ R.length → 0 ≤ sm R i ∧ sm R i ≤ 2000 * (i : Int)
  | 0, _ => ⟨by unfold sm; omega, by unfold sm; omega⟩
  | i + 1, hi => by
    have ih := sm_bd i (by omega)
    have := h.2 i (by omega)
    unfold sm
    constructor <;> omega
theorem mx_bd : ∀ i, i ≤ R.length → 0 ≤ mx R i ∧ mx R i ≤ 2000
  | 0, _ => ⟨by unfold mx; omega, by unfold mx; omega⟩
  | i + 1, hi => by
    have ih := mx_bd i (by omega)
    have := h.2 i (by omega)
    unfold mx
    constructor <;> omega
theorem mn_ok (h0 : R.length ≠ 0) : Ieee.double.div (fl (sm R R.length)) (fl R.length) = some (mnF R) ∧ NoN (mnF R) :=
  div_some (fI_fin _) (fI_pos _ (by have := h.1; omega) h0)
theorem dv_ok (h0 : R.length ≠ 0) {i : Nat} (hi : i < R.length) : Ieee.double.sub (fl (at_ R i)) (mnF R) = some (dv (mnF R) (at_ R i)) ∧ NoN (dv (mnF R) (at_ R i)) := by
  have hb := h.2 i hi
  obtain ⟨k, hk⟩ : ∃ k : Nat, at_ R i = (k : Int) := ⟨(at_ R i).toNat, by omega⟩
  rw [hk] at hb ⊢
  exact sub_some (fI_fin1 k (by omega)) (mn_ok h h0).2
theorem vs_ok (h0 : R.length ≠ 0) : ∀ i, i ≤ R.length → Fin1 false (vs (mnF R) R i)
  | 0, _ => zero_fin
  | i + 1, hi => by
    have ih := vs_ok h0 i (by omega)
    exact (add_some ih (mul_some (dv_ok h h0 (i := i) (by omega)).2).2).2
theorem vs_add (h0 : R.length ≠ 0) {i : Nat} (hi : i < R.length) : Ieee.double.mul (dv (mnF R) (at_ R i)) (dv (mnF R) (at_ R i)) = some (mulF (dv (mnF R) (at_ R i)) (dv (mnF R) (at_ R i))) ∧ Ieee.double.add (vs (mnF R) R i) (mulF (dv (mnF R) (at_ R i)) (dv (mnF R) (at_ R i))) = some (vs (mnF R) R (i + 1)) :=
  have hm := mul_some (dv_ok h h0 hi).2
  ⟨hm.1, (add_some (vs_ok h h0 i (by omega)) hm.2).1⟩
theorem vr_ok (h0 : R.length ≠ 0) : Ieee.double.div (vs (mnF R) R R.length) (fl R.length) = some (divF (vs (mnF R) R R.length) (fl R.length)) ∧ NoN (divF (vs (mnF R) R R.length) (fl R.length)) :=
  div_some (vs_ok h h0 _ (Nat.le_refl _)) (fI_pos _ (by have := h.1; omega) h0)
end
/-- The box of a result and the box of what is reckoned. -/
structure SU (w W : World) (A B : Nat) (cs : Array Value) : Prop where
  bel : Below w.heap.size w W
  geA : w.heap.size ≤ A
  geB : w.heap.size ≤ B
  ne : A ≠ B
  res : W.heap[A]? = some (.cells zr 36 (0, 0))
  out : W.heap[B]? = some (.cells cs 36 (0, 0))
section
variable {w W W' : World} {A B : Nat} {cs : Array Value}
theorem SU.on (h : SU w W A B cs) (hb : Below W.heap.size W W') : SU w W' A B cs := ⟨below_on h.bel hb, h.geA, h.geB, h.ne, (hb.block _ (lt_of_heap h.res)).trans h.res, (hb.block _ (lt_of_heap h.out)).trans h.out⟩
theorem SU.set (h : SU w W A B cs) (k : Nat) (u : Value) : SU w (W.setCell ⟨B, k, none⟩ u) A B (cs.setIfInBounds k u) := ⟨h.bel.setCell (p := ⟨B, k, none⟩) h.geB u, h.geA, h.geB, h.ne, (Below.heap_setCell _ _ _ _ h.ne).trans h.res, heap_set h.out u⟩
theorem SU.cell (h : SU w W A B cs) (k : Nat) {v : Value} (hv : cs[k]? = some v) : W.cell? ⟨B, k, none⟩ = some v := cell_of h.out hv
theorem SU.free (h : SU w W A B cs) (k : Nat) : W.frozen? ⟨B, k, none⟩ = false := free_of h.out k
theorem SU.freeA (h : SU w W A B cs) (k : Nat) : W.frozen? ⟨A, k, none⟩ = false := free_of h.res k
theorem SU.rcell (h : SU w W A B cs) (k : Nat) {v : Value} (hv : zr[k]? = some v) : W.cell? ⟨A, k, none⟩ = some v := cell_of h.res hv
end
/-- Five cells written. -/
theorem five_set {W : World} {A : Nat} {c0 c1 c2 c3 c4 : Value} {d0 d1 d2 d3 d4 : Value} (h : W.heap[A]? = some (.cells #[d0, d1, d2, d3, d4] 36 (0, 0))) :
    (((((W.setCell ⟨A, 0, none⟩ c0).setCell ⟨A, 1, none⟩ c1).setCell ⟨A, 2, none⟩ c2).setCell ⟨A, 3, none⟩ c3).setCell ⟨A, 4, none⟩ c4).heap[A]? = some (.cells #[c0, c1, c2, c3, c4] 36 (0, 0)) := by
  have h0 := heap_set (i := 0) h c0
  have h1 := heap_set (i := 1) h0 c1
  have h2 := heap_set (i := 2) h1 c2
  have h3 := heap_set (i := 3) h2 c3
  have h4 := heap_set (i := 4) h3 c4
  rw [h4]
  simp
theorem five_below {w W : World} {A : Nat} {c0 c1 c2 c3 c4 : Value} (h : Below w.heap.size w W) (hA : w.heap.size ≤ A) :
    Below w.heap.size w (((((W.setCell ⟨A, 0, none⟩ c0).setCell ⟨A, 1, none⟩ c1).setCell ⟨A, 2, none⟩ c2).setCell ⟨A, 3, none⟩ c3).setCell ⟨A, 4, none⟩ c4) :=
  ((((h.setCell (p := ⟨A, 0, none⟩) hA c0).setCell (p := ⟨A, 1, none⟩) hA c1).setCell (p := ⟨A, 2, none⟩) hA c2).setCell (p := ⟨A, 3, none⟩) hA c3).setCell (p := ⟨A, 4, none⟩) hA c4
theorem stf (W : World) (a : Addr) (b : Nat) (m : Mode) : (store a (.float .f64 b) m).run Try.prog W = stored Try.prog W a (.float .f64 b) m := run_store Try.prog W a _ m rfl
theorem results36 {W : World} {A : Nat} {cs tmps : Array Value} (hp : tmps.getD 2 undef = .pointer (some ⟨A, 0, none⟩)) (hg : W.heap[A]? = some (.cells cs 36 (0, 0))) (hc : cs.size = 5) : (results Try.f36 tmps).run Try.prog W = .ok (.agg cs) W :=
  results_cell_row Try.results36 _ _ A 36 _ (0, 0) _ hp hg Try.underlying36 rfl (by rw [hc]; kernel_rfl)
set_option maxRecDepth 100000 in
set_option maxHeartbeats 4000000 in
theorem sumUp_any (v : Value) (R : List Int) (w : World) (h : RowAt .i64 w v R) (hk : RkOk R) : Calls Try.prog 36 #[v] w fun x w' => x = .returned (.agg (rkV R)) ∧ Below w.heap.size w w' := by
  have H := hide h
  obtain ⟨ao, cap, rfl, hcap, h63, hq⟩ := h
  have hsf := stf
  have HK := hide hk
  obtain ⟨n, hn⟩ : ∃ n, n = R.length := ⟨_, rfl⟩
  have HN := hide hn
  have hnl : (n : Int) ≤ 2000 := by rw [hn]; have := hk.1; omega
  rw [← hn] at hcap H ⊢
  clear hk hq
  by_cases h0 : n = 0
  · have HV : Hid (rkV R = zr) := by show _ = _; unfold rkV; rw [if_pos (by rw [← hn]; exact h0)]
    subst h0
    clear hn
    go_enter Try.func36, Try.ntmps36
    go_wp2_with fail
    have hh := heap_new w (.cells #[.int .i64 0, .int .i64 0, .int .i64 0, .float .f64 0, .float .f64 0] 36)
    exact bodyPost_ret (results36 rfl hh rfl) rfl ⟨by rw [HV.out]; rfl, below_alloc (Below.refl _ _) _⟩
  · have HRN : Hid (R.length ≠ 0) := by rw [← hn]; exact h0
    have hnb : ((n : Int) == 0) = false := by simp [h0]
    have HV : Hid (rkV R = #[.int .i64 R.length, .int .i64 (mx R R.length), .int .i64 (sm R R.length), .float .f64 (mnF R), .float .f64 (divF (vs (mnF R) R R.length) (fl R.length))]) := by show _ = _; unfold rkV; rw [if_neg HRN.out]
    clear hn h0
    go_enter Try.func36, Try.ntmps36
    go_wp2_with fail
    have HSU : Hid (SU w ((w.alloc (.cells #[.int .i64 0, .int .i64 0, .int .i64 0, .float .f64 0, .float .f64 0] 36)).alloc (.cells #[.int .i64 (n : Int), .int .i64 0, .int .i64 0, .float .f64 0, .float .f64 0] 36)) w.heap.size (w.heap.size + 1) #[.int .i64 (n : Int), .int .i64 (mx R 0), .int .i64 (sm R 0), .float .f64 0, .float .f64 0]) := by
      refine ⟨below_alloc (below_alloc (Below.refl _ _) _) _, Nat.le_refl _, by omega, by omega, ?_, ?_⟩
      · exact (Below.heap_alloc _ _ _ (by simp)).trans (heap_new _ _)
      · have := heap_new (w.alloc (.cells #[.int .i64 0, .int .i64 0, .int .i64 0, .float .f64 0, .float .f64 0] 36)) (.cells #[.int .i64 (n : Int), .int .i64 0, .int .i64 0, .float .f64 0, .float .f64 0] 36)
        rw [show (w.alloc (.cells #[.int .i64 0, .int .i64 0, .int .i64 0, .float .f64 0, .float .f64 0] 36)).heap.size = w.heap.size + 1 by simp] at this
        exact this
    generalize ((w.alloc (.cells #[.int .i64 0, .int .i64 0, .int .i64 0, .float .f64 0, .float .f64 0] 36)).alloc (.cells #[.int .i64 (n : Int), .int .i64 0, .int .i64 0, .float .f64 0, .float .f64 0] 36)) = w2 at HSU ⊢
    generalize hB : w.heap.size + 1 = B at HSU ⊢
    generalize hA : w.heap.size = A at HSU ⊢
    have HAE := hide hA
    clear hA hB
    go_loopw [20] (fun t wr => ∃ i : Nat, i ≤ n ∧ t = .int .i64 (i : Int) ∧ SU w wr A B #[.int .i64 (n : Int), .int .i64 (mx R i), .int .i64 (sm R i), .float .f64 0, .float .f64 0]) (fun t _ => n - (RowKit.intOf t).toNat)
    case atStart => exact ⟨0, Nat.zero_le _, rfl, HSU.out⟩
    case round =>
      clear HSU
      obtain ⟨i, hin, rfl, hsu⟩ := hrel
      have HS := hide hsu
      clear hsu
      have hsb := sm_bd HK.out i (by rw [← HN.out]; exact hin)
      by_cases hlt : i < n
      · have hli : (i : Int) < (n : Int) := by omega
        obtain ⟨go, po, co, e1, e18, x1⟩ := (H.out.below HS.out.bel).cellAt i (by rw [← HN.out]; exact hlt)
        simp only [Value.slice.injEq] at e1
        obtain ⟨rfl, he17, rfl⟩ := e1
        clear he17 e18
        have hrb := HK.out.2 i (by rw [← HN.out]; exact hlt)
        have HG : Hid (go < wr.heap.size) := block_of_cell x1
        have c1 := HS.out.cell 1 rfl
        have c2 := HS.out.cell 2 rfl
        have f1 := HS.out.free
        have HT := hide ((HS.out.set 1 (.int .i64 (max (mx R i) (at_ R i)))).set 2 (.int .i64 (sm R i + at_ R i)))
        have HM1 : Hid (mx R (i + 1) = max (mx R i) (at_ R i)) := rfl
        have HM2 : Hid (sm R (i + 1) = sm R i + at_ R i) := rfl
        generalize mx R i = mxi at c1 HT HM1
        generalize sm R i = smi at c2 HT HM2 hsb
        generalize at_ R i = ri at x1 HT HM1 HM2 hrb
        have hs1 : -9223372036854775808 ≤ smi + ri := by omega
        have hs2 : smi + ri ≤ 9223372036854775807 := by omega
        clear hsb hrb
        go_wp2_with fail
        exact ⟨⟨i + 1, by omega, by simp, by rw [HM1.out, HM2.out]; exact HT.out⟩, by simp [RowKit.intOf]; omega⟩
      · obtain rfl : n = i := by omega
        have hdiv : ∀ W, (binOp .quo 34 (.float .f64 (floatOfInt .f64 (sm R n))) (.float .f64 (floatOfInt .f64 (n : Int)))).run Try.prog W = .ok (.float .f64 (mnF R)) W := fun W => run_float_arith W .quo 34 .f64 _ _ _ (by rw [HN.out]; exact (mn_ok HK.out HRN.out).1)
        have hvar : ∀ W, (binOp .quo 34 (.float .f64 (vs (mnF R) R n)) (.float .f64 (floatOfInt .f64 (n : Int)))).run Try.prog W = .ok (.float .f64 (divF (vs (mnF R) R R.length) (fl R.length))) W := fun W => run_float_arith W .quo 34 .f64 _ _ _ (by rw [HN.out]; exact (vr_ok HK.out HRN.out).1)
        generalize divF (vs (mnF R) R R.length) (fl R.length) = vr at hvar HV
        rw [← HN.out] at HV
        have c0 := HS.out.cell 0 rfl
        have c2 := HS.out.cell 2 rfl
        have c3 := HS.out.cell 3 rfl
        have f1 := HS.out.free
        have HT : Hid (SU w (wr.setCell ⟨B, 3, none⟩ (.float .f64 (mnF R))) A B #[.int .i64 (n : Int), .int .i64 (mx R n), .int .i64 (sm R n), .float .f64 (mnF R), .float .f64 0]) := HS.out.set 3 (.float .f64 (mnF R))
        clear HS
        go_wp2_with fail
        generalize (wr.setCell ⟨B, 3, none⟩ (.float .f64 (mnF R))) = w3 at HT ⊢
        clear c0 c2 c3 f1 hdiv
        go_loopw [7, 46] (fun sq t wr => ∃ i : Nat, i ≤ n ∧ sq = .float .f64 (vs (mnF R) R i) ∧ t = .int .i64 (i : Int) ∧ SU w wr A B #[.int .i64 (n : Int), .int .i64 (mx R n), .int .i64 (sm R n), .float .f64 (mnF R), .float .f64 0]) (fun _ t _ => n - (RowKit.intOf t).toNat)
        case atStart => exact ⟨0, Nat.zero_le _, rfl, rfl, HT.out⟩
        case round =>
          clear HT
          obtain ⟨i, hin2, rfl, rfl, hsu⟩ := hrel
          have HS := hide hsu
          clear hsu
          by_cases hlt2 : i < n
          · have hli : (i : Int) < (n : Int) := by omega
            obtain ⟨go, po, co, e1, e18, x1⟩ := (H.out.below HS.out.bel).cellAt i (by rw [← HN.out]; exact hlt2)
            simp only [Value.slice.injEq] at e1
            obtain ⟨rfl, he17, rfl⟩ := e1
            clear he17 e18
            have hir : i < R.length := by rw [← HN.out]; exact hlt2
            have hsub : ∀ W, (binOp .sub 34 (.float .f64 (floatOfInt .f64 (at_ R i))) (.float .f64 (mnF R))).run Try.prog W = .ok (.float .f64 (dv (mnF R) (at_ R i))) W := fun W => run_float_arith W .sub 34 .f64 _ _ _ (dv_ok HK.out HRN.out hir).1
            have hmul : ∀ W, (binOp .mul 34 (.float .f64 (dv (mnF R) (at_ R i))) (.float .f64 (dv (mnF R) (at_ R i)))).run Try.prog W = .ok (.float .f64 (mulF (dv (mnF R) (at_ R i)) (dv (mnF R) (at_ R i)))) W := fun W => run_float_arith W .mul 34 .f64 _ _ _ (vs_add HK.out HRN.out hir).1
            have hadd : ∀ W, (binOp .add 34 (.float .f64 (vs (mnF R) R i)) (.float .f64 (mulF (dv (mnF R) (at_ R i)) (dv (mnF R) (at_ R i))))).run Try.prog W = .ok (.float .f64 (vs (mnF R) R (i + 1))) W := fun W => run_float_arith W .add 34 .f64 _ _ _ (vs_add HK.out HRN.out hir).2
            have c3 := HS.out.cell 3 rfl
            clear hir
            go_wp2_with fail
            exact ⟨⟨i + 1, by omega, rfl, by simp, HS.out⟩, by simp [RowKit.intOf]; omega⟩
          · obtain rfl : n = i := by omega
            have c0 := HS.out.cell 0 rfl
            have c1 := HS.out.cell 1 rfl
            have c2 := HS.out.cell 2 rfl
            have c3 := HS.out.cell 3 rfl
            have c4 := HS.out.cell 4 rfl
            have f1 := HS.out.free
            have f2 := HS.out.freeA
            have d0 := HS.out.rcell 0 rfl
            have d1 := HS.out.rcell 1 rfl
            have d2 := HS.out.rcell 2 rfl
            have d3 := HS.out.rcell 3 rfl
            have d4 := HS.out.rcell 4 rfl
            have hAB : ¬ A = B := HS.out.ne
            have hBA : ¬ B = A := fun e => HS.out.ne e.symm
            have HT : Hid (SU w (wr.setCell ⟨B, 4, none⟩ (.float .f64 vr)) A B #[.int .i64 (n : Int), .int .i64 (mx R n), .int .i64 (sm R n), .float .f64 (mnF R), .float .f64 vr]) := HS.out.set 4 (.float .f64 vr)
            go_wp2_with fail
            exact bodyPost_ret (results36 rfl (five_set HT.out.res) rfl) rfl ⟨by rw [HV.out], five_below HT.out.bel HT.out.geA⟩
end Go.Proofs.Ytfoeljcgbfpknaa
