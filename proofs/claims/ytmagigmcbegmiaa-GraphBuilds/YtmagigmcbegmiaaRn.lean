/- graph.numbers of an order: where each vertex stands. -/
import Derived.Test.YtmagigmcbegmiaaGT2
import Derived.Test.YtmagigmcbegmiaaGU
import Derived.BigRegion
import Derived.BigQuiet
namespace Go.Proofs.Ytmagigmcbegmiaa
open Go.RowKit Go.Lib
set_option linter.unusedVariables false
set_option linter.unusedSimpArgs false
/-- An order of the vertices, and where each stands. -/
structure Prm (n : Nat) (o : List Int) (P : Nat → Nat) : Prop where
  len : o.length = n
  rng : ∀ i, i < n → ∃ v : Nat, at_ o i = (v : Int) ∧ v < n ∧ P v = i
  pos : ∀ v, v < n → P v < n ∧ at_ o (P v) = (v : Int)
def plL (P : Nat → Nat) (n i : Nat) : List Int := tab n (fun v => if P v < i then (P v : Int) else 0)
theorem plL_zero (P : Nat → Nat) (n : Nat) : plL P n 0 = tab n (fun _ => 0) := tab_congr fun v _ => if_neg (by omega)
theorem plL_all {P : Nat → Nat} {n : Nat} (h : ∀ v, v < n → P v < n) : plL P n n = tab n (fun v => (P v : Int)) := tab_congr fun v hv => if_pos (h v hv)
theorem plL_set {P : Nat → Nat} {n i q : Nat} (hq : P q = i) (hu : ∀ v, v < n → P v = i → v = q) : (plL P n i).set q (i : Int) = plL P n (i + 1) := by
  unfold plL
  rw [tab_set]
  refine tab_congr fun v hv => ?_
  by_cases h : v = q
  · subst h
    rw [if_pos rfl, if_pos (by omega), hq]
  · rw [if_neg h]
    by_cases h2 : P v < i
    · rw [if_pos h2, if_pos (by omega)]
    · rw [if_neg h2, if_neg (by intro h3; exact h (hu v hv (by omega)))]
/-- Who is known so far. -/
def knL (P : Nat → Nat) (n i : Nat) : List Bool := (List.range n).map (fun v => decide (P v < i))
theorem knL_len (P : Nat → Nat) (n i : Nat) : (knL P n i).length = n := by simp [knL]
theorem knL_at {P : Nat → Nat} {n i v : Nat} (hv : v < n) : bAt (knL P n i) v = decide (P v < i) := by simp [bAt, knL, hv]
theorem knL_set {P : Nat → Nat} {n i q : Nat} (hq : P q = i) (hu : ∀ v, v < n → P v = i → v = q) : (knL P n i).set q true = knL P n (i + 1) := by
  apply List.ext_getElem?
  intro v
  rw [List.getElem?_set]
  unfold knL
  by_cases hv : v < n
  · by_cases h : q = v
    · subst h
      simp [hv, hq]
    · rw [if_neg h]
      simp [hv]
      have := hu v hv
      by_cases h2 : P v < i
      · simp [h2, show P v < i + 1 by omega]
      · have : ¬ P v < i + 1 := fun h3 => h (this (by omega)).symm
        simp [h2, this]
  · by_cases h : q = v
    · subst h; simp [hv]
    · rw [if_neg h]; simp [hv]
structure NM (w wr : World) (L : List Int) (B : List Bool) : Prop where
  bel : Below w.heap.size w wr
  a : Arr wr w.heap.size L
  b : ArrB wr (w.heap.size + 1) B
section
variable {w wr X : World} {L : List Int} {B : List Bool}
theorem NM.on (h : NM w wr L B) (hb : Below wr.heap.size wr X) : NM w X L B := ⟨below_on h.bel hb, (hb.block _ (lt_of_heap h.a)).trans h.a, (hb.block _ (lt_of_heap h.b)).trans h.b⟩
theorem NM.put (h : NM w wr L B) (i j : Nat) (x : Int) (y : Bool) : NM w ((wr.setCell ⟨w.heap.size, i, none⟩ (.int .i64 x)).setCell ⟨w.heap.size + 1, j, none⟩ (.bool y)) (L.set i x) (B.set j y) := by
  have hc : Chg (fun k => w.heap.size ≤ k) wr ((wr.setCell ⟨w.heap.size, i, none⟩ (.int .i64 x)).setCell ⟨w.heap.size + 1, j, none⟩ (.bool y)) := ((Chg.refl _ wr).setCell (p := ⟨w.heap.size, i, none⟩) (Nat.le_refl _) _).setCell (p := ⟨w.heap.size + 1, j, none⟩) (Nat.le_succ _) _
  refine ⟨Chg.below h.bel hc (fun k hk => hk) h.bel.size, ?_, ?_⟩
  · have := h.a.put i x
    unfold Arr at this ⊢
    rw [Below.heap_setCell _ _ _ _ (by show w.heap.size ≠ w.heap.size + 1; omega)]
    exact this
  · have h2 : ArrB (wr.setCell ⟨w.heap.size, i, none⟩ (.int .i64 x)) (w.heap.size + 1) B := by
      unfold ArrB
      rw [Below.heap_setCell _ _ _ _ (by show w.heap.size + 1 ≠ w.heap.size; omega)]
      exact h.b
    exact h2.put j y
end
theorem knL_zero (P : Nat → Nat) (n : Nat) : knL P n 0 = fls n := by
  unfold knL fls
  apply List.ext_getElem
  · simp
  · intro i h1 h2
    simp
def NumW (w : World) (n : Nat) (P : Nat → Nat) (e : Ending) (w' : World) : Prop :=
  ∃ A, e = .returned (.tuple #[.slice (some ⟨A, 0, none⟩) n n, .bool true]) ∧ Arr w' A (tab n (fun v => (P v : Int))) ∧ Below w.heap.size w w' ∧ w.heap.size ≤ A
set_option maxRecDepth 100000 in
set_option maxHeartbeats 4000000 in
theorem numbers_good (n : Nat) (hn : n ≤ 1048576) (ov : Value) (o : List Int) (P : Nat → Nat) (w : World) (hp : Prm n o P) (ho : RowAt .i64 w ov o) : Calls Try.prog 63 #[.int .i64 n, ov] w (NumW w n P) := by
  obtain ⟨oo, oc, rfl⟩ := ho.shape
  rw [hp.len] at ho ⊢
  have hmi := run_makeI n (by omega)
  have hmb := run_makeB n (by omega)
  have HP := hide hp; have HO := hide ho
  obtain ⟨V, hV⟩ : ∃ V, V = (w.alloc (.cells (madeCells #[.int .i64 0] n) 3)).alloc (.cells (madeCells #[.bool false] n) 4) := ⟨_, rfl⟩
  have HNM : Hid (NM w V (plL P n 0) (knL P n 0)) := by
    have hs : (w.alloc (.cells (madeCells #[.int .i64 0] n) 3)).heap.size = w.heap.size + 1 := by simp
    refine ⟨by rw [hV]; exact below_alloc (below_alloc (Below.refl _ _) _) _, ?_, ?_⟩
    · rw [plL_zero]
      refine arr_new ?_
      rw [hV]
      exact (Below.heap_alloc _ _ _ (by rw [hs]; omega)).trans (heap_new _ _)
    · unfold ArrB
      rw [knL_zero, ← made_bools, hV]
      have := heap_new (w.alloc (.cells (madeCells #[.int .i64 0] n) 3)) (.cells (madeCells #[.bool false] n) 4)
      rw [hs] at this; exact this
  have hnn : ((n : Int) != (n : Int)) = false := by simp
  clear hp ho
  go_enter Try.func63, Try.ntmps63
  go_wp2_with fail
  rw [← hV]
  clear hV hmi hmb hnn
  go_loopw [20, 8, 9] (fun t _ _ wr => ∃ i : Nat, t = .int .i64 (i : Int) ∧ i ≤ n ∧ NM w wr (plL P n i) (knL P n i)) (fun t _ _ _ => n - (RowKit.intOf t).toNat)
  case atStart => exact ⟨0, rfl, Nat.zero_le _, HNM.out⟩
  case round =>
    obtain ⟨i, rfl, hi, hnm⟩ := hrel
    have HN := hide hnm
    clear hnm HNM
    by_cases hlt : i < n
    · obtain ⟨g, o2, c2, he, _, hx⟩ := (HO.out.below HN.out.bel).cellAt i (by rw [HP.out.len]; exact hlt)
      rw [HP.out.len] at he
      simp only [Value.slice.injEq, true_and] at he
      obtain ⟨rfl, rfl⟩ := he
      obtain ⟨q, hq1, hq2, hq3⟩ := HP.out.rng i hlt
      rw [hq1] at hx
      have hu : ∀ v, v < n → P v = i → v = q := fun v' hv' he => by
        have h1 := (HP.out.pos v' hv').2
        rw [he, hq1] at h1
        omega
      have HS1 := hide (plL_set hq3 hu)
      have HS2 := hide (knL_set hq3 hu)
      have yb := HN.out.b.cell q (by rw [knL_len]; exact hq2)
      rw [knL_at hq2, hq3, decide_eq_false (Nat.lt_irrefl i)] at yb
      have yc := HN.out.a.cell q (by unfold plL; rw [tab_length]; exact hq2)
      have yf := HN.out.a.free q
      have yg := HN.out.b.free q
      clear hq1 hq3 hu
      have hii : (i : Int) < (n : Int) := by omega
      have hqi : (q : Int) < (n : Int) := by omega
      have HV := hide (isV_any n q wr)
      rw [show decide (IsV (n : Int) (q : Int)) = true from decide_eq_true ⟨by omega, by omega⟩] at HV
      go_wp2_with (first | (go_at_call 49; refine HV.out.mono ?_; rintro e w9 ⟨rfl, hw9⟩; subst hw9) | fail)
      refine ⟨⟨i + 1, by simp, by omega, ?_⟩, by simp [RowKit.intOf]; omega⟩
      rw [← HS1.out, ← HS2.out]
      exact HN.out.put _ _ _ _
    · obtain rfl : n = i := by omega
      have ha := HN.out.a
      rw [plL_all (fun v hv => (HP.out.pos v hv).1)] at ha
      have HA := hide ha
      clear ha
      go_wp2_with fail
      go_ret2
      exact ⟨w.heap.size, rfl, HA.out, HN.out.bel, Nat.le_refl _⟩
end Go.Proofs.Ytmagigmcbegmiaa
