/- slices.Clone of a list, nil or not; graph.Row. -/
import Derived.Test.YtmagigmcbegmiaaGR1
import Derived.Test.YtmagigmcbegmiaaRoom
import Derived.Test.YtmagigmcbegmiaaChecksWalk
import Derived.Deep.RegionHeld3
import Derived.BigQuiet
namespace Go.Proofs.Ytmagigmcbegmiaa
open Go Go.RowKit Go.Lib
set_option linter.unusedVariables false
set_option linter.unusedSimpArgs false
set_option maxRecDepth 100000 in
theorem cloneIn_any (ao : Option Addr) (c : Nat) (xs : List Int) (w : World) (hr : RowAt .i64 w (.slice ao xs.length c) xs) (hl : xs.length ≤ 4194305) :
    Calls Try.prog 58 #[.slice ao xs.length c] w fun e w' => ∃ lo lc, e = .returned (.slice lo xs.length lc) ∧ w'.ownsRow w.heap.size 3 1 (.slice lo xs.length lc) xs.length (xs.map (Value.int .i64)) ∧ Below w.heap.size w w' := by
  obtain ⟨i0, hi, hz0, hz1, hz2⟩ := info_parts Try.info3
  have q22 : ∀ (w : World) (a : Option Addr) (n c n' c' : Nat), (binOp .eql 22 (.slice a n c) (.slice none n' c')).run Try.prog w = .ok (.bool a.isNone) w := fun w a n c n' c' => Lib.run_eql_slice_nil w _ _ a n c n' c' Try.underlying22
  have HR := hide hr
  cases ao with
  | none =>
    have hx : xs = [] := by
      obtain ⟨ao, c', he, h1, h2, h3, h4⟩ := hr
      simp only [Value.slice.injEq, true_and] at he
      obtain ⟨rfl, rfl⟩ := he
      have := h3 rfl
      exact List.eq_nil_of_length_eq_zero (by omega)
    subst hx
    clear hr
    go_enter Try.func58, Try.ntmps58
    go_wp2_with fail
    go_ret
    exact ⟨none, 0, rfl, World.ownsRow_nil _ _ _ _, Below.refl _ _⟩
  | some a =>
    clear hr
    go_enter Try.func58, Try.ntmps58
    go_wp2_with (at_builtin; refine wpList_fresh rfl _ _ 22 rfl .i64 3 i0 (.int .i64 0) 8 Try.underlying22 hi hz0 hz1 hz2 rfl w.heap.size _ (own_new _ 3 w.heap.size rfl) (by simp) _ xs rfl rfl (HR.out.below (below_alloc (Below.refl _ _) _)) (by omega) (by unfold maxLen; omega) ?_; intro v' w1 hown hbel; have HO := hide hown; have HB := hide hbel; clear hown hbel)
    obtain ⟨lo, lc, rfl⟩ := (RowAt.of_owns HO.out).shape
    go_ret
    exact ⟨lo, lc, rfl, HO.out, below_on (below_alloc (Below.refl _ _) _) HB.out⟩
set_option maxRecDepth 100000 in
theorem cloneUn_any (ao : Option Addr) (c : Nat) (xs : List Int) (w : World) (hr : RowAt .u64 w (.slice ao xs.length c) xs) (hl : xs.length ≤ 4194305) :
    Calls Try.prog 59 #[.slice ao xs.length c] w fun e w' => ∃ lo lc, e = .returned (.slice lo xs.length lc) ∧ w'.ownsRow w.heap.size 48 1 (.slice lo xs.length lc) xs.length (xs.map (Value.int .u64)) ∧ Below w.heap.size w w' := by
  obtain ⟨i0, hi, hz0, hz1, hz2⟩ := info_parts Try.info48
  have q22 : ∀ (w : World) (a : Option Addr) (n c n' c' : Nat), (binOp .eql 23 (.slice a n c) (.slice none n' c')).run Try.prog w = .ok (.bool a.isNone) w := fun w a n c n' c' => Lib.run_eql_slice_nil w _ _ a n c n' c' Try.underlying23
  have HR := hide hr
  cases ao with
  | none =>
    have hx : xs = [] := by
      obtain ⟨ao, c', he, h1, h2, h3, h4⟩ := hr
      simp only [Value.slice.injEq, true_and] at he
      obtain ⟨rfl, rfl⟩ := he
      have := h3 rfl
      exact List.eq_nil_of_length_eq_zero (by omega)
    subst hx
    clear hr
    go_enter Try.func59, Try.ntmps59
    go_wp2_with fail
    go_ret
    exact ⟨none, 0, rfl, World.ownsRow_nil _ _ _ _, Below.refl _ _⟩
  | some a =>
    clear hr
    go_enter Try.func59, Try.ntmps59
    go_wp2_with (at_builtin; refine wpList_fresh rfl _ _ 23 rfl .u64 48 i0 (.int .u64 0) 8 Try.underlying23 hi hz0 hz1 hz2 rfl w.heap.size _ (own_new _ 48 w.heap.size rfl) (by simp) _ xs rfl rfl (HR.out.below (below_alloc (Below.refl _ _) _)) (by omega) (by unfold maxLen; omega) ?_; intro v' w1 hown hbel; have HO := hide hown; have HB := hide hbel; clear hown hbel)
    obtain ⟨lo, lc, rfl⟩ := (RowAt.of_owns HO.out).shape
    go_ret
    exact ⟨lo, lc, rfl, HO.out, below_on (below_alloc (Below.refl _ _) _) HB.out⟩
/-- A part of a list, as the slice expression tells it. -/
theorem RowAt.part {k : IntKind} {w : World} {ao : Option Addr} {n c : Nat} {xs : List Int} (h : RowAt k w (.slice ao n c) xs) (p m : Nat) (hp : p + m ≤ n) : RowAt k w (.slice (if c = p then ao else ao.map (·.add (p * 1))) m (c - p)) ((xs.drop p).take m) := by
  obtain ⟨ao', c', he, h1, h2, h3, h4⟩ := h
  simp only [Value.slice.injEq] at he
  obtain ⟨rfl, hn, rfl⟩ := he
  have hl : ((xs.drop p).take m).length = m := by simp; omega
  refine ⟨_, c - p, by rw [hl], by rw [hl]; omega, by omega, fun e => ?_, fun a ha i hi => ?_⟩
  · by_cases hcp : c = p
    · omega
    · rw [if_neg hcp] at e
      have := h3 (by cases ao with | none => rfl | some a => simp at e)
      omega
  · rw [hl] at hi
    have hcp : ¬ c = p := by omega
    rw [if_neg hcp] at ha
    cases ao with
    | none => simp at ha
    | some b =>
      simp only [Option.map_some, Option.some.injEq] at ha
      subst ha
      have h5 := h4 b rfl (p + i) (by omega)
      have e1 : (b.add (p * 1)).add i = b.add (p + i) := by
        unfold Addr.add
        by_cases hp0 : p = 0 <;> by_cases hi0 : i = 0 <;> simp [hp0, hi0, Nat.add_assoc]
      rw [e1, h5]
      congr 2
      simp [List.getD, List.getElem?_take_of_lt hi, List.getElem?_drop]
theorem part_run (t : TypeId) (ht : Try.prog.underlying t = some (.slice (Try.prog.elem t))) (hs : ∀ w, (sizeOf (Try.prog.elem t)).run Try.prog w = .ok 1 w) (ao : Option Addr) (n c p m : Nat) (hp : p + m ≤ c) (w : World) :
    (Instr.sliceAt t (.slice ao n c) (some (.int .i64 (p : Int))) (some (.int .i64 ((p : Int) + (m : Int)))) none).run Try.prog w = .ok (.slice (if c = p then ao else ao.map (·.add (p * 1))) m (c - p)) w := by
  have e1 : ((p : Int) + (m : Int)).toNat = p + m := by omega
  have h := run_slice_lh (P := Try.prog) (w := w) t ao n c ht .i64 .i64 (p : Int) ((p : Int) + (m : Int)) (by omega) (by omega) (by omega)
  rw [run_sliceAt_slice (h := ht), h, hs]
  simp [sliced, e1]

theorem keep23 {W x : World} {A : Nat} {p0 p1 p2 p3 : Value} (hA : W.heap[A]? = some (.cells #[p0, p1, p2, p3] 25 (0, 0))) (h : Below W.heap.size W x) : x.cell? ⟨A, 2, none⟩ = some p2 ∧ x.cell? ⟨A, 3, none⟩ = some p3 := by
  have hA' := (h.block A (lt_of_heap hA)).trans hA
  exact ⟨cell_of hA' rfl, cell_of hA' rfl⟩
theorem heap_new' (X : World) (o : Obj) (b : Nat) (hb : b = X.heap.size) : (X.alloc o).heap[b]? = some o := by subst hb; exact World.alloc_heap_new X o
theorem up_alloc {X : World} {b : Nat} {o : Obj} (o' : Obj) (h : X.heap[b]? = some o) : (X.alloc o').heap[b]? = some o := (Below.heap_alloc _ _ _ (lt_of_heap h)).trans h
theorem up_drew {X : World} {b : Nat} {o : Obj} (h : X.heap[b]? = some o) : X.drew.heap[b]? = some o := h
theorem up_bel {X Y : World} {b : Nat} {o : Obj} (hb : Below X.heap.size X Y) (h : X.heap[b]? = some o) : Y.heap[b]? = some o := (hb.block _ (lt_of_heap h)).trans h
theorem up_owns {X Y : World} {B e n : Nat} {v : Value} {cs : List Value} (hb : Below X.heap.size X Y) (h : X.ownsRow B e 1 v n cs) : Y.ownsRow B e 1 v n cs := by
  obtain ⟨h0, hn | ⟨g, cap, cur, rfl, hg, hc, r⟩⟩ := h
  · exact ⟨h0, .inl hn⟩
  · exact ⟨h0, .inr ⟨g, cap, cur, rfl, hg, (hb.block g (lt_of_heap hc)).trans hc, r⟩⟩
theorem owns_low {X : World} {B B' e n : Nat} {v : Value} {cs : List Value} (hB : B' ≤ B) (h : X.ownsRow B e 1 v n cs) : X.ownsRow B' e 1 v n cs := by
  obtain ⟨h0, hn | ⟨g, cap, cur, rfl, hg, hc, r⟩⟩ := h
  · exact ⟨h0, .inl hn⟩
  · exact ⟨h0, .inr ⟨g, cap, cur, rfl, Nat.le_trans hB hg, hc, r⟩⟩
theorem owns_set {X : World} {B e n b i : Nat} {v u : Value} {cs : List Value} {o : Array Value} {t : TypeId} {fr : Nat × Nat} (h : X.ownsRow B e 1 v n cs) (hb : X.heap[b]? = some (.cells o t fr)) (ht : ¬ t = e) : (X.setCell ⟨b, i, none⟩ u).ownsRow B e 1 v n cs := by
  obtain ⟨h0, hn | ⟨g, cap, cur, rfl, hg, hc, r⟩⟩ := h
  · exact ⟨h0, .inl hn⟩
  · refine ⟨h0, .inr ⟨g, cap, cur, rfl, hg, (Below.heap_setCell _ _ _ _ ?_).trans hc, r⟩⟩
    intro hgb
    have : g = b := hgb
    subst this
    rw [hb] at hc
    simp only [Option.some.injEq, Obj.cells.injEq] at hc
    exact ht hc.2.1
/-- What Row has made of its row, its copy's struct filled. -/
theorem rowZ_end {w V : World} {b9 Bs m : Nat} {q0 q1 q2 q3 v1 v2 : Value} {tl wt : List Int} (hz : V.heap[b9]? = some (.cells #[q0, q1, q2, q3] 25 (0, 0))) (hs : V.heap[Bs]? = some (.cells #[.int .i64 0, .int .i64 m] 3 (0, 0)))
    (ht : V.ownsRow w.heap.size 3 1 v1 m (tl.map (Value.int .i64))) (hu : V.ownsRow w.heap.size 48 1 v2 m (wt.map (Value.int .u64))) (hb : Below w.heap.size w V) (h9 : w.heap.size ≤ b9) (Z : World)
    (hZ : Z = (((V.setCell ⟨b9, 0, none⟩ (.int .i64 1)).setCell ⟨b9, 1, none⟩ (.slice (some ⟨Bs, 0, none⟩) 2 2)).setCell ⟨b9, 2, none⟩ v1).setCell ⟨b9, 3, none⟩ v2) :
    Z.heap[b9]? = some (.cells #[.int .i64 1, .slice (some ⟨Bs, 0, none⟩) 2 2, v1, v2] 25 (0, 0)) ∧ Z.heap[Bs]? = some (.cells #[.int .i64 0, .int .i64 m] 3 (0, 0)) ∧ Z.ownsRow w.heap.size 3 1 v1 m (tl.map (Value.int .i64)) ∧ Z.ownsRow w.heap.size 48 1 v2 m (wt.map (Value.int .u64)) ∧ Below w.heap.size w Z := by
  subst hZ
  have hne : ¬ Bs = b9 := by
    intro e
    rw [e, hz] at hs
    simp at hs
  have a1 := heap_set (i := 0) hz (.int .i64 1)
  have a2 := heap_set (i := 1) a1 (.slice (some ⟨Bs, 0, none⟩) 2 2)
  have a3 := heap_set (i := 2) a2 v1
  have a4 := heap_set (i := 3) a3 v2
  refine ⟨?_, ?_, ?_, ?_, ?_⟩
  · rw [a4]; simp
  · exact (Below.heap_setCell _ _ _ _ hne).trans ((Below.heap_setCell _ _ _ _ hne).trans ((Below.heap_setCell _ _ _ _ hne).trans ((Below.heap_setCell _ _ _ _ hne).trans hs)))
  · exact owns_set (owns_set (owns_set (owns_set ht hz (by decide)) a1 (by decide)) a2 (by decide)) a3 (by decide)
  · exact owns_set (owns_set (owns_set (owns_set hu hz (by decide)) a1 (by decide)) a2 (by decide)) a3 (by decide)
  · exact (((hb.setCell (p := ⟨b9, 0, none⟩) h9 _).setCell (p := ⟨b9, 1, none⟩) h9 _).setCell (p := ⟨b9, 2, none⟩) h9 _).setCell (p := ⟨b9, 3, none⟩) h9 _
end Go.Proofs.Ytmagigmcbegmiaa
