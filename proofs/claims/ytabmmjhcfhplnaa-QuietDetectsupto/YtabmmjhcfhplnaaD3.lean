/- QuietDetects: the workers in memory; next. -/
import Derived.Test.YtabmmjhcfhplnaaD2
import Derived.Test.YtabmmjhcfhplnaaQ6
import Derived.Deep.RegionHeld3
namespace Go.Proofs.Ytabmmjhcfhplnaa
open Go.RowKit Go.Lib Go.MuLone
set_option linter.unusedVariables false
set_option linter.unusedSimpArgs false
/-- Four values a worker. -/
structure W4 where
  a : Value
  c : Value
  o : Value
  l : Value
def upd (f : Nat → W4) (k : Nat) (x : W4) : Nat → W4 := fun i => if i = k then x else f i
theorem upd_same (f : Nat → W4) (k : Nat) (x : W4) : upd f k x k = x := by simp [upd]
theorem upd_upd (f : Nat → W4) (k : Nat) (x y : W4) : upd (upd f k x) k y = upd f k y := by
  funext i
  unfold upd
  split <;> rfl
def WQ (w : World) (G n : Nat) (f : Nat → W4) : Prop :=
  ∃ A : Array Value, w.heap[G]? = some (.cells A 32 (0, 0)) ∧ A.size = n * 4 ∧ ∀ k, k < n → A[k * 4]? = some (f k).a ∧ A[k * 4 + 1]? = some (f k).c ∧ A[k * 4 + 2]? = some (f k).o ∧ A[k * 4 + 3]? = some (f k).l
section
variable {w w' : World} {G n k : Nat} {f : Nat → W4}
theorem WQ.cells (h : WQ w G n f) (hk : k < n) : w.cell? ⟨G, k * 4, none⟩ = some (f k).a ∧ w.cell? ⟨G, k * 4 + 1, none⟩ = some (f k).c ∧ w.cell? ⟨G, k * 4 + 2, none⟩ = some (f k).o ∧ w.cell? ⟨G, k * 4 + 3, none⟩ = some (f k).l := by
  obtain ⟨A, h1, h2, h3⟩ := h
  obtain ⟨a, b, c, d⟩ := h3 k hk
  exact ⟨cell_of h1 a, cell_of h1 b, cell_of h1 c, cell_of h1 d⟩
theorem WQ.free (h : WQ w G n f) (i : Nat) : w.frozen? ⟨G, i, none⟩ = false := by
  obtain ⟨A, h1, _⟩ := h
  exact free_of h1 i
theorem WQ.lt (h : WQ w G n f) : G < w.heap.size := by
  obtain ⟨A, h1, _⟩ := h
  exact lt_of_heap h1
theorem WQ.kept (h : WQ w G n f) (hb : w'.heap[G]? = w.heap[G]?) : WQ w' G n f := by
  obtain ⟨A, h1, h2⟩ := h
  exact ⟨A, hb.trans h1, h2⟩
theorem set_other {A : Array Value} {i j : Nat} {v : Value} (h : i ≠ j) : (A.setIfInBounds i v)[j]? = A[j]? := by
  rw [Array.getElem?_setIfInBounds]; simp [h]
theorem set_same {A : Array Value} {i : Nat} {v : Value} (h : i < A.size) : (A.setIfInBounds i v)[i]? = some v := by
  rw [Array.getElem?_setIfInBounds]; simp [h]
theorem WQ.set0 (h : WQ w G n f) (hk : k < n) (v : Value) : WQ (w.setCell ⟨G, k * 4, none⟩ v) G n (upd f k ⟨v, (f k).c, (f k).o, (f k).l⟩) := by
  obtain ⟨A, h1, h2, h3⟩ := h
  refine ⟨_, heap_set h1 v, by rw [Array.size_setIfInBounds]; exact h2, fun i hi => ?_⟩
  obtain ⟨a, b, c, d⟩ := h3 i hi
  unfold upd
  rw [set_other (show k * 4 ≠ i * 4 + 1 by omega), set_other (show k * 4 ≠ i * 4 + 2 by omega), set_other (show k * 4 ≠ i * 4 + 3 by omega)]
  by_cases e : i = k
  · subst e; rw [if_pos rfl, set_same (by omega)]; exact ⟨rfl, b, c, d⟩
  · rw [if_neg e, set_other (by omega)]; exact ⟨a, b, c, d⟩
theorem WQ.set1 (h : WQ w G n f) (hk : k < n) (v : Value) : WQ (w.setCell ⟨G, k * 4 + 1, none⟩ v) G n (upd f k ⟨(f k).a, v, (f k).o, (f k).l⟩) := by
  obtain ⟨A, h1, h2, h3⟩ := h
  refine ⟨_, heap_set h1 v, by rw [Array.size_setIfInBounds]; exact h2, fun i hi => ?_⟩
  obtain ⟨a, b, c, d⟩ := h3 i hi
  unfold upd
  rw [set_other (show k * 4 + 1 ≠ i * 4 by omega), set_other (show k * 4 + 1 ≠ i * 4 + 2 by omega), set_other (show k * 4 + 1 ≠ i * 4 + 3 by omega)]
  by_cases e : i = k
  · subst e; rw [if_pos rfl, set_same (by omega)]; exact ⟨a, rfl, c, d⟩
  · rw [if_neg e, set_other (by omega)]; exact ⟨a, b, c, d⟩
theorem WQ.set2 (h : WQ w G n f) (hk : k < n) (v : Value) : WQ (w.setCell ⟨G, k * 4 + 2, none⟩ v) G n (upd f k ⟨(f k).a, (f k).c, v, (f k).l⟩) := by
  obtain ⟨A, h1, h2, h3⟩ := h
  refine ⟨_, heap_set h1 v, by rw [Array.size_setIfInBounds]; exact h2, fun i hi => ?_⟩
  obtain ⟨a, b, c, d⟩ := h3 i hi
  unfold upd
  rw [set_other (show k * 4 + 2 ≠ i * 4 by omega), set_other (show k * 4 + 2 ≠ i * 4 + 1 by omega), set_other (show k * 4 + 2 ≠ i * 4 + 3 by omega)]
  by_cases e : i = k
  · subst e; rw [if_pos rfl, set_same (by omega)]; exact ⟨a, b, rfl, d⟩
  · rw [if_neg e, set_other (by omega)]; exact ⟨a, b, c, d⟩
theorem WQ.set3 (h : WQ w G n f) (hk : k < n) (v : Value) : WQ (w.setCell ⟨G, k * 4 + 3, none⟩ v) G n (upd f k ⟨(f k).a, (f k).c, (f k).o, v⟩) := by
  obtain ⟨A, h1, h2, h3⟩ := h
  refine ⟨_, heap_set h1 v, by rw [Array.size_setIfInBounds]; exact h2, fun i hi => ?_⟩
  obtain ⟨a, b, c, d⟩ := h3 i hi
  unfold upd
  rw [set_other (show k * 4 + 3 ≠ i * 4 by omega), set_other (show k * 4 + 3 ≠ i * 4 + 1 by omega), set_other (show k * 4 + 3 ≠ i * 4 + 2 by omega)]
  by_cases e : i = k
  · subst e; rw [if_pos rfl, set_same (by omega)]; exact ⟨a, b, c, rfl⟩
  · rw [if_neg e, set_other (by omega)]; exact ⟨a, b, c, d⟩
end
/-- What next has made: an operation. -/
def NxP (w : World) (G n : Nat) (f : Nat → W4) (k B : Nat) (t ch : Nat) (lo : Bool) (e : Ending) (w' : World) : Prop :=
  ∃ q, e = .returned (.bool true) ∧ WQ w' G n (upd f k ⟨.int .i64 (t : Int), .int .i64 (ch : Int), .pointer (some ⟨q, 0, none⟩), .bool lo⟩) ∧ w'.heap[q]? = some (QObjV 0 0 (nx (if lo = true then 2 else 1)) 0) ∧ w.heap.size ≤ q ∧ Chg (fun x => x = G) w w'
theorem chg_cell {S : Nat → Prop} {w w' : World} (c : Chg S w w') {g i : Nat} (hS : ¬ S g) (hg : g < w.heap.size) : w'.cell? ⟨g, i, none⟩ = w.cell? ⟨g, i, none⟩ := by
  have := c.block g hg hS
  simp [World.cell?, this]
theorem nx_end {w W w2 : World} {G n k B t ch q : Nat} {f : Nat → W4} {lo : Bool} (hG : G < W.heap.size) (c : Chg (fun x => x = G) w W) (h1 : w2.heap[q]? = some (QObjV 0 0 (nx (if lo = true then 2 else 1)) 0)) (h2 : W.heap.size ≤ q) (h3 : Below W.heap.size W w2) (h4 : WQ (w2.setCell ⟨G, k * 4 + 2, none⟩ (.pointer (some ⟨q, 0, none⟩))) G n (upd f k ⟨.int .i64 (t : Int), .int .i64 (ch : Int), .pointer (some ⟨q, 0, none⟩), .bool lo⟩)) :
    NxP w G n f k B t ch lo (.returned (.bool true)) (w2.setCell ⟨G, k * 4 + 2, none⟩ (.pointer (some ⟨q, 0, none⟩))) := by
  refine ⟨q, rfl, h4, ?_, Nat.le_trans c.size h2, Chg.setCell (S := fun x => x = G) (c.trans (Chg.of_below h3)) (p := ⟨G, k * 4 + 2, none⟩) rfl _⟩
  refine (Below.heap_setCell _ _ _ _ (fun e => ?_)).trans h1
  simp only at e
  omega
theorem nx_call {w W w2 : World} {G n k B t ch q : Nat} {f : Nat → W4} {lo : Bool} (hq : WQ W G n (upd f k ⟨(f k).a, (f k).c, (f k).o, .bool lo⟩)) (hk : k < n) (ha : (f k).a = .int .i64 (t : Int) ∧ (f k).c = .int .i64 (ch : Int)) (c : Chg (fun x => x = G) w W) (h1 : w2.heap[q]? = some (QObjV 0 0 (nx (if lo = true then 2 else 1)) 0)) (h2 : W.heap.size ≤ q) (h3 : Below W.heap.size W w2) :
    w2.cell? ⟨G, k * 4 + 2, none⟩ = some (f k).o ∧ w2.frozen? ⟨G, k * 4 + 2, none⟩ = false ∧ (w2.setCell ⟨G, k * 4 + 2, none⟩ (.pointer (some ⟨q, 0, none⟩))).cell? ⟨G, k * 4 + 2, none⟩ = some (.pointer (some ⟨q, 0, none⟩)) ∧ NxP w G n f k B t ch lo (.returned (.bool true)) (w2.setCell ⟨G, k * 4 + 2, none⟩ (.pointer (some ⟨q, 0, none⟩))) := by
  have hq2 := hq.kept (h3.block G hq.lt)
  have g2 := (hq2.cells hk).2.2.1
  rw [upd_same] at g2
  have hq3 := hq2.set2 hk (.pointer (some ⟨q, 0, none⟩))
  have g3 := (hq3.cells hk).2.2.1
  rw [upd_same] at g3
  rw [upd_upd, upd_same] at hq3
  simp only at hq3
  rw [ha.1, ha.2] at hq3
  exact ⟨g2, hq2.free _, g3, nx_end hq.lt c h1 h2 h3 hq3⟩
set_option maxRecDepth 100000 in
set_option maxHeartbeats 2000000 in
theorem next_hold {w : World} {G n k B gm N cm t ch m : Nat} {f : Nat → W4} (hq : WQ w G n f) (hk : k < n) (ha : (f k).a = .int .i64 (t : Int)) (hc : (f k).c = .int .i64 (ch : Int)) (ht : t < N) (hN : N ≤ cm) (hc3 : w.cell? ⟨gm, t, none⟩ = some (.int .i64 (m : Int))) (hg : gm ≠ G) :
    Calls Try.prog 9 #[.pointer (some ⟨G, k * 4, none⟩), .slice (some ⟨gm, 0, none⟩) N cm, .pointer (some ⟨B, 0, none⟩)] w (NxP w G n f k B t ch (decide (m ≤ ch))) := by
  obtain ⟨c0, c1, c2, c3⟩ := hq.cells hk
  rw [ha] at c0
  rw [hc] at c1
  have f3 := hq.free (k * 4 + 3)
  have hti : (t : Int) < (N : Int) := by omega
  have htc : t < cm := by omega
  have ht0 : ¬ (t : Int) < 0 := by omega
  have hq1 := (hq.set3 hk (.bool (decide (m ≤ ch)))).kept (w' := (w.setCell ⟨G, k * 4 + 3, none⟩ (.bool (decide (m ≤ ch)))).drew) rfl
  have HQ1 := hide hq1
  obtain ⟨d0, d1, d2, d3⟩ := hq1.cells hk
  rw [upd_same] at d0 d1 d2 d3
  simp only at d0 d1 d2 d3
  rw [ha] at d0
  rw [hc] at d1
  have HAC := hide (And.intro ha hc)
  have HC1 : Hid (Chg (fun x => x = G) w (w.setCell ⟨G, k * 4 + 3, none⟩ (.bool (decide (m ≤ ch)))).drew) := (Chg.setCell (S := fun x => x = G) (Chg.refl _ w) (p := ⟨G, k * 4 + 3, none⟩) rfl _).drew
  have hcm : (w.setCell ⟨G, k * 4 + 3, none⟩ (.bool (decide (m ≤ ch)))).drew.cell? ⟨gm, t, none⟩ = some (.int .i64 (m : Int)) := (chg_cell HC1.out hg (block_of_cell hc3)).trans hc3
  have HKE := hide (And.intro d0 (And.intro d1 hcm))
  have HRA := hide (fun W => raise_any W 0 ⟨by decide, by decide⟩)
  have HLO := hide (fun W => lower_any W 0 ⟨by decide, by decide⟩)
  have HK := hide hk
  unfold Made1 at HRA HLO
  clear hq1 hq ha hc hcm hg
  by_cases hm : m ≤ ch
  · rw [decide_eq_true hm] at HQ1 HC1 d3 HKE d0 d1 d2 ⊢
    have hmi : (m : Int) ≤ (ch : Int) := by omega
    clear hm hk ht
    go_enter Try.func9, Try.ntmps9
    go_upto_region 9 with fail
    go_region_held3 (fun X => X.cell? ⟨G, k * 4, none⟩ = some (.int .i64 (t : Int)) ∧ X.cell? ⟨G, k * 4 + 1, none⟩ = some (.int .i64 (ch : Int)) ∧ X.cell? ⟨gm, t, none⟩ = some (.int .i64 (m : Int))) (first | exact HKE.out | exact HKE.out.2.2 | go_keep) (fail)
    all_goals
      clear c0 c1 c2 c3 f3 HKE
      obtain ⟨W, hW⟩ : ∃ W, W = (w.setCell ⟨G, k * 4 + 3, none⟩ (.bool true)).drew := ⟨_, rfl⟩
      rw [← hW] at d0 d1 d2 d3 HQ1 HC1
      rw [← hW]
      clear hW
      go_wp2_with (first
        | (go_at_call 27; refine (HLO.out W).mono ?_; rintro e w2 ⟨q, rfl, h1, h2, h3⟩; obtain ⟨g2, f2, g3, hend⟩ := nx_call (B := B) (lo := true) HQ1.out HK.out HAC.out HC1.out h1 h2 h3; have HEND := hide hend; clear h1 h2 h3 hend)
        | fail)
      go_ret
      exact HEND.out
  · rw [decide_eq_false hm] at HQ1 HC1 d3 HKE d0 d1 d2 ⊢
    have hmi : ¬ (m : Int) ≤ (ch : Int) := by omega
    clear hm hk ht
    go_enter Try.func9, Try.ntmps9
    go_upto_region 9 with fail
    go_region_held3 (fun X => X.cell? ⟨G, k * 4, none⟩ = some (.int .i64 (t : Int)) ∧ X.cell? ⟨G, k * 4 + 1, none⟩ = some (.int .i64 (ch : Int)) ∧ X.cell? ⟨gm, t, none⟩ = some (.int .i64 (m : Int))) (first | exact HKE.out | exact HKE.out.2.2 | go_keep) (fail)
    all_goals
      clear c0 c1 c2 c3 f3 HKE
      obtain ⟨W, hW⟩ : ∃ W, W = (w.setCell ⟨G, k * 4 + 3, none⟩ (.bool false)).drew := ⟨_, rfl⟩
      rw [← hW] at d0 d1 d2 d3 HQ1 HC1
      rw [← hW]
      clear hW
      go_wp2_with (first
        | (go_at_call 26; refine (HRA.out W).mono ?_; rintro e w2 ⟨q, rfl, h1, h2, h3⟩; obtain ⟨g2, f2, g3, hend⟩ := nx_call (B := B) (lo := false) HQ1.out HK.out HAC.out HC1.out h1 h2 h3; have HEND := hide hend; clear h1 h2 h3 hend)
        | fail)
      go_ret
      exact HEND.out
end Go.Proofs.Ytabmmjhcfhplnaa
