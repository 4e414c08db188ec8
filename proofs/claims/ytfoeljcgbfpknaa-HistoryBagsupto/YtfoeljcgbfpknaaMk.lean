/- Copies of events with two marks behind them. -/
import Derived.Test.YtfoeljcgbfpknaaEq
namespace Go.Proofs.Ytfoeljcgbfpknaa
open Go.RowKit Go.Lib
set_option linter.unusedVariables false
set_option linter.unusedSimpArgs false
theorem Try.info87 : (Try.prog.info? 87).map (fun i => (i.zero, i.size, i.bytes)) = some (some (.agg #[.int .i64 0, .int .i64 0, .int .i64 0, .int .u64 0, .int .u64 0]), 5, 40) := by kernel_rfl
theorem arr_at (w : World) (A : Array Value) (t : TypeId) : ∀ j u, A.toList[j]? = some u → (w.alloc (.cells A t)).cell? ((⟨w.heap.size, 0, none⟩ : Addr).add j) = some u := by
  intro j u hj
  have hh : (w.alloc (.cells A t)).heap[w.heap.size]? = some (.cells A t (0, 0)) := heap_new _ _
  rw [Addr.add_lit, Nat.zero_add]
  exact cell_of hh (by simpa using hj)
def mkE (x : Int) : Ev := ⟨0, x, 0, 0, 0⟩
/-- A copy of events in a row of one's own, two marked ones behind it. -/
def EM (w : World) (fr g c : Nat) (l : List Ev) : Prop := ROwn Ev.arr 5 87 w fr (.slice (some ⟨g, 0, none⟩) (l.length + 2) c) (l ++ [mkE 71, mkE 72])
theorem EM.below {w w' : World} {fr g c : Nat} {l : List Ev} (h : EM w fr g c l) (hb : Below w.heap.size w w') : EM w' fr g c l := ROwn.below h hb
theorem EM.cap {w : World} {fr g c : Nat} {l : List Ev} (h : EM w fr g c l) : l.length + 2 ≤ c ∧ c ≤ 9223372036854775807 ∧ fr ≤ g ∧ g < w.heap.size := by
  obtain ⟨g', cap, he, h1, h2, h3, h4⟩ := ROwn.spot h (by simp)
  simp only [Value.slice.injEq, Option.some.injEq, Addr.mk.injEq] at he
  obtain ⟨⟨rfl, _⟩, _, rfl⟩ := he
  exact ⟨by simpa using h1, h2, h3, h4⟩
theorem EM.eat {w : World} {fr g c : Nat} {l : List Ev} (h : EM w fr g c l) : EAt w (.slice (some ⟨g, 0, none⟩) l.length c) l := by
  obtain ⟨h1, h2, _, h4⟩ := h.cap
  refine ⟨_, _, rfl, by omega, h2, fun i x hi => ⟨g, 0, rfl, h4, fun j u hu => ?_⟩⟩
  rw [Nat.zero_add]
  refine ROwn.cell Ev.size h ?_ j u hu
  rw [List.getElem?_append_left (List.getElem?_eq_some_iff.1 hi).1]
  exact hi
theorem EM.marks {w : World} {fr g c : Nat} {l : List Ev} (h : EM w fr g c l) : w.cell? ⟨g, l.length * 5 + 1, none⟩ = some (.int .i64 71) ∧ w.cell? ⟨g, (l.length + 1) * 5 + 1, none⟩ = some (.int .i64 72) := by
  constructor
  · exact ROwn.cell Ev.size h (k := l.length) (x := mkE 71) (by simp) 1 _ rfl
  · exact ROwn.cell Ev.size h (k := l.length + 1) (x := mkE 72) (by simp) 1 _ rfl
theorem EM.put {w : World} {fr g c : Nat} {l : List Ev} (h : EM w fr g c l) {k : Nat} (hk : k < l.length) (e : Ev) :
    EM (((((w.setCell ⟨g, k * 5, none⟩ (.int .i64 e.tm)).setCell ⟨g, k * 5 + 1, none⟩ (.int .i64 e.who)).setCell ⟨g, k * 5 + 2, none⟩ (.int .i64 e.kind)).setCell ⟨g, k * 5 + 3, none⟩ (.int .u64 e.key)).setCell ⟨g, k * 5 + 4, none⟩ (.int .u64 e.load)) fr g c (l.set k e) := by
  have hx : (l ++ [mkE 71, mkE 72])[k]? = some (evAt l k) := by rw [List.getElem?_append_left hk]; exact evAt_get hk
  generalize evAt l k = x at hx
  obtain ⟨x0, x1, x2, x3, x4⟩ := x
  obtain ⟨e0, e1, e2, e3, e4⟩ := e
  have h0 := ROwn.set Ev.size h (j := 0) (u := .int .i64 e0) (y := ⟨e0, x1, x2, x3, x4⟩) hx (by decide) rfl
  have h1 := h0.set Ev.size (j := 1) (u := .int .i64 e1) (y := ⟨e0, e1, x2, x3, x4⟩) (getq_set hx) (by decide) rfl
  rw [List.set_set] at h1
  have h2 := h1.set Ev.size (j := 2) (u := .int .i64 e2) (y := ⟨e0, e1, e2, x3, x4⟩) (getq_set hx) (by decide) rfl
  rw [List.set_set] at h2
  have h3 := h2.set Ev.size (j := 3) (u := .int .u64 e3) (y := ⟨e0, e1, e2, e3, x4⟩) (getq_set hx) (by decide) rfl
  rw [List.set_set] at h3
  have h4 := h3.set Ev.size (j := 4) (u := .int .u64 e4) (y := ⟨e0, e1, e2, e3, e4⟩) (getq_set hx) (by decide) rfl
  rw [List.set_set] at h4
  unfold EM
  rw [List.length_set, ← List.set_append_left _ _ hk]
  exact h4
theorem em_made {w w1 w2 : World} {v1 v2 : Value} {l : List Ev} {p : Obj} (h1 : w1.ownsRow w.heap.size 87 5 v1 l.length (rCells Ev.arr l)) (hb1 : Below w.heap.size w w1)
    (hown : w2.ownsRow w.heap.size 87 5 v2 (l.length + 2) (rCells Ev.arr l ++ ((mkE 71).arr.toList ++ (mkE 72).arr.toList))) (hgrow : (w1.alloc p).grownBy w2 v1.ownBlock) :
    ∃ g c, v2 = .slice (some ⟨g, 0, none⟩) (l.length + 2) c ∧ EM w2 w.heap.size g c l ∧ Below w.heap.size w w2 := by
  have hL : Below w.heap.size w w2 := (hb1.alloc hb1.size _).grown hgrow (by have := hb1.size; simp; omega) (fun j hj => (World.ownsRow.lt h1 j hj).1)
  have h3 : ROwn Ev.arr 5 87 w2 w.heap.size v2 (l ++ [mkE 71, mkE 72]) := by
    unfold ROwn
    rw [rCells_append, List.length_append]
    exact hown
  obtain ⟨g, cap, rfl, _⟩ := h3.spot (by simp)
  have e : (l ++ [mkE 71, mkE 72]).length = l.length + 2 := by simp
  rw [e] at h3 ⊢
  exact ⟨g, cap, rfl, h3, hL⟩
set_option maxRecDepth 100000 in
set_option maxHeartbeats 2000000 in
theorem events_any (v : Value) (l : List Ev) (w : World) (h : EAt w v l) (hlen : l.length ≤ 3518437208880) :
    Calls Try.prog 23 #[v] w fun e w' => ∃ g c, e = .returned (.slice (some ⟨g, 0, none⟩) l.length c) ∧ EM w' w.heap.size g c l ∧ Below w.heap.size w w' := by
  obtain ⟨i0, hi0, hz0, hz1, hz2⟩ := info_parts Try.info87
  obtain ⟨ao, cap, rfl, hcap, h63⟩ := h.shape
  have H := hide h
  obtain ⟨n, hn⟩ : ∃ n, n = l.length := ⟨_, rfl⟩
  have HN := hide hn
  rw [← hn] at hcap H hlen ⊢
  clear h hn
  go_enter Try.func23, Try.ntmps23
  go_wp2_with (first
    | (at_builtin; refine wpList_freshR Ev.size (by decide) rfl (.tmp 4) (.tmp 5) 48 rfl 87 i0 _ 40 Try.underlying48 hi0 hz0 hz1 hz2 rfl w.heap.size w.heap.size (own_newr w 87 _ 5 rfl) (by simp) _ l rfl rfl (H.out.below (below_alloc (Below.refl _ _) _)) (by rw [← HN.out]; omega) (by rw [← HN.out]; unfold maxLen; omega) ?_; intro v4 w4 hownA hbelA; have HBA := hide (below_on (below_alloc (Below.refl _ _) _) hbelA); clear hbelA)
    | (at_builtin; refine wpList_append_own _ rfl (.tmp 6) (.tmp 9) 48 rfl w.heap.size 87 i0 _ 5 40 Try.underlying48 hi0 hz0 hz1 hz2 rfl (by decide) _ _ _ rfl (hownA.alloc _) ⟨w4.heap.size, 0, none⟩ 2 2 ((mkE 71).arr.toList ++ (mkE 72).arr.toList) rfl rfl (arr_at w4 _ _) (by simp [Value.oneCell', mkE, Ev.arr]) (by unfold maxLen; rw [← HN.out]; omega) (by rw [← HN.out]; omega) (by have hq := HBA.out.size; simp; omega) ?_; intro v5 w5 hownB hgrowB hqB; obtain ⟨g, c, he, hem, hbb⟩ := em_made hownA HBA.out hownB hgrowB; subst he; rw [← HN.out]; have HEM := hide hem; have hcc := hem.cap; rw [← HN.out] at hcc; have HBB := hide hbb; clear hownA hownB hgrowB hqB hem hbb HBA)
    | fail)
  go_ret
  exact ⟨g, c, rfl, HEM.out, HBB.out⟩
end Go.Proofs.Ytfoeljcgbfpknaa
