/- Two marks behind a list; a graph's twin; are graphs alike? -/
import Derived.Test.YtiohimbifjlfdaaRo
import Derived.Deep.RegionHeld3
namespace Go.Proofs.Ytiohimbifjlfdaa
open Go.RowKit Go.Lib
set_option linter.unusedVariables false
set_option linter.unusedSimpArgs false
/-- A list with two marks behind it, at an own address. -/
def M2A (k : IntKind) (w : World) (g c : Nat) (xs : List Int) (m1 m2 : Int) : Prop := RowAt k w (.slice (some ⟨g, 0, none⟩) (xs.length + 2) c) (xs ++ [m1, m2])
section
variable {k : IntKind} {w w' : World} {g c : Nat} {xs : List Int} {m1 m2 : Int}
theorem M2A.row (h : M2A k w g c xs m1 m2) : RowAt k w (.slice (some ⟨g, 0, none⟩) xs.length c) xs := RowAt.front h
theorem M2A.below (h : M2A k w g c xs m1 m2) (hb : Below w.heap.size w w') : M2A k w' g c xs m1 m2 := RowAt.below h hb
theorem M2A.cap (h : M2A k w g c xs m1 m2) : xs.length + 2 ≤ c ∧ c ≤ 9223372036854775807 := by
  obtain ⟨ao, c', he, h1, h2, _⟩ := h
  simp only [Value.slice.injEq] at he
  obtain ⟨_, _, rfl⟩ := he
  simp at h1
  exact ⟨h1, h2⟩
theorem M2A.ends (h : M2A k w g c xs m1 m2) : w.cell? ⟨g, xs.length, none⟩ = some (.int k m1) ∧ w.cell? ⟨g, xs.length + 1, none⟩ = some (.int k m2) := by
  obtain ⟨ao, c', he, h1, _, _, h4⟩ := h
  simp only [Value.slice.injEq] at he
  obtain ⟨rfl, _, rfl⟩ := he
  have a := h4 _ rfl xs.length (by simp)
  have b := h4 _ rfl (xs.length + 1) (by simp)
  rw [Addr.add_lit] at a b
  rw [show (xs ++ [m1, m2] : List Int).getD xs.length 0 = m1 by simp [List.getD], Nat.zero_add] at a
  rw [show (xs ++ [m1, m2] : List Int).getD (xs.length + 1) 0 = m2 by simp [List.getD], Nat.zero_add] at b
  exact ⟨a, b⟩
end
theorem two_keep {W x : World} {A B : Nat} {p0 p1 p2 p3 q0 q1 q2 q3 : Value} (hA : W.heap[A]? = some (.cells #[p0, p1, p2, p3] 28 (0, 0))) (hB : W.heap[B]? = some (.cells #[q0, q1, q2, q3] 28 (0, 0))) (h : Below W.heap.size W x) :
    (x.cell? ⟨A, 0, none⟩ = some p0 ∧ x.cell? ⟨A, 1, none⟩ = some p1 ∧ x.cell? ⟨A, 2, none⟩ = some p2 ∧ x.cell? ⟨A, 3, none⟩ = some p3) ∧ x.heap[B]? = some (.cells #[q0, q1, q2, q3] 28 (0, 0)) := by
  have hA' := (h.block A (lt_of_heap hA)).trans hA
  have hB' := (h.block B (lt_of_heap hB)).trans hB
  exact ⟨⟨cell_of hA' rfl, cell_of hA' rfl, cell_of hA' rfl, cell_of hA' rfl⟩, hB'⟩

theorem RowAt.setOther {k : IntKind} {w : World} {ao : Option Addr} {n c : Nat} {xs : List Int} (h : RowAt k w (.slice ao n c) xs) (B i : Nat) (u : Value) (hn : ∀ a, ao = some a → ¬ a.block = B) : RowAt k (w.setCell ⟨B, i, none⟩ u) (.slice ao n c) xs := by
  obtain ⟨ao', c', he, h1, h2, h3, h4⟩ := h
  simp only [Value.slice.injEq] at he
  obtain ⟨rfl, rfl, rfl⟩ := he
  refine ⟨ao, c, rfl, h1, h2, h3, fun a ha j hj => ?_⟩
  have h5 := h4 a ha j hj
  rw [← h5]
  have hb : (a.add j).block ≠ B := by
    have e : (a.add j).block = a.block := by unfold Addr.add; split <;> rfl
    rw [e]; exact hn a ha
  unfold World.cell?
  rw [Below.heap_setCell w ⟨B, i, none⟩ u (a.add j).block hb]
theorem M2A.setOther {k : IntKind} {w : World} {g c : Nat} {xs : List Int} {m1 m2 : Int} (h : M2A k w g c xs m1 m2) (B i : Nat) (u : Value) (hn : ¬ g = B) : M2A k (w.setCell ⟨B, i, none⟩ u) g c xs m1 m2 :=
  RowAt.setOther h B i u fun a ha => by cases ha; exact hn

/-- A twin in memory. -/
structure TIs (w : World) (N : Int) (g1 c1 g2 c2 g3 c3 : Nat) (st tl wt : List Int) : Prop where
  s : M2A .i64 w g1 c1 st (-81) (-82)
  t : M2A .i64 w g2 c2 tl (-81) (-82)
  u : M2A .u64 w g3 c3 wt 83 84
theorem TIs.below {w w' : World} {N : Int} {g1 c1 g2 c2 g3 c3 : Nat} {st tl wt : List Int} (h : TIs w N g1 c1 g2 c2 g3 c3 st tl wt) (hb : Below w.heap.size w w') : TIs w' N g1 c1 g2 c2 g3 c3 st tl wt := ⟨h.s.below hb, h.t.below hb, h.u.below hb⟩
def tAgg (N : Int) (g1 c1 g2 c2 g3 c3 n1 n2 n3 : Nat) : Value := gAgg N (.slice (some ⟨g1, 0, none⟩) n1 c1) (.slice (some ⟨g2, 0, none⟩) n2 c2) (.slice (some ⟨g3, 0, none⟩) n3 c3)
theorem TIs.gis {w : World} {N : Int} {g1 c1 g2 c2 g3 c3 : Nat} {st tl wt : List Int} (h : TIs w N g1 c1 g2 c2 g3 c3 st tl wt) :
    GIs w N (.slice (some ⟨g1, 0, none⟩) st.length c1) (.slice (some ⟨g2, 0, none⟩) tl.length c2) (.slice (some ⟨g3, 0, none⟩) wt.length c3) st tl wt := ⟨h.s.row, h.t.row, h.u.row⟩

theorem twin_end {w W w3 : World} {N : Int} {g1 g2 g3 c1 c2 c3 : Nat} {st tl wt : List Int} {q0 q1 q2 q3 : Value} (hbW : Below w.heap.size w W) (hb3 : Below W.heap.size W w3)
    (hz : w3.heap[w.heap.size + 1]? = some (.cells #[q0, q1, q2, q3] 28 (0, 0))) (h : TIs w3 N g1 c1 g2 c2 g3 c3 st tl wt)
    (m1 : ¬ g1 = w.heap.size + 1) (m2 : ¬ g2 = w.heap.size + 1) (m3 : ¬ g3 = w.heap.size + 1) :
    let v1 : Value := .slice (some ⟨g1, 0, none⟩) st.length c1; let v2 : Value := .slice (some ⟨g2, 0, none⟩) tl.length c2; let v3 : Value := .slice (some ⟨g3, 0, none⟩) wt.length c3
    let wf := (((w3.setCell ⟨w.heap.size + 1, 0, none⟩ (.int .i64 N)).setCell ⟨w.heap.size + 1, 1, none⟩ v1).setCell ⟨w.heap.size + 1, 2, none⟩ v2).setCell ⟨w.heap.size + 1, 3, none⟩ v3
    wf.heap[w.heap.size + 1]? = some (.cells #[.int .i64 N, v1, v2, v3] 28 (0, 0)) ∧ TIs wf N g1 c1 g2 c2 g3 c3 st tl wt ∧ Below w.heap.size w wf := by
  intro v1 v2 v3 wf
  have hh := heap_set (i := 3) (heap_set (i := 2) (heap_set (i := 1) (heap_set (i := 0) hz (.int .i64 N)) v1) v2) v3
  have hw : wf.heap[w.heap.size + 1]? = some (.cells #[.int .i64 N, v1, v2, v3] 28 (0, 0)) := by
    show ((((w3.setCell ⟨w.heap.size + 1, 0, none⟩ (.int .i64 N)).setCell ⟨w.heap.size + 1, 1, none⟩ v1).setCell ⟨w.heap.size + 1, 2, none⟩ v2).setCell ⟨w.heap.size + 1, 3, none⟩ v3).heap[w.heap.size + 1]? = _
    rw [hh]
    simp
  refine ⟨hw, ⟨?_, ?_, ?_⟩, ?_⟩
  · exact (((h.s.setOther _ _ _ m1).setOther _ _ _ m1).setOther _ _ _ m1).setOther _ _ _ m1
  · exact (((h.t.setOther _ _ _ m2).setOther _ _ _ m2).setOther _ _ _ m2).setOther _ _ _ m2
  · exact (((h.u.setOther _ _ _ m3).setOther _ _ _ m3).setOther _ _ _ m3).setOther _ _ _ m3
  · have hb : Below w.heap.size w w3 := below_on hbW hb3
    exact (((hb.setCell (p := ⟨w.heap.size + 1, 0, none⟩) (by show w.heap.size ≤ w.heap.size + 1; omega) _).setCell (p := ⟨w.heap.size + 1, 1, none⟩) (by show w.heap.size ≤ w.heap.size + 1; omega) _).setCell (p := ⟨w.heap.size + 1, 2, none⟩) (by show w.heap.size ≤ w.heap.size + 1; omega) _).setCell (p := ⟨w.heap.size + 1, 3, none⟩) (by show w.heap.size ≤ w.heap.size + 1; omega) _

/-- Two boxes of graphs. -/
theorem box_keep {W x : World} {A : Nat} {p : Array Value} (hA : W.heap[A]? = some (.cells p 28 (0, 0))) (h : Below W.heap.size W x) {j : Nat} {u : Value} (hu : p[j]? = some u) : x.cell? ⟨A, j, none⟩ = some u := cell_of ((h.block A (lt_of_heap hA)).trans hA) hu
end Go.Proofs.Ytiohimbifjlfdaa
