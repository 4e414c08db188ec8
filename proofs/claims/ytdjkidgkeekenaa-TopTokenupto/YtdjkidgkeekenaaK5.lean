/- A circuit's twin: lists of lists with marks. -/
import Derived.Test.YtdjkidgkeekenaaK4
import Derived.Maps.AppendAt
import Derived.Deep.AppendLies
import Derived.BigRegion
import Derived.BigQuiet
namespace Go.Proofs.Ytdjkidgkeekenaa
open Go.RowKit Go.Lib
set_option linter.unusedVariables false
set_option linter.unusedSimpArgs false
/-- A copy with its marks. -/
structure RwsM (w : World) (G C : Nat) (ls : List (List Int)) : Prop where
  gl : G < w.heap.size
  row : ∀ i, i < ls.length → ∃ g c, w.cell? ⟨G, i, none⟩ = some (.slice (some ⟨g, 0, none⟩) (rowL ls i).length c) ∧ M3 w g c (rowL ls i)
  last : ∃ q, w.cell? ⟨G, ls.length, none⟩ = some (.slice (some ⟨q, 0, none⟩) 1 1) ∧ w.cell? ⟨q, 0, none⟩ = some (.int .i64 71) ∧ q < w.heap.size
  cap : ls.length + 1 ≤ C ∧ C ≤ 9223372036854775807
  ty : ∃ cs, w.heap[G]? = some (.cells cs 23 (0, 0))
theorem RwsM.below {w w' : World} {G C : Nat} {ls : List (List Int)} (h : RwsM w G C ls) (hb : Below w.heap.size w w') : RwsM w' G C ls := by
  refine ⟨Nat.lt_of_lt_of_le h.gl hb.size, fun i hi => ?_, ?_, h.cap, h.ty.imp fun cs h' => (hb.block _ h.gl).trans h'⟩
  · obtain ⟨g, c, e1, e2⟩ := h.row i hi
    exact ⟨g, c, (below_cell hb h.gl).trans e1, e2.below hb⟩
  · obtain ⟨q, e1, e2, e3⟩ := h.last
    exact ⟨q, (below_cell hb h.gl).trans e1, (below_cell hb e3).trans e2, Nat.lt_of_lt_of_le e3 hb.size⟩
theorem RwsM.inc {w : World} {G C : Nat} {ls : List (List Int)} (h : RwsM w G C ls) : RwsI w (.slice (some ⟨G, 0, none⟩) ls.length C) ls := by
  refine ⟨_, C, rfl, by have := h.cap.1; omega, h.cap.2, fun i hi => ?_⟩
  obtain ⟨g, c, e1, e2⟩ := h.row i hi
  exact ⟨G, 0, _, rfl, h.gl, by rw [Nat.zero_add]; exact e1, e2.row⟩
/-- A row of slices is not in the block of a row of words. -/
theorem mark_ne {w : World} {g c base n : Nat} {xs : List Int} {v : Value} {vals : List Value} (h : M3 w g c xs) (ho : w.ownsRow base 23 1 v n vals) : v.ownBlock ≠ some g := by
  intro hb
  obtain ⟨cs, ht⟩ := h.typ
  obtain ⟨hl, ⟨rfl, _⟩ | ⟨g', cap, cur, rfl, hg, hc, r1, r2, r3, r4⟩⟩ := ho
  · cases hb
  · cases hb
    rw [ht] at hc
    cases hc
structure OutI (w wr : World) (u : Value) (i : Nat) (ls : List (List Int)) : Prop where
  ex : ∃ vals : List Value, wr.ownsRow w.heap.size 23 1 u i vals ∧ ∀ j, j < i → ∃ g c, vals[j]? = some (.slice (some ⟨g, 0, none⟩) (rowL ls j).length c) ∧ M3 wr g c (rowL ls j) ∧ w.heap.size ≤ g
  bel : Below w.heap.size w wr
theorem own_stayR {X Y : World} {S : Nat} {e : TypeId} {size : Nat} {u : Value} {n : Nat} {xs : List Value} (h : X.ownsRow S e size u n xs) (hk : ∀ g, u.ownBlock = some g → Y.heap[g]? = X.heap[g]?) : Y.ownsRow S e size u n xs := by
  obtain ⟨h0, hn | ⟨g, cap, cur, rfl, hg, hc, r⟩⟩ := h
  · exact ⟨h0, Or.inl hn⟩
  · exact ⟨h0, Or.inr ⟨g, cap, cur, rfl, hg, (hk g rfl).trans hc, r⟩⟩
theorem OutI.below {w wr w' : World} {u : Value} {i : Nat} {ls : List (List Int)} (h : OutI w wr u i ls) (hb : Below wr.heap.size wr w') : OutI w w' u i ls := by
  obtain ⟨vals, h1, h3⟩ := h.ex
  refine ⟨⟨vals, own_stayR h1 (fun g hg => hb.block g (h1.lt g hg).2), fun j hj => ?_⟩, below_on h.bel hb⟩
  obtain ⟨g, c, e1, e3, e4⟩ := h3 j hj
  exact ⟨g, c, e1, e3.below hb, e4⟩
/-- One row more. -/
theorem OutI.push {w wr w' : World} {u u' : Value} {i g c : Nat} {ls : List (List Int)} {o : Obj} (h : OutI w wr u i ls) (hm : M3 wr g c (rowL ls i)) (hlg : w.heap.size ≤ g) {vals : List Value} (hv : wr.ownsRow w.heap.size 23 1 u i vals) (hr : ∀ j, j < i → ∃ g c, vals[j]? = some (.slice (some ⟨g, 0, none⟩) (rowL ls j).length c) ∧ M3 wr g c (rowL ls j) ∧ w.heap.size ≤ g)
    (hown : w'.ownsRow w.heap.size 23 1 u' (i + 1) (vals ++ [.slice (some ⟨g, 0, none⟩) (rowL ls i).length c])) (hgr : (wr.alloc o).grownBy w' u.ownBlock) : OutI w w' u' (i + 1) ls := by
  have hk : ∀ k, k < wr.heap.size → u.ownBlock ≠ some k → w'.heap[k]? = wr.heap[k]? := fun k hk hn => (hgr.block k (by simp; omega) (fun e => hn e.symm)).trans (Below.heap_alloc _ _ _ hk)
  have hl : vals.length = i := by have := hv.1; omega
  refine ⟨⟨_, hown, fun j hj => ?_⟩, ?_⟩
  · rcases Nat.lt_or_ge j i with q | q
    · obtain ⟨g', c', e1, e3, e4⟩ := hr j q
      exact ⟨g', c', by rw [List.getElem?_append_left (by omega)]; exact e1, e3.stay (hk g' e3.lt (mark_ne e3 hv)), e4⟩
    · obtain rfl : j = i := by omega
      exact ⟨g, c, by rw [List.getElem?_append_right (by omega), hl]; simp, hm.stay (hk g hm.lt (mark_ne hm hv)), hlg⟩
  · refine (below_alloc h.bel o).grown hgr (by have := h.bel.size; simp; omega) (fun j hj => (hv.lt j hj).1)
theorem mdecR {i n : Nat} (h : i < n) : n - (RowKit.intOf (.int .i64 ((i : Int) + 1))).toNat < n - (RowKit.intOf (.int .i64 (i : Int))).toNat := by simp [RowKit.intOf]; omega
/-- A circuit's copy. -/
structure TwM (w : World) (G C g c : Nat) (ls : List (List Int)) (aw : List Int) : Prop where
  f : RwsM w G C ls
  a : M3 w g c aw
theorem TwM.below {w w' : World} {G C g c : Nat} {ls : List (List Int)} {aw : List Int} (h : TwM w G C g c ls aw) (hb : Below w.heap.size w w') : TwM w' G C g c ls aw := ⟨h.f.below hb, h.a.below hb⟩
theorem RwsM.stay {w w' : World} {G C B : Nat} {cs : Array Value} {ls : List (List Int)} (h : RwsM w G C ls) (hk : ∀ k, k ≠ B → w'.heap[k]? = w.heap[k]?) (hB : w.heap[B]? = some (.cells cs 25 (0, 0))) (h0 : ∃ a n c, cs[0]? = some (.slice a n c)) (hG : G ≠ B) (hs : w.heap.size ≤ w'.heap.size) : RwsM w' G C ls := by
  have hc : ∀ g o, g ≠ B → w'.cell? ⟨g, o, none⟩ = w.cell? ⟨g, o, none⟩ := fun g o hg => by simp only [World.cell?, hk g hg]
  refine ⟨Nat.lt_of_lt_of_le h.gl hs, fun i hi => ?_, ?_, h.cap, h.ty.imp fun cs' h' => (hk G hG).trans h'⟩
  · obtain ⟨g, c, e1, e2⟩ := h.row i hi
    refine ⟨g, c, (hc G i hG).trans e1, e2.stay (hk g ?_)⟩
    rintro rfl
    obtain ⟨cs', ht⟩ := e2.typ
    rw [ht] at hB; cases hB
  · obtain ⟨q, e1, e2, e3⟩ := h.last
    refine ⟨q, (hc G _ hG).trans e1, (hc q 0 ?_).trans e2, Nat.lt_of_lt_of_le e3 hs⟩
    rintro rfl
    obtain ⟨a', n', c', h0⟩ := h0
    rw [cell_of hB h0] at e2; cases e2
theorem three_keep {W x : World} {A B : Nat} {p0 p1 p2 q0 q1 q2 : Value} (hA : W.heap[A]? = some (.cells #[p0, p1, p2] 25 (0, 0))) (hB : W.heap[B]? = some (.cells #[q0, q1, q2] 25 (0, 0))) (h : Below W.heap.size W x) :
    (x.cell? ⟨A, 0, none⟩ = some p0 ∧ x.cell? ⟨A, 1, none⟩ = some p1 ∧ x.cell? ⟨A, 2, none⟩ = some p2) ∧ x.heap[B]? = some (.cells #[q0, q1, q2] 25 (0, 0)) := by
  have hA' := (h.block A (lt_of_heap hA)).trans hA
  have hB' := (h.block B (lt_of_heap hB)).trans hB
  exact ⟨⟨cell_of hA' rfl, cell_of hA' rfl, cell_of hA' rfl⟩, hB'⟩
theorem twin_end {w W w3 : World} {G C g c : Nat} {ls : List (List Int)} {aw : List Int} {q1 q2 : Value} (hbW : Below w.heap.size w W) (hb3 : Below W.heap.size W w3)
    (hz : w3.heap[w.heap.size + 1]? = some (.cells #[.slice none 0 0, q1, q2] 25 (0, 0))) (h : TwM w3 G C g c ls aw) (m1 : ¬ G = w.heap.size + 1) (v0 v1 v2 : Value) :
    (((w3.setCell ⟨w.heap.size + 1, 0, none⟩ v0).setCell ⟨w.heap.size + 1, 1, none⟩ v1).setCell ⟨w.heap.size + 1, 2, none⟩ v2).heap[w.heap.size + 1]? = some (.cells #[v0, v1, v2] 25 (0, 0)) ∧
    TwM (((w3.setCell ⟨w.heap.size + 1, 0, none⟩ v0).setCell ⟨w.heap.size + 1, 1, none⟩ v1).setCell ⟨w.heap.size + 1, 2, none⟩ v2) G C g c ls aw ∧
    Below w.heap.size w (((w3.setCell ⟨w.heap.size + 1, 0, none⟩ v0).setCell ⟨w.heap.size + 1, 1, none⟩ v1).setCell ⟨w.heap.size + 1, 2, none⟩ v2) := by
  have hk : ∀ k, k ≠ w.heap.size + 1 → (((w3.setCell ⟨w.heap.size + 1, 0, none⟩ v0).setCell ⟨w.heap.size + 1, 1, none⟩ v1).setCell ⟨w.heap.size + 1, 2, none⟩ v2).heap[k]? = w3.heap[k]? := fun k hk => by
    rw [Below.heap_setCell _ _ _ _ (by exact hk), Below.heap_setCell _ _ _ _ (by exact hk), Below.heap_setCell _ _ _ _ (by exact hk)]
  have hs : w3.heap.size ≤ (((w3.setCell ⟨w.heap.size + 1, 0, none⟩ v0).setCell ⟨w.heap.size + 1, 1, none⟩ v1).setCell ⟨w.heap.size + 1, 2, none⟩ v2).heap.size := by simp [World.setCell]
  refine ⟨by rw [heap_set (heap_set (heap_set hz _) _) _]; rfl, ⟨h.f.stay hk hz ⟨_, _, _, rfl⟩ m1 hs, h.a.stay (hk _ ?_)⟩, ?_⟩
  · rintro rfl
    obtain ⟨cs, ht⟩ := h.a.typ
    rw [ht] at hz; cases hz
  · have h1 := below_on hbW hb3
    exact ((h1.setCell (p := ⟨w.heap.size + 1, 0, none⟩) (by simp) _).setCell (p := ⟨w.heap.size + 1, 1, none⟩) (by simp) _).setCell (p := ⟨w.heap.size + 1, 2, none⟩) (by simp) _
/-- Where the rows lie. -/
def LoM (w : World) (G lo : Nat) (ls : List (List Int)) : Prop := ∀ j, j < ls.length → ∃ g c, w.cell? ⟨G, j, none⟩ = some (.slice (some ⟨g, 0, none⟩) (rowL ls j).length c) ∧ lo ≤ g
theorem LoM.stay {w w' : World} {G lo : Nat} {ls : List (List Int)} (h : LoM w G lo ls) (k : w'.heap[G]? = w.heap[G]?) : LoM w' G lo ls := fun j hj => by
  obtain ⟨g, c, e, l⟩ := h j hj
  refine ⟨g, c, ?_, l⟩
  simp only [World.cell?] at e ⊢
  rw [k]; exact e
theorem LoM.low {w : World} {G lo lo' : Nat} {ls : List (List Int)} (h : LoM w G lo ls) (k : lo' ≤ lo) : LoM w G lo' ls := fun j hj => by
  obtain ⟨g, c, e, l⟩ := h j hj
  exact ⟨g, c, e, Nat.le_trans k l⟩
/-- The list with its last mark. -/
theorem rws_last {W wr w' : World} {u : Value} {i g2 c2 : Nat} {ls : List (List Int)} (hi : i = ls.length) (HO : OutI W wr u i ls) {X : World} (hX : X = (wr.alloc (.cells #[.int .i64 71] 3)).alloc (.cells #[Value.slice (some ⟨wr.heap.size, 0, none⟩) 1 1] 23))
    {vals : List Value} (hv : X.ownsRow W.heap.size 23 1 u i vals) (hr : ∀ j, j < i → ∃ g c, vals[j]? = some (.slice (some ⟨g, 0, none⟩) (rowL ls j).length c) ∧ M3 X g c (rowL ls j) ∧ W.heap.size ≤ g)
    (h1 : w'.ownsRow W.heap.size 23 1 (.slice (some ⟨g2, 0, none⟩) (i + 1) c2) (i + 1) (vals ++ [.slice (some ⟨wr.heap.size, 0, none⟩) 1 1])) (h2 : X.grownBy w' u.ownBlock) : W.heap.size ≤ g2 ∧ RwsM w' g2 c2 ls ∧ Below W.heap.size W w' ∧ LoM w' g2 W.heap.size ls := by
  have hbW : Below wr.heap.size wr X := by rw [hX]; exact below_alloc (below_alloc (Below.refl _ _) _) _
  have hWs : X.heap.size = wr.heap.size + 1 + 1 := by rw [hX]; simp
  have ho2 := HO.below hbW
  have hq : X.cell? ⟨wr.heap.size, 0, none⟩ = some (.int .i64 71) := by
    rw [hX]
    exact (below_cell (below_alloc (Below.refl _ _) _) (by simp)).trans (cell_of (heap_new wr _) rfl)
  have hbo : Below W.heap.size W w' := ho2.bel.grown h2 ho2.bel.size (fun j hj => (hv.lt j hj).1)
  have hl : vals.length = i := by have := hv.1; omega
  obtain ⟨_, ⟨hn, _⟩ | ⟨g', cap, cur, he, hg, hc, r1, r2, r3, r4⟩⟩ := h1
  · cases hn
  · simp only [Value.slice.injEq, Option.some.injEq, Addr.mk.injEq] at he
    obtain ⟨⟨rfl, _, _⟩, _, rfl⟩ := he
    have cel : ∀ j u, (vals ++ [Value.slice (some ⟨wr.heap.size, 0, none⟩) 1 1])[j]? = some u → w'.cell? ⟨g2, j, none⟩ = some u := fun j u hu => by
      have hj : j < i + 1 := by have := (List.getElem?_eq_some_iff.1 hu).1; simp [hl] at this; omega
      refine cell_of hc ?_
      rw [← Array.getElem?_toList, ← List.getElem?_take_of_lt (j := (i + 1) * 1) (by omega), r4]
      exact hu
    have hne : ∀ k, k < X.heap.size → u.ownBlock ≠ some k → w'.heap[k]? = X.heap[k]? := fun k hk hn => h2.block k hk (fun e => hn e.symm)
    have hsz := h2.size
    refine ⟨hg, ⟨lt_of_heap hc, fun j hj => ?_, ⟨wr.heap.size, by rw [← hi]; exact cel i _ (by rw [List.getElem?_append_right (by omega), hl]; simp), ?_, by omega⟩, ⟨by rw [← hi]; exact r1, by unfold maxLen at r2; omega⟩, ⟨_, hc⟩⟩, hbo, fun j hj => by
      obtain ⟨g', c', e1, e3, e4⟩ := hr j (by rw [hi]; exact hj)
      exact ⟨g', c', cel j _ (by rw [List.getElem?_append_left (by omega)]; exact e1), e4⟩⟩
    · obtain ⟨g', c', e1, e3, _⟩ := hr j (by rw [hi]; exact hj)
      exact ⟨g', c', cel j _ (by rw [List.getElem?_append_left (by omega)]; exact e1), e3.stay (hne g' e3.lt (mark_ne e3 hv))⟩
    · have hnq : u.ownBlock ≠ some wr.heap.size := fun e => by
        obtain ⟨vals0, hv0, _⟩ := HO.ex
        have := (hv0.lt _ e).2; omega
      have : w'.cell? ⟨wr.heap.size, 0, none⟩ = X.cell? ⟨wr.heap.size, 0, none⟩ := by
        simp only [World.cell?, hne _ (by omega) hnq]
      rw [this]; exact hq
end Go.Proofs.Ytdjkidgkeekenaa
