/- DiceDraws: what the law holds in hand. -/
import Derived.Test.YtglgflibpgmilaaNewLo
namespace Go.Proofs.Ytglgflibpgmilaa
open Go.RowKit Go.Lib
set_option linter.unusedVariables false
theorem Bth.but {b1 b2 B : Nat} {a w w' : World} (h : Below B a w) (k : Bth b1 b2 w w') (h1 : B ≤ b1) (h2 : B ≤ b2) (hs : B ≤ w.heap.size) : Below B a w' :=
  h.trans ⟨k.os, k.tape, k.output, k.size, fun i hi => k.block i (by omega) (by omega) (by omega)⟩
theorem Bth.cell {b1 b2 g i : Nat} {w w' : World} (k : Bth b1 b2 w w') (hg : g < w.heap.size) (h1 : g ≠ b1) (h2 : g ≠ b2) : w'.cell? ⟨g, i, none⟩ = w.cell? ⟨g, i, none⟩ :=
  World.cell?_of_block (w := w) (k.block g hg h1 h2)
theorem DP.ne22 {w : World} {b1 b2 base : Nat} {all : List Int} {s : St} {u g : Nat} (p : DP w b1 b2 base all s u) (h : W22 w g) : g ≠ b1 ∧ g ≠ b2 := by
  obtain ⟨⟨fn, v, hh, _, _⟩, ⟨_, v2, hh2, _⟩, _⟩ := p
  obtain ⟨_, cs, fr, hr⟩ := h
  constructor
  · rintro rfl
    rw [hh] at hr
    unfold DObj at hr
    simp at hr
  · rintro rfl
    rw [hh2] at hr
    unfold RObj at hr
    simp at hr
theorem W22.bth {w w' : World} {b1 b2 g : Nat} (h : W22 w g) (k : Bth b1 b2 w w') (h1 : g ≠ b1) (h2 : g ≠ b2) : W22 w' g := by
  obtain ⟨hl, cs, fr, hr⟩ := h
  exact ⟨Nat.lt_of_lt_of_le hl k.size, cs, fr, (k.block g hl h1 h2).trans hr⟩
/-- The other pair stays as it is. -/
theorem DP.off {w w' : World} {b1 b2 base b3 b4 base' : Nat} {all all' : List Int} {s s' : St} {u u' : Nat} (p : DP w b1 b2 base all s u) (q : DP w b3 b4 base' all' s' u') (k : Bth b1 b2 w w')
    (n1 : b3 ≠ b1) (n2 : b3 ≠ b2) (n3 : b4 ≠ b1) (n4 : b4 ≠ b2) : DP w' b3 b4 base' all' s' u' := by
  obtain ⟨⟨fn, v, hh, hv, hf⟩, ⟨hb, v2, hh2, hv2⟩, hlt⟩ := q
  refine ⟨⟨fn, v, (k.block b3 (lt_of_heap hh) n1 n2).trans hh, ?_, hf⟩, ⟨hb, v2, (k.block b4 (lt_of_heap hh2) n3 n4).trans hh2, ?_⟩, hlt⟩
  · rcases hv with hv | ⟨g, o, c, hv, hg, hgs, h1, h2, h3⟩
    · exact .inl hv
    · obtain ⟨e1, e2⟩ := p.ne22 hgs
      exact .inr ⟨g, o, c, hv, hg, hgs.bth k e1 e2, h1, h2, fun i hi => (k.cell hgs.lt e1 e2).trans (h3 i hi)⟩
  · rcases hv2 with hv | ⟨g, c, rfl, h1, h2, h3, h4, h5, h6⟩
    · exact .inl hv
    · obtain ⟨e1, e2⟩ := p.ne22 h3
      exact .inr ⟨g, c, rfl, h1, h2, h3.bth k e1 e2, h4, h5, fun i hi => (k.cell h3.lt e1 e2).trans (h6 i hi)⟩
/-- The pair as it is made, none of it in a block below B. -/
structure PS (w : World) (B b1 b2 base : Nat) (all : List Int) (s : St) : Prop where
  d : ∃ v, w.heap[b1]? = some (DObj (fnv 41) v s 0) ∧ WordsAt w b1 v all ∧ LoV B v
  r : RefIs w base b2 all s 0
  lo : B ≤ b1
  lt : b1 < base
theorem PS.dp {w : World} {B b1 b2 base : Nat} {all : List Int} {s : St} (h : PS w B b1 b2 base all s) : DP w b1 b2 base all s 0 := by
  obtain ⟨⟨v, hh, hv, _⟩, hr, _, hlt⟩ := h
  exact ⟨⟨_, v, hh, hv, .inl rfl⟩, hr, hlt⟩
theorem PS.below {w w' : World} {B b1 b2 base : Nat} {all : List Int} {s : St} (h : PS w B b1 b2 base all s) (k : Below w.heap.size w w') : PS w' B b1 b2 base all s := by
  obtain ⟨⟨v, hh, hv, hlo⟩, hr, hb, hlt⟩ := h
  refine ⟨⟨v, (k.block b1 (lt_of_heap hh)).trans hh, ?_, hlo⟩, hr.below k, hb, hlt⟩
  rcases hv with hv | ⟨g, o, c, hv, hg, hgs, h1, h2, h3⟩
  · exact .inl hv
  · exact .inr ⟨g, o, c, hv, hg, hgs.below k, h1, h2, fun i hi => (k.cell (p := ⟨g, o + i, none⟩) hgs.lt).trans (h3 i hi)⟩
theorem PS.but {w w' : World} {B b1 b2 base c : Nat} {all : List Int} {s : St} (h : PS w B b1 b2 base all s) (k : But c w w') (hc : c < B) : PS w' B b1 b2 base all s := by
  obtain ⟨⟨v, hh, hv, hlo⟩, hr, hb, hlt⟩ := h
  refine ⟨⟨v, k.heap hh (by omega), ?_, hlo⟩, hr.ahead k (by omega), hb, hlt⟩
  rcases hv with hv | ⟨g, o, q, hv, hg, hgs, h1, h2, h3⟩
  · exact .inl hv
  · have hgB := hlo g o _ _ hv
    refine .inr ⟨g, o, q, hv, hg, hgs.but k (by omega), h1, h2, fun i hi => ?_⟩
    rw [World.cell?_of_block (w := w) (k.block g hgs.lt (by omega))]
    exact h3 i hi
/-- The given words' block, over which the law writes. -/
def Own22 (w : World) (g n : Nat) : Prop := ∃ cs, w.heap[g]? = some (.cells cs 22 (0, 0)) ∧ n ≤ cs.size
theorem Own22.at {w : World} {g n : Nat} (h : Own22 w g n) (i : Nat) (hi : i < n) : (∃ v, w.cell? ⟨g, i, none⟩ = some v) ∧ w.frozen? ⟨g, i, none⟩ = false := by
  obtain ⟨cs, hh, hn⟩ := h
  exact ⟨⟨_, cell_of hh (Array.getElem?_eq_getElem (by omega))⟩, free_of hh i⟩
theorem Own22.set {w : World} {g n : Nat} (h : Own22 w g n) (i : Nat) (u : Value) : Own22 (w.setCell ⟨g, i, none⟩ u) g n := by
  obtain ⟨cs, hh, hn⟩ := h
  exact ⟨_, heap_set hh u, by simpa using hn⟩
theorem Own22.below {w w' : World} {g n : Nat} (h : Own22 w g n) (k : Below w.heap.size w w') : Own22 w' g n := by
  obtain ⟨cs, hh, hn⟩ := h
  exact ⟨cs, (k.block g (lt_of_heap hh)).trans hh, hn⟩
theorem Own22.but {w w' : World} {g c n : Nat} (h : Own22 w g n) (k : But c w w') (hne : g ≠ c) : Own22 w' g n := by
  obtain ⟨cs, hh, hn⟩ := h
  exact ⟨cs, k.heap hh hne, hn⟩
theorem RowAt.below22 {w w' : World} {v : Value} {xs : List Int} (h : RowAt .u64 w v xs) (k : Below w.heap.size w w') : RowAt .u64 w' v xs := by
  obtain ⟨ao, c, rfl, h1, h2, h3, h4⟩ := h
  refine ⟨ao, c, rfl, h1, h2, h3, fun a ha i hi => ?_⟩
  have hc := h4 a ha i hi
  exact (k.cell (p := a.add i) (block_of_cell hc)).trans hc
structure Op3 where
  k : Int
  s : Bool
  n : Nat
def Op3.arr (x : Op3) : Array Value := #[.int .i64 x.k, .bool x.s, .int .u64 (x.n : Int)]
theorem Op3.size (x : Op3) : x.arr.size = 3 := rfl
/-- The script, wherever it lies. -/
def SAt (w : World) (v : Value) (l : List Op3) : Prop :=
  ∃ ao cap, v = .slice ao l.length cap ∧ l.length ≤ cap ∧ cap ≤ 9223372036854775807 ∧
    ∀ i x, l[i]? = some x → ∃ g o, ao = some ⟨g, o, none⟩ ∧ g < w.heap.size ∧ ∀ j u, x.arr[j]? = some u → w.cell? ⟨g, o + i * 3 + j, none⟩ = some u
theorem SAt.shape {w : World} {v : Value} {l : List Op3} (h : SAt w v l) : ∃ ao cap, v = .slice ao l.length cap ∧ l.length ≤ cap ∧ cap ≤ 9223372036854775807 := by
  obtain ⟨ao, cap, rfl, h1, h2, _⟩ := h; exact ⟨ao, cap, rfl, h1, h2⟩
theorem SAt.at {w : World} {ao : Option Addr} {n cap : Nat} {l : List Op3} (h : SAt w (.slice ao n cap) l) (i : Nat) (hi : i < l.length) :
    ∃ g o, ao = some ⟨g, o, none⟩ ∧ g < w.heap.size ∧ ∀ j u, (l[i]).arr[j]? = some u → w.cell? ⟨g, o + i * 3 + j, none⟩ = some u := by
  obtain ⟨ao', c', he, h1, h2, h3⟩ := h
  simp only [Value.slice.injEq] at he
  obtain ⟨rfl, _, _⟩ := he
  exact h3 i _ (List.getElem?_eq_getElem hi)
end Go.Proofs.Ytglgflibpgmilaa
