/- What all walks over graphs share: rows, the lists of a graph, sameInts (the law's and the reference's). -/
import Derived.Test.YtacmlilcamkndaaBase
import Derived.RegionTactic
import Derived.BigRegion
import Derived.BigQuiet
import Derived.WalkSmall
import Derived.Deep.Draws
namespace Go.Proofs.Ytacmlilcamkndaa
open Go.RowKit Go.Lib

theorem hide {p : Prop} (h : p) : Hid p := h

theorem heap_set {w : World} {b i : Nat} {cs : Array Value} {t : TypeId} {fr : Nat × Nat} (h : w.heap[b]? = some (.cells cs t fr)) (u : Value) :
    (w.setCell ⟨b, i, none⟩ u).heap[b]? = some (.cells (cs.setIfInBounds i u) t fr) := by
  simp [World.setCell, Array.getElem?_modify, h]

theorem cell_of {w : World} {b i : Nat} {cs : Array Value} {t : TypeId} {fr : Nat × Nat} {v : Value} (h : w.heap[b]? = some (.cells cs t fr)) (hv : cs[i]? = some v) :
    w.cell? ⟨b, i, none⟩ = some v := by simp [World.cell?, h, hv]
theorem free_of {w : World} {b : Nat} {cs : Array Value} {t : TypeId} (h : w.heap[b]? = some (.cells cs t (0, 0))) (i : Nat) :
    w.frozen? ⟨b, i, none⟩ = false := by simp [World.frozen?, h]

theorem heap_new (w : World) (o : Obj) : (w.alloc o).heap[w.heap.size]? = some o := by
  show (w.heap.push o)[w.heap.size]? = _
  simp


/-- A row that is not empty lies at a plain address. -/
theorem RowAt.spot {k : IntKind} {w : World} {v : Value} {xs : List Int} (h : RowAt k w v xs) (hne : xs ≠ []) :
    ∃ g o c, v = .slice (some ⟨g, o, none⟩) xs.length c ∧ xs.length ≤ c ∧ c ≤ 9223372036854775807 ∧ ∀ i, i < xs.length → w.cell? ⟨g, o + i, none⟩ = some (.int k (xs[i]?.getD 0)) := by
  obtain ⟨ao, c, rfl, h1, h2, h3, h4⟩ := h
  have hl : 0 < xs.length := List.length_pos_iff.2 hne
  cases ao with
  | none => have := h3 rfl; omega
  | some a =>
    obtain ⟨b, o, sp⟩ := a
    have h0 := h4 _ rfl 0 hl
    have hs : sp = none := by simpa [Addr.add] using World.cell?_spot h0
    subst hs
    refine ⟨b, o, c, rfl, h1, h2, fun i hi => ?_⟩
    have := h4 _ rfl i hi
    rw [Addr.add_lit] at this
    simpa [List.getD] using this

theorem RowAt.empty {k : IntKind} {w : World} {v : Value} (h : RowAt k w v []) : ∃ ao c, v = .slice ao 0 c := by
  obtain ⟨ao, c, rfl, _⟩ := h
  exact ⟨ao, c, rfl⟩

theorem RowAt.below {k : IntKind} {w w' : World} {v : Value} {xs : List Int} (h : RowAt k w v xs) (hb : Below w.heap.size w w') : RowAt k w' v xs := by
  obtain ⟨ao, c, rfl, h1, h2, h3, h4⟩ := h
  refine ⟨ao, c, rfl, h1, h2, h3, fun a ha i hi => ?_⟩
  have h5 := h4 a ha i hi
  have hl : (a.add i).block < w.heap.size := block_of_cell h5
  rw [World.cell?, hb.block _ hl]
  exact h5
end Go.Proofs.Ytacmlilcamkndaa
