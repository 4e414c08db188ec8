/- Two boxes: a graph that comes in, a graph that is answered. -/
import Derived.Test.YtiohimbifjlfdaaRB
import Derived.Test.YtiohimbifjlfdaaLists
import Derived.BigRegion
import Derived.BigQuiet
namespace Go.Proofs.Ytiohimbifjlfdaa
open Go.RowKit Go.Lib
set_option linter.unusedVariables false
structure MT (w x : World) (N : Int) (va vb vc : Value) : Prop where
  bg : x.heap[w.heap.size]? = some (.cells #[.int .i64 N, va, vb, vc] 28 (0, 0))
  rs : x.heap[w.heap.size + 1]? = some (.cells #[.int .i64 0, .slice none 0 0, .slice none 0 0, .slice none 0 0] 28 (0, 0))
  bel : Below w.heap.size w x
theorem MT.start (w : World) (N : Int) (va vb vc : Value) : MT w ((w.alloc (.cells #[.int .i64 N, va, vb, vc] 28)).alloc (.cells #[.int .i64 0, .slice none 0 0, .slice none 0 0, .slice none 0 0] 28)) N va vb vc := by
  have hs : (w.alloc (.cells #[.int .i64 N, va, vb, vc] 28)).heap.size = w.heap.size + 1 := by simp
  refine ⟨?_, ?_, below_alloc (below_alloc (Below.refl _ _) _) _⟩
  · exact (Below.heap_alloc _ _ _ (by rw [hs]; omega)).trans (heap_new _ _)
  · have := heap_new (w.alloc (.cells #[.int .i64 N, va, vb, vc] 28)) (.cells #[.int .i64 0, .slice none 0 0, .slice none 0 0, .slice none 0 0] 28)
    rw [hs] at this; exact this
theorem MT.below {w x x' : World} {N : Int} {va vb vc : Value} (h : MT w x N va vb vc) (hb : Below x.heap.size x x') : MT w x' N va vb vc :=
  ⟨(hb.block _ (lt_of_heap h.bg)).trans h.bg, (hb.block _ (lt_of_heap h.rs)).trans h.rs, below_on h.bel hb⟩
theorem MT.drew {w x : World} {N : Int} {va vb vc : Value} (h : MT w x N va vb vc) : MT w x.drew N va vb vc := h.below (below_drew (Below.refl _ _))
theorem MT.put {w x : World} {N : Int} {va vb vc : Value} (h : MT w x N va vb vc) (y0 y1 y2 y3 : Value) :
    ((((x.setCell ⟨w.heap.size + 1, 0, none⟩ y0).setCell ⟨w.heap.size + 1, 1, none⟩ y1).setCell ⟨w.heap.size + 1, 2, none⟩ y2).setCell ⟨w.heap.size + 1, 3, none⟩ y3).heap[w.heap.size + 1]? = some (.cells #[y0, y1, y2, y3] 28 (0, 0)) ∧
    Below w.heap.size w ((((x.setCell ⟨w.heap.size + 1, 0, none⟩ y0).setCell ⟨w.heap.size + 1, 1, none⟩ y1).setCell ⟨w.heap.size + 1, 2, none⟩ y2).setCell ⟨w.heap.size + 1, 3, none⟩ y3) ∧
    ∀ k, k ≠ w.heap.size + 1 → ((((x.setCell ⟨w.heap.size + 1, 0, none⟩ y0).setCell ⟨w.heap.size + 1, 1, none⟩ y1).setCell ⟨w.heap.size + 1, 2, none⟩ y2).setCell ⟨w.heap.size + 1, 3, none⟩ y3).heap[k]? = x.heap[k]? := by
  refine ⟨by rw [heap_set (heap_set (heap_set (heap_set h.rs _) _) _) _]; rfl, ?_, fun k hk => ?_⟩
  · exact (((h.bel.setCell (p := ⟨w.heap.size + 1, 0, none⟩) (by simp) _).setCell (p := ⟨w.heap.size + 1, 1, none⟩) (by simp) _).setCell (p := ⟨w.heap.size + 1, 2, none⟩) (by simp) _).setCell (p := ⟨w.heap.size + 1, 3, none⟩) (by simp) _
  · rw [Below.heap_setCell _ _ _ _ (by exact hk), Below.heap_setCell _ _ _ _ (by exact hk), Below.heap_setCell _ _ _ _ (by exact hk), Below.heap_setCell _ _ _ _ (by exact hk)]
theorem good_chk' {n : Nat} {st tl wt : List Int} (h : Good n st tl wt) : (chk n st tl wt).1 = 0 := by
  have hf : Fits (n : Int) tl.length := ⟨by omega, by have := h.n_le; omega, h.m_le⟩
  unfold chk
  rw [if_pos hf, if_pos ⟨by rw [h.s_len]; omega, h.w_len⟩]
  have h1 : chkRows (n : Int).toNat tl.length st = none := by
    unfold chkRows
    exact first_none fun i hi => by
      rw [Int.toNat_natCast] at hi ⊢
      simpa [badRow] using h.rows i hi
  rw [h1]
  simp only [chkEdges]
  rw [first_none (p := badEdge (n : Int).toNat tl wt) fun e he => by
    rw [Int.toNat_natCast]
    simpa [badEdge] using h.edges e he]
theorem results_cell2 {P : Program} {fn : Func} {p u : Tmp} {ty : TypeId} (h : fn.results = #[.cell p ty, .tmp u]) (tmps : Array Value) (w : World) (g : Nat) (t : TypeId) (cs : Array Value) (fr : Nat × Nat) (d : TypeDesc)
    (hp : tmps.getD p undef = .pointer (some ⟨g, 0, none⟩)) (hg : w.heap[g]? = some (.cells cs t fr))
    (hu : P.underlying ty = some d) (hd : (match d with | .struct _ | .array _ _ => true | _ => false) = true) (hi : (P.info? ty).map (·.size) = some cs.size) (x : Value) (hx : tmps.getD u undef = x) :
    (results fn tmps).run P w = .ok (.tuple #[.agg cs, x]) w := by
  subst hx
  have hp' : tmps[p]?.getD undef = .pointer (some ⟨g, 0, none⟩) := by simpa using hp
  simp only [results, h]
  simp [Result.andThen, hp', asAddr, run_loadVar_row w g t ty cs fr d hg hu hd hi]
end Go.Proofs.Ytiohimbifjlfdaa
