/- QuietCounts: the last loop begins. -/
import Derived.Test.YtabmmjhcfhplnaaQb
namespace Go.Proofs.Ytabmmjhcfhplnaa
open Go.RowKit Go.Lib
set_option linter.unusedVariables false
theorem owns_lower {w : World} {B B' : Nat} {e : TypeId} {z n : Nat} {v : Value} {l : List Value} (h : w.ownsRow B e z v n l) (hb : B' ≤ B) : w.ownsRow B' e z v n l := by
  obtain ⟨h0, h1 | ⟨g, cap, cur, hv, hg, r⟩⟩ := h
  · exact ⟨h0, .inl h1⟩
  · exact ⟨h0, .inr ⟨g, cap, cur, hv, by omega, r⟩⟩
theorem made_bools (n : Nat) : madeCells #[Value.bool false] n = ((List.replicate n false).map Value.bool).toArray := by
  apply Array.ext'
  apply List.ext_getElem
  · simp [madeCells]
  · intro i h1 h2
    simp [madeCells, Nat.mod_one]
theorem mkPh_le (k : Int) : mkPh k ≤ 6 := by unfold mkPh; split; decide; split; decide; split <;> decide
theorem ls_start {w0 w3 w4 : World} {Y0 b gc : Nat} {xs : List Int} {ov kv cv : Value} {bl : List Nat} {ms : List Mk} (hx : 2 < xs.length) (h : PM w0 w3 Y0 b gc xs ov bl ms) (hk : KM w3 w4 kv cv (ms.map (·.1)) (ms.map (·.2))) :
    LS (w4.alloc (.cells (madeCells #[.bool false] ms.length) 4)) b gc w4.heap.size xs ov kv cv bl ms := by
  have hb : Below w4.heap.size w4 (w4.alloc (.cells (madeCells #[.bool false] ms.length) 4)) := below_alloc (Below.refl _ _) _
  have h5 := (h.below hk.bel).below hb
  have k5 := hk.below hb
  have hy := h.ar.yw
  have hs := hk.bel.size
  have h2 := h.ar.bY
  have h3 := h.ar.gY
  refine ⟨⟨⟨_, h5.ar.rise h5.ar.yw (Nat.le_refl _)⟩, by simp [h.len], fun k hj => ?_, fun k hj => ?_, fun i j hij hj => h.inj i j hij (by simpa using hj), fun k hj => ?_, rfl, rfl, hx, rfl⟩, owns_lower h5.row (by omega), ?_, ?_, ?_, h.len⟩
  · rw [List.length_map] at hj
    rw [mk_get hj]; exact h5.op k hj
  · rw [List.length_map] at hj
    rw [mk_get hj]; exact ⟨mkPh_le _, rfl⟩
  · rw [List.length_map] at hj
    have := h.lo k hj
    exact ⟨lt_of_heap (h5.op k hj), by omega, by omega⟩
  · have := owns_lower k5.k (Nat.zero_le _)
    simpa [List.map_map, Function.comp_def] using this
  · have := owns_lower (B' := gc + 1) k5.c (by omega)
    simpa [List.map_map, Function.comp_def] using this
  · unfold BArr
    rw [← made_bools]
    exact heap_new _ _
theorem inv_start (ms : List Mk) (p f : Int) : Inv ms (Ast.laid [p, 0, f]) (ms.map mkOp) (List.replicate ms.length false) p f false :=
  ⟨rfl, rfl, .inl rfl, rfl, by simp, by simp, fun k hk _ => mk_get hk, fun k hk h => by simp [bgt, hk] at h⟩
theorem stS_log (who : Int) (n : Nat) (s : Ast) (o : QOp) : (stS who n s o).log.length ≤ s.log.length + 1 := by
  unfold stS
  split
  · omega
  · show (if s.keep then s.log ++ [_] else s.log).length ≤ _
    split <;> simp
theorem LM.bel {w0 w5 wr : World} {b gc G : Nat} {s : Ast} {bl : List Nat} {ms : List Mk} {qs : List QOp} {bg : List Bool} (h : LM w5 wr b gc G s bl ms qs bg) (h5 : Below w0.heap.size w0 w5) (hb : w0.heap.size ≤ b) (hg : w0.heap.size ≤ gc) (hG : w0.heap.size ≤ G) (ho : ∀ j, j < ms.length → w0.heap.size ≤ gd bl j) : Below w0.heap.size w0 wr := by
  refine Chg.below h5 h.chg (fun k hk => ?_) h5.size
  rcases hk with e | e | e | ⟨j, hj, e⟩ | e
  · omega
  · omega
  · omega
  · rw [e]; exact ho j hj
  · have := h5.size; omega
end Go.Proofs.Ytabmmjhcfhplnaa
