/- QuietCounts: the memory of its last loop. -/
import Derived.Test.YtabmmjhcfhplnaaQa
namespace Go.Proofs.Ytabmmjhcfhplnaa
open Go.RowKit Go.Lib
set_option linter.unusedVariables false
def BArr (w : World) (G : Nat) (bg : List Bool) : Prop := w.heap[G]? = some (.cells (bg.map Value.bool).toArray 4 (0, 0))
theorem BArr.cell {w : World} {G : Nat} {bg : List Bool} (h : BArr w G bg) (i : Nat) (hi : i < bg.length) : w.cell? ⟨G, i, none⟩ = some (.bool (bgt bg i)) := cell_of h (by simp [bgt, hi])
theorem BArr.put {w : World} {G : Nat} {bg : List Bool} (h : BArr w G bg) (i : Nat) (x : Bool) : BArr (w.setCell ⟨G, i, none⟩ (.bool x)) G (bg.set i x) := by
  unfold BArr
  rw [heap_set h _]
  simp
def SL (b gc G Y n : Nat) (bl : List Nat) (k : Nat) : Prop := k = b ∨ k = gc ∨ k = G ∨ (∃ j, j < n ∧ k = gd bl j) ∨ Y ≤ k
/-- What stays through the loop. -/
structure LS (w5 : World) (b gc G : Nat) (xs : List Int) (ov kv cv : Value) (bl : List Nat) (ms : List Mk) : Prop where
  q : QM w5 w5.heap.size b gc 0 (Ast.laid xs) bl (ms.map mkOp)
  row : w5.ownsRow 0 30 1 ov ms.length (ptrs bl)
  k : w5.ownsRow 0 3 1 kv ms.length (ms.map fun m => .int .i64 m.1)
  c : w5.ownsRow (gc + 1) 27 1 cv ms.length (ms.map fun m => .int .u64 m.2)
  g : BArr w5 G (List.replicate ms.length false)
  len : bl.length = ms.length
theorem row_keeps {w5 wr : World} {S : Nat → Prop} {B t n : Nat} {v : Value} {l : List Value} (h : w5.ownsRow B t 1 v n l) (hc : Chg S w5 wr) (hS : ∀ g cur fr, v.ownBlock = some g → B ≤ g → w5.heap[g]? = some (.cells cur t fr) → ¬ S g) (i : Nat) (hi : i < n) {u : Value} (hu : l[i]? = some u) :
    ∃ g c, v = .slice (some ⟨g, 0, none⟩) n c ∧ n ≤ c ∧ wr.cell? ⟨g, i, none⟩ = some u := by
  obtain ⟨h0, ⟨rfl, rfl⟩ | ⟨g, cap, cur, rfl, hg, hh, h1, h2, h3, h4⟩⟩ := h
  · omega
  · refine ⟨g, cap, rfl, h1, ?_⟩
    refine cell_of (hc.heap hh (hS g cur _ rfl hg hh)) ?_
    rw [← h4, List.getElem?_take_of_lt (by omega)] at hu
    simpa using hu
theorem mem_gd {bl : List Nat} {i : Nat} (h : i < bl.length) : (ptrs bl)[i]? = some (.pointer (some ⟨gd bl i, 0, none⟩)) := by simp [ptrs, gd, List.getD, h]
section
variable {w5 wr wr' : World} {b gc G : Nat} {xs : List Int} {ov kv cv : Value} {bl : List Nat} {ms : List Mk}
theorem mk_get {k : Nat} (hk : k < ms.length) : qd (ms.map mkOp) k = mkOp (mAt ms k) := by simp [qd, List.getD, mAt, hk]
theorem LS.ops (h : LS w5 b gc G xs ov kv cv bl ms) (hc : Chg (SL b gc G w5.heap.size ms.length bl) w5 wr) (i : Nat) (hi : i < ms.length) : ∃ g c, ov = .slice (some ⟨g, 0, none⟩) ms.length c ∧ ms.length ≤ c ∧ wr.cell? ⟨g, i, none⟩ = some (.pointer (some ⟨gd bl i, 0, none⟩)) := by
  obtain ⟨lv, ha⟩ := h.q.ex
  refine row_keeps h.row hc (fun g cur fr _ _ hh => ?_) i hi (mem_gd (by rw [h.len]; exact hi))
  rintro (e | e | e | ⟨j, hj, e⟩ | e)
  · exact ne_type hh ha.hb (by decide) e
  · exact ne_type hh ha.hc (by decide) e
  · exact ne_type hh h.g (by decide) e
  · exact ne_type hh (h.q.op j (by simpa using hj)) (by decide) e
  · have := lt_of_heap hh; omega
theorem LS.kinds (h : LS w5 b gc G xs ov kv cv bl ms) (hc : Chg (SL b gc G w5.heap.size ms.length bl) w5 wr) (i : Nat) (hi : i < ms.length) : ∃ g c, kv = .slice (some ⟨g, 0, none⟩) ms.length c ∧ ms.length ≤ c ∧ wr.cell? ⟨g, i, none⟩ = some (.int .i64 (mAt ms i).1) := by
  obtain ⟨lv, ha⟩ := h.q.ex
  refine row_keeps h.k hc (fun g cur fr _ _ hh => ?_) i hi (by simp [mAt, hi])
  rintro (e | e | e | ⟨j, hj, e⟩ | e)
  · exact ne_type hh ha.hb (by decide) e
  · exact ne_type hh ha.hc (by decide) e
  · exact ne_type hh h.g (by decide) e
  · exact ne_type hh (h.q.op j (by simpa using hj)) (by decide) e
  · have := lt_of_heap hh; omega
theorem LS.codes (h : LS w5 b gc G xs ov kv cv bl ms) (hc : Chg (SL b gc G w5.heap.size ms.length bl) w5 wr) (i : Nat) (hi : i < ms.length) : ∃ g c, cv = .slice (some ⟨g, 0, none⟩) ms.length c ∧ ms.length ≤ c ∧ wr.cell? ⟨g, i, none⟩ = some (.int .u64 (mAt ms i).2) := by
  obtain ⟨lv, ha⟩ := h.q.ex
  refine row_keeps h.c hc (fun g cur fr _ hB hh => ?_) i hi (by simp [mAt, hi])
  rintro (e | e | e | ⟨j, hj, e⟩ | e)
  · exact ne_type hh ha.hb (by decide) e
  · omega
  · exact ne_type hh h.g (by decide) e
  · exact ne_type hh (h.q.op j (by simpa using hj)) (by decide) e
  · have := lt_of_heap hh; omega
/-- The loop's memory. -/
structure LM (w5 wr : World) (b gc G : Nat) (s : Ast) (bl : List Nat) (ms : List Mk) (qs : List QOp) (bg : List Bool) : Prop where
  q : QM wr w5.heap.size b gc 0 s bl qs
  g : BArr wr G bg
  chg : Chg (SL b gc G w5.heap.size ms.length bl) w5 wr
  ql : qs.length = ms.length
variable {s s' : Ast} {qs qs' : List QOp} {bg : List Bool} {k : Nat}
theorem LS.start (h : LS w5 b gc G xs ov kv cv bl ms) : LM w5 w5 b gc G (Ast.laid xs) bl ms (ms.map mkOp) (List.replicate ms.length false) := ⟨h.q, h.g, Chg.refl _ _, by simp⟩
theorem LS.gne (h : LS w5 b gc G xs ov kv cv bl ms) : G ≠ b ∧ G ≠ gc ∧ G < w5.heap.size ∧ ∀ j, j < ms.length → G ≠ gd bl j := by
  obtain ⟨lv, ha⟩ := h.q.ex
  exact ⟨ne_type h.g ha.hb (by decide), ne_type h.g ha.hc (by decide), lt_of_heap h.g, fun j hj => ne_type h.g (h.q.op j (by simpa using hj)) (by decide)⟩
theorem LM.mark (hs : LS w5 b gc G xs ov kv cv bl ms) (h : LM w5 wr b gc G s bl ms qs bg) (i : Nat) (x : Bool) : LM w5 (wr.setCell ⟨G, i, none⟩ (.bool x)) b gc G s bl ms qs (bg.set i x) := by
  obtain ⟨n1, n2, n3, n4⟩ := hs.gne
  have hc : Chg (fun k => k = G) wr (wr.setCell ⟨G, i, none⟩ (.bool x)) := Chg.setCell (S := fun k => k = G) (Chg.refl _ _) (p := ⟨G, i, none⟩) rfl _
  exact ⟨h.q.other hc (fun e => n1 e.symm) (fun e => n2 e.symm) (fun j hj e => by omega) (fun j hj e => n4 j (by rw [← h.ql]; exact hj) e.symm), h.g.put i x, h.chg.trans (hc.mono fun k e => .inr (.inr (.inl e))), h.ql⟩
theorem LM.look (hs : LS w5 b gc G xs ov kv cv bl ms) (h : LM w5 wr b gc G s bl ms qs bg) (hq : QM wr' w5.heap.size b gc 0 s bl qs) (c : Chg (fun j => j = b) wr wr') : LM w5 wr' b gc G s bl ms qs bg :=
  ⟨hq, c.heap h.g hs.gne.1, h.chg.trans (c.mono fun k e => .inl e), h.ql⟩
theorem LM.step (hs : LS w5 b gc G xs ov kv cv bl ms) (h : LM w5 wr b gc G s bl ms qs bg) (hk : k < ms.length) (hq : QM wr' w5.heap.size b gc 0 s' bl qs') (hl : qs'.length = qs.length) (c : Chg (SQ b gc (gd bl k) w5.heap.size) wr wr') : LM w5 wr' b gc G s' bl ms qs' bg := by
  obtain ⟨n1, n2, n3, n4⟩ := hs.gne
  refine ⟨hq, c.heap h.g (fun e => ?_), h.chg.trans (c.mono fun j e => ?_), hl.trans h.ql⟩
  · rcases e with e | e | e | e
    · exact n1 e
    · exact n2 e
    · exact n4 k hk e
    · omega
  · rcases e with e | e | e | e
    · exact .inl e
    · exact .inr (.inl e)
    · exact .inr (.inr (.inr (.inl ⟨k, hk, e⟩)))
    · exact .inr (.inr (.inr (.inr e)))
theorem Chg.toBelow {S : Nat → Prop} {w0 w5 wr : World} (h : Below w0.heap.size w0 w5) (c : Chg S w5 wr) (hS : ∀ k, S k → w0.heap.size ≤ k) : Below w0.heap.size w0 wr := Chg.below h c hS h.size
end
end Go.Proofs.Ytabmmjhcfhplnaa
