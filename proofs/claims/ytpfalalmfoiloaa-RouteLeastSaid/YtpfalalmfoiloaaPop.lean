/- pop. -/
import Derived.Test.YtpfalalmfoiloaaPushWalk
namespace Go.Proofs.Ytpfalalmfoiloaa
open Go.RowKit Go.Lib
set_option linter.unusedVariables false

def pCells (p : Pr) : Array Value := #[.int .u64 p.1, .int .i64 p.2]
/-- What a pop has made. -/
def PopPost (w : World) (Q B : Nat) (v : Value) (l : List Pr) (e : Ending) (w' : World) : Prop :=
  e = .returned (.agg (pCells (sAt l 0))) ∧ ∃ v' l', QIs w' Q B v' l' ∧ Hp l' ∧ l.length = l'.length + 1 ∧ (∀ e, e ∈ l ↔ e = sAt l 0 ∨ e ∈ l') ∧ Chg (QT w Q v) w w' ∧ ∀ k, v'.ownBlock = some k → QT w Q v k

/-- A pop under way: R the answer's block, F the first one's, X the last one's. -/
structure PD (w wr : World) (v : Value) (Q B R F X g c : Nat) (m l : List Pr) (x : Pr) (y : Pr) : Prop where
  q : QIs wr Q B (.slice (some ⟨g, 0, none⟩) m.length c) m
  hR : wr.heap[R]? = some (.cells (pCells (0, 0)) 140 (0, 0))
  hF : wr.heap[F]? = some (.cells (pCells y) 140 (0, 0))
  hX : wr.heap[X]? = some (.cells (pCells x) 140 (0, 0))
  gR : R ≠ g
  gF : F ≠ g
  gX : X ≠ g
  RF : R ≠ F
  chg : Chg (QT w Q v) w wr
  gB : B ≤ g
  RB : B ≤ R
  gT : QT w Q v g
  RT : QT w Q v R
theorem PD.below {w wr w' : World} {v : Value} {Q B R F X g c : Nat} {m l : List Pr} {x y : Pr} (h : PD w wr v Q B R F X g c m l x y) (hb : Below wr.heap.size wr w') : PD w w' v Q B R F X g c m l x y :=
  ⟨h.q.below hb, (hb.block R (lt_of_heap h.hR)).trans h.hR, (hb.block F (lt_of_heap h.hF)).trans h.hF, (hb.block X (lt_of_heap h.hX)).trans h.hX, h.gR, h.gF, h.gX, h.RF, h.chg.trans (Chg.of_below hb), h.gB, h.RB, h.gT, h.RT⟩
theorem PD.put {w wr : World} {v : Value} {Q B R F X g c : Nat} {m l : List Pr} {x y : Pr} (h : PD w wr v Q B R F X g c m l x y) (a : Nat) (z : Pr) :
    PD w ((wr.setCell ⟨g, a * 2, none⟩ (.int .u64 z.1)).setCell ⟨g, a * 2 + 1, none⟩ (.int .i64 z.2)) v Q B R F X g c (m.set a z) l x y := by
  refine ⟨h.q.put h.gB a z, ?_, ?_, ?_, h.gR, h.gF, h.gX, h.RF, (h.chg.setCell (p := ⟨g, a * 2, none⟩) h.gT _).setCell (p := ⟨g, a * 2 + 1, none⟩) h.gT _, h.gB, h.RB, h.gT, h.RT⟩
  · rw [Below.heap_setCell _ _ _ _ h.gR, Below.heap_setCell _ _ _ _ h.gR]; exact h.hR
  · rw [Below.heap_setCell _ _ _ _ h.gF, Below.heap_setCell _ _ _ _ h.gF]; exact h.hF
  · rw [Below.heap_setCell _ _ _ _ h.gX, Below.heap_setCell _ _ _ _ h.gX]; exact h.hX
/-- The answer laid into its block. -/
theorem PD.tell {w wr : World} {v : Value} {Q B R F X g c : Nat} {m l : List Pr} {x y : Pr} (h : PD w wr v Q B R F X g c m l x y) :
    let wf := (wr.setCell ⟨R, 0, none⟩ (.int .u64 y.1)).setCell ⟨R, 1, none⟩ (.int .i64 y.2)
    wf.heap[R]? = some (.cells (pCells y) 140 (0, 0)) ∧ QIs wf Q B (.slice (some ⟨g, 0, none⟩) m.length c) m ∧ Chg (QT w Q v) w wf := by
  intro wf
  have hQR : Q ≠ R := by have := h.q.lt; have := h.RB; omega
  refine ⟨?_, ⟨?_, ?_, h.q.lt, ?_⟩, (h.chg.setCell (p := ⟨R, 0, none⟩) h.RT _).setCell (p := ⟨R, 1, none⟩) h.RT _⟩
  · show ((wr.setCell ⟨R, 0, none⟩ (.int .u64 y.1)).setCell ⟨R, 1, none⟩ (.int .i64 y.2)).heap[R]? = _
    rw [heap_set (heap_set h.hR _) _]; simp [pCells]
  · show ((wr.setCell ⟨R, 0, none⟩ (.int .u64 y.1)).setCell ⟨R, 1, none⟩ (.int .i64 y.2)).heap[Q]? = _
    rw [Below.heap_setCell _ _ _ _ hQR, Below.heap_setCell _ _ _ _ hQR]; exact h.q.hh
  · exact own_chg (S := fun k => k = R) h.q.own ⟨rfl, rfl, rfl, by simp [wf, World.setCell], fun k _ hk => by show ((wr.setCell ⟨R, 0, none⟩ (.int .u64 y.1)).setCell ⟨R, 1, none⟩ (.int .i64 y.2)).heap[k]? = _; rw [Below.heap_setCell _ _ _ _ hk, Below.heap_setCell _ _ _ _ hk]⟩ (fun k hk => by simp [Value.ownBlock] at hk; have := h.gR; omega)
  · have := h.q.le; simp [wf, World.setCell]; exact this
theorem pop_end {w wr : World} {v : Value} {Q B R F X g c a : Nat} {m l : List Pr} {x : Pr} (h : PD w wr v Q B R F X g c (m.set a x) l x (sAt l 0)) (hd : Down m a x l) (hx : ∀ s, 1 ≤ s → s < m.length → (s - 1) / 2 = a → x.1 ≤ lb m s) :
    let wf := (wr.setCell ⟨R, 0, none⟩ (.int .u64 (sAt l 0).1)).setCell ⟨R, 1, none⟩ (.int .i64 (sAt l 0).2)
    wf.heap[R]? = some (.cells (pCells (sAt l 0)) 140 (0, 0)) ∧ PopPost w Q B v l (.returned (.agg (pCells (sAt l 0)))) wf := by
  intro wf
  obtain ⟨t1, t2, t3⟩ := h.tell
  obtain ⟨e1, e2, e3⟩ := down_end hd hx
  exact ⟨t1, rfl, _, _, t2, e1, e2, e3, t3, fun k hk => by simp [Value.ownBlock] at hk; exact hk ▸ h.gT⟩
theorem pop_one {w wr : World} {v : Value} {Q B R F X g c : Nat} {l : List Pr} {x : Pr} (h : PD w wr v Q B R F X g c [] l x (sAt l 0)) (hl : l.length = 1) :
    let wf := (wr.setCell ⟨R, 0, none⟩ (.int .u64 (sAt l 0).1)).setCell ⟨R, 1, none⟩ (.int .i64 (sAt l 0).2)
    wf.heap[R]? = some (.cells (pCells (sAt l 0)) 140 (0, 0)) ∧ PopPost w Q B v l (.returned (.agg (pCells (sAt l 0)))) wf := by
  intro wf
  obtain ⟨t1, t2, t3⟩ := h.tell
  refine ⟨t1, rfl, _, [], t2, fun i _ h => by simp at h, by simpa using hl, fun e => ?_, t3, fun k hk => by simp [Value.ownBlock] at hk; exact hk ▸ h.gT⟩
  constructor
  · intro he
    obtain ⟨i, hi, rfl⟩ := mem_sAt he
    left; congr 1; omega
  · intro he
    rcases he with rfl | he
    · exact sAt_mem (by omega)
    · simp at he
end Go.Proofs.Ytpfalalmfoiloaa
