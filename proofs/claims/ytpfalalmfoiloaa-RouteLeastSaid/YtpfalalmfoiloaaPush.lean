/- push. -/
import Derived.Test.YtpfalalmfoiloaaQueue
namespace Go.Proofs.Ytpfalalmfoiloaa
open Go.RowKit Go.Lib
set_option linter.unusedVariables false

/-- The blocks that a call on the queue may turn: the queue's, its list's, new ones. -/
def QT (w : World) (Q : Nat) (v : Value) (k : Nat) : Prop := k = Q ∨ v.ownBlock = some k ∨ w.heap.size ≤ k
theorem qt_qs {w w' : World} {Q B : Nat} {v : Value} {l : List Pr} (h : QIs w Q B v l) (hc : Chg (QT w Q v) w w') : Chg (QS Q B) w w' := by
  refine hc.mono fun k hk => ?_
  rcases hk with hk | hk | hk
  · exact .inl hk
  · right
    obtain ⟨_, ⟨rfl, _⟩ | ⟨g', c', cur, rfl, hg', _⟩⟩ := h.own
    · simp [Value.ownBlock] at hk
    · simp [Value.ownBlock] at hk; omega
  · have := h.le; exact .inr (by omega)
/-- What a push has made. -/
def PushPost (w : World) (Q B : Nat) (v : Value) (l : List Pr) (x : Pr) (e : Ending) (w' : World) : Prop :=
  e = .returned (.tuple #[]) ∧ ∃ v' l', QIs w' Q B v' l' ∧ Hp l' ∧ l'.length = l.length + 1 ∧ (∀ e, e ∈ l' ↔ e ∈ l ∨ e = x) ∧ Chg (QT w Q v) w w' ∧ ∀ k, v'.ownBlock = some k → QT w Q v k

/-- A push under way. -/
structure PW (w wr : World) (v : Value) (Q B X g c : Nat) (m l : List Pr) (a : Nat) (x : Pr) : Prop where
  q : QIs wr Q B (.slice (some ⟨g, 0, none⟩) m.length c) m
  up : Up m a x l
  box : wr.heap[X]? = some (.cells #[.int .u64 x.1, .int .i64 x.2] 140 (0, 0))
  ne : X ≠ g
  neQ : X ≠ Q
  chg : Chg (QT w Q v) w wr
  gB : B ≤ g
  gT : QT w Q v g
theorem PW.below {w wr w' : World} {v : Value} {Q B X g c : Nat} {m l : List Pr} {a : Nat} {x : Pr} (h : PW w wr v Q B X g c m l a x) (hb : Below wr.heap.size wr w') : PW w w' v Q B X g c m l a x :=
  ⟨h.q.below hb, h.up, (hb.block X (lt_of_heap h.box)).trans h.box, h.ne, h.neQ, h.chg.trans (Chg.of_below hb), h.gB, h.gT⟩
/-- One place of the list written. -/
theorem PW.put {w wr : World} {v : Value} {Q B X g c : Nat} {m l : List Pr} {a a' : Nat} {x y : Pr} (h : PW w wr v Q B X g c m l a x) (hy : Up (m.set a y) a' x l) :
    PW w ((wr.setCell ⟨g, a * 2, none⟩ (.int .u64 y.1)).setCell ⟨g, a * 2 + 1, none⟩ (.int .i64 y.2)) v Q B X g c (m.set a y) l a' x := by
  have hne : g ≠ Q := by have := h.q.lt; have := h.gB; omega
  refine ⟨⟨?_, ?_, h.q.lt, by simpa [World.setCell] using h.q.le⟩, hy, ?_, h.ne, h.neQ, (h.chg.setCell (p := ⟨g, a * 2, none⟩) h.gT _).setCell (p := ⟨g, a * 2 + 1, none⟩) h.gT _, h.gB, h.gT⟩
  · rw [Below.heap_setCell _ _ _ _ (fun e => hne e.symm), Below.heap_setCell _ _ _ _ (fun e => hne e.symm), List.length_set]
    exact h.q.hh
  · rw [List.length_set]
    exact own_set h.q.own a y
  · rw [Below.heap_setCell _ _ _ _ h.ne, Below.heap_setCell _ _ _ _ h.ne]
    exact h.box
theorem QIs.put {wr : World} {Q B g c : Nat} {m : List Pr} (h : QIs wr Q B (.slice (some ⟨g, 0, none⟩) m.length c) m) (hg : B ≤ g) (a : Nat) (y : Pr) :
    QIs ((wr.setCell ⟨g, a * 2, none⟩ (.int .u64 y.1)).setCell ⟨g, a * 2 + 1, none⟩ (.int .i64 y.2)) Q B (.slice (some ⟨g, 0, none⟩) (m.set a y).length c) (m.set a y) := by
  have hne : g ≠ Q := by have := h.lt; omega
  refine ⟨?_, ?_, h.lt, by simpa [World.setCell] using h.le⟩
  · rw [Below.heap_setCell _ _ _ _ (fun e => hne e.symm), Below.heap_setCell _ _ _ _ (fun e => hne e.symm), List.length_set]
    exact h.hh
  · rw [List.length_set]
    exact own_set h.own a y
theorem push_end {w wr : World} {v : Value} {Q B X g c : Nat} {m l : List Pr} {a : Nat} {x : Pr} (h : PW w wr v Q B X g c m l a x) (hx : 0 < a → ¬ x.1 < lb m ((a - 1) / 2)) :
    PushPost w Q B v l x (.returned (.tuple #[])) ((wr.setCell ⟨g, a * 2, none⟩ (.int .u64 x.1)).setCell ⟨g, a * 2 + 1, none⟩ (.int .i64 x.2)).drew := by
  obtain ⟨h1, h2, h3⟩ := up_end h.up hx
  exact ⟨rfl, _, m.set a x, (h.q.put h.gB a x).below (Below.refl _ _).drew, h1, h2, h3, ((h.chg.setCell (p := ⟨g, a * 2, none⟩) h.gT _).setCell (p := ⟨g, a * 2 + 1, none⟩) h.gT _).drew, fun k hk => by simp [Value.ownBlock] at hk; exact hk ▸ h.gT⟩

theorem push_made {w w2 : World} {Q B g cap : Nat} {v : Value} {l : List Pr} {x : Pr} {o : Obj} (h : QIs w Q B v l) (hp : Hp l)
    (hown : w2.ownsRow B 140 2 (.slice (some ⟨g, 0, none⟩) (l.length + 1) cap) (l.length + 1) (qCells l ++ [.int .u64 x.1, .int .i64 x.2]))
    (hgrow : ((w.alloc (.cells #[.int .u64 x.1, .int .i64 x.2] 140)).alloc o).drew.grownBy w2 v.ownBlock) (hat : v.ownBlock = some g ∨ g = w.heap.size + 2) :
    w2.cell? ⟨Q, 0, none⟩ = some v ∧ w2.frozen? ⟨Q, 0, none⟩ = false ∧ PW w ((w2.setCell ⟨Q, 0, none⟩ (.slice (some ⟨g, 0, none⟩) (l.length + 1) cap))) v Q B w.heap.size g cap (l ++ [x]) l l.length x := by
  have hQ := lt_of_heap h.hh
  have hvb : ∀ k, v.ownBlock = some k → B ≤ k ∧ k < w.heap.size := fun k hk => by
    obtain ⟨_, ⟨rfl, _⟩ | ⟨g', c', cur, rfl, hg', hh', _⟩⟩ := h.own
    · simp [Value.ownBlock] at hk
    · simp [Value.ownBlock] at hk; subst hk; exact ⟨hg', lt_of_heap hh'⟩
  have hsz : ((w.alloc (.cells #[.int .u64 x.1, .int .i64 x.2] 140)).alloc o).drew.heap.size = w.heap.size + 2 := by simp
  have hQ2 : w2.heap[Q]? = some (.cells #[v, fnv 87] 144 (0, 0)) := by
    rw [hgrow.block Q (by rw [hsz]; omega) (fun e => by have := hvb Q e.symm; have := h.lt; omega)]
    show ((w.alloc (.cells #[.int .u64 x.1, .int .i64 x.2] 140)).alloc o).heap[Q]? = _
    rw [Below.heap_alloc _ _ _ (by simp; omega)]
    exact (Below.heap_alloc _ _ _ hQ).trans h.hh
  have hX2 : w2.heap[w.heap.size]? = some (.cells #[.int .u64 x.1, .int .i64 x.2] 140 (0, 0)) := by
    rw [hgrow.block w.heap.size (by rw [hsz]; omega) (fun e => by have := hvb _ e.symm; omega)]
    show ((w.alloc (.cells #[.int .u64 x.1, .int .i64 x.2] 140)).alloc o).heap[w.heap.size]? = _
    rw [Below.heap_alloc _ _ _ (by simp)]
    exact heap_new w _
  have hgB : B ≤ g := by
    rcases hat with e | e
    · exact (hvb g e).1
    · have := h.le; omega
  have hgX : w.heap.size ≠ g := by
    rcases hat with e | e
    · have := (hvb g e).2; omega
    · omega
  have hgQ : Q ≠ g := by have := h.lt; omega
  refine ⟨cell_of hQ2 rfl, free_of hQ2 0, ⟨⟨?_, ?_, h.lt, ?_⟩, up_start l x hp, ?_, hgX, by omega, ?_, hgB, by rcases hat with e | e; exact .inr (.inl e); exact .inr (.inr (by omega))⟩⟩
  · rw [heap_set hQ2]; simp
  · rw [List.length_append, List.length_singleton, qCells_snoc]
    exact own_chg (S := fun k => k = Q) hown ⟨rfl, rfl, rfl, by simp [World.setCell], fun k _ hk => Below.heap_setCell _ _ _ _ hk⟩ (fun k hk => by simp [Value.ownBlock] at hk; omega)
  · have h1 := hgrow.size; rw [hsz] at h1; have := h.le; simp [World.setCell]; omega
  · rw [Below.heap_setCell _ _ _ _ (show w.heap.size ≠ Q by omega)]; exact hX2
  · have c0 : Chg (QT w Q v) w ((w.alloc (.cells #[.int .u64 x.1, .int .i64 x.2] 140)).alloc o).drew := (((Chg.refl _ w).alloc _).alloc _).drew
    exact (c0.grown hgrow (fun k hk => .inl (.inr (.inl hk)))).setCell (p := ⟨Q, 0, none⟩) (.inl rfl) _
theorem news_at (w : World) (o : Obj) (a b : Value) (t : TypeId) : ∀ j u, [a, b][j]? = some u → ((w.alloc o).alloc (.cells #[a, b] t)).drew.cell? ((⟨w.heap.size + 1, 0, none⟩ : Addr).add j) = some u := by
  intro j u hj
  have h := two_at (w.alloc o) a b t j u hj
  have e : (w.alloc o).heap.size = w.heap.size + 1 := by simp
  rw [e] at h
  exact h
end Go.Proofs.Ytpfalalmfoiloaa
