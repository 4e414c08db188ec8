/- wait: a vertex put into the queue with its label. -/
import Derived.Test.YtehlciejhegndaaHeaps
import Derived.Test.YtehlciejhegndaaDijkstra
namespace Go.Proofs.Ytehlciejhegndaa
open Go.RowKit Go.Lib
set_option linter.unusedVariables false

/-- A block of words. -/
def uCells (l : List Int) : Array Value := (l.map (Value.int .u64)).toArray
def ArrU (w : World) (g : Nat) (l : List Int) : Prop := w.heap[g]? = some (.cells (uCells l) 26 (0, 0))
theorem ArrU.cell {w : World} {g : Nat} {l : List Int} (h : ArrU w g l) (i : Nat) (hi : i < l.length) : w.cell? ⟨g, i, none⟩ = some (.int .u64 (at_ l i)) := by
  refine cell_of h ?_
  simp [uCells, at_, hi]
theorem ArrU.free {w : World} {g : Nat} {l : List Int} (h : ArrU w g l) (i : Nat) : w.frozen? ⟨g, i, none⟩ = false := free_of h i
theorem ArrU.put {w : World} {g : Nat} {l : List Int} (h : ArrU w g l) (i : Nat) (x : Int) : ArrU (w.setCell ⟨g, i, none⟩ (.int .u64 x)) g (l.set i x) := by
  have := heap_set (i := i) h (.int .u64 x)
  unfold ArrU
  rw [this]
  simp [uCells]
theorem ArrU.chg {w w' : World} {S : Nat → Prop} {g : Nat} {l : List Int} (h : ArrU w g l) (k : Chg S w w') (hb : ¬ S g) : ArrU w' g l := k.heap h hb
theorem ArrU.row {w : World} {g n : Nat} {l : List Int} (h : ArrU w g l) (hn : l.length = n) (h63 : n ≤ 9223372036854775807) : RowAt .u64 w (.slice (some ⟨g, 0, none⟩) n n) l := by
  subst hn
  refine ⟨_, _, rfl, Nat.le_refl _, h63, (fun e => by cases e), fun a ha i hi => ?_⟩
  cases ha
  rw [Addr.add_lit, Nat.zero_add, h.cell i hi]
  rfl

/-- The search's memory: the queue, the labels, the variable that holds them. -/
structure SM (w : World) (Q B G V n : Nat) (v : Value) (q : List Pr) (L : List Int) : Prop where
  qi : QIs w Q B v q
  arr : ArrU w G L
  var_ : w.heap[V]? = some (.cells #[.slice (some ⟨G, 0, none⟩) n n] 23 (0, 0))
  gB : G < B
  vB : V < B
  gQ : G ≠ Q
  vQ : V ≠ Q
  gV : G ≠ V
  len : L.length = n
  qv : w.heap[Q + 1]? = some (.cells #[.pointer (some ⟨Q, 0, none⟩)] 137 (0, 0))
  uB : Q + 1 < B
  gU : G ≠ Q + 1
theorem SM.below {w w' : World} {Q B G V n : Nat} {v : Value} {q : List Pr} {L : List Int} (h : SM w Q B G V n v q L) (hb : Below w.heap.size w w') : SM w' Q B G V n v q L :=
  ⟨h.qi.below hb, (hb.block G (lt_of_heap h.arr)).trans h.arr, (hb.block V (lt_of_heap h.var_)).trans h.var_, h.gB, h.vB, h.gQ, h.vQ, h.gV, h.len, (hb.block (Q + 1) (lt_of_heap h.qv)).trans h.qv, h.uB, h.gU⟩
theorem SM.queue {w w' : World} {Q B G V n : Nat} {v v' : Value} {q q' : List Pr} {L : List Int} (h : SM w Q B G V n v q L) (hc : Chg (QS Q B) w w') (hq : QIs w' Q B v' q') : SM w' Q B G V n v' q' L :=
  ⟨hq, h.arr.chg hc (by unfold QS; have := h.gB; have := h.gQ; omega), hc.heap h.var_ (by unfold QS; have := h.vB; have := h.vQ; omega), h.gB, h.vB, h.gQ, h.vQ, h.gV, h.len, hc.heap h.qv (by unfold QS; have := h.uB; omega), h.uB, h.gU⟩
theorem SM.label {w : World} {Q B G V n : Nat} {v : Value} {q : List Pr} {L : List Int} (h : SM w Q B G V n v q L) (i : Nat) (x : Int) : SM (w.setCell ⟨G, i, none⟩ (.int .u64 x)) Q B G V n v q (L.set i x) := by
  have hne : ∀ k, k ≠ G → (w.setCell ⟨G, i, none⟩ (.int .u64 x)).heap[k]? = w.heap[k]? := fun k hk => Below.heap_setCell _ _ _ _ hk
  refine ⟨⟨?_, ?_, h.qi.lt, by simpa [World.setCell] using h.qi.le⟩, h.arr.put i x, ?_, h.gB, h.vB, h.gQ, h.vQ, h.gV, by rw [List.length_set]; exact h.len, by rw [hne (Q + 1) (fun e => h.gU e.symm)]; exact h.qv, h.uB, h.gU⟩
  · rw [hne Q (fun e => h.gQ e.symm)]; exact h.qi.hh
  · refine own_chg (S := fun k => k = G) h.qi.own ⟨rfl, rfl, rfl, by simp [World.setCell], fun k _ hk => hne k hk⟩ (fun k hk => ?_)
    obtain ⟨_, ⟨rfl, _⟩ | ⟨g', c', cur, rfl, hg', _⟩⟩ := h.qi.own
    · simp [Value.ownBlock] at hk
    · simp [Value.ownBlock] at hk; have := h.gB; omega
  · rw [hne V (fun e => h.gV e.symm)]; exact h.var_

/-- What a wait has made. -/
def WaitPost (w : World) (Q B G V n : Nat) (v : Value) (q : List Pr) (L : List Int) (x : Pr) (e : Ending) (w' : World) : Prop :=
  e = .returned (.tuple #[]) ∧ ∃ v' q', SM w' Q B G V n v' q' L ∧ Hp q' ∧ q'.length = q.length + 1 ∧ (∀ e, e ∈ q' ↔ e ∈ q ∨ e = x) ∧ Chg (QT w Q v) w w' ∧ ∀ k, v'.ownBlock = some k → QT w Q v k

set_option maxRecDepth 100000 in
set_option maxHeartbeats 2000000 in
theorem wait_any (w : World) (Q B G V n : Nat) (v : Value) (q : List Pr) (L : List Int) (h : SM w Q B G V n v q L) (hp : Hp q) (hq : q.length ≤ 10000000) (u : Nat) (hu : u < n) (hn : n ≤ 1048576) :
    Calls Try.prog 94 #[.int .i64 (u : Int), .pointer (some ⟨Q + 1, 0, none⟩), .pointer (some ⟨V, 0, none⟩)] w (WaitPost w Q B G V n v q L (at_ L u, (u : Int))) := by
  have H := hide h
  have c0 := cell_of h.var_ (i := 0) rfl
  have cq := cell_of h.qv (i := 0) rfl
  have c1 := h.arr.cell u (by rw [h.len]; exact hu)
  have hdr : Below w.heap.size w w.drew := below_drew (Below.refl _ _)
  have HPU := hide (push_any w.drew Q B v q (at_ L u, (u : Int)) (h.qi.below hdr) hp hq)
  have HSD := hide (h.below hdr)
  obtain ⟨y, hy⟩ : ∃ y, y = at_ L u := ⟨_, rfl⟩
  rw [← hy] at c1 HPU ⊢
  clear h hp hy hdr
  go_enter Try.func94, Try.ntmps94
  go_wp2_with fail
  go_region_with (go_at_call 95; refine HPU.out.mono ?_; rintro e w' ⟨rfl, v', l', h1, h2, h3, h4, h5, h6⟩; have HW : Hid (WaitPost w Q B G V n v q L (y, (u : Int)) (.returned (.tuple #[])) w') := ⟨rfl, v', l', HSD.out.queue (qt_qs HSD.out.qi h5) h1, h2, h3, h4, ((Chg.refl _ w).drew).trans h5, h6⟩; clear h1 h2 h3 h4 h5 h6)
  all_goals
    first | go_end0 | refine bodyPost_ret (results_none rfl _ _ _) rfl ?_
    exact HW.out
end Go.Proofs.Ytehlciejhegndaa
