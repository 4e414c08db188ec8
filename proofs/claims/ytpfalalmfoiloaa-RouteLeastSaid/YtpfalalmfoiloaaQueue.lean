/- The queue of a search in memory. -/
import Derived.Test.YtpfalalmfoiloaaHeapPop
import Derived.Test.YtpfalalmfoiloaaPath
import Derived.Deep.AppendLies
namespace Go.Proofs.Ytpfalalmfoiloaa
open Go.RowKit Go.Lib
set_option linter.unusedVariables false

/-- Only the blocks of S have turned. -/
structure Chg (S : Nat → Prop) (w w' : World) : Prop where
  os : w'.os = w.os
  tape : w'.tape = w.tape
  output : w'.output = w.output
  size : w.heap.size ≤ w'.heap.size
  block : ∀ k, k < w.heap.size → ¬ S k → w'.heap[k]? = w.heap[k]?
theorem Chg.refl (S : Nat → Prop) (w : World) : Chg S w w := ⟨rfl, rfl, rfl, Nat.le_refl _, fun _ _ _ => rfl⟩
theorem Chg.trans {S : Nat → Prop} {x y z : World} (h : Chg S x y) (k : Chg S y z) : Chg S x z :=
  ⟨k.os.trans h.os, k.tape.trans h.tape, k.output.trans h.output, Nat.le_trans h.size k.size,
    fun i hi hb => (k.block i (Nat.lt_of_lt_of_le hi h.size) hb).trans (h.block i hi hb)⟩
theorem Chg.mono {S T : Nat → Prop} {x y : World} (h : Chg S x y) (k : ∀ i, S i → T i) : Chg T x y :=
  ⟨h.os, h.tape, h.output, h.size, fun i hi hb => h.block i hi (fun hs => hb (k i hs))⟩
/-- What S has beyond the old blocks is no matter. -/
theorem Chg.old {S T : Nat → Prop} {x y : World} (h : Chg S x y) (k : ∀ i, i < x.heap.size → S i → T i) : Chg T x y :=
  ⟨h.os, h.tape, h.output, h.size, fun i hi hb => h.block i hi (fun hs => hb (k i hi hs))⟩
theorem Chg.setCell {S : Nat → Prop} {a w : World} (h : Chg S a w) {p : Addr} (hp : S p.block) (u : Value) : Chg S a (w.setCell p u) :=
  h.trans ⟨rfl, rfl, rfl, by simp [World.setCell], fun k _ hb => Below.heap_setCell _ _ _ _ (fun e => hb (e ▸ hp))⟩
theorem Chg.setNew {S : Nat → Prop} {a w : World} (h : Chg S a w) {p : Addr} (hp : a.heap.size ≤ p.block) (u : Value) : Chg S a (w.setCell p u) :=
  ⟨h.os, h.tape, h.output, by simpa [World.setCell] using h.size, fun k hk hb => (Below.heap_setCell _ _ _ _ (by omega)).trans (h.block k hk hb)⟩
theorem Chg.alloc {S : Nat → Prop} {a w : World} (h : Chg S a w) (o : Obj) : Chg S a (w.alloc o) :=
  ⟨h.os, h.tape, h.output, by have := h.size; simp; omega, fun k hk hb => (Below.heap_alloc _ _ _ (by have := h.size; omega)).trans (h.block k hk hb)⟩
theorem Chg.drew {S : Nat → Prop} {a w : World} (h : Chg S a w) : Chg S a w.drew := ⟨h.os, h.tape, h.output, h.size, h.block⟩
theorem Chg.of_below {S : Nat → Prop} {w w' : World} (h : Below w.heap.size w w') : Chg S w w' :=
  ⟨h.os, h.tape, h.output, h.size, fun k hk _ => h.block k hk⟩
theorem Chg.grown {S : Nat → Prop} {a w w' : World} {row : Option Nat} (h : Chg S a w) (hg : w.grownBy w' row) (hr : ∀ k, row = some k → S k ∨ a.heap.size ≤ k) : Chg S a w' :=
  ⟨hg.os.trans h.os, hg.tape.trans h.tape, hg.output.trans h.output, Nat.le_trans h.size hg.size,
    fun k hk hb => (hg.block k (Nat.lt_of_lt_of_le hk h.size) (fun e => by rcases hr k e.symm with h | h; exact hb h; omega)).trans (h.block k hk hb)⟩
theorem Chg.below {S : Nat → Prop} {B : Nat} {a w w' : World} (h : Below B a w) (k : Chg S w w') (hb : ∀ i, S i → B ≤ i) (hs : B ≤ w.heap.size) : Below B a w' :=
  h.trans ⟨k.os, k.tape, k.output, k.size, fun i hi => k.block i (by omega) (fun h => by have := hb i h; omega)⟩
theorem Chg.heap {S : Nat → Prop} {w w' : World} (h : Chg S w w') {k : Nat} {o : Obj} (hk : w.heap[k]? = some o) (hb : ¬ S k) : w'.heap[k]? = some o := by
  rw [h.block k (lt_of_heap hk) hb]; exact hk
theorem Try.info140 : (Try.prog.info? 140).map (fun i => (i.zero, i.size, i.bytes)) = some (some (.agg #[.int .u64 0, .int .i64 0]), 2, 16) := by kernel_rfl
def fnv (n : Nat) : Value := .func (.func n) #[] #[]
def qCells (l : List Pr) : List Value := l.flatMap fun p => [.int .u64 p.1, .int .i64 p.2]
theorem qCells_length (l : List Pr) : (qCells l).length = l.length * 2 := by
  induction l with
  | nil => rfl
  | cons a l ih => simp [qCells] at ih ⊢; omega
theorem qCells_at (l : List Pr) (i : Nat) (h : i < l.length) : (qCells l)[i * 2]? = some (.int .u64 (sAt l i).1) ∧ (qCells l)[i * 2 + 1]? = some (.int .i64 (sAt l i).2) := by
  induction l generalizing i with
  | nil => simp at h
  | cons a l ih =>
    cases i with
    | zero => simp [qCells, sAt]
    | succ i =>
      have := ih i (by simpa using h)
      have e : qCells (a :: l) = [.int .u64 a.1, .int .i64 a.2] ++ qCells l := by simp [qCells]
      rw [e, show (i + 1) * 2 = i * 2 + 2 by omega]
      simp only [sAt, List.getElem?_cons_succ] at this ⊢
      constructor
      · rw [List.getElem?_append_right (by simp)]; simpa using this.1
      · rw [List.getElem?_append_right (by simp)]; simpa using this.2
theorem qCells_snoc (l : List Pr) (p : Pr) : qCells (l ++ [p]) = qCells l ++ [.int .u64 p.1, .int .i64 p.2] := by simp [qCells]
theorem qCells_set (l : List Pr) (i : Nat) (p : Pr) : ((qCells l).set (i * 2) (.int .u64 p.1)).set (i * 2 + 1) (.int .i64 p.2) = qCells (l.set i p) := by
  induction l generalizing i with
  | nil => simp [qCells]
  | cons a l ih =>
    cases i with
    | zero => simp [qCells]
    | succ i =>
      have e : ∀ (x : Pr) (l : List Pr), qCells (x :: l) = [.int .u64 x.1, .int .i64 x.2] ++ qCells l := fun x l => by simp [qCells]
      rw [List.set_cons_succ, e, e, ← ih i, show (i + 1) * 2 = i * 2 + 2 by omega]
      simp
/-- A list of pairs in a block of its own. -/
theorem own_cells {w : World} {B : Nat} {v : Value} {l : List Pr} (h : w.ownsRow B 140 2 v l.length (qCells l)) (hne : 0 < l.length) :
    ∃ g c, v = .slice (some ⟨g, 0, none⟩) l.length c ∧ B ≤ g ∧ g < w.heap.size ∧ l.length ≤ c ∧ c ≤ 9223372036854775807 ∧ ∀ i, i < l.length → (w.cell? ⟨g, i * 2, none⟩ = some (.int .u64 (sAt l i).1) ∧ w.cell? ⟨g, i * 2 + 1, none⟩ = some (.int .i64 (sAt l i).2)) ∧ w.frozen? ⟨g, i * 2, none⟩ = false ∧ w.frozen? ⟨g, i * 2 + 1, none⟩ = false := by
  obtain ⟨h1, ⟨rfl, hn⟩ | ⟨g, cap, cur, rfl, hg, hh, hnc, hcm, hcur, htake⟩⟩ := h
  · omega
  · refine ⟨g, cap, rfl, hg, lt_of_heap hh, hnc, hcm, fun i hi => ⟨?_, free_of hh _, free_of hh _⟩⟩
    obtain ⟨p, q⟩ := qCells_at l i hi
    rw [← htake] at p q
    rw [List.getElem?_take_of_lt (by omega)] at p q
    simp only [World.cell?, hh]
    exact ⟨by simpa using p, by simpa using q⟩
theorem own_set {w : World} {B g c : Nat} {l : List Pr} (h : w.ownsRow B 140 2 (.slice (some ⟨g, 0, none⟩) l.length c) l.length (qCells l)) (i : Nat) (p : Pr) :
    ((w.setCell ⟨g, i * 2, none⟩ (.int .u64 p.1)).setCell ⟨g, i * 2 + 1, none⟩ (.int .i64 p.2)).ownsRow B 140 2 (.slice (some ⟨g, 0, none⟩) l.length c) l.length (qCells (l.set i p)) := by
  have h1 := (h.stored (i * 2) (.int .u64 p.1)).1
  have h2 := (h1.stored (i * 2 + 1) (.int .i64 p.2)).1
  rw [qCells_set] at h2
  exact h2
theorem own_chg {w w' : World} {S : Nat → Prop} {B size n : Nat} {e : TypeId} {v : Value} {xs : List Value} (h : w.ownsRow B e size v n xs) (hc : Chg S w w') (hS : ∀ g, v.ownBlock = some g → ¬ S g) : w'.ownsRow B e size v n xs := by
  obtain ⟨hl, ⟨rfl, h0⟩ | ⟨g, cap, cur, rfl, hg, hh, r⟩⟩ := h
  · exact ⟨hl, .inl ⟨rfl, h0⟩⟩
  · exact ⟨hl, .inr ⟨g, cap, cur, rfl, hg, hc.heap hh (hS g rfl), r⟩⟩

/-- The queue: its struct's block, its list. -/
structure QIs (w : World) (Q B : Nat) (v : Value) (l : List Pr) : Prop where
  hh : w.heap[Q]? = some (.cells #[v, fnv 87] 144 (0, 0))
  own : w.ownsRow B 140 2 v l.length (qCells l)
  lt : Q < B
  le : B ≤ w.heap.size
theorem QIs.below {w w' : World} {Q B : Nat} {v : Value} {l : List Pr} (h : QIs w Q B v l) (hb : Below w.heap.size w w') : QIs w' Q B v l :=
  ⟨(hb.block Q (lt_of_heap h.hh)).trans h.hh, own_chg (S := fun _ => False) h.own (Chg.of_below hb) (fun _ _ h => h), h.lt, Nat.le_trans h.le hb.size⟩
/-- The queue's own blocks. -/
def QS (Q B : Nat) (k : Nat) : Prop := k = Q ∨ B ≤ k

set_option maxRecDepth 100000 in
theorem empty_any (w : World) (Q B : Nat) (v : Value) (l : List Pr) (h : QIs w Q B v l) :
    Calls Try.prog 90 #[.pointer (some ⟨Q, 0, none⟩)] w fun e w' => e = .returned (.bool (decide (l.length = 0))) ∧ w' = w := by
  have c0 := cell_of h.hh (i := 0) rfl
  obtain ⟨ao, c, rfl⟩ : ∃ ao c, v = .slice ao l.length c := by
    obtain ⟨_, ⟨rfl, h0⟩ | ⟨g, cap, cur, rfl, _⟩⟩ := h.own
    · exact ⟨none, 0, by rw [h0]⟩
    · exact ⟨_, cap, rfl⟩
  clear h
  go_enter Try.func90, Try.ntmps90
  go_wp2
  go_ret
  refine ⟨?_, rfl⟩
  show Ending.returned (Value.bool _) = Ending.returned (Value.bool _)
  congr 2
  by_cases hl : l.length = 0
  · simp [hl]
  · simp [hl]
set_option maxRecDepth 100000 in
theorem ahead_any (a0 a1 b0 b1 : Int) (w : World) : Calls Try.prog 87 #[.agg #[.int .u64 a0, .int .i64 a1], .agg #[.int .u64 b0, .int .i64 b1]] w fun e w' => e = .returned (.bool (decide (a0 < b0))) ∧ Below w.heap.size w w' := by
  go_enter Try.func87, Try.ntmps87
  go_wp2
  all_goals
    go_ret
    exact ⟨by first | rfl | simp, below_alloc (below_alloc (Below.refl _ _) _) _⟩
end Go.Proofs.Ytpfalalmfoiloaa
