import Derived.Test.YtgjdjdgondpjeaaGreatRows
import Derived.Conc.MuLone
import Derived.KernelRfl
import Derived.WalkKit
import Derived.Lib.Walk
import Derived.Lib.SliceRun
import Derived.Defers
import Derived.Deep.RegionWith
/- The numbers of the lock's functions and types in this program. -/
namespace Go.Proofs.YtgjdjdgondpjeaaGreat
abbrev Tryz.muLink : Go.Conc.Locks.MuLink := { lock := 51, unlock := 52, ilock := 90, iunlock := 91, lockSlow := 107, unlockSlow := 110, disable := 103, enable := 105, acquire := 106, relMerge := 108, cas32 := 104, add32 := 109, tMutex := 114, tIMutex := 112, tPMutex := 149, tPIMutex := 161, tPI32 := 163, tUP := 165, tNoCopy := 109, tU32 := 110 }
theorem Tryz.muLib : Go.Conc.Locks.MuLib Tryz.prog Tryz.muLink :=
  ⟨Tryz.func51, Tryz.func52, Tryz.func90, Tryz.func91, Tryz.func103, Tryz.func105, Tryz.func106, Tryz.func108, Tryz.func104, Tryz.func109, Tryz.underlying112, Tryz.runUnderlying112, Tryz.sizeOf112, Tryz.isAgg112, Tryz.zeroValue112, Tryz.underlying114, Tryz.runUnderlying114, Tryz.sizeOf114, Tryz.isAgg114, Tryz.zeroValue114, Tryz.underlying149, Tryz.runUnderlying149, Tryz.sizeOf149, Tryz.isAgg149, Tryz.zeroValue149, Tryz.underlying161, Tryz.runUnderlying161, Tryz.sizeOf161, Tryz.isAgg161, Tryz.zeroValue161, Tryz.underlying163, Tryz.runUnderlying163, Tryz.sizeOf163, Tryz.isAgg163, Tryz.zeroValue163, Tryz.underlying165, Tryz.runUnderlying165, Tryz.sizeOf165, Tryz.isAgg165, Tryz.zeroValue165, Tryz.underlying109, Tryz.runUnderlying109, Tryz.sizeOf109, Tryz.isAgg109, Tryz.zeroValue109, Tryz.underlying21, Tryz.runUnderlying21, Tryz.sizeOf21, Tryz.isAgg21, Tryz.zeroValue21, (by kernel_rfl)⟩
end Go.Proofs.YtgjdjdgondpjeaaGreat

/- Words that all the walks over arenas share. -/
namespace Go.Proofs.YtgjdjdgondpjeaaGreat
open Go.RowKit Go.Lib

theorem hide {p : Prop} (h : p) : Hid p := h

theorem lt_of_heap {w : World} {k : Nat} {o : Obj} (hk : w.heap[k]? = some o) : k < w.heap.size := by
  rcases Nat.lt_or_ge k w.heap.size with h | h
  · exact h
  · rw [Array.getElem?_eq_none h] at hk; cases hk
theorem heap_set {w : World} {b i : Nat} {cs : Array Value} {t : TypeId} {fr : Nat × Nat} (h : w.heap[b]? = some (.cells cs t fr)) (u : Value) :
    (w.setCell ⟨b, i, none⟩ u).heap[b]? = some (.cells (cs.setIfInBounds i u) t fr) := by
  simp [World.setCell, Array.getElem?_modify, h]
theorem cell_of {w : World} {b i : Nat} {cs : Array Value} {t : TypeId} {fr : Nat × Nat} {v : Value} (h : w.heap[b]? = some (.cells cs t fr)) (hv : cs[i]? = some v) :
    w.cell? ⟨b, i, none⟩ = some v := by simp [World.cell?, h, hv]
theorem free_of {w : World} {b : Nat} {cs : Array Value} {t : TypeId} (h : w.heap[b]? = some (.cells cs t (0, 0))) (i : Nat) :
    w.frozen? ⟨b, i, none⟩ = false := by simp [World.frozen?, h]
theorem heap_new (w : World) (o : Obj) : (w.alloc o).heap[w.heap.size]? = some o := by
  show (w.heap.push o)[w.heap.size]? = _
  simp
theorem heap_old {w : World} {k : Nat} {o' : Obj} (h : w.heap[k]? = some o') (o : Obj) : (w.alloc o).heap[k]? = some o' := by
  rw [Below.heap_alloc _ _ _ (lt_of_heap h)]; exact h
theorem heap_else {w : World} {k : Nat} {o' : Obj} (h : w.heap[k]? = some o') {a : Addr} (hk : k ≠ a.block) (u : Value) : (w.setCell a u).heap[k]? = some o' := by
  rw [Below.heap_setCell _ _ _ _ hk]; exact h

/-- Only the blocks of S, and new ones, have turned. -/
structure Chg (S : Nat → Prop) (w w' : World) : Prop where
  os : w'.os = w.os
  tape : w'.tape = w.tape
  output : w'.output = w.output
  size : w.heap.size ≤ w'.heap.size
  block : ∀ k, k < w.heap.size → ¬ S k → w'.heap[k]? = w.heap[k]?
theorem Chg.refl (S : Nat → Prop) (w : World) : Chg S w w := ⟨rfl, rfl, rfl, Nat.le_refl _, fun _ _ _ => rfl⟩
theorem Chg.trans {S : Nat → Prop} {x y z : World} (h : Chg S x y) (k : Chg S y z) : Chg S x z :=
  ⟨k.os.trans h.os, k.tape.trans h.tape, k.output.trans h.output, Nat.le_trans h.size k.size,
    fun i hi hb => (k.block i (Nat.lt_of_lt_of_le hi h.size) hb).trans (h.block i hi hb)⟩
theorem Chg.mono {S T : Nat → Prop} {x y : World} (h : Chg S x y) (k : ∀ i, S i → T i) : Chg T x y :=
  ⟨h.os, h.tape, h.output, h.size, fun i hi hb => h.block i hi (fun hs => hb (k i hs))⟩
/-- What S has beyond the old blocks is no matter. -/
theorem Chg.old {S T : Nat → Prop} {x y : World} (h : Chg S x y) (k : ∀ i, i < x.heap.size → S i → T i) : Chg T x y :=
  ⟨h.os, h.tape, h.output, h.size, fun i hi hb => h.block i hi (fun hs => hb (k i hi hs))⟩
theorem Chg.setCell {S : Nat → Prop} {a w : World} (h : Chg S a w) {p : Addr} (hp : S p.block) (u : Value) : Chg S a (w.setCell p u) :=
  h.trans ⟨rfl, rfl, rfl, by simp [World.setCell], fun k _ hb => Below.heap_setCell _ _ _ _ (fun e => hb (e ▸ hp))⟩
theorem Chg.setNew {S : Nat → Prop} {a w : World} (h : Chg S a w) {p : Addr} (hp : a.heap.size ≤ p.block) (u : Value) : Chg S a (w.setCell p u) :=
  ⟨h.os, h.tape, h.output, by simpa [World.setCell] using h.size, fun k hk hb => (Below.heap_setCell _ _ _ _ (by omega)).trans (h.block k hk hb)⟩
theorem Chg.alloc {S : Nat → Prop} {a w : World} (h : Chg S a w) (o : Obj) : Chg S a (w.alloc o) :=
  ⟨h.os, h.tape, h.output, by have := h.size; simp; omega, fun k hk hb => (Below.heap_alloc _ _ _ (by have := h.size; omega)).trans (h.block k hk hb)⟩
theorem Chg.drew {S : Nat → Prop} {a w : World} (h : Chg S a w) : Chg S a w.drew := ⟨h.os, h.tape, h.output, h.size, h.block⟩
theorem Chg.of_below {S : Nat → Prop} {w w' : World} (h : Below w.heap.size w w') : Chg S w w' :=
  ⟨h.os, h.tape, h.output, h.size, fun k hk _ => h.block k hk⟩
theorem Chg.grown {S : Nat → Prop} {a w w' : World} {row : Option Nat} (h : Chg S a w) (hg : w.grownBy w' row) (hr : ∀ k, row = some k → S k ∨ a.heap.size ≤ k) : Chg S a w' :=
  ⟨hg.os.trans h.os, hg.tape.trans h.tape, hg.output.trans h.output, Nat.le_trans h.size hg.size,
    fun k hk hb => (hg.block k (Nat.lt_of_lt_of_le hk h.size) (fun e => by rcases hr k e.symm with h | h; exact hb h; omega)).trans (h.block k hk hb)⟩
theorem Chg.below {S : Nat → Prop} {B : Nat} {a w w' : World} (h : Below B a w) (k : Chg S w w') (hb : ∀ i, S i → B ≤ i) (hs : B ≤ w.heap.size) : Below B a w' :=
  h.trans ⟨k.os, k.tape, k.output, k.size, fun i hi => k.block i (by omega) (fun h => by have := hb i h; omega)⟩
theorem Chg.heap {S : Nat → Prop} {w w' : World} (h : Chg S w w') {k : Nat} {o : Obj} (hk : w.heap[k]? = some o) (hb : ¬ S k) : w'.heap[k]? = some o := by
  rw [h.block k (lt_of_heap hk) hb]; exact hk

/-- An access as the log has it. -/
structure Acc where
  who : Int
  kind : Int
  cell : Int
  want : Int
  put : Int
  seen : Int
  left : Int
  ok : Bool
def Acc.arr (a : Acc) : Array Value := #[.int .i64 a.who, .int .i64 a.kind, .int .i64 a.cell, .int .u64 a.want, .int .u64 a.put, .int .u64 a.seen, .int .u64 a.left, .bool a.ok]
def Acc.val (a : Acc) : Value := .agg a.arr
def Acc.zero : Acc := ⟨0, 0, 0, 0, 0, 0, 0, false⟩
def logCells (l : List Acc) : List Value := l.flatMap fun a => a.arr.toList
theorem logCells_length (l : List Acc) : (logCells l).length = l.length * 8 := by
  induction l with
  | nil => rfl
  | cons a l ih => simp only [logCells, List.flatMap_cons, List.length_append] at *; rw [ih]; simp [Acc.arr]; omega
theorem logCells_append (l r : List Acc) : logCells (l ++ r) = logCells l ++ logCells r := by simp [logCells]

/-- An arena's own data. -/
structure Ast where
  cells : List Int
  keep : Bool
  log : List Acc
  count : Int
  stopped : Bool
  fw : Int
  fk : Int
  fc : Int
def AObjL (lk : Int) (gc : Nat) (lv : Value) (s : Ast) : Obj :=
  .cells #[.int .i32 lk, .int .u32 0, .slice (some ⟨gc, 0, none⟩) s.cells.length s.cells.length, .bool s.keep, lv, .int .i64 s.count, .bool s.stopped, .int .i64 s.fw, .int .i64 s.fk, .int .i64 s.fc] 116 (0, 0)
abbrev AObj := AObjL 0
def wordsObj (xs : List Int) : Obj := .cells (xs.map (Value.int .u64)).toArray 40 (0, 0)
def PObj (b : Nat) (who : Int) (g : Bool) : Obj := .cells #[.pointer (some ⟨b, 0, none⟩), .int .i64 who, .bool g] 134 (0, 0)

/-- An arena in memory: its own block b, its cells' block gc, its log owned from Y on. -/
structure AIs (w : World) (Y b gc : Nat) (lv : Value) (s : Ast) : Prop where
  hb : w.heap[b]? = some (AObj gc lv s)
  hc : w.heap[gc]? = some (wordsObj s.cells)
  hl : w.ownsRow Y 55 8 lv s.log.length (logCells s.log)
  bY : b < Y
  gY : gc < Y
  ne : b ≠ gc
  len : s.cells.length ≤ 16777216
  yw : Y ≤ w.heap.size

theorem ownsRow_block {w w' : World} {Y : Nat} {e : TypeId} {z n : Nat} {v : Value} {l : List Value} (h : w.ownsRow Y e z v n l)
    (hk : ∀ k, v.ownBlock = some k → w'.heap[k]? = w.heap[k]?) : w'.ownsRow Y e z v n l := by
  obtain ⟨h1, h2⟩ := h
  refine ⟨h1, ?_⟩
  rcases h2 with h2 | ⟨g, cap, cur, hv, hg, hh, r⟩
  · exact .inl h2
  · refine .inr ⟨g, cap, cur, hv, hg, ?_, r⟩
    rw [hk g (by rw [hv]; rfl)]; exact hh
theorem owns_lt {w : World} {Y : Nat} {e : TypeId} {z n : Nat} {v : Value} {l : List Value} (h : w.ownsRow Y e z v n l) {k : Nat} (hk : v.ownBlock = some k) : Y ≤ k ∧ k < w.heap.size := by
  obtain ⟨_, ⟨rfl, _⟩ | ⟨g, cap, cur, rfl, hg, hh, _⟩⟩ := h
  · cases hk
  · cases hk; exact ⟨hg, lt_of_heap hh⟩
theorem owns_shape {w : World} {B : Nat} {e : TypeId} {z : Nat} {v : Value} {n : Nat} {l : List Value} (h : w.ownsRow B e z v n l) : ∃ ao c, v = .slice ao n c := by
  obtain ⟨_, ⟨rfl, rfl⟩ | ⟨g, cap, cur, rfl, _⟩⟩ := h
  · exact ⟨none, 0, rfl⟩
  · exact ⟨_, cap, rfl⟩

theorem AIs.kept {S : Nat → Prop} {w w' : World} {Y b gc : Nat} {lv : Value} {s : Ast} (h : AIs w Y b gc lv s) (k : Chg S w w') (h1 : ¬ S b) (h2 : ¬ S gc) (h3 : ∀ i, lv.ownBlock = some i → ¬ S i) : AIs w' Y b gc lv s :=
  ⟨k.heap h.hb h1, k.heap h.hc h2, ownsRow_block h.hl (fun i hi => k.block i (owns_lt h.hl hi).2 (h3 i hi)), h.bY, h.gY, h.ne, h.len, Nat.le_trans h.yw k.size⟩
theorem AIs.below {w w' : World} {Y b gc : Nat} {lv : Value} {s : Ast} (h : AIs w Y b gc lv s) (k : Below w.heap.size w w') : AIs w' Y b gc lv s :=
  h.kept (S := fun _ => False) (Chg.of_below k) id id (fun _ _ => id)

/-- The log's base may rise while nothing is kept. -/
theorem AIs.rise {w : World} {Y Z b gc : Nat} {s : Ast} (h : AIs w Y b gc (.slice none 0 0) s) (hz : Y ≤ Z) (hZ : Z ≤ w.heap.size) : AIs w Z b gc (.slice none 0 0) s := by
  refine ⟨h.hb, h.hc, ?_, by have := h.bY; omega, by have := h.gY; omega, h.ne, h.len, hZ⟩
  obtain ⟨h1, ⟨_, hn⟩ | ⟨g, cap, cur, hv, _⟩⟩ := h.hl
  · exact ⟨h1, .inl ⟨rfl, hn⟩⟩
  · cases hv
end Go.Proofs.YtgjdjdgondpjeaaGreat
