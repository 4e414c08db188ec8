/- Helps for access. -/
import Derived.Test.YtgjdjdgondpjeaaGreatPass
import Derived.Deep.RegionHeld3
import Derived.Deep.AppendLies
import Derived.Deep.CutRange
import Derived.Deep.RegionLaw
namespace Go.Proofs.YtgjdjdgondpjeaaGreat
open Go.RowKit Go.Lib Go.MuLone

def asked (k i want put : Int) : Value := .agg #[.int .i64 0, .int .i64 k, .int .i64 i, .int .u64 want, .int .u64 put, .int .u64 0, .int .u64 0, .bool false]
def zeroObj : Obj := .cells Acc.zero.arr 55 (0, 0)

theorem acc_keep {X w1 : World} {B b gc A i : Nat} {s : Ast} {who k want put : Int} (hb : Below B X w1) (h1 : b < B) (h2 : gc < B) (h3 : A < B)
    (hS : X.cell? ⟨b, 2, none⟩ = some (.slice (some ⟨gc, 0, none⟩) s.cells.length s.cells.length) ∧ X.cell? ⟨gc, i, none⟩ = some (.int .u64 (nth s.cells i)) ∧
        X.cell? ⟨A, 0, none⟩ = some (.int .i64 who) ∧ X.cell? ⟨A, 1, none⟩ = some (.int .i64 k) ∧ X.cell? ⟨A, 2, none⟩ = some (.int .i64 i) ∧ X.cell? ⟨A, 3, none⟩ = some (.int .u64 want) ∧
        X.cell? ⟨A, 4, none⟩ = some (.int .u64 put) ∧ X.cell? ⟨A, 5, none⟩ = some (.int .u64 0) ∧ X.cell? ⟨A, 6, none⟩ = some (.int .u64 0) ∧ X.cell? ⟨A, 7, none⟩ = some (.bool false)) :
    w1.cell? ⟨b, 2, none⟩ = some (.slice (some ⟨gc, 0, none⟩) s.cells.length s.cells.length) ∧ w1.cell? ⟨gc, i, none⟩ = some (.int .u64 (nth s.cells i)) ∧
        w1.cell? ⟨A, 0, none⟩ = some (.int .i64 who) ∧ w1.cell? ⟨A, 1, none⟩ = some (.int .i64 k) ∧ w1.cell? ⟨A, 2, none⟩ = some (.int .i64 i) ∧ w1.cell? ⟨A, 3, none⟩ = some (.int .u64 want) ∧
        w1.cell? ⟨A, 4, none⟩ = some (.int .u64 put) ∧ w1.cell? ⟨A, 5, none⟩ = some (.int .u64 0) ∧ w1.cell? ⟨A, 6, none⟩ = some (.int .u64 0) ∧ w1.cell? ⟨A, 7, none⟩ = some (.bool false) := by
  obtain ⟨s1, s2, s3, s4, s5, s6, s7, s8, s9, s10⟩ := hS
  exact ⟨(hb.cell h1).trans s1, (hb.cell h2).trans s2, (hb.cell h3).trans s3, (hb.cell h3).trans s4, (hb.cell h3).trans s5, (hb.cell h3).trans s6, (hb.cell h3).trans s7, (hb.cell h3).trans s8, (hb.cell h3).trans s9, (hb.cell h3).trans s10⟩

theorem carry_m (m : Acc) (who k i want put seen : Int) (w : World) (hm : m = carry ⟨who, k, i, want, put, 0, 0, false⟩ seen) :
    Calls Tryz.prog 116 #[.agg #[.int .i64 who, .int .i64 k, .int .i64 i, .int .u64 want, .int .u64 put, .int .u64 0, .int .u64 0, .bool false], .int .u64 seen] w fun r w' =>
      r = .returned (.tuple #[.agg #[.int .i64 m.who, .int .i64 m.kind, .int .i64 m.cell, .int .u64 m.want, .int .u64 m.put, .int .u64 m.seen, .int .u64 m.left, .bool m.ok], .bool (known k)]) ∧ Below w.heap.size w w' := by
  subst hm
  exact carry_any ⟨who, k, i, want, put, 0, 0, false⟩ seen w

theorem zero_cells {X w1 : World} {A : Nat} (hb : Below X.heap.size X w1) (h : X.heap[A]? = some (.cells Acc.zero.arr 55 (0, 0))) :
    w1.cell? ⟨A, 0, none⟩ = some (.int .i64 0) ∧ w1.cell? ⟨A, 1, none⟩ = some (.int .i64 0) ∧ w1.cell? ⟨A, 2, none⟩ = some (.int .i64 0) ∧ w1.cell? ⟨A, 3, none⟩ = some (.int .u64 0) ∧ w1.cell? ⟨A, 4, none⟩ = some (.int .u64 0) ∧
    w1.cell? ⟨A, 5, none⟩ = some (.int .u64 0) ∧ w1.cell? ⟨A, 6, none⟩ = some (.int .u64 0) ∧ w1.cell? ⟨A, 7, none⟩ = some (.bool false) ∧ (∀ i, w1.frozen? ⟨A, i, none⟩ = false) ∧ w1.heap[A]? = some (.cells Acc.zero.arr 55 (0, 0)) := by
  have h1 : w1.heap[A]? = some (.cells Acc.zero.arr 55 (0, 0)) := (hb.block A (lt_of_heap h)).trans h
  exact ⟨cell_of h1 rfl, cell_of h1 rfl, cell_of h1 rfl, cell_of h1 rfl, cell_of h1 rfl, cell_of h1 rfl, cell_of h1 rfl, cell_of h1 rfl, fun i => free_of h1 i, h1⟩
theorem heap_at (W : World) (o : Obj) {A : Nat} (h : W.heap.size = A) : (W.alloc o).drew.heap[A]? = some o := by
  subst h; exact heap_new W o

/-- The access made, as it lies in memory. -/
def madeArr (m : Acc) (i : Nat) : Array Value := #[.int .i64 m.who, .int .i64 m.kind, .int .i64 i, .int .u64 m.want, .int .u64 m.put, .int .u64 m.seen, .int .u64 m.left, .bool m.ok]
theorem made_one {W w1 : World} {n : Nat} {m : Acc} {i : Nat} (hs : W.heap.size = n) (hb : Below W.drew.heap.size W.drew w1) :
    n ≤ w1.heap.size ∧ (w1.alloc (.cells (madeArr m i) 55)).heap[w1.heap.size]? = some (.cells (madeArr m i) 55 (0, 0)) ∧ Below n W (w1.alloc (.cells (madeArr m i) 55)) := by
  have hb' : Below n W w1 := by subst hs; exact (Below.refl _ W).drew.trans hb
  have hz := hb'.size
  exact ⟨by omega, heap_new _ _, hb'.alloc (by omega) _⟩
theorem made_two {W w1 : World} {n : Nat} {m : Acc} {i : Nat} (hs : W.heap.size = n) {o : Obj} (hb : Below (W.alloc o).drew.heap.size (W.alloc o).drew w1) (hz : w1.heap[n]? = some (.cells Acc.zero.arr 55 (0, 0))) :
    ((((((((w1.setCell ⟨n, 0, none⟩ (.int .i64 m.who)).setCell ⟨n, 1, none⟩ (.int .i64 m.kind)).setCell ⟨n, 2, none⟩ (.int .i64 i)).setCell ⟨n, 3, none⟩ (.int .u64 m.want)).setCell ⟨n, 4, none⟩ (.int .u64 m.put)).setCell ⟨n, 5, none⟩ (.int .u64 m.seen)).setCell ⟨n, 6, none⟩ (.int .u64 m.left)).setCell ⟨n, 7, none⟩ (.bool m.ok)).heap[n]? = some (.cells (madeArr m i) 55 (0, 0)) ∧
    Below n W ((((((((w1.setCell ⟨n, 0, none⟩ (.int .i64 m.who)).setCell ⟨n, 1, none⟩ (.int .i64 m.kind)).setCell ⟨n, 2, none⟩ (.int .i64 i)).setCell ⟨n, 3, none⟩ (.int .u64 m.want)).setCell ⟨n, 4, none⟩ (.int .u64 m.put)).setCell ⟨n, 5, none⟩ (.int .u64 m.seen)).setCell ⟨n, 6, none⟩ (.int .u64 m.left)).setCell ⟨n, 7, none⟩ (.bool m.ok)) := by
  have hb' : Below n W w1 := by
    subst hs
    exact (((Below.refl _ W).alloc (Nat.le_refl _) o).drew).trans (hb.mono (by simp))
  refine ⟨?_, ?_⟩
  · have h := heap_set (i := 7) (heap_set (i := 6) (heap_set (i := 5) (heap_set (i := 4) (heap_set (i := 3) (heap_set (i := 2) (heap_set (i := 1) (heap_set (i := 0) hz (.int .i64 m.who)) (.int .i64 m.kind)) (.int .i64 i)) (.int .u64 m.want)) (.int .u64 m.put)) (.int .u64 m.seen)) (.int .u64 m.left)) (.bool m.ok)
    rw [h]
    simp [Acc.zero, Acc.arr, madeArr]
  · exact (((((((hb'.setCell (p := ⟨n, 0, none⟩) (Nat.le_refl _) _).setCell (p := ⟨n, 1, none⟩) (Nat.le_refl _) _).setCell (p := ⟨n, 2, none⟩) (Nat.le_refl _) _).setCell (p := ⟨n, 3, none⟩) (Nat.le_refl _) _).setCell (p := ⟨n, 4, none⟩) (Nat.le_refl _) _).setCell (p := ⟨n, 5, none⟩) (Nat.le_refl _) _).setCell (p := ⟨n, 6, none⟩) (Nat.le_refl _) _).setCell (p := ⟨n, 7, none⟩) (Nat.le_refl _) _

theorem set8_else {w : World} {R k : Nat} {o : Obj} (hk : w.heap[k]? = some o) (h : k ≠ R) (a0 a1 a2 a3 a4 a5 a6 a7 : Value) : ((((((((w.setCell ⟨R, 0, none⟩ a0).setCell ⟨R, 1, none⟩ a1).setCell ⟨R, 2, none⟩ a2).setCell ⟨R, 3, none⟩ a3).setCell ⟨R, 4, none⟩ a4).setCell ⟨R, 5, none⟩ a5).setCell ⟨R, 6, none⟩ a6).setCell ⟨R, 7, none⟩ a7).heap[k]? = some o :=
  heap_else (heap_else (heap_else (heap_else (heap_else (heap_else (heap_else (heap_else hk h _) h _) h _) h _) h _) h _) h _) h _
theorem set8_chg {S : Nat → Prop} {a w : World} (h : Chg S a w) {R : Nat} (hR : a.heap.size ≤ R) (a0 a1 a2 a3 a4 a5 a6 a7 : Value) : Chg S a ((((((((w.setCell ⟨R, 0, none⟩ a0).setCell ⟨R, 1, none⟩ a1).setCell ⟨R, 2, none⟩ a2).setCell ⟨R, 3, none⟩ a3).setCell ⟨R, 4, none⟩ a4).setCell ⟨R, 5, none⟩ a5).setCell ⟨R, 6, none⟩ a6).setCell ⟨R, 7, none⟩ a7) :=
  (((((((h.setNew (p := ⟨R, 0, none⟩) hR a0).setNew (p := ⟨R, 1, none⟩) hR a1).setNew (p := ⟨R, 2, none⟩) hR a2).setNew (p := ⟨R, 3, none⟩) hR a3).setNew (p := ⟨R, 4, none⟩) hR a4).setNew (p := ⟨R, 5, none⟩) hR a5).setNew (p := ⟨R, 6, none⟩) hR a6).setNew (p := ⟨R, 7, none⟩) hR a7

/-- What an access that is made leaves of an arena. -/
def Ast.made (s : Ast) (i : Nat) (m : Acc) : Ast := { s with cells := s.cells.set i m.left, count := s.count + 1, log := if s.keep then s.log ++ [m] else s.log }
/-- The blocks that an access may turn. -/
def accSet (b gc p : Nat) (lv : Value) (j : Nat) : Prop := j = b ∨ j = gc ∨ j = p ∨ lv.ownBlock = some j

theorem acc_unlock {w F : World} {Y b gc p : Nat} {lv lv' : Value} {s : Ast} {who : Int} {i : Nat} {m : Acc} (h : AIs w Y b gc lv s) (hpb : p ≠ b)
    (fb : F.heap[b]? = some (.cells #[.int .i32 1, .int .u32 0, .slice (some ⟨gc, 0, none⟩) s.cells.length s.cells.length, .bool s.keep, lv', .int .i64 (s.count + 1), .bool s.stopped, .int .i64 s.fw, .int .i64 s.fk, .int .i64 s.fc] 116 (0, 0)))
    (fg : F.heap[gc]? = some (wordsObj (s.cells.set i m.left))) (fl : F.ownsRow Y 55 8 lv' (s.made i m).log.length (logCells (s.made i m).log))
    (fp : F.heap[p]? = some (PObj b who false)) (fk : Chg (accSet b gc p lv) w F) :
    AIs (F.setCell ⟨b, 0, none⟩ (.int .i32 0)) Y b gc lv' (s.made i m) ∧ (F.setCell ⟨b, 0, none⟩ (.int .i32 0)).heap[p]? = some (PObj b who false) ∧ Chg (accSet b gc p lv) w (F.setCell ⟨b, 0, none⟩ (.int .i32 0)) := by
  have e2 : (s.cells.set i m.left).length = s.cells.length := by simp
  have hgb : gc ≠ b := fun e => h.ne e.symm
  refine ⟨⟨?_, heap_else fg hgb _, ownsRow_block fl (fun j hj => Below.heap_setCell _ _ _ _ ?_), h.bY, h.gY, h.ne, ?_, ?_⟩, heap_else fp hpb _, fk.put b 0 _ (.inl rfl)⟩
  · have := heap_set (i := 0) fb (.int .i32 0)
    unfold AObj AObjL Ast.made
    simp only [e2]
    exact this
  · have := (owns_lt fl hj).1
    have := h.bY
    show j ≠ b
    omega
  · unfold Ast.made; simp only [e2]; exact h.len
  · have := h.yw; have := fk.size; simp [World.setCell]; omega

theorem heap_drew (w : World) : w.drew.heap = w.heap := rfl
/-- The end of an access where no log is kept. -/
theorem acc_false {wc : World} {R b gc p i : Nat} {lv : Value} {s : Ast} {who : Int} (m : Acc) (yb : wc.heap[b]? = some (AObjL 1 gc lv s)) (yg : wc.heap[gc]? = some (wordsObj s.cells)) (yp : wc.heap[p]? = some (PObj b who false)) (yr : wc.heap[R]? = some (.cells Acc.zero.arr 55 (0, 0)))
    (hbg : b ≠ gc) (hpb : p ≠ b) (hpg : p ≠ gc) (h7 : b ≠ R) (h3 : gc ≠ R) (hp : p ≠ R) (a0 a1 a2 a3 a4 a5 a6 a7 : Value) (F : World)
    (hF : F = ((((((((((wc.setCell ⟨gc, i, none⟩ (.int .u64 m.left)).setCell ⟨b, 5, none⟩ (.int .i64 (s.count + 1))).setCell ⟨R, 0, none⟩ a0).setCell ⟨R, 1, none⟩ a1).setCell ⟨R, 2, none⟩ a2).setCell ⟨R, 3, none⟩ a3).setCell ⟨R, 4, none⟩ a4).setCell ⟨R, 5, none⟩ a5).setCell ⟨R, 6, none⟩ a6).setCell ⟨R, 7, none⟩ a7).drew) :
    F.heap[b]? = some (.cells #[.int .i32 1, .int .u32 0, .slice (some ⟨gc, 0, none⟩) s.cells.length s.cells.length, .bool s.keep, lv, .int .i64 (s.count + 1), .bool s.stopped, .int .i64 s.fw, .int .i64 s.fk, .int .i64 s.fc] 116 (0, 0)) ∧
    F.heap[gc]? = some (wordsObj (s.cells.set i m.left)) ∧ F.heap[p]? = some (PObj b who false) ∧
    (∀ j, j ≠ b → j ≠ gc → j ≠ R → F.heap[j]? = wc.heap[j]?) ∧ F.os = wc.os ∧ F.tape = wc.tape ∧ F.output = wc.output ∧ wc.heap.size ≤ F.heap.size ∧
    F.heap[R]? = some (.cells #[a0, a1, a2, a3, a4, a5, a6, a7] 55 (0, 0)) := by
  subst hF
  rw [heap_drew]
  unfold AObjL at yb
  have r1 := heap_else (a := ⟨gc, i, none⟩) yr (fun e => h3 e.symm) (.int .u64 m.left)
  have r2 := heap_else (a := ⟨b, 5, none⟩) r1 (fun e => h7 e.symm) (.int .i64 (s.count + 1))
  have r3 := heap_set (i := 7) (heap_set (i := 6) (heap_set (i := 5) (heap_set (i := 4) (heap_set (i := 3) (heap_set (i := 2) (heap_set (i := 1) (heap_set (i := 0) r2 a0) a1) a2) a3) a4) a5) a6) a7
  have z1 := heap_else (a := ⟨gc, i, none⟩) yb hbg (.int .u64 m.left)
  have z2 := heap_set (i := 5) z1 (.int .i64 (s.count + 1))
  have z3 := set8_else z2 h7 a0 a1 a2 a3 a4 a5 a6 a7
  have x1 := words_set yg i m.left
  have x2 := heap_else (a := ⟨b, 5, none⟩) x1 (fun e => hbg e.symm) (.int .i64 (s.count + 1))
  have x3 := set8_else x2 h3 a0 a1 a2 a3 a4 a5 a6 a7
  have v1 := heap_else (a := ⟨gc, i, none⟩) yp hpg (.int .u64 m.left)
  have v2 := heap_else (a := ⟨b, 5, none⟩) v1 hpb (.int .i64 (s.count + 1))
  have v3 := set8_else v2 hp a0 a1 a2 a3 a4 a5 a6 a7
  refine ⟨?_, x3, v3, fun j j1 j2 j3 => ?_, ?_, ?_, ?_, ?_, ?_⟩
  · rw [z3]
    simp
  · rw [Below.heap_setCell _ _ _ _ j3, Below.heap_setCell _ _ _ _ j3, Below.heap_setCell _ _ _ _ j3, Below.heap_setCell _ _ _ _ j3, Below.heap_setCell _ _ _ _ j3, Below.heap_setCell _ _ _ _ j3, Below.heap_setCell _ _ _ _ j3, Below.heap_setCell _ _ _ _ j3, Below.heap_setCell _ _ _ _ j1, Below.heap_setCell _ _ _ _ j2]
  · simp [World.setCell, World.drew]
  · simp [World.setCell, World.drew]
  · simp [World.setCell, World.drew]
  · simp [World.setCell]
  · rw [r3]
    simp [Acc.zero, Acc.arr]

theorem acc_true {wc : World} {b gc i : Nat} {lv : Value} {s : Ast} (m : Acc) (yb : wc.heap[b]? = some (AObjL 1 gc lv s)) (yg : wc.heap[gc]? = some (wordsObj s.cells)) (hbg : b ≠ gc) (F : World)
    (hF : F = ((wc.setCell ⟨gc, i, none⟩ (.int .u64 m.left)).setCell ⟨b, 5, none⟩ (.int .i64 (s.count + 1))).drew) :
    F.heap[b]? = some (.cells #[.int .i32 1, .int .u32 0, .slice (some ⟨gc, 0, none⟩) s.cells.length s.cells.length, .bool s.keep, lv, .int .i64 (s.count + 1), .bool s.stopped, .int .i64 s.fw, .int .i64 s.fk, .int .i64 s.fc] 116 (0, 0)) ∧
    F.heap[gc]? = some (wordsObj (s.cells.set i m.left)) ∧
    (∀ j, j ≠ b → j ≠ gc → F.heap[j]? = wc.heap[j]?) ∧ F.os = wc.os ∧ F.tape = wc.tape ∧ F.output = wc.output ∧ F.heap.size = wc.heap.size := by
  subst hF
  rw [heap_drew]
  unfold AObjL at yb
  have z1 := heap_else (a := ⟨gc, i, none⟩) yb hbg (.int .u64 m.left)
  have z2 := heap_set (i := 5) z1 (.int .i64 (s.count + 1))
  have x1 := words_set yg i m.left
  have x2 := heap_else (a := ⟨b, 5, none⟩) x1 (fun e => hbg e.symm) (.int .i64 (s.count + 1))
  refine ⟨?_, x2, fun j j1 j2 => ?_, ?_, ?_, ?_, ?_⟩
  · rw [z2]
    simp
  · rw [Below.heap_setCell _ _ _ _ j1, Below.heap_setCell _ _ _ _ j2]
  · simp [World.setCell, World.drew]
  · simp [World.setCell, World.drew]
  · simp [World.setCell, World.drew]
  · simp [World.setCell]
/-- What an append to the log leaves alone. -/
theorem app_keep {X w2 : World} {b M i : Nat} {lv : Value} {m : Acc} {o : Obj} (hg : (X.alloc o).drew.grownBy w2 lv.ownBlock) (xb : ∃ cs, X.heap[b]? = some (.cells cs 116 (0, 0)) ∧ cs[4]? = some lv) (xm : X.heap[M]? = some (.cells (madeArr m i) 55 (0, 0)))
    (hb : lv.ownBlock ≠ some b) (hM : lv.ownBlock ≠ some M) :
    (w2.cell? ⟨b, 4, none⟩ = some lv ∧ w2.cell? ⟨M, 0, none⟩ = some (.int .i64 m.who) ∧ w2.cell? ⟨M, 1, none⟩ = some (.int .i64 m.kind) ∧ w2.cell? ⟨M, 2, none⟩ = some (.int .i64 i) ∧ w2.cell? ⟨M, 3, none⟩ = some (.int .u64 m.want) ∧ w2.cell? ⟨M, 4, none⟩ = some (.int .u64 m.put) ∧ w2.cell? ⟨M, 5, none⟩ = some (.int .u64 m.seen) ∧ w2.cell? ⟨M, 6, none⟩ = some (.int .u64 m.left) ∧ w2.cell? ⟨M, 7, none⟩ = some (.bool m.ok)) ∧ w2.frozen? ⟨b, 4, none⟩ = false := by
  obtain ⟨cs, xb, xc⟩ := xb
  have b2 : w2.heap[b]? = some (.cells cs 116 (0, 0)) := (hg.block b (by have := lt_of_heap xb; simp; omega) (fun e => hb e.symm)).trans (heap_old xb o)
  have m2 : w2.heap[M]? = some (.cells (madeArr m i) 55 (0, 0)) := (hg.block M (by have := lt_of_heap xm; simp; omega) (fun e => hM e.symm)).trans (heap_old xm o)
  exact ⟨⟨cell_of b2 xc, cell_of m2 rfl, cell_of m2 rfl, cell_of m2 rfl, cell_of m2 rfl, cell_of m2 rfl, cell_of m2 rfl, cell_of m2 rfl, cell_of m2 rfl⟩, free_of b2 4⟩
theorem made_news (X : World) (m : Acc) (i : Nat) : ∀ j u, (madeArr m i).toList[j]? = some u → ((X.alloc (.cells (madeArr m i) 55)).drew).cell? ((⟨X.heap.size, 0, none⟩ : Addr).add j) = some u :=
  World.news_of_block (heap_new X _)
theorem made_ones (m : Acc) (i : Nat) : ∀ u ∈ (madeArr m i).toList, u.oneCell' = true := by
  intro u hu
  simp [madeArr] at hu
  rcases hu with rfl | rfl | rfl | rfl | rfl | rfl | rfl | rfl <;> rfl
theorem block8 {F : World} {R : Nat} {a0 a1 a2 a3 a4 a5 a6 a7 : Value} (h : F.heap[R]? = some (.cells #[a0, a1, a2, a3, a4, a5, a6, a7] 55 (0, 0))) :
    F.cell? ⟨R, 0, none⟩ = some a0 ∧ F.cell? ⟨R, 1, none⟩ = some a1 ∧ F.cell? ⟨R, 2, none⟩ = some a2 ∧ F.cell? ⟨R, 3, none⟩ = some a3 ∧ F.cell? ⟨R, 4, none⟩ = some a4 ∧ F.cell? ⟨R, 5, none⟩ = some a5 ∧ F.cell? ⟨R, 6, none⟩ = some a6 ∧ F.cell? ⟨R, 7, none⟩ = some a7 :=
  ⟨cell_of h rfl, cell_of h rfl, cell_of h rfl, cell_of h rfl, cell_of h rfl, cell_of h rfl, cell_of h rfl, cell_of h rfl⟩
/-- What the append of the access to the log leaves. -/
structure AppLeft (w wx : World) (Y b gc p R M i : Nat) (lv : Value) (s : Ast) (who : Int) (m : Acc) : Prop where
  hb : ∃ lv', wx.heap[b]? = some (.cells #[.int .i32 1, .int .u32 0, .slice (some ⟨gc, 0, none⟩) s.cells.length s.cells.length, .bool s.keep, lv', .int .i64 (s.count + 1), .bool s.stopped, .int .i64 s.fw, .int .i64 s.fk, .int .i64 s.fc] 116 (0, 0)) ∧
    wx.ownsRow Y 55 8 lv' (s.log.length + 1) (logCells s.log ++ (madeArr m i).toList) ∧ (lv'.ownBlock = lv.ownBlock ∨ ∃ g, lv'.ownBlock = some g ∧ w.heap.size + 2 ≤ g ∧ g ≠ M)
  hg : wx.heap[gc]? = some (wordsObj (s.cells.set i m.left))
  hp : wx.heap[p]? = some (PObj b who false)
  hm : wx.heap[M]? = some (.cells (madeArr m i) 55 (0, 0))
  hr : wx.heap[R]? = some (.cells Acc.zero.arr 55 (0, 0))
  hk : Chg (accSet b gc p lv) w wx
theorem app_left {w X w2 : World} {Y b gc p R M i g cap : Nat} {lv : Value} {s : Ast} {who : Int} {m : Acc} (hgrow : (X.alloc (.cells (madeArr m i) 55)).drew.grownBy w2 lv.ownBlock)
    (hown : w2.ownsRow Y 55 8 (.slice (some ⟨g, 0, none⟩) (s.log.length + 1) cap) (s.log.length + 1) (logCells s.log ++ (madeArr m i).toList)) (hat : lv.ownBlock = some g ∨ g = X.heap.size + 1)
    (V : X.heap[b]? = some (.cells #[.int .i32 1, .int .u32 0, .slice (some ⟨gc, 0, none⟩) s.cells.length s.cells.length, .bool s.keep, lv, .int .i64 (s.count + 1), .bool s.stopped, .int .i64 s.fw, .int .i64 s.fk, .int .i64 s.fc] 116 (0, 0)) ∧
      X.heap[gc]? = some (wordsObj (s.cells.set i m.left)) ∧ X.heap[M]? = some (.cells (madeArr m i) 55 (0, 0)) ∧ X.heap[R]? = some (.cells Acc.zero.arr 55 (0, 0)) ∧ X.heap[p]? = some (PObj b who false) ∧
      X.ownsRow Y 55 8 lv s.log.length (logCells s.log) ∧ Chg (accSet b gc p lv) w X ∧ (∀ j, lv.ownBlock = some j → j ≠ b ∧ j ≠ gc ∧ j < w.heap.size) ∧ Y ≤ X.heap.size)
    (hbY : b < Y) (hgb : gc ≠ b) (hpb : p ≠ b) (hM : w.heap.size + 2 ≤ M) (hR : R = w.heap.size + 1) (hMb : M ≠ b) (hRb : R ≠ b) (hpl : lv.ownBlock ≠ some p) :
    AppLeft w (w2.setCell ⟨b, 4, none⟩ (.slice (some ⟨g, 0, none⟩) (s.log.length + 1) cap)) Y b gc p R M i lv s who m := by
  obtain ⟨Xb, Xg, Xm, Xr, Xp, Xl, Xk, ho, hY⟩ := V
  have hblk : ∀ {j : Nat} {o : Obj}, X.heap[j]? = some o → lv.ownBlock ≠ some j → w2.heap[j]? = some o := fun {j o} hj hn =>
    (hgrow.block j (by have := lt_of_heap hj; simp; omega) (fun e => hn e.symm)).trans (heap_old hj _)
  have b2 := hblk Xb (fun e => (ho b e).1 rfl)
  have hgg : g ≠ b := by have := (owns_lt hown (k := g) rfl).1; omega
  refine ⟨⟨.slice (some ⟨g, 0, none⟩) (s.log.length + 1) cap, ?_, ?_, ?_⟩, ?_, ?_, ?_, ?_, ?_⟩
  · have := heap_set (i := 4) b2 (.slice (some ⟨g, 0, none⟩) (s.log.length + 1) cap)
    rw [this]
    simp
  · exact ownsRow_block hown (fun j hj => Below.heap_setCell _ _ _ _ (by cases hj; exact hgg))
  · rcases hat with h | h
    · exact .inl h.symm
    · refine .inr ⟨g, rfl, ?_, ?_⟩
      · have := Xk.size; have := lt_of_heap Xm; omega
      · have := lt_of_heap Xm; omega
  · exact heap_else (hblk Xg (fun e => (ho gc e).2.1 rfl)) hgb _
  · exact heap_else (hblk Xp hpl) hpb _
  · exact heap_else (hblk Xm (fun e => by have := (ho M e).2.2; omega)) hMb _
  · exact heap_else (hblk Xr (fun e => by have := (ho R e).2.2; omega)) hRb _
  · exact (((Xk.alloc _).drew).grown hgrow (fun j hj => .inl (.inr (.inr (.inr hj))))).put b 4 _ (.inl rfl)
theorem app_end {w wx F : World} {Y b gc p R M i : Nat} {lv : Value} {s : Ast} {who : Int} {m : Acc} (hA : AppLeft w wx Y b gc p R M i lv s who m) (h : AIs w Y b gc lv s) (hpb : p ≠ b) (hR : R = w.heap.size + 1) (hpR : p ≠ R) (hkeep : s.keep = true) (hmc : m.cell = i)
    (a0 a1 a2 a3 a4 a5 a6 a7 : Value)
    (hF : F = ((((((((wx.setCell ⟨R, 0, none⟩ a0).setCell ⟨R, 1, none⟩ a1).setCell ⟨R, 2, none⟩ a2).setCell ⟨R, 3, none⟩ a3).setCell ⟨R, 4, none⟩ a4).setCell ⟨R, 5, none⟩ a5).setCell ⟨R, 6, none⟩ a6).setCell ⟨R, 7, none⟩ a7)) :
    (∃ lv', F.heap[b]? = some (.cells #[.int .i32 1, .int .u32 0, .slice (some ⟨gc, 0, none⟩) s.cells.length s.cells.length, .bool s.keep, lv', .int .i64 (s.count + 1), .bool s.stopped, .int .i64 s.fw, .int .i64 s.fk, .int .i64 s.fc] 116 (0, 0)) ∧
      AIs (F.setCell ⟨b, 0, none⟩ (.int .i32 0)) Y b gc lv' (s.made i m) ∧ (lv'.ownBlock = lv.ownBlock ∨ ∃ g, lv'.ownBlock = some g ∧ w.heap.size ≤ g)) ∧
    (F.setCell ⟨b, 0, none⟩ (.int .i32 0)).heap[p]? = some (PObj b who false) ∧ Chg (accSet b gc p lv) w (F.setCell ⟨b, 0, none⟩ (.int .i32 0)) ∧
    F.heap[R]? = some (.cells #[a0, a1, a2, a3, a4, a5, a6, a7] 55 (0, 0)) := by
  obtain ⟨⟨lv', fb, fl, fo⟩, fg, fp, fm, fr, fk⟩ := hA
  have hbl := lt_of_heap h.hb
  have hgl := lt_of_heap h.hc
  have hoR : ∀ j, lv'.ownBlock = some j → j ≠ R := by
    intro j hj
    rcases fo with e | ⟨g, e, h1, h2⟩
    · rw [e] at hj
      have := (h.own_ne hj).2.2
      omega
    · rw [e] at hj
      cases hj
      omega
  have gb := set8_else (R := R) fb (by omega) a0 a1 a2 a3 a4 a5 a6 a7
  rw [← hF] at gb
  have gg := set8_else (R := R) fg (by omega) a0 a1 a2 a3 a4 a5 a6 a7
  rw [← hF] at gg
  have gp := set8_else fp hpR a0 a1 a2 a3 a4 a5 a6 a7
  rw [← hF] at gp
  have gk : Chg (accSet b gc p lv) w F := by rw [hF]; exact set8_chg fk (by omega) a0 a1 a2 a3 a4 a5 a6 a7
  have gr : F.heap[R]? = some (.cells #[a0, a1, a2, a3, a4, a5, a6, a7] 55 (0, 0)) := by
    have r3 := heap_set (i := 7) (heap_set (i := 6) (heap_set (i := 5) (heap_set (i := 4) (heap_set (i := 3) (heap_set (i := 2) (heap_set (i := 1) (heap_set (i := 0) fr a0) a1) a2) a3) a4) a5) a6) a7
    rw [hF, r3]
    simp [Acc.zero, Acc.arr]
  have gl : F.ownsRow Y 55 8 lv' (s.made i m).log.length (logCells (s.made i m).log) := by
    have e : (s.made i m).log = s.log ++ [m] := by simp [Ast.made, hkeep]
    have e2 : logCells (s.log ++ [m]) = logCells s.log ++ (madeArr m i).toList := by
      rw [logCells_append]
      simp [logCells, madeArr, Acc.arr, hmc]
    rw [e, e2, List.length_append]
    refine ownsRow_block fl (fun j hj => ?_)
    have j3 := hoR j hj
    rw [hF]
    rw [Below.heap_setCell _ _ _ _ j3, Below.heap_setCell _ _ _ _ j3, Below.heap_setCell _ _ _ _ j3, Below.heap_setCell _ _ _ _ j3, Below.heap_setCell _ _ _ _ j3, Below.heap_setCell _ _ _ _ j3, Below.heap_setCell _ _ _ _ j3, Below.heap_setCell _ _ _ _ j3]
  obtain ⟨q1, q2, q3⟩ := acc_unlock h hpb gb gg gl gp gk
  refine ⟨⟨lv', gb, q1, ?_⟩, q2, q3, gr⟩
  rcases fo with e | ⟨g, e, h1, h2⟩
  · exact .inl e
  · exact .inr ⟨g, e, by omega⟩
end Go.Proofs.YtgjdjdgondpjeaaGreat
