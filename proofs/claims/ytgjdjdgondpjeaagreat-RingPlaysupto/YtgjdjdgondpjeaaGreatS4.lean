import Derived.Test.YtgjdjdgondpjeaaGreatT1
/- steal's lay: what an Insert does that finds room. -/
namespace Go.Proofs.YtgjdjdgondpjeaaGreat
open Go.RowKit Go.Lib
set_option linter.unusedVariables false
/-- The words are words. -/
def Wok (L : List Int) : Prop := ∀ i, i < L.length → 0 ≤ at_ L i ∧ at_ L i < 18446744073709551616
theorem Wok.set {L : List Int} (h : Wok L) {i : Nat} {x : Int} (h1 : 0 ≤ x) (h2 : x < 18446744073709551616) : Wok (L.set i x) := by
  intro j hj
  have hj' : j < L.length := by simpa using hj
  unfold at_
  rw [List.getElem?_set]
  by_cases e : i = j
  · subst e; simp [hj', h1, h2]
  · rw [if_neg e]; exact h j hj'
theorem Wok.zeros (n : Nat) : Wok (tab n (fun _ => 0)) := by
  intro i hi
  rw [tab_length] at hi
  rw [tab_at n _ i hi]
  omega
/-- Where the bottom of the deque v stands. -/
def bot (C v : Nat) : Nat := v * (2 + 2 * C) + 1
def keyOf (C v : Nat) (x : Int) : Nat := v * (2 + 2 * C) + 2 + 2 * (x % (C : Int)).toNat
def layS (C v : Nat) (L : List Int) (t : Tk) : List Int :=
  ((L.set (keyOf C v (at_ L (bot C v))) t.1).set (keyOf C v (at_ L (bot C v)) + 1) t.2).set (bot C v) (IntKind.u64.wrap (at_ L (bot C v) + 1))
theorem layS_length (C v : Nat) (L : List Int) (t : Tk) : (layS C v L t).length = L.length := by simp [layS]
theorem u64_wrap_rng (x : Int) : 0 ≤ IntKind.u64.wrap x ∧ IntKind.u64.wrap x < 18446744073709551616 := by
  have e : IntKind.u64.wrap x = x % 18446744073709551616 := by simp [IntKind.wrap, IntKind.bits, IntKind.signed]
  rw [e]; omega
theorem layS_wok {C v : Nat} {L : List Int} {t : Tk} (h : Wok L) (h1 : 0 ≤ t.1 ∧ t.1 < 18446744073709551616) (h2 : 0 ≤ t.2 ∧ t.2 < 18446744073709551616) : Wok (layS C v L t) :=
  ((h.set h1.1 h1.2).set h2.1 h2.2).set (u64_wrap_rng _).1 (u64_wrap_rng _).2

theorem ArrU.below {w w' : World} {g B : Nat} {l : List Int} (h : ArrU w g l) (k : Below B w w') (hb : g < B) : ArrU w' g l := (k.block g hb).trans h
/-- What lay has in memory: the shape's box B1, the task's B2, the cells g. -/
structure LM (w : World) (B1 B2 g : Nat) (W C T t0 t1 : Int) (L : List Int) (X : World) : Prop where
  b1 : X.heap[B1]? = some (.cells #[.int .i64 0, .int .i64 W, .int .i64 C, .int .i64 T] 92 (0, 0))
  b2 : X.heap[B2]? = some (.cells #[.int .u64 t0, .int .u64 t1] 42 (0, 0))
  a : ArrU X g L
  n1 : B1 ≠ g
  n2 : B2 ≠ g
  chg : Chg (fun k => k = g) w X
theorem LM.below {w : World} {B1 B2 g : Nat} {W C T t0 t1 : Int} {L : List Int} {X Y : World} (h : LM w B1 B2 g W C T t0 t1 L X) (hb : Below X.heap.size X Y) : LM w B1 B2 g W C T t0 t1 L Y :=
  ⟨(hb.block _ (lt_of_heap h.b1)).trans h.b1, (hb.block _ (lt_of_heap h.b2)).trans h.b2, h.a.below hb (lt_of_heap h.a), h.n1, h.n2, h.chg.trans (Chg.of_below hb)⟩
theorem LM.drew {w : World} {B1 B2 g : Nat} {W C T t0 t1 : Int} {L : List Int} {X : World} (h : LM w B1 B2 g W C T t0 t1 L X) : LM w B1 B2 g W C T t0 t1 L X.drew := h.below (Below.refl _ _).drew
theorem LM.put {w : World} {B1 B2 g : Nat} {W C T t0 t1 : Int} {L : List Int} {X : World} (h : LM w B1 B2 g W C T t0 t1 L X) (i : Nat) (x : Int) : LM w B1 B2 g W C T t0 t1 (L.set i x) (X.setCell ⟨g, i, none⟩ (.int .u64 x)) :=
  ⟨(Below.heap_setCell _ _ _ _ h.n1).trans h.b1, (Below.heap_setCell _ _ _ _ h.n2).trans h.b2, h.a.put i x, h.n1, h.n2, h.chg.setCell rfl _⟩
theorem LM.six {w : World} {B1 B2 g : Nat} {W C T t0 t1 : Int} {L : List Int} {X : World} (h : LM w B1 B2 g W C T t0 t1 L X) :
    X.cell? ⟨B1, 0, none⟩ = some (.int .i64 0) ∧ X.cell? ⟨B1, 1, none⟩ = some (.int .i64 W) ∧ X.cell? ⟨B1, 2, none⟩ = some (.int .i64 C) ∧ X.cell? ⟨B1, 3, none⟩ = some (.int .i64 T) ∧ X.cell? ⟨B2, 0, none⟩ = some (.int .u64 t0) ∧ X.cell? ⟨B2, 1, none⟩ = some (.int .u64 t1) :=
  ⟨cell_of h.b1 rfl, cell_of h.b1 rfl, cell_of h.b1 rfl, cell_of h.b1 rfl, cell_of h.b2 rfl, cell_of h.b2 rfl⟩
theorem lm_start {w : World} {g : Nat} (W C T t0 t1 : Int) {L : List Int} (hA : ArrU w g L) : LM w w.heap.size (w.heap.size + 1) g W C T t0 t1 L ((w.alloc (.cells #[.int .i64 0, .int .i64 W, .int .i64 C, .int .i64 T] 92)).alloc (.cells #[.int .u64 t0, .int .u64 t1] 42)) := by
  have hg : g < w.heap.size := lt_of_heap hA
  have e := heap_new (w.alloc (.cells #[.int .i64 0, .int .i64 W, .int .i64 C, .int .i64 T] 92)) (.cells #[.int .u64 t0, .int .u64 t1] 42)
  rw [show (w.alloc (.cells #[.int .i64 0, .int .i64 W, .int .i64 C, .int .i64 T] 92)).heap.size = w.heap.size + 1 by simp] at e
  exact ⟨(Below.heap_alloc _ _ _ (by simp)).trans (heap_new _ _), e, (Below.heap_alloc _ _ _ (by simp; omega)).trans ((Below.heap_alloc _ _ _ hg).trans hA), by omega, by omega, ((Chg.refl _ _).alloc _).alloc _⟩
theorem idx_le {v W C : Nat} (h : v < W) : v * (2 + 2 * C) + (2 + 2 * C) ≤ W * (2 + 2 * C) := by
  have := Nat.mul_le_mul_right (2 + 2 * C) (show v + 1 ≤ W from h)
  rw [Nat.add_mul, Nat.one_mul] at this
  exact this
theorem rem_toNat {x : Int} {C : Nat} (h : 1 ≤ C) : ((x % (C : Int)).toNat : Int) = x % (C : Int) ∧ (x % (C : Int)).toNat < C := by
  have h1 := Int.emod_nonneg x (show (C : Int) ≠ 0 by omega)
  have h2 := Int.emod_lt_of_pos x (show 0 < (C : Int) by omega)
  omega
end Go.Proofs.YtgjdjdgondpjeaaGreat

/- steal.Fill. -/
namespace Go.Proofs.YtgjdjdgondpjeaaGreat
open Go.RowKit Go.Lib
set_option linter.unusedVariables false
def iniS (n C : Nat) : Nat → List Int
  | 0 => tab n (fun _ => 0)
  | j + 1 => ((iniS n C j).set (j * (2 + 2 * C)) 1).set (j * (2 + 2 * C) + 1) 1
theorem iniS_length (n C j : Nat) : (iniS n C j).length = n := by
  induction j with
  | zero => exact tab_length _ _
  | succ j ih => simp [iniS, ih]
theorem iniS_wok (n C j : Nat) : Wok (iniS n C j) := by
  induction j with
  | zero => exact Wok.zeros n
  | succ j ih => exact (ih.set (by omega) (by omega)).set (by omega) (by omega)
def fillS (n W C : Nat) (l : List Tk) : Nat → List Int
  | 0 => iniS n C W
  | k + 1 => layS C (k % W) (fillS n W C l k) (tAt l k)
theorem fillS_length (n W C : Nat) (l : List Tk) (k : Nat) : (fillS n W C l k).length = n := by
  induction k with
  | zero => exact iniS_length _ _ _
  | succ k ih => simp [fillS, layS_length, ih]
theorem fillS_wok {n W C : Nat} {l : List Tk} (h : Tok l) (k : Nat) (hk : k ≤ l.length) : Wok (fillS n W C l k) := by
  induction k with
  | zero => exact iniS_wok _ _ _
  | succ k ih => exact layS_wok (ih (by omega)) (h k (by omega)).1 (h k (by omega)).2
def FillPost (w : World) (err : Int) (ans : List Int) (e : Ending) (w' : World) : Prop := ∃ rv, e = .returned (.tuple #[rv, .int .i64 err]) ∧ RowAt .u64 w' rv ans ∧ Below w.heap.size w w'
theorem RowAt.nil (k : IntKind) (w : World) : RowAt k w (.slice none 0 0) [] := ⟨none, 0, rfl, by simp, by omega, (fun _ => rfl), (fun a ha => by cases ha)⟩
/-- A shape in its box B. -/
structure FM (w : World) (B : Nat) (ty : TypeId) (b W C T : Int) (X : World) : Prop where
  bx : X.heap[B]? = some (.cells #[.int .i64 b, .int .i64 W, .int .i64 C, .int .i64 T] ty (0, 0))
  bel : Below w.heap.size w X
  hB : w.heap.size ≤ B
theorem FM.below {w : World} {B : Nat} {ty : TypeId} {b W C T : Int} {X Y : World} (h : FM w B ty b W C T X) (hb : Below X.heap.size X Y) : FM w B ty b W C T Y :=
  ⟨(hb.block _ (lt_of_heap h.bx)).trans h.bx, below_on h.bel hb, h.hB⟩
theorem FM.four {w : World} {B : Nat} {ty : TypeId} {b W C T : Int} {X : World} (h : FM w B ty b W C T X) :
    X.cell? ⟨B, 0, none⟩ = some (.int .i64 b) ∧ X.cell? ⟨B, 1, none⟩ = some (.int .i64 W) ∧ X.cell? ⟨B, 2, none⟩ = some (.int .i64 C) ∧ X.cell? ⟨B, 3, none⟩ = some (.int .i64 T) :=
  ⟨cell_of h.bx rfl, cell_of h.bx rfl, cell_of h.bx rfl, cell_of h.bx rfl⟩
theorem FM.zero {w : World} {B : Nat} {ty : TypeId} {b W C T : Int} {X : World} (h : FM w B ty b W C T X) : FM w B ty 0 W C T (X.setCell ⟨B, 0, none⟩ (.int .i64 0)) :=
  ⟨by rw [heap_set h.bx]; rfl, h.bel.setCell (p := ⟨B, 0, none⟩) h.hB _, h.hB⟩
theorem fm_one (w : World) (ty : TypeId) (b W C T : Int) : FM w w.heap.size ty b W C T (w.alloc (.cells #[.int .i64 b, .int .i64 W, .int .i64 C, .int .i64 T] ty)) :=
  ⟨heap_new _ _, below_alloc (Below.refl _ _) _, Nat.le_refl _⟩
theorem fm_two (w : World) (ty : TypeId) (o : Obj) (b W C T : Int) : FM w (w.heap.size + 1) ty b W C T ((w.alloc o).alloc (.cells #[.int .i64 b, .int .i64 W, .int .i64 C, .int .i64 T] ty)) := by
  have e := heap_new (w.alloc o) (.cells #[.int .i64 b, .int .i64 W, .int .i64 C, .int .i64 T] ty)
  rw [show (w.alloc o).heap.size = w.heap.size + 1 by simp] at e
  exact ⟨e, below_alloc (below_alloc (Below.refl _ _) _) _, by omega⟩
theorem arru_new {w : World} {g n : Nat} (h : w.heap[g]? = some (.cells (madeCells #[.int .u64 0] n) 40 (0, 0))) : ArrU w g (tab n (fun _ => 0)) := by
  unfold ArrU
  rw [h]
  have e : madeCells #[Value.int .u64 0] n = uCells (tab n (fun _ => 0)) := by
    apply Array.ext'
    apply List.ext_getElem
    · simp [madeCells, uCells, tab]
    · intro i h1 h2
      simp [madeCells, uCells, tab, Nat.mod_one]
  rw [e]
/-- A shape in its box B, with the cells g. -/
structure FA (w : World) (B g : Nat) (ty : TypeId) (W C T : Int) (L : List Int) (X : World) : Prop where
  m : FM w B ty 0 W C T X
  a : ArrU X g L
  ne : B ≠ g
  hg : w.heap.size ≤ g
theorem FA.below {w : World} {B g : Nat} {ty : TypeId} {W C T : Int} {L : List Int} {X Y : World} (h : FA w B g ty W C T L X) (hb : Below X.heap.size X Y) : FA w B g ty W C T L Y :=
  ⟨h.m.below hb, h.a.below hb (lt_of_heap h.a), h.ne, h.hg⟩
theorem FA.drew {w : World} {B g : Nat} {ty : TypeId} {W C T : Int} {L : List Int} {X : World} (h : FA w B g ty W C T L X) : FA w B g ty W C T L X.drew := h.below (Below.refl _ _).drew
theorem FA.put {w : World} {B g : Nat} {ty : TypeId} {W C T : Int} {L : List Int} {X : World} (h : FA w B g ty W C T L X) (i : Nat) (x : Int) : FA w B g ty W C T (L.set i x) (X.setCell ⟨g, i, none⟩ (.int .u64 x)) :=
  ⟨⟨(Below.heap_setCell _ _ _ _ h.ne).trans h.m.bx, h.m.bel.setCell (p := ⟨g, i, none⟩) h.hg _, h.m.hB⟩, h.a.put i x, h.ne, h.hg⟩
theorem FA.chg {w : World} {B g : Nat} {ty : TypeId} {W C T : Int} {L L' : List Int} {X Y : World} (h : FA w B g ty W C T L X) (k : Chg (fun k => k = g) X Y) (hA : ArrU Y g L') : FA w B g ty W C T L' Y :=
  ⟨⟨k.heap h.m.bx h.ne, Chg.below h.m.bel k (fun i hi => by rw [hi]; exact h.hg) h.m.bel.size, h.m.hB⟩, hA, h.ne, h.hg⟩
theorem fa_made {w : World} {B : Nat} {ty : TypeId} {W C T : Int} {X : World} (n : Nat) (h : FM w B ty 0 W C T X) : FA w B X.heap.size ty W C T (tab n (fun _ => 0)) (X.alloc (.cells (madeCells #[.int .u64 0] n) 40)) :=
  ⟨h.below (below_alloc (Below.refl _ _) _), arru_new (heap_new _ _), Nat.ne_of_lt (lt_of_heap h.bx), h.bel.size⟩
end Go.Proofs.YtgjdjdgondpjeaaGreat
