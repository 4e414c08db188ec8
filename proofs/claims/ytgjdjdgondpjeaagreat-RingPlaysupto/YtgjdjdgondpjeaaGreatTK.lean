import Derived.Test.YtgjdjdgondpjeaaGreatHold
import Derived.Test.YtgjdjdgondpjeaaGreatRefAccess
import Derived.Test.YtgjdjdgondpjeaaGreatF4
import Derived.WalkKit
import Derived.Lib.Walk
import Derived.Lib.SliceRun
import Derived.RegionTactic
import Derived.BigRegion
import Derived.BigQuiet
import Derived.WalkSmall
import Derived.Deep.Draws
import Derived.Deep.RegionLawGrows
import Derived.Deep.Upon
import Derived.Deep.RegionHeld3
import Derived.Deep.QuietTactic
import Derived.Deep.OwnRows
/- Words that all the walks over dice share: rows of numbers in memory, worlds that differ in one block. -/
namespace Go.Proofs.YtgjdjdgondpjeaaGreat
open Go.RowKit Go.Lib

/-- A slice value that reads as these numbers; the spare room is not looked at. -/
def RowAt (k : IntKind) (w : World) (v : Value) (xs : List Int) : Prop :=
  ∃ ao c, v = .slice ao xs.length c ∧ xs.length ≤ c ∧ c ≤ 9223372036854775807 ∧ (ao = none → c = 0) ∧
    ∀ a, ao = some a → ∀ i, i < xs.length → w.cell? (a.add i) = some (.int k (xs.getD i 0))

/-- The worlds are alike but for the block b, and for new blocks. -/
structure But (b : Nat) (w w' : World) : Prop where
  os : w'.os = w.os
  tape : w'.tape = w.tape
  output : w'.output = w.output
  size : w.heap.size ≤ w'.heap.size
  block : ∀ k, k < w.heap.size → k ≠ b → w'.heap[k]? = w.heap[k]?

theorem But.refl (b : Nat) (w : World) : But b w w := ⟨rfl, rfl, rfl, Nat.le_refl _, fun _ _ _ => rfl⟩
theorem But.trans {b : Nat} {x y z : World} (h : But b x y) (k : But b y z) : But b x z :=
  ⟨k.os.trans h.os, k.tape.trans h.tape, k.output.trans h.output, Nat.le_trans h.size k.size,
    fun i hi hb => (k.block i (Nat.lt_of_lt_of_le hi h.size) hb).trans (h.block i hi hb)⟩
theorem But.setCell (w : World) (p : Addr) (u : Value) : But p.block w (w.setCell p u) :=
  ⟨rfl, rfl, rfl, by simp [World.setCell], fun k _ hb => Below.heap_setCell _ _ _ _ hb⟩
theorem But.of_below {b : Nat} {w w' : World} (h : Below w.heap.size w w') : But b w w' :=
  ⟨h.os, h.tape, h.output, h.size, fun k hk _ => h.block k hk⟩
theorem But.below {b B : Nat} {a w w' : World} (h : Below B a w) (k : But b w w') (hb : B ≤ b) (hs : B ≤ w.heap.size) : Below B a w' :=
  h.trans ⟨k.os, k.tape, k.output, k.size, fun i hi => k.block i (by omega) (by omega)⟩
theorem But.heap {b : Nat} {w w' : World} (h : But b w w') {k : Nat} {o : Obj} (hk : w.heap[k]? = some o) (hb : k ≠ b) : w'.heap[k]? = some o := by
  have hlt : k < w.heap.size := by
    rcases Nat.lt_or_ge k w.heap.size with h | h
    · exact h
    · rw [Array.getElem?_eq_none h] at hk; cases hk
  rw [h.block k hlt hb]; exact hk

theorem block_of_cell {w : World} {a : Addr} {v : Value} (h : w.cell? a = some v) : a.block < w.heap.size := by
  rcases Nat.lt_or_ge a.block w.heap.size with hl | hl
  · exact hl
  · unfold World.cell? at h
    rw [Array.getElem?_eq_none hl] at h
    simp at h


theorem RowAt.of_owns {w : World} {base : Nat} {e : TypeId} {k : IntKind} {v : Value} {xs : List Int} (h : w.ownsRow base e 1 v xs.length (xs.map (Value.int k))) :
    RowAt k w v xs := by
  obtain ⟨h1, h2⟩ := h
  rcases h2 with ⟨rfl, hn⟩ | ⟨g, cap, cur, rfl, hg, hh, hnc, hcm, hcur, htake⟩
  · exact ⟨none, 0, by rw [hn], by omega, by omega, (fun _ => rfl), (fun a ha => by cases ha)⟩
  · refine ⟨_, cap, rfl, hnc, hcm, (fun h => by cases h), ?_⟩
    intro a ha i hi
    cases ha
    have hlen : i < cur.size := by omega
    rw [Addr.add_lit]
    simp only [World.cell?, hh]
    have e1 : cur.toList[i]? = some (.int k (xs.getD i 0)) := by
      have : (cur.toList.take (xs.length * 1))[i]? = (xs.map (Value.int k))[i]? := by rw [htake]
      rw [List.getElem?_take_of_lt (by omega)] at this
      rw [this]
      simp [List.getD, List.getElem?_eq_getElem hi]
    simpa using e1

end Go.Proofs.YtgjdjdgondpjeaaGreat

/- What all walks over the pools' shapes share: numbers and words in memory, worlds that have grown. -/
namespace Go.Proofs.YtgjdjdgondpjeaaGreat
open Go.RowKit Go.Lib
set_option linter.unusedVariables false

/-- A row that is not empty lies at a plain address. -/
theorem RowAt.spot {k : IntKind} {w : World} {v : Value} {xs : List Int} (h : RowAt k w v xs) (hne : xs ≠ []) :
    ∃ g o c, v = .slice (some ⟨g, o, none⟩) xs.length c ∧ xs.length ≤ c ∧ c ≤ 9223372036854775807 ∧ ∀ i, i < xs.length → w.cell? ⟨g, o + i, none⟩ = some (.int k (xs[i]?.getD 0)) := by
  obtain ⟨ao, c, rfl, h1, h2, h3, h4⟩ := h
  have hl : 0 < xs.length := List.length_pos_iff.2 hne
  cases ao with
  | none => have := h3 rfl; omega
  | some a =>
    obtain ⟨b, o, sp⟩ := a
    have h0 := h4 _ rfl 0 hl
    have hs : sp = none := by simpa [Addr.add] using World.cell?_spot h0
    subst hs
    refine ⟨b, o, c, rfl, h1, h2, fun i hi => ?_⟩
    have := h4 _ rfl i hi
    rw [Addr.add_lit] at this
    simpa [List.getD] using this

theorem RowAt.empty {k : IntKind} {w : World} {v : Value} (h : RowAt k w v []) : ∃ ao c, v = .slice ao 0 c := by
  obtain ⟨ao, c, rfl, _⟩ := h
  exact ⟨ao, c, rfl⟩

theorem RowAt.below {k : IntKind} {w w' : World} {v : Value} {xs : List Int} (h : RowAt k w v xs) (hb : Below w.heap.size w w') : RowAt k w' v xs := by
  obtain ⟨ao, c, rfl, h1, h2, h3, h4⟩ := h
  refine ⟨ao, c, rfl, h1, h2, h3, fun a ha i hi => ?_⟩
  have h5 := h4 a ha i hi
  have hl : (a.add i).block < w.heap.size := block_of_cell h5
  rw [World.cell?, hb.block _ hl]
  exact h5

def first (p : Nat → Bool) (n : Nat) : Option Nat := (List.range n).find? p
theorem first_none {p : Nat → Bool} {n : Nat} (h : ∀ j, j < n → p j = false) : first p n = none := by
  unfold first
  rw [List.find?_eq_none]
  intro x hx
  rw [h x (List.mem_range.1 hx)]
  simp
theorem first_some {p : Nat → Bool} {n i : Nat} (hi : i < n) (hp : p i = true) (h : ∀ j, j < i → p j = false) : first p n = some i := by
  unfold first
  rw [List.find?_range_eq_some]
  exact ⟨hp, List.mem_range.2 hi, fun j hj => by rw [h j hj]; rfl⟩

def at_ (l : List Int) (i : Nat) : Int := l[i]?.getD 0

theorem RowAt.shape {k : IntKind} {w : World} {v : Value} {xs : List Int} (h : RowAt k w v xs) : ∃ ao c, v = .slice ao xs.length c := by
  obtain ⟨ao, c, h, _⟩ := h; exact ⟨ao, c, h⟩

theorem below_cell {w w' : World} {g B o : Nat} (h : Below B w w') (hg : g < B) : w'.cell? ⟨g, o, none⟩ = w.cell? ⟨g, o, none⟩ := by
  simp only [World.cell?]
  rw [h.block g hg]
theorem RowAt.cellAt {k : IntKind} {w : World} {v : Value} {xs : List Int} (h : RowAt k w v xs) (i : Nat) (hi : i < xs.length) :
    ∃ g o c, v = .slice (some ⟨g, o, none⟩) xs.length c ∧ xs.length ≤ c ∧ w.cell? ⟨g, o + i, none⟩ = some (.int k (at_ xs i)) := by
  obtain ⟨g, o, c, rfl, h1, h2, h3⟩ := h.spot (by intro e; rw [e] at hi; simp at hi)
  exact ⟨g, o, c, rfl, h1, h3 i hi⟩

theorem below_alloc {a w : World} (h : Below a.heap.size a w) (o : Obj) : Below a.heap.size a (w.alloc o) := h.alloc h.size o
theorem below_drew {a w : World} (h : Below a.heap.size a w) : Below a.heap.size a w.drew := h.drew
theorem below_on {a w w' : World} (h : Below a.heap.size a w) (k : Below w.heap.size w w') : Below a.heap.size a w' := h.trans (k.mono h.size)

theorem first_none_of {p : Nat → Bool} {n : Nat} (h : first p n = none) : ∀ j, j < n → p j = false := by
  intro j hj
  unfold first at h
  have := List.find?_eq_none.1 h j (List.mem_range.2 hj)
  simpa using this
theorem first_of_some {p : Nat → Bool} {n i : Nat} (h : first p n = some i) : i < n ∧ p i = true := by
  unfold first at h
  rw [List.find?_range_eq_some] at h
  exact ⟨List.mem_range.1 h.2.1, h.1⟩


def tab (n : Nat) (g : Nat → Int) : List Int := (List.range n).map g
theorem tab_length (n : Nat) (g : Nat → Int) : (tab n g).length = n := by simp [tab]
theorem tab_at (n : Nat) (g : Nat → Int) (i : Nat) (h : i < n) : at_ (tab n g) i = g i := by simp [tab, at_, h]
theorem tab_set (n : Nat) (g : Nat → Int) (a : Nat) (x : Int) : (tab n g).set a x = tab n (fun v => if v = a then x else g v) := by
  apply List.ext_getElem
  · simp [tab]
  · intro i h1 h2
    simp only [List.getElem_set, tab, List.getElem_map, List.getElem_range]
    by_cases h : a = i
    · subst h; simp
    · rw [if_neg h, if_neg (fun e => h e.symm)]
theorem tab_congr {n : Nat} {g h : Nat → Int} (e : ∀ v, v < n → g v = h v) : tab n g = tab n h := by
  apply List.ext_getElem
  · simp [tab]
  · intro i h1 h2
    simp only [tab, List.getElem_map, List.getElem_range]
    exact e i (by simpa [tab] using h1)

/-- A block of plain numbers. -/
def iCells (l : List Int) : Array Value := (l.map (Value.int .i64)).toArray
def Arr (w : World) (g : Nat) (l : List Int) : Prop := w.heap[g]? = some (.cells (iCells l) 3 (0, 0))
theorem Arr.cell {w : World} {g : Nat} {l : List Int} (h : Arr w g l) (i : Nat) (hi : i < l.length) : w.cell? ⟨g, i, none⟩ = some (.int .i64 (at_ l i)) := by
  refine cell_of h ?_
  simp [iCells, at_, hi]
theorem Arr.free {w : World} {g : Nat} {l : List Int} (h : Arr w g l) (i : Nat) : w.frozen? ⟨g, i, none⟩ = false := free_of h i
theorem Arr.put {w : World} {g : Nat} {l : List Int} (h : Arr w g l) (i : Nat) (x : Int) : Arr (w.setCell ⟨g, i, none⟩ (.int .i64 x)) g (l.set i x) := by
  have := heap_set (i := i) h (.int .i64 x)
  unfold Arr
  rw [this]
  simp [iCells]
theorem Arr.row {w : World} {g n : Nat} {l : List Int} (h : Arr w g l) (hn : l.length = n) (h63 : n ≤ 9223372036854775807) : RowAt .i64 w (.slice (some ⟨g, 0, none⟩) n n) l := by
  subst hn
  refine ⟨_, _, rfl, Nat.le_refl _, h63, (fun e => by cases e), fun a ha i hi => ?_⟩
  cases ha
  rw [Addr.add_lit, Nat.zero_add, h.cell i hi]
  rfl
theorem arr_made {w : World} {base g n : Nat} (h : w.ownsRow base 3 1 (.slice (some ⟨g, 0, none⟩) n n) n (madeCells (Value.int .i64 0).cells (n * 1)).toList) : Arr w g (tab n (fun _ => 0)) := by
  obtain ⟨h1, ⟨he, _⟩ | ⟨g', cap, cur, he, hg, hh, hnc, hcm, hcur, htake⟩⟩ := h
  · simp at he
  · simp only [Value.slice.injEq, Option.some.injEq, Addr.mk.injEq, true_and, and_true] at he
    obtain ⟨rfl, rfl⟩ := he
    rw [List.take_of_length_le (by simp; omega)] at htake
    unfold Arr
    rw [hh]
    have e : cur = iCells (tab n (fun _ => 0)) := by
      apply Array.ext'
      rw [htake]
      apply List.ext_getElem
      · simp [madeCells, iCells, tab]
      · intro i h1 h2
        simp [madeCells, iCells, Value.cells, Nat.mod_one, tab]
    rw [e]
theorem Arr.below {w w' : World} {g B : Nat} {l : List Int} (h : Arr w g l) (k : Below B w w') (hb : g < B) : Arr w' g l := (k.block g hb).trans h
/-- A block of words. -/
def uCells (l : List Int) : Array Value := (l.map (Value.int .u64)).toArray
def ArrU (w : World) (g : Nat) (l : List Int) : Prop := w.heap[g]? = some (.cells (uCells l) 40 (0, 0))
theorem ArrU.cell {w : World} {g : Nat} {l : List Int} (h : ArrU w g l) (i : Nat) (hi : i < l.length) : w.cell? ⟨g, i, none⟩ = some (.int .u64 (at_ l i)) := by
  refine cell_of h ?_
  simp [uCells, at_, hi]
theorem ArrU.free {w : World} {g : Nat} {l : List Int} (h : ArrU w g l) (i : Nat) : w.frozen? ⟨g, i, none⟩ = false := free_of h i
theorem ArrU.put {w : World} {g : Nat} {l : List Int} (h : ArrU w g l) (i : Nat) (x : Int) : ArrU (w.setCell ⟨g, i, none⟩ (.int .u64 x)) g (l.set i x) := by
  have := heap_set (i := i) h (.int .u64 x)
  unfold ArrU
  rw [this]
  simp [uCells]
theorem ArrU.chg {w w' : World} {S : Nat → Prop} {g : Nat} {l : List Int} (h : ArrU w g l) (k : Chg S w w') (hb : ¬ S g) : ArrU w' g l := k.heap h hb
theorem ArrU.row {w : World} {g n : Nat} {l : List Int} (h : ArrU w g l) (hn : l.length = n) (h63 : n ≤ 9223372036854775807) : RowAt .u64 w (.slice (some ⟨g, 0, none⟩) n n) l := by
  subst hn
  refine ⟨_, _, rfl, Nat.le_refl _, h63, (fun e => by cases e), fun a ha i hi => ?_⟩
  cases ha
  rw [Addr.add_lit, Nat.zero_add, h.cell i hi]
  rfl


theorem cells_of_row {k : IntKind} {w : World} {a : Addr} {xs : List Int} (h : ∀ b, some a = some b → ∀ i, i < xs.length → w.cell? (b.add i) = some (.int k (xs.getD i 0))) :
    ∀ j u, (xs.map (Value.int k))[j]? = some u → w.cell? (a.add j) = some u := by
  intro j u hj
  have hjn : j < xs.length := by
    have := (List.getElem?_eq_some_iff.1 hj).1
    simpa using this
  rw [h a rfl j hjn]
  have e : (xs.map (Value.int k))[j]? = some (Value.int k (xs.getD j 0)) := by simp [List.getD, List.getElem?_eq_getElem hjn]
  rw [e] at hj
  exact hj


/-- 'append([]T{}, xs...)' in a region that goes in the text's order. -/
theorem wpList_fresh {P : Program} {w : World} {ops : Array Oper} {rest : List Oper} {o : Oper} {a : Act} {Q : Exit → Act → World → Prop} (hgd : o.guard = none) (s x : Operand) (t : TypeId)
    (hop : o.op = .call { callee := .builtin .append, args := #[s, x], argTypes := #[t, t] })
    (k : IntKind) (e : TypeId) (i : TypeInfo) (z : Value) (bytes : Nat) (ht : P.underlying t = some (.slice e)) (hi : P.info? e = some i) (hz : i.zero = some z)
    (hsize : i.size = 1) (hby : i.bytes = bytes) (hzs : z.cells.size = 1) (B : Nat) (fr : Nat) (hB : w.ownsRow fr e 1 (.slice (some ⟨B, 0, none⟩) 0 0) 0 []) (hfr : fr ≤ w.heap.size) (xv : Value) (xs : List Int) (hs : a.eval s = .slice (some ⟨B, 0, none⟩) 0 0) (hx : a.eval x = xv) (hrow : RowAt k w xv xs) (hb : xs.length * bytes ≤ 140737488355328) (h63 : xs.length ≤ maxLen)
    (h : ∀ v' w', w'.ownsRow fr e 1 v' xs.length (xs.map (Value.int k)) → Below w.heap.size w w' → wpList P ops Q rest (a.put o.dst v') w') : wpList P ops Q (o :: rest) a w := by
  refine wpList_plain hgd fun K hK => ?_
  obtain ⟨xo, c, rfl, h1, h2, h3, h4⟩ := hrow
  rcases Nat.eq_zero_or_pos xs.length with h0 | h0
  · obtain rfl : xs = [] := List.eq_nil_of_length_eq_zero h0
    have hsrc : Src P i.size t (.slice xo 0 c) 0 [] w := by
      cases xo with
      | none => exact Src.ofNil w ht c
      | some a => exact Src.ofSlice w ht a 0 c [] (by simp) (fun j u h => by simp at h) (by simp)
    have hrun := run_append_nothing w t t o.type e i ht hi (some ⟨B, 0, none⟩) 0 0 (Nat.le_refl _) _ hsrc
    have hx' : a.eval x = .slice xo 0 c := hx
    unfold Oper.wp
    simp [execOp, hop, resolve, invoke, builtin, hs, hx', hrun, Result.andThen]
    exact hK _ _ (h _ _ (by simpa using hB) (Below.refl _ _))
  · cases xo with
    | none => have := h3 rfl; omega
    | some ad =>
      obtain ⟨v', w', hrun, hown, hgrow⟩ := run_append_arg_grows (P := P) (w := w) t o.type e i z 1 bytes ht hi hz hsize hby hzs (by decide) ⟨B, 0, none⟩ 0 0 [] rfl (fun j u h => by simp at h) ad xs.length c (xs.map (Value.int k)) (by simp) (cells_of_row h4) (by omega) (by omega) (by rw [Nat.zero_add]; exact hb)
      simp only [Nat.zero_add, List.nil_append] at hown
      have hbel : Below w.heap.size w w' := (Below.refl _ _).grown hgrow (Nat.le_refl _) (by intro j hj; cases hj)
      unfold Oper.wp
      simp [execOp, hop, resolve, invoke, builtin, hs, hx, hrun, Result.andThen]
      refine hK _ _ (h _ _ ?_ hbel)
      obtain ⟨hl, hh⟩ := hown
      exact ⟨hl, hh.imp id fun ⟨g, cap, cur, he, hg, r⟩ => ⟨g, cap, cur, he, Nat.le_trans hfr hg, r⟩⟩

theorem two_at (w : World) (x y : Value) (t : TypeId) : ∀ j u, [x, y][j]? = some u → (w.alloc (.cells #[x, y] t)).cell? ((⟨w.heap.size, 0, none⟩ : Addr).add j) = some u := by
  intro j u hj
  have hh : (w.alloc (.cells #[x, y] t)).heap[w.heap.size]? = some (.cells #[x, y] t (0, 0)) := heap_new _ _
  rw [Addr.add_lit]
  match j, hj with
  | 0, hj => simp at hj; subst hj; exact cell_of hh rfl
  | 1, hj => simp at hj; subst hj; exact cell_of hh rfl


/-- A world that has grown, with what it has grown of. -/
structure GW (w0 : World) where
  world : World
  bel : Below w0.heap.size w0 world
theorem wp_region_gw {P : Program} {id : Nat} {Q : Exit → Act → World → Prop} {a : Act} {w : World} {l : List Oper} (hm : P.follows .mixedOrders = true) (hB : Region.lexB .any l.toArray = true)
    (h : wpQuiet P l.toArray (fun w' => ∃ x : GW w, w' = x.world) (fun a' => ∀ w', (∃ x : GW w, w' = x.world) → Q .normal a' w') l a) : (Code.region id l.toArray true).wp P Q a w :=
  wp_region_quiet (C := fun w' => ∃ x : GW w, w' = x.world) hm hB ⟨⟨w.drew, (Below.refl _ _).drew⟩, rfl⟩ (by simpa using h)
theorem gw_of {w8 : World} {x : GW w8} {f : FuncId} {args : Array Value} {v : Value} (h : Calls Tryz.prog f args x.world fun e w' => e = .returned v ∧ Below x.world.heap.size x.world w') :
    Calls Tryz.prog f args x.world fun e w'' => e = .returned v ∧ ∃ y : GW w8, w'' = y.world :=
  h.mono fun _ w' ⟨he, hb⟩ => ⟨he, ⟨w', x.bel.trans (hb.mono x.bel.size)⟩, rfl⟩


end Go.Proofs.YtgjdjdgondpjeaaGreat
