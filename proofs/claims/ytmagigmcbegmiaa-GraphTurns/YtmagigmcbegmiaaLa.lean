import Derived.Test.YtmagigmcbegmiaaGE
import Derived.Test.YtmagigmcbegmiaaGA1
import Derived.Test.YtmagigmcbegmiaaGB
import Derived.Test.YtmagigmcbegmiaaGU
import Derived.Test.YtmagigmcbegmiaaMarks
import Derived.Deep.RegionHeld3
import Derived.Deep.Draws
/- The document's laid (out of the voucher seat). -/
namespace Go.Proofs.Ytmagigmcbegmiaa
open Go.RowKit Go.Lib Go.Shelf
set_option linter.unusedVariables false
def ERow (w : World) (v : Value) (l : List Ed3) : Prop :=
  (v = .slice none 0 0 ∧ l = []) ∨ ∃ g c, v = .slice (some ⟨g, 0, none⟩) l.length c ∧ l.length ≤ c ∧ c ≤ 9223372036854775807 ∧
    ∀ i, i < l.length → w.cell? ⟨g, i * 3, none⟩ = some (.int .i64 (eAt l i).1) ∧ w.cell? ⟨g, i * 3 + 1, none⟩ = some (.int .i64 (eAt l i).2.1) ∧ w.cell? ⟨g, i * 3 + 2, none⟩ = some (.int .u64 (eAt l i).2.2)
theorem ERow.below {w w' : World} {v : Value} {l : List Ed3} (h : ERow w v l) (hb : Below w.heap.size w w') : ERow w' v l := by
  rcases h with h | ⟨g, c, rfl, h1, h2, h3⟩
  · exact .inl h
  · refine .inr ⟨g, c, rfl, h1, h2, fun i hi => ?_⟩
    obtain ⟨p, q, r⟩ := h3 i hi
    have hl : g < w.heap.size := block_of_cell p
    exact ⟨(below_cell hb hl).trans p, (below_cell hb hl).trans q, (below_cell hb hl).trans r⟩
theorem ERow.nil (w : World) : ERow w (.slice none 0 0) [] := .inl ⟨rfl, rfl⟩
theorem ERow.of_owns {w : World} {base : Nat} {t : TypeId} {v : Value} {l : List Ed3} (h : w.ownsRow base t 3 v l.length (eCells l)) : ERow w v l := by
  obtain ⟨h1, h2⟩ := h
  rcases h2 with ⟨rfl, hn⟩ | ⟨g, cap, cur, rfl, hg, hh, hnc, hcm, hcur, htake⟩
  · exact .inl ⟨rfl, List.eq_nil_of_length_eq_zero hn⟩
  · refine .inr ⟨g, cap, rfl, hnc, hcm, fun i hi => ?_⟩
    obtain ⟨p, q, r⟩ := eCells_at l i hi
    rw [← htake] at p q r
    rw [List.getElem?_take_of_lt (by omega)] at p q r
    simp only [World.cell?, hh]
    exact ⟨by simpa using p, by simpa using q, by simpa using r⟩

/-- The edges that RouteMore makes of a graph: the first i of it. -/
def gEdges (n : Nat) (st tl wt : List Int) (i : Nat) : List Ed3 := (List.range i).map fun e => ((src st n e : Int), at_ tl e, at_ wt e)
theorem gEdges_length (n : Nat) (st tl wt : List Int) (i : Nat) : (gEdges n st tl wt i).length = i := by simp [gEdges]
theorem gEdges_succ (n : Nat) (st tl wt : List Int) (i : Nat) : gEdges n st tl wt (i + 1) = gEdges n st tl wt i ++ [((src st n i : Int), at_ tl i, at_ wt i)] := by simp [gEdges, List.range_succ]
theorem gEdges_at {n : Nat} {st tl wt : List Int} {i e : Nat} (h : e < i) : eAt (gEdges n st tl wt i) e = ((src st n e : Int), at_ tl e, at_ wt e) := by simp [eAt, gEdges, h]
theorem eAt_left {l t : List Ed3} {i : Nat} (h : i < l.length) : eAt (l ++ t) i = eAt l i := by
  unfold eAt
  rw [List.getElem?_append_left h]
theorem eAt_end {l : List Ed3} {a : Ed3} : eAt (l ++ [a]) l.length = a := by
  unfold eAt
  rw [List.getElem?_append_right (Nat.le_refl _), Nat.sub_self]
  rfl
theorem arru_made {w : World} {base g n : Nat} (h : w.ownsRow base 48 1 (.slice (some ⟨g, 0, none⟩) n n) n (madeCells (Value.int .u64 0).cells (n * 1)).toList) : ArrU w g (tab n (fun _ => 0)) := by
  obtain ⟨h1, ⟨he, _⟩ | ⟨g', cap, cur, he, hg, hh, hnc, hcm, hcur, htake⟩⟩ := h
  · simp at he
  · simp only [Value.slice.injEq, Option.some.injEq, Addr.mk.injEq, true_and, and_true] at he
    obtain ⟨rfl, rfl⟩ := he
    rw [List.take_of_length_le (by simp; omega)] at htake
    unfold ArrU
    rw [hh]
    have e : cur = uCells (tab n (fun _ => 0)) := by
      apply Array.ext'
      rw [htake]
      apply List.ext_getElem
      · simp [madeCells, uCells, tab]
      · intro i h1 h2
        simp [madeCells, uCells, Value.cells, Nat.mod_one, tab]
    rw [e]
structure LM (w wr : World) (X n : Nat) (vb vc : Value) (s : List Int) : Prop where
  res : wr.heap[w.heap.size]? = some (.cells #[.int .i64 0, .slice none 0 0, .slice none 0 0, .slice none 0 0] 25 (0, 0))
  arr : Arr wr (w.heap.size + 1) s
  box : wr.heap[X]? = some (.cells #[.int .i64 n, .slice (some ⟨w.heap.size + 1, 0, none⟩) (n + 1) (n + 1), vb, vc] 25 (0, 0))
  lt : w.heap.size + 1 < X
  bel : Below w.heap.size w wr
theorem LM.start {w w2 : World} {n : Nat} (hown : w2.ownsRow w.heap.size 3 1 (.slice (some ⟨(w.alloc (.cells #[.int .i64 0, .slice none 0 0, .slice none 0 0, .slice none 0 0] 25)).heap.size, 0, none⟩) (n + 1) (n + 1)) (n + 1) (madeCells (Value.int .i64 0).cells ((n + 1) * 1)).toList)
    (hgrow : (w.alloc (.cells #[.int .i64 0, .slice none 0 0, .slice none 0 0, .slice none 0 0] 25)).grownBy w2 none) :
    LM w (w2.alloc (.cells #[.int .i64 n, .slice (some ⟨w.heap.size + 1, 0, none⟩) (n + 1) (n + 1), .slice none 0 0, .slice none 0 0] 25)) w2.heap.size n (.slice none 0 0) (.slice none 0 0) (tab (n + 1) fun _ => 0) := by
  have hs1 : (w.alloc (.cells #[.int .i64 0, .slice none 0 0, .slice none 0 0, .slice none 0 0] 25)).heap.size = w.heap.size + 1 := by simp
  have hb1 : Below w.heap.size w (w.alloc (.cells #[.int .i64 0, .slice none 0 0, .slice none 0 0, .slice none 0 0] 25)) := (Below.refl _ _).alloc (Nat.le_refl _) _
  have hr1 : (w.alloc (.cells #[.int .i64 0, .slice none 0 0, .slice none 0 0, .slice none 0 0] 25)).heap[w.heap.size]? = some (.cells #[.int .i64 0, .slice none 0 0, .slice none 0 0, .slice none 0 0] 25 (0, 0)) := heap_new _ _
  rw [hs1] at hown
  generalize (w.alloc (.cells #[.int .i64 0, .slice none 0 0, .slice none 0 0, .slice none 0 0] 25)) = w1 at hs1 hb1 hr1 hgrow
  have hb2 : Below w1.heap.size w1 w2 := (Below.refl _ _).grown hgrow (Nat.le_refl _) (by intro k hk; cases hk)
  have hA := arr_made hown
  have hl := lt_of_heap hA
  have hb3 : Below w2.heap.size w2 (w2.alloc (.cells #[.int .i64 n, .slice (some ⟨w.heap.size + 1, 0, none⟩) (n + 1) (n + 1), .slice none 0 0, .slice none 0 0] 25)) := (Below.refl _ _).alloc (Nat.le_refl _) _
  exact ⟨(hb3.block _ (by omega)).trans ((hb2.block _ (by omega)).trans hr1), (hb3.block _ hl).trans hA, heap_new _ _, hl, below_on (below_on hb1 hb2) hb3⟩
theorem LM.put {w wr : World} {X n : Nat} {vb vc : Value} {s : List Int} (h : LM w wr X n vb vc s) (k : Nat) (x : Int) : LM w (wr.setCell ⟨w.heap.size + 1, k, none⟩ (.int .i64 x)).drew X n vb vc (s.set k x) where
  res := (Below.heap_setCell _ _ _ _ (by show w.heap.size ≠ w.heap.size + 1; omega)).trans h.res
  arr := h.arr.put k x
  box := (Below.heap_setCell _ _ _ _ (by have := h.lt; show X ≠ w.heap.size + 1; omega)).trans h.box
  lt := h.lt
  bel := (h.bel.setCell (p := ⟨w.heap.size + 1, k, none⟩) (Nat.le_succ _) _).drew
theorem LM.below {w wr w' : World} {X n : Nat} {vb vc : Value} {s : List Int} (h : LM w wr X n vb vc s) (hb : Below wr.heap.size wr w') : LM w w' X n vb vc s where
  res := (hb.block _ (lt_of_heap h.res)).trans h.res
  arr := (hb.block _ (lt_of_heap h.arr)).trans h.arr
  box := (hb.block _ (lt_of_heap h.box)).trans h.box
  lt := h.lt
  bel := below_on h.bel hb
theorem LM.setTo {w wr : World} {X n : Nat} {vb vc : Value} {s : List Int} (h : LM w wr X n vb vc s) (v : Value) : LM w (wr.setCell ⟨X, 2, none⟩ v) X n v vc s where
  res := (Below.heap_setCell _ _ _ _ (by have := h.lt; show w.heap.size ≠ X; omega)).trans h.res
  arr := (Below.heap_setCell _ _ _ _ (by have := h.lt; show w.heap.size + 1 ≠ X; omega)).trans h.arr
  box := by rw [heap_set h.box]; rfl
  lt := h.lt
  bel := h.bel.setCell (p := ⟨X, 2, none⟩) (by have := h.lt; show w.heap.size ≤ X; omega) _
theorem LM.setWt {w wr : World} {X n : Nat} {vb vc : Value} {s : List Int} (h : LM w wr X n vb vc s) (v : Value) : LM w (wr.setCell ⟨X, 3, none⟩ v) X n vb v s where
  res := (Below.heap_setCell _ _ _ _ (by have := h.lt; show w.heap.size ≠ X; omega)).trans h.res
  arr := (Below.heap_setCell _ _ _ _ (by have := h.lt; show w.heap.size + 1 ≠ X; omega)).trans h.arr
  box := by rw [heap_set h.box]; rfl
  lt := h.lt
  bel := h.bel.setCell (p := ⟨X, 3, none⟩) (by have := h.lt; show w.heap.size ≤ X; omega) _
theorem nx_of {w : World} {fr n : Nat} {v : Value} {s : List Int} (h : w.ownsRow fr 3 1 v s.length (s.map (Value.int .i64))) (hs : s.length = n + 1) : ∃ G cp, v = .slice (some ⟨G, 0, none⟩) (n + 1) cp ∧ fr ≤ G ∧ n + 1 ≤ cp ∧ NX w G s := by
  obtain ⟨h1, ⟨rfl, hn⟩ | ⟨g, cap, cur, rfl, hg, hh, hnc, hcm, hcur, htake⟩⟩ := h
  · omega
  · exact ⟨g, cap, by rw [hs], hg, by omega, cur, hh, by simpa using htake⟩
/-- The third loop's memory. -/
structure LY (w wr : World) (X n m G T U : Nat) (s nx tl wt : List Int) : Prop where
  lm : LM w wr X n (.slice (some ⟨T, 0, none⟩) m m) (.slice (some ⟨U, 0, none⟩) m m) s
  nxt : NX wr G nx
  tla : Arr wr T tl
  wta : ArrU wr U wt
  o1 : X < G
  o2 : G < T
  o3 : T < U
theorem LM.other {w wr : World} {X n b k : Nat} {vb vc v : Value} {s : List Int} (h : LM w wr X n vb vc s) (hb : X < b) : LM w (wr.setCell ⟨b, k, none⟩ v) X n vb vc s where
  res := (Below.heap_setCell _ _ _ _ (by have := h.lt; show w.heap.size ≠ b; omega)).trans h.res
  arr := (Below.heap_setCell _ _ _ _ (by have := h.lt; show w.heap.size + 1 ≠ b; omega)).trans h.arr
  box := (Below.heap_setCell _ _ _ _ (by have := h.lt; show X ≠ b; omega)).trans h.box
  lt := h.lt
  bel := h.bel.setCell (p := ⟨b, k, none⟩) (by have := h.lt; show w.heap.size ≤ b; omega) _
theorem LY.step {w wr : World} {X n m G T U f k : Nat} {s nx tl wt : List Int} {x y z : Int} (h : LY w wr X n m G T U s nx tl wt) :
    LY w (((wr.setCell ⟨G, f, none⟩ (.int .i64 x)).setCell ⟨T, k, none⟩ (.int .i64 y)).setCell ⟨U, k, none⟩ (.int .u64 z)).drew.drew X n m G T U s (nx.set f x) (tl.set k y) (wt.set k z) := by
  have h1 := h.o1
  have h2 := h.o2
  have h3 := h.o3
  have a1 : LM w (((wr.setCell ⟨G, f, none⟩ (.int .i64 x)).setCell ⟨T, k, none⟩ (.int .i64 y)).setCell ⟨U, k, none⟩ (.int .u64 z)) X n (.slice (some ⟨T, 0, none⟩) m m) (.slice (some ⟨U, 0, none⟩) m m) s := ((h.lm.other h1).other (by omega)).other (by omega)
  have a2 : NX (((wr.setCell ⟨G, f, none⟩ (.int .i64 x)).setCell ⟨T, k, none⟩ (.int .i64 y)).setCell ⟨U, k, none⟩ (.int .u64 z)) G (nx.set f x) := ((h.nxt.put f x).other (by omega)).other (by omega)
  have b3 : Arr (wr.setCell ⟨G, f, none⟩ (.int .i64 x)) T tl := (Below.heap_setCell _ _ _ _ (by show T ≠ G; omega)).trans h.tla
  have a3 : Arr (((wr.setCell ⟨G, f, none⟩ (.int .i64 x)).setCell ⟨T, k, none⟩ (.int .i64 y)).setCell ⟨U, k, none⟩ (.int .u64 z)) T (tl.set k y) := (Below.heap_setCell _ _ _ _ (by show T ≠ U; omega)).trans (b3.put k y)
  have b4 : ArrU (wr.setCell ⟨G, f, none⟩ (.int .i64 x)) U wt := (Below.heap_setCell _ _ _ _ (by show U ≠ G; omega)).trans h.wta
  have c4 : ArrU ((wr.setCell ⟨G, f, none⟩ (.int .i64 x)).setCell ⟨T, k, none⟩ (.int .i64 y)) U wt := (Below.heap_setCell _ _ _ _ (by show U ≠ T; omega)).trans b4
  exact ⟨⟨a1.res, a1.arr, a1.box, a1.lt, ⟨a1.bel.os, a1.bel.tape, a1.bel.output, a1.bel.size, a1.bel.block⟩⟩, a2, a3, c4.put k z, h1, h2, h3⟩
theorem LY.start {w w4 w5 w6 : World} {X n m G : Nat} {s : List Int} (H4 : LM w w4 X n (.slice none 0 0) (.slice none 0 0) s) (HN : NX w4 G s) (hXG : X < G)
    (hown5 : w5.ownsRow w4.heap.size 3 1 (.slice (some ⟨w4.heap.size, 0, none⟩) m m) m (madeCells (Value.int .i64 0).cells (m * 1)).toList) (hgrow5 : w4.grownBy w5 none)
    (hown6 : w6.ownsRow w5.heap.size 48 1 (.slice (some ⟨(w5.setCell ⟨X, 2, none⟩ (.slice (some ⟨w4.heap.size, 0, none⟩) m m)).heap.size, 0, none⟩) m m) m (madeCells (Value.int .u64 0).cells (m * 1)).toList)
    (hgrow6 : (w5.setCell ⟨X, 2, none⟩ (.slice (some ⟨w4.heap.size, 0, none⟩) m m)).grownBy w6 none) :
    LY w (w6.setCell ⟨X, 3, none⟩ (.slice (some ⟨w5.heap.size, 0, none⟩) m m)) X n m G w4.heap.size w5.heap.size s s (tab m fun _ => 0) (tab m fun _ => 0) := by
  have hb5 : Below w4.heap.size w4 w5 := (Below.refl _ _).grown hgrow5 (Nat.le_refl _) (by intro k hk; cases hk)
  have hb6 : Below (w5.setCell ⟨X, 2, none⟩ (.slice (some ⟨w4.heap.size, 0, none⟩) m m)).heap.size (w5.setCell ⟨X, 2, none⟩ (.slice (some ⟨w4.heap.size, 0, none⟩) m m)) w6 := (Below.refl _ _).grown hgrow6 (Nat.le_refl _) (by intro k hk; cases hk)
  have hsz : (w5.setCell ⟨X, 2, none⟩ (.slice (some ⟨w4.heap.size, 0, none⟩) m m)).heap.size = w5.heap.size := by simp [World.setCell]
  have hX4 := lt_of_heap H4.box
  have hG4 : G < w4.heap.size := by obtain ⟨cur, h1, h2⟩ := HN; exact lt_of_heap h1
  have hA5 := arr_made hown5
  have hT5 := lt_of_heap hA5
  have H6 := ((H4.below hb5).setTo (.slice (some ⟨w4.heap.size, 0, none⟩) m m)).below hb6
  have hA6 := arru_made hown6
  rw [hsz] at hA6 hb6
  have k5 : ∀ k, k ≠ X → k < w5.heap.size → w6.heap[k]? = w5.heap[k]? := fun k hk hl => (hb6.block k hl).trans (Below.heap_setCell _ _ _ _ (by show k ≠ X; exact hk))
  refine ⟨H6.setWt _, ?_, ?_, ?_, hXG, hG4, hT5⟩
  · refine NX.other ?_ (by omega)
    obtain ⟨cur, h1, h2⟩ := HN
    exact ⟨cur, (k5 G (by omega) (by have := hb5.size; omega)).trans ((hb5.block G hG4).trans h1), h2⟩
  · exact (Below.heap_setCell _ _ _ _ (by show w4.heap.size ≠ X; omega)).trans ((k5 _ (by omega) hT5).trans hA5)
  · exact (Below.heap_setCell _ _ _ _ (by show w5.heap.size ≠ X; omega)).trans hA6
theorem Laying.start {n m : Nat} {F T : Nat → Nat} {W : Nat → Int} {s : List Int} (hs : Summed n m F n s) (hF : ∀ i, i < m → F i < n) : Laying n m F T W 0 s (tab m fun _ => 0) (tab m fun _ => 0) where
  nlen := hs.1
  nxa v hv := hs.2.1 v (by omega)
  tlen := tab_length _ _
  wlen := tab_length _ _
  tla j hj := by omega
  wta j hj := by omega
  tin e he := by rw [tab_at _ _ _ he]; have := hF e he; omega
  win e he := by rw [tab_at _ _ _ he]; omega
/-- A list in a new block. -/
def NewAt (w : World) (v : Value) : Prop := ∃ g n c, v = .slice (some ⟨g, 0, none⟩) n c ∧ w.heap.size ≤ g
def LaidPost (n : Nat) (l : List Ed3) (w : World) (e : Ending) (w' : World) : Prop :=
  ∃ va vb vc st to' wt nx, e = .returned (gAgg n va vb vc) ∧ GIs w' n va vb vc st to' wt ∧ Summed n l.length (eFrom l) n st ∧ Laying n l.length (eFrom l) (eTo l) (eWt l) l.length nx to' wt ∧ Below w.heap.size w w' ∧ NewAt w va ∧ NewAt w vb ∧ NewAt w vc
theorem LY.finish {w wr : World} {X n m G T U : Nat} {s nx tl wt : List Int} {l : List Ed3} (h : LY w wr X n m G T U s nx tl wt) (hs : Summed n m (eFrom l) n s) (hy : Laying n m (eFrom l) (eTo l) (eWt l) m nx tl wt) (hm : m = l.length) (hn : n ≤ 1048576) (hml : m ≤ 4194304) :
    ((((wr.setCell ⟨w.heap.size, 0, none⟩ (.int .i64 n)).setCell ⟨w.heap.size, 1, none⟩ (.slice (some ⟨w.heap.size + 1, 0, none⟩) (n + 1) (n + 1))).setCell ⟨w.heap.size, 2, none⟩ (.slice (some ⟨T, 0, none⟩) m m)).setCell ⟨w.heap.size, 3, none⟩ (.slice (some ⟨U, 0, none⟩) m m)).heap[w.heap.size]? = some (.cells #[.int .i64 n, .slice (some ⟨w.heap.size + 1, 0, none⟩) (n + 1) (n + 1), .slice (some ⟨T, 0, none⟩) m m, .slice (some ⟨U, 0, none⟩) m m] 25 (0, 0)) ∧ LaidPost n l w (.returned (.agg #[.int .i64 n, .slice (some ⟨w.heap.size + 1, 0, none⟩) (n + 1) (n + 1), .slice (some ⟨T, 0, none⟩) m m, .slice (some ⟨U, 0, none⟩) m m])) ((((wr.setCell ⟨w.heap.size, 0, none⟩ (.int .i64 n)).setCell ⟨w.heap.size, 1, none⟩ (.slice (some ⟨w.heap.size + 1, 0, none⟩) (n + 1) (n + 1))).setCell ⟨w.heap.size, 2, none⟩ (.slice (some ⟨T, 0, none⟩) m m)).setCell ⟨w.heap.size, 3, none⟩ (.slice (some ⟨U, 0, none⟩) m m)) := by
  have h0 := h.lm.lt
  have h1 := h.o1
  have h2 := h.o2
  have h3 := h.o3
  have hk : ∀ k, k ≠ w.heap.size → ((((wr.setCell ⟨w.heap.size, 0, none⟩ (.int .i64 n)).setCell ⟨w.heap.size, 1, none⟩ (.slice (some ⟨w.heap.size + 1, 0, none⟩) (n + 1) (n + 1))).setCell ⟨w.heap.size, 2, none⟩ (.slice (some ⟨T, 0, none⟩) m m)).setCell ⟨w.heap.size, 3, none⟩ (.slice (some ⟨U, 0, none⟩) m m)).heap[k]? = wr.heap[k]? := fun k hk => by
    rw [Below.heap_setCell _ _ _ _ (by show k ≠ w.heap.size; exact hk), Below.heap_setCell _ _ _ _ (by show k ≠ w.heap.size; exact hk), Below.heap_setCell _ _ _ _ (by show k ≠ w.heap.size; exact hk), Below.heap_setCell _ _ _ _ (by show k ≠ w.heap.size; exact hk)]
  refine ⟨by rw [heap_set (heap_set (heap_set (heap_set h.lm.res _) _) _) _]; rfl, _, _, _, s, tl, wt, nx, rfl, ⟨?_, ?_, ?_⟩, by rw [← hm]; exact hs, by rw [← hm]; exact hy, ?_, ⟨_, _, _, rfl, by omega⟩, ⟨_, _, _, rfl, by omega⟩, ⟨_, _, _, rfl, by omega⟩⟩
  · exact Arr.row (l := s) ((hk _ (by omega)).trans h.lm.arr) hs.1 (by omega)
  · exact Arr.row (l := tl) ((hk _ (by omega)).trans h.tla) hy.tlen (by omega)
  · exact ArrU.row (l := wt) ((hk _ (by omega)).trans h.wta) hy.wlen (by omega)
  · exact (((h.lm.bel.setCell (p := ⟨w.heap.size, 0, none⟩) (Nat.le_refl _) _).setCell (p := ⟨w.heap.size, 1, none⟩) (Nat.le_refl _) _).setCell (p := ⟨w.heap.size, 2, none⟩) (Nat.le_refl _) _).setCell (p := ⟨w.heap.size, 3, none⟩) (Nat.le_refl _) _
theorem LM.edge {w wr : World} {X n g c : Nat} {vb vc : Value} {s : List Int} {l : List Ed3} (h : LM w wr X n vb vc s) (hr : ERow w (.slice (some ⟨g, 0, none⟩) l.length c) l) {i : Nat} (hi : i < l.length) :
    wr.cell? ⟨g, i * 3, none⟩ = some (.int .i64 (eAt l i).1) ∧ wr.cell? ⟨g, i * 3 + 1, none⟩ = some (.int .i64 (eAt l i).2.1) ∧ wr.cell? ⟨g, i * 3 + 2, none⟩ = some (.int .u64 (eAt l i).2.2) := by
  rcases hr.below h.bel with ⟨h1, _⟩ | ⟨g', c', h1, _, _, h2⟩
  · simp at h1
  · simp only [Value.slice.injEq, Option.some.injEq, Addr.mk.injEq, true_and, and_true] at h1
    obtain ⟨rfl, _⟩ := h1
    exact h2 i hi
end Go.Proofs.Ytmagigmcbegmiaa

/- The document's laid, of edges at any address (out of the voucher seat). -/
namespace Go.Proofs.Ytmagigmcbegmiaa
open Go.RowKit Go.Lib Go.Shelf
set_option linter.unusedVariables false
theorem LM.edgeO {w wr : World} {X n c : Nat} {ao : Option Addr} {vb vc : Value} {s : List Int} {l : List Ed3} (h : LM w wr X n vb vc s) (hr : EAt w (.slice ao l.length c) l) {i : Nat} (hi : i < l.length) :
    ∃ g o, ao = some ⟨g, o, none⟩ ∧ g < w.heap.size ∧ wr.cell? ⟨g, o + i * 3, none⟩ = some (.int .i64 (eAt l i).1) ∧ wr.cell? ⟨g, o + i * 3 + 1, none⟩ = some (.int .i64 (eAt l i).2.1) ∧ wr.cell? ⟨g, o + i * 3 + 2, none⟩ = some (.int .u64 (eAt l i).2.2) := by
  obtain ⟨g, o, e, hg, _⟩ := hr.cellAt hi
  obtain ⟨g', o', e', _, p⟩ := (hr.below h.bel).cellAt hi
  rw [e] at e'
  simp only [Option.some.injEq, Addr.mk.injEq, and_true] at e'
  obtain ⟨rfl, rfl⟩ := e'
  exact ⟨g, o, e, hg, p⟩
set_option maxRecDepth 100000 in
set_option maxHeartbeats 4000000 in
theorem laidO_any (n : Nat) (ao : Option Addr) (c : Nat) (l : List Ed3) (w : World) (hc : l.length ≤ c) (hr : EAt w (.slice ao l.length c) l) (ht : Takes n l) :
    Calls Try.prog 85 #[.int .i64 n, .slice ao l.length c] w (LaidPost n l w) := by
  obtain ⟨i0, hi, hz0, hz1, hz2⟩ := info_parts Try.info3
  obtain ⟨i1, hj, hy0, hy1, hy2⟩ := info_parts Try.info48
  have hn := ht.n_le
  have hm := ht.m_le
  obtain ⟨m, hme⟩ : ∃ m, m = l.length := ⟨_, rfl⟩
  rw [← hme] at hm hc ⊢
  have HR := hide hr
  have HT := hide ht
  have HM := hide hme
  clear hr ht hme
  go_enter Try.func85, Try.ntmps85
  go_wp2_with (at_make; refine wpList_make_full _ rfl _ _ 22 rfl w.heap.size 3 i0 (.int .i64 0) 1 Try.underlying22 hi hz0 hz1 _ _ _ _ (n + 1) rfl rfl (by omega) (by omega) (by rw [hz2]; omega) (by unfold maxLen; omega) (by simp) ?_; intro w2 hown hgrow)
  have HL0 : Hid (LM w (w2.alloc (.cells #[.int .i64 n, .slice (some ⟨w.heap.size + 1, 0, none⟩) (n + 1) (n + 1), .slice none 0 0, .slice none 0 0] 25)) w2.heap.size n (.slice none 0 0) (.slice none 0 0) (tab (n + 1) fun _ => 0)) := LM.start hown hgrow
  clear hown hgrow
  generalize hX : w2.heap.size = X at HL0 ⊢
  generalize (w2.alloc (.cells #[.int .i64 n, .slice (some ⟨w.heap.size + 1, 0, none⟩) (n + 1) (n + 1), .slice none 0 0, .slice none 0 0] 25)) = w3 at HL0 ⊢
  clear hX w2
  go_loopw [6] (fun t wr => ∃ (i : Nat) (s : List Int), i ≤ m ∧ t = .int .i64 i ∧ Tally n (eFrom l) i s ∧ LM w wr X n (.slice none 0 0) (.slice none 0 0) s) (fun t _ => m - (RowKit.intOf t).toNat)
  case atStart => exact ⟨0, tab (n + 1) (fun _ => 0), by omega, rfl, ⟨tab_length _ _, tab_at _ _ _ (by omega), fun v hv => tab_at (n + 1) (fun _ => 0) (v + 1) (by omega)⟩, HL0.out⟩
  case round =>
    obtain ⟨i, s, him, rfl, hT, hL⟩ := hrel
    clear HL0
    by_cases hlt : i < m
    · have b1 := cell_of hL.box (i := 1) rfl
      have HE := hide (HT.out.efr i (by rw [← HM.out]; exact hlt))
      obtain ⟨f, hf⟩ : ∃ f, f = eFrom l i := ⟨_, rfl⟩
      have hfn : f < n := by have := HE.out; unfold eFrom at hf; omega
      obtain ⟨g, o, rfl, hgw, e1, _, _⟩ := hL.edgeO HR.out (i := i) (by rw [← HM.out]; exact hlt)
      rw [show (eAt l i).1 = (f : Int) by rw [hf]; unfold eFrom; rw [Int.toNat_of_nonneg HE.out.1]] at e1
      have s1 := hL.arr.cell (f + 1) (by rw [hT.1]; omega)
      have fr := hL.arr.free (f + 1)
      obtain ⟨y, hy, hym⟩ : ∃ y : Nat, at_ s (f + 1) = (y : Int) ∧ y ≤ m := ⟨_, hT.2.2 f hfn, Nat.le_trans (cnt_le _ _) him⟩
      rw [hy] at s1
      have hXB := hL.lt
      have HXL := hide hL; have HXT := hide hT; have HF := hide hf; have HY := hide hy
      clear hL hT hf hy
      go_wp2
      go_region
      go_wp2
      refine ⟨⟨i + 1, s.set (f + 1) ((y : Int) + 1), by omega, by simp, ?_, HXL.out.put _ _⟩, by simp [RowKit.intOf]; omega⟩
      have := HXT.out.step (by rw [← HF.out]; exact hfn)
      rw [← HF.out, HY.out] at this
      exact this
    · obtain rfl : m = i := by omega
      have HL1 := hide hL; have HS1 := hide hT.summed
      clear hL hT
      go_wp2
      go_loopw [7] (fun t wr => ∃ (v : Nat) (s : List Int), v ≤ n ∧ t = .int .i64 v ∧ Summed n m (eFrom l) v s ∧ LM w wr X n (.slice none 0 0) (.slice none 0 0) s) (fun t _ => n - (RowKit.intOf t).toNat)
      case atStart => exact ⟨0, _, by omega, rfl, HS1.out, HL1.out⟩
      case round =>
        obtain ⟨v, s, hvn, rfl, hT, hL⟩ := hrel
        clear HL1 HS1
        by_cases hlt : v < n
        · have b1 := cell_of hL.box (i := 1) rfl
          have s0 := hL.arr.cell v (by rw [hT.1]; omega)
          have s1 := hL.arr.cell (v + 1) (by rw [hT.1]; omega)
          have fr := hL.arr.free (v + 1)
          obtain ⟨x, hx, hxm⟩ : ∃ x : Nat, at_ s v = (x : Int) ∧ x ≤ m := ⟨_, hT.2.1 v (Nat.le_refl _), cnt_le _ _⟩
          obtain ⟨y, hy, hym⟩ : ∃ y : Nat, at_ s (v + 1) = (y : Int) ∧ y ≤ m := ⟨_, hT.2.2 v (Nat.le_refl _) hlt, cnt_le _ _⟩
          rw [hx] at s0
          rw [hy] at s1
          have hXB := hL.lt
          have HXL := hide hL; have HXT := hide hT; have HX := hide hx; have HY := hide hy
          clear hL hT hx hy
          go_wp2
          go_region
          go_wp2
          refine ⟨⟨v + 1, s.set (v + 1) ((y : Int) + (x : Int)), by omega, by simp, ?_, HXL.out.put _ _⟩, by simp [RowKit.intOf]; omega⟩
          have := HXT.out.step hlt
          rw [HX.out, HY.out] at this
          exact this
        · obtain rfl : n = v := by omega
          have hba := below_alloc (Below.refl wr.heap.size wr) (.cells #[] 3)
          have b1 := (below_cell (o := 1) hba (lt_of_heap hL.box)).trans (cell_of hL.box (i := 1) rfl)
          have HRW := hide ((hL.arr.row hT.1 (by omega)).below hba)
          have hsl := hT.1
          have HL2 := hide hL; have HS2 := hide hT
          clear hL hT hba
          go_wp2_with (first
            | (at_builtin; refine wpList_fresh rfl (.tmp 52) (.tmp 54) 22 rfl .i64 3 i0 (.int .i64 0) 8 Try.underlying22 hi hz0 hz1 hz2 rfl wr.heap.size _ (own_new _ 3 wr.heap.size rfl) (by simp) _ s rfl rfl HRW.out (by omega) (by unfold maxLen; omega) ?_; intro v4 w4 hown4 hbel4; obtain ⟨G, cp, rfl, hGX, hcp, hN4⟩ := nx_of hown4 hsl; have HN4 := hide hN4; clear hN4 hown4; have H4 := hide (HL2.out.below (below_on (below_alloc (Below.refl wr.heap.size wr) (.cells #[] 3)) hbel4)))
            | (at_make; refine wpList_make_full _ rfl _ _ 22 rfl w4.heap.size 3 i0 (.int .i64 0) 1 Try.underlying22 hi hz0 hz1 _ _ _ _ m rfl rfl rfl rfl (by rw [hz2]; omega) (by unfold maxLen; omega) (Nat.le_refl _) ?_; intro w5 hown5 hgrow5; have H5 := hide (H4.out.below ((Below.refl _ _).grown hgrow5 (Nat.le_refl _) (by intro k hk; cases hk))); have c5 := cell_of H5.out.box (i := 2) rfl; have f5 := free_of H5.out.box 2)
            | (at_make; refine wpList_make_full _ rfl _ _ 23 rfl w5.heap.size 48 i1 (.int .u64 0) 1 Try.underlying23 hj hy0 hy1 _ _ _ _ m rfl rfl rfl rfl (by rw [hy2]; omega) (by unfold maxLen; omega) (by simp) ?_; intro w6 hown6 hgrow6; have H6 := hide ((H5.out.setTo (.slice (some ⟨w4.heap.size, 0, none⟩) m m)).below ((Below.refl _ _).grown hgrow6 (Nat.le_refl _) (by intro k hk; cases hk))); have c6 := cell_of H6.out.box (i := 3) rfl; have f6 := free_of H6.out.box 3))
          have HLN := hide (LY.start H4.out HN4.out (Nat.lt_of_lt_of_le (lt_of_heap HL2.out.box) hGX) hown5 hgrow5 hown6 hgrow6)
          clear hown5 hgrow5 hown6 hgrow6 c5 f5 c6 f6 b1 H6 H5 H4 HN4 HRW hGX hbel4
          generalize w4.heap.size = T at HLN ⊢
          generalize w5.heap.size = U at HLN ⊢
          generalize (w6.setCell ⟨X, 3, none⟩ (.slice (some ⟨U, 0, none⟩) m m)) = w7 at HLN ⊢
          have HFA : Hid (∀ i, i < m → eFrom l i < n) := fun i hi => by have := HT.out.efr i (by rw [← HM.out]; exact hi); unfold eFrom; omega
          go_loopw [9] (fun t wr => ∃ (i : Nat) (nx tl wt : List Int), i ≤ m ∧ t = .int .i64 i ∧ Laying n m (eFrom l) (eTo l) (eWt l) i nx tl wt ∧ LY w wr X n m G T U s nx tl wt) (fun t _ => m - (RowKit.intOf t).toNat)
          case atStart => exact ⟨0, s, tab m fun _ => 0, tab m fun _ => 0, by omega, rfl, Laying.start HS2.out HFA.out, HLN.out⟩
          case round =>
            obtain ⟨i, nx, tl, wt, him, rfl, hY, hN⟩ := hrel
            clear HLN
            by_cases hlt : i < m
            · have hil : i < l.length := by rw [← HM.out]; exact hlt
              obtain ⟨g, o, rfl, hgw, e0, e1, e2⟩ := hN.lm.edgeO HR.out hil
              obtain ⟨f, hf⟩ : ∃ f, f = eFrom l i := ⟨_, rfl⟩
              obtain ⟨k, hk⟩ : ∃ k, k = place (eFrom l) m i := ⟨_, rfl⟩
              have hfn : f < n := by rw [hf]; exact HFA.out i hlt
              have hkm : k < m := by rw [hk]; exact place_lt hlt
              rw [show (eAt l i).1 = (f : Int) by rw [hf]; unfold eFrom; rw [Int.toNat_of_nonneg (HT.out.efr i hil).1]] at e0
              rw [show (eAt l i).2.1 = ((eTo l i : Nat) : Int) by unfold eTo; rw [Int.toNat_of_nonneg (HT.out.eto i hil).1]] at e1
              rw [show (eAt l i).2.2 = eWt l i from rfl] at e2
              have hat : at_ nx f = (k : Int) := by rw [hf, hk]; exact hY.at (by rw [← hf]; exact hfn)
              have n0 := hN.nxt.at (i := f) (by rw [hY.nlen]; omega)
              rw [hat] at n0
              have n1 := hN.nxt.free f
              have t0 := hN.tla.cell k (by rw [hY.tlen]; exact hkm)
              have t1 := hN.tla.free k
              have u0 := hN.wta.cell k (by rw [hY.wlen]; exact hkm)
              have u1 := hN.wta.free k
              have b2 := cell_of hN.lm.box (i := 2) rfl
              have b3 := cell_of hN.lm.box (i := 3) rfl
              have o0 := hN.lm.lt
              have o1 := hN.o1
              have o2 := hN.o2
              have o3 := hN.o3
              have d1 : ¬ G = X := by omega
              have d2 : ¬ G = g := by omega
              have d3 : ¬ G = T := by omega
              have d4 : ¬ G = U := by omega
              have d5 : ¬ T = X := by omega
              have d6 : ¬ T = g := by omega
              have d7 : ¬ T = U := by omega
              have d8 : ¬ X = G := by omega
              have d9 : ¬ g = G := by omega
              have d10 : ¬ T = G := by omega
              have d11 : ¬ U = G := by omega
              have d12 : ¬ X = T := by omega
              have d13 : ¬ g = T := by omega
              have d14 : ¬ U = T := by omega
              have HST := hide (hY.step hlt (HFA.out i hlt) (by have := HT.out.eto i hil; unfold eTo; omega) (HT.out.ewt i hil))
              rw [← hf, ← hk, hat] at HST
              have HNN := hide hN
              clear hY hN hf hk hat
              generalize eTo l i = x at e1 HST
              generalize eWt l i = z at e2 HST
              go_wp2
              go_region
              go_wp2
              go_region
              go_wp2
              exact ⟨⟨i + 1, _, _, _, by omega, by simp, HST.out, HNN.out.step⟩, by simp [RowKit.intOf]; omega⟩
            · obtain rfl : m = i := by omega
              have HY := hide hY; have HNN := hide hN
              have b0 := cell_of hN.lm.box (i := 0) rfl
              have b1 := cell_of hN.lm.box (i := 1) rfl
              have b2 := cell_of hN.lm.box (i := 2) rfl
              have b3 := cell_of hN.lm.box (i := 3) rfl
              have r0 := cell_of hN.lm.res (i := 0) rfl
              have r1 := cell_of hN.lm.res (i := 1) rfl
              have r2 := cell_of hN.lm.res (i := 2) rfl
              have r3 := cell_of hN.lm.res (i := 3) rfl
              have q0 := free_of hN.lm.res 0
              have q1 := free_of hN.lm.res 1
              have q2 := free_of hN.lm.res 2
              have q3 := free_of hN.lm.res 3
              have o0 := hN.lm.lt
              have d1 : ¬ X = w.heap.size := by omega
              have d2 : ¬ w.heap.size = X := by omega
              clear hY hN
              have HE := hide (HNN.out.finish HS2.out HY.out HM.out hn hm)
              go_wp2
              exact bodyPost_ret (results_cell_row Try.results85 _ _ w.heap.size 25 _ (0, 0) _ rfl HE.out.1 Try.underlying25 rfl (by kernel_rfl)) rfl HE.out.2
end Go.Proofs.Ytmagigmcbegmiaa
