/- A text under way: the builder, the kind of its lines. -/
import Derived.Test.YtmejgjhijdcahaaDoorSr
namespace Go.Proofs.YtmejgjhijdcahaaDoor
open Go.Shelf Go.RowKit Go.Sort Go.Lib
set_option linter.unusedVariables false
set_option linter.unusedSimpArgs false
structure SW (w W : World) (kb : Nat) (kar : Array Value) (acc : List UInt8) : Prop where
  bd : Lib.IsBuilder 56 5 w.heap.size w.heap.size (Lib.byteCells acc) W
  kd : ∃ fz, W.heap[kb]? = some (.cells kar 59 fz)
  ne : kb ≠ w.heap.size
  bel : Below w.heap.size w W
theorem SW.on {w W W' : World} {kb : Nat} {kar : Array Value} {acc : List UInt8} (h : SW w W kb kar acc) (hb : Below W.heap.size W W') : SW w W' kb kar acc := by
  obtain ⟨h1, ⟨fz, h2⟩, h3, h4⟩ := h
  exact ⟨isb_below h1 hb, ⟨fz, (hb.block kb (lt_of_heap h2)).trans h2⟩, h3, below_on h4 hb⟩
theorem SW.cell {w W : World} {kb : Nat} {kar : Array Value} {acc : List UInt8} (h : SW w W kb kar acc) {j : Nat} {u : Value} (hu : kar[j]? = some u) : W.cell? ⟨kb, j, none⟩ = some u := by
  obtain ⟨fz, h2⟩ := h.kd
  exact cell_of h2 hu
theorem SW.put {w W W' : World} {kb : Nat} {kar : Array Value} {acc acc' : List UInt8} (h : SW w W kb kar acc) (h1 : Lib.IsBuilder 56 5 w.heap.size w.heap.size (Lib.byteCells acc') W') (h2 : Below w.heap.size W W') (h3 : Lib.OthersKept 5 (some w.heap.size) W W') : SW w W' kb kar acc' := by
  obtain ⟨fz, k2⟩ := h.kd
  exact ⟨h1, ⟨fz, h3 kb _ k2 (by simpa using h.ne) (by intro c fz e; cases e)⟩, h.ne, h.bel.trans h2⟩
theorem SW.ub {w W : World} {kb : Nat} {kar : Array Value} {acc : List UInt8} (h : SW w W kb kar acc) : w.heap.size < W.heap.size := by
  rcases h.bd with ⟨_, v, k, _⟩ | ⟨_, v, k, _⟩ <;> exact lt_of_heap k
theorem sw_start {w w1 : World} {kar : Array Value} (hb : Below (w.alloc (.cells #[.pointer none, .slice none 0 0] 56)).heap.size (w.alloc (.cells #[.pointer none, .slice none 0 0] 56)) w1) : SW w (w1.alloc (.cells kar 59)) w1.heap.size kar [] := by
  have h0 : Lib.IsBuilder 56 5 w.heap.size w.heap.size (Lib.byteCells []) (w.alloc (.cells #[.pointer none, .slice none 0 0] 56)) := .inl ⟨Nat.le_refl _, _, heap_new _ _, ⟨by simp [Lib.byteCells], Or.inl ⟨rfl, by simp [Lib.byteCells]⟩⟩, by intro e; cases e⟩
  have hs := hb.size
  simp at hs
  refine ⟨isb_below (isb_below h0 hb) ((Below.refl _ _).alloc (Nat.le_refl _) _), ⟨_, heap_new _ _⟩, by omega, below_alloc (below_on (below_alloc (Below.refl _ _) _) hb) _⟩
/-- line, over a text under way. -/
theorem sw_line {w W : World} {kb : Nat} {kar : Array Value} {acc : List UInt8} (h : SW w W kb kar acc) (F : List UInt8) (ws : List (List UInt8)) (g c : Nat) (hw : WordsIn W g ws) (hne : g ≠ w.heap.size) (hc : ws.length ≤ c) (hn : ws.length ≤ 3) (hlen : acc.length + (lineW F ws).length ≤ 140737488355328) :
    Calls Tryd.prog 19 #[.pointer (some ⟨w.heap.size, 0, none⟩), .string (bs F), .slice (some ⟨g, 0, none⟩) ws.length c] W fun e w' => e = .returned (.tuple #[]) ∧ SW w w' kb kar (acc ++ lineW F ws) ∧ Lib.OthersKept 5 (some w.heap.size) W w' := by
  refine (line_any w.heap.size w.heap.size g c acc F ws W h.bd hw hne (Nat.le_of_lt h.ub) hc hlen hn).mono ?_
  rintro e w' ⟨rfl, h1, h2, h3⟩
  exact ⟨rfl, h.put h1 h2 h3, h3⟩
/-- The words of a line that was just laid. -/
theorem words1 (W : World) (x : List UInt8) : WordsIn (W.alloc (.cells #[.string (bs x)] 9)) W.heap.size [x] := ⟨_, heap_new _ _⟩
theorem words2 (W : World) (x y : List UInt8) : WordsIn (W.alloc (.cells #[.string (bs x), .string (bs y)] 9)) W.heap.size [x, y] := ⟨_, heap_new _ _⟩
theorem words3 (W : World) (x y z : List UInt8) : WordsIn (W.alloc (.cells #[.string (bs x), .string (bs y), .string (bs z)] 9)) W.heap.size [x, y, z] := ⟨_, heap_new _ _⟩
theorem sw_line1 {w W : World} {kb : Nat} {kar : Array Value} {acc : List UInt8} (h : SW w W kb kar acc) (F x : List UInt8) (hlen : acc.length + (lineW F [x]).length ≤ 140737488355328) :
    Calls Tryd.prog 19 #[.pointer (some ⟨w.heap.size, 0, none⟩), .string (bs F), .slice (some ⟨W.heap.size, 0, none⟩) 1 1] (W.alloc (.cells #[.string (bs x)] 9)) fun e w' => e = .returned (.tuple #[]) ∧ SW w w' kb kar (acc ++ lineW F [x]) ∧ Lib.OthersKept 5 (some w.heap.size) W w' :=
  (sw_line (h.on (below_alloc (Below.refl _ _) _)) F [x] W.heap.size 1 (words1 W x) (by have := h.ub; omega) (by simp) (by simp) hlen).mono fun e w' ⟨h1, h2, h3⟩ => ⟨h1, h2, ((Lib.OthersKept.refl _ _ W).alloc _).trans h3⟩
theorem sw_line2 {w W : World} {kb : Nat} {kar : Array Value} {acc : List UInt8} (h : SW w W kb kar acc) (F x y : List UInt8) (hlen : acc.length + (lineW F [x, y]).length ≤ 140737488355328) :
    Calls Tryd.prog 19 #[.pointer (some ⟨w.heap.size, 0, none⟩), .string (bs F), .slice (some ⟨W.heap.size, 0, none⟩) 2 2] (W.alloc (.cells #[.string (bs x), .string (bs y)] 9)) fun e w' => e = .returned (.tuple #[]) ∧ SW w w' kb kar (acc ++ lineW F [x, y]) ∧ Lib.OthersKept 5 (some w.heap.size) W w' :=
  (sw_line (h.on (below_alloc (Below.refl _ _) _)) F [x, y] W.heap.size 2 (words2 W x y) (by have := h.ub; omega) (by simp) (by simp) hlen).mono fun e w' ⟨h1, h2, h3⟩ => ⟨h1, h2, ((Lib.OthersKept.refl _ _ W).alloc _).trans h3⟩
theorem sw_line3 {w W : World} {kb : Nat} {kar : Array Value} {acc : List UInt8} (h : SW w W kb kar acc) (F x y z : List UInt8) (hlen : acc.length + (lineW F [x, y, z]).length ≤ 140737488355328) :
    Calls Tryd.prog 19 #[.pointer (some ⟨w.heap.size, 0, none⟩), .string (bs F), .slice (some ⟨W.heap.size, 0, none⟩) 3 3] (W.alloc (.cells #[.string (bs x), .string (bs y), .string (bs z)] 9)) fun e w' => e = .returned (.tuple #[]) ∧ SW w w' kb kar (acc ++ lineW F [x, y, z]) ∧ Lib.OthersKept 5 (some w.heap.size) W w' :=
  (sw_line (h.on (below_alloc (Below.refl _ _) _)) F [x, y, z] W.heap.size 3 (words3 W x y z) (by have := h.ub; omega) (by simp) (by simp) hlen).mono fun e w' ⟨h1, h2, h3⟩ => ⟨h1, h2, ((Lib.OthersKept.refl _ _ W).alloc _).trans h3⟩
theorem sw_string {w W : World} {kb : Nat} {kar : Array Value} {acc : List UInt8} (h : SW w W kb kar acc) : Calls Tryd.prog 23 #[.pointer (some ⟨w.heap.size, 0, none⟩)] W fun e w' => e = .returned (.string (bs acc)) ∧ Below w.heap.size w w' := by
  refine (Tryd.Builder_String_any _ _ acc W h.bd (Nat.le_of_lt h.ub)).mono ?_
  rintro e w' ⟨rfl, h2⟩
  exact ⟨rfl, h.bel.trans h2⟩
theorem sw_pow {w W : World} (hp : Pow w) (h : Below w.heap.size w W) : Pow W := Lib.tabBelow_of_tabIs hp W h
theorem kept_cell {W W' : World} {b x t j : Nat} {ar : Array Value} {u : Value} (hk : Lib.OthersKept 5 (some b) W W') (hh : ∃ fz, W.heap[x]? = some (.cells ar t fz)) (ht : t ≠ 5) (hx : x ≠ b) (hu : ar[j]? = some u) : W'.cell? ⟨x, j, none⟩ = some u := by
  obtain ⟨fz, hh⟩ := hh
  exact cell_of (hk x _ hh (by simpa using hx) (by intro c fz e; cases e; exact ht rfl)) hu
theorem mdec {i n : Nat} (h : i < n) : n - (RowKit.intOf (.int .i64 ((i : Int) + 1))).toNat < n - (RowKit.intOf (.int .i64 (i : Int))).toNat := by simp [RowKit.intOf]; omega
end Go.Proofs.YtmejgjhijdcahaaDoor
