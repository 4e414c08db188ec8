/- Lists of lists, copies with marks behind them, and what Check answers, plainly. -/
import Derived.Test.YtlncjbjdjciphaaTR
namespace Go.Proofs.Ytlncjbjdjciphaa
open Go.RowKit Go.Lib
set_option linter.unusedVariables false
set_option linter.unusedSimpArgs false
theorem arr_at (w : World) (A : Array Value) (t : TypeId) : ∀ j u, A.toList[j]? = some u → (w.alloc (.cells A t)).cell? ((⟨w.heap.size, 0, none⟩ : Addr).add j) = some u := by
  intro j u hj
  have hh : (w.alloc (.cells A t)).heap[w.heap.size]? = some (.cells A t (0, 0)) := heap_new _ _
  rw [Addr.add_lit, Nat.zero_add]
  exact cell_of hh (by simpa using hj)
def iA (x : Int) : Array Value := #[.int .i64 x]
theorem iA_size (x : Int) : (iA x).size = 1 := rfl
theorem info3i : (Try.prog.info? 3).map (fun i => (i.zero, i.size, i.bytes)) = some (some (.int .i64 0), 1, 8) := by kernel_rfl
theorem info23i : (Try.prog.info? 23).map (fun i => (i.zero, i.size, i.bytes)) = some (some (.slice none 0 0), 1, 24) := by kernel_rfl
theorem info42i : (Try.prog.info? 47).map (fun i => (i.zero, i.size, i.bytes)) = some (some (.int .u64 0), 1, 8) := by kernel_rfl
theorem RowAt.iat {w : World} {v : Value} {l : List Int} (h : RowAt .i64 w v l) : RAt iA 1 w v l := by
  have h0 := h
  obtain ⟨ao, cap, rfl, h1, h2, h3, h4⟩ := h
  refine ⟨ao, cap, rfl, h1, h2, fun i x hi => ?_⟩
  have hlt := (List.getElem?_eq_some_iff.1 hi).1
  obtain ⟨g, o, c, he, hc, hq⟩ := h0.cellAt i hlt
  simp only [Value.slice.injEq, true_and] at he
  obtain ⟨rfl, _⟩ := he
  refine ⟨g, o, rfl, block_of_cell hq, fun j u hu => ?_⟩
  have hj : j = 0 := by have := (Array.getElem?_eq_some_iff.1 hu).1; simp [iA] at this; omega
  subst hj
  simp [iA] at hu
  subst hu
  rw [Nat.mul_one, Nat.add_zero, hq]
  simp [at_, hi]
theorem iA_cells : ∀ R : List Int, rCells iA R = R.map (Value.int .i64)
  | [] => rfl
  | a :: l => by rw [rCells_cons, iA_cells l]; rfl
/-- A copy of ints in a row of its own, three marks behind it. -/
def M3 (w : World) (g c : Nat) (l : List Int) : Prop := ∃ fr, ROwn iA 1 3 w fr (.slice (some ⟨g, 0, none⟩) (l.length + 3) c) (l ++ [71, 72, 73])
theorem M3.lt {w : World} {g c : Nat} {l : List Int} (h : M3 w g c l) : g < w.heap.size := by
  obtain ⟨fr, h⟩ := h
  exact (h.lt g rfl).2
theorem M3.stay {w w' : World} {g c : Nat} {l : List Int} (h : M3 w g c l) (hb : w'.heap[g]? = w.heap[g]?) : M3 w' g c l := by
  obtain ⟨fr, h⟩ := h
  exact ⟨fr, h.stay fun k e => by cases e; exact hb⟩
theorem M3.below {w w' : World} {g c : Nat} {l : List Int} (h : M3 w g c l) (hb : Below w.heap.size w w') : M3 w' g c l := h.stay (hb.block g h.lt)
theorem M3.typ {w : World} {g c : Nat} {l : List Int} (h : M3 w g c l) : ∃ cs, w.heap[g]? = some (.cells cs 3 (0, 0)) := by
  obtain ⟨fr, h⟩ := h
  rcases h.cut with ⟨he, _⟩ | ⟨g', cap, cur, he, hg, hb, _⟩
  · cases he
  · simp only [Value.slice.injEq, Option.some.injEq, Addr.mk.injEq] at he
    obtain ⟨⟨rfl, _⟩, _⟩ := he
    exact ⟨cur, hb⟩
theorem M3.cap {w : World} {g c : Nat} {l : List Int} (h : M3 w g c l) : l.length + 3 ≤ c ∧ c ≤ 9223372036854775807 := by
  obtain ⟨fr, h⟩ := h
  obtain ⟨g', cap', he, h1, h2, h3, h4⟩ := ROwn.spot h (by simp)
  simp only [Value.slice.injEq, Option.some.injEq, Addr.mk.injEq] at he
  obtain ⟨⟨rfl, _⟩, _, rfl⟩ := he
  exact ⟨by simpa using h1, h2⟩
theorem M3.at {w : World} {g c : Nat} {l : List Int} (h : M3 w g c l) (i : Nat) (hi : i < l.length + 3) : w.cell? ⟨g, i, none⟩ = some (.int .i64 (at_ (l ++ [71, 72, 73]) i)) := by
  obtain ⟨fr, h⟩ := h
  have hk : (l ++ [71, 72, 73])[i]? = some (at_ (l ++ [71, 72, 73]) i) := by
    have : i < (l ++ [71, 72, 73]).length := by simp; omega
    simp only [at_, List.getElem?_eq_getElem this, Option.getD_some]
  have := ROwn.cell iA_size h hk 0 _ rfl
  rw [Nat.mul_one, Nat.add_zero] at this
  exact this
theorem M3.row {w : World} {g c : Nat} {l : List Int} (h : M3 w g c l) : RowAt .i64 w (.slice (some ⟨g, 0, none⟩) l.length c) l := by
  refine ⟨_, c, rfl, by have := h.cap; omega, h.cap.2, fun e => (by cases e), fun a ha i hi => ?_⟩
  cases ha
  rw [Addr.add_lit, Nat.zero_add, h.at i (by omega)]
  simp [at_, List.getElem?_append_left hi, hi]
theorem m3_made {w w1 w2 : World} {v1 v2 : Value} {l : List Int} {p : Obj} (h1 : w1.ownsRow w.heap.size 3 1 v1 l.length (rCells iA l)) (hb1 : Below w.heap.size w w1)
    (hown : w2.ownsRow w.heap.size 3 1 v2 (l.length + 3) (rCells iA l ++ [.int .i64 71, .int .i64 72, .int .i64 73])) (hgrow : (w1.alloc p).grownBy w2 v1.ownBlock) :
    ∃ g c, v2 = .slice (some ⟨g, 0, none⟩) (l.length + 3) c ∧ w.heap.size ≤ g ∧ M3 w2 g c l ∧ Below w.heap.size w w2 := by
  have hL : Below w.heap.size w w2 := (hb1.alloc hb1.size _).grown hgrow (by have := hb1.size; simp; omega) (fun j hj => (World.ownsRow.lt h1 j hj).1)
  have h3 : ROwn iA 1 3 w2 w.heap.size v2 (l ++ [71, 72, 73]) := by
    unfold ROwn
    rw [rCells_append, List.length_append]
    exact hown
  obtain ⟨g, cap, rfl, _, _, hge, _⟩ := h3.spot (by simp)
  have e : (l ++ [71, 72, 73]).length = l.length + 3 := by simp
  rw [e] at h3 ⊢
  exact ⟨g, cap, rfl, hge, ⟨_, h3⟩, hL⟩
/-- The i-th list. -/
def rowL (ls : List (List Int)) (i : Nat) : List Int := ls[i]?.getD []
/-- Lists of ints that lie at any address. -/
def RwsI (w : World) (v : Value) (ls : List (List Int)) : Prop := ∃ ao c, v = .slice ao ls.length c ∧ ls.length ≤ c ∧ c ≤ 9223372036854775807 ∧ ∀ i, i < ls.length → ∃ g o vi, ao = some ⟨g, o, none⟩ ∧ g < w.heap.size ∧ w.cell? ⟨g, o + i, none⟩ = some vi ∧ RowAt .i64 w vi (rowL ls i)
theorem RwsI.below {w w' : World} {v : Value} {ls : List (List Int)} (h : RwsI w v ls) (hb : Below w.heap.size w w') : RwsI w' v ls := by
  obtain ⟨ao, c, rfl, h1, h2, h3⟩ := h
  refine ⟨ao, c, rfl, h1, h2, fun i hi => ?_⟩
  obtain ⟨g, o, vi, e1, e2, e3, e4⟩ := h3 i hi
  exact ⟨g, o, vi, e1, Nat.lt_of_lt_of_le e2 hb.size, (below_cell hb e2).trans e3, e4.below hb⟩
theorem RwsI.shape {w : World} {v : Value} {ls : List (List Int)} (h : RwsI w v ls) : ∃ ao c, v = .slice ao ls.length c ∧ ls.length ≤ c := by
  obtain ⟨ao, c, h, h1, _⟩ := h; exact ⟨ao, c, h, h1⟩
theorem RwsI.at {w : World} {ao : Option Addr} {n c : Nat} {ls : List (List Int)} (h : RwsI w (.slice ao n c) ls) (i : Nat) (hi : i < ls.length) : ∃ g o io ic, ao = some ⟨g, o, none⟩ ∧ g < w.heap.size ∧ w.cell? ⟨g, o + i, none⟩ = some (.slice io (rowL ls i).length ic) ∧ RowAt .i64 w (.slice io (rowL ls i).length ic) (rowL ls i) := by
  obtain ⟨ao', c', he, h1, h2, h3⟩ := h
  simp only [Value.slice.injEq] at he
  obtain ⟨rfl, _, _⟩ := he
  obtain ⟨g, o, vi, e1, e2, e3, e4⟩ := h3 i hi
  obtain ⟨io, ic, rfl⟩ := e4.shape
  exact ⟨g, o, io, ic, e1, e2, e3, e4⟩
/-- Is each a number below n? -/
def okN (n : Nat) (l : List Int) : Prop := ∀ k, k < l.length → 0 ≤ at_ l k ∧ at_ l k < (n : Int)
/-- How many there are in the first i lists. -/
def tot (ls : List (List Int)) : Nat → Nat
  | 0 => 0
  | i + 1 => tot ls i + (rowL ls i).length
/-- What Check answers. -/
def CkA (ls : List (List Int)) (aw : List Int) (b r : Int) : Prop :=
  ((ls.length < 1 ∨ 64 < ls.length) ∧ r = 22) ∨ (1 ≤ ls.length ∧ ls.length ≤ 64 ∧
    (((∃ i, i < ls.length ∧ ¬ okN ls.length (rowL ls i)) ∧ r = 30) ∨ ((∀ i, i < ls.length → okN ls.length (rowL ls i)) ∧
      ((10000 < tot ls ls.length ∧ r = 22) ∨ (¬ 10000 < tot ls ls.length ∧
        ((¬ okN ls.length aw ∧ r = 30) ∨ (okN ls.length aw ∧ ((b < 0 ∧ r = 60) ∨ (¬ b < 0 ∧ r = 0)))))))))
theorem CkA.one {ls : List (List Int)} {aw : List Int} {b r r' : Int} (h : CkA ls aw b r) (k : CkA ls aw b r') : r = r' := by
  rcases h with ⟨h1, rfl⟩ | ⟨h1, h1', ⟨⟨i, h2, h3⟩, rfl⟩ | ⟨h2, ⟨h3, rfl⟩ | ⟨h3, ⟨h4, rfl⟩ | ⟨h4, ⟨h5, rfl⟩ | ⟨h5, rfl⟩⟩⟩⟩⟩ <;>
  rcases k with ⟨k1, rfl⟩ | ⟨k1, k1', ⟨⟨j, k2, k3⟩, rfl⟩ | ⟨k2, ⟨k3, rfl⟩ | ⟨k3, ⟨k4, rfl⟩ | ⟨k4, ⟨k5, rfl⟩ | ⟨k5, rfl⟩⟩⟩⟩⟩ <;>
  first | rfl | (exfalso; omega) | exact (h3 (k2 _ h2)).elim | exact (k3 (h2 _ k2)).elim | exact (h3 k3).elim | exact (k3 h3).elim | exact (h4 k4).elim | exact (k4 h4).elim | exact (h5 k5).elim | exact (k5 h5).elim
def CkP (ls : List (List Int)) (aw : List Int) (b : Int) (w : World) (x : Ending) (w' : World) : Prop := Below w.heap.size w w' ∧ ∃ r, x = .returned (.int .i64 r) ∧ CkA ls aw b r
theorem CkP.made {ls : List (List Int)} {aw : List Int} {b r : Int} {w w' : World} {x : Ending} (hb : Below w.heap.size w w') (hx : x = .returned (.int .i64 r)) (h : CkA ls aw b r) : CkP ls aw b w x w' := ⟨hb, r, hx, h⟩
/-- The bounds of what came in. -/
structure Bnd (ls : List (List Int)) (aw : List Int) : Prop where
  n : ls.length ≤ 5864062014634
  r : ∀ i, (rowL ls i).length ≤ 17592186043904
  a : aw.length ≤ 17592186043904
end Go.Proofs.Ytlncjbjdjciphaa
