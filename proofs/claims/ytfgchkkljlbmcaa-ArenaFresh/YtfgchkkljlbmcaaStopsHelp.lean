/- ArenaStops: what its loops keep. -/
import Derived.Test.YtfgchkkljlbmcaaDoStop
namespace Go.Proofs.Ytfgchkkljlbmcaa
open Go.RowKit Go.Lib Go.MuLone

/-- The script that came in. -/
def Script (w : World) (ao : Option Addr) (len : Nat) (ops : Nat → Opr) : Prop :=
  ∀ k, k < len → ∃ g o, ao = some ⟨g, o, none⟩ ∧ g < w.heap.size ∧ ∀ j v, (ops k).arr[j]? = some v → w.cell? ⟨g, o + k * 9 + j, none⟩ = some v
theorem Script.below {w w' : World} {ao : Option Addr} {len : Nat} {ops : Nat → Opr} (h : Script w ao len ops) (k : Below w.heap.size w w') : Script w' ao len ops := by
  intro i hi
  obtain ⟨g, o, e, hg, hc⟩ := h i hi
  exact ⟨g, o, e, Nat.lt_of_lt_of_le hg k.size, fun j v hv => (k.cell (p := ⟨g, o + i * 9 + j, none⟩) hg).trans (hc j v hv)⟩

variable {w0 w : World} {Y b gc : Nat} {lv pv : Value} {s : Ast} {ps : List Nat} {gs : Nat → Bool}
/-- The ports' row: its cells. -/
theorem Room.cells (h : Room w0 w Y b gc lv s pv ps gs) (hn : ps ≠ []) : ∃ g c, pv = .slice (some ⟨g, 0, none⟩) ps.length c ∧ ps.length ≤ c ∧ ∀ (j p : Nat), ps[j]? = some p → w.cell? ⟨g, j, none⟩ = some (.pointer (some ⟨p, 0, none⟩)) := by
  obtain ⟨hl, ⟨_, h0⟩ | ⟨g, cap, cur, rfl, hg, hh, hnc, hcm, hcur, htake⟩⟩ := h.row
  · exact absurd (List.eq_nil_of_length_eq_zero h0) hn
  · refine ⟨g, cap, rfl, hnc, fun j p hj => cell_of hh ?_⟩
    have hlt := (List.getElem?_eq_some_iff.1 hj).1
    have e1 : (cur.toList.take (ps.length * 1))[j]? = (ptrs ps)[j]? := by rw [htake]
    rw [List.getElem?_take_of_lt (by omega)] at e1
    have e2 : cur[j]? = cur.toList[j]? := by simp
    rw [e2, e1]
    simp [ptrs, hj]

theorem Room.grant (h : Room w0 w Y b gc lv s pv ps gs) {j p : Nat} (hj : ps[j]? = some p) :
    Calls Try.prog 21 #[.pointer (some ⟨p, 0, none⟩)] w fun r w' => r = .returned (.tuple #[]) ∧ Room w0 w' Y b gc lv s pv ps (fun i => if i = j then true else gs i) := by
  refine (grant_any p Y b gc lv s j (gs j) w h.ar (h.po j p hj).1 (h.pb hj) (h.pg hj) (h.pl hj)).mono ?_
  rintro r w' ⟨hr, ha, hp, k, _⟩
  exact ⟨hr, h.turn k ha hj hp (fun i hi => by rcases hi with e | e; exact .inl e; exact .inr (.inr (.inl e)))⟩
theorem grant_fn (k : Nat) : (fun i => if i = k then true else decide (i < k)) = fun i => decide (i < k + 1) := by
  funext i
  by_cases h : i = k
  · simp [h]
  · simp [h]; omega

theorem two_boxes {w w1 : World} {a b : Obj} (h : Below ((w.alloc a).alloc b).heap.size ((w.alloc a).alloc b) w1) :
    w1.heap[w.heap.size]? = some a ∧ w1.heap[w.heap.size + 1]? = some b ∧ w.heap.size + 2 ≤ w1.heap.size ∧ Below w.heap.size w w1 := by
  have hs : ((w.alloc a).alloc b).heap.size = w.heap.size + 2 := by simp
  have h1 := heap_new (w.alloc a) b
  rw [show (w.alloc a).heap.size = w.heap.size + 1 by simp] at h1
  refine ⟨(h.block _ (by omega)).trans (heap_old (heap_new w a) b), (h.block _ (by omega)).trans h1, by have := h.size; omega, ?_⟩
  exact ((((Below.refl _ w).alloc (Nat.le_refl _) a).alloc (by simp) b)).trans (h.mono (by omega))
/-- Three cells of a box, in a later world. -/
theorem box3 {w1 w : World} {B : Nat} {x y z : Value} (hb : w1.heap[B]? = some (.cells #[x, y, z] 45 (0, 0))) (h : Below w1.heap.size w1 w) :
    w.cell? ⟨B, 0, none⟩ = some x ∧ w.cell? ⟨B, 1, none⟩ = some y ∧ w.cell? ⟨B, 2, none⟩ = some z := by
  have h1 := (h.block B (lt_of_heap hb)).trans hb
  exact ⟨cell_of h1 rfl, cell_of h1 rfl, cell_of h1 rfl⟩
def stSt (S : Ast) (cells : List Int) (a b c : Int) : Ast := { S with cells := cells, stopped := true, fw := a, fk := b, fc := c }

/-- A block of another type than the written one is as it was. -/
theorem heap_else' {w : World} {A gw q : Nat} {x : Value} {cs cur : Array Value} (hA : w.heap[A]? = some (.cells cs 47 (0, 0))) (hg : (w.setCell ⟨gw, q, none⟩ x).heap[gw]? = some (.cells cur 29 (0, 0))) :
    (w.setCell ⟨gw, q, none⟩ x).heap[A]? = some (.cells cs 47 (0, 0)) := by
  have hne : A ≠ gw := by
    rintro rfl
    rw [heap_set hA] at hg
    simp at hg
  exact heap_else hA hne x
/-- In the second loop: all is stopped; the cells are as the law's own list. -/
structure StopsIs (w1 w : World) (Y b gc : Nat) (S : Ast) (cells : List Int) (a0 a1 a2 : Int) (pv : Value) (ps : List Nat) (B : Nat) (wv : Value) : Prop where
  ex : ∃ lv, Room w1 w Y b gc lv (stSt S cells a0 a1 a2) pv ps (fun i => decide (i < 4))
  was : w.ownsRow B 29 1 wv cells.length (cells.map (Value.int .u64))
  gB : gc < B
  bB : w1.heap.size ≤ B

theorem own_set {w : World} {B gw n c : Nat} {xs : List Int} (h : w.ownsRow B 29 1 (.slice (some ⟨gw, 0, none⟩) n c) xs.length (xs.map (Value.int .u64))) (i : Nat) (x : Int) :
    (w.setCell ⟨gw, i, none⟩ (.int .u64 x)).ownsRow B 29 1 (.slice (some ⟨gw, 0, none⟩) n c) (xs.set i x).length ((xs.set i x).map (Value.int .u64)) := by
  obtain ⟨hl, ⟨h0, _⟩ | ⟨g, cap, cur, he, hg, hh, hnc, hcm, hcur, htake⟩⟩ := h
  · cases h0
  · refine ⟨by simp, .inr ⟨g, cap, cur.setIfInBounds i (.int .u64 x), by simpa using he, hg, ?_, by simpa using hnc, hcm, by simpa using hcur, ?_⟩⟩
    · simp only [Value.slice.injEq, Option.some.injEq, Addr.mk.injEq] at he
      obtain ⟨⟨rfl, _⟩, _, _⟩ := he
      exact heap_set hh _
    · simp only [Array.toList_setIfInBounds, List.take_set, List.length_set, List.map_set]
      rw [htake]
theorem own_cell {w : World} {B gw n c : Nat} {xs : List Int} (h : w.ownsRow B 29 1 (.slice (some ⟨gw, 0, none⟩) n c) xs.length (xs.map (Value.int .u64))) (i : Nat) (hi : i < xs.length) :
    (∃ v, w.cell? ⟨gw, i, none⟩ = some v) ∧ w.frozen? ⟨gw, i, none⟩ = false ∧ ∃ cur, w.heap[gw]? = some (.cells cur 29 (0, 0)) := by
  obtain ⟨hl, ⟨h0, _⟩ | ⟨g, cap, cur, he, hg, hh, hnc, hcm, hcur, htake⟩⟩ := h
  · cases h0
  · simp only [Value.slice.injEq, Option.some.injEq, Addr.mk.injEq] at he
    obtain ⟨⟨rfl, _⟩, _, _⟩ := he
    exact ⟨⟨cur[i]'(by omega), cell_of hh (Array.getElem?_eq_getElem (by omega))⟩, free_of hh i, cur, hh⟩
theorem nth_set (xs : List Int) (i : Nat) (x : Int) (hi : i < xs.length) : nth (xs.set i x) i = x := by
  simp [nth, List.getD, hi]

/-- What turns the arena's own block alone. -/
theorem StopsIs.look {w1 w w' : World} {Y b gc B gw n c : Nat} {S : Ast} {cells : List Int} {a0 a1 a2 : Int} {pv : Value} {ps : List Nat} (h : StopsIs w1 w Y b gc S cells a0 a1 a2 pv ps B (.slice (some ⟨gw, 0, none⟩) n c)) {lv : Value} (ha : AIs w' Y b gc lv (stSt S cells a0 a1 a2)) (k : Chg (fun j => j = b) w w') :
    StopsIs w1 w' Y b gc S cells a0 a1 a2 pv ps B (.slice (some ⟨gw, 0, none⟩) n c) := by
  obtain ⟨lv0, R⟩ := h.ex
  refine ⟨⟨lv, R.look k ha (fun i hi => .inl hi)⟩, ownsRow_block h.was (fun i hi => k.block i (owns_lt h.was hi).2 (fun e => ?_)), h.gB, h.bB⟩
  obtain ⟨cur, hc⟩ := own_type h.was hi
  exact ne_of_type hc R.ar.hb (by decide) e
theorem StopsIs.news {w1 w w' : World} {Y b gc B gw n c : Nat} {S : Ast} {cells : List Int} {a0 a1 a2 : Int} {pv : Value} {ps : List Nat} (h : StopsIs w1 w Y b gc S cells a0 a1 a2 pv ps B (.slice (some ⟨gw, 0, none⟩) n c)) (k : Below w.heap.size w w') : StopsIs w1 w' Y b gc S cells a0 a1 a2 pv ps B (.slice (some ⟨gw, 0, none⟩) n c) := by
  obtain ⟨lv0, R⟩ := h.ex
  exact ⟨⟨lv0, R.news k⟩, ownsRow_block h.was (fun i hi => k.block i (owns_lt h.was hi).2), h.gB, h.bB⟩
/-- A word poked into a cell and written into the list. -/
theorem StopsIs.poked {w1 w w' : World} {Y b gc B gw n c : Nat} {S : Ast} {cells : List Int} {a0 a1 a2 : Int} {pv : Value} {ps : List Nat} (h : StopsIs w1 w Y b gc S cells a0 a1 a2 pv ps B (.slice (some ⟨gw, 0, none⟩) n c)) {lv : Value} {i : Nat} {x : Int} (hi : i < cells.length)
    (ha : AIs w' Y b gc lv (stSt S (cells.set i x) a0 a1 a2)) (k : Chg (fun j => j = b ∨ j = gc) w w') :
    (∃ v, w'.cell? ⟨gw, i, none⟩ = some v) ∧ w'.frozen? ⟨gw, i, none⟩ = false ∧ gw < w'.heap.size ∧
      StopsIs w1 (w'.setCell ⟨gw, i, none⟩ (.int .u64 x)) Y b gc S (cells.set i x) a0 a1 a2 pv ps B (.slice (some ⟨gw, 0, none⟩) n c) := by
  obtain ⟨lv0, R⟩ := h.ex
  have hgw := (owns_lt h.was (k := gw) rfl)
  obtain ⟨cur, hcur⟩ := own_type h.was (k := gw) rfl
  have hgb : gw ≠ b := ne_of_type hcur R.ar.hb (by decide)
  have hgg : gw ≠ gc := by have := h.gB; omega
  have own' := ownsRow_block h.was (w' := w') (fun j hj => by
    cases hj
    exact k.block gw hgw.2 (fun e => by rcases e with e | e; exact hgb e; exact hgg e))
  obtain ⟨hc, hf, cur', hcur'⟩ := own_cell own' i hi
  refine ⟨hc, hf, lt_of_heap hcur', ?_⟩
  have R' : Room w1 w' Y b gc lv (stSt S (cells.set i x) a0 a1 a2) pv ps (fun i => decide (i < 4)) := R.look k ha (fun j hj => by rcases hj with e | e; exact .inl e; exact .inr (.inl e))
  have k2 : Chg (fun j => j = gw) w' (w'.setCell ⟨gw, i, none⟩ (.int .u64 x)) := (Chg.refl (fun j => j = gw) w').put gw i _ rfl
  have hlg : ∀ j, lv.ownBlock = some j → ¬ j = gw := fun j hj e => by
    obtain ⟨cur2, hc2⟩ := own_type R'.ar.hl hj
    exact ne_of_type hc2 hcur' (by decide) e
  have ha2 := ha.kept k2 (fun e => hgb e.symm) (fun e => hgg e.symm) hlg
  refine ⟨⟨lv, ⟨ha2, ?_, ?_, k2.below R'.bel (fun j hj => ?_) R'.bel.size, R'.b0, R'.g0⟩⟩, own_set own' i x, h.gB, h.bB⟩
  · refine ownsRow_block R'.row (fun j hj => k2.block j (owns_lt R'.row hj).2 (fun e => ?_))
    obtain ⟨cur2, hc2⟩ := own_type R'.row hj
    exact ne_of_type hc2 hcur' (by decide) e
  · intro j p hj
    exact ⟨k2.heap (R'.po j p hj).1 (fun e => ne_of_type (R'.po j p hj).1 hcur' (by decide) e), (R'.po j p hj).2⟩
  · have := h.bB; rw [hj]; omega

end Go.Proofs.Ytfgchkkljlbmcaa
