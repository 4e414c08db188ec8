import Derived.Test.YtiohimbifjlfdaaRo
import Derived.Test.YtiohimbifjlfdaaKr
/- A row of bools under way; how many are false. -/
namespace Go.Proofs.Ytiohimbifjlfdaa
open Go.RowKit Go.Lib
set_option linter.unusedVariables false
set_option linter.unusedSimpArgs false
/-- Has, under way. -/
structure X0 (w wr : World) (gb : Array Value) (C n : Nat) (K : Nat → Bool) : Prop where
  bel : Below w.heap.size w wr
  box : wr.heap[w.heap.size]? = some (.cells gb 28 (0, 0))
  car : BArr wr C (btab n K)
  wC : w.heap.size < C
theorem X0.put {w wr : World} {gb : Array Value} {C n : Nat} {K : Nat → Bool} (h : X0 w wr gb C n K) (i : Nat) (b : Bool) : X0 w (wr.setCell ⟨C, i, none⟩ (.bool b)) gb C n (fun v => if v = i then b else K v) := by
  have h1 := h.wC
  have hc : Chg (fun k => k = C) wr (wr.setCell ⟨C, i, none⟩ (.bool b)) := (Chg.refl (fun k => k = C) wr).setCell (p := ⟨C, i, none⟩) rfl _
  exact ⟨Chg.below h.bel hc (fun k hk => by omega) h.bel.size, hc.heap h.box (by omega), h.car.put i b, h1⟩
/-- How many cells of a block are false. -/
def offs (w : World) (g : Nat) : Nat := match w.heap[g]? with
  | some (.cells a _ _) => a.toList.countP (fun v => match v with | .bool b => !b | _ => false)
  | _ => 0
theorem offs_of {w : World} {g n : Nat} {K : Nat → Bool} (h : BArr w g (btab n K)) : offs w g = (List.range n).countP (fun x => !K x) := by
  unfold BArr at h
  unfold offs
  rw [h]
  simp only [bCells, btab, List.map_map, List.countP_map]
  rfl
theorem off_less {n a : Nat} {K : Nat → Bool} (ha : a < n) (hK : K a = false) : (List.range n).countP (fun x => !(if x = a then true else K x)) < (List.range n).countP (fun x => !K x) := by
  induction n with
  | zero => omega
  | succ n ih =>
    rw [List.range_succ, List.countP_append, List.countP_append, List.countP_singleton, List.countP_singleton]
    by_cases e : a = n
    · subst e
      have h1 : (List.range a).countP (fun x => !(if x = a then true else K x)) = (List.range a).countP (fun x => !K x) := by
        apply List.countP_congr
        intro x hx
        have := List.mem_range.1 hx
        rw [if_neg (by omega)]
      rw [h1]
      simp [hK]
    · have := ih (by omega)
      rw [if_neg (show ¬ n = a by omega)]
      omega
end Go.Proofs.Ytiohimbifjlfdaa

/- The document's reached. -/
namespace Go.Proofs.Ytiohimbifjlfdaa
open Go.RowKit Go.Lib
set_option linter.unusedVariables false
set_option linter.unusedSimpArgs false
structure RK (w wr : World) (gb : Array Value) (C n : Nat) (K : Nat → Bool) (cv : Value) (l : List Int) : Prop where
  bel : Below w.heap.size w wr
  box : wr.heap[w.heap.size]? = some (.cells gb 28 (0, 0))
  car : BArr wr C (btab n K)
  own : wr.ownsRow (C + 1) 3 1 cv l.length (ivs l)
  wC : w.heap.size < C
section
variable {w wr : World} {gb : Array Value} {C n : Nat} {K : Nat → Bool} {cv : Value} {l : List Int}
theorem RK.own_lt (h : RK w wr gb C n K cv l) : ∀ k, cv.ownBlock = some k → C + 1 ≤ k ∧ k < wr.heap.size := fun k hk => World.ownsRow.lt h.own k hk
theorem RK.setC (h : RK w wr gb C n K cv l) (i : Nat) (b : Bool) : RK w (wr.setCell ⟨C, i, none⟩ (.bool b)) gb C n (fun v => if v = i then b else K v) cv l := by
  have hwC := h.wC
  have hc : Chg (fun k => k = C) wr (wr.setCell ⟨C, i, none⟩ (.bool b)) := (Chg.refl (fun k => k = C) wr).setCell (p := ⟨C, i, none⟩) rfl _
  exact ⟨Chg.below h.bel hc (fun k hk => by omega) h.bel.size, hc.heap h.box (by omega), h.car.put i b, own_chg h.own hc (fun g hg => by have := h.own_lt g hg; omega), hwC⟩
theorem RK.came (h : RK w wr gb C n K cv l) {o : Obj} {x : Int} {g cap : Nat} {w2 : World} (hown : w2.ownsRow (C + 1) 3 1 (.slice (some ⟨g, 0, none⟩) (l.length + 1) cap) (l.length + 1) (ivs l ++ [.int .i64 x])) (hgrow : (wr.alloc o).grownBy w2 cv.ownBlock) :
    RK w w2 gb C n K (.slice (some ⟨g, 0, none⟩) (l ++ [x]).length cap) (l ++ [x]) := by
  have hwC := h.wC
  have hc : Chg (fun k => cv.ownBlock = some k) wr w2 := ((Chg.refl _ wr).alloc o).grown hgrow (fun k hk => .inl hk)
  have hno : ∀ k, k ≤ C → ¬ cv.ownBlock = some k := fun k hk h3 => by have := h.own_lt k h3; omega
  refine ⟨Chg.below h.bel hc (fun k hk => by have := h.own_lt k hk; omega) h.bel.size, hc.heap h.box (hno _ (by omega)), hc.heap h.car (hno _ (Nat.le_refl _)), ?_, hwC⟩
  rw [List.length_append, List.length_singleton, show ivs (l ++ [x]) = ivs l ++ [.int .i64 x] by simp [ivs]]
  exact hown
theorem own_pop {B g k cap : Nat} {u : Int} (h : wr.ownsRow B 3 1 (.slice (some ⟨g, 0, none⟩) (k + 1) cap) (k + 1) (ivs (l ++ [u]))) (hk : l.length = k) : wr.ownsRow B 3 1 (.slice (some ⟨g, 0, none⟩) k cap) k (ivs l) := by
  obtain ⟨h0, ⟨he, _⟩ | ⟨g', cap', cur, he, hg, hb, h1, h2, h3, h4⟩⟩ := h
  · simp at he
  · simp only [Value.slice.injEq, Option.some.injEq, Addr.mk.injEq, and_true] at he
    obtain ⟨rfl, _, rfl⟩ := he
    refine ⟨by simp [ivs, hk], .inr ⟨g, cap, cur, rfl, hg, hb, by omega, h2, h3, ?_⟩⟩
    have := congrArg (List.take k) h4
    rw [List.take_take, show min k ((k + 1) * 1) = k by omega] at this
    rw [Nat.mul_one, this]
    simp only [ivs, List.map_append]
    rw [List.take_append_of_le_length (by simp; omega), List.take_of_length_le (by simp; omega)]
end
end Go.Proofs.Ytiohimbifjlfdaa
