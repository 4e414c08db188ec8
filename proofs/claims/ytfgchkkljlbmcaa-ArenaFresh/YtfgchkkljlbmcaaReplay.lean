/- Replay. -/
import Derived.Test.YtfgchkkljlbmcaaEqual
import Derived.Test.YtfgchkkljlbmcaaStopsHelp
namespace Go.Proofs.Ytfgchkkljlbmcaa
open Go.RowKit Go.Lib Go.MuLone

/-- A log made again: the first that is not as it says, and the cells ahead of it. -/
def replay (cs : List Int) : List Acc → Nat → Int × List Int
  | [], _ => (-1, cs)
  | a :: r, i =>
    if 0 ≤ a.cell ∧ a.cell < cs.length then
      if (known a.kind && accEq (carry a (nth cs a.cell.toNat)) a) = true then replay (cs.set a.cell.toNat (carry a (nth cs a.cell.toNat)).left) r (i + 1) else (i, cs)
    else (i, cs)

theorem logCells_get : ∀ (l : List Acc) (k j : Nat) (a : Acc) (v : Value), l[k]? = some a → a.arr[j]? = some v → (logCells l)[k * 8 + j]? = some v
  | [], k, j, a, v, h, _ => by simp at h
  | b :: l, 0, j, a, v, h, hv => by
    simp at h
    subst h
    have hj : j < 8 := by have := (Array.getElem?_eq_some_iff.1 hv).1; simpa [Acc.arr] using this
    simp only [logCells, List.flatMap_cons, Nat.zero_mul, Nat.zero_add]
    rw [List.getElem?_append_left (by simpa [Acc.arr] using hj)]
    simpa using hv
  | b :: l, k + 1, j, a, v, h, hv => by
    have ih := logCells_get l k j a v (by simpa using h) hv
    simp only [logCells, List.flatMap_cons] at *
    rw [List.getElem?_append_right (by simp [Acc.arr]; omega)]
    have e : (k + 1) * 8 + j - b.arr.toList.length = k * 8 + j := by simp [Acc.arr]; omega
    rw [e]
    exact ih

/-- What the cut around the making of an access leaves. -/
structure CutIs (W wx : World) (m : Acc) (M : Nat) : Prop where
  hM : W.heap.size ≤ M
  hm : wx.heap[M]? = some (.cells #[.int .i64 m.who, .int .i64 m.kind, .int .i64 m.cell, .int .u64 m.want, .int .u64 m.put, .int .u64 m.seen, .int .u64 m.left, .bool m.ok] 31 (0, 0))
  hb : Below W.heap.size W wx
theorem cut_one {W w1 : World} {m : Acc} (hb : Below W.drew.heap.size W.drew w1) :
    CutIs W (w1.alloc (.cells #[.int .i64 m.who, .int .i64 m.kind, .int .i64 m.cell, .int .u64 m.want, .int .u64 m.put, .int .u64 m.seen, .int .u64 m.left, .bool m.ok] 31)) m w1.heap.size := by
  have hb' : Below W.heap.size W w1 := (Below.refl _ W).drew.trans hb
  exact ⟨hb'.size, heap_new _ _, hb'.alloc hb'.size _⟩
theorem cut_two {W w1 : World} {m : Acc} {o : Obj} {n : Nat} (hs : W.heap.size = n) (hb : Below (W.alloc o).drew.heap.size (W.alloc o).drew w1) (hz : w1.heap[n]? = some (.cells Acc.zero.arr 31 (0, 0))) :
    CutIs W ((((((((w1.setCell ⟨n, 0, none⟩ (.int .i64 m.who)).setCell ⟨n, 1, none⟩ (.int .i64 m.kind)).setCell ⟨n, 2, none⟩ (.int .i64 m.cell)).setCell ⟨n, 3, none⟩ (.int .u64 m.want)).setCell ⟨n, 4, none⟩ (.int .u64 m.put)).setCell ⟨n, 5, none⟩ (.int .u64 m.seen)).setCell ⟨n, 6, none⟩ (.int .u64 m.left)).setCell ⟨n, 7, none⟩ (.bool m.ok)) m n := by
  subst hs
  have hb' : Below W.heap.size W w1 := (((Below.refl _ W).alloc (Nat.le_refl _) o).drew).trans (hb.mono (by simp))
  refine ⟨Nat.le_refl _, ?_, ?_⟩
  · have h := heap_set (i := 7) (heap_set (i := 6) (heap_set (i := 5) (heap_set (i := 4) (heap_set (i := 3) (heap_set (i := 2) (heap_set (i := 1) (heap_set (i := 0) hz (.int .i64 m.who)) (.int .i64 m.kind)) (.int .i64 m.cell)) (.int .u64 m.want)) (.int .u64 m.put)) (.int .u64 m.seen)) (.int .u64 m.left)) (.bool m.ok)
    rw [h]
    simp [Acc.zero, Acc.arr]
  · exact (((((((hb'.setCell (p := ⟨W.heap.size, 0, none⟩) (Nat.le_refl _) _).setCell (p := ⟨W.heap.size, 1, none⟩) (Nat.le_refl _) _).setCell (p := ⟨W.heap.size, 2, none⟩) (Nat.le_refl _) _).setCell (p := ⟨W.heap.size, 3, none⟩) (Nat.le_refl _) _).setCell (p := ⟨W.heap.size, 4, none⟩) (Nat.le_refl _) _).setCell (p := ⟨W.heap.size, 5, none⟩) (Nat.le_refl _) _).setCell (p := ⟨W.heap.size, 6, none⟩) (Nat.le_refl _) _).setCell (p := ⟨W.heap.size, 7, none⟩) (Nat.le_refl _) _

theorem carry_a (a m : Acc) (seen : Int) (w : World) (hm : m = carry a seen) :
    Calls Try.prog 42 #[.agg #[.int .i64 a.who, .int .i64 a.kind, .int .i64 a.cell, .int .u64 a.want, .int .u64 a.put, .int .u64 a.seen, .int .u64 a.left, .bool a.ok], .int .u64 seen] w fun r w' =>
      r = .returned (.tuple #[.agg #[.int .i64 m.who, .int .i64 m.kind, .int .i64 m.cell, .int .u64 m.want, .int .u64 m.put, .int .u64 m.seen, .int .u64 m.left, .bool m.ok], .bool (known a.kind)]) ∧ Below w.heap.size w w' := by
  subst hm
  exact carry_any a seen w

/-- Where the log that is handed in lies. -/
theorem AccsAt.cell {w : World} {v : Value} {l : List Acc} (h : AccsAt w v l) : ∃ ao c, v = .slice ao l.length c ∧ ∀ k, k < l.length → ∃ g o a, ao = some ⟨g, o, none⟩ ∧ g < w.heap.size ∧ l[k]? = some a ∧ l.length ≤ c ∧ c ≤ 9223372036854775807 ∧
    ∀ (j : Nat) (x : Value), a.arr[j]? = some x → w.cell? ⟨g, o + k * 8 + j, none⟩ = some x := by
  rcases h with ⟨rfl, rfl⟩ | ⟨g, o, c, rfl, hg, hl, hm, hc⟩
  · exact ⟨none, 0, rfl, fun i hi => absurd hi (Nat.not_lt_zero _)⟩
  · refine ⟨_, c, rfl, fun k hk => ⟨g, o, l[k], rfl, hg, List.getElem?_eq_getElem hk, hl, hm, fun j x hx => ?_⟩⟩
    rw [Nat.add_assoc]
    exact hc _ x (logCells_get l k j _ x (List.getElem?_eq_getElem hk) hx)
theorem AccsAt.below {w w' : World} {v : Value} {l : List Acc} (h : AccsAt w v l) (k : Below w.heap.size w w') : AccsAt w' v l := by
  rcases h with h | ⟨g, o, c, e, hg, hl, hm, hc⟩
  · exact .inl h
  · exact .inr ⟨g, o, c, e, Nat.lt_of_lt_of_le hg k.size, hl, hm, fun i x hx => (k.cell (p := ⟨g, o + i, none⟩) hg).trans (hc i x hx)⟩
theorem WordsAt.below {w w' : World} {v : Value} {l : List Int} (h : WordsAt w v l) (k : Below w.heap.size w w') : WordsAt w' v l := by
  rcases h with h | ⟨g, o, c, e, hg, hl, hm, hc⟩
  · exact .inl h
  · exact .inr ⟨g, o, c, e, Nat.lt_of_lt_of_le hg k.size, hl, hm, fun i hi => (k.cell (p := ⟨g, o + i, none⟩) hg).trans (hc i hi)⟩
end Go.Proofs.Ytfgchkkljlbmcaa
