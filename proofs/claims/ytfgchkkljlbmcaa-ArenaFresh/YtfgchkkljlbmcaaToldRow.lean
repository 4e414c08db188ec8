/- One access of a log written over. -/
import Derived.Test.YtfgchkkljlbmcaaToldHelp
namespace Go.Proofs.Ytfgchkkljlbmcaa
open Go.RowKit Go.Lib Go.MuLone

theorem logCells_idx : ∀ (l : List Acc) (k j : Nat), j < 8 → (logCells l)[k * 8 + j]? = (l[k]?).bind fun a => a.arr[j]?
  | [], k, j, _ => by simp [logCells]
  | b :: l, 0, j, hj => by
    simp only [logCells, List.flatMap_cons, Nat.zero_mul, Nat.zero_add]
    rw [List.getElem?_append_left (by simpa [Acc.arr] using hj)]
    simp
  | b :: l, k + 1, j, hj => by
    have ih := logCells_idx l k j hj
    simp only [logCells, List.flatMap_cons] at *
    rw [List.getElem?_append_right (by simp [Acc.arr]; omega)]
    have e : (k + 1) * 8 + j - b.arr.toList.length = k * 8 + j := by simp [Acc.arr]; omega
    rw [e, ih]
    simp

/-- Eight cells written. -/
def put8 (w : World) (g i : Nat) (x : Acc) : World :=
  (((((((w.setCell ⟨g, i * 8, none⟩ (.int .i64 x.who)).setCell ⟨g, i * 8 + 1, none⟩ (.int .i64 x.kind)).setCell ⟨g, i * 8 + 2, none⟩ (.int .i64 x.cell)).setCell ⟨g, i * 8 + 3, none⟩ (.int .u64 x.want)).setCell ⟨g, i * 8 + 4, none⟩ (.int .u64 x.put)).setCell ⟨g, i * 8 + 5, none⟩ (.int .u64 x.seen)).setCell ⟨g, i * 8 + 6, none⟩ (.int .u64 x.left)).setCell ⟨g, i * 8 + 7, none⟩ (.bool x.ok)
theorem put8_else {w : World} {g i : Nat} {x : Acc} {k : Nat} {o : Obj} (h : w.heap[k]? = some o) (hk : k ≠ g) : (put8 w g i x).heap[k]? = some o :=
  heap_else (heap_else (heap_else (heap_else (heap_else (heap_else (heap_else (heap_else h hk _) hk _) hk _) hk _) hk _) hk _) hk _) hk _
theorem put8_below {B : Nat} {a w : World} {g i : Nat} {x : Acc} (h : Below B a w) (hg : B ≤ g) : Below B a (put8 w g i x) :=
  (((((((h.setCell (p := ⟨g, i * 8, none⟩) hg _).setCell (p := ⟨g, i * 8 + 1, none⟩) hg _).setCell (p := ⟨g, i * 8 + 2, none⟩) hg _).setCell (p := ⟨g, i * 8 + 3, none⟩) hg _).setCell (p := ⟨g, i * 8 + 4, none⟩) hg _).setCell (p := ⟨g, i * 8 + 5, none⟩) hg _).setCell (p := ⟨g, i * 8 + 6, none⟩) hg _).setCell (p := ⟨g, i * 8 + 7, none⟩) hg _
theorem far1 {w : World} {g a m : Nat} {v : Value} (h : a ≠ m) : (w.setCell ⟨g, a, none⟩ v).cell? ⟨g, m, none⟩ = w.cell? ⟨g, m, none⟩ :=
  World.cell?_setCell_other _ _ _ _ (fun e => h (Addr.mk.inj e).2.1)
theorem put8_far {w : World} {g i m : Nat} {x : Acc} (h : m < i * 8 ∨ i * 8 + 8 ≤ m) : (put8 w g i x).cell? ⟨g, m, none⟩ = w.cell? ⟨g, m, none⟩ := by
  unfold put8
  rw [far1 (by omega), far1 (by omega), far1 (by omega), far1 (by omega), far1 (by omega), far1 (by omega), far1 (by omega), far1 (by omega)]
theorem put8_near {w : World} {g i n : Nat} {x : Acc} {cur : Array Value} (h : w.heap[g]? = some (.cells cur 31 (0, 0))) (hn : n * 8 ≤ cur.size) (hi : i < n) (j : Nat) (v : Value) (hv : x.arr[j]? = some v) : (put8 w g i x).cell? ⟨g, i * 8 + j, none⟩ = some v := by
  have ex : ∀ m, m < cur.size → ∃ u, w.cell? ⟨g, m, none⟩ = some u := fun m hm => ⟨cur[m], cell_of h (Array.getElem?_eq_getElem hm)⟩
  unfold put8
  match j, hv with
  | 0, hv =>
    cases hv
    obtain ⟨u, hu⟩ := ex (i * 8) (by omega)
    rw [Nat.add_zero]
    rw [far1 (by omega), far1 (by omega), far1 (by omega), far1 (by omega), far1 (by omega), far1 (by omega), far1 (by omega)]
    refine World.cell?_setCell_same (u := u) _ _ _ ?_
    exact hu
  | 1, hv =>
    cases hv
    obtain ⟨u, hu⟩ := ex (i * 8 + 1) (by omega)
    rw [far1 (by omega), far1 (by omega), far1 (by omega), far1 (by omega), far1 (by omega), far1 (by omega)]
    refine World.cell?_setCell_same (u := u) _ _ _ ?_
    rw [far1 (by omega)]
    exact hu
  | 2, hv =>
    cases hv
    obtain ⟨u, hu⟩ := ex (i * 8 + 2) (by omega)
    rw [far1 (by omega), far1 (by omega), far1 (by omega), far1 (by omega), far1 (by omega)]
    refine World.cell?_setCell_same (u := u) _ _ _ ?_
    rw [far1 (by omega), far1 (by omega)]
    exact hu
  | 3, hv =>
    cases hv
    obtain ⟨u, hu⟩ := ex (i * 8 + 3) (by omega)
    rw [far1 (by omega), far1 (by omega), far1 (by omega), far1 (by omega)]
    refine World.cell?_setCell_same (u := u) _ _ _ ?_
    rw [far1 (by omega), far1 (by omega), far1 (by omega)]
    exact hu
  | 4, hv =>
    cases hv
    obtain ⟨u, hu⟩ := ex (i * 8 + 4) (by omega)
    rw [far1 (by omega), far1 (by omega), far1 (by omega)]
    refine World.cell?_setCell_same (u := u) _ _ _ ?_
    rw [far1 (by omega), far1 (by omega), far1 (by omega), far1 (by omega)]
    exact hu
  | 5, hv =>
    cases hv
    obtain ⟨u, hu⟩ := ex (i * 8 + 5) (by omega)
    rw [far1 (by omega), far1 (by omega)]
    refine World.cell?_setCell_same (u := u) _ _ _ ?_
    rw [far1 (by omega), far1 (by omega), far1 (by omega), far1 (by omega), far1 (by omega)]
    exact hu
  | 6, hv =>
    cases hv
    obtain ⟨u, hu⟩ := ex (i * 8 + 6) (by omega)
    rw [far1 (by omega)]
    refine World.cell?_setCell_same (u := u) _ _ _ ?_
    rw [far1 (by omega), far1 (by omega), far1 (by omega), far1 (by omega), far1 (by omega), far1 (by omega)]
    exact hu
  | 7, hv =>
    cases hv
    obtain ⟨u, hu⟩ := ex (i * 8 + 7) (by omega)
    refine World.cell?_setCell_same (u := u) _ _ _ ?_
    rw [far1 (by omega), far1 (by omega), far1 (by omega), far1 (by omega), far1 (by omega), far1 (by omega), far1 (by omega)]
    exact hu
  | j + 8, hv => simp [Acc.arr] at hv

/-- The row of a log: its block, its cells. -/
theorem log_row {w : World} {B : Nat} {v : Value} {log : List Acc} (h : w.ownsRow B 31 8 v log.length (logCells log)) (hn : log.length ≠ 0) :
    ∃ g c cur, v = .slice (some ⟨g, 0, none⟩) log.length c ∧ log.length ≤ c ∧ c ≤ 9223372036854775807 ∧ B ≤ g ∧ w.heap[g]? = some (.cells cur 31 (0, 0)) ∧ log.length * 8 ≤ cur.size ∧
      ∀ (k j : Nat) (a : Acc) (x : Value), log[k]? = some a → a.arr[j]? = some x → w.cell? ⟨g, k * 8 + j, none⟩ = some x := by
  obtain ⟨hl, ⟨_, h0⟩ | ⟨g, cap, cur, rfl, hg, hh, hnc, hcm, hcur, htake⟩⟩ := h
  · exact absurd h0 hn
  · refine ⟨g, cap, cur, rfl, hnc, hcm, hg, hh, by rw [hcur]; omega, fun k j a x hk hj => cell_of hh ?_⟩
    have e := logCells_get log k j a x hk hj
    have hlt := (List.getElem?_eq_some_iff.1 e).1
    rw [← htake, List.getElem?_take_of_lt (by omega)] at e
    simpa using e
theorem accs_put {w : World} {B : Nat} {g c i : Nat} {log : List Acc} {x : Acc} (h : w.ownsRow B 31 8 (.slice (some ⟨g, 0, none⟩) log.length c) log.length (logCells log)) (hi : i < log.length) :
    AccsAt (put8 w g i x) (.slice (some ⟨g, 0, none⟩) log.length c) (log.set i x) := by
  obtain ⟨g', c', cur, he, hlc, hcm, hB, hh, hsz, hcell⟩ := log_row h (by omega)
  simp only [Value.slice.injEq, Option.some.injEq, Addr.mk.injEq] at he
  obtain ⟨⟨rfl, _⟩, _, rfl⟩ := he
  refine .inr ⟨g, 0, c, by simp, ?_, by simpa using hlc, hcm, ?_⟩
  · have := lt_of_heap hh
    simpa [put8, World.setCell] using this
  · intro m v hv
    rw [Nat.zero_add]
    have hj : m % 8 < 8 := Nat.mod_lt _ (by decide)
    have hm : m = m / 8 * 8 + m % 8 := by omega
    rw [hm] at hv ⊢
    rw [logCells_idx _ _ _ hj, List.getElem?_set] at hv
    split at hv
    · rename_i hki
      simp only [Option.bind_some] at hv
      rw [← hki]
      exact put8_near hh hsz hi _ v hv
    · rename_i hki
      obtain ⟨a, ha, hav⟩ := Option.bind_eq_some_iff.1 hv
      rw [put8_far (by omega)]
      exact hcell _ _ a v ha hav
end Go.Proofs.Ytfgchkkljlbmcaa
