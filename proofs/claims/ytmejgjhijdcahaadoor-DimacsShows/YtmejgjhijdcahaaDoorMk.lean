/- Lists with two marks behind them; both Shows of a list answer alike. -/
import Derived.Test.YtmejgjhijdcahaaDoorSe
namespace Go.Proofs.YtmejgjhijdcahaaDoor
open Go.Shelf Go.RowKit Go.Sort Go.Lib
set_option linter.unusedVariables false
set_option linter.unusedSimpArgs false
theorem Tryd.info30 : (Tryd.prog.info? 30).map (fun i => (i.zero, i.size, i.bytes)) = some (some (.agg #[.int .i64 0, .int .i64 0, .int .u64 0]), 3, 24) := by kernel_rfl
theorem Tryd.info32 : (Tryd.prog.info? 32).map (fun i => (i.zero, i.size, i.bytes)) = some (some (.agg #[.int .i64 0, .int .i64 0]), 2, 16) := by kernel_rfl
theorem Tryd.info34 : (Tryd.prog.info? 34).map (fun i => (i.zero, i.size, i.bytes)) = some (some (.agg #[.int .i64 0, .int .i64 0]), 2, 16) := by kernel_rfl
theorem Tryd.info3' : (Tryd.prog.info? 3).map (fun i => (i.zero, i.size, i.bytes)) = some (some (.int .i64 0), 1, 8) := by kernel_rfl
theorem arr_at (w : World) (A : Array Value) (t : TypeId) : ∀ j u, A.toList[j]? = some u → (w.alloc (.cells A t)).cell? ((⟨w.heap.size, 0, none⟩ : Addr).add j) = some u := by
  intro j u hj
  have hh : (w.alloc (.cells A t)).heap[w.heap.size]? = some (.cells A t (0, 0)) := heap_new _ _
  rw [Addr.add_lit, Nat.zero_add]
  exact cell_of hh (by simpa using hj)
section
variable {α : Type} {A : α → Array Value} {c : Nat} {t : TypeId}
def M2 (A : α → Array Value) (c : Nat) (t : TypeId) (w : World) (fr g k : Nat) (l : List α) (x y : α) : Prop := ROwn A c t w fr (.slice (some ⟨g, 0, none⟩) (l.length + 2) k) (l ++ [x, y])
theorem M2.below {w w' : World} {fr g k : Nat} {l : List α} {x y : α} (h : M2 A c t w fr g k l x y) (hb : Below w.heap.size w w') : M2 A c t w' fr g k l x y := ROwn.below h hb
theorem M2.cap {w : World} {fr g k : Nat} {l : List α} {x y : α} (h : M2 A c t w fr g k l x y) : l.length + 2 ≤ k ∧ k ≤ 9223372036854775807 ∧ fr ≤ g ∧ g < w.heap.size := by
  obtain ⟨g', cap, he, h1, h2, h3, h4⟩ := ROwn.spot h (by simp)
  simp only [Value.slice.injEq, Option.some.injEq, Addr.mk.injEq] at he
  obtain ⟨⟨rfl, _⟩, _, rfl⟩ := he
  exact ⟨by simpa using h1, h2, h3, h4⟩
theorem M2.rat (hA : ∀ x, (A x).size = c) {w : World} {fr g k : Nat} {l : List α} {x y : α} (h : M2 A c t w fr g k l x y) : RAt A c w (.slice (some ⟨g, 0, none⟩) l.length k) l := by
  obtain ⟨h1, h2, _, h4⟩ := h.cap
  refine ⟨_, _, rfl, by omega, h2, fun i x hi => ⟨g, 0, rfl, h4, fun j u hu => ?_⟩⟩
  rw [Nat.zero_add]
  refine ROwn.cell hA h ?_ j u hu
  rw [List.getElem?_append_left (List.getElem?_eq_some_iff.1 hi).1]
  exact hi
theorem M2.mark1 (hA : ∀ x, (A x).size = c) {w : World} {fr g k : Nat} {l : List α} {x y : α} (h : M2 A c t w fr g k l x y) (j : Nat) (u : Value) (hu : (A x)[j]? = some u) : w.cell? ⟨g, l.length * c + j, none⟩ = some u :=
  ROwn.cell hA h (k := l.length) (x := x) (by simp) j u hu
theorem M2.mark2 (hA : ∀ x, (A x).size = c) {w : World} {fr g k : Nat} {l : List α} {x y : α} (h : M2 A c t w fr g k l x y) (j : Nat) (u : Value) (hu : (A y)[j]? = some u) : w.cell? ⟨g, (l.length + 1) * c + j, none⟩ = some u :=
  ROwn.cell hA h (k := l.length + 1) (x := y) (by simp) j u hu
theorem m2_made {w w1 w2 : World} {v1 v2 : Value} {l : List α} {x y : α} {p : Obj} (h1 : w1.ownsRow w.heap.size t c v1 l.length (rCells A l)) (hb1 : Below w.heap.size w w1)
    (hown : w2.ownsRow w.heap.size t c v2 (l.length + 2) (rCells A l ++ ((A x).toList ++ (A y).toList))) (hgrow : (w1.alloc p).grownBy w2 v1.ownBlock) :
    ∃ g k, v2 = .slice (some ⟨g, 0, none⟩) (l.length + 2) k ∧ M2 A c t w2 w.heap.size g k l x y ∧ Below w.heap.size w w2 := by
  have hL : Below w.heap.size w w2 := (hb1.alloc hb1.size _).grown hgrow (by have := hb1.size; simp; omega) (fun j hj => (World.ownsRow.lt h1 j hj).1)
  have h3 : ROwn A c t w2 w.heap.size v2 (l ++ [x, y]) := by
    unfold ROwn
    rw [rCells_append, List.length_append]
    have : rCells A [x, y] = (A x).toList ++ (A y).toList := by simp [rCells]
    rw [this]
    exact hown
  obtain ⟨g, cap, rfl, _⟩ := h3.spot (by simp)
  have e : (l ++ [x, y]).length = l.length + 2 := by simp
  rw [e] at h3 ⊢
  exact ⟨g, cap, rfl, h3, hL⟩
end
theorem bothE (N : Int) (l : List Eg) (hra : Weighed l) : ∃ (S : ByteArray) (E : Int), (∀ v W, RAt Eg.arr 3 W v l → Pow W → Calls Tryd.prog 4 #[.agg #[.int .i64 N, v]] W fun e w' => e = .returned (.tuple #[.string S, .int .i64 E]) ∧ Below W.heap.size W w') ∧ (∀ v W, RAt Eg.arr 3 W v l → Calls Tryd.prog 5 #[.agg #[.int .i64 N, v]] W fun e w' => e = .returned (.tuple #[.string S, .int .i64 E]) ∧ Below W.heap.size W w') := by
  by_cases hb : N < 0 ∨ 1048576 < N ∨ 4194304 < l.length
  · exact ⟨_, _, fun v W h hp => showE_big N v l W h hb, fun v W h => refE_big N v l W h hb⟩
  · obtain ⟨M, rfl⟩ := Int.eq_ofNat_of_zero_le (show 0 ≤ N by omega)
    exact ⟨_, _, fun v W h hp => showE_any M (by omega) v l W h (by omega) hra hp, fun v W h => refE_any M (by omega) v l W h (by omega) hra⟩
theorem bothP (l : List Pt) (hra : Ranged l) : ∃ (S : ByteArray) (E : Int), (∀ v W, RAt Pt.arr 2 W v l → Pow W → Calls Tryd.prog 7 #[v] W fun e w' => e = .returned (.tuple #[.string S, .int .i64 E]) ∧ Below W.heap.size W w') ∧ (∀ v W, RAt Pt.arr 2 W v l → Calls Tryd.prog 8 #[v] W fun e w' => e = .returned (.tuple #[.string S, .int .i64 E]) ∧ Below W.heap.size W w') := by
  by_cases hb : 1048576 < l.length
  · exact ⟨_, _, fun v W h hp => showP_big v l W h hb, fun v W h => refP_big v l W h hb⟩
  · exact ⟨_, _, fun v W h hp => showP_any v l W h (by omega) hra hp, fun v W h => refP_any v l W h (by omega) hra⟩
theorem bothS (l : List Int) : ∃ (S : ByteArray) (E : Int), (∀ v W, RAt iArr 1 W v l → Pow W → Calls Tryd.prog 9 #[v] W fun e w' => e = .returned (.tuple #[.string S, .int .i64 E]) ∧ Below W.heap.size W w') ∧ (∀ v W, RAt iArr 1 W v l → Calls Tryd.prog 10 #[v] W fun e w' => e = .returned (.tuple #[.string S, .int .i64 E]) ∧ Below W.heap.size W w') := by
  by_cases hb : 4194304 < l.length
  · exact ⟨_, _, fun v W h hp => (showSs_big v l W h hb).mono fun e w' ⟨h1, h2⟩ => ⟨h1, h2 ▸ Below.refl _ _⟩, fun v W h => (refSs_big v l W h hb).mono fun e w' ⟨h1, h2⟩ => ⟨h1, h2 ▸ Below.refl _ _⟩⟩
  · exact ⟨_, _, fun v W h hp => showSs_any v l W h (by omega) hp, fun v W h => (refSs_any v l W h (by omega)).mono fun e w' ⟨h1, h2⟩ => ⟨h1, h2 ▸ Below.refl _ _⟩⟩
theorem bothQ (l : List Pt) : ∃ (S : ByteArray) (E : Int), (∀ v W, RAt Pt.arr 2 W v l → Pow W → Calls Tryd.prog 11 #[v] W fun e w' => e = .returned (.tuple #[.string S, .int .i64 E]) ∧ Below W.heap.size W w') ∧ (∀ v W, RAt Pt.arr 2 W v l → Calls Tryd.prog 12 #[v] W fun e w' => e = .returned (.tuple #[.string S, .int .i64 E]) ∧ Below W.heap.size W w') := by
  by_cases hb : 4194304 < l.length
  · exact ⟨_, _, fun v W h hp => showQ_big v l W h hb, fun v W h => refQ_big v l W h hb⟩
  · exact ⟨_, _, fun v W h hp => showQ_any v l W h (by omega) hp, fun v W h => refQ_any v l W h (by omega)⟩
theorem no_any (x : Int) (w : World) : Calls Tryd.prog 6 #[.int .i64 x] w fun e w' => e = .returned (.int .i64 x) ∧ w' = w := by
  go_enter Tryd.func6, Tryd.ntmps6
  go_wp2
  go_ret
  exact ⟨rfl, rfl⟩
end Go.Proofs.YtmejgjhijdcahaaDoor
