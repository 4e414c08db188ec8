/- OctetBack: what the second loop reads. -/
import Derived.Test.YtpfpelhhebafeaaDoorDone
namespace Go.Proofs.YtpfpelhhebafeaaDoor
open Go.RowKit Go.Lib
set_option linter.unusedVariables false

theorem opCells_at {D : List OpR} {j : Nat} {o : OpR} (h : D[j]? = some o) (k : Nat) (hk : k < 5) : (opCells D)[j * 5 + k]? = o.cells[k]? := by
  induction D generalizing j with
  | nil => simp at h
  | cons x D ih =>
    have e : opCells (x :: D) = x.cells ++ opCells D := rfl
    have hl : x.cells.length = 5 := rfl
    rw [e]
    cases j with
    | zero =>
      simp only [List.getElem?_cons_zero, Option.some.injEq] at h
      subst h
      rw [List.getElem?_append_left (by rw [hl]; omega), Nat.zero_mul, Nat.zero_add]
    | succ j =>
      rw [List.getElem?_append_right (by rw [hl]; omega), hl, show (j + 1) * 5 + k - 5 = j * 5 + k by omega]
      exact ih (by simpa using h)
theorem DoneAt.cells {w : World} {B n c : Nat} {a : Option Addr} {D : List OpR} (h : DoneAt w B (.slice a n c) D) {j : Nat} {o : OpR} (ho : D[j]? = some o) :
    ∃ g, a = some ⟨g, 0, none⟩ ∧ w.cell? ⟨g, j * 5, none⟩ = some (.int .i64 o.kind) ∧ w.cell? ⟨g, j * 5 + 1, none⟩ = some (.bool o.sec) ∧ w.cell? ⟨g, j * 5 + 2, none⟩ = some (.int .u64 (o.v : Int)) ∧ w.cell? ⟨g, j * 5 + 3, none⟩ = some (.int .i64 o.n) ∧ w.cell? ⟨g, j * 5 + 4, none⟩ = some o.bv := by
  have hjl : j < D.length := (List.getElem?_eq_some_iff.1 ho).1
  obtain ⟨h1, ⟨he, h0⟩ | ⟨g, cap, cur, he, hg, hh, hnc, hcm, hcur, htake⟩⟩ := h
  · omega
  · simp only [Value.slice.injEq] at he
    obtain ⟨rfl, _, rfl⟩ := he
    have key : ∀ k, k < 5 → ∀ v, o.cells[k]? = some v → w.cell? ⟨g, j * 5 + k, none⟩ = some v := by
      intro k hk v hv
      refine cell_of hh ?_
      have e1 : (cur.toList.take (D.length * 5))[j * 5 + k]? = some v := by rw [htake, opCells_at ho k hk]; exact hv
      rw [List.getElem?_take_of_lt (by omega)] at e1
      simpa using e1
    exact ⟨g, rfl, key 0 (by omega) _ rfl, key 1 (by omega) _ rfl, key 2 (by omega) _ rfl, key 3 (by omega) _ rfl, key 4 (by omega) _ rfl⟩
theorem DoneAt.shape {w : World} {B n c : Nat} {a : Option Addr} {D : List OpR} (h : DoneAt w B (.slice a n c) D) : n = D.length ∧ n ≤ c := by
  obtain ⟨h1, ⟨he, h0⟩ | ⟨g, cap, cur, he, hg, hh, hnc, hcm, hcur, htake⟩⟩ := h
  · simp only [Value.slice.injEq] at he; omega
  · simp only [Value.slice.injEq] at he; omega
theorem DoneAt.but {w w' : World} {B r : Nat} {v : Value} {D : List OpR} {bs : List Int} {p : Nat} (h : DoneAt w B v D) (hr : RdIs w r bs p) (hb : But r w w') : DoneAt w' B v D := by
  obtain ⟨h1, h2 | ⟨g, cap, cur, he, hg, hh, hrr⟩⟩ := h
  · exact ⟨h1, .inl h2⟩
  · refine ⟨h1, .inr ⟨g, cap, cur, he, hg, hb.heap hh ?_, hrr⟩⟩
    rintro rfl
    obtain ⟨_, _, hx, _⟩ := hr
    rw [hh] at hx
    cases hx
theorem WOwn.but {w w' : World} {B b r : Nat} {v : Value} {bs cs : List Int} {p : Nat} (h : WOwn w B b v bs) (hr : RdIs w r cs p) (hb : But r w w') : WOwn w' B b v bs := by
  have ne : ∀ (k : Nat) (xs : Array Value) (t : TypeId), w.heap[k]? = some (.cells xs t (0, 0)) → t ≠ 71 → k ≠ r := by
    rintro k xs t hk ht rfl
    obtain ⟨_, _, hx, _⟩ := hr
    rw [hk] at hx
    cases hx
    exact ht rfl
  obtain ⟨h1, ⟨h2, h3 | ⟨g, cap, cur, he, hg, hh, hrr⟩⟩, h4⟩ := h
  · exact ⟨hb.heap h1 (ne _ _ _ h1 (by decide)), ⟨h2, .inl h3⟩, h4⟩
  · exact ⟨hb.heap h1 (ne _ _ _ h1 (by decide)), ⟨h2, .inr ⟨g, cap, cur, he, hg, hb.heap hh (ne _ _ _ hh (by decide)), hrr⟩⟩, h4⟩
theorem split_at {S : List (List Int)} {j : Nat} {s : List Int} (h : S[j]? = some s) : S.flatten = (S.take j).flatten ++ s ++ (S.drop (j + 1)).flatten ∧ (S.take (j + 1)).flatten = (S.take j).flatten ++ s := by
  have hj : j < S.length := (List.getElem?_eq_some_iff.1 h).1
  have e1 : S.take (j + 1) = S.take j ++ [s] := by rw [List.take_add_one, h]; rfl
  refine ⟨?_, by rw [e1]; simp⟩
  conv => lhs; rw [← List.take_append_drop (j + 1) S, e1]
  simp
end Go.Proofs.YtpfpelhhebafeaaDoor
