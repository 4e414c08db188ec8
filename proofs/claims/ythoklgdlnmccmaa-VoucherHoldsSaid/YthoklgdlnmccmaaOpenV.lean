/- A voucher that comes in, as it is read. -/
import Derived.Test.YthoklgdlnmccmaaStG
namespace Go.Proofs.Ythoklgdlnmccmaa
open Go.ChangeShapes Go.WideShapes Go.ChangeAt Go.RowKit Go.Deep
set_option linter.unusedVariables false
theorem Try.c103 : Try.prog.cellsOf 103 = 3 := by kernel_rfl
theorem vlist3 {l : List Value} {a b c : Value} (h : l.length = 3) (h0 : l[0]? = some a) (h1 : l[1]? = some b) (h2 : l[2]? = some c) : l = [a, b, c] := by
  match l, h with
  | [x, y, z], _ => simp at h0 h1 h2; rw [h0, h1, h2]
set_option maxRecDepth 100000 in
theorem open_voucher {H : Type} {enc : TypeId × Value → H} {base : Nat} {held : Bool} {W : World} {v : Value} {d : DataW H} {p : List MemPlace} (hv : Value.okWide Try.prog W .any base 103 v) (h : DataW.Trod enc Try.prog W 0 (fun _ => true) held 103 v d p)
    (hsz : ∀ n ∈ d.weights Try.prog 103, n ≤ reachBytes) :
    ∃ l1 l2 l3 V Y D, v = .agg #[l1, l2, l3] ∧ RowAt .u64 W l1 V ∧ RowAt .i64 W l2 Y ∧ RowAt .i64 W l3 D ∧ V.length * 8 ≤ 140737488351232 ∧ Y.length * 8 ≤ 140737488351232 ∧ D.length * 8 ≤ 140737488351232 ∧ (∀ n ∈ V, (Lit.int .u64 n).wf = true) ∧ (∀ n ∈ D, (Lit.int .i64 n).wf = true) := by
  obtain ⟨cs, rfl, hcs⟩ := okWide_struct Try.underlying103 hv
  obtain ⟨fuel, hf⟩ := h
  obtain ⟨xs, n, _, hx, hlen, hxs, hel⟩ := DataW.trod_struct Try.underlying103 hf
  rw [Try.c103] at hlen
  have hxx : ∀ i, i < 3 → (xs[i]?).isSome = true := fun i hi => by rw [List.getElem?_eq_getElem (show i < xs.length by rw [hxs]; exact hi)]; rfl
  obtain ⟨va, V, q1, h1, e1, r1, z1, m1⟩ := one_row Try.underlying30 Try.underlying22 Try.c22 Try.c30 (hxx 0 (by omega)) (hel 0 _ rfl)
  obtain ⟨vb, Y, q2, h2, e2, r2, z2, m2⟩ := one_row Try.underlying29 Try.underlying3 Try.c3 Try.c29 (hxx 1 (by omega)) (hel 1 _ rfl)
  obtain ⟨vc, D, q3, h3, e3, r3, z3, m3⟩ := one_row Try.underlying29 Try.underlying3 Try.c3 Try.c29 (hxx 2 (by omega)) (hel 2 _ rfl)
  have hl := vlist3 hlen h1 h2 h3
  simp only [Prod.mk.injEq] at hx
  have hw : ∀ (i : Nat) (t : TypeId) (q : DataW H × List MemPlace), ([30, 29, 29] : List TypeId)[i]? = some t → xs[i]? = some q → ∀ k ∈ (q.1).weights Try.prog t, k ≤ reachBytes := by
    intro i t q ht hq k hk
    refine hsz k ?_
    rw [hx.1]
    simp only [DataW.weights, Try.underlying103]
    refine DataW.weights_mem_each (j := i) (t := t) (d := q.1) ?_ ?_ k hk
    · exact ht
    · rw [List.getElem?_map, hq]; rfl
  have b1 := m1 reachBytes (hw 0 30 q1 rfl e1)
  have b2 := m2 reachBytes (hw 1 29 q2 rfl e2)
  have b3 := m3 reachBytes (hw 2 29 q3 rfl e3)
  rw [Try.b22] at b1
  rw [Try.b3] at b2 b3
  simp only [reachBytes] at b1 b2 b3
  refine ⟨va, vb, vc, V, Y, D, ?_, r1, r2, r3, by omega, by omega, by omega, z1, z3⟩
  congr 1
  have : cs.toList = [va, vb, vc] := by simpa [Value.cells] using hl
  rw [← Array.toList_inj, this]
theorem ints_bound {D : List Int} (h : ∀ n ∈ D, (Lit.int .i64 n).wf = true) (v : Nat) : -9223372036854775808 ≤ at_ D v ∧ at_ D v ≤ 9223372036854775807 := by
  unfold at_
  rcases hd : D[v]? with _ | x
  · simp
  · have hm := List.mem_of_getElem? hd
    have := h x hm
    have b := Go.bounds_i64 this
    simp
    omega
end Go.Proofs.Ythoklgdlnmccmaa
