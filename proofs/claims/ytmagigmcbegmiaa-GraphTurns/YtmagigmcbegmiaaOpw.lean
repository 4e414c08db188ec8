/- opens a graph that comes in, its weights told. -/
import Derived.Test.YtmagigmcbegmiaaOpen
namespace Go.Proofs.Ytmagigmcbegmiaa
open Go.ChangeShapes Go.WideShapes Go.ChangeAt Go.RowKit Go.Deep


theorem words_bound {wt : List Int} (h : ∀ n ∈ wt, (Lit.int .u64 n).wf = true) (e : Nat) : 0 ≤ at_ wt e ∧ at_ wt e ≤ 18446744073709551615 := by
  unfold at_
  rcases Nat.lt_or_ge e wt.length with he | he
  · rw [List.getElem?_eq_getElem he]
    have := Go.bounds_u64 (h _ (List.getElem_mem he))
    simp only [Option.getD_some]
    omega
  · rw [List.getElem?_eq_none he]; simp


theorem wt_nn {wt : List Int} (h : ∀ n ∈ wt, (Lit.int .u64 n).wf = true) : ∀ e, 0 ≤ at_ wt e := fun e => (words_bound h e).1
set_option maxRecDepth 100000 in
theorem open_graphW {H : Type} {enc : TypeId × Value → H} {base : Nat} {held : Bool} {W : World} {v : Value} {d : DataW H} {p : List MemPlace} (hv : Value.okWide Try.prog W .any base 25 v) (h : DataW.Trod enc Try.prog W 0 (fun _ => true) held 25 v d p)
    (hsz : ∀ n ∈ d.weights Try.prog 25, n ≤ reachBytes) :
    ∃ N va vb vc st tl wt, v = gAgg N va vb vc ∧ GIs W N va vb vc st tl wt ∧ (Lit.int .i64 N).wf = true ∧ st.length * 8 ≤ 140737488351232 ∧ tl.length * 8 ≤ 140737488351232 ∧ wt.length * 8 ≤ 140737488351232 ∧ (∀ n ∈ wt, (Lit.int .u64 n).wf = true) := by
  obtain ⟨cs, rfl, hcs⟩ := okWide_struct Try.underlying25 hv
  obtain ⟨fuel, hf⟩ := h
  obtain ⟨xs, n, _, hx, hlen, hxs, hel⟩ := DataW.trod_struct Try.underlying25 hf
  rw [Try.c25] at hlen
  have hxx : ∀ i, i < 4 → (xs[i]?).isSome = true := fun i hi => by rw [List.getElem?_eq_getElem (show i < xs.length by rw [hxs]; exact hi)]; rfl
  obtain ⟨N, h0, w0⟩ := one_int Try.underlying3 Try.c3 (hxx 0 (by omega)) (hel 0 _ rfl)
  obtain ⟨va, st, q1, h1, e1, r1, _, m1⟩ := one_row Try.underlying22 Try.underlying3 Try.c3 Try.c22 (hxx 1 (by omega)) (hel 1 _ rfl)
  obtain ⟨vb, tl, q2, h2, e2, r2, _, m2⟩ := one_row Try.underlying22 Try.underlying3 Try.c3 Try.c22 (hxx 2 (by omega)) (hel 2 _ rfl)
  obtain ⟨vc, wt, q3, h3, e3, r3, z3, m3⟩ := one_row Try.underlying23 Try.underlying48 Try.c48 Try.c23 (hxx 3 (by omega)) (hel 3 _ rfl)
  have hl := list4 hlen h0 h1 h2 h3
  simp only [Prod.mk.injEq] at hx
  have hw : ∀ (i : Nat) (t : TypeId) (q : DataW H × List MemPlace), ([3, 22, 22, 23] : List TypeId)[i]? = some t → xs[i]? = some q → ∀ k ∈ (q.1).weights Try.prog t, k ≤ reachBytes := by
    intro i t q ht hq k hk
    refine hsz k ?_
    rw [hx.1]
    simp only [DataW.weights, Try.underlying25]
    refine DataW.weights_mem_each (j := i) (t := t) (d := q.1) ?_ ?_ k hk
    · exact ht
    · rw [List.getElem?_map, hq]; rfl
  have b1 := m1 reachBytes (hw 1 22 q1 rfl e1)
  have b2 := m2 reachBytes (hw 2 22 q2 rfl e2)
  have b3 := m3 reachBytes (hw 3 23 q3 rfl e3)
  rw [Try.b3] at b1 b2
  rw [Try.b48] at b3
  simp only [reachBytes] at b1 b2 b3
  refine ⟨N, va, vb, vc, st, tl, wt, ?_, ⟨r1, r2, r3⟩, w0, by omega, by omega, by omega, z3⟩
  unfold gAgg
  congr 1
  have : cs.toList = [.int .i64 N, va, vb, vc] := by simpa [Value.cells] using hl
  rw [← Array.toList_inj, this]
end Go.Proofs.Ytmagigmcbegmiaa
