/- A graph that comes in, as it is read. -/
import Derived.Test.YtmagigmcbegmiaaCheck
import Derived.Deep.Slices
import Derived.SizedLaws
import Derived.ProofKit
import Derived.OpenShut
namespace Go.Proofs.Ytmagigmcbegmiaa
open Go.ChangeShapes Go.WideShapes Go.ChangeAt Go.RowKit Go.Deep

section
variable {H : Type} {enc : TypeId × Value → H} {w : World} {base : Nat} {held : Bool} {fuel : Nat} {cs : List Value} {y : DataW H × List MemPlace}

theorem open_row {t e : TypeId} {k : IntKind} (ht : Try.prog.underlying t = some (.slice e)) (he : Try.prog.underlying e = some (.int k)) (hc : Try.prog.cellsOf e = 1)
    (h : DataW.trod enc Try.prog w 0 (fun _ => true) held fuel t cs = some y) :
    ∃ v xs, cs = [v] ∧ RowAt k w v xs ∧ (∀ n ∈ xs, (Lit.int k n).wf = true) ∧ ∀ M, (∀ n ∈ (y.1).weights Try.prog t, n ≤ M) → xs.length * Try.prog.bytesOf e ≤ M := by
  rcases open_ints ht he hc h with ⟨hcs, hy⟩ | ⟨a, len, cap, zs, hcs, _, hl, hm, hz, hy, hcell, hwz⟩
  · exact ⟨_, [], hcs, ⟨none, 0, rfl, by simp, by omega, (fun _ => rfl), (fun a ha => by cases ha)⟩, by simp, fun M _ => by simp⟩
  · simp only [if_true] at hz
    have hlen : (zs.take len).length = len := by rw [List.length_take]; omega
    refine ⟨_, zs.take len, hcs, ⟨some a, cap, by rw [hlen], by omega, hm, (fun e => by cases e), ?_⟩, fun n hn => hwz n (List.mem_of_mem_take hn), ?_⟩
    · intro b hb i hi
      cases hb
      rw [hlen] at hi
      rw [hcell i (by omega)]
      simp [List.getD, List.getElem?_take_of_lt hi]
    · intro M hM
      have h1 := hM ((zs.take len).length * Try.prog.bytesOf e + (zs.drop len).length * Try.prog.bytesOf e) (by
        rw [hy]
        simp only [DataW.weights, ht, lits, List.length_map, List.mem_cons]
        left
        rw [Nat.add_mul])
      omega

theorem one_int {t : TypeId} {k : IntKind} {z : Option (DataW H × List MemPlace)} {o : Nat} (ht : Try.prog.underlying t = some (.int k)) (hc : Try.prog.cellsOf t = 1) (hy : z.isSome = true)
    (h : DataW.trod enc Try.prog w base (fun _ => true) held fuel t ((cs.drop o).take (Try.prog.cellsOf t)) = z) : ∃ n, cs[o]? = some (.int k n) ∧ (Lit.int k n).wf = true := by
  obtain ⟨q, rfl⟩ := Option.isSome_iff_exists.1 hy
  rw [hc] at h
  obtain ⟨n, e, _, hw⟩ := DataW.trod_int ht h
  refine ⟨n, ?_, hw⟩
  have e2 : ((cs.drop o).take 1)[0]? = some (.int k n) := by rw [e]; rfl
  rw [List.getElem?_take_of_lt (by omega), List.getElem?_drop] at e2
  simpa using e2

theorem one_row {t e : TypeId} {k : IntKind} {z : Option (DataW H × List MemPlace)} {o : Nat} (ht : Try.prog.underlying t = some (.slice e)) (he : Try.prog.underlying e = some (.int k)) (hc : Try.prog.cellsOf e = 1) (hc1 : Try.prog.cellsOf t = 1) (hy : z.isSome = true)
    (h : DataW.trod enc Try.prog w 0 (fun _ => true) held fuel t ((cs.drop o).take (Try.prog.cellsOf t)) = z) :
    ∃ v xs q, cs[o]? = some v ∧ z = some q ∧ RowAt k w v xs ∧ (∀ n ∈ xs, (Lit.int k n).wf = true) ∧ ∀ M, (∀ n ∈ (q.1).weights Try.prog t, n ≤ M) → xs.length * Try.prog.bytesOf e ≤ M := by
  obtain ⟨q, rfl⟩ := Option.isSome_iff_exists.1 hy
  rw [hc1] at h
  obtain ⟨v, xs, e1, hr, hw, hM⟩ := open_row ht he hc h
  refine ⟨v, xs, q, ?_, rfl, hr, hw, hM⟩
  have e2 : ((cs.drop o).take 1)[0]? = some v := by rw [e1]; rfl
  rw [List.getElem?_take_of_lt (by omega), List.getElem?_drop] at e2
  simpa using e2
end
theorem Try.c3 : Try.prog.cellsOf 3 = 1 := by kernel_rfl
theorem Try.c22 : Try.prog.cellsOf 22 = 1 := by kernel_rfl
theorem Try.c23 : Try.prog.cellsOf 23 = 1 := by kernel_rfl
theorem Try.c48 : Try.prog.cellsOf 48 = 1 := by kernel_rfl
theorem Try.c25 : Try.prog.cellsOf 25 = 4 := by kernel_rfl
theorem Try.b3 : Try.prog.bytesOf 3 = 8 := by kernel_rfl
theorem Try.b48 : Try.prog.bytesOf 48 = 8 := by kernel_rfl
theorem list4 {l : List Value} {a b c d : Value} (h : l.length = 4) (h0 : l[0]? = some a) (h1 : l[1]? = some b) (h2 : l[2]? = some c) (h3 : l[3]? = some d) : l = [a, b, c, d] := by
  match l, h with
  | [x, y, z, u], _ => simp at h0 h1 h2 h3; subst h0 h1 h2 h3; rfl

set_option maxRecDepth 100000 in
theorem open_graph {H : Type} {enc : TypeId × Value → H} {base : Nat} {held : Bool} {W : World} {v : Value} {d : DataW H} {p : List MemPlace} (hv : Value.okWide Try.prog W .any base 25 v) (h : DataW.Trod enc Try.prog W 0 (fun _ => true) held 25 v d p)
    (hsz : ∀ n ∈ d.weights Try.prog 25, n ≤ reachBytes) :
    ∃ N va vb vc st to wt, v = gAgg N va vb vc ∧ GIs W N va vb vc st to wt ∧ (Lit.int .i64 N).wf = true ∧ st.length * 8 ≤ 140737488351232 ∧ to.length * 8 ≤ 140737488351232 ∧ wt.length * 8 ≤ 140737488351232 := by
  obtain ⟨cs, rfl, hcs⟩ := okWide_struct Try.underlying25 hv
  obtain ⟨fuel, hf⟩ := h
  obtain ⟨xs, n, _, hx, hlen, hxs, hel⟩ := DataW.trod_struct Try.underlying25 hf
  rw [Try.c25] at hlen
  have hxx : ∀ i, i < 4 → (xs[i]?).isSome = true := fun i hi => by rw [List.getElem?_eq_getElem (show i < xs.length by rw [hxs]; exact hi)]; rfl
  obtain ⟨N, h0, w0⟩ := one_int Try.underlying3 Try.c3 (hxx 0 (by omega)) (hel 0 _ rfl)
  obtain ⟨va, st, q1, h1, e1, r1, _, m1⟩ := one_row Try.underlying22 Try.underlying3 Try.c3 Try.c22 (hxx 1 (by omega)) (hel 1 _ rfl)
  obtain ⟨vb, to, q2, h2, e2, r2, _, m2⟩ := one_row Try.underlying22 Try.underlying3 Try.c3 Try.c22 (hxx 2 (by omega)) (hel 2 _ rfl)
  obtain ⟨vc, wt, q3, h3, e3, r3, _, m3⟩ := one_row Try.underlying23 Try.underlying48 Try.c48 Try.c23 (hxx 3 (by omega)) (hel 3 _ rfl)
  have hl := list4 hlen h0 h1 h2 h3
  simp only [Prod.mk.injEq] at hx
  have hw : ∀ (i : Nat) (t : TypeId) (q : DataW H × List MemPlace), ([3, 22, 22, 23] : List TypeId)[i]? = some t → xs[i]? = some q → ∀ k ∈ (q.1).weights Try.prog t, k ≤ reachBytes := by
    intro i t q ht hq k hk
    refine hsz k ?_
    rw [hx.1]
    simp only [DataW.weights, Try.underlying25]
    refine DataW.weights_mem_each (j := i) (t := t) (d := q.1) ?_ ?_ k hk
    · exact ht
    · rw [List.getElem?_map, hq]; rfl
  have b1 := m1 reachBytes (hw 1 22 q1 rfl e1)
  have b2 := m2 reachBytes (hw 2 22 q2 rfl e2)
  have b3 := m3 reachBytes (hw 3 23 q3 rfl e3)
  rw [Try.b3] at b1 b2
  rw [Try.b48] at b3
  simp only [reachBytes] at b1 b2 b3
  refine ⟨N, va, vb, vc, st, to, wt, ?_, ⟨r1, r2, r3⟩, w0, by omega, by omega, by omega⟩
  unfold gAgg
  congr 1
  have : cs.toList = [.int .i64 N, va, vb, vc] := by simpa [Value.cells] using hl
  rw [← Array.toList_inj, this]
end Go.Proofs.Ytmagigmcbegmiaa
