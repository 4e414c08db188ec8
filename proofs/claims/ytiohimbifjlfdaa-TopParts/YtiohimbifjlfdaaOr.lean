import Derived.Test.YtiohimbifjlfdaaCheck
import Derived.Deep.Slices
import Derived.SizedLaws
import Derived.ProofKit
import Derived.OpenShut
import Derived.Test.YtiohimbifjlfdaaGE
/- A graph that comes in, as it is read. -/
namespace Go.Proofs.Ytiohimbifjlfdaa
open Go.ChangeShapes Go.WideShapes Go.ChangeAt Go.RowKit Go.Deep
set_option linter.unusedVariables false
section
variable {H : Type} {enc : TypeId × Value → H} {w : World} {base : Nat} {held : Bool} {fuel : Nat} {cs : List Value} {y : DataW H × List MemPlace}

theorem open_row {t e : TypeId} {k : IntKind} (ht : Try.prog.underlying t = some (.slice e)) (he : Try.prog.underlying e = some (.int k)) (hc : Try.prog.cellsOf e = 1)
    (h : DataW.trod enc Try.prog w 0 (fun _ => true) held fuel t cs = some y) :
    ∃ v xs, cs = [v] ∧ RowAt k w v xs ∧ (∀ n ∈ xs, (Lit.int k n).wf = true) ∧ ∀ M, (∀ n ∈ (y.1).weights Try.prog t, n ≤ M) → xs.length * Try.prog.bytesOf e ≤ M := by
  rcases open_ints ht he hc h with ⟨hcs, hy⟩ | ⟨a, len, cap, zs, hcs, _, hl, hm, hz, hy, hcell, hwz⟩
  · exact ⟨_, [], hcs, ⟨none, 0, rfl, by simp, by omega, (fun _ => rfl), (fun a ha => by cases ha)⟩, by simp, fun M _ => by simp⟩
  · simp only [if_true] at hz
    have hlen : (zs.take len).length = len := by rw [List.length_take]; omega
    refine ⟨_, zs.take len, hcs, ⟨some a, cap, by rw [hlen], by omega, hm, (fun e => by cases e), ?_⟩, fun n hn => hwz n (List.mem_of_mem_take hn), ?_⟩
    · intro b hb i hi
      cases hb
      rw [hlen] at hi
      rw [hcell i (by omega)]
      simp [List.getD, List.getElem?_take_of_lt hi]
    · intro M hM
      have h1 := hM ((zs.take len).length * Try.prog.bytesOf e + (zs.drop len).length * Try.prog.bytesOf e) (by
        rw [hy]
        simp only [DataW.weights, ht, lits, List.length_map, List.mem_cons]
        left
        rw [Nat.add_mul])
      omega

theorem one_int {t : TypeId} {k : IntKind} {z : Option (DataW H × List MemPlace)} {o : Nat} (ht : Try.prog.underlying t = some (.int k)) (hc : Try.prog.cellsOf t = 1) (hy : z.isSome = true)
    (h : DataW.trod enc Try.prog w base (fun _ => true) held fuel t ((cs.drop o).take (Try.prog.cellsOf t)) = z) : ∃ n, cs[o]? = some (.int k n) ∧ (Lit.int k n).wf = true := by
  obtain ⟨q, rfl⟩ := Option.isSome_iff_exists.1 hy
  rw [hc] at h
  obtain ⟨n, e, _, hw⟩ := DataW.trod_int ht h
  refine ⟨n, ?_, hw⟩
  have e2 : ((cs.drop o).take 1)[0]? = some (.int k n) := by rw [e]; rfl
  rw [List.getElem?_take_of_lt (by omega), List.getElem?_drop] at e2
  simpa using e2

theorem one_row {t e : TypeId} {k : IntKind} {z : Option (DataW H × List MemPlace)} {o : Nat} (ht : Try.prog.underlying t = some (.slice e)) (he : Try.prog.underlying e = some (.int k)) (hc : Try.prog.cellsOf e = 1) (hc1 : Try.prog.cellsOf t = 1) (hy : z.isSome = true)
    (h : DataW.trod enc Try.prog w 0 (fun _ => true) held fuel t ((cs.drop o).take (Try.prog.cellsOf t)) = z) :
    ∃ v xs q, cs[o]? = some v ∧ z = some q ∧ RowAt k w v xs ∧ (∀ n ∈ xs, (Lit.int k n).wf = true) ∧ ∀ M, (∀ n ∈ (q.1).weights Try.prog t, n ≤ M) → xs.length * Try.prog.bytesOf e ≤ M := by
  obtain ⟨q, rfl⟩ := Option.isSome_iff_exists.1 hy
  rw [hc1] at h
  obtain ⟨v, xs, e1, hr, hw, hM⟩ := open_row ht he hc h
  refine ⟨v, xs, q, ?_, rfl, hr, hw, hM⟩
  have e2 : ((cs.drop o).take 1)[0]? = some v := by rw [e1]; rfl
  rw [List.getElem?_take_of_lt (by omega), List.getElem?_drop] at e2
  simpa using e2
end
theorem Try.c3 : Try.prog.cellsOf 3 = 1 := by kernel_rfl
theorem Try.c25 : Try.prog.cellsOf 25 = 1 := by kernel_rfl
theorem Try.c26 : Try.prog.cellsOf 26 = 1 := by kernel_rfl
theorem Try.c46 : Try.prog.cellsOf 46 = 1 := by kernel_rfl
theorem Try.c28 : Try.prog.cellsOf 28 = 4 := by kernel_rfl
theorem Try.b3 : Try.prog.bytesOf 3 = 8 := by kernel_rfl
theorem Try.b58 : Try.prog.bytesOf 46 = 8 := by kernel_rfl
theorem list4 {l : List Value} {a b c d : Value} (h : l.length = 4) (h0 : l[0]? = some a) (h1 : l[1]? = some b) (h2 : l[2]? = some c) (h3 : l[3]? = some d) : l = [a, b, c, d] := by
  match l, h with
  | [x, y, z, u], _ => simp at h0 h1 h2 h3; subst h0 h1 h2 h3; rfl

set_option maxRecDepth 100000 in
theorem open_graph {H : Type} {enc : TypeId × Value → H} {base : Nat} {held : Bool} {W : World} {v : Value} {d : DataW H} {p : List MemPlace} (hv : Value.okWide Try.prog W .any base 28 v) (h : DataW.Trod enc Try.prog W 0 (fun _ => true) held 28 v d p)
    (hsz : ∀ n ∈ d.weights Try.prog 28, n ≤ reachBytes) :
    ∃ N va vb vc st tl wt, v = gAgg N va vb vc ∧ GIs W N va vb vc st tl wt ∧ (Lit.int .i64 N).wf = true ∧ st.length * 8 ≤ 140737488351232 ∧ tl.length * 8 ≤ 140737488351232 ∧ wt.length * 8 ≤ 140737488351232 ∧ (∀ n ∈ wt, (Lit.int .u64 n).wf = true) := by
  obtain ⟨cs, rfl, hcs⟩ := okWide_struct Try.underlying28 hv
  obtain ⟨fuel, hf⟩ := h
  obtain ⟨xs, n, _, hx, hlen, hxs, hel⟩ := DataW.trod_struct Try.underlying28 hf
  rw [Try.c28] at hlen
  have hxx : ∀ i, i < 4 → (xs[i]?).isSome = true := fun i hi => by rw [List.getElem?_eq_getElem (show i < xs.length by rw [hxs]; exact hi)]; rfl
  obtain ⟨N, h0, w0⟩ := one_int Try.underlying3 Try.c3 (hxx 0 (by omega)) (hel 0 _ rfl)
  obtain ⟨va, st, q1, h1, e1, r1, _, m1⟩ := one_row Try.underlying25 Try.underlying3 Try.c3 Try.c25 (hxx 1 (by omega)) (hel 1 _ rfl)
  obtain ⟨vb, tl, q2, h2, e2, r2, _, m2⟩ := one_row Try.underlying25 Try.underlying3 Try.c3 Try.c25 (hxx 2 (by omega)) (hel 2 _ rfl)
  obtain ⟨vc, wt, q3, h3, e3, r3, z3, m3⟩ := one_row Try.underlying26 Try.underlying46 Try.c46 Try.c26 (hxx 3 (by omega)) (hel 3 _ rfl)
  have hl := list4 hlen h0 h1 h2 h3
  simp only [Prod.mk.injEq] at hx
  have hw : ∀ (i : Nat) (t : TypeId) (q : DataW H × List MemPlace), ([3, 25, 25, 26] : List TypeId)[i]? = some t → xs[i]? = some q → ∀ k ∈ (q.1).weights Try.prog t, k ≤ reachBytes := by
    intro i t q ht hq k hk
    refine hsz k ?_
    rw [hx.1]
    simp only [DataW.weights, Try.underlying28]
    refine DataW.weights_mem_each (j := i) (t := t) (d := q.1) ?_ ?_ k hk
    · exact ht
    · rw [List.getElem?_map, hq]; rfl
  have b1 := m1 reachBytes (hw 1 25 q1 rfl e1)
  have b2 := m2 reachBytes (hw 2 25 q2 rfl e2)
  have b3 := m3 reachBytes (hw 3 26 q3 rfl e3)
  rw [Try.b3] at b1 b2
  rw [Try.b58] at b3
  simp only [reachBytes] at b1 b2 b3
  refine ⟨N, va, vb, vc, st, tl, wt, ?_, ⟨r1, r2, r3⟩, w0, by omega, by omega, by omega, z3⟩
  unfold gAgg
  congr 1
  have : cs.toList = [.int .i64 N, va, vb, vc] := by simpa [Value.cells] using hl
  rw [← Array.toList_inj, this]
end Go.Proofs.Ytiohimbifjlfdaa

/- TopParts: roads that come in. -/
namespace Go.Proofs.Ytiohimbifjlfdaa
open Go.ChangeShapes Go.WideShapes Go.ChangeAt Go.RowKit Go.Deep
set_option linter.unusedVariables false
theorem Try.c48 : Try.prog.cellsOf 48 = 3 := by kernel_rfl
theorem Try.c22 : Try.prog.cellsOf 22 = 1 := by kernel_rfl
theorem Try.c24 : Try.prog.cellsOf 24 = 2 := by kernel_rfl
section
variable {H : Type} {enc : TypeId × Value → H} {w : World} {base : Nat} {held : Bool} {fuel : Nat} {cs : List Value} {y : DataW H × List MemPlace}
set_option maxRecDepth 100000 in
theorem open_edgeC (h : DataW.trod enc Try.prog w base (fun _ => true) held fuel 48 cs = some y) : ∃ p : Ed3, 0 ≤ p.2.2 ∧ cs[0]? = some (.int .i64 p.1) ∧ cs[1]? = some (.int .i64 p.2.1) ∧ cs[2]? = some (.int .u64 p.2.2) := by
  obtain ⟨xs, n, _, _, hlen, hxs, hel⟩ := DataW.trod_struct Try.underlying48 h
  rw [Try.c48] at hlen
  have hx : ∀ i, i < 3 → (xs[i]?).isSome = true := fun i hi => by rw [List.getElem?_eq_getElem (show i < xs.length by rw [hxs]; exact hi)]; rfl
  obtain ⟨k0, h0, _⟩ := one_int Try.underlying3 Try.c3 (hx 0 (by omega)) (hel 0 _ rfl)
  obtain ⟨k1, h1, _⟩ := one_int Try.underlying3 Try.c3 (hx 1 (by omega)) (hel 1 _ rfl)
  obtain ⟨k2, h2, w2⟩ := one_int Try.underlying46 Try.c46 (hx 2 (by omega)) (hel 2 _ rfl)
  obtain ⟨b0, b1⟩ := Go.bounds_u64 w2
  exact ⟨(k0, k1, k2), b0, h0, h1, h2⟩
set_option maxRecDepth 100000 in
theorem open_edges (hf : DataW.trod enc Try.prog w 0 (fun _ => true) held fuel 22 cs = some y) : ∃ (v : Value) (l : List Ed3), cs = [v] ∧ EAt w v l ∧ ∀ j, j < l.length → 0 ≤ (eAt l j).2.2 := by
  rcases open_slice Try.underlying22 hf with ⟨hcs, _⟩ | ⟨a, len, cap, m, n, D, Pl, hcs, _, hl, hm, hmm, hx, hel⟩
  · exact ⟨_, [], hcs, ⟨none, 0, rfl, Nat.le_refl _, Nat.zero_le _, fun k hk => absurd hk (Nat.not_lt_zero _)⟩, fun k hk => absurd hk (Nat.not_lt_zero _)⟩
  · simp only [if_true] at hmm
    subst hmm
    have each : ∀ k, k < len → ∃ o : Ed3, 0 ≤ o.2.2 ∧ ∃ g q, a = ⟨g, q, none⟩ ∧ w.cell? ⟨g, q + k * 3, none⟩ = some (.int .i64 o.1) ∧ w.cell? ⟨g, q + k * 3 + 1, none⟩ = some (.int .i64 o.2.1) ∧ w.cell? ⟨g, q + k * 3 + 2, none⟩ = some (.int .u64 o.2.2) := by
      intro k hk
      have hsp : a.spot = none := by
        obtain ⟨cs', h1, h2⟩ := hel 0 (by omega)
        rw [Try.c48] at h1
        obtain ⟨_, hlen, hc⟩ := World.cells?_some h1
        obtain ⟨o, hok, ho, _⟩ := open_edgeC h2
        have h0 := (hc 0 (by omega)).trans ho
        have := World.cell?_spot h0
        simpa [Addr.add] using this
      obtain ⟨cs', h1, h2⟩ := hel k (by omega)
      rw [Try.c48] at h1
      obtain ⟨_, hlen, hc⟩ := World.cells?_some h1
      obtain ⟨o, hok, ho0, ho1, ho2⟩ := open_edgeC h2
      obtain ⟨ab, aq, sp⟩ := a
      simp only at hsp
      subst hsp
      have e0 := (hc 0 (by omega)).trans ho0
      have e1 := (hc 1 (by omega)).trans ho1
      have e2 := (hc 2 (by omega)).trans ho2
      simp only [Addr.add_lit, Nat.add_zero] at e0 e1 e2
      exact ⟨o, hok, ab, aq, rfl, e0, e1, e2⟩
    have hin : Inhabited Ed3 := ⟨(0, 0, 0)⟩
    obtain ⟨f, hf⟩ := choose_lt (α := Ed3) (p := fun k o => 0 ≤ o.2.2 ∧ ∃ g q, a = ⟨g, q, none⟩ ∧ w.cell? ⟨g, q + k * 3, none⟩ = some (.int .i64 o.1) ∧ w.cell? ⟨g, q + k * 3 + 1, none⟩ = some (.int .i64 o.2.1) ∧ w.cell? ⟨g, q + k * 3 + 2, none⟩ = some (.int .u64 o.2.2)) each
    have hL : ((List.range len).map f).length = len := by simp
    have hA : ∀ k, k < len → eAt ((List.range len).map f) k = f k := fun k hk => by simp [eAt, hk]
    refine ⟨_, (List.range len).map f, hcs, ⟨some a, _, by rw [hL], by rw [hL]; exact hl, by simp only [maxLen] at hm; omega, fun k hk => ?_⟩, fun k hk => ?_⟩
    · rw [hL] at hk
      rw [hA k hk]
      obtain ⟨_, g, q, rfl, p1, p2, p3⟩ := hf k hk
      exact ⟨g, q, rfl, p1, p2, p3⟩
    · rw [hL] at hk
      rw [hA k hk]
      exact (hf k hk).1
end
set_option maxRecDepth 100000 in
theorem open_roads {H : Type} {enc : TypeId × Value → H} {base : Nat} {held : Bool} {W : World} {v : Value} {d : DataW H} {p : List MemPlace} (hv : Value.okWide Try.prog W .any base 24 v) (h : DataW.Trod enc Try.prog W 0 (fun _ => true) held 24 v d p) :
    ∃ N ev l, v = .agg #[.int .i64 N, ev] ∧ EAt W ev l ∧ ∀ j, j < l.length → 0 ≤ (eAt l j).2.2 := by
  obtain ⟨cs, rfl, hcs⟩ := okWide_struct Try.underlying24 hv
  obtain ⟨fuel, hf⟩ := h
  obtain ⟨xs, n, _, hx, hlen, hxs, hel⟩ := DataW.trod_struct Try.underlying24 hf
  rw [Try.c24] at hlen
  have hxx : ∀ i, i < 2 → (xs[i]?).isSome = true := fun i hi => by rw [List.getElem?_eq_getElem (show i < xs.length by rw [hxs]; exact hi)]; rfl
  obtain ⟨N, h0, w0⟩ := one_int Try.underlying3 Try.c3 (hxx 0 (by omega)) (hel 0 _ rfl)
  obtain ⟨q, hq⟩ := Option.isSome_iff_exists.1 (hxx 1 (by omega))
  have h1 : DataW.trod enc Try.prog W 0 (fun _ => true) held n 22 (((Value.agg cs).cells.toList.drop 1).take (Try.prog.cellsOf 22)) = some q := (hel 1 _ rfl).trans hq
  rw [Try.c22] at h1
  obtain ⟨ev, l, he, hE, hw⟩ := open_edges h1
  refine ⟨N, ev, l, ?_, hE, hw⟩
  congr 1
  have : cs.toList = [.int .i64 N, ev] := by
    have e2 : (((Value.agg cs).cells.toList.drop 1).take 1)[0]? = some ev := by rw [he]; rfl
    rw [List.getElem?_take_of_lt (by omega), List.getElem?_drop] at e2
    simp only [Value.cells] at h0 e2 hlen
    match hl : cs.toList, hlen with
    | [a, b], _ => simp [hl] at h0 e2; rw [h0, e2]
  rw [← Array.toList_inj, this]
end Go.Proofs.Ytiohimbifjlfdaa
