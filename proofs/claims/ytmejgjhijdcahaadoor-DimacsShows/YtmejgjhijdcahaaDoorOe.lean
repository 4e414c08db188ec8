/- Lists of records that come in, as they are read; a struct of a number and such a list. -/
import Derived.Test.YtmejgjhijdcahaaDoorRe
import Derived.Deep.Slices
import Derived.SizedLaws
import Derived.ProofKit
import Derived.OpenShut
namespace Go.Proofs.YtmejgjhijdcahaaDoor
open Go.ChangeShapes Go.WideShapes Go.ChangeAt Go.RowKit Go.Deep
set_option linter.unusedVariables false
section
variable {H : Type} {enc : TypeId × Value → H} {w : World} {base : Nat} {held : Bool} {fuel : Nat} {cs : List Value} {y : DataW H × List MemPlace}
theorem one_int {spare : Nat → Bool} {t : TypeId} {k : IntKind} {y : Option (DataW H × List MemPlace)} {o : Nat} (ht : Tryd.prog.underlying t = some (.int k)) (hc : Tryd.prog.cellsOf t = 1) (hy : y.isSome = true)
    (h : DataW.trod enc Tryd.prog w base spare held fuel t ((cs.drop o).take (Tryd.prog.cellsOf t)) = y) : ∃ n, cs[o]? = some (.int k n) ∧ (Lit.int k n).wf = true := by
  obtain ⟨z, rfl⟩ := Option.isSome_iff_exists.1 hy
  rw [hc] at h
  obtain ⟨n, e, _, hw⟩ := DataW.trod_int ht h
  refine ⟨n, ?_, hw⟩
  have e2 : ((cs.drop o).take 1)[0]? = some (.int k n) := by rw [e]; rfl
  rw [List.getElem?_take_of_lt (by omega), List.getElem?_drop] at e2
  simpa using e2
theorem in64_of {x : Int} (h : (Lit.int .i64 x).wf = true) : -9223372036854775808 ≤ x ∧ x ≤ 9223372036854775807 := by
  have := Go.bounds_i64 h
  exact ⟨by omega, by omega⟩
/-- A list of records that comes in, by its one cell. -/
theorem open_recsC {α : Type} (x0 : α) {A : α → Array Value} {c : Nat} {t e : TypeId} {Ok : α → Prop} (hA : ∀ x, (A x).size = c) (hc : 0 < c) (ht : Tryd.prog.underlying t = some (.slice e)) (hce : Tryd.prog.cellsOf e = c)
    (hC : ∀ (n : Nat) (cs : List Value) (y : DataW H × List MemPlace) (w : World), DataW.trod enc Tryd.prog w 0 (fun _ => true) held n e cs = some y → ∃ o : α, Ok o ∧ ∀ (j : Nat) (v : Value), (A o)[j]? = some v → cs[j]? = some v)
    {W : World} (hf : DataW.trod enc Tryd.prog W 0 (fun _ => true) held fuel t cs = some y) :
    ∃ (v : Value) (l : List α), cs = [v] ∧ RAt A c W v l ∧ (∀ (i : Nat) (x : α), l[i]? = some x → Ok x) ∧ ∀ M, (∀ n ∈ (y.1).weights Tryd.prog t, n ≤ M) → l.length * Tryd.prog.bytesOf e ≤ M := by
  rcases open_slice ht hf with ⟨hcs, _⟩ | ⟨a, len, cap, m, n, D, Pl, hcs, _, hl, hm, hmm, hx, hel⟩
  · exact ⟨_, [], hcs, RAt.nil W, fun i x hi => by simp at hi, fun M _ => by simp⟩
  · simp only [if_true] at hmm
    subst hmm
    have hspot : 0 < len → a.spot = none := by
      intro h
      obtain ⟨cs', h1, h2⟩ := hel 0 (by omega)
      rw [hce] at h1
      obtain ⟨_, hlen, hcell⟩ := World.cells?_some h1
      obtain ⟨o, hok, ho⟩ := hC _ _ _ _ h2
      have h0 := (hcell 0 hc).trans (ho 0 _ (Array.getElem?_eq_getElem (by rw [hA]; exact hc)))
      have := World.cell?_spot h0
      simpa [Addr.add] using this
    have each : ∀ k, ∃ o : α, k < len → Ok o ∧ ∃ g q, a = ⟨g, q, none⟩ ∧ g < W.heap.size ∧ ∀ (j : Nat) (v : Value), (A o)[j]? = some v → W.cell? ⟨g, q + k * c + j, none⟩ = some v := by
      intro k
      by_cases hk : k < len
      · obtain ⟨cs', h1, h2⟩ := hel k (by omega)
        rw [hce] at h1
        obtain ⟨_, hlen, hcell⟩ := World.cells?_some h1
        obtain ⟨o, hok, ho⟩ := hC _ _ _ _ h2
        have hsz : ∀ j v, (A o)[j]? = some v → j < c := fun j v hj => by have := (Array.getElem?_eq_some_iff.1 hj).1; rwa [hA] at this
        have h0 : W.cell? ((a.add (k * c)).add 0) = some ((A o)[0]'(by rw [hA]; exact hc)) := (hcell 0 hc).trans (ho 0 _ (Array.getElem?_eq_getElem (by rw [hA]; exact hc)))
        have hsp := hspot (by omega)
        obtain ⟨ab, aq, sp⟩ := a
        simp only at hsp
        subst hsp
        have hlt := block_of_cell h0
        refine ⟨o, fun _ => ⟨hok, ab, aq, rfl, by simpa [Addr.add_lit] using hlt, fun j v hj => ?_⟩⟩
        have h3 := (hcell j (hsz j v hj)).trans (ho j v hj)
        rw [Addr.add_lit, Addr.add_lit] at h3
        exact h3
      · exact ⟨x0, fun h => absurd h hk⟩
    obtain ⟨f, hf⟩ := Classical.axiomOfChoice each
    have hL : ((List.range len).map f).length = len := by simp
    have hget : ∀ (i : Nat) (x : α), ((List.range len).map f)[i]? = some x → i < len ∧ x = f i := by
      intro i x hi
      have h1 := (List.getElem?_eq_some_iff.1 hi).1
      rw [hL] at h1
      simp [h1] at hi
      exact ⟨h1, hi.symm⟩
    refine ⟨_, (List.range len).map f, hcs, ⟨some a, m, by rw [hL], by rw [hL]; exact hl, by simp only [maxLen] at hm; omega, fun i x hi => ?_⟩, fun i x hi => ?_, fun M hM => ?_⟩
    · obtain ⟨h1, rfl⟩ := hget i x hi
      obtain ⟨_, g, q, rfl, hg, hj⟩ := hf i h1
      exact ⟨g, q, rfl, hg, hj⟩
    · obtain ⟨h1, rfl⟩ := hget i x hi
      exact (hf i h1).1
    · have h1 := hM (len * Tryd.prog.bytesOf e + (m - len) * Tryd.prog.bytesOf e) (by
        rw [hx]
        simp only [DataW.weights, ht, List.length_map, List.length_range, List.mem_cons]
        left
        rw [Nat.add_mul])
      rw [hL]
      omega
theorem Tryd.c2 : Tryd.prog.cellsOf 2 = 1 := by kernel_rfl
theorem Tryd.c3 : Tryd.prog.cellsOf 3 = 1 := by kernel_rfl
theorem Tryd.c28 : Tryd.prog.cellsOf 28 = 1 := by kernel_rfl
theorem Tryd.c30 : Tryd.prog.cellsOf 30 = 3 := by kernel_rfl
theorem Tryd.c32 : Tryd.prog.cellsOf 32 = 2 := by kernel_rfl
theorem Tryd.c34 : Tryd.prog.cellsOf 34 = 2 := by kernel_rfl
theorem Tryd.c22 : Tryd.prog.cellsOf 22 = 1 := by kernel_rfl
theorem Tryd.c24 : Tryd.prog.cellsOf 24 = 2 := by kernel_rfl
set_option maxRecDepth 100000 in
theorem open_egC (h : DataW.trod enc Tryd.prog w base (fun _ => true) held fuel 30 cs = some y) : ∃ o : Eg, (0 ≤ o.w ∧ o.w < 18446744073709551616) ∧ ∀ (j : Nat) (v : Value), o.arr[j]? = some v → cs[j]? = some v := by
  obtain ⟨xs, n, _, _, hlen, hxs, hel⟩ := DataW.trod_struct Tryd.underlying30 h
  have hx : ∀ i, i < 3 → (xs[i]?).isSome = true := fun i hi => by rw [List.getElem?_eq_getElem (show i < xs.length by rw [hxs]; exact hi)]; rfl
  obtain ⟨k0, h0, w0⟩ := one_int Tryd.underlying3 Tryd.c3 (hx 0 (by omega)) (hel 0 _ rfl)
  obtain ⟨k1, h1, w1⟩ := one_int Tryd.underlying3 Tryd.c3 (hx 1 (by omega)) (hel 1 _ rfl)
  obtain ⟨k2, h2, w2⟩ := one_int Tryd.underlying28 Tryd.c28 (hx 2 (by omega)) (hel 2 _ rfl)
  have b2 := Go.bounds_u64 w2
  refine ⟨⟨k0, k1, k2⟩, ⟨by show 0 ≤ k2; omega, by show k2 < _; omega⟩, ?_⟩
  intro j v hv
  match j, hv with
  | 0, hv => cases hv; exact h0
  | 1, hv => cases hv; exact h1
  | 2, hv => cases hv; exact h2
  | j + 3, hv => simp [Eg.arr] at hv
set_option maxRecDepth 100000 in
theorem open_ptC (h : DataW.trod enc Tryd.prog w base (fun _ => true) held fuel 32 cs = some y) : ∃ o : Pt, ((-9223372036854775808 ≤ o.x ∧ o.x ≤ 9223372036854775807) ∧ (-9223372036854775808 ≤ o.y ∧ o.y ≤ 9223372036854775807)) ∧ ∀ (j : Nat) (v : Value), o.arr[j]? = some v → cs[j]? = some v := by
  obtain ⟨xs, n, _, _, hlen, hxs, hel⟩ := DataW.trod_struct Tryd.underlying32 h
  have hx : ∀ i, i < 2 → (xs[i]?).isSome = true := fun i hi => by rw [List.getElem?_eq_getElem (show i < xs.length by rw [hxs]; exact hi)]; rfl
  obtain ⟨k0, h0, w0⟩ := one_int Tryd.underlying2 Tryd.c2 (hx 0 (by omega)) (hel 0 _ rfl)
  obtain ⟨k1, h1, w1⟩ := one_int Tryd.underlying2 Tryd.c2 (hx 1 (by omega)) (hel 1 _ rfl)
  refine ⟨⟨k0, k1⟩, ⟨in64_of w0, in64_of w1⟩, ?_⟩
  intro j v hv
  match j, hv with
  | 0, hv => cases hv; exact h0
  | 1, hv => cases hv; exact h1
  | j + 2, hv => simp [Pt.arr] at hv
set_option maxRecDepth 100000 in
theorem open_qC (h : DataW.trod enc Tryd.prog w base (fun _ => true) held fuel 34 cs = some y) : ∃ o : Pt, True ∧ ∀ (j : Nat) (v : Value), o.arr[j]? = some v → cs[j]? = some v := by
  obtain ⟨xs, n, _, _, hlen, hxs, hel⟩ := DataW.trod_struct Tryd.underlying34 h
  have hx : ∀ i, i < 2 → (xs[i]?).isSome = true := fun i hi => by rw [List.getElem?_eq_getElem (show i < xs.length by rw [hxs]; exact hi)]; rfl
  obtain ⟨k0, h0, w0⟩ := one_int Tryd.underlying3 Tryd.c3 (hx 0 (by omega)) (hel 0 _ rfl)
  obtain ⟨k1, h1, w1⟩ := one_int Tryd.underlying3 Tryd.c3 (hx 1 (by omega)) (hel 1 _ rfl)
  refine ⟨⟨k0, k1⟩, trivial, ?_⟩
  intro j v hv
  match j, hv with
  | 0, hv => cases hv; exact h0
  | 1, hv => cases hv; exact h1
  | j + 2, hv => simp [Pt.arr] at hv
theorem open_iC (h : DataW.trod enc Tryd.prog w base (fun _ => true) held fuel 3 cs = some y) : ∃ o : Int, True ∧ ∀ (j : Nat) (v : Value), (iArr o)[j]? = some v → cs[j]? = some v := by
  obtain ⟨n, e, _, hw⟩ := DataW.trod_int Tryd.underlying3 h
  refine ⟨n, trivial, ?_⟩
  intro j v hv
  match j, hv with
  | 0, hv => cases hv; rw [e]; rfl
  | j + 1, hv => simp [iArr] at hv
/-- A list of records that comes in as an argument. -/
theorem open_recsT {α : Type} (x0 : α) {A : α → Array Value} {c : Nat} {t e : TypeId} {Ok : α → Prop} (hA : ∀ x, (A x).size = c) (hc : 0 < c) (ht : Tryd.prog.underlying t = some (.slice e)) (hce : Tryd.prog.cellsOf e = c)
    (hC : ∀ (n : Nat) (cs : List Value) (y : DataW H × List MemPlace) (w : World), DataW.trod enc Tryd.prog w 0 (fun _ => true) held n e cs = some y → ∃ o : α, Ok o ∧ ∀ (j : Nat) (v : Value), (A o)[j]? = some v → cs[j]? = some v)
    {W : World} {v : Value} {d : DataW H} {p : List MemPlace} (hv : Value.okWide Tryd.prog W .any base t v) (h : DataW.Trod enc Tryd.prog W 0 (fun _ => true) held t v d p) (hM : ∀ n ∈ d.weights Tryd.prog t, n ≤ reachBytes) :
    ∃ l : List α, RAt A c W v l ∧ (∀ (i : Nat) (x : α), l[i]? = some x → Ok x) ∧ l.length * Tryd.prog.bytesOf e ≤ 140737488351232 := by
  obtain ⟨ao, len, cap, rfl⟩ := okWide_slice ht hv
  obtain ⟨fuel, hf⟩ := h
  obtain ⟨v', l, hcs, h1, h2, h3⟩ := open_recsC x0 hA hc ht hce hC hf
  simp [Value.cells] at hcs
  subst hcs
  have h4 := h3 reachBytes hM
  simp only [reachBytes] at h4
  exact ⟨l, h1, h2, h4⟩
set_option maxRecDepth 100000 in
theorem open_roads {W : World} {v : Value} {d : DataW H} {p : List MemPlace} (hv : Value.okWide Tryd.prog W .any base 24 v) (h : DataW.Trod enc Tryd.prog W 0 (fun _ => true) held 24 v d p) (hM : ∀ n ∈ d.weights Tryd.prog 24, n ≤ reachBytes) :
    ∃ N ev l, v = .agg #[.int .i64 N, ev] ∧ RAt Eg.arr 3 W ev l ∧ Weighed l ∧ l.length * 24 ≤ 140737488351232 := by
  obtain ⟨cs, rfl, hcs⟩ := okWide_struct Tryd.underlying24 hv
  obtain ⟨fuel, hf⟩ := h
  obtain ⟨xs, n, _, hx, hlen, hxs, hel⟩ := DataW.trod_struct Tryd.underlying24 hf
  rw [Tryd.c24] at hlen
  have hxx : ∀ i, i < 2 → (xs[i]?).isSome = true := fun i hi => by rw [List.getElem?_eq_getElem (show i < xs.length by rw [hxs]; exact hi)]; rfl
  obtain ⟨N, h0, w0⟩ := one_int Tryd.underlying3 Tryd.c3 (hxx 0 (by omega)) (hel 0 _ rfl)
  obtain ⟨q, hq⟩ := Option.isSome_iff_exists.1 (hxx 1 (by omega))
  have h1 : DataW.trod enc Tryd.prog W 0 (fun _ => true) held n 22 (((Value.agg cs).cells.toList.drop 1).take (Tryd.prog.cellsOf 22)) = some q := (hel 1 _ rfl).trans hq
  rw [Tryd.c22] at h1
  obtain ⟨ev, l, he, hE, hw, hb⟩ := open_recsC (Ok := fun o : Eg => 0 ≤ o.w ∧ o.w < 18446744073709551616) eg0 Eg.size (by decide) Tryd.underlying22 Tryd.c30 (fun n cs y w h => open_egC h) h1
  have hb2 := hb reachBytes (fun k hk => hM k (by
    simp only [Prod.mk.injEq] at hx
    rw [hx.1]
    simp only [DataW.weights, Tryd.underlying24]
    refine DataW.weights_mem_each (j := 1) (t := 22) (d := q.1) rfl ?_ k hk
    rw [List.getElem?_map, hq]; rfl))
  rw [show Tryd.prog.bytesOf 30 = 24 from by kernel_rfl] at hb2
  simp only [reachBytes] at hb2
  refine ⟨N, ev, l, ?_, hE, hw, hb2⟩
  congr 1
  have : cs.toList = [.int .i64 N, ev] := by
    have e2 : (((Value.agg cs).cells.toList.drop 1).take 1)[0]? = some ev := by rw [he]; rfl
    rw [List.getElem?_take_of_lt (by omega), List.getElem?_drop] at e2
    simp only [Value.cells] at h0 e2 hlen
    match hl : cs.toList, hlen with
    | [a, b], _ => simp [hl] at h0 e2; rw [h0, e2]
  rw [← Array.toList_inj, this]
end
end Go.Proofs.YtmejgjhijdcahaaDoor
