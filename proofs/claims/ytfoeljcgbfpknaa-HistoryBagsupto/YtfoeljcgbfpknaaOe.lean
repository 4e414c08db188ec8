/- Events that come in, as they are read. -/
import Derived.Test.YtfoeljcgbfpknaaOp
import Derived.Deep.Slices
import Derived.SizedLaws
import Derived.ProofKit
import Derived.OpenShut
namespace Go.Proofs.Ytfoeljcgbfpknaa
open Go.ChangeShapes Go.WideShapes Go.ChangeAt Go.RowKit Go.Deep
set_option linter.unusedVariables false
set_option maxRecDepth 100000
section
variable {H : Type} {enc : TypeId × Value → H} {w : World} {base : Nat} {held : Bool} {fuel : Nat} {cs : List Value} {y : DataW H × List MemPlace}
theorem one_int {spare : Nat → Bool} {t : TypeId} {k : IntKind} {y : Option (DataW H × List MemPlace)} {o : Nat} (ht : Try.prog.underlying t = some (.int k)) (hc : Try.prog.cellsOf t = 1) (hy : y.isSome = true)
    (h : DataW.trod enc Try.prog w base spare held fuel t ((cs.drop o).take (Try.prog.cellsOf t)) = y) : ∃ n, cs[o]? = some (.int k n) ∧ (Lit.int k n).wf = true := by
  obtain ⟨z, rfl⟩ := Option.isSome_iff_exists.1 hy
  rw [hc] at h
  obtain ⟨n, e, _, hw⟩ := DataW.trod_int ht h
  refine ⟨n, ?_, hw⟩
  have e2 : ((cs.drop o).take 1)[0]? = some (.int k n) := by rw [e]; rfl
  rw [List.getElem?_take_of_lt (by omega), List.getElem?_drop] at e2
  simpa using e2
theorem Try.c3 : Try.prog.cellsOf 3 = 1 := by kernel_rfl
theorem Try.c65 : Try.prog.cellsOf 65 = 1 := by kernel_rfl
theorem Try.c67 : Try.prog.cellsOf 67 = 2 := by kernel_rfl
theorem Try.c87 : Try.prog.cellsOf 87 = 5 := by kernel_rfl
set_option maxRecDepth 100000 in
theorem open_taskC {spare : Nat → Bool} (h : DataW.trod enc Try.prog w base spare held fuel 67 cs = some y) : ∃ a b, cs = [.int .u64 a, .int .u64 b] := by
  obtain ⟨xs, n, _, _, hlen, hxs, hel⟩ := DataW.trod_struct Try.underlying67 h
  rw [Try.c67] at hlen
  have hx : ∀ i, i < 2 → (xs[i]?).isSome = true := fun i hi => by rw [List.getElem?_eq_getElem (show i < xs.length by rw [hxs]; exact hi)]; rfl
  obtain ⟨a, ha, _⟩ := one_int Try.underlying65 Try.c65 (hx 0 (by omega)) (hel 0 _ rfl)
  obtain ⟨b, hb, _⟩ := one_int Try.underlying65 Try.c65 (hx 1 (by omega)) (hel 1 _ rfl)
  refine ⟨a, b, ?_⟩
  match cs, hlen with
  | [x, z], _ => simp at ha hb; subst ha hb; rfl
theorem in64_of {x : Int} (h : (Lit.int .i64 x).wf = true) : In64 x := by
  have := Go.bounds_i64 h
  exact ⟨by omega, by omega⟩
set_option maxRecDepth 100000 in
theorem open_eventC (h : DataW.trod enc Try.prog w base (fun _ => true) held fuel 87 cs = some y) : ∃ o : Ev, In64 o.who ∧ ∀ (j : Nat) (v : Value), o.arr[j]? = some v → cs[j]? = some v := by
  obtain ⟨xs, n, _, _, hlen, hxs, hel⟩ := DataW.trod_struct Try.underlying87 h
  rw [Try.c87] at hlen
  have hx : ∀ i, i < 4 → (xs[i]?).isSome = true := fun i hi => by rw [List.getElem?_eq_getElem (show i < xs.length by rw [hxs]; exact hi)]; rfl
  obtain ⟨k0, h0, _⟩ := one_int Try.underlying3 Try.c3 (hx 0 (by omega)) (hel 0 _ rfl)
  obtain ⟨k1, h1, w1⟩ := one_int Try.underlying3 Try.c3 (hx 1 (by omega)) (hel 1 _ rfl)
  obtain ⟨k2, h2, _⟩ := one_int Try.underlying3 Try.c3 (hx 2 (by omega)) (hel 2 _ rfl)
  have h6 : DataW.trod enc Try.prog w base (fun _ => true) held n 67 ((cs.drop 3).take (Try.prog.cellsOf 67)) = xs[3]? := hel 3 _ rfl
  obtain ⟨z, hz⟩ := Option.isSome_iff_exists.1 (hx 3 (by omega))
  rw [hz] at h6
  obtain ⟨a, b, e⟩ := open_taskC h6
  rw [Try.c67] at e
  have g : ∀ j, j < 2 → cs[3 + j]? = ([.int .u64 a, .int .u64 b] : List Value)[j]? := fun j hj => by
    rw [← e, List.getElem?_take_of_lt hj, List.getElem?_drop]
  refine ⟨⟨k0, k1, k2, a, b⟩, in64_of w1, ?_⟩
  intro j v hv
  match j, hv with
  | 0, hv => cases hv; exact h0
  | 1, hv => cases hv; exact h1
  | 2, hv => cases hv; exact h2
  | 3, hv => cases hv; exact g 0 (by omega)
  | 4, hv => cases hv; exact g 1 (by omega)
  | j + 5, hv => simp [Ev.arr] at hv
/-- A list of records that comes in. -/
theorem open_recs {α : Type} (x0 : α) {A : α → Array Value} {c : Nat} {t e : TypeId} {Ok : α → Prop} (hA : ∀ x, (A x).size = c) (hc : 0 < c) (ht : Try.prog.underlying t = some (.slice e)) (hce : Try.prog.cellsOf e = c)
    (hC : ∀ (n : Nat) (cs : List Value) (y : DataW H × List MemPlace) (w : World), DataW.trod enc Try.prog w 0 (fun _ => true) held n e cs = some y → ∃ o : α, Ok o ∧ ∀ (j : Nat) (v : Value), (A o)[j]? = some v → cs[j]? = some v)
    {W : World} {v : Value} {d : DataW H} {p : List MemPlace} (hv : Value.okWide Try.prog W .any base t v) (h : DataW.Trod enc Try.prog W 0 (fun _ => true) held t v d p) :
    ∃ (len cap : Nat) (l : List α), l.length = len ∧ RAt A c W v l ∧ (∀ (i : Nat) (x : α), l[i]? = some x → Ok x) ∧
      ((len = 0 ∧ cap = 0) ∨ ∃ D : Nat → DataW H, d = .slice ((List.range len).map D) ((List.range (cap - len)).map fun j => D (len + j))) := by
  obtain ⟨ao, len, cap, rfl⟩ := okWide_slice ht hv
  obtain ⟨fuel, hf⟩ := h
  rcases open_slice ht hf with ⟨hcs, _⟩ | ⟨a, len', cap', m, n, D, Pl, hcs, _, hl, hm, hmm, hx, hel⟩
  · simp [Value.cells] at hcs
    obtain ⟨rfl, rfl, rfl⟩ := hcs
    exact ⟨0, 0, [], rfl, RAt.nil W, fun i x hi => by simp at hi, .inl ⟨rfl, rfl⟩⟩
  · simp [Value.cells] at hcs
    obtain ⟨rfl, rfl, rfl⟩ := hcs
    simp only [if_true] at hmm
    subst hmm
    simp only [Prod.mk.injEq] at hx
    have hspot : 0 < len → a.spot = none := by
      intro h
      obtain ⟨cs', h1, h2⟩ := hel 0 (by omega)
      rw [hce] at h1
      obtain ⟨_, hlen, hcell⟩ := World.cells?_some h1
      obtain ⟨o, hok, ho⟩ := hC _ _ _ _ h2
      have h0 := (hcell 0 hc).trans (ho 0 _ (Array.getElem?_eq_getElem (by rw [hA]; exact hc)))
      have := World.cell?_spot h0
      simpa [Addr.add] using this
    have each : ∀ k, ∃ o : α, k < len → Ok o ∧ ∃ g q, a = ⟨g, q, none⟩ ∧ g < W.heap.size ∧ ∀ (j : Nat) (v : Value), (A o)[j]? = some v → W.cell? ⟨g, q + k * c + j, none⟩ = some v := by
      intro k
      by_cases hk : k < len
      · obtain ⟨cs', h1, h2⟩ := hel k (by omega)
        rw [hce] at h1
        obtain ⟨_, hlen, hcell⟩ := World.cells?_some h1
        obtain ⟨o, hok, ho⟩ := hC _ _ _ _ h2
        have hsz : ∀ j v, (A o)[j]? = some v → j < c := fun j v hj => by have := (Array.getElem?_eq_some_iff.1 hj).1; rwa [hA] at this
        have h0 : W.cell? ((a.add (k * c)).add 0) = some ((A o)[0]'(by rw [hA]; exact hc)) := (hcell 0 hc).trans (ho 0 _ (Array.getElem?_eq_getElem (by rw [hA]; exact hc)))
        have hsp := hspot (by omega)
        obtain ⟨ab, aq, sp⟩ := a
        simp only at hsp
        subst hsp
        have hlt := block_of_cell h0
        refine ⟨o, fun _ => ⟨hok, ab, aq, rfl, by simpa [Addr.add_lit] using hlt, fun j v hj => ?_⟩⟩
        have h3 := (hcell j (hsz j v hj)).trans (ho j v hj)
        rw [Addr.add_lit, Addr.add_lit] at h3
        exact h3
      · exact ⟨x0, fun h => absurd h hk⟩
    obtain ⟨f, hf⟩ := Classical.axiomOfChoice each
    have hL : ((List.range len).map f).length = len := by simp
    have hget : ∀ (i : Nat) (x : α), ((List.range len).map f)[i]? = some x → i < len ∧ x = f i := by
      intro i x hi
      have h1 := (List.getElem?_eq_some_iff.1 hi).1
      rw [hL] at h1
      simp [h1] at hi
      exact ⟨h1, hi.symm⟩
    refine ⟨len, m, (List.range len).map f, hL, ⟨some a, m, by rw [hL], by rw [hL]; exact hl, by simp only [maxLen] at hm; omega, fun i x hi => ?_⟩, fun i x hi => ?_, .inr ⟨D, hx.1⟩⟩
    · obtain ⟨h1, rfl⟩ := hget i x hi
      obtain ⟨_, g, q, rfl, hg, hj⟩ := hf i h1
      exact ⟨g, q, rfl, hg, hj⟩
    · obtain ⟨h1, rfl⟩ := hget i x hi
      exact (hf i h1).1
/-- A list of events that comes in. -/
theorem open_events {W : World} {v : Value} {d : DataW H} {p : List MemPlace} (hv : Value.okWide Try.prog W .any base 48 v) (h : DataW.Trod enc Try.prog W 0 (fun _ => true) held 48 v d p) :
    ∃ (len cap : Nat) (l : List Ev), l.length = len ∧ EAt W v l ∧ Eok l ∧ ((len = 0 ∧ cap = 0) ∨ ∃ D : Nat → DataW H, d = .slice ((List.range len).map D) ((List.range (cap - len)).map fun j => D (len + j))) := by
  obtain ⟨len, cap, l, h1, h2, h3, h4⟩ := open_recs (Ok := fun e : Ev => In64 e.who) ev0 Ev.size (by decide) Try.underlying48 Try.c87 (fun n cs y w h => open_eventC h) hv h
  exact ⟨len, cap, l, h1, h2, fun i hi => h3 i _ (evAt_get hi), h4⟩
end
end Go.Proofs.Ytfoeljcgbfpknaa
