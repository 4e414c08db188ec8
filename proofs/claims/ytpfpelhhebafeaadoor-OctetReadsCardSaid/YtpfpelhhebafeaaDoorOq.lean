/- Scripts of calls that come in, of any size. -/
import Derived.Test.YtpfpelhhebafeaaDoorRdW
import Derived.Test.YtpfpelhhebafeaaDoorOpenOps
import Derived.Deep.Slices
import Derived.SizedLaws
import Derived.ProofKit
import Derived.OpenShut
namespace Go.Proofs.YtpfpelhhebafeaaDoor
open Go.ChangeShapes Go.WideShapes Go.ChangeAt Go.RowKit Go.Deep
set_option linter.unusedVariables false
section
variable {H : Type} {enc : TypeId × Value → H} {w : World} {base : Nat} {held : Bool} {fuel : Nat} {cs : List Value} {y : DataW H × List MemPlace}
theorem open_opX {n : Nat} (h : DataW.trod enc Tryd.prog w 0 (fun _ => true) held n 42 cs = some y) : ∃ o : OpX, True ∧ ∀ (j : Nat) (v : Value), o.arr[j]? = some v → cs[j]? = some v := by
  obtain ⟨o, h0, h1, h2, h3, h4, _, hr, _⟩ := open_op h
  obtain ⟨ba, bc, he, _⟩ := hr
  rw [he] at h4
  refine ⟨⟨o.kind, o.sec, (o.v : Int), o.n, ba, o.b.length, bc⟩, trivial, ?_⟩
  intro j v hv
  match j, hv with
  | 0, hv => cases hv; exact h0
  | 1, hv => cases hv; exact h1
  | 2, hv => cases hv; exact h2
  | 3, hv => cases hv; exact h3
  | 4, hv => cases hv; exact h4
  | j + 5, hv => simp [OpX.arr] at hv
/-- A list of records that comes in. -/
theorem open_recs {α : Type} (x0 : α) {A : α → Array Value} {c : Nat} {t e : TypeId} {Ok : α → Prop} (hA : ∀ x, (A x).size = c) (hc : 0 < c) (ht : Tryd.prog.underlying t = some (.slice e)) (hce : Tryd.prog.cellsOf e = c)
    (hC : ∀ (n : Nat) (cs : List Value) (y : DataW H × List MemPlace) (w : World), DataW.trod enc Tryd.prog w 0 (fun _ => true) held n e cs = some y → ∃ o : α, Ok o ∧ ∀ (j : Nat) (v : Value), (A o)[j]? = some v → cs[j]? = some v)
    {W : World} {v : Value} {d : DataW H} {p : List MemPlace} (hv : Value.okWide Tryd.prog W .any base t v) (h : DataW.Trod enc Tryd.prog W 0 (fun _ => true) held t v d p) :
    ∃ (len cap : Nat) (l : List α), l.length = len ∧ RAt A c W v l ∧ (∀ (i : Nat) (x : α), l[i]? = some x → Ok x) ∧
      ((len = 0 ∧ cap = 0) ∨ ∃ D : Nat → DataW H, d = .slice ((List.range len).map D) ((List.range (cap - len)).map fun j => D (len + j))) := by
  obtain ⟨ao, len, cap, rfl⟩ := okWide_slice ht hv
  obtain ⟨fuel, hf⟩ := h
  rcases open_slice ht hf with ⟨hcs, _⟩ | ⟨a, len', cap', m, n, D, Pl, hcs, _, hl, hm, hmm, hx, hel⟩
  · simp [Value.cells] at hcs
    obtain ⟨rfl, rfl, rfl⟩ := hcs
    exact ⟨0, 0, [], rfl, RAt.nil W, fun i x hi => by simp at hi, .inl ⟨rfl, rfl⟩⟩
  · simp [Value.cells] at hcs
    obtain ⟨rfl, rfl, rfl⟩ := hcs
    simp only [if_true] at hmm
    subst hmm
    simp only [Prod.mk.injEq] at hx
    have hspot : 0 < len → a.spot = none := by
      intro h
      obtain ⟨cs', h1, h2⟩ := hel 0 (by omega)
      rw [hce] at h1
      obtain ⟨_, hlen, hcell⟩ := World.cells?_some h1
      obtain ⟨o, hok, ho⟩ := hC _ _ _ _ h2
      have h0 := (hcell 0 hc).trans (ho 0 _ (Array.getElem?_eq_getElem (by rw [hA]; exact hc)))
      have := World.cell?_spot h0
      simpa [Addr.add] using this
    have each : ∀ k, ∃ o : α, k < len → Ok o ∧ ∃ g q, a = ⟨g, q, none⟩ ∧ g < W.heap.size ∧ ∀ (j : Nat) (v : Value), (A o)[j]? = some v → W.cell? ⟨g, q + k * c + j, none⟩ = some v := by
      intro k
      by_cases hk : k < len
      · obtain ⟨cs', h1, h2⟩ := hel k (by omega)
        rw [hce] at h1
        obtain ⟨_, hlen, hcell⟩ := World.cells?_some h1
        obtain ⟨o, hok, ho⟩ := hC _ _ _ _ h2
        have hsz : ∀ j v, (A o)[j]? = some v → j < c := fun j v hj => by have := (Array.getElem?_eq_some_iff.1 hj).1; rwa [hA] at this
        have h0 : W.cell? ((a.add (k * c)).add 0) = some ((A o)[0]'(by rw [hA]; exact hc)) := (hcell 0 hc).trans (ho 0 _ (Array.getElem?_eq_getElem (by rw [hA]; exact hc)))
        have hsp := hspot (by omega)
        obtain ⟨ab, aq, sp⟩ := a
        simp only at hsp
        subst hsp
        have hlt := block_of_cell h0
        refine ⟨o, fun _ => ⟨hok, ab, aq, rfl, by simpa [Addr.add_lit] using hlt, fun j v hj => ?_⟩⟩
        have h3 := (hcell j (hsz j v hj)).trans (ho j v hj)
        rw [Addr.add_lit, Addr.add_lit] at h3
        exact h3
      · exact ⟨x0, fun h => absurd h hk⟩
    obtain ⟨f, hf⟩ := Classical.axiomOfChoice each
    have hL : ((List.range len).map f).length = len := by simp
    have hget : ∀ (i : Nat) (x : α), ((List.range len).map f)[i]? = some x → i < len ∧ x = f i := by
      intro i x hi
      have h1 := (List.getElem?_eq_some_iff.1 hi).1
      rw [hL] at h1
      simp [h1] at hi
      exact ⟨h1, hi.symm⟩
    refine ⟨len, m, (List.range len).map f, hL, ⟨some a, m, by rw [hL], by rw [hL]; exact hl, by simp only [maxLen] at hm; omega, fun i x hi => ?_⟩, fun i x hi => ?_, .inr ⟨D, hx.1⟩⟩
    · obtain ⟨h1, rfl⟩ := hget i x hi
      obtain ⟨_, g, q, rfl, hg, hj⟩ := hf i h1
      exact ⟨g, q, rfl, hg, hj⟩
    · obtain ⟨h1, rfl⟩ := hget i x hi
      exact (hf i h1).1
/-- A script that comes in. -/
theorem open_opsX {W : World} {v : Value} {d : DataW H} {p : List MemPlace} (hv : Value.okWide Tryd.prog W .any base 39 v) (h : DataW.Trod enc Tryd.prog W 0 (fun _ => true) held 39 v d p) :
    ∃ (len cap : Nat) (l : List OpX), l.length = len ∧ RAt OpX.arr 5 W v l ∧ True ∧ ((len = 0 ∧ cap = 0) ∨ ∃ D : Nat → DataW H, d = .slice ((List.range len).map D) ((List.range (cap - len)).map fun j => D (len + j))) := by
  obtain ⟨len, cap, l, h1, h2, h3, h4⟩ := open_recs (Ok := fun _ : OpX => True) ⟨0, false, 0, 0, none, 0, 0⟩ OpX.size (by decide) Tryd.underlying39 Tryd.k42 (fun n cs y w h => open_opX h) hv h
  exact ⟨len, cap, l, h1, h2, trivial, h4⟩
end
end Go.Proofs.YtpfpelhhebafeaaDoor
