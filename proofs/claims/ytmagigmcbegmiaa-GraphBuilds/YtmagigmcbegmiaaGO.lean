/- Edges that come in, as they are read. -/
import Derived.Test.YtmagigmcbegmiaaGE
import Derived.Test.YtmagigmcbegmiaaOpen
namespace Go.Proofs.Ytmagigmcbegmiaa
open Go.ChangeShapes Go.WideShapes Go.ChangeAt Go.RowKit Go.Deep
set_option linter.unusedVariables false
theorem Try.c50e : Try.prog.cellsOf 50 = 3 := by kernel_rfl
section
variable {H : Type} {enc : TypeId × Value → H} {w : World} {base : Nat} {held : Bool} {fuel : Nat} {cs : List Value} {y : DataW H × List MemPlace}
set_option maxRecDepth 100000 in
theorem open_edgeC (h : DataW.trod enc Try.prog w base (fun _ => true) held fuel 50 cs = some y) : ∃ p : Ed3, 0 ≤ p.2.2 ∧ cs[0]? = some (.int .i64 p.1) ∧ cs[1]? = some (.int .i64 p.2.1) ∧ cs[2]? = some (.int .u64 p.2.2) := by
  obtain ⟨xs, n, _, _, hlen, hxs, hel⟩ := DataW.trod_struct Try.underlying50 h
  rw [Try.c50e] at hlen
  have hx : ∀ i, i < 3 → (xs[i]?).isSome = true := fun i hi => by rw [List.getElem?_eq_getElem (show i < xs.length by rw [hxs]; exact hi)]; rfl
  obtain ⟨k0, h0, _⟩ := one_int Try.underlying3 Try.c3 (hx 0 (by omega)) (hel 0 _ rfl)
  obtain ⟨k1, h1, _⟩ := one_int Try.underlying3 Try.c3 (hx 1 (by omega)) (hel 1 _ rfl)
  obtain ⟨k2, h2, w2⟩ := one_int Try.underlying48 Try.c48 (hx 2 (by omega)) (hel 2 _ rfl)
  obtain ⟨b0, b1⟩ := Go.bounds_u64 w2
  exact ⟨(k0, k1, k2), b0, h0, h1, h2⟩
set_option maxRecDepth 100000 in
theorem open_edges (hf : DataW.trod enc Try.prog w 0 (fun _ => true) held fuel 45 cs = some y) : ∃ (v : Value) (l : List Ed3), cs = [v] ∧ EAt w v l ∧ ∀ j, j < l.length → 0 ≤ (eAt l j).2.2 := by
  rcases open_slice Try.underlying45 hf with ⟨hcs, _⟩ | ⟨a, len, cap, m, n, D, Pl, hcs, _, hl, hm, hmm, hx, hel⟩
  · exact ⟨_, [], hcs, ⟨none, 0, rfl, Nat.le_refl _, Nat.zero_le _, fun k hk => absurd hk (Nat.not_lt_zero _)⟩, fun k hk => absurd hk (Nat.not_lt_zero _)⟩
  · simp only [if_true] at hmm
    subst hmm
    have each : ∀ k, k < len → ∃ o : Ed3, 0 ≤ o.2.2 ∧ ∃ g q, a = ⟨g, q, none⟩ ∧ w.cell? ⟨g, q + k * 3, none⟩ = some (.int .i64 o.1) ∧ w.cell? ⟨g, q + k * 3 + 1, none⟩ = some (.int .i64 o.2.1) ∧ w.cell? ⟨g, q + k * 3 + 2, none⟩ = some (.int .u64 o.2.2) := by
      intro k hk
      have hsp : a.spot = none := by
        obtain ⟨cs', h1, h2⟩ := hel 0 (by omega)
        rw [Try.c50e] at h1
        obtain ⟨_, hlen, hc⟩ := World.cells?_some h1
        obtain ⟨o, hok, ho, _⟩ := open_edgeC h2
        have h0 := (hc 0 (by omega)).trans ho
        have := World.cell?_spot h0
        simpa [Addr.add] using this
      obtain ⟨cs', h1, h2⟩ := hel k (by omega)
      rw [Try.c50e] at h1
      obtain ⟨_, hlen, hc⟩ := World.cells?_some h1
      obtain ⟨o, hok, ho0, ho1, ho2⟩ := open_edgeC h2
      obtain ⟨ab, aq, sp⟩ := a
      simp only at hsp
      subst hsp
      have e0 := (hc 0 (by omega)).trans ho0
      have e1 := (hc 1 (by omega)).trans ho1
      have e2 := (hc 2 (by omega)).trans ho2
      simp only [Addr.add_lit, Nat.add_zero] at e0 e1 e2
      exact ⟨o, hok, ab, aq, rfl, e0, e1, e2⟩
    have hin : Inhabited Ed3 := ⟨(0, 0, 0)⟩
    obtain ⟨f, hf⟩ := choose_lt (α := Ed3) (p := fun k o => 0 ≤ o.2.2 ∧ ∃ g q, a = ⟨g, q, none⟩ ∧ w.cell? ⟨g, q + k * 3, none⟩ = some (.int .i64 o.1) ∧ w.cell? ⟨g, q + k * 3 + 1, none⟩ = some (.int .i64 o.2.1) ∧ w.cell? ⟨g, q + k * 3 + 2, none⟩ = some (.int .u64 o.2.2)) each
    have hL : ((List.range len).map f).length = len := by simp
    have hA : ∀ k, k < len → eAt ((List.range len).map f) k = f k := fun k hk => by simp [eAt, hk]
    refine ⟨_, (List.range len).map f, hcs, ⟨some a, _, by rw [hL], by rw [hL]; exact hl, by simp only [maxLen] at hm; omega, fun k hk => ?_⟩, fun k hk => ?_⟩
    · rw [hL] at hk
      rw [hA k hk]
      obtain ⟨_, g, q, rfl, p1, p2, p3⟩ := hf k hk
      exact ⟨g, q, rfl, p1, p2, p3⟩
    · rw [hL] at hk
      rw [hA k hk]
      exact (hf k hk).1
set_option maxRecDepth 100000 in
/-- A list of edges that comes in. -/
theorem open_edgeL {W : World} {v : Value} {d : DataW H} {p : List MemPlace} (hv : Value.okWide Try.prog W .any base 45 v) (h : DataW.Trod enc Try.prog W 0 (fun _ => true) held 45 v d p) :
    ∃ l : List Ed3, EAt W v l ∧ ∀ j, j < l.length → 0 ≤ (eAt l j).2.2 := by
  obtain ⟨ao, len, cap, rfl⟩ := okWide_slice Try.underlying45 hv
  obtain ⟨fuel, hf⟩ := h
  obtain ⟨u, l, he, hE, hn⟩ := open_edges hf
  simp [Value.cells] at he
  subst he
  exact ⟨l, hE, hn⟩
end
end Go.Proofs.Ytmagigmcbegmiaa
