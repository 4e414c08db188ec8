/- What comes in: makes, picks. -/
import Derived.Test.YtabmmjhcfhplnaaQa
import Derived.Deep.Slices
import Derived.SizedLaws
import Derived.ProofKit
import Derived.OpenShut
/- A list of starts that comes in, as it is read. -/
namespace Go.Proofs.Ytabmmjhcfhplnaa
open Go.ChangeShapes Go.WideShapes Go.ChangeAt Go.RowKit Go.Deep
set_option linter.unusedVariables false

theorem Try.c52 : Try.prog.cellsOf 52 = 2 := by kernel_rfl
theorem Try.c3 : Try.prog.cellsOf 3 = 1 := by kernel_rfl
theorem Try.c27 : Try.prog.cellsOf 27 = 1 := by kernel_rfl

section
variable {H : Type} {enc : TypeId × Value → H} {w : World} {base : Nat} {held : Bool} {fuel : Nat} {cs : List Value} {y : DataW H × List MemPlace}

theorem one_int {t : TypeId} {k : IntKind} {z : Option (DataW H × List MemPlace)} {o : Nat} (ht : Try.prog.underlying t = some (.int k)) (hc : Try.prog.cellsOf t = 1) (hy : z.isSome = true)
    (h : DataW.trod enc Try.prog w base (fun _ => true) held fuel t ((cs.drop o).take (Try.prog.cellsOf t)) = z) : ∃ n, cs[o]? = some (.int k n) ∧ (Lit.int k n).wf = true := by
  obtain ⟨q, rfl⟩ := Option.isSome_iff_exists.1 hy
  rw [hc] at h
  obtain ⟨n, e, _, hw⟩ := DataW.trod_int ht h
  refine ⟨n, ?_, hw⟩
  have e2 : ((cs.drop o).take 1)[0]? = some (.int k n) := by rw [e]; rfl
  rw [List.getElem?_take_of_lt (by omega), List.getElem?_drop] at e2
  simpa using e2

set_option maxRecDepth 100000 in
theorem open_mkC (h : DataW.trod enc Try.prog w base (fun _ => true) held fuel 52 cs = some y) : ∃ p : Mk, (0 ≤ p.2 ∧ p.2 < 18446744073709551616) ∧ cs[0]? = some (.int .i64 p.1) ∧ cs[1]? = some (.int .u64 p.2) := by
  obtain ⟨xs, n, _, _, hlen, hxs, hel⟩ := DataW.trod_struct Try.underlying52 h
  rw [Try.c52] at hlen
  have hx : ∀ i, i < 2 → (xs[i]?).isSome = true := fun i hi => by rw [List.getElem?_eq_getElem (show i < xs.length by rw [hxs]; exact hi)]; rfl
  obtain ⟨k0, h0, _⟩ := one_int Try.underlying3 Try.c3 (hx 0 (by omega)) (hel 0 _ rfl)
  obtain ⟨k1, h1, w1⟩ := one_int Try.underlying27 Try.c27 (hx 1 (by omega)) (hel 1 _ rfl)
  obtain ⟨b0, b1⟩ := Go.bounds_u64 w1
  exact ⟨(k0, k1), ⟨b0, by show k1 < _; omega⟩, h0, h1⟩

set_option maxRecDepth 100000 in
theorem open_makes {W : World} {v : Value} {d : DataW H} {p : List MemPlace} (hv : Value.okWide Try.prog W .any base 45 v) (h : DataW.Trod enc Try.prog W 0 (fun _ => true) held 45 v d p) :
    ∃ (len cap : Nat) (S : List Mk), S.length = len ∧ MAt W v S ∧ (∀ j, j < S.length → 0 ≤ (mAt S j).2 ∧ (mAt S j).2 < 18446744073709551616) ∧
      ((len = 0 ∧ cap = 0) ∨ ∃ D : Nat → DataW H, d = .slice ((List.range len).map D) ((List.range (cap - len)).map fun j => D (len + j))) := by
  obtain ⟨ao, len, cap, rfl⟩ := okWide_slice Try.underlying45 hv
  obtain ⟨fuel, hf⟩ := h
  rcases open_slice Try.underlying45 hf with ⟨hcs, _⟩ | ⟨a, len', cap', m, n, D, Pl, hcs, _, hl, hm, hmm, hx, hel⟩
  · simp [Value.cells] at hcs
    obtain ⟨rfl, rfl, rfl⟩ := hcs
    exact ⟨0, 0, [], rfl, ⟨none, 0, rfl, Nat.le_refl _, Nat.zero_le _, fun k hk => absurd hk (Nat.not_lt_zero _)⟩, fun k hk => absurd hk (Nat.not_lt_zero _), .inl ⟨rfl, rfl⟩⟩
  · simp [Value.cells] at hcs
    obtain ⟨rfl, rfl, rfl⟩ := hcs
    simp only [if_true] at hmm
    subst hmm
    simp only [Prod.mk.injEq] at hx
    have each : ∀ k, k < len → ∃ o : Mk, (0 ≤ o.2 ∧ o.2 < 18446744073709551616) ∧ ∃ g q, a = ⟨g, q, none⟩ ∧ W.cell? ⟨g, q + k * 2, none⟩ = some (.int .i64 o.1) ∧ W.cell? ⟨g, q + k * 2 + 1, none⟩ = some (.int .u64 o.2) := by
      intro k hk
      have hsp : a.spot = none := by
        obtain ⟨cs', h1, h2⟩ := hel 0 (by omega)
        rw [Try.c52] at h1
        obtain ⟨_, hlen, hc⟩ := World.cells?_some h1
        obtain ⟨o, hok, ho, _⟩ := open_mkC h2
        have h0 := (hc 0 (by omega)).trans ho
        have := World.cell?_spot h0
        simpa [Addr.add] using this
      obtain ⟨cs', h1, h2⟩ := hel k (by omega)
      rw [Try.c52] at h1
      obtain ⟨_, hlen, hc⟩ := World.cells?_some h1
      obtain ⟨o, hok, ho0, ho1⟩ := open_mkC h2
      obtain ⟨ab, aq, sp⟩ := a
      simp only at hsp
      subst hsp
      have e0 := (hc 0 (by omega)).trans ho0
      have e1 := (hc 1 (by omega)).trans ho1
      simp only [Addr.add_lit, Nat.add_zero] at e0 e1
      exact ⟨o, hok, ab, aq, rfl, e0, e1⟩
    have hin : Inhabited Mk := ⟨(0, 0)⟩
    obtain ⟨f, hf⟩ := choose_lt (α := Mk) (p := fun k o => (0 ≤ o.2 ∧ o.2 < 18446744073709551616) ∧ ∃ g q, a = ⟨g, q, none⟩ ∧ W.cell? ⟨g, q + k * 2, none⟩ = some (.int .i64 o.1) ∧ W.cell? ⟨g, q + k * 2 + 1, none⟩ = some (.int .u64 o.2)) each
    have hL : ((List.range len).map f).length = len := by simp
    have hA : ∀ k, k < len → mAt ((List.range len).map f) k = f k := fun k hk => by simp [mAt, hk]
    refine ⟨len, m, (List.range len).map f, hL, ⟨some a, m, by rw [hL], by rw [hL]; exact hl, by simp only [maxLen] at hm; omega, fun k hk => ?_⟩, fun k hk => ?_, .inr ⟨D, hx.1⟩⟩
    · rw [hL] at hk
      rw [hA k hk]
      obtain ⟨_, g, q, rfl, p1, p2⟩ := hf k hk
      exact ⟨g, q, rfl, p1, p2⟩
    · rw [hL] at hk
      rw [hA k hk]
      exact (hf k hk).1

set_option maxRecDepth 100000 in
theorem open_picks {W : World} {v : Value} {d : DataW H} {p : List MemPlace} (hv : Value.okWide Try.prog W .any base 22 v) (h : DataW.Trod enc Try.prog W 0 (fun _ => true) held 22 v d p) :
    ∃ (len cap : Nat) (S : List Int), S.length = len ∧ IAt W v S ∧
      ((len = 0 ∧ cap = 0) ∨ ∃ D : Nat → DataW H, d = .slice ((List.range len).map D) ((List.range (cap - len)).map fun j => D (len + j))) := by
  obtain ⟨ao, len, cap, rfl⟩ := okWide_slice Try.underlying22 hv
  obtain ⟨fuel, hf⟩ := h
  rcases open_slice Try.underlying22 hf with ⟨hcs, _⟩ | ⟨a, len', cap', m, n, D, Pl, hcs, _, hl, hm, hmm, hx, hel⟩
  · simp [Value.cells] at hcs
    obtain ⟨rfl, rfl, rfl⟩ := hcs
    exact ⟨0, 0, [], rfl, ⟨none, 0, rfl, Nat.le_refl _, Nat.zero_le _, fun k hk => absurd hk (Nat.not_lt_zero _)⟩, .inl ⟨rfl, rfl⟩⟩
  · simp [Value.cells] at hcs
    obtain ⟨rfl, rfl, rfl⟩ := hcs
    simp only [if_true] at hmm
    subst hmm
    simp only [Prod.mk.injEq] at hx
    have each : ∀ k, k < len → ∃ o : Int, ∃ g q, a = ⟨g, q, none⟩ ∧ W.cell? ⟨g, q + k, none⟩ = some (.int .i64 o) := by
      intro k hk
      have hsp : a.spot = none := by
        obtain ⟨cs', h1, h2⟩ := hel 0 (by omega)
        rw [Try.c3] at h1
        obtain ⟨_, hlen, hc⟩ := World.cells?_some h1
        obtain ⟨o, ho, _⟩ := DataW.trod_int Try.underlying3 h2
        have h0 := (hc 0 (by omega)).trans (show cs'[0]? = some (.int .i64 o) by rw [ho]; rfl)
        have := World.cell?_spot h0
        simpa [Addr.add] using this
      obtain ⟨cs', h1, h2⟩ := hel k (by omega)
      rw [Try.c3] at h1
      obtain ⟨_, hlen, hc⟩ := World.cells?_some h1
      obtain ⟨o, ho0, _⟩ := DataW.trod_int Try.underlying3 h2
      obtain ⟨ab, aq, sp⟩ := a
      simp only at hsp
      subst hsp
      have e0 := (hc 0 (by omega)).trans (show cs'[0]? = some (.int .i64 o) by rw [ho0]; rfl)
      simp only [Addr.add_lit, Nat.add_zero, Nat.mul_one] at e0
      exact ⟨o, ab, aq, rfl, e0⟩
    have hin : Inhabited Int := ⟨0⟩
    obtain ⟨f, hf⟩ := choose_lt (α := Int) (p := fun k o => ∃ g q, a = ⟨g, q, none⟩ ∧ W.cell? ⟨g, q + k, none⟩ = some (.int .i64 o)) each
    have hL : ((List.range len).map f).length = len := by simp
    have hA : ∀ k, k < len → nth ((List.range len).map f) k = f k := fun k hk => by simp [nth, List.getD, hk]
    refine ⟨len, m, (List.range len).map f, hL, ⟨some a, m, by rw [hL], by rw [hL]; exact hl, by simp only [maxLen] at hm; omega, fun k hk => ?_⟩, .inr ⟨D, hx.1⟩⟩
    rw [hL] at hk
    rw [hA k hk]
    obtain ⟨g, q, rfl, p1⟩ := hf k hk
    exact ⟨g, q, rfl, p1⟩
end
end Go.Proofs.Ytabmmjhcfhplnaa
