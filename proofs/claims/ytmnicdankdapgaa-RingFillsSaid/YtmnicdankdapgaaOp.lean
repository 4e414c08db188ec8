/- Tasks and shapes that come in, as they are read. -/
import Derived.Test.YtmnicdankdapgaaT2
namespace Go.Proofs.Ytmnicdankdapgaa
open Go.ChangeShapes Go.WideShapes Go.ChangeAt Go.RowKit Go.Deep
set_option linter.unusedVariables false
theorem Try.c3 : Try.prog.cellsOf 3 = 1 := by kernel_rfl
theorem Try.c33 : Try.prog.cellsOf 33 = 1 := by kernel_rfl
theorem Try.c35 : Try.prog.cellsOf 35 = 2 := by kernel_rfl
section
variable {H : Type} {enc : TypeId × Value → H} {w : World} {base : Nat} {held : Bool} {fuel : Nat} {cs : List Value} {y : DataW H × List MemPlace}
theorem one_int {t : TypeId} {k : IntKind} {z : Option (DataW H × List MemPlace)} {o : Nat} (ht : Try.prog.underlying t = some (.int k)) (hc : Try.prog.cellsOf t = 1) (hy : z.isSome = true)
    (h : DataW.trod enc Try.prog w base (fun _ => true) held fuel t ((cs.drop o).take (Try.prog.cellsOf t)) = z) : ∃ n, cs[o]? = some (.int k n) ∧ (Lit.int k n).wf = true := by
  obtain ⟨q, rfl⟩ := Option.isSome_iff_exists.1 hy
  rw [hc] at h
  obtain ⟨n, e, _, hw⟩ := DataW.trod_int ht h
  refine ⟨n, ?_, hw⟩
  have e2 : ((cs.drop o).take 1)[0]? = some (.int k n) := by rw [e]; rfl
  rw [List.getElem?_take_of_lt (by omega), List.getElem?_drop] at e2
  simpa using e2


set_option maxRecDepth 100000 in
theorem open_taskC (h : DataW.trod enc Try.prog w base (fun _ => true) held fuel 35 cs = some y) : ∃ p : Tk, ((0 ≤ p.1 ∧ p.1 < 18446744073709551616) ∧ 0 ≤ p.2 ∧ p.2 < 18446744073709551616) ∧ cs[0]? = some (.int .u64 p.1) ∧ cs[1]? = some (.int .u64 p.2) := by
  obtain ⟨xs, n, _, _, hlen, hxs, hel⟩ := DataW.trod_struct Try.underlying35 h
  rw [Try.c35] at hlen
  have hx : ∀ i, i < 2 → (xs[i]?).isSome = true := fun i hi => by rw [List.getElem?_eq_getElem (show i < xs.length by rw [hxs]; exact hi)]; rfl
  obtain ⟨k0, h0, w0⟩ := one_int Try.underlying33 Try.c33 (hx 0 (by omega)) (hel 0 _ rfl)
  obtain ⟨k1, h1, w1⟩ := one_int Try.underlying33 Try.c33 (hx 1 (by omega)) (hel 1 _ rfl)
  obtain ⟨b0, b1⟩ := Go.bounds_u64 w1
  obtain ⟨d0, d1⟩ := Go.bounds_u64 w0
  exact ⟨(k0, k1), ⟨⟨d0, by show k0 < _; omega⟩, b0, by show k1 < _; omega⟩, h0, h1⟩

set_option maxRecDepth 100000 in
theorem open_tasks {W : World} {v : Value} {d : DataW H} {p : List MemPlace} (hv : Value.okWide Try.prog W .any base 24 v) (h : DataW.Trod enc Try.prog W 0 (fun _ => true) held 24 v d p) :
    ∃ (len cap : Nat) (S : List Tk), S.length = len ∧ TAt W v S ∧ Tok S ∧
      ((len = 0 ∧ cap = 0) ∨ ∃ D : Nat → DataW H, d = .slice ((List.range len).map D) ((List.range (cap - len)).map fun j => D (len + j))) := by
  obtain ⟨ao, len, cap, rfl⟩ := okWide_slice Try.underlying24 hv
  obtain ⟨fuel, hf⟩ := h
  rcases open_slice Try.underlying24 hf with ⟨hcs, _⟩ | ⟨a, len', cap', m, n, D, Pl, hcs, _, hl, hm, hmm, hx, hel⟩
  · simp [Value.cells] at hcs
    obtain ⟨rfl, rfl, rfl⟩ := hcs
    exact ⟨0, 0, [], rfl, ⟨none, 0, rfl, Nat.le_refl _, Nat.zero_le _, fun k hk => absurd hk (Nat.not_lt_zero _)⟩, fun k hk => absurd hk (Nat.not_lt_zero _), .inl ⟨rfl, rfl⟩⟩
  · simp [Value.cells] at hcs
    obtain ⟨rfl, rfl, rfl⟩ := hcs
    simp only [if_true] at hmm
    subst hmm
    simp only [Prod.mk.injEq] at hx
    have each : ∀ k, k < len → ∃ o : Tk, ((0 ≤ o.1 ∧ o.1 < 18446744073709551616) ∧ 0 ≤ o.2 ∧ o.2 < 18446744073709551616) ∧ ∃ g q, a = ⟨g, q, none⟩ ∧ W.cell? ⟨g, q + k * 2, none⟩ = some (.int .u64 o.1) ∧ W.cell? ⟨g, q + k * 2 + 1, none⟩ = some (.int .u64 o.2) := by
      intro k hk
      have hsp : a.spot = none := by
        obtain ⟨cs', h1, h2⟩ := hel 0 (by omega)
        rw [Try.c35] at h1
        obtain ⟨_, hlen, hc⟩ := World.cells?_some h1
        obtain ⟨o, hok, ho, _⟩ := open_taskC h2
        have h0 := (hc 0 (by omega)).trans ho
        have := World.cell?_spot h0
        simpa [Addr.add] using this
      obtain ⟨cs', h1, h2⟩ := hel k (by omega)
      rw [Try.c35] at h1
      obtain ⟨_, hlen, hc⟩ := World.cells?_some h1
      obtain ⟨o, hok, ho0, ho1⟩ := open_taskC h2
      obtain ⟨ab, aq, sp⟩ := a
      simp only at hsp
      subst hsp
      have e0 := (hc 0 (by omega)).trans ho0
      have e1 := (hc 1 (by omega)).trans ho1
      simp only [Addr.add_lit, Nat.add_zero] at e0 e1
      exact ⟨o, hok, ab, aq, rfl, e0, e1⟩
    have hin : Inhabited Tk := ⟨(0, 0)⟩
    obtain ⟨f, hf⟩ := choose_lt (α := Tk) (p := fun k o => ((0 ≤ o.1 ∧ o.1 < 18446744073709551616) ∧ 0 ≤ o.2 ∧ o.2 < 18446744073709551616) ∧ ∃ g q, a = ⟨g, q, none⟩ ∧ W.cell? ⟨g, q + k * 2, none⟩ = some (.int .u64 o.1) ∧ W.cell? ⟨g, q + k * 2 + 1, none⟩ = some (.int .u64 o.2)) each
    have hL : ((List.range len).map f).length = len := by simp
    have hA : ∀ k, k < len → tAt ((List.range len).map f) k = f k := fun k hk => by simp [tAt, hk]
    refine ⟨len, m, (List.range len).map f, hL, ⟨some a, m, by rw [hL], by rw [hL]; exact hl, by simp only [maxLen] at hm; omega, fun k hk => ?_⟩, fun k hk => ?_, .inr ⟨D, hx.1⟩⟩
    · rw [hL] at hk
      rw [hA k hk]
      obtain ⟨_, g, q, rfl, p1, p2⟩ := hf k hk
      exact ⟨g, q, rfl, p1, p2⟩
    · rw [hL] at hk
      rw [hA k hk]
      exact (hf k hk).1
theorem Try.c23 : Try.prog.cellsOf 23 = 2 := by kernel_rfl
set_option maxRecDepth 100000 in
theorem open_ring {W : World} {v : Value} {d : DataW H} {p : List MemPlace} (hv : Value.okWide Try.prog W .any base 23 v) (h : DataW.Trod enc Try.prog W 0 (fun _ => true) held 23 v d p) :
    ∃ a b : Int, v = .agg #[.int .i64 a, .int .i64 b] ∧ (Lit.int .i64 a).wf = true ∧ (Lit.int .i64 b).wf = true := by
  obtain ⟨cs, rfl, hsz⟩ := okWide_struct Try.underlying23 hv
  obtain ⟨fuel, hf⟩ := h
  obtain ⟨xs, n, _, _, hlen, hxs, hel⟩ := DataW.trod_struct Try.underlying23 hf
  rw [Try.c23] at hlen
  have hx : ∀ i, i < 2 → (xs[i]?).isSome = true := fun i hi => by rw [List.getElem?_eq_getElem (show i < xs.length by rw [hxs]; exact hi)]; rfl
  obtain ⟨k0, h0, w0⟩ := one_int Try.underlying3 Try.c3 (hx 0 (by omega)) (hel 0 _ rfl)
  obtain ⟨k1, h1, w1⟩ := one_int Try.underlying3 Try.c3 (hx 1 (by omega)) (hel 1 _ rfl)
  refine ⟨k0, k1, ?_, w0, w1⟩
  congr 1
  have : cs.toList = [.int .i64 k0, .int .i64 k1] := by
    have hl2 : cs.toList.length = 2 := by simpa [Value.cells] using hlen
    apply List.ext_getElem?
    intro i
    match i with
    | 0 => simpa [Value.cells] using h0
    | 1 => simpa [Value.cells] using h1
    | i + 2 => rw [List.getElem?_eq_none (by omega), List.getElem?_eq_none (by simp)]
  rw [← Array.toList_inj, this]

theorem Try.c50 : Try.prog.cellsOf 50 = 4 := by kernel_rfl
set_option maxRecDepth 100000 in
theorem open_steal {W : World} {v : Value} {d : DataW H} {p : List MemPlace} (hv : Value.okWide Try.prog W .any base 50 v) (h : DataW.Trod enc Try.prog W 0 (fun _ => true) held 50 v d p) :
    ∃ a b c d : Int, v = .agg #[.int .i64 a, .int .i64 b, .int .i64 c, .int .i64 d] ∧ (Lit.int .i64 a).wf = true ∧ (Lit.int .i64 b).wf = true ∧ (Lit.int .i64 c).wf = true ∧ (Lit.int .i64 d).wf = true := by
  obtain ⟨cs, rfl, hsz⟩ := okWide_struct Try.underlying50 hv
  obtain ⟨fuel, hf⟩ := h
  obtain ⟨xs, n, _, _, hlen, hxs, hel⟩ := DataW.trod_struct Try.underlying50 hf
  rw [Try.c50] at hlen
  have hx : ∀ i, i < 4 → (xs[i]?).isSome = true := fun i hi => by rw [List.getElem?_eq_getElem (show i < xs.length by rw [hxs]; exact hi)]; rfl
  obtain ⟨k0, h0, w0⟩ := one_int Try.underlying3 Try.c3 (hx 0 (by omega)) (hel 0 _ rfl)
  obtain ⟨k1, h1, w1⟩ := one_int Try.underlying3 Try.c3 (hx 1 (by omega)) (hel 1 _ rfl)
  obtain ⟨k2, h2, w2⟩ := one_int Try.underlying3 Try.c3 (hx 2 (by omega)) (hel 2 _ rfl)
  obtain ⟨k3, h3, w3⟩ := one_int Try.underlying3 Try.c3 (hx 3 (by omega)) (hel 3 _ rfl)
  refine ⟨k0, k1, k2, k3, ?_, w0, w1, w2, w3⟩
  congr 1
  have : cs.toList = [.int .i64 k0, .int .i64 k1, .int .i64 k2, .int .i64 k3] := by
    have hl2 : cs.toList.length = 4 := by simpa [Value.cells] using hlen
    apply List.ext_getElem?
    intro i
    match i with
    | 0 => simpa [Value.cells] using h0
    | 1 => simpa [Value.cells] using h1
    | 2 => simpa [Value.cells] using h2
    | 3 => simpa [Value.cells] using h3
    | i + 4 => rw [List.getElem?_eq_none (by omega), List.getElem?_eq_none (by simp)]
  rw [← Array.toList_inj, this]

theorem Try.c69 : Try.prog.cellsOf 69 = 5 := by kernel_rfl
set_option maxRecDepth 100000 in
theorem open_bucket {W : World} {v : Value} {d : DataW H} {p : List MemPlace} (hv : Value.okWide Try.prog W .any base 69 v) (h : DataW.Trod enc Try.prog W 0 (fun _ => true) held 69 v d p) :
    ∃ a b c d e : Int, v = .agg #[.int .i64 a, .int .i64 b, .int .i64 c, .int .i64 d, .int .u64 e] ∧ (Lit.int .i64 a).wf = true ∧ (Lit.int .i64 b).wf = true ∧ (Lit.int .i64 c).wf = true ∧ (Lit.int .i64 d).wf = true ∧ (Lit.int .u64 e).wf = true := by
  obtain ⟨cs, rfl, hsz⟩ := okWide_struct Try.underlying69 hv
  obtain ⟨fuel, hf⟩ := h
  obtain ⟨xs, n, _, _, hlen, hxs, hel⟩ := DataW.trod_struct Try.underlying69 hf
  rw [Try.c69] at hlen
  have hx : ∀ i, i < 5 → (xs[i]?).isSome = true := fun i hi => by rw [List.getElem?_eq_getElem (show i < xs.length by rw [hxs]; exact hi)]; rfl
  obtain ⟨k0, h0, w0⟩ := one_int Try.underlying3 Try.c3 (hx 0 (by omega)) (hel 0 _ rfl)
  obtain ⟨k1, h1, w1⟩ := one_int Try.underlying3 Try.c3 (hx 1 (by omega)) (hel 1 _ rfl)
  obtain ⟨k2, h2, w2⟩ := one_int Try.underlying3 Try.c3 (hx 2 (by omega)) (hel 2 _ rfl)
  obtain ⟨k3, h3, w3⟩ := one_int Try.underlying3 Try.c3 (hx 3 (by omega)) (hel 3 _ rfl)
  obtain ⟨k4, h4, w4⟩ := one_int Try.underlying33 Try.c33 (hx 4 (by omega)) (hel 4 _ rfl)
  refine ⟨k0, k1, k2, k3, k4, ?_, w0, w1, w2, w3, w4⟩
  congr 1
  have : cs.toList = [.int .i64 k0, .int .i64 k1, .int .i64 k2, .int .i64 k3, .int .u64 k4] := by
    have hl2 : cs.toList.length = 5 := by simpa [Value.cells] using hlen
    apply List.ext_getElem?
    intro i
    match i with
    | 0 => simpa [Value.cells] using h0
    | 1 => simpa [Value.cells] using h1
    | 2 => simpa [Value.cells] using h2
    | 3 => simpa [Value.cells] using h3
    | 4 => simpa [Value.cells] using h4
    | i + 5 => rw [List.getElem?_eq_none (by omega), List.getElem?_eq_none (by simp)]
  rw [← Array.toList_inj, this]

end
end Go.Proofs.Ytmnicdankdapgaa
