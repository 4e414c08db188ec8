/- Roads that come in, as they are read, with their size. -/
import Derived.Test.YtmagigmcbegmiaaGO
namespace Go.Proofs.Ytmagigmcbegmiaa
open Go.ChangeShapes Go.WideShapes Go.ChangeAt Go.RowKit Go.Deep
set_option linter.unusedVariables false
theorem Try.c45e : Try.prog.cellsOf 45 = 1 := by kernel_rfl
theorem Try.c47e : Try.prog.cellsOf 47 = 2 := by kernel_rfl
section
variable {H : Type} {enc : TypeId × Value → H} {w : World} {base : Nat} {held : Bool} {fuel : Nat} {cs : List Value} {y : DataW H × List MemPlace}
set_option maxRecDepth 100000 in
theorem open_edgeU (h : DataW.trod enc Try.prog w base (fun _ => true) held fuel 50 cs = some y) : ∃ p : Ed3, (0 ≤ p.2.2 ∧ p.2.2 < 18446744073709551616) ∧ cs[0]? = some (.int .i64 p.1) ∧ cs[1]? = some (.int .i64 p.2.1) ∧ cs[2]? = some (.int .u64 p.2.2) := by
  obtain ⟨xs, n, _, _, hlen, hxs, hel⟩ := DataW.trod_struct Try.underlying50 h
  rw [Try.c50e] at hlen
  have hx : ∀ i, i < 3 → (xs[i]?).isSome = true := fun i hi => by rw [List.getElem?_eq_getElem (show i < xs.length by rw [hxs]; exact hi)]; rfl
  obtain ⟨k0, h0, _⟩ := one_int Try.underlying3 Try.c3 (hx 0 (by omega)) (hel 0 _ rfl)
  obtain ⟨k1, h1, _⟩ := one_int Try.underlying3 Try.c3 (hx 1 (by omega)) (hel 1 _ rfl)
  obtain ⟨k2, h2, w2⟩ := one_int Try.underlying48 Try.c48 (hx 2 (by omega)) (hel 2 _ rfl)
  obtain ⟨b0, b1⟩ := Go.bounds_u64 w2
  exact ⟨(k0, k1, k2), ⟨b0, (by show k2 < 18446744073709551616; omega)⟩, h0, h1, h2⟩
set_option maxRecDepth 100000 in
theorem open_edgesU (hf : DataW.trod enc Try.prog w 0 (fun _ => true) held fuel 45 cs = some y) : ∃ (v : Value) (l : List Ed3), cs = [v] ∧ EAt w v l ∧ (∀ j, j < l.length → 0 ≤ (eAt l j).2.2 ∧ (eAt l j).2.2 < 18446744073709551616) ∧ ∀ M, (∀ n ∈ (y.1).weights Try.prog 45, n ≤ M) → l.length * Try.prog.bytesOf 50 ≤ M := by
  rcases open_slice Try.underlying45 hf with ⟨hcs, _⟩ | ⟨a, len, cap, m, n, D, Pl, hcs, _, hl, hm, hmm, hx, hel⟩
  · exact ⟨_, [], hcs, ⟨none, 0, rfl, Nat.le_refl _, Nat.zero_le _, fun k hk => absurd hk (Nat.not_lt_zero _)⟩, fun k hk => absurd hk (Nat.not_lt_zero _), fun M _ => by simp⟩
  · simp only [if_true] at hmm
    subst hmm
    have each : ∀ k, k < len → ∃ o : Ed3, (0 ≤ o.2.2 ∧ o.2.2 < 18446744073709551616) ∧ ∃ g q, a = ⟨g, q, none⟩ ∧ w.cell? ⟨g, q + k * 3, none⟩ = some (.int .i64 o.1) ∧ w.cell? ⟨g, q + k * 3 + 1, none⟩ = some (.int .i64 o.2.1) ∧ w.cell? ⟨g, q + k * 3 + 2, none⟩ = some (.int .u64 o.2.2) := by
      intro k hk
      have hsp : a.spot = none := by
        obtain ⟨cs', h1, h2⟩ := hel 0 (by omega)
        rw [Try.c50e] at h1
        obtain ⟨_, hlen, hc⟩ := World.cells?_some h1
        obtain ⟨o, hok, ho, _⟩ := open_edgeU h2
        have h0 := (hc 0 (by omega)).trans ho
        have := World.cell?_spot h0
        simpa [Addr.add] using this
      obtain ⟨cs', h1, h2⟩ := hel k (by omega)
      rw [Try.c50e] at h1
      obtain ⟨_, hlen, hc⟩ := World.cells?_some h1
      obtain ⟨o, hok, ho0, ho1, ho2⟩ := open_edgeU h2
      obtain ⟨ab, aq, sp⟩ := a
      simp only at hsp
      subst hsp
      have e0 := (hc 0 (by omega)).trans ho0
      have e1 := (hc 1 (by omega)).trans ho1
      have e2 := (hc 2 (by omega)).trans ho2
      simp only [Addr.add_lit, Nat.add_zero] at e0 e1 e2
      exact ⟨o, hok, ab, aq, rfl, e0, e1, e2⟩
    have hin : Inhabited Ed3 := ⟨(0, 0, 0)⟩
    obtain ⟨f, hf⟩ := choose_lt (α := Ed3) (p := fun k o => (0 ≤ o.2.2 ∧ o.2.2 < 18446744073709551616) ∧ ∃ g q, a = ⟨g, q, none⟩ ∧ w.cell? ⟨g, q + k * 3, none⟩ = some (.int .i64 o.1) ∧ w.cell? ⟨g, q + k * 3 + 1, none⟩ = some (.int .i64 o.2.1) ∧ w.cell? ⟨g, q + k * 3 + 2, none⟩ = some (.int .u64 o.2.2)) each
    have hL : ((List.range len).map f).length = len := by simp
    have hA : ∀ k, k < len → eAt ((List.range len).map f) k = f k := fun k hk => by simp [eAt, hk]
    refine ⟨_, (List.range len).map f, hcs, ⟨some a, _, by rw [hL], by rw [hL]; exact hl, by simp only [maxLen] at hm; omega, fun k hk => ?_⟩, fun k hk => ?_, fun M hM => ?_⟩
    · rw [hL] at hk
      rw [hA k hk]
      obtain ⟨_, g, q, rfl, p1, p2, p3⟩ := hf k hk
      exact ⟨g, q, rfl, p1, p2, p3⟩
    · rw [hL] at hk
      rw [hA k hk]
      exact (hf k hk).1
    · have h1 := hM (len * Try.prog.bytesOf 50 + (m - len) * Try.prog.bytesOf 50) (by
        rw [hx]
        simp only [DataW.weights, Try.underlying45, List.length_map, List.length_range, List.mem_cons]
        left
        rw [Nat.add_mul])
      rw [hL]
      omega
set_option maxRecDepth 100000 in
theorem open_roads {W : World} {v : Value} {d : DataW H} {p : List MemPlace} (hv : Value.okWide Try.prog W .any base 47 v) (h : DataW.Trod enc Try.prog W 0 (fun _ => true) held 47 v d p) (hM : ∀ n ∈ d.weights Try.prog 47, n ≤ reachBytes) :
    ∃ N ev l, v = .agg #[.int .i64 N, ev] ∧ EAt W ev l ∧ (∀ j, j < l.length → 0 ≤ (eAt l j).2.2 ∧ (eAt l j).2.2 < 18446744073709551616) ∧ l.length * 24 ≤ 140737488351232 := by
  obtain ⟨cs, rfl, hcs⟩ := okWide_struct Try.underlying47 hv
  obtain ⟨fuel, hf⟩ := h
  obtain ⟨xs, n, _, hx, hlen, hxs, hel⟩ := DataW.trod_struct Try.underlying47 hf
  rw [Try.c47e] at hlen
  have hxx : ∀ i, i < 2 → (xs[i]?).isSome = true := fun i hi => by rw [List.getElem?_eq_getElem (show i < xs.length by rw [hxs]; exact hi)]; rfl
  obtain ⟨N, h0, w0⟩ := one_int Try.underlying3 Try.c3 (hxx 0 (by omega)) (hel 0 _ rfl)
  obtain ⟨q, hq⟩ := Option.isSome_iff_exists.1 (hxx 1 (by omega))
  have h1 : DataW.trod enc Try.prog W 0 (fun _ => true) held n 45 (((Value.agg cs).cells.toList.drop 1).take (Try.prog.cellsOf 45)) = some q := (hel 1 _ rfl).trans hq
  rw [Try.c45e] at h1
  obtain ⟨ev, l, he, hE, hw, hb⟩ := open_edgesU h1
  have hb2 := hb reachBytes (fun k hk => hM k (by
    simp only [Prod.mk.injEq] at hx
    rw [hx.1]
    simp only [DataW.weights, Try.underlying47]
    refine DataW.weights_mem_each (j := 1) (t := 45) (d := q.1) rfl ?_ k hk
    rw [List.getElem?_map, hq]; rfl))
  rw [show Try.prog.bytesOf 50 = 24 from by kernel_rfl] at hb2
  simp only [reachBytes] at hb2
  refine ⟨N, ev, l, ?_, hE, hw, hb2⟩
  congr 1
  have : cs.toList = [.int .i64 N, ev] := by
    have e2 : (((Value.agg cs).cells.toList.drop 1).take 1)[0]? = some ev := by rw [he]; rfl
    rw [List.getElem?_take_of_lt (by omega), List.getElem?_drop] at e2
    simp only [Value.cells] at h0 e2 hlen
    match hl : cs.toList, hlen with
    | [a, b], _ => simp [hl] at h0 e2; rw [h0, e2]
  rw [← Array.toList_inj, this]
end
end Go.Proofs.Ytmagigmcbegmiaa
