/- A log that comes in, as it is read. -/
import Derived.Test.YtfgchkkljlbmcaaOpen
import Derived.Test.YtfgchkkljlbmcaaToldRow
import Derived.Test.YtfgchkkljlbmcaaIn
namespace Go.Proofs.Ytfgchkkljlbmcaa
open Go.ChangeShapes Go.WideShapes Go.ChangeAt Go.RowKit Go.Deep

variable {H : Type} {enc : TypeId × Value → H} {w : World} {base : Nat} {spare : Nat → Bool} {held : Bool} {fuel : Nat} {cs : List Value} {x : DataW H × List MemPlace}
theorem Try.c31 : Try.prog.cellsOf 31 = 8 := by kernel_rfl

set_option maxRecDepth 100000 in
theorem open_accC (h : DataW.trod enc Try.prog w base spare held fuel 31 cs = some x) : ∃ a : Acc, ∀ (j : Nat) (v : Value), a.arr[j]? = some v → cs[j]? = some v := by
  obtain ⟨xs, n, _, _, hlen, hxs, hel⟩ := DataW.trod_struct Try.underlying31 h
  have hx : ∀ i, i < 8 → (xs[i]?).isSome = true := fun i hi => by rw [List.getElem?_eq_getElem (show i < xs.length by rw [hxs]; exact hi)]; rfl
  obtain ⟨k0, h0, _⟩ := one_int Try.underlying3 Try.c3 (hx 0 (by omega)) (hel 0 _ rfl)
  obtain ⟨k1, h1, _⟩ := one_int Try.underlying3 Try.c3 (hx 1 (by omega)) (hel 1 _ rfl)
  obtain ⟨k2, h2, _⟩ := one_int Try.underlying3 Try.c3 (hx 2 (by omega)) (hel 2 _ rfl)
  obtain ⟨k3, h3, _⟩ := one_int Try.underlying29 Try.c29 (hx 3 (by omega)) (hel 3 _ rfl)
  obtain ⟨k4, h4, _⟩ := one_int Try.underlying29 Try.c29 (hx 4 (by omega)) (hel 4 _ rfl)
  obtain ⟨k5, h5, _⟩ := one_int Try.underlying29 Try.c29 (hx 5 (by omega)) (hel 5 _ rfl)
  obtain ⟨k6, h6, _⟩ := one_int Try.underlying29 Try.c29 (hx 6 (by omega)) (hel 6 _ rfl)
  obtain ⟨k7, h7⟩ := one_bool Try.underlying4 Try.c4 (hx 7 (by omega)) (hel 7 _ rfl)
  refine ⟨⟨k0, k1, k2, k3, k4, k5, k6, k7⟩, ?_⟩
  intro j v hv
  match j, hv with
  | 0, hv => cases hv; exact h0
  | 1, hv => cases hv; exact h1
  | 2, hv => cases hv; exact h2
  | 3, hv => cases hv; exact h3
  | 4, hv => cases hv; exact h4
  | 5, hv => cases hv; exact h5
  | 6, hv => cases hv; exact h6
  | 7, hv => cases hv; exact h7
  | j + 8, hv => simp [Acc.arr] at hv

set_option maxRecDepth 100000 in
theorem open_accs {W : World} {v : Value} {d : DataW H} {p : List MemPlace} (hv : Value.okWide Try.prog W .any base 27 v) (h : DataW.Trod enc Try.prog W 0 (fun _ => true) held 27 v d p) :
    ∃ (ao : Option Addr) (len cap : Nat) (log : List Acc), v = .slice ao len cap ∧ log.length = len ∧ AccsIn W (.slice ao len cap) log ∧
      ((len = 0 ∧ cap = 0) ∨ ∃ D : Nat → DataW H, d = .slice ((List.range len).map D) ((List.range (cap - len)).map fun j => D (len + j))) := by
  obtain ⟨ao, len, cap, rfl⟩ := okWide_slice Try.underlying27 hv
  obtain ⟨fuel, hf⟩ := h
  rcases open_slice Try.underlying27 hf with ⟨hcs, _⟩ | ⟨a, len', cap', m, n, D, Pl, hcs, _, hl, hm, hmm, hx, hel⟩
  · simp [Value.cells] at hcs
    obtain ⟨rfl, rfl, rfl⟩ := hcs
    exact ⟨none, 0, 0, [], rfl, rfl, ⟨none, 0, rfl, fun k hk => absurd hk (Nat.not_lt_zero _)⟩, .inl ⟨rfl, rfl⟩⟩
  · simp [Value.cells] at hcs
    obtain ⟨rfl, rfl, rfl⟩ := hcs
    simp only [if_true] at hmm
    subst hmm
    simp only [Prod.mk.injEq] at hx
    have hspot : 0 < len → a.spot = none := by
      intro h
      obtain ⟨cs', h1, h2⟩ := hel 0 (by omega)
      rw [Try.c31] at h1
      obtain ⟨_, hlen, hc⟩ := World.cells?_some h1
      obtain ⟨o, ho⟩ := open_accC h2
      have h0 := (hc 0 (by omega)).trans (ho 0 _ rfl)
      have := World.cell?_spot h0
      simpa [Addr.add] using this
    have each : ∀ k, k < len → ∃ o : Acc, a.block < W.heap.size ∧ ∀ (j : Nat) (v : Value), o.arr[j]? = some v → W.cell? ⟨a.block, a.off + (k * 8 + j), none⟩ = some v := by
      intro k hk
      have hsp := hspot (by omega)
      obtain ⟨cs', h1, h2⟩ := hel k (by omega)
      rw [Try.c31] at h1
      obtain ⟨_, hlen, hc⟩ := World.cells?_some h1
      obtain ⟨o, ho⟩ := open_accC h2
      have hcell : ∀ (j : Nat) (v : Value), o.arr[j]? = some v → W.cell? ((a.add (k * 8)).add j) = some v := fun j v hv => by
        rw [hc j (by have := (Array.getElem?_eq_some_iff.1 hv).1; simpa [Acc.arr] using this)]; exact ho j v hv
      obtain ⟨ab, aq, sp⟩ := a
      simp only at hsp
      subst hsp
      have hadd : ∀ j, ((⟨ab, aq, none⟩ : Addr).add (k * 8)).add j = ⟨ab, aq + (k * 8 + j), none⟩ := fun j => by
        simp only [Addr.add_lit]; congr 1; omega
      have h0 := hcell 0 _ rfl
      rw [hadd] at h0
      refine ⟨o, ?_, fun j v hv => by rw [← hadd]; exact hcell j v hv⟩
      rcases Nat.lt_or_ge ab W.heap.size with hl | hl
      · exact hl
      · unfold World.cell? at h0
        rw [Array.getElem?_eq_none hl] at h0
        simp at h0
    have hin : Inhabited Acc := ⟨Acc.zero⟩
    obtain ⟨ops, hops⟩ := choose_lt (α := Acc) (p := fun k o => a.block < W.heap.size ∧ ∀ (j : Nat) (v : Value), o.arr[j]? = some v → W.cell? ⟨a.block, a.off + (k * 8 + j), none⟩ = some v) each
    refine ⟨some a, len, m, (List.range len).map ops, rfl, by simp, ?_, .inr ⟨D, hx.1⟩⟩
    refine ⟨some a, m, by simp, fun k hk => ?_⟩
    have hk' : k < len := by simpa using hk
    have hsp := hspot (by omega)
    obtain ⟨ab, aq, sp⟩ := a
    simp only at hsp
    subst hsp
    refine ⟨ab, aq, ops k, rfl, (hops k hk').1, ?_, by simpa using hl, by simpa [maxLen] using hm, fun j x hx => ?_⟩
    · rw [List.getElem?_map, List.getElem?_range hk']; rfl
    · rw [Nat.add_assoc]; exact (hops k hk').2 j x hx
end Go.Proofs.Ytfgchkkljlbmcaa
