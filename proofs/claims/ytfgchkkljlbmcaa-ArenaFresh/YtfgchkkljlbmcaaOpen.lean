/- Structs and scripts that come in, as they are read. -/
import Derived.Test.YtfgchkkljlbmcaaStopsHelp
import Derived.Deep.Slices
import Derived.SizedLaws
import Derived.ProofKit
import Derived.OpenShut
namespace Go.Proofs.Ytfgchkkljlbmcaa
open Go.ChangeShapes Go.WideShapes Go.ChangeAt Go.RowKit Go.Deep

variable {H : Type} {enc : TypeId × Value → H} {w : World} {base : Nat} {spare : Nat → Bool} {held : Bool} {fuel : Nat} {cs : List Value} {x : DataW H × List MemPlace}

theorem one_int {t : TypeId} {k : IntKind} {y : Option (DataW H × List MemPlace)} {o : Nat} (ht : Try.prog.underlying t = some (.int k)) (hc : Try.prog.cellsOf t = 1) (hy : y.isSome = true)
    (h : DataW.trod enc Try.prog w base spare held fuel t ((cs.drop o).take (Try.prog.cellsOf t)) = y) : ∃ n, cs[o]? = some (.int k n) ∧ (Lit.int k n).wf = true := by
  obtain ⟨z, rfl⟩ := Option.isSome_iff_exists.1 hy
  rw [hc] at h
  obtain ⟨n, e, _, hw⟩ := DataW.trod_int ht h
  refine ⟨n, ?_, hw⟩
  have e2 : ((cs.drop o).take 1)[0]? = some (.int k n) := by rw [e]; rfl
  rw [List.getElem?_take_of_lt (by omega), List.getElem?_drop] at e2
  simpa using e2
theorem one_bool {t : TypeId} {y : Option (DataW H × List MemPlace)} {o : Nat} (ht : Try.prog.underlying t = some .bool) (hc : Try.prog.cellsOf t = 1) (hy : y.isSome = true)
    (h : DataW.trod enc Try.prog w base spare held fuel t ((cs.drop o).take (Try.prog.cellsOf t)) = y) : ∃ n, cs[o]? = some (.bool n) := by
  obtain ⟨z, rfl⟩ := Option.isSome_iff_exists.1 hy
  rw [hc] at h
  obtain ⟨n, e, _⟩ := DataW.trod_bool ht h
  refine ⟨n, ?_⟩
  have e2 : ((cs.drop o).take 1)[0]? = some (.bool n) := by rw [e]; rfl
  rw [List.getElem?_take_of_lt (by omega), List.getElem?_drop] at e2
  simpa using e2
theorem Try.c3 : Try.prog.cellsOf 3 = 1 := by kernel_rfl
theorem Try.c4 : Try.prog.cellsOf 4 = 1 := by kernel_rfl
theorem Try.c29 : Try.prog.cellsOf 29 = 1 := by kernel_rfl
theorem Try.c45 : Try.prog.cellsOf 45 = 3 := by kernel_rfl
theorem Try.c47 : Try.prog.cellsOf 47 = 9 := by kernel_rfl
theorem list3 {l : List Value} {a b c : Value} (h : l.length = 3) (h0 : l[0]? = some a) (h1 : l[1]? = some b) (h2 : l[2]? = some c) : l = [a, b, c] := by
  match l, h with
  | [x, y, z], _ => simp at h0 h1 h2; subst h0 h1 h2; rfl

theorem open_faultC (h : DataW.trod enc Try.prog w base spare held fuel 45 cs = some x) : ∃ a b c, cs = [.int .i64 a, .int .i64 b, .int .i64 c] := by
  obtain ⟨xs, n, _, _, hlen, hxs, hel⟩ := DataW.trod_struct Try.underlying45 h
  rw [Try.c45] at hlen
  have hx : ∀ i, i < 3 → (xs[i]?).isSome = true := fun i hi => by rw [List.getElem?_eq_getElem (show i < xs.length by rw [hxs]; exact hi)]; rfl
  obtain ⟨a, ha, _⟩ := one_int Try.underlying3 Try.c3 (hx 0 (by omega)) (hel 0 _ rfl)
  obtain ⟨b, hb, _⟩ := one_int Try.underlying3 Try.c3 (hx 1 (by omega)) (hel 1 _ rfl)
  obtain ⟨c, hc, _⟩ := one_int Try.underlying3 Try.c3 (hx 2 (by omega)) (hel 2 _ rfl)
  exact ⟨a, b, c, list3 hlen ha hb hc⟩

set_option maxRecDepth 100000 in
theorem open_fault {W : World} {v : Value} {d : DataW H} {p : List MemPlace} (hv : Value.okWide Try.prog W .any base 45 v) (h : DataW.Trod enc Try.prog W 0 spare held 45 v d p) :
    ∃ a b c, v = .agg #[.int .i64 a, .int .i64 b, .int .i64 c] := by
  obtain ⟨cs, rfl, hsz⟩ := okWide_struct Try.underlying45 hv
  obtain ⟨fuel, hf⟩ := h
  obtain ⟨a, b, c, e⟩ := open_faultC hf
  refine ⟨a, b, c, ?_⟩
  congr 1
  have : cs.toList = [.int .i64 a, .int .i64 b, .int .i64 c] := by simpa [Value.cells] using e
  rw [← Array.toList_inj, this]

/-- The numbers of a call are words. -/
structure Opr.Ok (o : Opr) : Prop where
  want0 : 0 ≤ o.want
  want1 : o.want < 18446744073709551616
  put0 : 0 ≤ o.put
  put1 : o.put < 18446744073709551616

set_option maxRecDepth 100000 in
theorem open_opC (h : DataW.trod enc Try.prog w base spare held fuel 47 cs = some x) : ∃ o : Opr, o.Ok ∧ ∀ (j : Nat) (v : Value), o.arr[j]? = some v → cs[j]? = some v := by
  obtain ⟨xs, n, _, _, hlen, hxs, hel⟩ := DataW.trod_struct Try.underlying47 h
  rw [Try.c47] at hlen
  have hx : ∀ i, i < 7 → (xs[i]?).isSome = true := fun i hi => by rw [List.getElem?_eq_getElem (show i < xs.length by rw [hxs]; exact hi)]; rfl
  obtain ⟨k0, h0, _⟩ := one_int Try.underlying3 Try.c3 (hx 0 (by omega)) (hel 0 _ rfl)
  obtain ⟨k1, h1⟩ := one_bool Try.underlying4 Try.c4 (hx 1 (by omega)) (hel 1 _ rfl)
  obtain ⟨k2, h2, _⟩ := one_int Try.underlying3 Try.c3 (hx 2 (by omega)) (hel 2 _ rfl)
  obtain ⟨k3, h3, _⟩ := one_int Try.underlying3 Try.c3 (hx 3 (by omega)) (hel 3 _ rfl)
  obtain ⟨k4, h4, w4⟩ := one_int Try.underlying29 Try.c29 (hx 4 (by omega)) (hel 4 _ rfl)
  obtain ⟨k5, h5, w5⟩ := one_int Try.underlying29 Try.c29 (hx 5 (by omega)) (hel 5 _ rfl)
  obtain ⟨b0, b1⟩ := Go.bounds_u64 w4
  obtain ⟨d0, d1⟩ := Go.bounds_u64 w5
  have h6 : DataW.trod enc Try.prog w base spare held n 45 ((cs.drop 6).take (Try.prog.cellsOf 45)) = xs[6]? := hel 6 _ rfl
  obtain ⟨z, hz⟩ := Option.isSome_iff_exists.1 (hx 6 (by omega))
  rw [hz] at h6
  obtain ⟨a, b, c, e⟩ := open_faultC h6
  have e' : (cs.drop 6).take 3 = [.int .i64 a, .int .i64 b, .int .i64 c] := by
    have := e
    rw [Try.c45] at this
    exact this
  have g : ∀ j, j < 3 → cs[6 + j]? = ([.int .i64 a, .int .i64 b, .int .i64 c] : List Value)[j]? := fun j hj => by
    rw [← e', List.getElem?_take_of_lt hj, List.getElem?_drop]
  refine ⟨⟨k0, k1, k2, k3, k4, k5, a, b, c⟩, ⟨b0, by show k4 < _; omega, d0, by show k5 < _; omega⟩, ?_⟩
  intro j v hv
  match j, hv with
  | 0, hv => cases hv; exact h0
  | 1, hv => cases hv; exact h1
  | 2, hv => cases hv; exact h2
  | 3, hv => cases hv; exact h3
  | 4, hv => cases hv; exact h4
  | 5, hv => cases hv; exact h5
  | 6, hv => cases hv; exact g 0 (by omega)
  | 7, hv => cases hv; exact g 1 (by omega)
  | 8, hv => cases hv; exact g 2 (by omega)
  | j + 9, hv => simp [Opr.arr] at hv

set_option maxRecDepth 100000 in
theorem open_script {W : World} {v : Value} {d : DataW H} {p : List MemPlace} (hv : Value.okWide Try.prog W .any base 22 v) (h : DataW.Trod enc Try.prog W 0 (fun _ => true) held 22 v d p) :
    ∃ (ao : Option Addr) (len cap : Nat) (ops : Nat → Opr), v = .slice ao len cap ∧ len ≤ cap ∧ cap ≤ maxLen ∧ Script W ao len ops ∧ (∀ k, k < len → (ops k).Ok) ∧
      ((len = 0 ∧ cap = 0) ∨ ∃ D : Nat → DataW H, d = .slice ((List.range len).map D) ((List.range (cap - len)).map fun j => D (len + j))) := by
  obtain ⟨ao, len, cap, rfl⟩ := okWide_slice Try.underlying22 hv
  obtain ⟨fuel, hf⟩ := h
  rcases open_slice Try.underlying22 hf with ⟨hcs, _⟩ | ⟨a, len', cap', m, n, D, Pl, hcs, _, hl, hm, hmm, hx, hel⟩
  · simp [Value.cells] at hcs
    obtain ⟨rfl, rfl, rfl⟩ := hcs
    exact ⟨none, 0, 0, fun _ => ⟨0, false, 0, 0, 0, 0, 0, 0, 0⟩, rfl, Nat.le_refl _, Nat.zero_le _, fun k hk => absurd hk (Nat.not_lt_zero _), fun k hk => absurd hk (Nat.not_lt_zero _), .inl ⟨rfl, rfl⟩⟩
  · simp [Value.cells] at hcs
    obtain ⟨rfl, rfl, rfl⟩ := hcs
    simp only [if_true] at hmm
    subst hmm
    simp only [Prod.mk.injEq] at hx
    have hspot : 0 < len → a.spot = none := by
      intro h
      obtain ⟨cs', h1, h2⟩ := hel 0 (by omega)
      rw [Try.c47] at h1
      obtain ⟨_, hlen, hc⟩ := World.cells?_some h1
      obtain ⟨o, hok, ho⟩ := open_opC h2
      have h0 := (hc 0 (by omega)).trans (ho 0 _ rfl)
      have := World.cell?_spot h0
      simpa [Addr.add] using this
    have each : ∀ k, k < len → ∃ o : Opr, o.Ok ∧ a.block < W.heap.size ∧ a.spot = none ∧ ∀ (j : Nat) (v : Value), o.arr[j]? = some v → W.cell? (a.add (k * 9 + j)) = some v := by
      intro k hk
      have hsp := hspot (by omega)
      obtain ⟨cs', h1, h2⟩ := hel k (by omega)
      rw [Try.c47] at h1
      obtain ⟨_, hlen, hc⟩ := World.cells?_some h1
      obtain ⟨o, hok, ho⟩ := open_opC h2
      have hcell : ∀ (j : Nat) (v : Value), o.arr[j]? = some v → W.cell? ((a.add (k * 9)).add j) = some v := fun j v hv => by
        rw [hc j (by have := (Array.getElem?_eq_some_iff.1 hv).1; simpa [Opr.arr] using this)]; exact ho j v hv
      obtain ⟨ab, aq, sp⟩ := a
      simp only at hsp
      subst hsp
      have hadd : ∀ j, ((⟨ab, aq, none⟩ : Addr).add (k * 9)).add j = (⟨ab, aq, none⟩ : Addr).add (k * 9 + j) := fun j => by
        simp only [Addr.add_lit]; congr 1; omega
      have h0 := hcell 0 _ rfl
      rw [hadd] at h0
      refine ⟨o, hok, ?_, rfl, fun j v hv => by rw [← hadd]; exact hcell j v hv⟩
      rw [Addr.add_lit] at h0
      rcases Nat.lt_or_ge ab W.heap.size with hl | hl
      · exact hl
      · unfold World.cell? at h0
        rw [Array.getElem?_eq_none hl] at h0
        simp at h0
    have hin : Inhabited Opr := ⟨⟨0, false, 0, 0, 0, 0, 0, 0, 0⟩⟩
    obtain ⟨ops, hops⟩ := choose_lt (α := Opr) (p := fun k o => o.Ok ∧ a.block < W.heap.size ∧ a.spot = none ∧ ∀ (j : Nat) (v : Value), o.arr[j]? = some v → W.cell? (a.add (k * 9 + j)) = some v) each
    refine ⟨some a, len, _, ops, rfl, hl, hm, ?_, fun k hk => (hops k hk).1, .inr ⟨D, hx.1⟩⟩
    intro k hk
    obtain ⟨_, hb, hs, hc⟩ := hops k hk
    obtain ⟨ab, aq, sp⟩ := a
    simp only at hs
    subst hs
    refine ⟨ab, aq, rfl, hb, fun j v hv => ?_⟩
    have := hc j v hv
    rw [Addr.add_lit] at this
    rw [Nat.add_assoc]
    exact this
end Go.Proofs.Ytfgchkkljlbmcaa
