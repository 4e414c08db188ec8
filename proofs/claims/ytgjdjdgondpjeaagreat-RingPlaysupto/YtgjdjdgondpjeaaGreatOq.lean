/- What comes in: a ring, tasks, ops; what the bound on the bulk gives for lists. -/
import Derived.Test.YtgjdjdgondpjeaaGreatFiB
import Derived.Test.YtgjdjdgondpjeaaGreatRows
import Derived.Deep.Slices
import Derived.SizedLaws
import Derived.ProofKit
import Derived.OpenShut
namespace Go.Proofs.YtgjdjdgondpjeaaGreat.bulks
open Go

theorem pos {H : Type} (d : DataW H) : 0 < Rows.uptoBulk d := by
  cases d
  case lit l => cases l <;> simp [Rows.uptoBulk]
  all_goals simp [Rows.uptoBulk]
theorem count {H : Type} : (l : List (DataW H)) → l.length ≤ Rows.uptoBulkAll l
  | [] => Nat.zero_le _
  | d :: r => by
    have h1 := pos d
    have h2 := count r
    rw [Rows.uptoBulkAll, List.length_cons]
    omega
theorem slice_le {H : Type} (a b : List (DataW H)) : a.length + b.length < Rows.uptoBulk (.slice a b) := by
  have h1 := count a
  have h2 := count b
  rw [Rows.uptoBulk]
  omega
theorem mem {H : Type} : {l : List (DataW H)} → {d : DataW H} → d ∈ l → Rows.uptoBulk d ≤ Rows.uptoBulkAll l
  | x :: r, d, h => by
    rw [Rows.uptoBulkAll]
    rcases List.mem_cons.1 h with rfl | h
    · omega
    · have := mem h; omega
theorem part {H : Type} {a b : List (DataW H)} {d : DataW H} (h : d ∈ a) : Rows.uptoBulk d ≤ Rows.uptoBulk (.slice a b) := by
  have := mem h
  rw [Rows.uptoBulk]
  omega
theorem agg {H : Type} {a : List (DataW H)} {d : DataW H} (h : d ∈ a) : Rows.uptoBulk d ≤ Rows.uptoBulk (.agg a) := by
  have := mem h
  rw [Rows.uptoBulk]
  omega
theorem bound {H : Type} {l : List (DataW H)} (h : Rows.uptoSmall H l = true) : Rows.uptoBulkAll l ≤ 1048576 := of_decide_eq_true h
end Go.Proofs.YtgjdjdgondpjeaaGreat.bulks

namespace Go.Proofs.YtgjdjdgondpjeaaGreat
open Go.ChangeShapes Go.WideShapes Go.ChangeAt Go.RowKit Go.Deep
set_option linter.unusedVariables false
set_option maxRecDepth 100000
theorem Tryz.c3 : Tryz.prog.cellsOf 3 = 1 := by kernel_rfl
theorem Tryz.c40 : Tryz.prog.cellsOf 40 = 1 := by kernel_rfl
theorem Tryz.c42 : Tryz.prog.cellsOf 42 = 2 := by kernel_rfl
theorem Tryz.c44 : Tryz.prog.cellsOf 44 = 4 := by kernel_rfl
section
variable {H : Type} {enc : TypeId × Value → H} {w : World} {base : Nat} {held : Bool} {fuel : Nat} {cs : List Value} {y : DataW H × List MemPlace}
theorem one_int {t : TypeId} {k : IntKind} {z : Option (DataW H × List MemPlace)} {o : Nat} (ht : Tryz.prog.underlying t = some (.int k)) (hc : Tryz.prog.cellsOf t = 1) (hy : z.isSome = true)
    (h : DataW.trod enc Tryz.prog w base (fun _ => true) held fuel t ((cs.drop o).take (Tryz.prog.cellsOf t)) = z) : ∃ n, cs[o]? = some (.int k n) ∧ (Lit.int k n).wf = true := by
  obtain ⟨q, rfl⟩ := Option.isSome_iff_exists.1 hy
  rw [hc] at h
  obtain ⟨n, e, _, hw⟩ := DataW.trod_int ht h
  refine ⟨n, ?_, hw⟩
  have e2 : ((cs.drop o).take 1)[0]? = some (.int k n) := by rw [e]; rfl
  rw [List.getElem?_take_of_lt (by omega), List.getElem?_drop] at e2
  simpa using e2


set_option maxRecDepth 100000 in
theorem open_taskC (h : DataW.trod enc Tryz.prog w base (fun _ => true) held fuel 42 cs = some y) : ∃ p : Tk, ((0 ≤ p.1 ∧ p.1 < 18446744073709551616) ∧ 0 ≤ p.2 ∧ p.2 < 18446744073709551616) ∧ cs[0]? = some (.int .u64 p.1) ∧ cs[1]? = some (.int .u64 p.2) := by
  obtain ⟨xs, n, _, _, hlen, hxs, hel⟩ := DataW.trod_struct Tryz.underlying42 h
  rw [Tryz.c42] at hlen
  have hx : ∀ i, i < 2 → (xs[i]?).isSome = true := fun i hi => by rw [List.getElem?_eq_getElem (show i < xs.length by rw [hxs]; exact hi)]; rfl
  obtain ⟨k0, h0, w0⟩ := one_int Tryz.underlying40 Tryz.c40 (hx 0 (by omega)) (hel 0 _ rfl)
  obtain ⟨k1, h1, w1⟩ := one_int Tryz.underlying40 Tryz.c40 (hx 1 (by omega)) (hel 1 _ rfl)
  obtain ⟨b0, b1⟩ := Go.bounds_u64 w1
  obtain ⟨d0, d1⟩ := Go.bounds_u64 w0
  exact ⟨(k0, k1), ⟨⟨d0, by show k0 < _; omega⟩, b0, by show k1 < _; omega⟩, h0, h1⟩

set_option maxRecDepth 100000 in
theorem open_tasks {W : World} {v : Value} {d : DataW H} {p : List MemPlace} (hv : Value.okWide Tryz.prog W .any base 24 v) (h : DataW.Trod enc Tryz.prog W 0 (fun _ => true) held 24 v d p) :
    ∃ (len cap : Nat) (S : List Tk), S.length = len ∧ TAt W v S ∧ Tok S ∧
      ((len = 0 ∧ cap = 0) ∨ ∃ D : Nat → DataW H, d = .slice ((List.range len).map D) ((List.range (cap - len)).map fun j => D (len + j))) := by
  obtain ⟨ao, len, cap, rfl⟩ := okWide_slice Tryz.underlying24 hv
  obtain ⟨fuel, hf⟩ := h
  rcases open_slice Tryz.underlying24 hf with ⟨hcs, _⟩ | ⟨a, len', cap', m, n, D, Pl, hcs, _, hl, hm, hmm, hx, hel⟩
  · simp [Value.cells] at hcs
    obtain ⟨rfl, rfl, rfl⟩ := hcs
    exact ⟨0, 0, [], rfl, ⟨none, 0, rfl, Nat.le_refl _, Nat.zero_le _, fun k hk => absurd hk (Nat.not_lt_zero _)⟩, fun k hk => absurd hk (Nat.not_lt_zero _), .inl ⟨rfl, rfl⟩⟩
  · simp [Value.cells] at hcs
    obtain ⟨rfl, rfl, rfl⟩ := hcs
    simp only [if_true] at hmm
    subst hmm
    simp only [Prod.mk.injEq] at hx
    have each : ∀ k, k < len → ∃ o : Tk, ((0 ≤ o.1 ∧ o.1 < 18446744073709551616) ∧ 0 ≤ o.2 ∧ o.2 < 18446744073709551616) ∧ ∃ g q, a = ⟨g, q, none⟩ ∧ W.cell? ⟨g, q + k * 2, none⟩ = some (.int .u64 o.1) ∧ W.cell? ⟨g, q + k * 2 + 1, none⟩ = some (.int .u64 o.2) := by
      intro k hk
      have hsp : a.spot = none := by
        obtain ⟨cs', h1, h2⟩ := hel 0 (by omega)
        rw [Tryz.c42] at h1
        obtain ⟨_, hlen, hc⟩ := World.cells?_some h1
        obtain ⟨o, hok, ho, _⟩ := open_taskC h2
        have h0 := (hc 0 (by omega)).trans ho
        have := World.cell?_spot h0
        simpa [Addr.add] using this
      obtain ⟨cs', h1, h2⟩ := hel k (by omega)
      rw [Tryz.c42] at h1
      obtain ⟨_, hlen, hc⟩ := World.cells?_some h1
      obtain ⟨o, hok, ho0, ho1⟩ := open_taskC h2
      obtain ⟨ab, aq, sp⟩ := a
      simp only at hsp
      subst hsp
      have e0 := (hc 0 (by omega)).trans ho0
      have e1 := (hc 1 (by omega)).trans ho1
      simp only [Addr.add_lit, Nat.add_zero] at e0 e1
      exact ⟨o, hok, ab, aq, rfl, e0, e1⟩
    have hin : Inhabited Tk := ⟨(0, 0)⟩
    obtain ⟨f, hf⟩ := choose_lt (α := Tk) (p := fun k o => ((0 ≤ o.1 ∧ o.1 < 18446744073709551616) ∧ 0 ≤ o.2 ∧ o.2 < 18446744073709551616) ∧ ∃ g q, a = ⟨g, q, none⟩ ∧ W.cell? ⟨g, q + k * 2, none⟩ = some (.int .u64 o.1) ∧ W.cell? ⟨g, q + k * 2 + 1, none⟩ = some (.int .u64 o.2)) each
    have hL : ((List.range len).map f).length = len := by simp
    have hA : ∀ k, k < len → tAt ((List.range len).map f) k = f k := fun k hk => by simp [tAt, hk]
    refine ⟨len, m, (List.range len).map f, hL, ⟨some a, m, by rw [hL], by rw [hL]; exact hl, by simp only [maxLen] at hm; omega, fun k hk => ?_⟩, fun k hk => ?_, .inr ⟨D, hx.1⟩⟩
    · rw [hL] at hk
      rw [hA k hk]
      obtain ⟨_, g, q, rfl, p1, p2⟩ := hf k hk
      exact ⟨g, q, rfl, p1, p2⟩
    · rw [hL] at hk
      rw [hA k hk]
      exact (hf k hk).1
theorem Tryz.c23 : Tryz.prog.cellsOf 23 = 2 := by kernel_rfl
set_option maxRecDepth 100000 in
theorem open_ring {W : World} {v : Value} {d : DataW H} {p : List MemPlace} (hv : Value.okWide Tryz.prog W .any base 23 v) (h : DataW.Trod enc Tryz.prog W 0 (fun _ => true) held 23 v d p) :
    ∃ a b : Int, v = .agg #[.int .i64 a, .int .i64 b] ∧ (Lit.int .i64 a).wf = true ∧ (Lit.int .i64 b).wf = true := by
  obtain ⟨cs, rfl, hsz⟩ := okWide_struct Tryz.underlying23 hv
  obtain ⟨fuel, hf⟩ := h
  obtain ⟨xs, n, _, _, hlen, hxs, hel⟩ := DataW.trod_struct Tryz.underlying23 hf
  rw [Tryz.c23] at hlen
  have hx : ∀ i, i < 2 → (xs[i]?).isSome = true := fun i hi => by rw [List.getElem?_eq_getElem (show i < xs.length by rw [hxs]; exact hi)]; rfl
  obtain ⟨k0, h0, w0⟩ := one_int Tryz.underlying3 Tryz.c3 (hx 0 (by omega)) (hel 0 _ rfl)
  obtain ⟨k1, h1, w1⟩ := one_int Tryz.underlying3 Tryz.c3 (hx 1 (by omega)) (hel 1 _ rfl)
  refine ⟨k0, k1, ?_, w0, w1⟩
  congr 1
  have : cs.toList = [.int .i64 k0, .int .i64 k1] := by
    have hl2 : cs.toList.length = 2 := by simpa [Value.cells] using hlen
    apply List.ext_getElem?
    intro i
    match i with
    | 0 => simpa [Value.cells] using h0
    | 1 => simpa [Value.cells] using h1
    | i + 2 => rw [List.getElem?_eq_none (by omega), List.getElem?_eq_none (by simp)]
  rw [← Array.toList_inj, this]

/-- A list of records that comes in. -/
theorem open_recs {α : Type} (x0 : α) {A : α → Array Value} {c : Nat} {t e : TypeId} {Ok : α → Prop} (hA : ∀ x, (A x).size = c) (hc : 0 < c) (ht : Tryz.prog.underlying t = some (.slice e)) (hce : Tryz.prog.cellsOf e = c)
    (hC : ∀ (n : Nat) (cs : List Value) (y : DataW H × List MemPlace) (w : World), DataW.trod enc Tryz.prog w 0 (fun _ => true) held n e cs = some y → ∃ o : α, Ok o ∧ ∀ (j : Nat) (v : Value), (A o)[j]? = some v → cs[j]? = some v)
    {W : World} {v : Value} {d : DataW H} {p : List MemPlace} (hv : Value.okWide Tryz.prog W .any base t v) (h : DataW.Trod enc Tryz.prog W 0 (fun _ => true) held t v d p) :
    ∃ (len cap : Nat) (l : List α), l.length = len ∧ RAt A c W v l ∧ (∀ (i : Nat) (x : α), l[i]? = some x → Ok x) ∧
      ((len = 0 ∧ cap = 0) ∨ ∃ D : Nat → DataW H, d = .slice ((List.range len).map D) ((List.range (cap - len)).map fun j => D (len + j))) := by
  obtain ⟨ao, len, cap, rfl⟩ := okWide_slice ht hv
  obtain ⟨fuel, hf⟩ := h
  rcases open_slice ht hf with ⟨hcs, _⟩ | ⟨a, len', cap', m, n, D, Pl, hcs, _, hl, hm, hmm, hx, hel⟩
  · simp [Value.cells] at hcs
    obtain ⟨rfl, rfl, rfl⟩ := hcs
    exact ⟨0, 0, [], rfl, RAt.nil W, fun i x hi => by simp at hi, .inl ⟨rfl, rfl⟩⟩
  · simp [Value.cells] at hcs
    obtain ⟨rfl, rfl, rfl⟩ := hcs
    simp only [if_true] at hmm
    subst hmm
    simp only [Prod.mk.injEq] at hx
    have hspot : 0 < len → a.spot = none := by
      intro h
      obtain ⟨cs', h1, h2⟩ := hel 0 (by omega)
      rw [hce] at h1
      obtain ⟨_, hlen, hcell⟩ := World.cells?_some h1
      obtain ⟨o, hok, ho⟩ := hC _ _ _ _ h2
      have h0 := (hcell 0 hc).trans (ho 0 _ (Array.getElem?_eq_getElem (by rw [hA]; exact hc)))
      have := World.cell?_spot h0
      simpa [Addr.add] using this
    have each : ∀ k, ∃ o : α, k < len → Ok o ∧ ∃ g q, a = ⟨g, q, none⟩ ∧ g < W.heap.size ∧ ∀ (j : Nat) (v : Value), (A o)[j]? = some v → W.cell? ⟨g, q + k * c + j, none⟩ = some v := by
      intro k
      by_cases hk : k < len
      · obtain ⟨cs', h1, h2⟩ := hel k (by omega)
        rw [hce] at h1
        obtain ⟨_, hlen, hcell⟩ := World.cells?_some h1
        obtain ⟨o, hok, ho⟩ := hC _ _ _ _ h2
        have hsz : ∀ j v, (A o)[j]? = some v → j < c := fun j v hj => by have := (Array.getElem?_eq_some_iff.1 hj).1; rwa [hA] at this
        have h0 : W.cell? ((a.add (k * c)).add 0) = some ((A o)[0]'(by rw [hA]; exact hc)) := (hcell 0 hc).trans (ho 0 _ (Array.getElem?_eq_getElem (by rw [hA]; exact hc)))
        have hsp := hspot (by omega)
        obtain ⟨ab, aq, sp⟩ := a
        simp only at hsp
        subst hsp
        have hlt := block_of_cell h0
        refine ⟨o, fun _ => ⟨hok, ab, aq, rfl, by simpa [Addr.add_lit] using hlt, fun j v hj => ?_⟩⟩
        have h3 := (hcell j (hsz j v hj)).trans (ho j v hj)
        rw [Addr.add_lit, Addr.add_lit] at h3
        exact h3
      · exact ⟨x0, fun h => absurd h hk⟩
    obtain ⟨f, hf⟩ := Classical.axiomOfChoice each
    have hL : ((List.range len).map f).length = len := by simp
    have hget : ∀ (i : Nat) (x : α), ((List.range len).map f)[i]? = some x → i < len ∧ x = f i := by
      intro i x hi
      have h1 := (List.getElem?_eq_some_iff.1 hi).1
      rw [hL] at h1
      simp [h1] at hi
      exact ⟨h1, hi.symm⟩
    refine ⟨len, m, (List.range len).map f, hL, ⟨some a, m, by rw [hL], by rw [hL]; exact hl, by simp only [maxLen] at hm; omega, fun i x hi => ?_⟩, fun i x hi => ?_, .inr ⟨D, hx.1⟩⟩
    · obtain ⟨h1, rfl⟩ := hget i x hi
      obtain ⟨_, g, q, rfl, hg, hj⟩ := hf i h1
      exact ⟨g, q, rfl, hg, hj⟩
    · obtain ⟨h1, rfl⟩ := hget i x hi
      exact (hf i h1).1
set_option maxRecDepth 100000 in
theorem open_opC (h : DataW.trod enc Tryz.prog w base (fun _ => true) held fuel 44 cs = some y) : ∃ o : OpR, (W64 o.t.1 ∧ W64 o.t.2) ∧ ∀ (j : Nat) (v : Value), (opA o)[j]? = some v → cs[j]? = some v := by
  obtain ⟨xs, n, _, _, hlen, hxs, hel⟩ := DataW.trod_struct Tryz.underlying44 h
  rw [Tryz.c44] at hlen
  have hx : ∀ i, i < 3 → (xs[i]?).isSome = true := fun i hi => by rw [List.getElem?_eq_getElem (show i < xs.length by rw [hxs]; exact hi)]; rfl
  obtain ⟨k0, h0, _⟩ := one_int Tryz.underlying3 Tryz.c3 (hx 0 (by omega)) (hel 0 _ rfl)
  obtain ⟨k1, h1, w1⟩ := one_int Tryz.underlying3 Tryz.c3 (hx 1 (by omega)) (hel 1 _ rfl)
  have h6 : DataW.trod enc Tryz.prog w base (fun _ => true) held n 42 ((cs.drop 2).take (Tryz.prog.cellsOf 42)) = xs[2]? := hel 2 _ rfl
  obtain ⟨z, hz⟩ := Option.isSome_iff_exists.1 (hx 2 (by omega))
  rw [hz] at h6
  obtain ⟨p, hp, e0, e1⟩ := open_taskC h6
  rw [Tryz.c42] at e0 e1
  have g0 : cs[2]? = some (.int .u64 p.1) := by rw [List.getElem?_take_of_lt (by omega), List.getElem?_drop] at e0; exact e0
  have g1 : cs[3]? = some (.int .u64 p.2) := by rw [List.getElem?_take_of_lt (by omega), List.getElem?_drop] at e1; exact e1
  refine ⟨⟨k0, k1, p⟩, ⟨⟨hp.1.1, hp.1.2⟩, hp.2.1, hp.2.2⟩, ?_⟩
  intro j v hv
  match j, hv with
  | 0, hv => cases hv; exact h0
  | 1, hv => cases hv; exact h1
  | 2, hv => cases hv; exact g0
  | 3, hv => cases hv; exact g1
  | j + 4, hv => simp [opA] at hv
theorem open_opsR {W : World} {v : Value} {d : DataW H} {p : List MemPlace} (hv : Value.okWide Tryz.prog W .any base 25 v) (h : DataW.Trod enc Tryz.prog W 0 (fun _ => true) held 25 v d p) :
    ∃ ops : List OpR, RAt opA 4 W v ops ∧ OpsOk ops ∧ ops.length ≤ Rows.uptoBulk d := by
  obtain ⟨len, cap, l, hl, hr, hok, hd⟩ := open_recs (⟨0, 0, (0, 0)⟩ : OpR) (A := opA) (c := 4) (t := 25) (e := 44) (Ok := fun o => W64 o.t.1 ∧ W64 o.t.2) opA_size (by decide) Tryz.underlying25 Tryz.c44 (fun n cs y w h => open_opC h) hv h
  refine ⟨l, hr, fun o ho => ?_, ?_⟩
  · obtain ⟨i, hi, e⟩ := List.getElem_of_mem ho
    exact hok i o (by rw [List.getElem?_eq_getElem hi, e])
  · rcases hd with ⟨h0, _⟩ | ⟨D, hD⟩
    · omega
    · have := bulks.slice_le ((List.range len).map D) ((List.range (cap - len)).map fun j => D (len + j))
      rw [← hD] at this
      simp only [List.length_map, List.length_range] at this
      omega
theorem open_tasksB {W : World} {v : Value} {d : DataW H} {p : List MemPlace} (hv : Value.okWide Tryz.prog W .any base 24 v) (h : DataW.Trod enc Tryz.prog W 0 (fun _ => true) held 24 v d p) :
    ∃ l : List Tk, TAt W v l ∧ Tok l ∧ l.length ≤ Rows.uptoBulk d := by
  obtain ⟨len, cap, S, hl, ha, hk, hd⟩ := open_tasks hv h
  refine ⟨S, ha, hk, ?_⟩
  rcases hd with ⟨h0, _⟩ | ⟨D, hD⟩
  · omega
  · have := bulks.slice_le ((List.range len).map D) ((List.range (cap - len)).map fun j => D (len + j))
    rw [← hD] at this
    simp only [List.length_map, List.length_range] at this
    omega
end
end Go.Proofs.YtgjdjdgondpjeaaGreat
