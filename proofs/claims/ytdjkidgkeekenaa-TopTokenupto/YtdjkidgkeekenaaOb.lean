/- A circuit that comes in, as it is read, with the bound on the bulk. -/
import Derived.Test.YtdjkidgkeekenaaK9
import Derived.Test.YtdjkidgkeekenaaBulk
import Derived.Deep.Slices
import Derived.SizedLaws
import Derived.ProofKit
import Derived.OpenShut
namespace Go.Proofs.Ytdjkidgkeekenaa
open Go.ChangeShapes Go.WideShapes Go.ChangeAt Go.RowKit Go.Deep
set_option linter.unusedVariables false
theorem Try.c3 : Try.prog.cellsOf 3 = 1 := by kernel_rfl
theorem Try.c22 : Try.prog.cellsOf 22 = 1 := by kernel_rfl
theorem Try.c23 : Try.prog.cellsOf 23 = 1 := by kernel_rfl
theorem Try.c25 : Try.prog.cellsOf 25 = 3 := by kernel_rfl
theorem Try.b3 : Try.prog.bytesOf 3 = 8 := by kernel_rfl
theorem Try.b23 : Try.prog.bytesOf 23 = 24 := by kernel_rfl
theorem weightsAll_mem {H : Type} {P : Program} {e : TypeId} {l : List (DataW H)} {d : DataW H} (hd : d ∈ l) {n : Nat} (hn : n ∈ d.weights P e) : n ∈ DataW.weightsAll P e l := by
  induction l with
  | nil => simp at hd
  | cons x l ih =>
    unfold DataW.weightsAll
    rcases List.mem_cons.1 hd with rfl | h
    · exact List.mem_append.2 (.inl hn)
    · exact List.mem_append.2 (.inr (ih h))
section
variable {H : Type} {enc : TypeId × Value → H} {w : World} {base : Nat} {held : Bool} {fuel : Nat} {cs : List Value} {y : DataW H × List MemPlace}
theorem open_row {t e : TypeId} {k : IntKind} (ht : Try.prog.underlying t = some (.slice e)) (he : Try.prog.underlying e = some (.int k)) (hc : Try.prog.cellsOf e = 1)
    (h : DataW.trod enc Try.prog w 0 (fun _ => true) held fuel t cs = some y) :
    ∃ v xs, cs = [v] ∧ RowAt k w v xs ∧ (∀ n ∈ xs, (Lit.int k n).wf = true) ∧ xs.length ≤ Rows.uptoBulk y.1 := by
  rcases open_ints ht he hc h with ⟨hcs, hy⟩ | ⟨a, len, cap, zs, hcs, _, hl, hm, hz, hy, hcell, hwz⟩
  · exact ⟨_, [], hcs, ⟨none, 0, rfl, by simp, by omega, (fun _ => rfl), (fun a ha => by cases ha)⟩, by simp, by simp⟩
  · simp only [if_true] at hz
    have hlen : (zs.take len).length = len := by rw [List.length_take]; omega
    refine ⟨_, zs.take len, hcs, ⟨some a, cap, by rw [hlen], by omega, hm, (fun e => by cases e), ?_⟩, fun n hn => hwz n (List.mem_of_mem_take hn), ?_⟩
    · intro b hb i hi
      cases hb
      rw [hlen] at hi
      rw [hcell i (by omega)]
      simp [List.getD, List.getElem?_take_of_lt hi]
    · rw [hy]
      have := bulks.slice_le (H := H) (lits k (zs.take len)) (lits k (zs.drop len))
      simp only [lits, List.length_map] at this
      show _ ≤ Rows.uptoBulk (DataW.slice (lits k (zs.take len)) (lits k (zs.drop len)))
      simp only [lits]
      omega

theorem one_int {t : TypeId} {k : IntKind} {z : Option (DataW H × List MemPlace)} {o : Nat} (ht : Try.prog.underlying t = some (.int k)) (hc : Try.prog.cellsOf t = 1) (hy : z.isSome = true)
    (h : DataW.trod enc Try.prog w base (fun _ => true) held fuel t ((cs.drop o).take (Try.prog.cellsOf t)) = z) : ∃ n, cs[o]? = some (.int k n) ∧ (Lit.int k n).wf = true := by
  obtain ⟨q, rfl⟩ := Option.isSome_iff_exists.1 hy
  rw [hc] at h
  obtain ⟨n, e, _, hw⟩ := DataW.trod_int ht h
  refine ⟨n, ?_, hw⟩
  have e2 : ((cs.drop o).take 1)[0]? = some (.int k n) := by rw [e]; rfl
  rw [List.getElem?_take_of_lt (by omega), List.getElem?_drop] at e2
  simpa using e2

theorem one_row {t e : TypeId} {k : IntKind} {z : Option (DataW H × List MemPlace)} {o : Nat} (ht : Try.prog.underlying t = some (.slice e)) (he : Try.prog.underlying e = some (.int k)) (hc : Try.prog.cellsOf e = 1) (hc1 : Try.prog.cellsOf t = 1) (hy : z.isSome = true)
    (h : DataW.trod enc Try.prog w 0 (fun _ => true) held fuel t ((cs.drop o).take (Try.prog.cellsOf t)) = z) :
    ∃ v xs q, cs[o]? = some v ∧ z = some q ∧ RowAt k w v xs ∧ (∀ n ∈ xs, (Lit.int k n).wf = true) ∧ xs.length ≤ Rows.uptoBulk q.1 := by
  obtain ⟨q, rfl⟩ := Option.isSome_iff_exists.1 hy
  rw [hc1] at h
  obtain ⟨v, xs, e1, hr, hw, hM⟩ := open_row ht he hc h
  refine ⟨v, xs, q, ?_, rfl, hr, hw, hM⟩
  have e2 : ((cs.drop o).take 1)[0]? = some v := by rw [e1]; rfl
  rw [List.getElem?_take_of_lt (by omega), List.getElem?_drop] at e2
  simpa using e2
set_option maxRecDepth 100000 in
theorem open_rows (h : DataW.trod enc Try.prog w 0 (fun _ => true) held fuel 22 cs = some y) : ∃ v ls, cs = [v] ∧ RwsI w v ls ∧ (∀ i, ∀ x ∈ rowL ls i, (Lit.int .i64 x).wf = true) ∧ ls.length ≤ Rows.uptoBulk y.1 ∧ ∀ i, i < ls.length → (rowL ls i).length ≤ Rows.uptoBulk y.1 := by
  rcases open_slice1 Try.underlying22 Try.c23 h with ⟨hcs, _⟩ | ⟨a, len, cap, m, n, V, D, Pl, hcs, _, hl, hm, hmm, hx, hel⟩
  · exact ⟨_, [], hcs, ⟨none, 0, rfl, Nat.le_refl _, Nat.zero_le _, fun k hk => absurd hk (Nat.not_lt_zero _)⟩, fun i x hx => by simp [rowL] at hx, by simp, fun i hi => absurd hi (Nat.not_lt_zero _)⟩
  · simp only [if_true] at hmm
    subst hmm
    have each : ∀ k, k < len → ∃ xs : List Int, RowAt .i64 w (V k) xs ∧ (∀ x ∈ xs, (Lit.int .i64 x).wf = true) ∧ xs.length ≤ Rows.uptoBulk (D k) := by
      intro k hk
      obtain ⟨v, xs, he, hr, hw, hM⟩ := open_row Try.underlying23 Try.underlying3 Try.c3 (hel k (by omega)).2
      simp only [List.cons.injEq, and_true] at he
      subst he
      exact ⟨xs, hr, hw, hM⟩
    obtain ⟨f, hf⟩ := choose_lt (α := List Int) (p := fun k xs => RowAt .i64 w (V k) xs ∧ (∀ x ∈ xs, (Lit.int .i64 x).wf = true) ∧ xs.length ≤ Rows.uptoBulk (D k)) each
    have hL : ((List.range len).map f).length = len := by simp
    have hA : ∀ k, k < len → rowL ((List.range len).map f) k = f k := fun k hk => by simp [rowL, hk]
    refine ⟨_, (List.range len).map f, hcs, ⟨some a, _, by rw [hL], by rw [hL]; exact hl, by simp only [maxLen] at hm; omega, fun k hk => ?_⟩, fun k x hx => ?_, ?_, fun k hk => ?_⟩
    · rw [hL] at hk
      rw [hA k hk]
      obtain ⟨ab, aq, sp⟩ := a
      have hc := (hel k (by omega)).1
      have hsp := World.cell?_spot (hel 0 (by omega)).1
      simp [Addr.add] at hsp
      subst hsp
      rw [Addr.add_lit] at hc
      exact ⟨ab, aq, V k, rfl, block_of_cell hc, hc, (hf k hk).1⟩
    · by_cases hk : k < len
      · rw [hA k hk] at hx
        exact (hf k hk).2.1 x hx
      · unfold rowL at hx
        rw [List.getElem?_eq_none (by rw [hL]; omega)] at hx
        simp at hx
    · rw [hL, hx]
      have := bulks.slice_le ((List.range len).map D) ((List.range (m - len)).map fun j => D (len + j))
      simp only [List.length_map, List.length_range] at this
      show _ ≤ Rows.uptoBulk (DataW.slice _ _)
      omega
    · rw [hL] at hk
      rw [hA k hk, hx]
      exact Nat.le_trans (hf k hk).2.2 (bulks.part (List.mem_map.2 ⟨k, List.mem_range.2 hk, rfl⟩))
theorem list3 {l : List Value} {a b c : Value} (h : l.length = 3) (h0 : l[0]? = some a) (h1 : l[1]? = some b) (h2 : l[2]? = some c) : l = [a, b, c] := by
  match l, h with
  | [x, y, z], _ => simp at h0 h1 h2; subst h0 h1 h2; rfl
theorem one_rows {z : Option (DataW H × List MemPlace)} {o : Nat} (hy : z.isSome = true) (h : DataW.trod enc Try.prog w 0 (fun _ => true) held fuel 22 ((cs.drop o).take (Try.prog.cellsOf 22)) = z) :
    ∃ v ls q, cs[o]? = some v ∧ z = some q ∧ RwsI w v ls ∧ (∀ i, ∀ x ∈ rowL ls i, (Lit.int .i64 x).wf = true) ∧ ls.length ≤ Rows.uptoBulk q.1 ∧ ∀ i, i < ls.length → (rowL ls i).length ≤ Rows.uptoBulk q.1 := by
  obtain ⟨q, rfl⟩ := Option.isSome_iff_exists.1 hy
  rw [Try.c22] at h
  obtain ⟨v, ls, e1, hr, hw, hM⟩ := open_rows h
  refine ⟨v, ls, q, ?_, rfl, hr, hw, hM⟩
  have e2 : ((cs.drop o).take 1)[0]? = some v := by rw [e1]; rfl
  rw [List.getElem?_take_of_lt (by omega), List.getElem?_drop] at e2
  simpa using e2
end
set_option maxRecDepth 100000 in
theorem open_circuit {H : Type} {enc : TypeId × Value → H} {base : Nat} {held : Bool} {W : World} {v : Value} {d : DataW H} {p : List MemPlace} (hv : Value.okWide Try.prog W .any base 25 v) (h : DataW.Trod enc Try.prog W 0 (fun _ => true) held 25 v d p)
    (hsz : Rows.uptoBulk d ≤ 1048576) :
    ∃ v0 v1 b ls aw, v = .agg #[v0, v1, .int .i64 b] ∧ RwsI W v0 ls ∧ RowAt .i64 W v1 aw ∧ Bnd ls aw ∧ b ≤ 9223372036854775807 := by
  obtain ⟨cs, rfl, hcs⟩ := okWide_struct Try.underlying25 hv
  obtain ⟨fuel, hf⟩ := h
  obtain ⟨xs, n, _, hx, hlen, hxs, hel⟩ := DataW.trod_struct Try.underlying25 hf
  rw [Try.c25] at hlen
  have hxx : ∀ i, i < 3 → (xs[i]?).isSome = true := fun i hi => by rw [List.getElem?_eq_getElem (show i < xs.length by rw [hxs]; exact hi)]; rfl
  obtain ⟨va, ls, q1, h1, e1, r1, z1, m1⟩ := one_rows (hxx 0 (by omega)) (hel 0 _ rfl)
  obtain ⟨vb, aw, q2, h2, e2, r2, z2, m2⟩ := one_row Try.underlying23 Try.underlying3 Try.c3 Try.c23 (hxx 1 (by omega)) (hel 1 _ rfl)
  obtain ⟨b, h3, w3⟩ := one_int Try.underlying3 Try.c3 (hxx 2 (by omega)) (hel 2 _ rfl)
  have hl := list3 hlen h1 h2 h3
  simp only [Prod.mk.injEq] at hx
  have hw : ∀ (i : Nat) (q : DataW H × List MemPlace), xs[i]? = some q → Rows.uptoBulk q.1 ≤ 1048576 := by
    intro i q hq
    refine Nat.le_trans ?_ hsz
    rw [hx.1]
    exact bulks.agg (List.mem_map.2 ⟨q, List.mem_of_getElem? hq, rfl⟩)
  have b1 := hw 0 q1 e1
  have b2 := hw 1 q2 e2
  have hb3 := Go.bounds_i64 w3
  refine ⟨va, vb, b, ls, aw, ?_, r1, r2, ⟨by have := m1.1; omega, fun i => ?_, by omega⟩, by omega⟩
  · congr 1
    have : cs.toList = [va, vb, .int .i64 b] := by simpa [Value.cells] using hl
    rw [← Array.toList_inj, this]
  · by_cases hi : i < ls.length
    · have := m1.2 i hi; omega
    · unfold rowL
      rw [List.getElem?_eq_none (by omega)]
      simp
set_option maxRecDepth 100000 in
/-- A list of ints that comes in. -/
theorem open_list {H : Type} {enc : TypeId × Value → H} {base : Nat} {held : Bool} {W : World} {v : Value} {d : DataW H} {p : List MemPlace} (hv : Value.okWide Try.prog W .any base 23 v) (h : DataW.Trod enc Try.prog W 0 (fun _ => true) held 23 v d p)
    (hsz : Rows.uptoBulk d ≤ 1048576) : ∃ l, RowAt .i64 W v l ∧ l.length ≤ 1048576 := by
  obtain ⟨o, n, c, rfl⟩ := okWide_slice Try.underlying23 hv
  obtain ⟨fuel, hf⟩ := h
  obtain ⟨v', xs, he, hr, _, hb⟩ := open_row Try.underlying23 Try.underlying3 Try.c3 hf
  have e2 : [Value.slice o n c] = [v'] := he
  obtain rfl := (List.cons.inj e2).1
  exact ⟨xs, hr, Nat.le_trans hb hsz⟩
end Go.Proofs.Ytdjkidgkeekenaa
