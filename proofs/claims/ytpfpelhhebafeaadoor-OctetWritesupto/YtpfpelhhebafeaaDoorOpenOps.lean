/- A list of calls that comes in, as it is read. -/
import Derived.Test.YtpfpelhhebafeaaDoorBackWalk
import Derived.Test.YtpfpelhhebafeaaDoorBulk
import Derived.Deep.Slices
import Derived.SizedLaws
import Derived.ProofKit
import Derived.OpenShut
namespace Go.Proofs.YtpfpelhhebafeaaDoor
open Go.ChangeShapes Go.WideShapes Go.ChangeAt Go.RowKit Go.Deep
set_option linter.unusedVariables false

theorem Tryd.k3 : Tryd.prog.cellsOf 3 = 1 := by kernel_rfl
theorem Tryd.k4 : Tryd.prog.cellsOf 4 = 1 := by kernel_rfl
theorem Tryd.k5 : Tryd.prog.cellsOf 5 = 1 := by kernel_rfl
theorem Tryd.k22 : Tryd.prog.cellsOf 22 = 1 := by kernel_rfl
theorem Tryd.k40 : Tryd.prog.cellsOf 40 = 1 := by kernel_rfl
theorem Tryd.k42 : Tryd.prog.cellsOf 42 = 5 := by kernel_rfl

section
variable {H : Type} {enc : TypeId × Value → H} {w : World} {held : Bool} {fuel : Nat} {cs : List Value}

theorem at_one {o : Nat} {v : Value} (e : (cs.drop o).take 1 = [v]) : cs[o]? = some v := by
  have e2 : ((cs.drop o).take 1)[0]? = some v := by rw [e]; rfl
  rw [List.getElem?_take_of_lt (by omega), List.getElem?_drop] at e2
  simpa using e2
theorem field_int {t : TypeId} {k : IntKind} {z : Option (DataW H × List MemPlace)} {o : Nat} (ht : Tryd.prog.underlying t = some (.int k)) (hc : Tryd.prog.cellsOf t = 1) (hy : z.isSome = true)
    (h : DataW.trod enc Tryd.prog w 0 (fun _ => true) held fuel t ((cs.drop o).take (Tryd.prog.cellsOf t)) = z) : ∃ n, cs[o]? = some (.int k n) ∧ (Lit.int k n).wf = true := by
  obtain ⟨q, rfl⟩ := Option.isSome_iff_exists.1 hy
  rw [hc] at h
  obtain ⟨n, e, _, hw⟩ := DataW.trod_int ht h
  exact ⟨n, at_one e, hw⟩
theorem field_bool {z : Option (DataW H × List MemPlace)} {o : Nat} (hy : z.isSome = true)
    (h : DataW.trod enc Tryd.prog w 0 (fun _ => true) held fuel 4 ((cs.drop o).take (Tryd.prog.cellsOf 4)) = z) : ∃ b, cs[o]? = some (.bool b) := by
  obtain ⟨q, rfl⟩ := Option.isSome_iff_exists.1 hy
  rw [Tryd.k4] at h
  obtain ⟨b, e, _⟩ := DataW.trod_bool Tryd.underlying4 h
  exact ⟨b, at_one e⟩
theorem field_bytes {z : Option (DataW H × List MemPlace)} {o : Nat} (hy : z.isSome = true)
    (h : DataW.trod enc Tryd.prog w 0 (fun _ => true) held fuel 22 ((cs.drop o).take (Tryd.prog.cellsOf 22)) = z) :
    ∃ v xs q, cs[o]? = some v ∧ z = some q ∧ RowAt .u8 w v xs ∧ (∀ n ∈ xs, (Lit.int .u8 n).wf = true) ∧ xs.length ≤ Rows.uptoBulk q.1 := by
  obtain ⟨q, rfl⟩ := Option.isSome_iff_exists.1 hy
  rw [Tryd.k22] at h
  rcases open_ints Tryd.underlying22 Tryd.underlying5 Tryd.k5 h with ⟨hcs, _⟩ | ⟨a, len, cap, zs, hcs, _, hl, hm, hz, hq, hcell, hwz⟩
  · exact ⟨_, [], q, at_one hcs, rfl, ⟨none, 0, rfl, by simp, by omega, (fun _ => rfl), (fun a ha => by cases ha)⟩, by simp, Nat.zero_le _⟩
  · simp only [if_true] at hz
    have hlen : (zs.take len).length = len := by rw [List.length_take]; omega
    refine ⟨_, zs.take len, q, at_one hcs, rfl, ⟨some a, cap, by rw [hlen], by omega, hm, (fun e => by cases e), ?_⟩, fun n hn => hwz n (List.mem_of_mem_take hn), ?_⟩
    · intro b hb i hi
      cases hb
      rw [hlen] at hi
      rw [hcell i (by omega)]
      simp [List.getD, List.getElem?_take_of_lt hi]
    · rw [hq]
      have hsl := bulks.slice_le (lits (H := H) .u8 (zs.take len)) (lits .u8 (zs.drop len))
      simp only [lits, List.length_map] at hsl
      simp only [lits] at hsl ⊢
      omega
theorem bulk_part {d : DataW H} {l : List (DataW H)} {i : Nat} (h : l[i]? = some d) : Rows.uptoBulk d ≤ Rows.uptoBulkAll l := by
  induction l generalizing i with
  | nil => simp at h
  | cons x r ih =>
    rw [Rows.uptoBulkAll]
    cases i with
    | zero => simp at h; subst h; omega
    | succ i => have := ih (by simpa using h); omega

/-- A call as it is read. -/
def OpIs (w : World) (cs : List Value) (d : DataW H) (o : OpR) : Prop :=
  cs[0]? = some (.int .i64 o.kind) ∧ cs[1]? = some (.bool o.sec) ∧ cs[2]? = some (.int .u64 (o.v : Int)) ∧ cs[3]? = some (.int .i64 o.n) ∧ cs[4]? = some o.bv ∧
    o.v < 18446744073709551616 ∧ RowAt .u8 w o.bv o.b ∧ (∀ x ∈ o.b, 0 ≤ x ∧ x < 256) ∧ o.b.length + 1 ≤ Rows.uptoBulk d
set_option maxRecDepth 100000 in
theorem open_op {y : DataW H × List MemPlace} (h : DataW.trod enc Tryd.prog w 0 (fun _ => true) held fuel 42 cs = some y) : ∃ o : OpR, OpIs w cs y.1 o := by
  obtain ⟨xs, n, _, hx, hlen, hxs, hel⟩ := DataW.trod_struct Tryd.underlying42 h
  have hxx : ∀ i, i < 5 → (xs[i]?).isSome = true := fun i hi => by rw [List.getElem?_eq_getElem (show i < xs.length by rw [hxs]; exact hi)]; rfl
  obtain ⟨kd, h0, _⟩ := field_int Tryd.underlying3 Tryd.k3 (hxx 0 (by omega)) (hel 0 _ rfl)
  obtain ⟨sec, h1⟩ := field_bool (hxx 1 (by omega)) (hel 1 _ rfl)
  obtain ⟨v, h2, w2⟩ := field_int Tryd.underlying40 Tryd.k40 (hxx 2 (by omega)) (hel 2 _ rfl)
  obtain ⟨m, h3, _⟩ := field_int Tryd.underlying3 Tryd.k3 (hxx 3 (by omega)) (hel 3 _ rfl)
  obtain ⟨bv, b, q, h4, e4, r4, z4, m4⟩ := field_bytes (hxx 4 (by omega)) (hel 4 _ rfl)
  obtain ⟨b0, b1⟩ := Go.bounds_u64 w2
  refine ⟨⟨kd, sec, v.toNat, m, bv, b⟩, h0, h1, ?_, h3, h4, by show v.toNat < _; omega, r4, fun x hx => ?_, ?_⟩
  · show cs[2]? = some (.int .u64 ((v.toNat : Nat) : Int))
    rw [show ((v.toNat : Nat) : Int) = v by omega]
    exact h2
  · have := Go.bounds_u8 (z4 x hx)
    omega
  · show b.length + 1 ≤ Rows.uptoBulk y.1
    rw [hx]
    have := bulk_part (H := H) (l := xs.map (·.1)) (i := 4) (d := q.1) (by rw [List.getElem?_map, e4]; rfl)
    simp only [Rows.uptoBulk]
    omega

theorem pick {α : Type} [Inhabited α] {p : Nat → α → Prop} {n : Nat} (h : ∀ k, k < n → ∃ x, p k x) : ∃ f : Nat → α, ∀ k, k < n → p k (f k) :=
  ⟨fun k => if hk : k < n then (h k hk).choose else default, fun k hk => by simp only [dif_pos hk]; exact (h k hk).choose_spec⟩

theorem range_sum (D : Nat → DataW H) (f : Nat → OpR) (n : Nat) (h : ∀ k, k < n → (f k).b.length + 1 ≤ Rows.uptoBulk (D k)) : ∀ i, i ≤ n → ((((List.range n).map f).take i).map fun o => 10 + o.b.length).sum ≤ 10 * Rows.uptoBulkAll ((List.range i).map D) := by
  intro i
  induction i with
  | zero => intro _; simp
  | succ i ih =>
    intro hi
    have h1 := ih (by omega)
    have h2 := h i (by omega)
    have e1 : (((List.range n).map f)[i]?) = some (f i) := by simp [show i < n by omega]
    have e2 : Rows.uptoBulkAll ((List.range (i + 1)).map D) = Rows.uptoBulkAll ((List.range i).map D) + Rows.uptoBulk (D i) := by
      rw [List.range_succ, List.map_append]
      generalize (List.range i).map D = l
      induction l with
      | nil => simp [Rows.uptoBulkAll]
      | cons x r ihr => simp only [List.cons_append, Rows.uptoBulkAll, ihr]; omega
    rw [take_sum e1, e2]
    omega

theorem bulk_snoc (D : Nat → DataW H) (i : Nat) : Rows.uptoBulkAll ((List.range (i + 1)).map D) = Rows.uptoBulkAll ((List.range i).map D) + Rows.uptoBulk (D i) := by
  rw [List.range_succ, List.map_append]
  generalize (List.range i).map D = l
  induction l with
  | nil => simp [Rows.uptoBulkAll]
  | cons x r ihr => simp only [List.cons_append, Rows.uptoBulkAll, ihr]; omega
theorem bulk_prefix (D : Nat → DataW H) (i n : Nat) (h : i ≤ n) : Rows.uptoBulkAll ((List.range i).map D) ≤ Rows.uptoBulkAll ((List.range n).map D) := by
  induction n with
  | zero =>
    obtain rfl : i = 0 := by omega
    exact Nat.le_refl _
  | succ n ih =>
    rcases Nat.lt_or_ge i (n + 1) with h1 | h1
    · have := ih (by omega); rw [bulk_snoc]; omega
    · obtain rfl : i = n + 1 := by omega
      exact Nat.le_refl _

set_option maxRecDepth 100000 in
theorem open_ops {W : World} {base : Nat} {v : Value} {d : DataW H} {p : List MemPlace} (hv : Value.okWide Tryd.prog W .any base 39 v) (h : DataW.Trod enc Tryd.prog W 0 (fun _ => true) held 39 v d p) (hb : Rows.uptoBulk d ≤ 1048576) :
    ∃ ops : List OpR, OpsAt W v ops ∧ OpsOk W ops := by
  obtain ⟨ao, len, cap, rfl⟩ := okWide_slice Tryd.underlying39 hv
  obtain ⟨fuel, hf⟩ := h
  rcases open_slice Tryd.underlying39 hf with ⟨hcs, _⟩ | ⟨a, len', cap', m, n, D, Pl, hcs, _, hl, hm, hmm, hx, hel⟩
  · simp [Value.cells] at hcs
    obtain ⟨rfl, rfl, rfl⟩ := hcs
    exact ⟨[], ⟨none, 0, rfl, Nat.le_refl _, Nat.zero_le _, fun i o h => by simp at h⟩, ⟨by simp, by simp, by simp, fun i hi => by simp, by simp⟩⟩
  · simp [Value.cells] at hcs
    obtain ⟨rfl, rfl, rfl⟩ := hcs
    simp only [if_true] at hmm
    subst hmm
    simp only [Prod.mk.injEq] at hx
    have each : ∀ k, k < len → ∃ o : OpR, (∃ g q, a = ⟨g, q, none⟩ ∧ W.cell? ⟨g, q + k * 5, none⟩ = some (.int .i64 o.kind) ∧ W.cell? ⟨g, q + k * 5 + 1, none⟩ = some (.bool o.sec) ∧ W.cell? ⟨g, q + k * 5 + 2, none⟩ = some (.int .u64 (o.v : Int)) ∧ W.cell? ⟨g, q + k * 5 + 3, none⟩ = some (.int .i64 o.n) ∧ W.cell? ⟨g, q + k * 5 + 4, none⟩ = some o.bv) ∧
        o.v < 18446744073709551616 ∧ RowAt .u8 W o.bv o.b ∧ (∀ x ∈ o.b, 0 ≤ x ∧ x < 256) ∧ o.b.length + 1 ≤ Rows.uptoBulk (D k) := by
      intro k hk
      have hsp : a.spot = none := by
        obtain ⟨cs', h1, h2⟩ := hel 0 (by omega)
        rw [Tryd.k42] at h1
        obtain ⟨_, hlen, hc⟩ := World.cells?_some h1
        obtain ⟨o, ho, _⟩ := open_op h2
        have h0 := (hc 0 (by omega)).trans ho
        have := World.cell?_spot h0
        simpa [Addr.add] using this
      obtain ⟨cs', h1, h2⟩ := hel k (by omega)
      rw [Tryd.k42] at h1
      obtain ⟨_, hlen, hc⟩ := World.cells?_some h1
      obtain ⟨o, ho0, ho1, ho2, ho3, ho4, hov, hor, hob, hol⟩ := open_op h2
      obtain ⟨ab, aq, sp⟩ := a
      simp only at hsp
      subst hsp
      have e0 := (hc 0 (by omega)).trans ho0
      have e1 := (hc 1 (by omega)).trans ho1
      have e2 := (hc 2 (by omega)).trans ho2
      have e3 := (hc 3 (by omega)).trans ho3
      have e4 := (hc 4 (by omega)).trans ho4
      simp only [Addr.add_lit, Nat.add_zero] at e0 e1 e2 e3 e4
      exact ⟨o, ⟨ab, aq, rfl, e0, e1, e2, e3, e4⟩, hov, hor, hob, hol⟩
    have hin : Inhabited OpR := ⟨⟨0, false, 0, 0, .bool false, []⟩⟩
    obtain ⟨f, hf⟩ := pick each
    have hL : ((List.range len).map f).length = len := by simp
    have hmem : ∀ o ∈ (List.range len).map f, ∃ k, k < len ∧ o = f k := fun o ho => by
      obtain ⟨k, hk, rfl⟩ := List.mem_map.1 ho
      exact ⟨k, List.mem_range.1 hk, rfl⟩
    have hbu : Rows.uptoBulkAll ((List.range len).map D) ≤ 1048576 := by
      rw [hx.1] at hb
      simp only [Rows.uptoBulk] at hb
      omega
    have hcount := bulks.count ((List.range len).map D)
    simp only [List.length_map, List.length_range] at hcount
    refine ⟨(List.range len).map f, ⟨some a, m, by rw [hL], by rw [hL]; exact hl, by simp only [maxLen] at hm; omega, fun i o ho => ?_⟩, ⟨fun o ho => ?_, fun o ho => ?_, fun o ho => ?_, fun i hi => ?_, by rw [hL]; omega⟩⟩
    · have hi : i < len := by have := (List.getElem?_eq_some_iff.1 ho).1; simpa using this
      have e : ((List.range len).map f)[i]? = some (f i) := by simp [hi]
      rw [e] at ho
      cases ho
      obtain ⟨⟨g, q, rfl, c0, c1, c2, c3, c4⟩, _⟩ := hf i hi
      exact ⟨g, q, rfl, c0, c1, c2, c3, c4⟩
    · obtain ⟨k, hk, rfl⟩ := hmem o ho; exact (hf k hk).2.1
    · obtain ⟨k, hk, rfl⟩ := hmem o ho; exact (hf k hk).2.2.1
    · obtain ⟨k, hk, rfl⟩ := hmem o ho; exact (hf k hk).2.2.2.1
    · have h1 := range_sum D f len (fun k hk => (hf k hk).2.2.2.2) i (by rw [hL] at hi; exact hi)
      have h2 : Rows.uptoBulkAll ((List.range i).map D) ≤ Rows.uptoBulkAll ((List.range len).map D) := by
        rw [hL] at hi
        exact bulk_prefix D i len hi
      omega
end
end Go.Proofs.YtpfpelhhebafeaaDoor
