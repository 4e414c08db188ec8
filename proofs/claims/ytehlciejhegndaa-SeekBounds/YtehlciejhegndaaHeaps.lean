import Derived.Test.YtehlciejhegndaaSRow
import Derived.Test.YtehlciejhegndaaPath
import Derived.Deep.AppendLies
import Derived.Test.YtehlciejhegndaaLists
import Derived.Deep.CutRange
import Derived.Deep.RegionLaw
/- A heap of pairs, the lesser first number ahead, in plain words. -/
namespace Go.Proofs.Ytehlciejhegndaa
set_option linter.unusedVariables false

abbrev Pr := Int × Int
def lb (l : List Pr) (i : Nat) : Int := (sAt l i).1
/-- The heap's order. -/
def Hp (l : List Pr) : Prop := ∀ i, 1 ≤ i → i < l.length → lb l ((i - 1) / 2) ≤ lb l i
theorem Hp.root {l : List Pr} (h : Hp l) (i : Nat) (hi : i < l.length) : lb l 0 ≤ lb l i := by
  induction i using Nat.strongRecOn with
  | _ i ih =>
    rcases Nat.eq_zero_or_pos i with h0 | h0
    · subst h0; omega
    · have h1 := h i h0 hi
      have h2 := ih ((i - 1) / 2) (by omega) (by omega)
      omega
theorem sAt_mem {l : List Pr} {i : Nat} (hi : i < l.length) : sAt l i ∈ l := by
  unfold sAt; rw [List.getElem?_eq_getElem hi]; exact List.getElem_mem hi
theorem mem_sAt {l : List Pr} {e : Pr} (h : e ∈ l) : ∃ i, i < l.length ∧ sAt l i = e := by
  obtain ⟨i, hi, rfl⟩ := List.getElem_of_mem h
  exact ⟨i, hi, by unfold sAt; rw [List.getElem?_eq_getElem hi]; rfl⟩
theorem Hp.least {l : List Pr} (h : Hp l) {e : Pr} (he : e ∈ l) : lb l 0 ≤ e.1 := by
  obtain ⟨i, hi, rfl⟩ := mem_sAt he
  exact h.root i hi
theorem sAt_set (l : List Pr) (i j : Nat) (x : Pr) (hi : i < l.length) : sAt (l.set i x) j = if j = i then x else sAt l j := by
  unfold sAt
  by_cases e : j = i
  · subst e; rw [if_pos rfl, List.getElem?_set_self hi]; rfl
  · rw [if_neg e, List.getElem?_set_ne (fun h => e h.symm)]
theorem sAt_append (l : List Pr) (x : Pr) (j : Nat) : sAt (l ++ [x]) j = if j < l.length then sAt l j else if j = l.length then x else (0, 0) := by
  unfold sAt
  by_cases h : j < l.length
  · rw [if_pos h, List.getElem?_append_left h]
  · rw [if_neg h, List.getElem?_append_right (by omega)]
    by_cases e : j = l.length
    · subst e; simp
    · rw [if_neg e]
      rw [List.getElem?_eq_none (by simp; omega)]; rfl
/-- Two places exchanged: the same members. -/
theorem swap_mem (l : List Pr) (i j : Nat) (hi : i < l.length) (hj : j < l.length) (e : Pr) : e ∈ (l.set i (sAt l j)).set j (sAt l i) ↔ e ∈ l := by
  have h1 : sAt l i = l[i] := by unfold sAt; rw [List.getElem?_eq_getElem hi]; rfl
  have h2 : sAt l j = l[j] := by unfold sAt; rw [List.getElem?_eq_getElem hj]; rfl
  rw [h1, h2]
  exact (List.set_set_perm hi hj).mem_iff

/-- On the way up: x is to stand at the place a; all else is in order. -/
structure Up (m : List Pr) (a : Nat) (x : Pr) (l : List Pr) : Prop where
  lt : a < m.length
  len : m.length = l.length + 1
  mem : ∀ e, e ∈ m.set a x ↔ e ∈ l ∨ e = x
  ord : ∀ i, 1 ≤ i → i < m.length → i ≠ a → lb (m.set a x) ((i - 1) / 2) ≤ lb (m.set a x) i
  kid : ∀ c, 1 ≤ a → c < m.length → 1 ≤ c → (c - 1) / 2 = a → lb (m.set a x) ((a - 1) / 2) ≤ lb (m.set a x) c
theorem up_start (l : List Pr) (x : Pr) (h : Hp l) : Up (l ++ [x]) l.length x l := by
  have e : (l ++ [x]).set l.length x = l ++ [x] := by
    apply List.ext_getElem
    · simp
    · intro i h1 h2
      by_cases hh : i = l.length
      · subst hh; simp
      · rw [List.getElem_set_ne (fun h => hh h.symm)]
  refine ⟨by simp, by simp, fun y => by rw [e]; simp, ?_, ?_⟩
  · intro i h1 h2 h3
    rw [e]
    simp at h2
    have := h i h1 (by omega)
    unfold lb at this ⊢
    rw [sAt_append, sAt_append, if_pos (by omega), if_pos (by omega)]
    exact this
  · intro c h1 h2 h3 h4
    simp at h2
    omega
theorem up_step {m : List Pr} {a : Nat} {x : Pr} {l : List Pr} (h : Up m a x l) (ha : 0 < a) (hx : x.1 < lb m ((a - 1) / 2)) : Up (m.set a (sAt m ((a - 1) / 2))) ((a - 1) / 2) x l := by
  have hp : (a - 1) / 2 < m.length := by have := h.lt; omega
  have hne : (a - 1) / 2 ≠ a := by omega
  have hlt := h.lt
  obtain ⟨p, hpe⟩ : ∃ p, p = (a - 1) / 2 := ⟨_, rfl⟩
  rw [← hpe] at hp hne hx ⊢
  have A : ∀ j, sAt ((m.set a (sAt m p)).set p x) j = if j = p then x else if j = a then sAt m p else sAt m j := fun j => by
    rw [sAt_set _ _ _ _ (by simpa using hp), sAt_set _ _ _ _ hlt]
  have B : ∀ j, sAt (m.set a x) j = if j = a then x else sAt m j := fun j => sAt_set _ _ _ _ hlt
  have es : (m.set a (sAt m p)).set p x = ((m.set a x).set a (sAt (m.set a x) p)).set p (sAt (m.set a x) a) := by
    rw [B, B, if_neg hne, if_pos rfl, List.set_set]
  refine ⟨by simpa using hp, by simpa using h.len, fun e => ?_, ?_, ?_⟩
  · rw [es, swap_mem _ _ _ (by simpa using hlt) (by simpa using hp)]
    exact h.mem e
  · intro i h1 h2 h3
    simp at h2
    have o := h.ord i h1 h2
    have k := h.kid i ha h2 h1
    unfold lb at o k hx ⊢
    rw [A, A, if_neg h3]
    rw [B, B] at o
    rw [B, B] at k
    rw [← hpe, if_neg hne] at k
    by_cases e1 : (i - 1) / 2 = p
    · rw [if_pos e1]
      by_cases e2 : i = a
      · rw [if_pos e2]; omega
      · rw [if_neg e2]
        have o2 := o e2
        rw [e1, if_neg hne, if_neg e2] at o2
        omega
    · rw [if_neg e1]
      by_cases e2 : i = a
      · exact absurd (by rw [e2]; exact hpe.symm) e1
      · rw [if_neg e2]
        by_cases e3 : (i - 1) / 2 = a
        · rw [if_pos e3]
          have k2 := k e3
          rw [if_neg e2] at k2
          exact k2
        · rw [if_neg e3]
          have o2 := o e2
          rw [if_neg e3, if_neg e2] at o2
          exact o2
  · intro c hp1 h2 h3 h4
    simp at h2
    have o1 := h.ord p hp1 hp hne
    have o2 := h.ord c h3 h2
    unfold lb at o1 o2 hx ⊢
    rw [A, A, if_neg (by omega), if_neg (by omega)]
    rw [B, B, if_neg (by omega), if_neg hne] at o1
    by_cases e2 : c = a
    · rw [if_neg (by omega), if_pos e2]; exact o1
    · rw [if_neg (by omega), if_neg e2]
      have o3 := o2 e2
      rw [B, B, h4, if_neg hne, if_neg e2] at o3
      omega
theorem up_end {m : List Pr} {a : Nat} {x : Pr} {l : List Pr} (h : Up m a x l) (hx : 0 < a → ¬ x.1 < lb m ((a - 1) / 2)) : Hp (m.set a x) ∧ (m.set a x).length = l.length + 1 ∧ ∀ e, e ∈ m.set a x ↔ e ∈ l ∨ e = x := by
  refine ⟨fun i h1 h2 => ?_, by simpa using h.len, h.mem⟩
  simp at h2
  by_cases e : i = a
  · subst e
    have := hx h1
    unfold lb at this ⊢
    rw [sAt_set _ _ _ _ h.lt, sAt_set _ _ _ _ h.lt, if_neg (by omega), if_pos rfl]
    omega
  · exact h.ord i h1 h2 e
end Go.Proofs.Ytehlciejhegndaa

/- A heap of pairs: the first taken out, in plain words. -/
namespace Go.Proofs.Ytehlciejhegndaa
set_option linter.unusedVariables false

/-- On the way down: x is to stand at the place a; all else is in order. -/
structure Down (m : List Pr) (a : Nat) (x : Pr) (l : List Pr) : Prop where
  lt : a < m.length
  len : l.length = m.length + 1
  mem : ∀ e, e ∈ l ↔ e = sAt l 0 ∨ e ∈ m.set a x
  ord : ∀ i, 1 ≤ i → i < m.length → (i - 1) / 2 ≠ a → lb (m.set a x) ((i - 1) / 2) ≤ lb (m.set a x) i
  kid : ∀ c, 1 ≤ a → c < m.length → 1 ≤ c → (c - 1) / 2 = a → lb (m.set a x) ((a - 1) / 2) ≤ lb (m.set a x) c

theorem sAt_take (l : List Pr) (n j : Nat) (h : j < n) : sAt (l.take n) j = sAt l j := by
  unfold sAt; rw [List.getElem?_take_of_lt h]
theorem down_start (l : List Pr) (n : Nat) (hl : l.length = n + 1) (hn : 0 < n) (h : Hp l) : Down (l.take n) 0 (sAt l n) l := by
  have hlen : (l.take n).length = n := by rw [List.length_take]; omega
  have A : ∀ j, j < n → sAt ((l.take n).set 0 (sAt l n)) j = if j = 0 then sAt l n else sAt l j := fun j hj => by
    rw [sAt_set _ _ _ _ (by omega), sAt_take _ _ _ hj]
  refine ⟨by omega, by omega, fun e => ⟨fun he => ?_, fun he => ?_⟩, ?_, ?_⟩
  · obtain ⟨i, hi, rfl⟩ := mem_sAt he
    rcases Nat.eq_zero_or_pos i with h0 | h0
    · subst h0; exact .inl rfl
    · right
      rcases Nat.lt_or_ge i n with h1 | h1
      · have := sAt_mem (l := (l.take n).set 0 (sAt l n)) (i := i) (by rw [List.length_set]; omega)
        rw [A i h1, if_neg (by omega)] at this
        exact this
      · obtain rfl : i = n := by omega
        have := sAt_mem (l := (l.take i).set 0 (sAt l i)) (i := 0) (by rw [List.length_set]; omega)
        rw [A 0 (by omega), if_pos rfl] at this
        exact this
  · rcases he with rfl | he
    · exact sAt_mem (by omega)
    · obtain ⟨i, hi, rfl⟩ := mem_sAt he
      rw [List.length_set] at hi
      rw [A i (by omega)]
      by_cases e : i = 0
      · rw [if_pos e]; exact sAt_mem (by omega)
      · rw [if_neg e]; exact sAt_mem (by omega)
  · intro i h1 h2 h3
    have := h i h1 (by omega)
    unfold lb at this ⊢
    rw [A _ (by omega), A _ (by omega), if_neg h3, if_neg (by omega)]
    exact this
  · intro c h1; omega
theorem down_step {m : List Pr} {a c : Nat} {x : Pr} {l : List Pr} (h : Down m a x l) (hc : c < m.length) (hc1 : 1 ≤ c) (hca : (c - 1) / 2 = a) (hs : ∀ s, 1 ≤ s → s < m.length → (s - 1) / 2 = a → lb m c ≤ lb m s) (hx : lb m c < x.1) : Down (m.set a (sAt m c)) c x l := by
  have hlt := h.lt
  have hne : c ≠ a := by omega
  have A : ∀ j, sAt ((m.set a (sAt m c)).set c x) j = if j = c then x else if j = a then sAt m c else sAt m j := fun j => by
    rw [sAt_set _ _ _ _ (by simpa using hc), sAt_set _ _ _ _ hlt]
  have B : ∀ j, sAt (m.set a x) j = if j = a then x else sAt m j := fun j => sAt_set _ _ _ _ hlt
  have es : (m.set a (sAt m c)).set c x = ((m.set a x).set a (sAt (m.set a x) c)).set c (sAt (m.set a x) a) := by
    rw [B, B, if_neg hne, if_pos rfl, List.set_set]
  refine ⟨by simpa using hc, by simpa using h.len, fun e => ?_, ?_, ?_⟩
  · rw [es, swap_mem _ _ _ (by simpa using hlt) (by simpa using hc)]
    exact h.mem e
  · intro i h1 h2 h3
    simp at h2
    have o := h.ord i h1 h2
    have k := h.kid c
    have s := hs i h1 h2
    unfold lb at o k s hx ⊢
    rw [A, A, if_neg h3]
    rw [B, B] at o
    rw [B, B] at k
    by_cases e1 : (i - 1) / 2 = a
    · rw [if_pos e1]
      by_cases e2 : i = c
      · rw [if_pos e2]; omega
      · rw [if_neg e2, if_neg (by omega)]
        exact s e1
    · rw [if_neg e1]
      have o2 := o e1
      rw [if_neg e1] at o2
      by_cases e2 : i = c
      · exact absurd (by rw [e2]; exact hca) e1
      · rw [if_neg e2]
        by_cases e3 : i = a
        · rw [if_pos e3]
          have k2 := k (by omega) hc hc1 hca
          rw [if_neg (by omega), if_neg hne] at k2
          rw [e3]; exact k2
        · rw [if_neg e3]
          rw [if_neg e3] at o2
          exact o2
  · intro d h1 h2 h3 h4
    simp at h2
    have o := h.ord d h3 h2 (by omega)
    unfold lb at o ⊢
    rw [A, A, hca, if_neg (by omega), if_pos rfl, if_neg (by omega), if_neg (by omega)]
    rw [B, B, h4, if_neg hne, if_neg (by omega)] at o
    exact o
theorem down_end {m : List Pr} {a : Nat} {x : Pr} {l : List Pr} (h : Down m a x l) (hx : ∀ s, 1 ≤ s → s < m.length → (s - 1) / 2 = a → x.1 ≤ lb m s) : Hp (m.set a x) ∧ l.length = (m.set a x).length + 1 ∧ ∀ e, e ∈ l ↔ e = sAt l 0 ∨ e ∈ m.set a x := by
  refine ⟨fun i h1 h2 => ?_, by simpa using h.len, h.mem⟩
  simp at h2
  by_cases e : (i - 1) / 2 = a
  · have := hx i h1 h2 e
    unfold lb at this ⊢
    rw [sAt_set _ _ _ _ h.lt, sAt_set _ _ _ _ h.lt, if_pos e, if_neg (by omega)]
    exact this
  · exact h.ord i h1 h2 e
end Go.Proofs.Ytehlciejhegndaa

/- The queue of a search in memory. -/
namespace Go.Proofs.Ytehlciejhegndaa
open Go.RowKit Go.Lib
set_option linter.unusedVariables false

/-- Only the blocks of S have turned. -/
structure Chg (S : Nat → Prop) (w w' : World) : Prop where
  os : w'.os = w.os
  tape : w'.tape = w.tape
  output : w'.output = w.output
  size : w.heap.size ≤ w'.heap.size
  block : ∀ k, k < w.heap.size → ¬ S k → w'.heap[k]? = w.heap[k]?
theorem Chg.refl (S : Nat → Prop) (w : World) : Chg S w w := ⟨rfl, rfl, rfl, Nat.le_refl _, fun _ _ _ => rfl⟩
theorem Chg.trans {S : Nat → Prop} {x y z : World} (h : Chg S x y) (k : Chg S y z) : Chg S x z :=
  ⟨k.os.trans h.os, k.tape.trans h.tape, k.output.trans h.output, Nat.le_trans h.size k.size,
    fun i hi hb => (k.block i (Nat.lt_of_lt_of_le hi h.size) hb).trans (h.block i hi hb)⟩
theorem Chg.mono {S T : Nat → Prop} {x y : World} (h : Chg S x y) (k : ∀ i, S i → T i) : Chg T x y :=
  ⟨h.os, h.tape, h.output, h.size, fun i hi hb => h.block i hi (fun hs => hb (k i hs))⟩
/-- What S has beyond the old blocks is no matter. -/
theorem Chg.old {S T : Nat → Prop} {x y : World} (h : Chg S x y) (k : ∀ i, i < x.heap.size → S i → T i) : Chg T x y :=
  ⟨h.os, h.tape, h.output, h.size, fun i hi hb => h.block i hi (fun hs => hb (k i hi hs))⟩
theorem Chg.setCell {S : Nat → Prop} {a w : World} (h : Chg S a w) {p : Addr} (hp : S p.block) (u : Value) : Chg S a (w.setCell p u) :=
  h.trans ⟨rfl, rfl, rfl, by simp [World.setCell], fun k _ hb => Below.heap_setCell _ _ _ _ (fun e => hb (e ▸ hp))⟩
theorem Chg.setNew {S : Nat → Prop} {a w : World} (h : Chg S a w) {p : Addr} (hp : a.heap.size ≤ p.block) (u : Value) : Chg S a (w.setCell p u) :=
  ⟨h.os, h.tape, h.output, by simpa [World.setCell] using h.size, fun k hk hb => (Below.heap_setCell _ _ _ _ (by omega)).trans (h.block k hk hb)⟩
theorem Chg.alloc {S : Nat → Prop} {a w : World} (h : Chg S a w) (o : Obj) : Chg S a (w.alloc o) :=
  ⟨h.os, h.tape, h.output, by have := h.size; simp; omega, fun k hk hb => (Below.heap_alloc _ _ _ (by have := h.size; omega)).trans (h.block k hk hb)⟩
theorem Chg.drew {S : Nat → Prop} {a w : World} (h : Chg S a w) : Chg S a w.drew := ⟨h.os, h.tape, h.output, h.size, h.block⟩
theorem Chg.of_below {S : Nat → Prop} {w w' : World} (h : Below w.heap.size w w') : Chg S w w' :=
  ⟨h.os, h.tape, h.output, h.size, fun k hk _ => h.block k hk⟩
theorem Chg.grown {S : Nat → Prop} {a w w' : World} {row : Option Nat} (h : Chg S a w) (hg : w.grownBy w' row) (hr : ∀ k, row = some k → S k ∨ a.heap.size ≤ k) : Chg S a w' :=
  ⟨hg.os.trans h.os, hg.tape.trans h.tape, hg.output.trans h.output, Nat.le_trans h.size hg.size,
    fun k hk hb => (hg.block k (Nat.lt_of_lt_of_le hk h.size) (fun e => by rcases hr k e.symm with h | h; exact hb h; omega)).trans (h.block k hk hb)⟩
theorem Chg.below {S : Nat → Prop} {B : Nat} {a w w' : World} (h : Below B a w) (k : Chg S w w') (hb : ∀ i, S i → B ≤ i) (hs : B ≤ w.heap.size) : Below B a w' :=
  h.trans ⟨k.os, k.tape, k.output, k.size, fun i hi => k.block i (by omega) (fun h => by have := hb i h; omega)⟩
theorem Chg.heap {S : Nat → Prop} {w w' : World} (h : Chg S w w') {k : Nat} {o : Obj} (hk : w.heap[k]? = some o) (hb : ¬ S k) : w'.heap[k]? = some o := by
  rw [h.block k (lt_of_heap hk) hb]; exact hk
theorem Try.info140 : (Try.prog.info? 140).map (fun i => (i.zero, i.size, i.bytes)) = some (some (.agg #[.int .u64 0, .int .i64 0]), 2, 16) := by kernel_rfl
def fnv (n : Nat) : Value := .func (.func n) #[] #[]
def qCells (l : List Pr) : List Value := l.flatMap fun p => [.int .u64 p.1, .int .i64 p.2]
theorem qCells_length (l : List Pr) : (qCells l).length = l.length * 2 := by
  induction l with
  | nil => rfl
  | cons a l ih => simp [qCells] at ih ⊢; omega
theorem qCells_at (l : List Pr) (i : Nat) (h : i < l.length) : (qCells l)[i * 2]? = some (.int .u64 (sAt l i).1) ∧ (qCells l)[i * 2 + 1]? = some (.int .i64 (sAt l i).2) := by
  induction l generalizing i with
  | nil => simp at h
  | cons a l ih =>
    cases i with
    | zero => simp [qCells, sAt]
    | succ i =>
      have := ih i (by simpa using h)
      have e : qCells (a :: l) = [.int .u64 a.1, .int .i64 a.2] ++ qCells l := by simp [qCells]
      rw [e, show (i + 1) * 2 = i * 2 + 2 by omega]
      simp only [sAt, List.getElem?_cons_succ] at this ⊢
      constructor
      · rw [List.getElem?_append_right (by simp)]; simpa using this.1
      · rw [List.getElem?_append_right (by simp)]; simpa using this.2
theorem qCells_snoc (l : List Pr) (p : Pr) : qCells (l ++ [p]) = qCells l ++ [.int .u64 p.1, .int .i64 p.2] := by simp [qCells]
theorem qCells_set (l : List Pr) (i : Nat) (p : Pr) : ((qCells l).set (i * 2) (.int .u64 p.1)).set (i * 2 + 1) (.int .i64 p.2) = qCells (l.set i p) := by
  induction l generalizing i with
  | nil => simp [qCells]
  | cons a l ih =>
    cases i with
    | zero => simp [qCells]
    | succ i =>
      have e : ∀ (x : Pr) (l : List Pr), qCells (x :: l) = [.int .u64 x.1, .int .i64 x.2] ++ qCells l := fun x l => by simp [qCells]
      rw [List.set_cons_succ, e, e, ← ih i, show (i + 1) * 2 = i * 2 + 2 by omega]
      simp
/-- A list of pairs in a block of its own. -/
theorem own_cells {w : World} {B : Nat} {v : Value} {l : List Pr} (h : w.ownsRow B 140 2 v l.length (qCells l)) (hne : 0 < l.length) :
    ∃ g c, v = .slice (some ⟨g, 0, none⟩) l.length c ∧ B ≤ g ∧ g < w.heap.size ∧ l.length ≤ c ∧ c ≤ 9223372036854775807 ∧ ∀ i, i < l.length → (w.cell? ⟨g, i * 2, none⟩ = some (.int .u64 (sAt l i).1) ∧ w.cell? ⟨g, i * 2 + 1, none⟩ = some (.int .i64 (sAt l i).2)) ∧ w.frozen? ⟨g, i * 2, none⟩ = false ∧ w.frozen? ⟨g, i * 2 + 1, none⟩ = false := by
  obtain ⟨h1, ⟨rfl, hn⟩ | ⟨g, cap, cur, rfl, hg, hh, hnc, hcm, hcur, htake⟩⟩ := h
  · omega
  · refine ⟨g, cap, rfl, hg, lt_of_heap hh, hnc, hcm, fun i hi => ⟨?_, free_of hh _, free_of hh _⟩⟩
    obtain ⟨p, q⟩ := qCells_at l i hi
    rw [← htake] at p q
    rw [List.getElem?_take_of_lt (by omega)] at p q
    simp only [World.cell?, hh]
    exact ⟨by simpa using p, by simpa using q⟩
theorem own_set {w : World} {B g c : Nat} {l : List Pr} (h : w.ownsRow B 140 2 (.slice (some ⟨g, 0, none⟩) l.length c) l.length (qCells l)) (i : Nat) (p : Pr) :
    ((w.setCell ⟨g, i * 2, none⟩ (.int .u64 p.1)).setCell ⟨g, i * 2 + 1, none⟩ (.int .i64 p.2)).ownsRow B 140 2 (.slice (some ⟨g, 0, none⟩) l.length c) l.length (qCells (l.set i p)) := by
  have h1 := (h.stored (i * 2) (.int .u64 p.1)).1
  have h2 := (h1.stored (i * 2 + 1) (.int .i64 p.2)).1
  rw [qCells_set] at h2
  exact h2
theorem own_chg {w w' : World} {S : Nat → Prop} {B size n : Nat} {e : TypeId} {v : Value} {xs : List Value} (h : w.ownsRow B e size v n xs) (hc : Chg S w w') (hS : ∀ g, v.ownBlock = some g → ¬ S g) : w'.ownsRow B e size v n xs := by
  obtain ⟨hl, ⟨rfl, h0⟩ | ⟨g, cap, cur, rfl, hg, hh, r⟩⟩ := h
  · exact ⟨hl, .inl ⟨rfl, h0⟩⟩
  · exact ⟨hl, .inr ⟨g, cap, cur, rfl, hg, hc.heap hh (hS g rfl), r⟩⟩

/-- The queue: its struct's block, its list. -/
structure QIs (w : World) (Q B : Nat) (v : Value) (l : List Pr) : Prop where
  hh : w.heap[Q]? = some (.cells #[v, fnv 93] 167 (0, 0))
  own : w.ownsRow B 140 2 v l.length (qCells l)
  lt : Q < B
  le : B ≤ w.heap.size
theorem QIs.below {w w' : World} {Q B : Nat} {v : Value} {l : List Pr} (h : QIs w Q B v l) (hb : Below w.heap.size w w') : QIs w' Q B v l :=
  ⟨(hb.block Q (lt_of_heap h.hh)).trans h.hh, own_chg (S := fun _ => False) h.own (Chg.of_below hb) (fun _ _ h => h), h.lt, Nat.le_trans h.le hb.size⟩
/-- The queue's own blocks. -/
def QS (Q B : Nat) (k : Nat) : Prop := k = Q ∨ B ≤ k

set_option maxRecDepth 100000 in
theorem empty_any (w : World) (Q B : Nat) (v : Value) (l : List Pr) (h : QIs w Q B v l) :
    Calls Try.prog 96 #[.pointer (some ⟨Q, 0, none⟩)] w fun e w' => e = .returned (.bool (decide (l.length = 0))) ∧ w' = w := by
  have c0 := cell_of h.hh (i := 0) rfl
  obtain ⟨ao, c, rfl⟩ : ∃ ao c, v = .slice ao l.length c := by
    obtain ⟨_, ⟨rfl, h0⟩ | ⟨g, cap, cur, rfl, _⟩⟩ := h.own
    · exact ⟨none, 0, by rw [h0]⟩
    · exact ⟨_, cap, rfl⟩
  clear h
  go_enter Try.func96, Try.ntmps96
  go_wp2
  go_ret
  refine ⟨?_, rfl⟩
  show Ending.returned (Value.bool _) = Ending.returned (Value.bool _)
  congr 2
  by_cases hl : l.length = 0
  · simp [hl]
  · simp [hl]
set_option maxRecDepth 100000 in
theorem ahead_any (a0 a1 b0 b1 : Int) (w : World) : Calls Try.prog 93 #[.agg #[.int .u64 a0, .int .i64 a1], .agg #[.int .u64 b0, .int .i64 b1]] w fun e w' => e = .returned (.bool (decide (a0 < b0))) ∧ Below w.heap.size w w' := by
  go_enter Try.func93, Try.ntmps93
  go_wp2
  all_goals
    go_ret
    exact ⟨by first | rfl | simp, below_alloc (below_alloc (Below.refl _ _) _) _⟩
end Go.Proofs.Ytehlciejhegndaa

/- push. -/
namespace Go.Proofs.Ytehlciejhegndaa
open Go.RowKit Go.Lib
set_option linter.unusedVariables false

/-- The blocks that a call on the queue may turn: the queue's, its list's, new ones. -/
def QT (w : World) (Q : Nat) (v : Value) (k : Nat) : Prop := k = Q ∨ v.ownBlock = some k ∨ w.heap.size ≤ k
theorem qt_qs {w w' : World} {Q B : Nat} {v : Value} {l : List Pr} (h : QIs w Q B v l) (hc : Chg (QT w Q v) w w') : Chg (QS Q B) w w' := by
  refine hc.mono fun k hk => ?_
  rcases hk with hk | hk | hk
  · exact .inl hk
  · right
    obtain ⟨_, ⟨rfl, _⟩ | ⟨g', c', cur, rfl, hg', _⟩⟩ := h.own
    · simp [Value.ownBlock] at hk
    · simp [Value.ownBlock] at hk; omega
  · have := h.le; exact .inr (by omega)
/-- What a push has made. -/
def PushPost (w : World) (Q B : Nat) (v : Value) (l : List Pr) (x : Pr) (e : Ending) (w' : World) : Prop :=
  e = .returned (.tuple #[]) ∧ ∃ v' l', QIs w' Q B v' l' ∧ Hp l' ∧ l'.length = l.length + 1 ∧ (∀ e, e ∈ l' ↔ e ∈ l ∨ e = x) ∧ Chg (QT w Q v) w w' ∧ ∀ k, v'.ownBlock = some k → QT w Q v k

/-- A push under way. -/
structure PW (w wr : World) (v : Value) (Q B X g c : Nat) (m l : List Pr) (a : Nat) (x : Pr) : Prop where
  q : QIs wr Q B (.slice (some ⟨g, 0, none⟩) m.length c) m
  up : Up m a x l
  box : wr.heap[X]? = some (.cells #[.int .u64 x.1, .int .i64 x.2] 140 (0, 0))
  ne : X ≠ g
  neQ : X ≠ Q
  chg : Chg (QT w Q v) w wr
  gB : B ≤ g
  gT : QT w Q v g
theorem PW.below {w wr w' : World} {v : Value} {Q B X g c : Nat} {m l : List Pr} {a : Nat} {x : Pr} (h : PW w wr v Q B X g c m l a x) (hb : Below wr.heap.size wr w') : PW w w' v Q B X g c m l a x :=
  ⟨h.q.below hb, h.up, (hb.block X (lt_of_heap h.box)).trans h.box, h.ne, h.neQ, h.chg.trans (Chg.of_below hb), h.gB, h.gT⟩
/-- One place of the list written. -/
theorem PW.put {w wr : World} {v : Value} {Q B X g c : Nat} {m l : List Pr} {a a' : Nat} {x y : Pr} (h : PW w wr v Q B X g c m l a x) (hy : Up (m.set a y) a' x l) :
    PW w ((wr.setCell ⟨g, a * 2, none⟩ (.int .u64 y.1)).setCell ⟨g, a * 2 + 1, none⟩ (.int .i64 y.2)) v Q B X g c (m.set a y) l a' x := by
  have hne : g ≠ Q := by have := h.q.lt; have := h.gB; omega
  refine ⟨⟨?_, ?_, h.q.lt, by simpa [World.setCell] using h.q.le⟩, hy, ?_, h.ne, h.neQ, (h.chg.setCell (p := ⟨g, a * 2, none⟩) h.gT _).setCell (p := ⟨g, a * 2 + 1, none⟩) h.gT _, h.gB, h.gT⟩
  · rw [Below.heap_setCell _ _ _ _ (fun e => hne e.symm), Below.heap_setCell _ _ _ _ (fun e => hne e.symm), List.length_set]
    exact h.q.hh
  · rw [List.length_set]
    exact own_set h.q.own a y
  · rw [Below.heap_setCell _ _ _ _ h.ne, Below.heap_setCell _ _ _ _ h.ne]
    exact h.box
theorem QIs.put {wr : World} {Q B g c : Nat} {m : List Pr} (h : QIs wr Q B (.slice (some ⟨g, 0, none⟩) m.length c) m) (hg : B ≤ g) (a : Nat) (y : Pr) :
    QIs ((wr.setCell ⟨g, a * 2, none⟩ (.int .u64 y.1)).setCell ⟨g, a * 2 + 1, none⟩ (.int .i64 y.2)) Q B (.slice (some ⟨g, 0, none⟩) (m.set a y).length c) (m.set a y) := by
  have hne : g ≠ Q := by have := h.lt; omega
  refine ⟨?_, ?_, h.lt, by simpa [World.setCell] using h.le⟩
  · rw [Below.heap_setCell _ _ _ _ (fun e => hne e.symm), Below.heap_setCell _ _ _ _ (fun e => hne e.symm), List.length_set]
    exact h.hh
  · rw [List.length_set]
    exact own_set h.own a y
theorem push_end {w wr : World} {v : Value} {Q B X g c : Nat} {m l : List Pr} {a : Nat} {x : Pr} (h : PW w wr v Q B X g c m l a x) (hx : 0 < a → ¬ x.1 < lb m ((a - 1) / 2)) :
    PushPost w Q B v l x (.returned (.tuple #[])) ((wr.setCell ⟨g, a * 2, none⟩ (.int .u64 x.1)).setCell ⟨g, a * 2 + 1, none⟩ (.int .i64 x.2)).drew := by
  obtain ⟨h1, h2, h3⟩ := up_end h.up hx
  exact ⟨rfl, _, m.set a x, (h.q.put h.gB a x).below (Below.refl _ _).drew, h1, h2, h3, ((h.chg.setCell (p := ⟨g, a * 2, none⟩) h.gT _).setCell (p := ⟨g, a * 2 + 1, none⟩) h.gT _).drew, fun k hk => by simp [Value.ownBlock] at hk; exact hk ▸ h.gT⟩

theorem push_made {w w2 : World} {Q B g cap : Nat} {v : Value} {l : List Pr} {x : Pr} {o : Obj} (h : QIs w Q B v l) (hp : Hp l)
    (hown : w2.ownsRow B 140 2 (.slice (some ⟨g, 0, none⟩) (l.length + 1) cap) (l.length + 1) (qCells l ++ [.int .u64 x.1, .int .i64 x.2]))
    (hgrow : ((w.alloc (.cells #[.int .u64 x.1, .int .i64 x.2] 140)).alloc o).drew.grownBy w2 v.ownBlock) (hat : v.ownBlock = some g ∨ g = w.heap.size + 2) :
    w2.cell? ⟨Q, 0, none⟩ = some v ∧ w2.frozen? ⟨Q, 0, none⟩ = false ∧ PW w ((w2.setCell ⟨Q, 0, none⟩ (.slice (some ⟨g, 0, none⟩) (l.length + 1) cap))) v Q B w.heap.size g cap (l ++ [x]) l l.length x := by
  have hQ := lt_of_heap h.hh
  have hvb : ∀ k, v.ownBlock = some k → B ≤ k ∧ k < w.heap.size := fun k hk => by
    obtain ⟨_, ⟨rfl, _⟩ | ⟨g', c', cur, rfl, hg', hh', _⟩⟩ := h.own
    · simp [Value.ownBlock] at hk
    · simp [Value.ownBlock] at hk; subst hk; exact ⟨hg', lt_of_heap hh'⟩
  have hsz : ((w.alloc (.cells #[.int .u64 x.1, .int .i64 x.2] 140)).alloc o).drew.heap.size = w.heap.size + 2 := by simp
  have hQ2 : w2.heap[Q]? = some (.cells #[v, fnv 93] 167 (0, 0)) := by
    rw [hgrow.block Q (by rw [hsz]; omega) (fun e => by have := hvb Q e.symm; have := h.lt; omega)]
    show ((w.alloc (.cells #[.int .u64 x.1, .int .i64 x.2] 140)).alloc o).heap[Q]? = _
    rw [Below.heap_alloc _ _ _ (by simp; omega)]
    exact (Below.heap_alloc _ _ _ hQ).trans h.hh
  have hX2 : w2.heap[w.heap.size]? = some (.cells #[.int .u64 x.1, .int .i64 x.2] 140 (0, 0)) := by
    rw [hgrow.block w.heap.size (by rw [hsz]; omega) (fun e => by have := hvb _ e.symm; omega)]
    show ((w.alloc (.cells #[.int .u64 x.1, .int .i64 x.2] 140)).alloc o).heap[w.heap.size]? = _
    rw [Below.heap_alloc _ _ _ (by simp)]
    exact heap_new w _
  have hgB : B ≤ g := by
    rcases hat with e | e
    · exact (hvb g e).1
    · have := h.le; omega
  have hgX : w.heap.size ≠ g := by
    rcases hat with e | e
    · have := (hvb g e).2; omega
    · omega
  have hgQ : Q ≠ g := by have := h.lt; omega
  refine ⟨cell_of hQ2 rfl, free_of hQ2 0, ⟨⟨?_, ?_, h.lt, ?_⟩, up_start l x hp, ?_, hgX, by omega, ?_, hgB, by rcases hat with e | e; exact .inr (.inl e); exact .inr (.inr (by omega))⟩⟩
  · rw [heap_set hQ2]; simp
  · rw [List.length_append, List.length_singleton, qCells_snoc]
    exact own_chg (S := fun k => k = Q) hown ⟨rfl, rfl, rfl, by simp [World.setCell], fun k _ hk => Below.heap_setCell _ _ _ _ hk⟩ (fun k hk => by simp [Value.ownBlock] at hk; omega)
  · have h1 := hgrow.size; rw [hsz] at h1; have := h.le; simp [World.setCell]; omega
  · rw [Below.heap_setCell _ _ _ _ (show w.heap.size ≠ Q by omega)]; exact hX2
  · have c0 : Chg (QT w Q v) w ((w.alloc (.cells #[.int .u64 x.1, .int .i64 x.2] 140)).alloc o).drew := (((Chg.refl _ w).alloc _).alloc _).drew
    exact (c0.grown hgrow (fun k hk => .inl (.inr (.inl hk)))).setCell (p := ⟨Q, 0, none⟩) (.inl rfl) _
theorem news_at (w : World) (o : Obj) (a b : Value) (t : TypeId) : ∀ j u, [a, b][j]? = some u → ((w.alloc o).alloc (.cells #[a, b] t)).drew.cell? ((⟨w.heap.size + 1, 0, none⟩ : Addr).add j) = some u := by
  intro j u hj
  have h := two_at (w.alloc o) a b t j u hj
  have e : (w.alloc o).heap.size = w.heap.size + 1 := by simp
  rw [e] at h
  exact h
end Go.Proofs.Ytehlciejhegndaa

/- push: the walk. -/
namespace Go.Proofs.Ytehlciejhegndaa
open Go.RowKit Go.Lib
set_option linter.unusedVariables false

set_option maxRecDepth 100000 in
set_option maxHeartbeats 8000000 in
theorem push_any (w : World) (Q B : Nat) (v : Value) (l : List Pr) (x : Pr) (h : QIs w Q B v l) (hp : Hp l) (hl : l.length ≤ 10000000) :
    Calls Try.prog 95 #[.pointer (some ⟨Q, 0, none⟩), .agg #[.int .u64 x.1, .int .i64 x.2]] w (PushPost w Q B v l x) := by
  obtain ⟨i0, hi, hz0, hz1, hz2⟩ := info_parts Try.info140
  obtain ⟨x0, x1⟩ := x
  have H := hide h
  have HP := hide hp
  have hQw := lt_of_heap h.hh
  have hle := h.le
  have c0 : (w.alloc (.cells #[.int .u64 x0, .int .i64 x1] 140)).cell? ⟨Q, 0, none⟩ = some v := (below_cell (below_alloc (Below.refl _ _) _) hQw).trans (cell_of h.hh rfl)
  have hbx : (w.alloc (.cells #[.int .u64 x0, .int .i64 x1] 140)).heap[w.heap.size]? = some (.cells #[.int .u64 x0, .int .i64 x1] 140 (0, 0)) := heap_new _ _
  have b0 := cell_of hbx (i := 0) rfl
  have b1 := cell_of hbx (i := 1) rfl
  have HOA := hide (own_chg (S := fun _ => False) h.own ((Chg.refl _ w).alloc (.cells #[.int .u64 x0, .int .i64 x1] 140)) (fun _ _ h => h))
  have hnq : ¬ Q = w.heap.size := by omega
  have hnq1 : ¬ Q = w.heap.size + 1 := by omega
  clear h hp hbx
  go_enter Try.func95, Try.ntmps95
  go_wp2_with fail
  go_cut [] from 6 to 15 (fun wx => ∃ g cap, PW w wx v Q B w.heap.size g cap (l ++ [(x0, x1)]) l l.length (x0, x1))
  case first =>
    refine wp_region_noPanic ?_
    go_region_law ((refine step_append_lies _ (by rfl) _ _ _ (by rfl) B 140 i0 (.agg #[.int .u64 0, .int .i64 0]) 2 16 Try.underlying165 hi hz0 hz1 hz2 rfl (by omega) v l.length (qCells l) (by rfl) ((HOA.out.alloc _).drew) ⟨w.heap.size + 1, 0, none⟩ 1 1 [.int .u64 x0, .int .i64 x1] (by rfl) (by rfl) (news_at w _ _ _ _) (by simp [Value.oneCell']) (by omega) (by unfold maxLen; omega) (by omega) (by simp; omega) (w.heap.size + 2) (by simp) ?_; intro g cap w2 hown hgrow hat hlt; obtain ⟨z0, zf, hpw⟩ := push_made (x := (x0, x1)) H.out HP.out hown hgrow hat; have HPW := hide hpw; clear hown hgrow hat hpw))
    all_goals
      refine NoPanic.normal ?_
      go_wp2_with fail
      go_meet
      case rel => exact ⟨g, cap, HPW.out⟩
  case rest =>
    obtain ⟨g, cap, hpw⟩ := hcut
    clear c0 b0 b1 HOA
    have HPW := hide hpw
    have c0 := cell_of hpw.q.hh (i := 0) rfl
    have hgb := hpw.gB
    have hlen : (l ++ [(x0, x1)]).length = l.length + 1 := by simp
    rw [hlen] at c0
    have hcap : l.length + 1 ≤ cap ∧ cap ≤ 9223372036854775807 := by
      obtain ⟨g', c', he, _, _, h4, h5, _⟩ := own_cells hpw.q.own (by simp)
      simp only [Value.slice.injEq] at he
      obtain ⟨_, _, rfl⟩ := he
      rw [hlen] at h4
      exact ⟨h4, h5⟩
    obtain ⟨n, hn⟩ : ∃ n, n = l.length + 1 := ⟨_, rfl⟩
    rw [← hn] at c0 hcap
    have HN := hide hn
    clear hpw hlen hn
    go_wp2
    go_loopw [4] (fun t wr => ∃ (m : List Pr) (a : Nat), t = .int .i64 a ∧ PW w wr v Q B w.heap.size g cap m l a (x0, x1)) (fun t _ => (RowKit.intOf t).toNat)
    case atStart => exact ⟨_, l.length, by have := HN.out; congr 1; omega, HPW.out⟩
    case round =>
      obtain ⟨m, a, rfl, hpw⟩ := hrel
      have HPR := hide hpw
      have hml : m.length = n := by rw [hpw.up.len, HN.out]
      have hal : a < n := by have := hpw.up.lt; omega
      have d0 := cell_of hpw.q.hh (i := 0) rfl
      have d1 := cell_of hpw.q.hh (i := 1) rfl
      have e0 := cell_of hpw.box (i := 0) rfl
      have e1 := cell_of hpw.box (i := 1) rfl
      rw [hml] at d0
      obtain ⟨g', c', he, _, hgw, _, _, hcl⟩ := own_cells hpw.q.own (by omega)
      simp only [Value.slice.injEq, Option.some.injEq, Addr.mk.injEq, true_and, and_true] at he
      obtain ⟨rfl, rfl⟩ := he
      rw [hml] at hcl
      have HCL := hide hcl
      have hXg := hpw.ne
      have hXQ := hpw.neQ
      have hgQ : ¬ g = Q := by have := hpw.q.lt; omega
      have hQr := lt_of_heap hpw.q.hh
      have hXr := lt_of_heap hpw.box
      have HML := hide hml
      clear hpw hcl HPW c0 hml
      rcases Nat.eq_zero_or_pos a with ha0 | ha0
      · subst ha0
        obtain ⟨⟨s0, s1⟩, f0, f1⟩ := HCL.out 0 (by omega)
        have HEND := hide (push_end HPR.out (fun h => absurd h (by omega)))
        go_wp2
        go_region
        all_goals
          go_wp2
          first | go_end0 | refine bodyPost_ret (results_none rfl _ _ _) rfl ?_
          exact HEND.out
      · obtain ⟨p, hp⟩ : ∃ p : Nat, p = (a - 1) / 2 := ⟨_, rfl⟩
        have hpi : ((a : Int) - 1) / 2 = (p : Int) := by omega
        have hpa : p < a := by omega
        obtain ⟨⟨s0, s1⟩, f0, f1⟩ := HCL.out p (by omega)
        obtain ⟨lp0, hlp0⟩ : ∃ z, z = (sAt m p).1 := ⟨_, rfl⟩
        obtain ⟨lp1, hlp1⟩ : ∃ z, z = (sAt m p).2 := ⟨_, rfl⟩
        rw [← hlp0] at s0
        rw [← hlp1] at s1
        have z0 : ∀ x : GW wr, x.world.cell? ⟨Q, 0, none⟩ = some (.slice (some ⟨g, 0, none⟩) n cap) := fun x => (below_cell x.bel hQr).trans d0
        have z1 : ∀ x : GW wr, x.world.cell? ⟨Q, 1, none⟩ = some (fnv 93) := fun x => (below_cell x.bel hQr).trans d1
        have y0 : ∀ x : GW wr, x.world.cell? ⟨w.heap.size, 0, none⟩ = some (.int .u64 x0) := fun x => (below_cell x.bel hXr).trans e0
        have y1 : ∀ x : GW wr, x.world.cell? ⟨w.heap.size, 1, none⟩ = some (.int .i64 x1) := fun x => (below_cell x.bel hXr).trans e1
        have p0 : ∀ x : GW wr, x.world.cell? ⟨g, p * 2, none⟩ = some (.int .u64 lp0) := fun x => (below_cell x.bel hgw).trans s0
        have p1 : ∀ x : GW wr, x.world.cell? ⟨g, p * 2 + 1, none⟩ = some (.int .i64 lp1) := fun x => (below_cell x.bel hgw).trans s1
        unfold fnv at z1
        have HAG := hide (fun x : GW wr => gw_of (ahead_any x0 x1 lp0 lp1 x.world))
        have hpn : p < n := by omega
        have HLP := hide (And.intro hlp0 hlp1)
        have HPP := hide hp
        clear s0 s1 f0 f1 hlp0 hlp1 hp
        by_cases hx : x0 < lp0
        · rw [decide_eq_true hx] at HAG
          have HST : Hid (Up (m.set a (sAt m p)) p (x0, x1) l) := by
            have := up_step HPR.out.up ha0 (by unfold lb; rw [← HPP.out, ← HLP.out.1]; exact hx)
            rw [← HPP.out] at this
            exact this
          have hne : ¬ p = a := by omega
          clear hx
          go_wp2_with fail
          refine wp_region_gw (by kernel_rfl) (by kernel_rfl) ?_
          repeat (go_big_quiet_step (first
            | (go_at_call 93; exact HAG.out _)
            | rfl))
          refine wpQuiet_nil ?_
          intro _ hw'
          obtain ⟨y, hw''⟩ := hw'
          subst hw''
          have t0 := z0 y
          have r0 := y0 y
          have r1 := y1 y
          have l0 := p0 y
          have l1 := p1 y
          have HPY := hide (HPR.out.below y.bel)
          obtain ⟨g'', c'', he, _, _, _, _, hcl⟩ := own_cells HPY.out.q.own (by have := HML.out; omega)
          simp only [Value.slice.injEq, Option.some.injEq, Addr.mk.injEq, true_and, and_true] at he
          obtain ⟨rfl, rfl⟩ := he
          obtain ⟨⟨s0, s1⟩, f0, f1⟩ := hcl a (by have := HML.out; omega)
          clear z0 z1 y0 y1 p0 p1 hcl HAG d0 d1 e0 e1
          go_wp2
          go_region
          all_goals
            go_wp2
            refine ⟨⟨m.set a (sAt m p), p, rfl, ?_⟩, by simp [RowKit.intOf]; omega⟩
            have hput := (HPY.out.put HST.out).below (Below.refl _ _).drew
            rw [← HLP.out.1, ← HLP.out.2] at hput
            exact hput
        · rw [decide_eq_false hx] at HAG
          have HNX : Hid (¬ (x0, x1).1 < lb m ((a - 1) / 2)) := by unfold lb; rw [← HPP.out, ← HLP.out.1]; exact hx
          clear hx
          go_wp2_with fail
          refine wp_region_gw (by kernel_rfl) (by kernel_rfl) ?_
          repeat (go_big_quiet_step (first
            | (go_at_call 93; exact HAG.out _)
            | rfl))
          refine wpQuiet_nil ?_
          intro _ hw'
          obtain ⟨y, hw''⟩ := hw'
          subst hw''
          have t0 := z0 y
          have r0 := y0 y
          have r1 := y1 y
          have l0 := p0 y
          have l1 := p1 y
          have HPY := hide (HPR.out.below y.bel)
          obtain ⟨g'', c'', he, _, _, _, _, hcl⟩ := own_cells HPY.out.q.own (by have := HML.out; omega)
          simp only [Value.slice.injEq, Option.some.injEq, Addr.mk.injEq, true_and, and_true] at he
          obtain ⟨rfl, rfl⟩ := he
          obtain ⟨⟨s0, s1⟩, f0, f1⟩ := hcl a (by have := HML.out; omega)
          clear z0 z1 y0 y1 p0 p1 hcl HAG d0 d1 e0 e1
          have HEND := hide (push_end HPY.out (fun _ => by have := HNX.out; show ¬ x0 < _; omega))
          go_wp2
          go_region
          all_goals
            go_wp2
            first | go_end0 | refine bodyPost_ret (results_none rfl _ _ _) rfl ?_
            exact HEND.out
end Go.Proofs.Ytehlciejhegndaa

/- pop. -/
namespace Go.Proofs.Ytehlciejhegndaa
open Go.RowKit Go.Lib
set_option linter.unusedVariables false

def pCells (p : Pr) : Array Value := #[.int .u64 p.1, .int .i64 p.2]
/-- What a pop has made. -/
def PopPost (w : World) (Q B : Nat) (v : Value) (l : List Pr) (e : Ending) (w' : World) : Prop :=
  e = .returned (.agg (pCells (sAt l 0))) ∧ ∃ v' l', QIs w' Q B v' l' ∧ Hp l' ∧ l.length = l'.length + 1 ∧ (∀ e, e ∈ l ↔ e = sAt l 0 ∨ e ∈ l') ∧ Chg (QT w Q v) w w' ∧ ∀ k, v'.ownBlock = some k → QT w Q v k

/-- A pop under way: R the answer's block, F the first one's, X the last one's. -/
structure PD (w wr : World) (v : Value) (Q B R F X g c : Nat) (m l : List Pr) (x : Pr) (y : Pr) : Prop where
  q : QIs wr Q B (.slice (some ⟨g, 0, none⟩) m.length c) m
  hR : wr.heap[R]? = some (.cells (pCells (0, 0)) 140 (0, 0))
  hF : wr.heap[F]? = some (.cells (pCells y) 140 (0, 0))
  hX : wr.heap[X]? = some (.cells (pCells x) 140 (0, 0))
  gR : R ≠ g
  gF : F ≠ g
  gX : X ≠ g
  RF : R ≠ F
  chg : Chg (QT w Q v) w wr
  gB : B ≤ g
  RB : B ≤ R
  gT : QT w Q v g
  RT : QT w Q v R
theorem PD.below {w wr w' : World} {v : Value} {Q B R F X g c : Nat} {m l : List Pr} {x y : Pr} (h : PD w wr v Q B R F X g c m l x y) (hb : Below wr.heap.size wr w') : PD w w' v Q B R F X g c m l x y :=
  ⟨h.q.below hb, (hb.block R (lt_of_heap h.hR)).trans h.hR, (hb.block F (lt_of_heap h.hF)).trans h.hF, (hb.block X (lt_of_heap h.hX)).trans h.hX, h.gR, h.gF, h.gX, h.RF, h.chg.trans (Chg.of_below hb), h.gB, h.RB, h.gT, h.RT⟩
theorem PD.put {w wr : World} {v : Value} {Q B R F X g c : Nat} {m l : List Pr} {x y : Pr} (h : PD w wr v Q B R F X g c m l x y) (a : Nat) (z : Pr) :
    PD w ((wr.setCell ⟨g, a * 2, none⟩ (.int .u64 z.1)).setCell ⟨g, a * 2 + 1, none⟩ (.int .i64 z.2)) v Q B R F X g c (m.set a z) l x y := by
  refine ⟨h.q.put h.gB a z, ?_, ?_, ?_, h.gR, h.gF, h.gX, h.RF, (h.chg.setCell (p := ⟨g, a * 2, none⟩) h.gT _).setCell (p := ⟨g, a * 2 + 1, none⟩) h.gT _, h.gB, h.RB, h.gT, h.RT⟩
  · rw [Below.heap_setCell _ _ _ _ h.gR, Below.heap_setCell _ _ _ _ h.gR]; exact h.hR
  · rw [Below.heap_setCell _ _ _ _ h.gF, Below.heap_setCell _ _ _ _ h.gF]; exact h.hF
  · rw [Below.heap_setCell _ _ _ _ h.gX, Below.heap_setCell _ _ _ _ h.gX]; exact h.hX
/-- The answer laid into its block. -/
theorem PD.tell {w wr : World} {v : Value} {Q B R F X g c : Nat} {m l : List Pr} {x y : Pr} (h : PD w wr v Q B R F X g c m l x y) :
    let wf := (wr.setCell ⟨R, 0, none⟩ (.int .u64 y.1)).setCell ⟨R, 1, none⟩ (.int .i64 y.2)
    wf.heap[R]? = some (.cells (pCells y) 140 (0, 0)) ∧ QIs wf Q B (.slice (some ⟨g, 0, none⟩) m.length c) m ∧ Chg (QT w Q v) w wf := by
  intro wf
  have hQR : Q ≠ R := by have := h.q.lt; have := h.RB; omega
  refine ⟨?_, ⟨?_, ?_, h.q.lt, ?_⟩, (h.chg.setCell (p := ⟨R, 0, none⟩) h.RT _).setCell (p := ⟨R, 1, none⟩) h.RT _⟩
  · show ((wr.setCell ⟨R, 0, none⟩ (.int .u64 y.1)).setCell ⟨R, 1, none⟩ (.int .i64 y.2)).heap[R]? = _
    rw [heap_set (heap_set h.hR _) _]; simp [pCells]
  · show ((wr.setCell ⟨R, 0, none⟩ (.int .u64 y.1)).setCell ⟨R, 1, none⟩ (.int .i64 y.2)).heap[Q]? = _
    rw [Below.heap_setCell _ _ _ _ hQR, Below.heap_setCell _ _ _ _ hQR]; exact h.q.hh
  · exact own_chg (S := fun k => k = R) h.q.own ⟨rfl, rfl, rfl, by simp [wf, World.setCell], fun k _ hk => by show ((wr.setCell ⟨R, 0, none⟩ (.int .u64 y.1)).setCell ⟨R, 1, none⟩ (.int .i64 y.2)).heap[k]? = _; rw [Below.heap_setCell _ _ _ _ hk, Below.heap_setCell _ _ _ _ hk]⟩ (fun k hk => by simp [Value.ownBlock] at hk; have := h.gR; omega)
  · have := h.q.le; simp [wf, World.setCell]; exact this
theorem pop_end {w wr : World} {v : Value} {Q B R F X g c a : Nat} {m l : List Pr} {x : Pr} (h : PD w wr v Q B R F X g c (m.set a x) l x (sAt l 0)) (hd : Down m a x l) (hx : ∀ s, 1 ≤ s → s < m.length → (s - 1) / 2 = a → x.1 ≤ lb m s) :
    let wf := (wr.setCell ⟨R, 0, none⟩ (.int .u64 (sAt l 0).1)).setCell ⟨R, 1, none⟩ (.int .i64 (sAt l 0).2)
    wf.heap[R]? = some (.cells (pCells (sAt l 0)) 140 (0, 0)) ∧ PopPost w Q B v l (.returned (.agg (pCells (sAt l 0)))) wf := by
  intro wf
  obtain ⟨t1, t2, t3⟩ := h.tell
  obtain ⟨e1, e2, e3⟩ := down_end hd hx
  exact ⟨t1, rfl, _, _, t2, e1, e2, e3, t3, fun k hk => by simp [Value.ownBlock] at hk; exact hk ▸ h.gT⟩
theorem pop_one {w wr : World} {v : Value} {Q B R F X g c : Nat} {l : List Pr} {x : Pr} (h : PD w wr v Q B R F X g c [] l x (sAt l 0)) (hl : l.length = 1) :
    let wf := (wr.setCell ⟨R, 0, none⟩ (.int .u64 (sAt l 0).1)).setCell ⟨R, 1, none⟩ (.int .i64 (sAt l 0).2)
    wf.heap[R]? = some (.cells (pCells (sAt l 0)) 140 (0, 0)) ∧ PopPost w Q B v l (.returned (.agg (pCells (sAt l 0)))) wf := by
  intro wf
  obtain ⟨t1, t2, t3⟩ := h.tell
  refine ⟨t1, rfl, _, [], t2, fun i _ h => by simp at h, by simpa using hl, fun e => ?_, t3, fun k hk => by simp [Value.ownBlock] at hk; exact hk ▸ h.gT⟩
  constructor
  · intro he
    obtain ⟨i, hi, rfl⟩ := mem_sAt he
    left; congr 1; omega
  · intro he
    rcases he with rfl | he
    · exact sAt_mem (by omega)
    · simp at he
end Go.Proofs.Ytehlciejhegndaa

/- pop: the walk. -/
namespace Go.Proofs.Ytehlciejhegndaa
open Go.RowKit Go.Lib
set_option linter.unusedVariables false

/-- Behind the first statement of a pop. -/
structure P1 (w wx : World) (y : Pr) : Prop where
  bel : Below w.heap.size w wx
  size : wx.heap.size = w.heap.size + 2
  hR : wx.heap[w.heap.size]? = some (.cells (pCells (0, 0)) 140 (0, 0))
  hF : wx.heap[w.heap.size + 1]? = some (.cells (pCells y) 140 (0, 0))

theorem p1_made (w : World) (y : Pr) : P1 w ((w.alloc (.cells #[.int .u64 0, .int .i64 0] 140)).alloc (.cells #[.int .u64 y.1, .int .i64 y.2] 140)).drew y := by
  refine ⟨(below_drew (below_alloc (below_alloc (Below.refl _ _) _) _)), by simp, ?_, ?_⟩
  · show ((w.alloc (.cells #[.int .u64 0, .int .i64 0] 140)).alloc (.cells #[.int .u64 y.1, .int .i64 y.2] 140)).heap[w.heap.size]? = _
    rw [Below.heap_alloc _ _ _ (by simp)]; exact heap_new _ _
  · have := heap_new (w.alloc (.cells #[.int .u64 0, .int .i64 0] 140)) (.cells #[.int .u64 y.1, .int .i64 y.2] 140)
    rw [show (w.alloc (.cells #[.int .u64 0, .int .i64 0] 140)).heap.size = w.heap.size + 1 by simp] at this
    exact this

theorem pd_made {w wc : World} {Q B g c n : Nat} {l : List Pr} {x y : Pr} (h : QIs w Q B (.slice (some ⟨g, 0, none⟩) l.length c) l) (hn : l.length = n + 1) (hp : P1 w wc y) (hgB : B ≤ g) :
    PD w ((wc.alloc (.cells #[.int .u64 x.1, .int .i64 x.2] 140)).setCell ⟨Q, 0, none⟩ (.slice (some ⟨g, 0, none⟩) n c)) (.slice (some ⟨g, 0, none⟩) l.length c) Q B w.heap.size (w.heap.size + 1) wc.heap.size g c (l.take n) l x y := by
  have hQw := lt_of_heap h.hh
  have hgw : g < w.heap.size := by
    obtain ⟨_, ⟨he, _⟩ | ⟨g', c', cur, he, _, hh, _⟩⟩ := h.own
    · simp at he
    · simp only [Value.slice.injEq, Option.some.injEq, Addr.mk.injEq, true_and, and_true] at he
      obtain ⟨rfl, rfl⟩ := he
      exact lt_of_heap hh
  have hlt := h.lt
  have hle := h.le
  have hsz := hp.size
  have hlen : (l.take n).length = n := by rw [List.length_take]; omega
  have hb : Below wc.heap.size wc (wc.alloc (.cells #[.int .u64 x.1, .int .i64 x.2] 140)) := below_alloc (Below.refl _ _) _
  have hq0 : (wc.alloc (.cells #[.int .u64 x.1, .int .i64 x.2] 140)).heap[Q]? = some (.cells #[.slice (some ⟨g, 0, none⟩) l.length c, fnv 93] 167 (0, 0)) := (hb.block Q (by omega)).trans ((hp.bel.block Q hQw).trans h.hh)
  have ne : ∀ k, k ≠ Q → ((wc.alloc (.cells #[.int .u64 x.1, .int .i64 x.2] 140)).setCell ⟨Q, 0, none⟩ (.slice (some ⟨g, 0, none⟩) n c)).heap[k]? = (wc.alloc (.cells #[.int .u64 x.1, .int .i64 x.2] 140)).heap[k]? := fun k hk => Below.heap_setCell _ _ _ _ hk
  refine ⟨⟨?_, ?_, hlt, ?_⟩, ?_, ?_, ?_, by omega, by omega, by omega, by omega, ?_, hgB, hle, .inr (.inl rfl), .inr (.inr (Nat.le_refl _))⟩
  · rw [heap_set hq0, hlen]; simp
  · rw [hlen]
    have o1 : (wc.alloc (.cells #[.int .u64 x.1, .int .i64 x.2] 140)).ownsRow B 140 2 (.slice (some ⟨g, 0, none⟩) l.length c) l.length (qCells l) := own_chg (S := fun _ => False) h.own (Chg.of_below (below_on hp.bel hb)) (fun _ _ h => h)
    have o2 := own_chg (S := fun k => k = Q) o1 (w' := (wc.alloc (.cells #[.int .u64 x.1, .int .i64 x.2] 140)).setCell ⟨Q, 0, none⟩ (.slice (some ⟨g, 0, none⟩) n c)) ⟨rfl, rfl, rfl, by simp [World.setCell], fun k _ hk => ne k hk⟩ (fun k hk => by simp [Value.ownBlock] at hk; omega)
    rw [hn] at o2
    have e : qCells l = qCells (l.take n) ++ qCells (l.drop n) := by
      unfold qCells
      rw [← List.flatMap_append, List.take_append_drop]
    rw [e] at o2
    exact ownsRow_pop (by rw [qCells_length, hlen]) o2
  · simp [World.setCell]; omega
  · rw [ne _ (by omega), hb.block _ (by omega)]; exact hp.hR
  · rw [ne _ (by omega), hb.block _ (by omega)]; exact hp.hF
  · rw [ne _ (by omega)]
    exact heap_new wc (.cells #[.int .u64 x.1, .int .i64 x.2] 140)
  · exact ((Chg.of_below hp.bel).trans (Chg.of_below hb)).setCell (p := ⟨Q, 0, none⟩) (.inl rfl) _

theorem pop_drew {w wf : World} {Q B : Nat} {v : Value} {l : List Pr} {e : Ending} (h : PopPost w Q B v l e wf) : PopPost w Q B v l e wf.drew := by
  obtain ⟨h1, v', l', h2, h3, h4, h5, h6, h7⟩ := h
  exact ⟨h1, v', l', h2.below (Below.refl _ _).drew, h3, h4, h5, h6.drew, h7⟩

set_option maxRecDepth 100000 in
set_option maxHeartbeats 8000000 in
theorem pop_any (w : World) (Q B : Nat) (v : Value) (l : List Pr) (n : Nat) (h : QIs w Q B v l) (hp : Hp l) (hn : l.length = n + 1) (hl : n ≤ 10000000) :
    Calls Try.prog 97 #[.pointer (some ⟨Q, 0, none⟩)] w (PopPost w Q B v l) := by
  have H := hide h
  have HP := hide hp
  have hQw := lt_of_heap h.hh
  have hle := h.le
  obtain ⟨g, c, rfl, hgB, hgw, hnc, hcm, hcl⟩ := own_cells h.own (by omega)
  rw [hn] at hnc
  have c0 : (w.alloc (.cells #[.int .u64 0, .int .i64 0] 140)).cell? ⟨Q, 0, none⟩ = some (.slice (some ⟨g, 0, none⟩) (n + 1) c) := by
    rw [← hn]; exact (below_cell (below_alloc (Below.refl _ _) _) hQw).trans (cell_of h.hh rfl)
  obtain ⟨⟨s0, s1⟩, _, _⟩ := hcl 0 (by omega)
  have a0 : (w.alloc (.cells #[.int .u64 0, .int .i64 0] 140)).cell? ⟨g, 0, none⟩ = some (.int .u64 (sAt l 0).1) := (below_cell (below_alloc (Below.refl _ _) _) hgw).trans s0
  have a1 : (w.alloc (.cells #[.int .u64 0, .int .i64 0] 140)).cell? ⟨g, 1, none⟩ = some (.int .i64 (sAt l 0).2) := (below_cell (below_alloc (Below.refl _ _) _) hgw).trans s1
  have HCL := hide hcl
  have hnq : ¬ Q = w.heap.size := by omega
  have hnq1 : ¬ Q = w.heap.size + 1 := by omega
  have hng : ¬ g = w.heap.size := by omega
  have hng1 : ¬ g = w.heap.size + 1 := by omega
  have HN := hide hn
  obtain ⟨y0, hy0⟩ : ∃ z, z = (sAt l 0).1 := ⟨_, rfl⟩
  obtain ⟨y1, hy1⟩ : ∃ z, z = (sAt l 0).2 := ⟨_, rfl⟩
  rw [← hy0] at a0
  rw [← hy1] at a1
  have HY := hide (show (y0, y1) = sAt l 0 by rw [hy0, hy1])
  clear h hp hcl s0 s1 hn hy0 hy1
  go_enter Try.func97, Try.ntmps97
  go_wp2_with fail
  go_cut [3, 4] from 8 to 19 (fun t u wx => t = .pointer (some ⟨w.heap.size + 1, 0, none⟩) ∧ u = .int .i64 (n : Int) ∧ P1 w wx (y0, y1))
  case first =>
    go_region
    all_goals
      go_wp2_with fail
      go_meet
      case rel => exact ⟨rfl, rfl, p1_made w (y0, y1)⟩
  case rest =>
    obtain ⟨rfl, rfl, hp1⟩ := hcut
    have HP1 := hide hp1
    have hsz := hp1.size
    have d0 : wc.cell? ⟨Q, 0, none⟩ = some (.slice (some ⟨g, 0, none⟩) (n + 1) c) := (below_cell hp1.bel hQw).trans (by rw [← HN.out]; exact cell_of H.out.hh rfl)
    have dq : wc.heap[Q]? = some (.cells #[.slice (some ⟨g, 0, none⟩) (n + 1) c, fnv 93] 167 (0, 0)) := (hp1.bel.block Q hQw).trans (by rw [← HN.out]; exact H.out.hh)
    have fq := free_of dq 0
    obtain ⟨⟨s0, s1⟩, _, _⟩ := HCL.out n (by have := HN.out; omega)
    have t0 := (below_cell (o := n * 2) hp1.bel hgw).trans s0
    have t1 := (below_cell (o := n * 2 + 1) hp1.bel hgw).trans s1
    obtain ⟨x0, hx0⟩ : ∃ z, z = (sAt l n).1 := ⟨_, rfl⟩
    obtain ⟨x1, hx1⟩ : ∃ z, z = (sAt l n).2 := ⟨_, rfl⟩
    rw [← hx0] at t0
    rw [← hx1] at t1
    have HX := hide (show (x0, x1) = sAt l n by rw [hx0, hx1])
    have hnqc : ¬ Q = wc.heap.size := by omega
    have HSZ := hide hsz
    have dqa : (wc.alloc (.cells #[.int .u64 x0, .int .i64 x1] 140)).heap[Q]? = some (.cells #[.slice (some ⟨g, 0, none⟩) (n + 1) c, fnv 93] 167 (0, 0)) := (Below.heap_alloc _ _ _ (by omega)).trans dq
    have d0a := cell_of dqa (i := 0) rfl
    have fqa := free_of dqa 0
    have HPD := hide (pd_made (x := (x0, x1)) H.out HN.out hp1 hgB)
    have hgQ : ¬ g = Q := by have := H.out.lt; omega
    clear hp1 a0 a1 c0 s0 s1 hx0 hx1 dq hsz dqa
    go_wp2
    have hRF : ¬ w.heap.size = w.heap.size + 1 := by omega
    generalize ((wc.alloc (.cells #[.int .u64 x0, .int .i64 x1] 140)).setCell ⟨Q, 0, none⟩ (.slice (some ⟨g, 0, none⟩) n c)) = w2 at HPD ⊢
    generalize wc.heap.size = X at HPD ⊢
    rw [HY.out] at HPD
    clear d0 fq t0 t1 d0a fqa HP1 HSZ hnqc
    rcases Nat.eq_zero_or_pos n with hn0 | hn0
    · subst hn0
      rw [List.take_zero] at HPD
      have hR := HPD.out.hR
      have hF := HPD.out.hF
      have q0 : w2.cell? ⟨w.heap.size, 0, none⟩ = some (.int .u64 0) := cell_of hR rfl
      have q1 : w2.cell? ⟨w.heap.size, 1, none⟩ = some (.int .i64 0) := cell_of hR rfl
      have r0 := free_of hR 0
      have r1 := free_of hR 1
      rw [← HY.out] at hF
      have p0 : w2.cell? ⟨w.heap.size + 1, 0, none⟩ = some (.int .u64 y0) := cell_of hF rfl
      have p1 : w2.cell? ⟨w.heap.size + 1, 1, none⟩ = some (.int .i64 y1) := cell_of hF rfl
      have HE := hide (fun k => pop_one (HPD.out.below (below_drewN (Below.refl _ _) k)) (by have := HN.out; omega))
      rw [← HY.out] at HE
      clear hR hF
      refine wp_loop_rounds 1 ?_
      rw [rounds_succ]
      go_wp2
      go_quiet (fail)
      go_wp2
      go_quiet (fail)
      go_wp2
      exact bodyPost_ret (results_cell_row Try.results97 _ _ w.heap.size 140 _ (0, 0) _ rfl (HE.out _).1 Try.underlying140 rfl (by kernel_rfl)) rfl (HE.out _).2
    · have HDN := hide (down_start l n HN.out hn0 HP.out)
      rw [← HX.out] at HDN
      have HLT : Hid ((l.take n).length = n) := by show (l.take n).length = n; rw [List.length_take]; have := HN.out; omega
      go_loopw [6] (fun t wr => ∃ (m : List Pr) (a : Nat), t = .int .i64 a ∧ m.length = n ∧ PD w wr (.slice (some ⟨g, 0, none⟩) l.length c) Q B w.heap.size (w.heap.size + 1) X g c m l (x0, x1) (sAt l 0) ∧ Down m a (x0, x1) l) (fun t _ => n - (RowKit.intOf t).toNat)
      case atStart => exact ⟨l.take n, 0, rfl, HLT.out, HPD.out, HDN.out⟩
      case round =>
        obtain ⟨m, a, rfl, hmn, hpd, hdn⟩ := hrel
        have HPR := hide hpd
        have HDR := hide hdn
        have HMN := hide hmn
        have han : a < n := by have := hdn.lt; omega
        have hgr : g < wr.heap.size := by
          obtain ⟨g', c', he, _, hgw', _⟩ := own_cells hpd.q.own (by omega)
          simp only [Value.slice.injEq, Option.some.injEq, Addr.mk.injEq, true_and, and_true] at he
          obtain ⟨rfl, rfl⟩ := he
          exact hgw'
        have hQr := lt_of_heap hpd.q.hh
        have hXr := lt_of_heap hpd.hX
        have hRr := lt_of_heap hpd.hR
        have hFr := lt_of_heap hpd.hF
        have HCR : Hid (∀ (W : World), Below wr.heap.size wr W → ∀ i, i < n → (W.cell? ⟨g, i * 2, none⟩ = some (.int .u64 (sAt m i).1) ∧ W.cell? ⟨g, i * 2 + 1, none⟩ = some (.int .i64 (sAt m i).2)) ∧ W.frozen? ⟨g, i * 2, none⟩ = false ∧ W.frozen? ⟨g, i * 2 + 1, none⟩ = false) := by
          intro W hW i hi
          obtain ⟨g', c', he, _, _, _, _, hcl⟩ := own_cells (hpd.below hW).q.own (by omega)
          simp only [Value.slice.injEq, Option.some.injEq, Addr.mk.injEq, true_and, and_true] at he
          obtain ⟨rfl, rfl⟩ := he
          exact hcl i (by omega)
        have HQC : Hid (∀ (W : World), Below wr.heap.size wr W → W.cell? ⟨Q, 0, none⟩ = some (.slice (some ⟨g, 0, none⟩) n c) ∧ W.cell? ⟨Q, 1, none⟩ = some (.func (.func 93) #[] #[])) := by
          intro W hW
          have := (hpd.below hW).q.hh
          rw [hmn] at this
          exact ⟨cell_of this rfl, cell_of this rfl⟩
        have HXC : Hid (∀ (W : World), Below wr.heap.size wr W → W.cell? ⟨X, 0, none⟩ = some (.int .u64 x0) ∧ W.cell? ⟨X, 1, none⟩ = some (.int .i64 x1)) := by
          intro W hW
          have := (hpd.below hW).hX
          exact ⟨cell_of this rfl, cell_of this rfl⟩
        have HRC : Hid (∀ (W : World), Below wr.heap.size wr W → W.cell? ⟨w.heap.size, 0, none⟩ = some (.int .u64 0) ∧ W.cell? ⟨w.heap.size, 1, none⟩ = some (.int .i64 0) ∧ W.frozen? ⟨w.heap.size, 0, none⟩ = false ∧ W.frozen? ⟨w.heap.size, 1, none⟩ = false ∧ W.cell? ⟨w.heap.size + 1, 0, none⟩ = some (.int .u64 y0) ∧ W.cell? ⟨w.heap.size + 1, 1, none⟩ = some (.int .i64 y1)) := by
          intro W hW
          have h1 := (hpd.below hW).hR
          have h2 := (hpd.below hW).hF
          rw [← HY.out] at h2
          exact ⟨cell_of h1 rfl, cell_of h1 rfl, free_of h1 0, free_of h1 1, cell_of h2 rfl, cell_of h2 rfl⟩
        have hgR := hpd.gR
        have hgF := hpd.gF
        have hgX := hpd.gX
        clear hpd hdn hmn HPD HDN
        obtain ⟨k1, hk1⟩ : ∃ k1 : Nat, k1 = 2 * a + 1 := ⟨_, rfl⟩
        have hki : 2 * (a : Int) + 1 = (k1 : Int) := by omega
        have HK1 := hide hk1
        have hk1b : k1 ≤ 20000001 := by omega
        clear hk1
        go_wp2_with fail
        go_cut [64] from 39 to 64 (fun t wx => ∃ b : Bool, t = .bool b ∧ (b = true → k1 + 1 < n ∧ lb m (k1 + 1) < lb m k1) ∧ (b = false → k1 + 1 < n → lb m k1 ≤ lb m (k1 + 1)) ∧ Below wr.heap.size wr wx)
        case first =>
          by_cases hA : k1 + 1 < n
          · have hg : decide ((k1 : Int) + 1 < (n : Int)) = true := decide_eq_true (by omega)
            have hAi : (k1 : Int) + 1 < (n : Int) := by omega
            have hBi : (k1 : Int) < (n : Int) := by omega
            obtain ⟨u0, hu0⟩ : ∃ z, z = (sAt m k1).1 := ⟨_, rfl⟩
            obtain ⟨u1, hu1⟩ : ∃ z, z = (sAt m k1).2 := ⟨_, rfl⟩
            obtain ⟨v0, hv0⟩ : ∃ z, z = (sAt m (k1 + 1)).1 := ⟨_, rfl⟩
            obtain ⟨v1, hv1⟩ : ∃ z, z = (sAt m (k1 + 1)).2 := ⟨_, rfl⟩
            have z0 : ∀ x : GW wr, x.world.cell? ⟨Q, 0, none⟩ = some (.slice (some ⟨g, 0, none⟩) n c) := fun x => (HQC.out _ x.bel).1
            have z1 : ∀ x : GW wr, x.world.cell? ⟨Q, 1, none⟩ = some (.func (.func 93) #[] #[]) := fun x => (HQC.out _ x.bel).2
            have p0 : ∀ x : GW wr, x.world.cell? ⟨g, k1 * 2, none⟩ = some (.int .u64 u0) := fun x => by rw [hu0]; exact (HCR.out _ x.bel k1 (by omega)).1.1
            have p1 : ∀ x : GW wr, x.world.cell? ⟨g, k1 * 2 + 1, none⟩ = some (.int .i64 u1) := fun x => by rw [hu1]; exact (HCR.out _ x.bel k1 (by omega)).1.2
            have q0 : ∀ x : GW wr, x.world.cell? ⟨g, (k1 + 1) * 2, none⟩ = some (.int .u64 v0) := fun x => by rw [hv0]; exact (HCR.out _ x.bel (k1 + 1) (by omega)).1.1
            have q1 : ∀ x : GW wr, x.world.cell? ⟨g, (k1 + 1) * 2 + 1, none⟩ = some (.int .i64 v1) := fun x => by rw [hv1]; exact (HCR.out _ x.bel (k1 + 1) (by omega)).1.2
            have HAG := hide (fun x : GW wr => gw_of (ahead_any v0 v1 u0 u1 x.world))
            have HUV := hide (And.intro hu0 hv0)
            have HKID : Hid (∀ s, 1 ≤ s → s < n → (s - 1) / 2 = a → s = k1 ∨ s = k1 + 1) := fun s h1 h2 h3 => by have := HK1.out; omega
            clear hu0 hu1 hv0 hv1
            by_cases hx : v0 < u0
            · rw [decide_eq_true hx] at HAG
              have HX2 := hide hx
              clear hx
              refine wp_region_gw (by kernel_rfl) (by kernel_rfl) ?_
              repeat (go_big_quiet_step (first
                | (go_at_call 93; exact HAG.out _)
                | rfl))
              refine wpQuiet_nil ?_
              intro _ hw'
              obtain ⟨y, hw''⟩ := hw'
              subst hw''
              have HBY := hide y.bel
              clear z0 z1 p0 p1 q0 q1 HAG
              go_wp2_with fail
              go_meet
              case rel => exact ⟨true, rfl, fun _ => ⟨hA, (by have e1 := HUV.out.1; have e2 := HUV.out.2; have e3 := HX2.out; unfold lb; rw [← e1, ← e2]; exact e3)⟩, fun h => absurd h (by simp), HBY.out⟩
            · rw [decide_eq_false hx] at HAG
              have HX2 := hide hx
              clear hx
              refine wp_region_gw (by kernel_rfl) (by kernel_rfl) ?_
              repeat (go_big_quiet_step (first
                | (go_at_call 93; exact HAG.out _)
                | rfl))
              refine wpQuiet_nil ?_
              intro _ hw'
              obtain ⟨y, hw''⟩ := hw'
              subst hw''
              have HBY := hide y.bel
              clear z0 z1 p0 p1 q0 q1 HAG
              go_wp2_with fail
              go_meet
              case rel => exact ⟨false, rfl, fun h => absurd h (by simp), fun _ _ => (by have e1 := HUV.out.1; have e2 := HUV.out.2; have e3 := HX2.out; unfold lb; rw [← e1, ← e2]; exact e3), HBY.out⟩
          · have hg : decide ((k1 : Int) + 1 < (n : Int)) = false := decide_eq_false (by omega)
            have hg1 : ¬ (k1 : Int) + 1 < (n : Int) := by omega
            have hg2 : ¬ k1 + 1 < n := hA
            have HKID : Hid (∀ s, 1 ≤ s → s < n → (s - 1) / 2 = a → s = k1) := fun s h1 h2 h3 => by have := HK1.out; omega
            refine wp_region_gw (by kernel_rfl) (by kernel_rfl) ?_
            repeat (go_big_quiet_step (rfl))
            refine wpQuiet_nil ?_
            intro _ hw'
            obtain ⟨y, hw''⟩ := hw'
            subst hw''
            have HBY := hide y.bel
            go_wp2_with fail
            go_meet
            case rel => exact ⟨false, rfl, fun h => absurd h (by simp), fun _ h => absurd h hg2, HBY.out⟩
        case rest =>
          obtain ⟨b, rfl, hbt, hbf, hbx⟩ := hcut
          cases b
          · by_cases hk : k1 < n
            · have hcn := hk
              have hmin : ∀ s, 1 ≤ s → s < n → (s - 1) / 2 = a → lb m k1 ≤ lb m s := fun s h1 h2 h3 => by
                have h4 : s = k1 ∨ s = k1 + 1 := by have := HK1.out; omega
                rcases h4 with rfl | rfl
                · omega
                · have := hbf rfl h2; omega
              clear hbt hbf
              have HMIN := hide hmin
              have hg : decide ((n : Int) ≤ (k1 : Int)) = false := decide_eq_false (by omega)
              have hg1 : ¬ (n : Int) ≤ (k1 : Int) := by omega
              have hg2 : ¬ n ≤ k1 := by omega
              obtain ⟨u0, hu0⟩ : ∃ z, z = (sAt m k1).1 := ⟨_, rfl⟩
              obtain ⟨u1, hu1⟩ : ∃ z, z = (sAt m k1).2 := ⟨_, rfl⟩
              have z0 : ∀ x : GW wc, x.world.cell? ⟨Q, 0, none⟩ = some (.slice (some ⟨g, 0, none⟩) n c) := fun x => (HQC.out _ (below_on hbx x.bel)).1
              have z1 : ∀ x : GW wc, x.world.cell? ⟨Q, 1, none⟩ = some (.func (.func 93) #[] #[]) := fun x => (HQC.out _ (below_on hbx x.bel)).2
              have p0 : ∀ x : GW wc, x.world.cell? ⟨g, k1 * 2, none⟩ = some (.int .u64 u0) := fun x => by rw [hu0]; exact (HCR.out _ (below_on hbx x.bel) k1 hcn).1.1
              have p1 : ∀ x : GW wc, x.world.cell? ⟨g, k1 * 2 + 1, none⟩ = some (.int .i64 u1) := fun x => by rw [hu1]; exact (HCR.out _ (below_on hbx x.bel) k1 hcn).1.2
              have q0 : ∀ x : GW wc, x.world.cell? ⟨X, 0, none⟩ = some (.int .u64 x0) := fun x => (HXC.out _ (below_on hbx x.bel)).1
              have q1 : ∀ x : GW wc, x.world.cell? ⟨X, 1, none⟩ = some (.int .i64 x1) := fun x => (HXC.out _ (below_on hbx x.bel)).2
              have HAG := hide (fun x : GW wc => gw_of (ahead_any u0 u1 x0 x1 x.world))
              have HU := hide (And.intro hu0 hu1)
              have hcha : ¬ a = k1 := by have := HK1.out; omega
              clear hmin hu0 hu1
              by_cases hx : u0 < x0
              · rw [decide_eq_true hx] at HAG
                have HST : Hid (Down (m.set a (sAt m k1)) k1 (x0, x1) l) := by
                  refine down_step HDR.out (by have := HMN.out; omega) (by omega) (by have := HK1.out; omega) (fun s h1 h2 h3 => HMIN.out s h1 (by have := HMN.out; omega) h3) ?_
                  show (sAt m k1).1 < x0
                  rw [← HU.out.1]; exact hx
                clear hx
                go_wp2_with fail
                refine wp_region_gw (by kernel_rfl) (by kernel_rfl) ?_
                repeat (go_big_quiet_step (first
                  | (go_at_call 93; exact HAG.out _)
                  | rfl))
                refine wpQuiet_nil ?_
                intro _ hw'
                obtain ⟨y, hw''⟩ := hw'
                subst hw''
                have hby := below_on hbx y.bel
                have HBY := hide hby
                obtain ⟨⟨a0', a1'⟩, af0, af1⟩ := HCR.out _ hby a han
                obtain ⟨t0, t1⟩ := HQC.out _ hby
                obtain ⟨r0, r1, rf0, rf1, r2, r3⟩ := HRC.out _ hby
                obtain ⟨xx0, xx1⟩ := HXC.out _ hby
                have l0 := p0 y
                have l1 := p1 y
                clear z0 z1 p0 p1 q0 q1 HAG r0 r1 rf0 rf1 r2 r3 xx0 xx1 hby
                go_wp2
                go_region
                all_goals
                  go_wp2
                  refine ⟨⟨m.set a (sAt m k1), k1, rfl, by rw [List.length_set]; exact HMN.out, ?_, HST.out⟩, by simp [RowKit.intOf]; have := HK1.out; omega⟩
                  have hput := ((HPR.out.below HBY.out).put a (sAt m k1)).below (Below.refl _ _).drew
                  rw [← HU.out.1, ← HU.out.2] at hput
                  exact hput
              · rw [decide_eq_false hx] at HAG
                have HNX : Hid (∀ s, 1 ≤ s → s < m.length → (s - 1) / 2 = a → (x0, x1).1 ≤ lb m s) := fun s h1 h2 h3 => by
                  have h4 := HMIN.out s h1 (by have := HMN.out; omega) h3
                  have h5 : u0 = lb m k1 := HU.out.1
                  show x0 ≤ lb m s
                  omega
                clear hx
                go_wp2_with fail
                refine wp_region_gw (by kernel_rfl) (by kernel_rfl) ?_
                repeat (go_big_quiet_step (first
                  | (go_at_call 93; exact HAG.out _)
                  | rfl))
                refine wpQuiet_nil ?_
                intro _ hw'
                obtain ⟨y, hw''⟩ := hw'
                subst hw''
                have hby := below_on hbx y.bel
                have HBY := hide hby
                obtain ⟨⟨a0', a1'⟩, af0, af1⟩ := HCR.out _ hby a han
                obtain ⟨t0, t1⟩ := HQC.out _ hby
                obtain ⟨r0, r1, rf0, rf1, r2, r3⟩ := HRC.out _ hby
                obtain ⟨xx0, xx1⟩ := HXC.out _ hby
                have HEND := hide (pop_end ((HPR.out.below HBY.out).put a (x0, x1)) HDR.out HNX.out)
                rw [← HY.out] at HEND
                clear z0 z1 p0 p1 q0 q1 HAG hby
                go_wp2
                go_region
                all_goals
                  go_wp2
                  exact bodyPost_ret (results_cell_row Try.results97 _ _ w.heap.size 140 _ (0, 0) _ rfl (show (World.drew _).heap[_]? = _ from HEND.out.1) Try.underlying140 rfl (by kernel_rfl)) rfl (pop_drew HEND.out.2)
            · have hg : decide ((n : Int) ≤ (k1 : Int)) = true := decide_eq_true (by omega)
              have hg1 : (n : Int) ≤ (k1 : Int) := by omega
              have hg2 : n ≤ k1 := by omega
              have HNX : Hid (∀ s, 1 ≤ s → s < m.length → (s - 1) / 2 = a → (x0, x1).1 ≤ lb m s) := fun s h1 h2 h3 => absurd h3 (by have := HMN.out; have := HK1.out; omega)
              clear hbt hbf
              go_wp2_with fail
              refine wp_region_gw (by kernel_rfl) (by kernel_rfl) ?_
              repeat (go_big_quiet_step (rfl))
              refine wpQuiet_nil ?_
              intro _ hw'
              obtain ⟨y, hw''⟩ := hw'
              subst hw''
              have hby := below_on hbx y.bel
              have HBY := hide hby
              obtain ⟨⟨a0', a1'⟩, af0, af1⟩ := HCR.out _ hby a han
              obtain ⟨t0, t1⟩ := HQC.out _ hby
              obtain ⟨r0, r1, rf0, rf1, r2, r3⟩ := HRC.out _ hby
              obtain ⟨xx0, xx1⟩ := HXC.out _ hby
              have HEND := hide (pop_end ((HPR.out.below HBY.out).put a (x0, x1)) HDR.out HNX.out)
              rw [← HY.out] at HEND
              clear hby
              go_wp2
              go_region
              all_goals
                go_wp2
                exact bodyPost_ret (results_cell_row Try.results97 _ _ w.heap.size 140 _ (0, 0) _ rfl (show (World.drew _).heap[_]? = _ from HEND.out.1) Try.underlying140 rfl (by kernel_rfl)) rfl (pop_drew HEND.out.2)
          · obtain ⟨hcn1, hlt1⟩ := hbt rfl
            obtain ⟨ch, hche⟩ : ∃ ch : Nat, ch = k1 + 1 := ⟨_, rfl⟩
            have hci : (k1 : Int) + 1 = (ch : Int) := by omega
            have hcn : ch < n := by omega
            have hmin : ∀ s, 1 ≤ s → s < n → (s - 1) / 2 = a → lb m ch ≤ lb m s := fun s h1 h2 h3 => by
              have h4 : s = k1 ∨ s = ch := by have := HK1.out; omega
              rw [hche]
              rcases h4 with rfl | rfl
              · omega
              · rw [hche]; omega
            have HCE := hide hche
            clear hbt hbf hcn1 hlt1 hche
            have HMIN := hide hmin
            have hg : decide ((n : Int) ≤ (ch : Int)) = false := decide_eq_false (by omega)
            have hg1 : ¬ (n : Int) ≤ (ch : Int) := by omega
            have hg2 : ¬ n ≤ ch := by omega
            obtain ⟨u0, hu0⟩ : ∃ z, z = (sAt m ch).1 := ⟨_, rfl⟩
            obtain ⟨u1, hu1⟩ : ∃ z, z = (sAt m ch).2 := ⟨_, rfl⟩
            have z0 : ∀ x : GW wc, x.world.cell? ⟨Q, 0, none⟩ = some (.slice (some ⟨g, 0, none⟩) n c) := fun x => (HQC.out _ (below_on hbx x.bel)).1
            have z1 : ∀ x : GW wc, x.world.cell? ⟨Q, 1, none⟩ = some (.func (.func 93) #[] #[]) := fun x => (HQC.out _ (below_on hbx x.bel)).2
            have p0 : ∀ x : GW wc, x.world.cell? ⟨g, ch * 2, none⟩ = some (.int .u64 u0) := fun x => by rw [hu0]; exact (HCR.out _ (below_on hbx x.bel) ch hcn).1.1
            have p1 : ∀ x : GW wc, x.world.cell? ⟨g, ch * 2 + 1, none⟩ = some (.int .i64 u1) := fun x => by rw [hu1]; exact (HCR.out _ (below_on hbx x.bel) ch hcn).1.2
            have q0 : ∀ x : GW wc, x.world.cell? ⟨X, 0, none⟩ = some (.int .u64 x0) := fun x => (HXC.out _ (below_on hbx x.bel)).1
            have q1 : ∀ x : GW wc, x.world.cell? ⟨X, 1, none⟩ = some (.int .i64 x1) := fun x => (HXC.out _ (below_on hbx x.bel)).2
            have HAG := hide (fun x : GW wc => gw_of (ahead_any u0 u1 x0 x1 x.world))
            have HU := hide (And.intro hu0 hu1)
            have hcha : ¬ a = ch := by have := HK1.out; have := HCE.out; omega
            clear hmin hu0 hu1
            by_cases hx : u0 < x0
            · rw [decide_eq_true hx] at HAG
              have HST : Hid (Down (m.set a (sAt m ch)) ch (x0, x1) l) := by
                refine down_step HDR.out (by have := HMN.out; omega) (by omega) (by have := HK1.out; have := HCE.out; omega) (fun s h1 h2 h3 => HMIN.out s h1 (by have := HMN.out; omega) h3) ?_
                show (sAt m ch).1 < x0
                rw [← HU.out.1]; exact hx
              clear hx
              go_wp2_with fail
              refine wp_region_gw (by kernel_rfl) (by kernel_rfl) ?_
              repeat (go_big_quiet_step (first
                | (go_at_call 93; exact HAG.out _)
                | rfl))
              refine wpQuiet_nil ?_
              intro _ hw'
              obtain ⟨y, hw''⟩ := hw'
              subst hw''
              have hby := below_on hbx y.bel
              have HBY := hide hby
              obtain ⟨⟨a0', a1'⟩, af0, af1⟩ := HCR.out _ hby a han
              obtain ⟨t0, t1⟩ := HQC.out _ hby
              obtain ⟨r0, r1, rf0, rf1, r2, r3⟩ := HRC.out _ hby
              obtain ⟨xx0, xx1⟩ := HXC.out _ hby
              have l0 := p0 y
              have l1 := p1 y
              clear z0 z1 p0 p1 q0 q1 HAG r0 r1 rf0 rf1 r2 r3 xx0 xx1 hby
              go_wp2
              go_region
              all_goals
                go_wp2
                refine ⟨⟨m.set a (sAt m ch), ch, rfl, by rw [List.length_set]; exact HMN.out, ?_, HST.out⟩, by simp [RowKit.intOf]; have := HK1.out; have := HCE.out; omega⟩
                have hput := ((HPR.out.below HBY.out).put a (sAt m ch)).below (Below.refl _ _).drew
                rw [← HU.out.1, ← HU.out.2] at hput
                exact hput
            · rw [decide_eq_false hx] at HAG
              have HNX : Hid (∀ s, 1 ≤ s → s < m.length → (s - 1) / 2 = a → (x0, x1).1 ≤ lb m s) := fun s h1 h2 h3 => by
                have h4 := HMIN.out s h1 (by have := HMN.out; omega) h3
                have h5 : u0 = lb m ch := HU.out.1
                show x0 ≤ lb m s
                omega
              clear hx
              go_wp2_with fail
              refine wp_region_gw (by kernel_rfl) (by kernel_rfl) ?_
              repeat (go_big_quiet_step (first
                | (go_at_call 93; exact HAG.out _)
                | rfl))
              refine wpQuiet_nil ?_
              intro _ hw'
              obtain ⟨y, hw''⟩ := hw'
              subst hw''
              have hby := below_on hbx y.bel
              have HBY := hide hby
              obtain ⟨⟨a0', a1'⟩, af0, af1⟩ := HCR.out _ hby a han
              obtain ⟨t0, t1⟩ := HQC.out _ hby
              obtain ⟨r0, r1, rf0, rf1, r2, r3⟩ := HRC.out _ hby
              obtain ⟨xx0, xx1⟩ := HXC.out _ hby
              have HEND := hide (pop_end ((HPR.out.below HBY.out).put a (x0, x1)) HDR.out HNX.out)
              rw [← HY.out] at HEND
              clear z0 z1 p0 p1 q0 q1 HAG hby
              go_wp2
              go_region
              all_goals
                go_wp2
                exact bodyPost_ret (results_cell_row Try.results97 _ _ w.heap.size 140 _ (0, 0) _ rfl (show (World.drew _).heap[_]? = _ from HEND.out.1) Try.underlying140 rfl (by kernel_rfl)) rfl (pop_drew HEND.out.2)
end Go.Proofs.Ytehlciejhegndaa
