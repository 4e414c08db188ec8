import Derived.Test.YtiohimbifjlfdaaRows
import Derived.WalkKit
import Derived.Lib.Walk
import Derived.Lib.SliceRun
import Derived.RegionTactic
import Derived.BigRegion
import Derived.BigQuiet
import Derived.WalkSmall
import Derived.Deep.Draws
/- Words that all the walks over dice share: rows of numbers in memory, worlds that differ in one block. -/
namespace Go.Proofs.Ytiohimbifjlfdaa
open Go.RowKit Go.Lib

/-- A slice value that reads as these numbers; the spare room is not looked at. -/
def RowAt (k : IntKind) (w : World) (v : Value) (xs : List Int) : Prop :=
  ∃ ao c, v = .slice ao xs.length c ∧ xs.length ≤ c ∧ c ≤ 9223372036854775807 ∧ (ao = none → c = 0) ∧
    ∀ a, ao = some a → ∀ i, i < xs.length → w.cell? (a.add i) = some (.int k (xs.getD i 0))

/-- The worlds are alike but for the block b, and for new blocks. -/
structure But (b : Nat) (w w' : World) : Prop where
  os : w'.os = w.os
  tape : w'.tape = w.tape
  output : w'.output = w.output
  size : w.heap.size ≤ w'.heap.size
  block : ∀ k, k < w.heap.size → k ≠ b → w'.heap[k]? = w.heap[k]?

theorem But.refl (b : Nat) (w : World) : But b w w := ⟨rfl, rfl, rfl, Nat.le_refl _, fun _ _ _ => rfl⟩
theorem But.trans {b : Nat} {x y z : World} (h : But b x y) (k : But b y z) : But b x z :=
  ⟨k.os.trans h.os, k.tape.trans h.tape, k.output.trans h.output, Nat.le_trans h.size k.size,
    fun i hi hb => (k.block i (Nat.lt_of_lt_of_le hi h.size) hb).trans (h.block i hi hb)⟩
theorem But.setCell (w : World) (p : Addr) (u : Value) : But p.block w (w.setCell p u) :=
  ⟨rfl, rfl, rfl, by simp [World.setCell], fun k _ hb => Below.heap_setCell _ _ _ _ hb⟩
theorem But.of_below {b : Nat} {w w' : World} (h : Below w.heap.size w w') : But b w w' :=
  ⟨h.os, h.tape, h.output, h.size, fun k hk _ => h.block k hk⟩
theorem But.below {b B : Nat} {a w w' : World} (h : Below B a w) (k : But b w w') (hb : B ≤ b) (hs : B ≤ w.heap.size) : Below B a w' :=
  h.trans ⟨k.os, k.tape, k.output, k.size, fun i hi => k.block i (by omega) (by omega)⟩
theorem But.heap {b : Nat} {w w' : World} (h : But b w w') {k : Nat} {o : Obj} (hk : w.heap[k]? = some o) (hb : k ≠ b) : w'.heap[k]? = some o := by
  have hlt : k < w.heap.size := by
    rcases Nat.lt_or_ge k w.heap.size with h | h
    · exact h
    · rw [Array.getElem?_eq_none h] at hk; cases hk
  rw [h.block k hlt hb]; exact hk

theorem lt_of_heap {w : World} {k : Nat} {o : Obj} (hk : w.heap[k]? = some o) : k < w.heap.size := by
  rcases Nat.lt_or_ge k w.heap.size with h | h
  · exact h
  · rw [Array.getElem?_eq_none h] at hk; cases hk

theorem block_of_cell {w : World} {a : Addr} {v : Value} (h : w.cell? a = some v) : a.block < w.heap.size := by
  rcases Nat.lt_or_ge a.block w.heap.size with hl | hl
  · exact hl
  · unfold World.cell? at h
    rw [Array.getElem?_eq_none hl] at h
    simp at h


theorem RowAt.of_owns {w : World} {base : Nat} {e : TypeId} {k : IntKind} {v : Value} {xs : List Int} (h : w.ownsRow base e 1 v xs.length (xs.map (Value.int k))) :
    RowAt k w v xs := by
  obtain ⟨h1, h2⟩ := h
  rcases h2 with ⟨rfl, hn⟩ | ⟨g, cap, cur, rfl, hg, hh, hnc, hcm, hcur, htake⟩
  · exact ⟨none, 0, by rw [hn], by omega, by omega, (fun _ => rfl), (fun a ha => by cases ha)⟩
  · refine ⟨_, cap, rfl, hnc, hcm, (fun h => by cases h), ?_⟩
    intro a ha i hi
    cases ha
    have hlen : i < cur.size := by omega
    rw [Addr.add_lit]
    simp only [World.cell?, hh]
    have e1 : cur.toList[i]? = some (.int k (xs.getD i 0)) := by
      have : (cur.toList.take (xs.length * 1))[i]? = (xs.map (Value.int k))[i]? := by rw [htake]
      rw [List.getElem?_take_of_lt (by omega)] at this
      rw [this]
      simp [List.getD, List.getElem?_eq_getElem hi]
    simpa using e1

end Go.Proofs.Ytiohimbifjlfdaa

/- What all walks over graphs share: rows, the lists of a graph, sameInts (the law's and the reference's). -/
namespace Go.Proofs.Ytiohimbifjlfdaa
open Go.RowKit Go.Lib

theorem hide {p : Prop} (h : p) : Hid p := h

theorem heap_set {w : World} {b i : Nat} {cs : Array Value} {t : TypeId} {fr : Nat × Nat} (h : w.heap[b]? = some (.cells cs t fr)) (u : Value) :
    (w.setCell ⟨b, i, none⟩ u).heap[b]? = some (.cells (cs.setIfInBounds i u) t fr) := by
  simp [World.setCell, Array.getElem?_modify, h]

theorem cell_of {w : World} {b i : Nat} {cs : Array Value} {t : TypeId} {fr : Nat × Nat} {v : Value} (h : w.heap[b]? = some (.cells cs t fr)) (hv : cs[i]? = some v) :
    w.cell? ⟨b, i, none⟩ = some v := by simp [World.cell?, h, hv]
theorem free_of {w : World} {b : Nat} {cs : Array Value} {t : TypeId} (h : w.heap[b]? = some (.cells cs t (0, 0))) (i : Nat) :
    w.frozen? ⟨b, i, none⟩ = false := by simp [World.frozen?, h]

theorem heap_new (w : World) (o : Obj) : (w.alloc o).heap[w.heap.size]? = some o := by
  show (w.heap.push o)[w.heap.size]? = _
  simp


/-- A row that is not empty lies at a plain address. -/
theorem RowAt.spot {k : IntKind} {w : World} {v : Value} {xs : List Int} (h : RowAt k w v xs) (hne : xs ≠ []) :
    ∃ g o c, v = .slice (some ⟨g, o, none⟩) xs.length c ∧ xs.length ≤ c ∧ c ≤ 9223372036854775807 ∧ ∀ i, i < xs.length → w.cell? ⟨g, o + i, none⟩ = some (.int k (xs[i]?.getD 0)) := by
  obtain ⟨ao, c, rfl, h1, h2, h3, h4⟩ := h
  have hl : 0 < xs.length := List.length_pos_iff.2 hne
  cases ao with
  | none => have := h3 rfl; omega
  | some a =>
    obtain ⟨b, o, sp⟩ := a
    have h0 := h4 _ rfl 0 hl
    have hs : sp = none := by simpa [Addr.add] using World.cell?_spot h0
    subst hs
    refine ⟨b, o, c, rfl, h1, h2, fun i hi => ?_⟩
    have := h4 _ rfl i hi
    rw [Addr.add_lit] at this
    simpa [List.getD] using this

theorem RowAt.empty {k : IntKind} {w : World} {v : Value} (h : RowAt k w v []) : ∃ ao c, v = .slice ao 0 c := by
  obtain ⟨ao, c, rfl, _⟩ := h
  exact ⟨ao, c, rfl⟩

theorem RowAt.below {k : IntKind} {w w' : World} {v : Value} {xs : List Int} (h : RowAt k w v xs) (hb : Below w.heap.size w w') : RowAt k w' v xs := by
  obtain ⟨ao, c, rfl, h1, h2, h3, h4⟩ := h
  refine ⟨ao, c, rfl, h1, h2, h3, fun a ha i hi => ?_⟩
  have h5 := h4 a ha i hi
  have hl : (a.add i).block < w.heap.size := block_of_cell h5
  rw [World.cell?, hb.block _ hl]
  exact h5
end Go.Proofs.Ytiohimbifjlfdaa

/- Check, in plain words. -/
namespace Go.Proofs.Ytiohimbifjlfdaa

/-- The first below n of which p holds. -/
def first (p : Nat → Bool) (n : Nat) : Option Nat := (List.range n).find? p
theorem first_none {p : Nat → Bool} {n : Nat} (h : ∀ j, j < n → p j = false) : first p n = none := by
  unfold first
  rw [List.find?_eq_none]
  intro x hx
  rw [h x (List.mem_range.1 hx)]
  simp
theorem first_some {p : Nat → Bool} {n i : Nat} (hi : i < n) (hp : p i = true) (h : ∀ j, j < i → p j = false) : first p n = some i := by
  unfold first
  rw [List.find?_range_eq_some]
  exact ⟨hp, List.mem_range.2 hi, fun j hj => by rw [h j hj]; rfl⟩

def at_ (l : List Int) (i : Nat) : Int := l[i]?.getD 0
def ahead (st : List Int) (i : Nat) : Int := if i = 0 then 0 else at_ st (i - 1)
def BadRow (N m : Nat) (st : List Int) (i : Nat) : Prop := at_ st i < ahead st i ∨ (m : Int) < at_ st i ∨ (i = 0 ∧ at_ st i ≠ 0) ∨ (i = N ∧ at_ st i ≠ m)
instance (N m : Nat) (st : List Int) (i : Nat) : Decidable (BadRow N m st i) := by unfold BadRow; infer_instance
def badRow (N m : Nat) (st : List Int) (i : Nat) : Bool := decide (BadRow N m st i)
def IsV (N : Int) (v : Int) : Prop := 0 ≤ v ∧ v < N
instance (N v : Int) : Decidable (IsV N v) := by unfold IsV; infer_instance
def edgeNo (N : Int) (v x : Int) : Int := if IsV N v then (if 4294967295 < x then 31 else 0) else 30
def badEdge (N : Nat) (to wt : List Int) (e : Nat) : Bool := decide (edgeNo N (at_ to e) (at_ wt e) ≠ 0)

def chkRows (N : Nat) (m : Nat) (st : List Int) : Option Nat := first (badRow N m st) (N + 1)
def chkEdges (N : Nat) (to wt : List Int) : Int × Int :=
  match first (badEdge N to wt) to.length with
  | some e => (edgeNo N (at_ to e) (at_ wt e), e)
  | none => (0, 0)
def Fits (N : Int) (m : Nat) : Prop := 0 ≤ N ∧ N ≤ 1048576 ∧ m ≤ 4194304
instance (N : Int) (m : Nat) : Decidable (Fits N m) := by unfold Fits; infer_instance
/-- What Check answers. -/
def chk (N : Int) (st to wt : List Int) : Int × Int :=
  if Fits N to.length then
    if (st.length : Int) = N + 1 ∧ wt.length = to.length then
      match chkRows N.toNat to.length st with
      | some i => (32, i)
      | none => chkEdges N.toNat to wt
    else (32, -1)
  else (22, -1)
end Go.Proofs.Ytiohimbifjlfdaa

/- sizesFit, isVertex, lookOver, wrongRow. -/
namespace Go.Proofs.Ytiohimbifjlfdaa
open Go.RowKit Go.Lib

def SaysIs (w : World) (P : Prop) (e : Ending) (w' : World) : Prop := ∃ b : Bool, e = .returned (.bool b) ∧ (b = true ↔ P) ∧ w' = w
theorem SaysIs.is {w w' : World} {P : Prop} [Decidable P] {e : Ending} (h : SaysIs w P e w') : e = .returned (.bool (decide P)) ∧ w' = w := by
  obtain ⟨b, rfl, hb, rfl⟩ := h
  refine ⟨?_, rfl⟩
  by_cases hp : P
  · rw [decide_eq_true hp, hb.2 hp]
  · rw [decide_eq_false hp]
    cases b
    · rfl
    · exact absurd (hb.1 rfl) hp
def FitsI (n m : Int) : Prop := 0 ≤ n ∧ n ≤ 1048576 ∧ m ≤ 4194304
instance (n m : Int) : Decidable (FitsI n m) := by unfold FitsI; infer_instance
set_option maxRecDepth 100000 in
theorem fits_says (n m : Int) (w : World) : Calls Try.prog 28 #[.int .i64 n, .int .i64 m] w (SaysIs w (FitsI n m)) := by
  go_enter Try.func28, Try.ntmps28
  go_wp2
  all_goals
    go_ret
    refine ⟨_, rfl, ?_, rfl⟩
    simp [FitsI]
    try omega
theorem fits_any (n m : Int) (w : World) : Calls Try.prog 28 #[.int .i64 n, .int .i64 m] w fun e w' => e = .returned (.bool (decide (FitsI n m))) ∧ w' = w := (fits_says n m w).mono fun _ _ h => h.is
set_option maxRecDepth 100000 in
theorem isV_says (n v : Int) (w : World) : Calls Try.prog 25 #[.int .i64 n, .int .i64 v] w (SaysIs w (IsV n v)) := by
  go_enter Try.func25, Try.ntmps25
  go_wp2
  all_goals
    go_ret
    refine ⟨_, rfl, ?_, rfl⟩
    simp [IsV]
    try omega
theorem isV_any (n v : Int) (w : World) : Calls Try.prog 25 #[.int .i64 n, .int .i64 v] w fun e w' => e = .returned (.bool (decide (IsV n v))) ∧ w' = w := (isV_says n v w).mono fun _ _ h => h.is
set_option maxRecDepth 100000 in
theorem look_any (n v x : Int) (w : World) : Calls Try.prog 30 #[.int .i64 n, .int .i64 v, .int .u64 x] w fun e w' => e = .returned (.int .i64 (edgeNo n v x)) ∧ w' = w := by
  have hh := isV_any n v w
  by_cases h : IsV n v
  · rw [decide_eq_true h] at hh
    have H := hide hh
    by_cases h2 : 4294967295 < x
    · have e1 : edgeNo n v x = 31 := by unfold edgeNo; rw [if_pos h, if_pos h2]
      rw [e1]
      clear h e1 hh
      go_enter Try.func30, Try.ntmps30
      go_wp2_with fail
      refine H.out.mono ?_
      rintro e w' ⟨rfl, rfl⟩
      go_wp2
      go_ret
      exact ⟨rfl, rfl⟩
    · have e1 : edgeNo n v x = 0 := by unfold edgeNo; rw [if_pos h, if_neg h2]
      rw [e1]
      clear h e1 hh
      go_enter Try.func30, Try.ntmps30
      go_wp2_with fail
      refine H.out.mono ?_
      rintro e w' ⟨rfl, rfl⟩
      go_wp2
      go_ret
      exact ⟨rfl, rfl⟩
  · rw [decide_eq_false h] at hh
    have H := hide hh
    have e1 : edgeNo n v x = 30 := by unfold edgeNo; rw [if_neg h]
    rw [e1]
    clear h e1 hh
    go_enter Try.func30, Try.ntmps30
    go_wp2_with fail
    refine H.out.mono ?_
    rintro e w' ⟨rfl, rfl⟩
    go_wp2
    go_ret
    exact ⟨rfl, rfl⟩
end Go.Proofs.Ytiohimbifjlfdaa
