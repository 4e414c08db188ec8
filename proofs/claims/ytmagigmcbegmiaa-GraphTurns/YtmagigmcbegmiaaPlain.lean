/- Check, in plain words. -/
namespace Go.Proofs.Ytmagigmcbegmiaa

/-- The first below n of which p holds. -/
def first (p : Nat → Bool) (n : Nat) : Option Nat := (List.range n).find? p
theorem first_none {p : Nat → Bool} {n : Nat} (h : ∀ j, j < n → p j = false) : first p n = none := by
  unfold first
  rw [List.find?_eq_none]
  intro x hx
  rw [h x (List.mem_range.1 hx)]
  simp
theorem first_some {p : Nat → Bool} {n i : Nat} (hi : i < n) (hp : p i = true) (h : ∀ j, j < i → p j = false) : first p n = some i := by
  unfold first
  rw [List.find?_range_eq_some]
  exact ⟨hp, List.mem_range.2 hi, fun j hj => by rw [h j hj]; rfl⟩

def at_ (l : List Int) (i : Nat) : Int := l[i]?.getD 0
def ahead (st : List Int) (i : Nat) : Int := if i = 0 then 0 else at_ st (i - 1)
def BadRow (N m : Nat) (st : List Int) (i : Nat) : Prop := at_ st i < ahead st i ∨ (m : Int) < at_ st i ∨ (i = 0 ∧ at_ st i ≠ 0) ∨ (i = N ∧ at_ st i ≠ m)
instance (N m : Nat) (st : List Int) (i : Nat) : Decidable (BadRow N m st i) := by unfold BadRow; infer_instance
def badRow (N m : Nat) (st : List Int) (i : Nat) : Bool := decide (BadRow N m st i)
def IsV (N : Int) (v : Int) : Prop := 0 ≤ v ∧ v < N
instance (N v : Int) : Decidable (IsV N v) := by unfold IsV; infer_instance
def edgeNo (N : Int) (v x : Int) : Int := if IsV N v then (if 4294967295 < x then 31 else 0) else 30
def badEdge (N : Nat) (to wt : List Int) (e : Nat) : Bool := decide (edgeNo N (at_ to e) (at_ wt e) ≠ 0)

def chkRows (N : Nat) (m : Nat) (st : List Int) : Option Nat := first (badRow N m st) (N + 1)
def chkEdges (N : Nat) (to wt : List Int) : Int × Int :=
  match first (badEdge N to wt) to.length with
  | some e => (edgeNo N (at_ to e) (at_ wt e), e)
  | none => (0, 0)
def Fits (N : Int) (m : Nat) : Prop := 0 ≤ N ∧ N ≤ 1048576 ∧ m ≤ 4194304
instance (N : Int) (m : Nat) : Decidable (Fits N m) := by unfold Fits; infer_instance
/-- What Check answers. -/
def chk (N : Int) (st to wt : List Int) : Int × Int :=
  if Fits N to.length then
    if (st.length : Int) = N + 1 ∧ wt.length = to.length then
      match chkRows N.toNat to.length st with
      | some i => (32, i)
      | none => chkEdges N.toNat to wt
    else (32, -1)
  else (22, -1)
end Go.Proofs.Ytmagigmcbegmiaa
