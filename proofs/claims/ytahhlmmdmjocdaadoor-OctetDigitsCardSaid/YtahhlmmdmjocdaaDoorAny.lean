/- The reader's Var of any bytes. -/
import Derived.Test.YtahhlmmdmjocdaaDoorReads
namespace Go.Proofs.YtahhlmmdmjocdaaDoor
open Go.RowKit Go.Lib
set_option linter.unusedVariables false

def vals : List Nat → Nat
  | [] => 0
  | b :: r => b % 128 + 128 * vals r
theorem vals_lt (l : List Nat) : vals l < 2 ^ (7 * l.length) := by
  induction l with
  | nil => simp [vals]
  | cons b r ih =>
    rw [List.length_cons, show 7 * (r.length + 1) = 7 + 7 * r.length by omega, Nat.pow_add, show (2 : Nat) ^ 7 = 128 by decide, vals]
    omega
theorem vals_append (l : List Nat) (b : Nat) : vals (l ++ [b]) = vals l + b % 128 * 2 ^ (7 * l.length) := by
  induction l with
  | nil => simp [vals]
  | cons a r ih =>
    rw [List.cons_append, vals, ih, vals, List.length_cons, show 7 * (r.length + 1) = 7 + 7 * r.length by omega, Nat.pow_add, show (2 : Nat) ^ 7 = 128 by decide, Nat.mul_add, Nat.mul_left_comm]
    omega
theorem enc_vals (l : List Nat) (b : Nat) (hl : ∀ x ∈ l, 128 ≤ x ∧ x < 256) (hb : b < 128) (h0 : l ≠ [] → 0 < b) : enc (vals (l ++ [b])) = (l ++ [b]).map (fun (n : Nat) => (n : Int)) := by
  induction l with
  | nil =>
    have e : vals ([] ++ [b]) = b := by simp [vals]; omega
    rw [e, enc_small hb]; rfl
  | cons a r ih =>
    have ha := hl a (by simp)
    have hp : 0 < b := h0 (by simp)
    have ih' := ih (fun x hx => hl x (by simp [hx])) (fun _ => hp)
    have hpos : 0 < vals (r ++ [b]) := by
      rw [vals_append, Nat.mod_eq_of_lt hb]
      have h1 : 0 < 2 ^ (7 * r.length) := Nat.pow_pos (by decide)
      have h2 := Nat.mul_pos hp h1
      omega
    have e : vals (a :: r ++ [b]) = a % 128 + 128 * vals (r ++ [b]) := rfl
    rw [e, enc_big (by omega), show (a % 128 + 128 * vals (r ++ [b])) / 128 = vals (r ++ [b]) by omega, ih', show (a % 128 + 128 * vals (r ++ [b])) % 128 + 128 = a by omega]
    rfl

/-- The bytes that were read so far: all go on. -/
structure Front (bs : List Int) (p : Nat) (l : List Nat) : Prop where
  eq : (bs.drop p).take l.length = l.map (fun (n : Nat) => (n : Int))
  go : ∀ x ∈ l, 128 ≤ x ∧ x < 256
theorem front_snoc {bs : List Int} {p b i : Nat} {l : List Nat} (h : Front bs p l) (hb : bs[p + i]?.getD 0 = (b : Int)) (hi : i = l.length) (hlen : p + i < bs.length) : (bs.drop p).take (l ++ [b]).length = (l ++ [b]).map (fun (n : Nat) => (n : Int)) := by
  rw [List.length_append, List.length_singleton, List.take_add_one, h.eq, ← hi, List.getElem?_drop, List.getElem?_eq_getElem hlen]
  rw [List.getElem?_eq_getElem hlen] at hb
  simp at hb
  simp [hb]

def VarPost (w : World) (r p : Nat) (bs : List Int) (e : Ending) (w' : World) : Prop :=
  (∃ er : Int, (er = 1 ∨ er = 2 ∨ er = 3) ∧ e = .returned (.tuple #[.int .u64 0, .int .i64 er]) ∧ Below w.heap.size w w') ∨
  (∃ v : Nat, e = .returned (.tuple #[.int .u64 v, .int .i64 0]) ∧ v < 18446744073709551616 ∧ (bs.drop p).take (enc v).length = enc v ∧ RdIs w' r bs (p + (enc v).length) ∧ But r w w')

end Go.Proofs.YtahhlmmdmjocdaaDoor
