/- Length, in plain words; isPlace. -/
import Derived.Test.YtehlciejhegndaaSearch
import Derived.Test.YtehlciejhegndaaFrom
import Derived.OpenShut
import Derived.ProofKit
namespace Go.Proofs.Ytehlciejhegndaa
open Go.RowKit Go.Lib
set_option linter.unusedVariables false

/-- What is wrong with the place number i of a way: 0, if nothing is. -/
def stepNo (n : Nat) (st to way : List Int) (i : Nat) : Int :=
  if 0 ≤ at_ way i ∧ at_ way i < (to.length : Int) then (if 0 < i ∧ (src st n (at_ way i).toNat : Int) ≠ at_ to (at_ way (i - 1)).toNat then 52 else 0) else 6
/-- The label behind i places. -/
def lab (k l : Int) (wt way : List Int) : Nat → Int
  | 0 => l
  | i + 1 => ext k (lab k l wt way i) (at_ wt (at_ way i).toNat)
def lenAns (n : Nat) (st to wt : List Int) (k l : Int) (way : List Int) : Int × Int :=
  match first (fun i => decide (stepNo n st to way i ≠ 0)) way.length with
  | some i => (0, stepNo n st to way i)
  | none => (lab k l wt way way.length, 0)
theorem len_some {n : Nat} {st to wt : List Int} {k l : Int} {way : List Int} {i : Nat} (hi : i < way.length) (h : stepNo n st to way i ≠ 0) (hb : ∀ j, j < i → stepNo n st to way j = 0) : lenAns n st to wt k l way = (0, stepNo n st to way i) := by
  unfold lenAns
  rw [first_some (p := fun i => decide (stepNo n st to way i ≠ 0)) hi (decide_eq_true h) (fun j hj => decide_eq_false (by rw [hb j hj]; simp))]
theorem len_none {n : Nat} {st to wt : List Int} {k l : Int} {way : List Int} (hb : ∀ j, j < way.length → stepNo n st to way j = 0) : lenAns n st to wt k l way = (lab k l wt way way.length, 0) := by
  unfold lenAns
  rw [first_none (p := fun i => decide (stepNo n st to way i ≠ 0)) (fun j hj => decide_eq_false (by rw [hb j hj]; simp))]
theorem step_six {n : Nat} {st to way : List Int} {i : Nat} (h : ¬ (0 ≤ at_ way i ∧ at_ way i < (to.length : Int))) : stepNo n st to way i = 6 := if_neg h
theorem step_in {n : Nat} {st to way : List Int} {i : Nat} (h : 0 ≤ at_ way i ∧ at_ way i < (to.length : Int)) (h2 : ¬ (0 < i ∧ (src st n (at_ way i).toNat : Int) ≠ at_ to (at_ way (i - 1)).toNat)) : stepNo n st to way i = 0 := by
  unfold stepNo; rw [if_pos h, if_neg h2]
theorem step_reach {n : Nat} {st to way : List Int} {i : Nat} (h : 0 ≤ at_ way i ∧ at_ way i < (to.length : Int)) (h2 : 0 < i ∧ (src st n (at_ way i).toNat : Int) ≠ at_ to (at_ way (i - 1)).toNat) : stepNo n st to way i = 52 := by
  unfold stepNo; rw [if_pos h, if_pos h2]
theorem step_ok {n : Nat} {st to way : List Int} {i : Nat} (h : stepNo n st to way i = 0) : 0 ≤ at_ way i ∧ at_ way i < (to.length : Int) := by
  by_cases hp : 0 ≤ at_ way i ∧ at_ way i < (to.length : Int)
  · exact hp
  · rw [step_six hp] at h; omega
theorem lab_bound {k l : Int} {wt way : List Int} (h0 : 0 ≤ l) (h1 : l ≤ 18446744073709551615) (hw : ∀ e, 0 ≤ at_ wt e ∧ at_ wt e ≤ 18446744073709551615) (i : Nat) : 0 ≤ lab k l wt way i ∧ lab k l wt way i ≤ 18446744073709551615 := by
  induction i with
  | zero => exact ⟨h0, h1⟩
  | succ i ih => exact ext_bound ih.1 ih.2 (hw _).1 (hw _).2
theorem words_bound {wt : List Int} (h : ∀ n ∈ wt, (Lit.int .u64 n).wf = true) (e : Nat) : 0 ≤ at_ wt e ∧ at_ wt e ≤ 18446744073709551615 := by
  unfold at_
  rcases Nat.lt_or_ge e wt.length with he | he
  · rw [List.getElem?_eq_getElem he]
    have := Go.bounds_u64 (h _ (List.getElem_mem he))
    simp only [Option.getD_some]
    omega
  · rw [List.getElem?_eq_none he]; simp

/-- A world that has grown, with what it has grown of. -/
structure GW (w0 : World) where
  world : World
  bel : Below w0.heap.size w0 world
theorem wp_region_gw {P : Program} {id : Nat} {Q : Exit → Act → World → Prop} {a : Act} {w : World} {l : List Oper} (hm : P.follows .mixedOrders = true) (hB : Region.lexB .any l.toArray = true)
    (h : wpQuiet P l.toArray (fun w' => ∃ x : GW w, w' = x.world) (fun a' => ∀ w', (∃ x : GW w, w' = x.world) → Q .normal a' w') l a) : (Code.region id l.toArray true).wp P Q a w :=
  wp_region_quiet (C := fun w' => ∃ x : GW w, w' = x.world) hm hB ⟨⟨w.drew, (Below.refl _ _).drew⟩, rfl⟩ (by simpa using h)
theorem gw_of {w8 : World} {x : GW w8} {f : FuncId} {args : Array Value} {v : Value} (h : Calls Try.prog f args x.world fun e w' => e = .returned v ∧ Below x.world.heap.size x.world w') :
    Calls Try.prog f args x.world fun e w'' => e = .returned v ∧ ∃ y : GW w8, w'' = y.world :=
  h.mono fun _ w' ⟨he, hb⟩ => ⟨he, ⟨w', x.bel.trans (hb.mono x.bel.size)⟩, rfl⟩
theorem gw_same {w8 : World} {x : GW w8} {f : FuncId} {args : Array Value} {v : Value} (h : Calls Try.prog f args x.world fun e w' => e = .returned v ∧ w' = x.world) :
    Calls Try.prog f args x.world fun e w'' => e = .returned v ∧ ∃ y : GW w8, w'' = y.world :=
  h.mono fun _ w' ⟨he, hb⟩ => ⟨he, x, hb⟩
end Go.Proofs.Ytehlciejhegndaa
