/- append of a list to a new empty one, as one step of a region that draws its order. -/
import Derived.Test.YtmagigmcbegmiaaSmall
import Derived.Deep.RegionLawGrows
import Derived.Deep.Upon
import Derived.Deep.RegionHeld3
namespace Go.Proofs.Ytmagigmcbegmiaa
open Go.RowKit Go.Lib

theorem cells_of_row {k : IntKind} {w : World} {a : Addr} {xs : List Int} (h : ∀ b, some a = some b → ∀ i, i < xs.length → w.cell? (b.add i) = some (.int k (xs.getD i 0))) :
    ∀ j u, (xs.map (Value.int k))[j]? = some u → w.cell? (a.add j) = some u := by
  intro j u hj
  have hjn : j < xs.length := by
    have := (List.getElem?_eq_some_iff.1 hj).1
    simpa using this
  rw [h a rfl j hjn]
  have e : (xs.map (Value.int k))[j]? = some (Value.int k (xs.getD j 0)) := by simp [List.getD, List.getElem?_eq_getElem hjn]
  rw [e] at hj
  exact hj

theorem run_fresh {P : Program} {w : World} (k : IntKind) (t ty e : TypeId) (i : TypeInfo) (z : Value) (bytes : Nat) (ht : P.underlying t = some (.slice e)) (hi : P.info? e = some i) (hz : i.zero = some z)
    (hsize : i.size = 1) (hby : i.bytes = bytes) (hzs : z.cells.size = 1) (B : Nat) (xv : Value) (xs : List Int) (hrow : RowAt k w xv xs) (hb : xs.length * bytes ≤ 140737488355328) (h63 : xs.length ≤ maxLen) :
    ∃ ao c w', (Builtin.append_ #[t, t] ty #[.slice (some ⟨B, 0, none⟩) 0 0, xv]).run P w = .ok (.slice ao xs.length c) w' ∧ RowAt k w' (.slice ao xs.length c) xs ∧ (∀ a, ao = some a → a.block = B ∨ w.heap.size ≤ a.block) ∧ Below w.heap.size w w' := by
  obtain ⟨xo, c, rfl, h1, h2, h3, h4⟩ := hrow
  rcases Nat.eq_zero_or_pos xs.length with h0 | h0
  · obtain rfl : xs = [] := List.eq_nil_of_length_eq_zero h0
    refine ⟨some ⟨B, 0, none⟩, 0, w, ?_, ⟨_, 0, rfl, by simp, by omega, (fun h => by cases h), fun a _ i hi => absurd hi (Nat.not_lt_zero _)⟩, fun a ha => by cases ha; exact .inl rfl, Below.refl _ _⟩
    have hsrc : Src P i.size t (.slice xo 0 c) 0 [] w := by
      cases xo with
      | none => exact Src.ofNil w ht c
      | some a => exact Src.ofSlice w ht a 0 c [] (by simp) (fun j u h => by simp at h) (by simp)
    exact run_append_nothing w t t ty e i ht hi (some ⟨B, 0, none⟩) 0 0 (Nat.le_refl _) _ hsrc
  · cases xo with
    | none => have := h3 rfl; omega
    | some a =>
      obtain ⟨v', w', hrun, hown, hgrow⟩ := run_append_arg_grows (P := P) (w := w) t ty e i z 1 bytes ht hi hz hsize hby hzs (by decide) ⟨B, 0, none⟩ 0 0 [] rfl (fun j u h => by simp at h) a xs.length c (xs.map (Value.int k)) (by simp) (cells_of_row h4) (by omega) (by omega) (by rw [Nat.zero_add]; exact hb)
      simp only [Nat.zero_add, List.nil_append] at hown
      have hbel : Below w.heap.size w w' := (Below.refl _ _).grown hgrow (Nat.le_refl _) (by intro j hj; cases hj)
      have hr := RowAt.of_owns hown
      obtain ⟨ao, c', rfl, _⟩ := id hr
      refine ⟨ao, c', w', hrun, hr, fun b hb => ?_, hbel⟩
      obtain ⟨_, ⟨he, _⟩ | ⟨g, cap, cur, he, hg, _⟩⟩ := hown
      · simp only [Value.slice.injEq] at he; rw [he.1] at hb; cases hb
      · simp only [Value.slice.injEq] at he; rw [he.1] at hb; cases hb; exact .inr hg

theorem step_fresh {P : Program} {ops : Array Oper} {o : Oper} {a : Act} {w : World} {K : Act → World → Prop} {Q : Exit → Act → World → Prop} {E : Prop}
    (hg : o.guard = none) (s x : Operand) (t : TypeId) (hop : o.op = Op.call { callee := Callee.builtin Builtin.append, args := #[s, x], argTypes := #[t, t] })
    (k : IntKind) (e : TypeId) (i : TypeInfo) (z : Value) (bytes : Nat) (ht : P.underlying t = some (.slice e)) (hi : P.info? e = some i) (hz : i.zero = some z)
    (hsize : i.size = 1) (hby : i.bytes = bytes) (hzs : z.cells.size = 1) (B : Nat) (xs : List Int) (hs : a.eval s = .slice (some ⟨B, 0, none⟩) 0 0) (hrow : RowAt k w (a.eval x) xs) (hb : xs.length * bytes ≤ 140737488355328) (h63 : xs.length ≤ maxLen)
    (hK : ∀ ao c w', RowAt k w' (.slice ao xs.length c) xs → (∀ a, ao = some a → a.block = B ∨ w.heap.size ≤ a.block) → Below w.heap.size w w' → K (a.put o.dst (.slice ao xs.length c)) w') :
    if Region.wanted o (yielded ops a.tmps) = true then Oper.wp P o a w K Q else E := by
  have hw : Region.wanted o (yielded ops a.tmps) = true := by simp [Region.wanted, hg]
  rw [if_pos hw]
  obtain ⟨ao, c, w', hrun, r1, r2, r3⟩ := run_fresh (P := P) k t o.type e i z bytes ht hi hz hsize hby hzs B (a.eval x) xs hrow hb h63
  obtain ⟨xo, xc, hxv, _⟩ := hrow
  rw [hxv] at hrun
  unfold Oper.wp
  simp [execOp, hop, resolve, invoke, builtin, hs, hxv, hrun, Result.andThen]
  exact hK ao c w' r1 r2 r3
end Go.Proofs.Ytmagigmcbegmiaa
