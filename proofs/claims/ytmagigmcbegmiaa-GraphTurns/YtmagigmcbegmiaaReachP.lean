/- What can be reached: plain. -/
import Derived.Test.YtmagigmcbegmiaaRB
namespace Go.Proofs.Ytmagigmcbegmiaa
open Go.RowKit Go.Lib
set_option linter.unusedVariables false
def tov (tl : List Int) (e : Nat) : Nat := (at_ tl e).toNat
theorem tov_lt {n : Nat} {st tl wt : List Int} (h : Good n st tl wt) {e : Nat} (he : e < tl.length) : tov tl e < n ∧ at_ tl e = (tov tl e : Int) := by
  have := h.vtx e he
  unfold tov
  omega
theorem src_spec {n : Nat} {st tl wt : List Int} (h : Good n st tl wt) {p : Nat} (hp : p < tl.length) : at_ st (src st n p) ≤ (p : Int) ∧ (p : Int) < at_ st (src st n p + 1) := by
  unfold src
  cases he : first (fun v => decide ((p : Int) < at_ st (v + 1))) n with
  | none =>
    exfalso
    have h0 := first_none_of he
    have hl := h.last
    have hz := h.zero
    rcases Nat.eq_zero_or_pos n with hn | hn
    · subst hn; rw [hz] at hl; omega
    · have := h0 (n - 1) (by omega)
      simp only [decide_eq_false_iff_not] at this
      rw [show n - 1 + 1 = n by omega, hl] at this
      omega
  | some v =>
    have h1 := (first_of_some he).2
    simp only [decide_eq_true_eq] at h1
    refine ⟨?_, h1⟩
    show at_ st v ≤ (p : Int)
    rcases Nat.eq_zero_or_pos v with hv | hv
    · subst hv; rw [h.zero]; omega
    · unfold first at he
      rw [List.find?_range_eq_some] at he
      have h2 := he.2.2 (v - 1) (by omega)
      simp at h2
      rw [show v - 1 + 1 = v by omega] at h2
      exact h2
/-- What can be reached from the vertices of fr. -/
inductive Rch (n : Nat) (st tl fr : List Int) : Nat → Prop where
  | start (i v : Nat) (hi : i < fr.length) (hv : at_ fr i = (v : Int)) : Rch n st tl fr v
  | edge (e : Nat) (he : e < tl.length) (h : Rch n st tl fr (src st n e)) : Rch n st tl fr (tov tl e)
def bAt (l : List Bool) (i : Nat) : Bool := l[i]?.getD false
theorem bAt_set {l : List Bool} {i j : Nat} (hi : i < l.length) : bAt (l.set i true) j = if j = i then true else bAt l j := by
  unfold bAt
  rw [List.getElem?_set]
  by_cases h : i = j
  · subst h; simp [hi]
  · rw [if_neg h, if_neg (fun e => h e.symm)]
/-- A walk under way: B: what is marked; O: marked, and its row not yet gone over; of the row of v the places below i are done. -/
structure RS (n : Nat) (st tl fr : List Int) (B : List Bool) (O : List Nat) (v i : Nat) : Prop where
  len : B.length = n
  rch : ∀ u, u < n → bAt B u = true → Rch n st tl fr u
  opn : ∀ u, u ∈ O → u < n ∧ bAt B u = true
  don : ∀ e, e < tl.length → bAt B (src st n e) = true → src st n e ∉ O → (src st n e = v → e < i) → bAt B (tov tl e) = true
def fls (n : Nat) : List Bool := List.replicate n false
theorem fls_at (n i : Nat) : bAt (fls n) i = false := by
  unfold bAt fls
  by_cases h : i < n <;> simp [h]
section
variable {n : Nat} {st tl wt fr : List Int} {B : List Bool} {O : List Nat} {v i x : Nat}
theorem RS.zero : RS n st tl fr (fls n) [] n 0 :=
  ⟨by simp [fls], fun u _ h => (by rw [fls_at] at h; cases h), fun u h => (by cases h), fun e _ h => (by rw [fls_at] at h; cases h)⟩
theorem RS.mark (h : RS n st tl fr B O v i) (hx : x < n) (hr : Rch n st tl fr x) : RS n st tl fr (B.set x true) (O ++ [x]) v i := by
  have hl : x < B.length := by rw [h.len]; exact hx
  refine ⟨by rw [List.length_set]; exact h.len, fun u hu hb => ?_, fun u hu => ?_, fun e he hb ho hv => ?_⟩
  · rw [bAt_set hl] at hb
    by_cases e : u = x
    · rw [e]; exact hr
    · rw [if_neg e] at hb; exact h.rch u hu hb
  · rw [bAt_set hl]
    rcases List.mem_append.1 hu with hu | hu
    · exact ⟨(h.opn u hu).1, by split; rfl; exact (h.opn u hu).2⟩
    · simp at hu; subst hu; exact ⟨hx, by simp⟩
  · rw [bAt_set hl] at hb ⊢
    have hne : src st n e ≠ x := fun c => ho (by rw [c]; simp)
    rw [if_neg hne] at hb
    split
    · rfl
    · exact h.don e he hb (fun c => ho (List.mem_append.2 (.inl c))) hv
theorem RS.popLast (h : RS n st tl fr B (O ++ [v]) n 0) (hg : Good n st tl wt) (hi : at_ st v = (i : Int)) : RS n st tl fr B O v i := by
  refine ⟨h.len, h.rch, fun u hu => h.opn u (List.mem_append.2 (.inl hu)), fun e he hb ho hv => h.don e he hb (fun c => ?_) (fun c => by have := src_lt hg he; omega)⟩
  rcases List.mem_append.1 c with c | c
  · exact ho c
  · simp at c
    have h1 := hv c
    have h2 := (src_spec hg he).1
    rw [c, hi] at h2
    omega
theorem RS.popFirst (h : RS n st tl fr B (v :: O) n 0) (hg : Good n st tl wt) (hi : at_ st v = (i : Int)) : RS n st tl fr B O v i := by
  refine ⟨h.len, h.rch, fun u hu => h.opn u (List.mem_cons_of_mem _ hu), fun e he hb ho hv => h.don e he hb (fun c => ?_) (fun c => by have := src_lt hg he; omega)⟩
  rcases List.mem_cons.1 c with c | c
  · have h1 := hv c
    have h2 := (src_spec hg he).1
    rw [c, hi] at h2
    omega
  · exact ho c
theorem RS.next (h : RS n st tl fr B O v i) (hb : bAt B (tov tl i) = true) : RS n st tl fr B O v (i + 1) :=
  ⟨h.len, h.rch, h.opn, fun e he hs ho hv => by
    by_cases c : e = i
    · rw [c]; exact hb
    · exact h.don e he hs ho (fun k => by have := hv k; omega)⟩
theorem RS.rowEnd (h : RS n st tl fr B O v i) (hg : Good n st tl wt) (hi : at_ st (v + 1) = (i : Int)) : RS n st tl fr B O n 0 :=
  ⟨h.len, h.rch, h.opn, fun e he hs ho hv => h.don e he hs ho (fun k => by
    have := (src_spec hg he).2
    rw [k, hi] at this
    omega)⟩
/-- It reaches what the row's vertex does. -/
theorem RS.goes (h : RS n st tl fr B O v i) (hv : v < n) (hb : bAt B v = true) (hg : Good n st tl wt) {e : Nat} (he : e < tl.length) (hs : src st n e = v) : Rch n st tl fr (tov tl e) :=
  Rch.edge e he (by rw [hs]; exact h.rch v hv hb)
theorem RS.whole (h : RS n st tl fr B [] n 0) (hg : Good n st tl wt) (hs : ∀ i v, i < fr.length → at_ fr i = ((v : Nat) : Int) → bAt B v = true) : ∀ u, u < n → (bAt B u = true ↔ Rch n st tl fr u) := by
  intro u hu
  refine ⟨h.rch u hu, fun hr => ?_⟩
  clear hu
  induction hr with
  | start i v hi hv => exact hs i v hi hv
  | edge e he hr ih => exact h.don e he ih (by simp) (fun c => by have := src_lt hg he; omega)
theorem bools_eq {C : List Bool} (h1 : B.length = n) (h2 : C.length = n) (h : ∀ u, u < n → (bAt B u = true ↔ bAt C u = true)) : B = C := by
  apply List.ext_getElem (by omega)
  intro k k1 k2
  have := h k (by omega)
  unfold bAt at this
  rw [List.getElem?_eq_getElem k1, List.getElem?_eq_getElem k2] at this
  simp only [Option.getD_some] at this
  exact Bool.eq_iff_iff.2 this
/-- How many are not marked. -/
def unm (B : List Bool) : Nat := B.count false
theorem unm_set (hx : x < B.length) (hb : bAt B x = false) : unm (B.set x true) + 1 = unm B := by
  unfold unm
  have hx' : B[x] = false := by unfold bAt at hb; rw [List.getElem?_eq_getElem hx] at hb; simpa using hb
  rw [List.count_set hx, hx']
  have : 0 < B.count false := List.count_pos_iff.2 (by rw [← hx']; exact List.getElem_mem hx)
  simp
  omega
end
end Go.Proofs.Ytmagigmcbegmiaa
