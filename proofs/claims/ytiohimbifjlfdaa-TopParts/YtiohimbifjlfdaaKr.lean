/- What can be reached, plainly, by a list of those that are still to be looked at. -/
import Derived.Test.YtiohimbifjlfdaaKp
import Derived.Test.YtiohimbifjlfdaaOrHp
namespace Go.Proofs.Ytiohimbifjlfdaa
set_option linter.unusedVariables false
structure RP (n : Nat) (s t : Nat → Nat) (v : Nat) (K : Nat → Bool) (wk : List Int) (u p : Nat) : Prop where
  in0 : K v = true
  rc : ∀ x, x < n → K x = true → Rc (EE n s t) v x
  wkn : ∀ x, x ∈ wk → ∃ a : Nat, x = (a : Int) ∧ a < n ∧ K a = true
  clo : ∀ x, x < n → K x = true → ¬ (x : Int) ∈ wk → x ≠ u → ∀ y, EE n s t x y → K y = true
  row : u < n → K u = true ∧ ∀ q, s u ≤ q → q < p → K (t q) = true
section
variable {n : Nat} {s t : Nat → Nat} {v : Nat} {K : Nat → Bool} {wk l : List Int} {u p : Nat}
theorem RP.start (n : Nat) (s t : Nat → Nat) (v : Nat) (hv : v < n) : RP n s t v (fun x => decide (x = v)) [(v : Int)] n 0 :=
  ⟨by simp, fun x _ h => by simp at h; rw [h]; exact .refl _, fun x h => by simp at h; exact ⟨v, h, hv, by simp⟩, fun x _ h h2 => by simp at h; simp [h] at h2, fun h => by omega⟩
theorem RP.pop (h : RP n s t v K (l ++ [(u : Int)]) n 0) : RP n s t v K l u (s u) := by
  obtain ⟨a, h1, h2, h3⟩ := h.wkn (u : Int) (by simp)
  have e : a = u := by omega
  subst e
  exact ⟨h.in0, h.rc, fun x hx => h.wkn x (by simp [hx]), fun x hx hk hl hu y he => h.clo x hx hk (fun hc => by rcases List.mem_append.1 hc with hc | hc; exact hl hc; simp at hc; exact hu (by omega)) (by omega) y he, fun _ => ⟨h3, fun q h1 h2 => by omega⟩⟩
theorem RP.next (h : RP n s t v K l u p) (hk : K (t p) = true) : RP n s t v K l u (p + 1) :=
  ⟨h.in0, h.rc, h.wkn, h.clo, fun hu => ⟨(h.row hu).1, fun q h1 h2 => by
    by_cases e : q = p
    · rw [e]; exact hk
    · exact (h.row hu).2 q h1 (by omega)⟩⟩
theorem RP.push (h : RP n s t v K l u p) (hu : u < n) (h1 : s u ≤ p) (h2 : p < s (u + 1)) {y : Nat} (hy : t p = y) (hyn : y < n) : RP n s t v (fun x => if x = y then true else K x) (l ++ [(y : Int)]) u (p + 1) := by
  obtain ⟨hKu, hrow⟩ := h.row hu
  refine ⟨by by_cases e : v = y <;> simp [e, h.in0], fun x hx hk => ?_, fun x hx => ?_, fun x hx hk hl hxu z he => ?_, fun _ => ⟨by by_cases e : u = y <;> simp [e, hKu], fun q q1 q2 => ?_⟩⟩
  · by_cases e : x = y
    · rw [e]; exact (h.rc u hu hKu).trans (.one ⟨hu, p, h1, h2, hy⟩)
    · exact h.rc x hx (by simpa [e] using hk)
  · rcases List.mem_append.1 hx with hx | hx
    · obtain ⟨a, a1, a2, a3⟩ := h.wkn x hx
      exact ⟨a, a1, a2, by by_cases e : a = y <;> simp [e, a3]⟩
    · simp at hx; exact ⟨y, hx, hyn, by simp⟩
  · have hxy : ¬ x = y := fun e => hl (by simp [e])
    have := h.clo x hx (by simpa [hxy] using hk) (fun hc => hl (by simp [hc])) hxu z he
    by_cases e : z = y <;> simp [e, this]
  · by_cases e : q = p
    · rw [e, hy]; simp
    · have := hrow q q1 (by omega)
      by_cases e2 : t q = y <;> simp [e2, this]
theorem RP.over (h : RP n s t v K l u p) (hu : u < n) (hp : p = s (u + 1)) : RP n s t v K l n 0 :=
  ⟨h.in0, h.rc, h.wkn, fun x hx hk hl _ y he => by
    by_cases e : x = u
    · subst e
      obtain ⟨_, q, h1, h2, rfl⟩ := he
      exact (h.row hu).2 q h1 (by omega)
    · exact h.clo x hx hk hl e y he, fun h => by omega⟩
theorem RP.done (h : RP n s t v K [] n 0) (hE : ∀ x y, EE n s t x y → y < n) (hv : v < n) : ∀ x, x < n → (K x = true ↔ Rc (EE n s t) v x) := fun x hx => ⟨h.rc x hx, fun hr => by
  have : ∀ a b, Rc (EE n s t) a b → a < n → K a = true → K b = true := fun a b hab => by
    induction hab with
    | refl => intro _ h; exact h
    | head e _ ih => intro h1 h2; exact ih (hE _ _ e) (h.clo _ h1 h2 (by simp) (by omega) _ e)
  exact this v x hr hv h.in0⟩
end
/-- The edges of a graph in rows. -/
def sN (st : List Int) (v : Nat) : Nat := (at_ st v).toNat
def tN (tl : List Int) (e : Nat) : Nat := (at_ tl e).toNat
theorem ee_iff {n : Nat} {st tl wt : List Int} (hg : Good n st tl wt) {u v : Nat} : EE n (sN st) (tN tl) u v ↔ ∃ e, e < tl.length ∧ src st n e = u ∧ tN tl e = v := by
  constructor
  · rintro ⟨hu, p, h1, h2, h3⟩
    have r1 := hg.range u (by omega); have r2 := hg.range (u + 1) (by omega)
    unfold sN at h1 h2
    have hp : p < tl.length := by omega
    exact ⟨p, hp, src_eq hg hu (by omega) (by omega), h3⟩
  · rintro ⟨e, he, h1, h2⟩
    have hs := src_spec hg he
    have hl := src_lt hg he
    rw [h1] at hs hl
    have r1 := hg.range u (by omega); have r2 := hg.range (u + 1) (by omega)
    exact ⟨hl, e, by unfold sN; omega, by unfold sN; omega, h2⟩
theorem ee_lt {n : Nat} {st tl wt : List Int} (hg : Good n st tl wt) {u v : Nat} (h : EE n (sN st) (tN tl) u v) : u < n ∧ v < n := by
  obtain ⟨e, he, h1, h2⟩ := (ee_iff hg).1 h
  have := hg.vtx e he
  exact ⟨h.1, by rw [← h2]; unfold tN; omega⟩
theorem sN_le {n : Nat} {st tl wt : List Int} (hg : Good n st tl wt) {v : Nat} (hv : v < n) : sN st v ≤ sN st (v + 1) := by
  have := hg.step v hv
  unfold sN; omega
end Go.Proofs.Ytiohimbifjlfdaa
