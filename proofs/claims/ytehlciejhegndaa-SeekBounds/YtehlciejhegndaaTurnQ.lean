/- The turned graph as arrange lays it: plain. -/
import Derived.Test.YtehlciejhegndaaFound
import Derived.Test.YtehlciejhegndaaMoreH
namespace Go.Proofs.Ytehlciejhegndaa
open Go.RowKit Go.Lib
set_option linter.unusedVariables false
/-- What one edge more makes of what a way costs. -/
def addW (k c x : Int) : Int := if k = 1 then c + x else if k = 2 then c + 1 else if c ≤ x then x else c
def cap (c : Int) : Int := if c ≤ 18446744073709551614 then c else 18446744073709551614
theorem addW_nn {k c x : Int} (hc : 0 ≤ c) (hx : 0 ≤ x) : 0 ≤ addW k c x := by unfold addW; repeat' split
                                                                               all_goals omega
theorem addW_comm (k c x y : Int) : addW k (addW k c x) y = addW k (addW k c y) x := by
  unfold addW
  by_cases h1 : k = 1
  · simp only [h1, if_true]; omega
  · by_cases h2 : k = 2
    · simp [h2]
    · simp only [h1, h2, if_false]
      repeat' split
      all_goals omega
theorem ext_cap {k c x : Int} (hk : k = 1 ∨ k = 2 ∨ k = 3) (hc : 0 ≤ c) (hx : 0 ≤ x) : ext k (cap c) x = cap (addW k c x) := by
  unfold ext cap addW
  rcases hk with rfl | rfl | rfl
  all_goals
    simp
    repeat' split
    all_goals omega
theorem cap_lt (c : Int) : cap c ≠ Nev := by unfold cap Nev; split <;> omega
/-- A way from s to v, and what it costs. -/
inductive Way (n : Nat) (st tl wt : List Int) (k : Int) (s : Nat) : Nat → Int → Prop where
  | nil : Way n st tl wt k s s 0
  | snoc (e : Nat) (c : Int) (he : e < tl.length) (h : Way n st tl wt k s (src st n e) c) : Way n st tl wt k s (tov tl e) (addW k c (at_ wt e))
section
variable {n : Nat} {st tl wt st' tl' wt' : List Int} {k : Int} {s t v : Nat} {c x : Int}
theorem Way.nn (hw : ∀ e, 0 ≤ at_ wt e) (h : Way n st tl wt k s v c) : 0 ≤ c := by
  induction h with
  | nil => exact Int.le_refl _
  | snoc e c he h ih => exact addW_nn ih (hw e)
theorem Way.came (hk : k = 1 ∨ k = 2 ∨ k = 3) (hw : ∀ e, 0 ≤ at_ wt e) (hs : s < n) (h : Way n st tl wt k s v c) : Came n st tl wt k [((s : Int), 0)] v (cap c) := by
  induction h with
  | nil => exact Came.start 0 s _ (by simp) hs rfl
  | snoc e c he h ih =>
    rw [← ext_cap hk (h.nn hw) (hw e)]
    exact Came.edge e _ he (cap_lt c) ih
theorem Came.way (hk : k = 1 ∨ k = 2 ∨ k = 3) (hw : ∀ e, 0 ≤ at_ wt e) (h : Came n st tl wt k [((s : Int), 0)] v x) : ∃ c, Way n st tl wt k s v c ∧ x = cap c := by
  induction h with
  | start j v x hj hv hs =>
    have : j = 0 := by simp at hj; omega
    subst this
    simp [sAt] at hs
    obtain ⟨h1, rfl⟩ := hs
    have : s = v := by omega
    subst this
    exact ⟨0, Way.nil, rfl⟩
  | edge e x he hx h ih =>
    obtain ⟨c, h1, rfl⟩ := ih
    exact ⟨_, Way.snoc e c he h1, ext_cap hk (h1.nn hw) (hw e)⟩
theorem Way.cons (e : Nat) (he : e < tl.length) (h : Way n st tl wt k (tov tl e) v c) : Way n st tl wt k (src st n e) v (addW k c (at_ wt e)) := by
  generalize hu : tov tl e = u at h
  induction h with
  | nil => subst hu; exact Way.snoc e 0 he Way.nil
  | snoc e2 c he2 h ih =>
    rw [addW_comm]
    exact Way.snoc e2 _ he2 ih
/-- Each edge has one that goes back. -/
def Tur (n : Nat) (st tl wt st' tl' wt' : List Int) : Prop := ∀ e, e < tl.length → ∃ e', e' < tl'.length ∧ src st' n e' = tov tl e ∧ tov tl' e' = src st n e ∧ at_ wt' e' = at_ wt e
theorem Way.back (ht : Tur n st tl wt st' tl' wt') (h : Way n st tl wt k s v c) : Way n st' tl' wt' k v s c := by
  induction h with
  | nil => exact Way.nil
  | snoc e c he h ih =>
    obtain ⟨e', h1, h2, h3, h4⟩ := ht e he
    rw [← h4, ← h2]
    refine Way.cons e' h1 ?_
    rw [h3]
    exact ih
theorem turned_le (hk : k = 1 ∨ k = 2 ∨ k = 3) (hw : ∀ e, 0 ≤ at_ wt e ∧ at_ wt e ≤ 18446744073709551615) (hw' : ∀ e, 0 ≤ at_ wt' e ∧ at_ wt' e ≤ 18446744073709551615) (hs : s < n) (ht : t < n) (hT : Tur n st' tl' wt' st tl wt) {L M : List Int} (hL : Found n st tl wt k [((s : Int), 0)] L) (hM : Found n st' tl' wt' k [((t : Int), 0)] M) : at_ L t ≤ at_ M s := by
  by_cases hn : at_ M s = Nev
  · rw [hn]; exact (hL.rng t ht).2
  · obtain ⟨c, h1, h2⟩ := (hM.came s hs hn).way hk (fun e => (hw' e).1)
    have h3 := (h1.back hT).came hk (fun e => (hw e).1) hs
    rw [h2]
    exact (hL.le hw (fun j hj => by have : j = 0 := by simp at hj; omega
                                    subst this; simp [sAt]) h3).1
/-- From s to t is as far as from t to s with all edges turned. -/
theorem turned_eq (hk : k = 1 ∨ k = 2 ∨ k = 3) (hw : ∀ e, 0 ≤ at_ wt e ∧ at_ wt e ≤ 18446744073709551615) (hw' : ∀ e, 0 ≤ at_ wt' e ∧ at_ wt' e ≤ 18446744073709551615) (hs : s < n) (ht : t < n) (hT : Tur n st tl wt st' tl' wt') (hT' : Tur n st' tl' wt' st tl wt) {L M : List Int} (hL : Found n st tl wt k [((s : Int), 0)] L) (hM : Found n st' tl' wt' k [((t : Int), 0)] M) : at_ L t = at_ M s :=
  Int.le_antisymm (turned_le hk hw hw' hs ht hT' hL hM) (turned_le hk hw' hw ht hs hT hM hL)
end
end Go.Proofs.Ytehlciejhegndaa

/- The turned graph as arrange lays it: plain. -/
namespace Go.Proofs.Ytehlciejhegndaa
open Go.RowKit Go.Lib
set_option linter.unusedVariables false
theorem inj_surj : ∀ (m : Nat) (f : Nat → Nat), (∀ i, i < m → f i < m) → (∀ i j, i < m → j < m → f i = f j → i = j) → ∀ y, y < m → ∃ i, i < m ∧ f i = y := by
  intro m
  induction m with
  | zero => intro f _ _ y hy; omega
  | succ m ih =>
    intro f hlt hinj y hy
    have hg : ∀ y, y < m → ∃ i, i < m ∧ (if f i = m then f m else f i) = y := by
      refine ih (fun i => if f i = m then f m else f i) (fun i hi => ?_) (fun i j hi hj he => ?_)
      · show (if f i = m then f m else f i) < m
        have h1 := hlt i (by omega)
        have h2 := hlt m (by omega)
        split
        · rename_i e
          have : f m ≠ m := fun h => by have := hinj i m (by omega) (by omega) (by omega); omega
          omega
        · omega
      · split at he <;> split at he
        · exact hinj i j (by omega) (by omega) (by omega)
        · have := hinj m j (by omega) (by omega) he; omega
        · have := hinj i m (by omega) (by omega) he; omega
        · exact hinj i j (by omega) (by omega) he
    by_cases hm : y = m
    · by_cases h : f m = m
      · exact ⟨m, by omega, by omega⟩
      · obtain ⟨i, hi, he⟩ := hg (f m) (by have := hlt m (by omega); omega)
        split at he
        · rename_i e; exact ⟨i, by omega, by omega⟩
        · have := hinj i m (by omega) (by omega) he; omega
    · obtain ⟨i, hi, he⟩ := hg y (by omega)
      split at he
      · exact ⟨m, by omega, he⟩
      · exact ⟨i, by omega, he⟩
section
variable {n : Nat} {st tl wt st' nx tl' wt' : List Int}
theorem laid_tur (hg : Good n st tl wt) (hs : Summed n tl.length (tov tl) n st') (h : Laying n tl.length (tov tl) (src st n) (fun e => at_ wt e) tl.length nx tl' wt') :
    Good n st' tl' wt' ∧ Tur n st tl wt st' tl' wt' ∧ Tur n st' tl' wt' st tl wt := by
  have hF : ∀ i, i < tl.length → tov tl i < n := fun i hi => (tov_lt hg hi).1
  have hgd := h.good hs hF hg.n_le hg.m_le
  have hE := fun i (hi : i < tl.length) => h.edge hs hF hg.n_le hg.m_le hi
  refine ⟨hgd, fun e he => ?_, fun e' he' => ?_⟩
  · obtain ⟨h1, h2, h3, h4⟩ := hE e he
    exact ⟨_, h1, h2, (by show (at_ tl' (place (tov tl) tl.length e)).toNat = _; rw [h3]; omega), h4⟩
  · rw [h.tlen] at he'
    obtain ⟨e, he, hp⟩ := inj_surj tl.length (place (tov tl) tl.length) (fun i hi => place_lt hi) (fun i j hi hj hij => by
      rcases Nat.lt_trichotomy i j with h1 | h1 | h1
      · exact absurd hij (place_inj hj h1)
      · exact h1
      · exact absurd hij.symm (place_inj hi h1)) e' he'
    obtain ⟨h1, h2, h3, h4⟩ := hE e he
    rw [hp] at h2 h3 h4
    exact ⟨e, he, (by show _ = (at_ tl' e').toNat; rw [h3]; omega), h2.symm, h4.symm⟩
end
theorem src_ge {n : Nat} {st tl wt : List Int} (hg : Good n st tl wt) {e d : Nat} (he : e < tl.length) (hd : d ≤ n) (h : at_ st d ≤ (e : Int)) : d ≤ src st n e := by
  have h1 := src_spec hg he
  have hs := src_lt hg he
  rcases Nat.lt_or_ge (src st n e) d with h2 | h2
  · have := hg.mono (src st n e + 1) d (by omega) hd; omega
  · exact h2
theorem src_below {n : Nat} {st tl wt : List Int} (hg : Good n st tl wt) {e d : Nat} (he : e < tl.length) (hd : d ≤ n) (h : (e : Int) < at_ st d) : src st n e < d := by
  have h1 := src_spec hg he
  have hs := src_lt hg he
  rcases Nat.lt_or_ge (src st n e) d with h2 | h2
  · exact h2
  · have := hg.mono d (src st n e) h2 (by omega); omega
end Go.Proofs.Ytehlciejhegndaa
