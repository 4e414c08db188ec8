/- search: the states of its loops. -/
import Derived.Test.YtehlciejhegndaaSpreadWalk
import Derived.Test.YtehlciejhegndaaStarted
import Derived.Deep.LoopGhost
namespace Go.Proofs.Ytehlciejhegndaa
open Go.RowKit Go.Lib
set_option linter.unusedVariables false

/-- What a search finds. -/
structure Found (n : Nat) (st tl wt : List Int) (k : Int) (S : List Pr) (L : List Int) : Prop where
  len : L.length = n
  rng : ∀ v, v < n → 0 ≤ at_ L v ∧ at_ L v ≤ Nev
  bell : ∀ e, e < tl.length → at_ L (tov tl e) ≤ ext k (at_ L (src st n e)) (at_ wt e)
  att : ∀ v, v < n → at_ L v ≠ Nev → (∃ j, j < S.length ∧ sAt S j = ((v : Int), at_ L v)) ∨ ∃ e, e < tl.length ∧ tov tl e = v ∧ ext k (at_ L (src st n e)) (at_ wt e) = at_ L v
  sts : ∀ j, j < S.length → ∃ v : Nat, v < n ∧ (sAt S j).1 = (v : Int) ∧ at_ L v ≤ (sAt S j).2
  came : ∀ v, v < n → at_ L v ≠ Nev → Came n st tl wt k S v (at_ L v)
def LS (Q B G : Nat) (k : Nat) : Prop := k = G ∨ QS Q B k
def SearchPost (n : Nat) (st tl wt : List Int) (k : Int) (S : List Pr) (w : World) (e : Ending) (w' : World) : Prop :=
  ∃ G L, e = .returned (.slice (some ⟨G, 0, none⟩) n n) ∧ w.heap.size ≤ G ∧ ArrU w' G L ∧ Found n st tl wt k S L ∧ Below w.heap.size w w'
/-- The first loop: the first i vertices wait. -/
structure W1 (n : Nat) (S : List Pr) (w4 wr : World) (Q B G V i : Nat) (v1 : Value) (ql : List Pr) (L : List Int) : Prop where
  sm : SM wr Q B G V n v1 ql L
  hp : Hp ql
  q1 : ∀ e, e ∈ ql → ∃ v : Nat, v < n ∧ e.2 = (v : Int) ∧ at_ L v ≤ e.1 ∧ e.1 < Nev ∧ 0 ≤ e.1
  q2 : ∀ v, v < i → at_ L v ≠ Nev → (at_ L v, (v : Int)) ∈ ql
  len : ql.length ≤ i
  chg : Chg (LS Q B G) w4 wr
variable {n : Nat} {st tl wt : List Int} {k : Int} {S : List Pr} {w4 wr w' : World} {Q B G V i : Nat} {v1 v2 : Value} {l1 l2 : List Pr} {L : List Int}
theorem W1.skip (h : W1 n S w4 wr Q B G V i v1 l1 L) (hn : at_ L i = Nev) : W1 n S w4 wr Q B G V (i + 1) v1 l1 L :=
  ⟨h.sm, h.hp, h.q1, fun v hv hne => by
    rcases Nat.lt_or_ge v i with h1 | h1
    · exact h.q2 v h1 hne
    · obtain rfl : v = i := by omega
      exact absurd hn hne, by have := h.len; omega, h.chg⟩
theorem W1.wait (h : W1 n S w4 wr Q B G V i v1 l1 L) (hi : i < n) (hb : Beg n S L S.length) (hn : at_ L i ≠ Nev) (hsm : SM w' Q B G V n v2 l2 L) (hp : Hp l2) (hl : l2.length = l1.length + 1) (hm : ∀ e, e ∈ l2 ↔ e ∈ l1 ∨ e = (at_ L i, (i : Int))) (hc : Chg (QT wr Q v1) wr w') : W1 n S w4 w' Q B G V (i + 1) v2 l2 L := by
  refine ⟨hsm, hp, fun e he => ?_, fun v hv hne => ?_, by have := h.len; omega, h.chg.trans ((qt_qs h.sm.qi hc).mono fun k hk => .inr hk)⟩
  · rcases (hm e).1 he with he | rfl
    · exact h.q1 e he
    · have := hb.rng i hi
      exact ⟨i, hi, rfl, Int.le_refl _, by show at_ L i < Nev; omega, this.1⟩
  · rcases Nat.lt_or_ge v i with h1 | h1
    · exact (hm _).2 (.inl (h.q2 v h1 hne))
    · obtain rfl : v = i := by omega
      exact (hm _).2 (.inr rfl)
/-- The second loop, with so many rounds to come. -/
structure W2 (n : Nat) (st tl wt : List Int) (k : Int) (S : List Pr) (w4 wr : World) (Q B G V M : Nat) (v1 : Value) (q1 : List Pr) (L : List Int) (D : Nat → Bool) (b : Int) (P : Nat) : Prop where
  sm : SM wr Q B G V n v1 q1 L
  hp : Hp q1
  dj : DJ n st tl wt k S L q1 D b P none
  cnt : n + tl.length + q1.length = M + P
  chg : Chg (LS Q B G) w4 wr
theorem W1.all (hg : Good n st tl wt) (h : W1 n S w4 wr Q B G V n v1 l1 L) (hb : Beg n S L S.length) : W2 n st tl wt k S w4 wr Q B G V (n + tl.length) v1 l1 L (fun _ => false) 0 l1.length := by
  refine ⟨h.sm, h.hp, ⟨hb.len, hb.rng, h.q1, fun v hv hne _ _ => h.q2 v hv hne, fun v _ h2 => ?_, fun e _ h2 => ?_, fun v hv hne => .inl (hb.att v hv hne), fun j hj => hb.sts j hj, Nat.le_refl _, ?_, fun v hv hne => by
    obtain ⟨j, hj, hs⟩ := hb.att v hv hne
    exact Came.start j v _ hj hv hs⟩, by omega, h.chg⟩
  · rcases h2 with h2 | ⟨_, h2⟩ <;> cases h2
  · rcases h2 with h2 | ⟨_, _, h2, _⟩ <;> cases h2
  · have := h.len
    simp only
    omega
theorem W2.found {M : Nat} {D : Nat → Bool} {b : Int} {P : Nat} (hg : Good n st tl wt) (h : W2 n st tl wt k S w4 wr Q B G V M v1 [] L D b P) : Found n st tl wt k S L := by
  obtain ⟨h1, h2⟩ := dj_end hg h.dj
  exact ⟨h.dj.len, h.dj.rng, h1, h2, h.dj.sts, h.dj.came⟩
theorem W2.bound {M : Nat} {D : Nat → Bool} {b : Int} {P : Nat} (hg : Good n st tl wt) (h : W2 n st tl wt k S w4 wr Q B G V M v1 l1 L D b P) : l1.length ≤ 10000000 := by
  have h1 := h.dj.plen
  have h2 := dj_bound hg h.dj (fun _ _ e => by cases e)
  have := hg.n_le
  have := hg.m_le
  omega
/-- A label that comes along a way is not less than the one that was found. -/
theorem Found.le {n : Nat} {st tl wt : List Int} {k : Int} {S : List Pr} {L : List Int} (hf : Found n st tl wt k S L) (hw : ∀ e, 0 ≤ at_ wt e ∧ at_ wt e ≤ 18446744073709551615) (hS : ∀ j, j < S.length → 0 ≤ (sAt S j).2 ∧ (sAt S j).2 ≤ 18446744073709551615) {v : Nat} {x : Int} (h : Came n st tl wt k S v x) :
    at_ L v ≤ x ∧ 0 ≤ x ∧ x ≤ 18446744073709551615 := by
  induction h with
  | start j v x hj hv hs =>
    obtain ⟨u, _, h2, h3⟩ := hf.sts j hj
    have h4 := hS j hj
    rw [hs] at h2 h3 h4
    simp only at h2 h3 h4
    have : u = v := by omega
    subst this
    exact ⟨h3, h4.1, h4.2⟩
  | edge e x he hx h ih =>
    have hb := hf.bell e he
    have hm := ext_mono (k := k) ih.2.2 ih.1 (hw e).1
    have hbd := ext_bound (k := k) ih.2.1 ih.2.2 (hw e).1 (hw e).2
    exact ⟨Int.le_trans hb hm, hbd.1, hbd.2⟩
/-- The labels are the only ones. -/
theorem Found.only {n : Nat} {st tl wt : List Int} {k : Int} {S : List Pr} {L M : List Int} (hf : Found n st tl wt k S L) (hg : Found n st tl wt k S M) (hw : ∀ e, 0 ≤ at_ wt e ∧ at_ wt e ≤ 18446744073709551615) (hS : ∀ j, j < S.length → 0 ≤ (sAt S j).2 ∧ (sAt S j).2 ≤ 18446744073709551615) : L = M := by
  have key : ∀ v, v < n → at_ L v = at_ M v := fun v hv => by
    have h1 : at_ L v ≤ at_ M v := by
      by_cases hn : at_ M v = Nev
      · rw [hn]; exact (hf.rng v hv).2
      · exact (hf.le hw hS (hg.came v hv hn)).1
    have h2 : at_ M v ≤ at_ L v := by
      by_cases hn : at_ L v = Nev
      · rw [hn]; exact (hg.rng v hv).2
      · exact (hg.le hw hS (hf.came v hv hn)).1
    omega
  apply List.ext_getElem?
  intro i
  rcases Nat.lt_or_ge i n with hi | hi
  · have h1 := key i hi
    have a1 : i < L.length := by rw [hf.len]; exact hi
    have a2 : i < M.length := by rw [hg.len]; exact hi
    unfold at_ at h1
    rw [List.getElem?_eq_getElem a1, List.getElem?_eq_getElem a2] at h1 ⊢
    simp only [Option.getD_some] at h1
    rw [h1]
  · rw [List.getElem?_eq_none (by rw [hf.len]; exact hi), List.getElem?_eq_none (by rw [hg.len]; exact hi)]
theorem ls_old {w w4 : World} (hG : w.heap.size < G) (hQ : w.heap.size < Q) (hB : w.heap.size < B) (j : Nat) (hj : j ≤ w.heap.size) : ¬ LS Q B G j := by
  intro h
  rcases h with h | h | h <;> omega
end Go.Proofs.Ytehlciejhegndaa
