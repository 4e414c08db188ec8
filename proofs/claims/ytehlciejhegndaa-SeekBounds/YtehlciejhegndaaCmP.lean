/- What Check of marks answers: plain. -/
import Derived.Test.YtehlciejhegndaaTurnW
import Derived.Test.YtehlciejhegndaaAd
namespace Go.Proofs.Ytehlciejhegndaa
open Go.RowKit Go.Lib
set_option linter.unusedVariables false
section
variable {n m : Nat} {st tl wt nx : List Int}
theorem cnt_congr {p q : Nat → Prop} [DecidablePred p] [DecidablePred q] {m : Nat} (h : ∀ i, i < m → (p i ↔ q i)) : cnt p m = cnt q m := by
  induction m with
  | zero => rfl
  | succ m ih =>
    unfold cnt
    rw [ih (fun i hi => h i (by omega))]
    by_cases hp : p m
    · rw [if_pos hp, if_pos ((h m (by omega)).1 hp)]
    · rw [if_neg hp, if_neg (fun hq => hp ((h m (by omega)).2 hq))]
theorem begins_congr {F G : Nat → Nat} (h : ∀ i, i < m → F i = G i) (v : Nat) : begins F m v = begins G m v := cnt_congr fun i hi => by rw [h i hi]
theorem outs_congr {F G : Nat → Nat} {k : Nat} (h : ∀ i, i < k → F i = G i) (v : Nat) : outs F v k = outs G v k := cnt_congr fun i hi => by rw [h i hi]
theorem Summed.congr {F G : Nat → Nat} {k : Nat} (hs : Summed n m F k st) (h : ∀ i, i < m → F i = G i) : Summed n m G k st :=
  ⟨hs.1, fun u hu => by rw [hs.2.1 u hu, begins_congr h], fun u h1 h2 => by rw [hs.2.2 u h1 h2, outs_congr h]⟩
theorem place_congr {F G : Nat → Nat} (h : ∀ i, i < m → F i = G i) (i : Nat) (hi : i < m) : place F m i = place G m i := by
  unfold place
  rw [h i hi, begins_congr h, outs_congr (fun j hj => h j (by omega))]
theorem Laying.congr {F G T U : Nat → Nat} {V W : Nat → Int} (hl : Laying n m F T V m nx tl wt) (h : ∀ i, i < m → F i = G i) (h2 : ∀ i, i < m → T i = U i) (h3 : ∀ i, i < m → V i = W i) : Laying n m G U W m nx tl wt :=
  ⟨hl.nlen, fun v hv => by rw [hl.nxa v hv, begins_congr h, outs_congr h], hl.tlen, hl.wlen, fun j hj => by rw [← place_congr h j hj, hl.tla j hj, h2 j hj], fun j hj => by rw [← place_congr h j hj, hl.wta j hj, h3 j hj], hl.tin, hl.win⟩
end
theorem eq_of_at {l m : List Int} (hl : l.length = m.length) (h : ∀ i, i < l.length → at_ l i = at_ m i) : l = m := by
  apply List.ext_getElem hl
  intro i h1 h2
  have := h i h1
  unfold at_ at this
  rw [List.getElem?_eq_getElem h1, List.getElem?_eq_getElem h2] at this
  simpa using this
theorem place_all {F : Nat → Nat} {m e : Nat} (he : e < m) : ∃ i, i < m ∧ place F m i = e :=
  inj_surj m (place F m) (fun i hi => place_lt hi) (fun i j hi hj h => by
    rcases Nat.lt_trichotomy i j with q | q | q
    · exact absurd h (place_inj hj q)
    · exact q
    · exact absurd h.symm (place_inj hi q)) e he
/-- The turned graph's lists are the only ones. -/
theorem TrL.one {n : Nat} {st tl wt a b c a' b' c' : List Int} (h : TrL n st tl wt a b c) (k : TrL n st tl wt a' b' c') : a = a' ∧ b = b' ∧ c = c' := by
  obtain ⟨hs, nx, hl⟩ := h
  obtain ⟨ks, kx, kl⟩ := k
  refine ⟨eq_of_at (by rw [hs.1, ks.1]) (fun i hi => by rw [hs.1] at hi; rw [hs.2.1 i (by omega), ks.2.1 i (by omega)]), eq_of_at (by rw [hl.tlen, kl.tlen]) fun i hi => ?_, eq_of_at (by rw [hl.wlen, kl.wlen]) fun i hi => ?_⟩
  · obtain ⟨j, hj, rfl⟩ := place_all (F := tov tl) (m := tl.length) (e := i) (by rw [hl.tlen] at hi; exact hi)
    rw [hl.tla j hj, kl.tla j hj]
  · obtain ⟨j, hj, rfl⟩ := place_all (F := tov tl) (m := tl.length) (e := i) (by rw [hl.wlen] at hi; exact hi)
    rw [hl.wta j hj, kl.wta j hj]
theorem TrL.good {n : Nat} {st tl wt a b c : List Int} (hg : Good n st tl wt) (h : TrL n st tl wt a b c) : Good n a b c := by
  obtain ⟨hs, nx, hl⟩ := h
  exact (laid_tur hg hs hl).1
theorem TrL.wts {n : Nat} {st tl wt a b c : List Int} (h : TrL n st tl wt a b c) : ∀ e, 0 ≤ at_ c e ∧ at_ c e ≤ 18446744073709551615 := by
  obtain ⟨hs, nx, hl⟩ := h
  intro e
  by_cases he : e < tl.length
  · have := hl.win e he; omega
  · have : at_ c e = 0 := by unfold at_; rw [List.getElem?_eq_none (by rw [hl.wlen]; omega)]; rfl
    omega
/-- One landmark's error. -/
def LmNo (n : Nat) (st tl wt a b c : List Int) (v : Int) (F T : List Int) (e : Int) : Prop :=
  (¬ IsV n v ∧ e = 30) ∨ (IsV n v ∧ ¬ (F.length = n ∧ T.length = n) ∧ e = 34) ∨
  (IsV n v ∧ F.length = n ∧ T.length = n ∧ ¬ (Found n st tl wt 1 (S0 [v]) F ∧ Found n a b c 1 (S0 [v]) T) ∧ e = 53) ∨
  (IsV n v ∧ F.length = n ∧ T.length = n ∧ Found n st tl wt 1 (S0 [v]) F ∧ Found n a b c 1 (S0 [v]) T ∧ e = 0)
theorem LmNo.one {n : Nat} {st tl wt a b c : List Int} {v : Int} {F T : List Int} {e e' : Int} (h : LmNo n st tl wt a b c v F T e) (k : LmNo n st tl wt a b c v F T e') : e = e' := by
  rcases h with ⟨h1, rfl⟩ | ⟨h1, h2, rfl⟩ | ⟨h1, h2, h3, h4, rfl⟩ | ⟨h1, h2, h3, h4, h5, rfl⟩ <;> rcases k with ⟨k1, rfl⟩ | ⟨k1, k2, rfl⟩ | ⟨k1, k2, k3, k4, rfl⟩ | ⟨k1, k2, k3, k4, k5, rfl⟩
  · rfl
  · exact absurd k1 h1
  · exact absurd k1 h1
  · exact absurd k1 h1
  · exact absurd h1 k1
  · rfl
  · exact absurd ⟨k2, k3⟩ h2
  · exact absurd ⟨k2, k3⟩ h2
  · exact absurd h1 k1
  · exact absurd ⟨h2, h3⟩ k2
  · rfl
  · exact absurd ⟨k4, k5⟩ h4
  · exact absurd h1 k1
  · exact absurd ⟨h2, h3⟩ k2
  · exact absurd ⟨h4, h5⟩ k4
  · rfl
def rowL (ls : List (List Int)) (i : Nat) : List Int := ls[i]?.getD []
/-- The first landmark with an error, of k. -/
def FstNo (n : Nat) (st tl wt a b c : List Int) (at' : List Int) (fr ts : List (List Int)) (k : Nat) (e i : Int) : Prop :=
  (∃ j, j < k ∧ (∀ p, p < j → LmNo n st tl wt a b c (at_ at' p) (rowL fr p) (rowL ts p) 0) ∧ LmNo n st tl wt a b c (at_ at' j) (rowL fr j) (rowL ts j) e ∧ e ≠ 0 ∧ i = j) ∨
  ((∀ p, p < k → LmNo n st tl wt a b c (at_ at' p) (rowL fr p) (rowL ts p) 0) ∧ e = 0 ∧ i = 0)
theorem FstNo.one {n : Nat} {st tl wt a b c at' : List Int} {fr ts : List (List Int)} {k : Nat} {e i e' i' : Int} (h : FstNo n st tl wt a b c at' fr ts k e i) (g : FstNo n st tl wt a b c at' fr ts k e' i') : e = e' ∧ i = i' := by
  rcases h with ⟨j, hj, h1, h2, h3, rfl⟩ | ⟨h1, rfl, rfl⟩ <;> rcases g with ⟨q, hq, g1, g2, g3, rfl⟩ | ⟨g1, rfl, rfl⟩
  · rcases Nat.lt_trichotomy j q with p | p | p
    · exact absurd (h2.one (g1 j p)) h3
    · subst p; exact ⟨h2.one g2, rfl⟩
    · exact absurd (g2.one (h1 q p)) g3
  · exact absurd (h2.one (g1 j hj)) h3
  · exact absurd (g2.one (h1 q hq)) g3
  · exact ⟨rfl, rfl⟩
/-- What Check answers. -/
def CkR (N : Int) (st tl wt at' : List Int) (fr ts : List (List Int)) (e i : Int) : Prop :=
  ((chk N st tl wt).1 ≠ 0 ∧ e = (chk N st tl wt).1 ∧ i = 0) ∨
  ((chk N st tl wt).1 = 0 ∧ ¬ (fr.length = at'.length ∧ ts.length = at'.length) ∧ e = 34 ∧ i = 0) ∨
  ((chk N st tl wt).1 = 0 ∧ fr.length = at'.length ∧ ts.length = at'.length ∧ 64 < at'.length ∧ e = 22 ∧ i = 0) ∨
  ((chk N st tl wt).1 = 0 ∧ fr.length = at'.length ∧ ts.length = at'.length ∧ at'.length ≤ 64 ∧ ∃ n a b c, N = ((n : Nat) : Int) ∧ TrL n st tl wt a b c ∧ FstNo n st tl wt a b c at' fr ts at'.length e i)
theorem CkR.one {N : Int} {st tl wt at' : List Int} {fr ts : List (List Int)} {e i e' i' : Int} (h : CkR N st tl wt at' fr ts e i) (k : CkR N st tl wt at' fr ts e' i') : e = e' ∧ i = i' := by
  rcases h with ⟨h1, rfl, rfl⟩ | ⟨h1, h2, rfl, rfl⟩ | ⟨h1, h2, h3, h4, rfl, rfl⟩ | ⟨h1, h2, h3, h4, n, a, b, c, hn, ht, hf⟩ <;>
  rcases k with ⟨k1, rfl, rfl⟩ | ⟨k1, k2, rfl, rfl⟩ | ⟨k1, k2, k3, k4, rfl, rfl⟩ | ⟨k1, k2, k3, k4, n', a', b', c', hn', ht', hf'⟩
  · exact ⟨rfl, rfl⟩
  · exact absurd k1 h1
  · exact absurd k1 h1
  · exact absurd k1 h1
  · exact absurd h1 k1
  · exact ⟨rfl, rfl⟩
  · exact absurd ⟨k2, k3⟩ h2
  · exact absurd ⟨k2, k3⟩ h2
  · exact absurd h1 k1
  · exact absurd ⟨h2, h3⟩ k2
  · exact ⟨rfl, rfl⟩
  · omega
  · exact absurd h1 k1
  · exact absurd ⟨h2, h3⟩ k2
  · omega
  obtain rfl : n = n' := by omega
  obtain ⟨rfl, rfl, rfl⟩ := ht.one ht'
  exact hf.one hf'
end Go.Proofs.Ytehlciejhegndaa
