/- Plain: what is built of the edges of a graph is that graph; the edges from a vertex, in their order. -/
import Derived.Test.YtmagigmcbegmiaaGB
import Derived.Test.YtmagigmcbegmiaaReachP
namespace Go.Proofs.Ytmagigmcbegmiaa
set_option linter.unusedVariables false
/-- The e-th edge of a graph. -/
def edgeAt (n : Nat) (st tl wt : List Int) (e : Nat) : Int × Int × Int := ((src st n e : Nat), at_ tl e, at_ wt e)
/-- All edges of a graph, row by row. -/
def rowsE (n : Nat) (st tl wt : List Int) : List Ed3 := upto (edgeAt n st tl wt) tl.length
theorem rowsE_len (n : Nat) (st tl wt : List Int) : (rowsE n st tl wt).length = tl.length := upto_len _ _
theorem rowsE_at (n : Nat) (st tl wt : List Int) (i : Nat) (h : i < tl.length) : eAt (rowsE n st tl wt) i = edgeAt n st tl wt i := by simp [rowsE, upto, eAt, h]
theorem cnt_congr {p q : Nat → Prop} [DecidablePred p] [DecidablePred q] {m : Nat} (h : ∀ i, i < m → (p i ↔ q i)) : cnt p m = cnt q m := by
  induction m with
  | zero => rfl
  | succ m ih =>
    unfold cnt
    rw [ih (fun i hi => h i (by omega))]
    by_cases hp : p m
    · rw [if_pos hp, if_pos ((h m (by omega)).1 hp)]
    · rw [if_neg hp, if_neg (fun hq => hp ((h m (by omega)).2 hq))]
theorem cnt_lo (K m : Nat) : cnt (fun i => i < K) m = min K m := by
  induction m with
  | zero => simp [cnt]
  | succ m ih => unfold cnt; rw [ih]; split <;> omega
theorem cnt_from (K m : Nat) : cnt (fun i => K ≤ i) m = m - K := by
  induction m with
  | zero => simp [cnt]
  | succ m ih => unfold cnt; rw [ih]; split <;> omega
section
variable {n m : Nat} {l : List Ed3} {st tl wt nx : List Int}
theorem src_lo (hg : Good n st tl wt) {p v : Nat} (hp : p < tl.length) (hv : v ≤ n) : src st n p < v ↔ (p : Int) < at_ st v := by
  obtain ⟨h1, h2⟩ := src_spec hg hp
  have h3 := src_lt hg hp
  constructor
  · intro h
    have := hg.mono (src st n p + 1) v (by omega) hv
    omega
  · intro h
    rcases Nat.lt_or_ge (src st n p) v with h4 | h4
    · exact h4
    · have := hg.mono v (src st n p) h4 (by omega)
      omega
theorem rowsE_from (i : Nat) (h : i < tl.length) : eFrom (rowsE n st tl wt) i = src st n i := by unfold eFrom; rw [rowsE_at n st tl wt i h]; rfl
theorem rowsE_begins (hg : Good n st tl wt) (v : Nat) (hv : v ≤ n) : (begins (eFrom (rowsE n st tl wt)) tl.length v : Int) = at_ st v := by
  have hr := hg.range v hv
  unfold begins
  rw [cnt_congr (q := fun i => i < (at_ st v).toNat) (fun i hi => by rw [rowsE_from i hi, src_lo hg hi hv]; omega), cnt_lo]
  omega
theorem rowsE_place (hg : Good n st tl wt) (i : Nat) (hi : i < tl.length) : place (eFrom (rowsE n st tl wt)) tl.length i = i := by
  obtain ⟨h1, h2⟩ := src_spec hg hi
  have h3 := src_lt hg hi
  have hb := rowsE_begins hg (src st n i) (by omega)
  unfold place outs
  rw [rowsE_from i hi]
  rw [cnt_congr (q := fun j => (at_ st (src st n i)).toNat ≤ j) (fun j hj => ?_), cnt_from]
  · have := hg.range (src st n i) (by omega)
    omega
  · rw [rowsE_from j (by omega)]
    have hr := hg.range (src st n i) (by omega)
    constructor
    · intro h
      have := (src_spec hg (show j < tl.length by omega)).1
      rw [h] at this; omega
    · intro h
      exact src_eq hg h3 (by omega) (by omega)
theorem rowsE_takes (hg : Good n st tl wt) (hw : ∀ e, e < tl.length → 0 ≤ at_ wt e) : Takes n (rowsE n st tl wt) := by
  have hed : ∀ i, i < tl.length → (0 ≤ at_ tl i ∧ at_ tl i < n) ∧ at_ wt i ≤ 4294967295 := fun i hi => by
    have := hg.edges i hi
    unfold edgeNo at this
    by_cases h : IsV n (at_ tl i)
    · rw [if_pos h] at this
      refine ⟨h, ?_⟩
      by_cases h2 : 4294967295 < at_ wt i
      · rw [if_pos h2] at this; cases this
      · omega
    · rw [if_neg h] at this; cases this
  refine ⟨hg.n_le, by rw [rowsE_len]; exact hg.m_le, fun i hi => ?_, fun i hi => ?_, fun i hi => ?_⟩ <;> rw [rowsE_len] at hi <;> rw [rowsE_at n st tl wt i hi]
  · have := src_lt hg hi
    exact ⟨by show (0 : Int) ≤ (src st n i : Nat); omega, by show ((src st n i : Nat) : Int) < n; omega⟩
  · exact (hed i hi).1
  · exact ⟨hw i hi, (hed i hi).2⟩
/-- The edges from a vertex, in their order. -/
def fil (v : Int) (l : List Ed3) : List Ed3 := l.filter fun e => e.1 == v
/-- A row of a graph. -/
def rowE (n : Nat) (st tl wt : List Int) (v : Nat) : List Ed3 := upto (fun r => edgeAt n st tl wt ((at_ st v).toNat + r)) (at_ st (v + 1) - at_ st v).toNat
theorem fil_row (hs : Summed n m (eFrom l) n st) (hl : Laying n m (eFrom l) (eTo l) (eWt l) m nx tl wt) (ht : Takes n l) (hm : l.length = m) (v : Nat) (hv : v < n) : fil v l = rowE n st tl wt v := by
  have hF : ∀ i, i < m → eFrom l i < n := fun i hi => by have := ht.efr i (by omega); unfold eFrom; omega
  have key : ∀ i, i ≤ m → fil v (l.take i) = upto (fun r => edgeAt n st tl wt ((at_ st v).toNat + r)) (outs (eFrom l) v i) := by
    intro i
    induction i with
    | zero => intro _; simp [fil, outs, cnt, upto]
    | succ i ih =>
      intro hi
      have hlt : i < l.length := by omega
      rw [List.take_succ_eq_append_getElem hlt]
      unfold fil at ih ⊢
      rw [List.filter_append, ih (by omega), outs_succ]
      have he : eAt l i = l[i] := by simp [eAt, hlt]
      have hr := ht.efr i hlt
      obtain ⟨p1, p2, p3, p4⟩ := hl.edge hs hF ht.n_le (by have := ht.m_le; omega) (show i < m by omega)
      by_cases hf : eFrom l i = v
      · rw [if_pos hf, upto_succ]
        congr 1
        have h1 : (l[i].1 == (v : Int)) = true := by
          have : eFrom l i = v := hf
          unfold eFrom at this; rw [he] at this hr; simp; omega
        rw [List.filter_cons_of_pos (p := fun e : Ed3 => e.1 == (v : Int)) h1, List.filter_nil]
        congr 1
        have hpl : (at_ st v).toNat + outs (eFrom l) v i = place (eFrom l) m i := by
          unfold place; rw [hf, hs.2.1 v (by omega)]; omega
        rw [hpl]
        unfold edgeAt
        rw [p2, p3, p4]
        have hto := ht.eto i hlt
        unfold eFrom eTo eWt
        rw [he] at hr hto ⊢
        ext
        · show l[i].1 = ((l[i].1.toNat : Nat) : Int); omega
        · show l[i].2.1 = ((l[i].2.1.toNat : Nat) : Int); omega
        · rfl
      · rw [if_neg hf, Nat.add_zero]
        have h1 : ¬ (l[i].1 == (v : Int)) = true := by
          intro h; apply hf
          unfold eFrom; rw [he]; simp at h; omega
        rw [List.filter_cons_of_neg (p := fun e : Ed3 => e.1 == (v : Int)) h1, List.filter_nil, List.append_nil]
  have := key m (Nat.le_refl _)
  rw [← hm, List.take_length] at this
  rw [this]
  unfold rowE
  congr 1
  rw [hs.2.1 v (by omega), hs.2.1 (v + 1) (by omega), begins_succ, hm]
  omega
/-- Built of the edges of a graph: the graph. -/
theorem rows_back {st' tl' wt' nx' : List Int} (hg : Good n st tl wt) (hw : ∀ e, e < tl.length → 0 ≤ at_ wt e) (hs : Summed n tl.length (eFrom (rowsE n st tl wt)) n st') (hl : Laying n tl.length (eFrom (rowsE n st tl wt)) (eTo (rowsE n st tl wt)) (eWt (rowsE n st tl wt)) tl.length nx' tl' wt') : st' = st ∧ tl' = tl ∧ wt' = wt := by
  have ext_at : ∀ (a b : List Int), a.length = b.length → (∀ i, i < a.length → at_ a i = at_ b i) → a = b := by
    intro a b h1 h2
    apply List.ext_getElem h1
    intro i h3 h4
    have := h2 i h3
    simpa [at_, h3, h4] using this
  refine ⟨ext_at _ _ (by rw [hs.1, hg.s_len]) (fun i hi => ?_), ext_at _ _ hl.tlen (fun i hi => ?_), ext_at _ _ (by rw [hl.wlen, hg.w_len]) (fun i hi => ?_)⟩
  · rw [hs.1] at hi
    rw [hs.2.1 i (by omega), rowsE_begins hg i (by omega)]
  · rw [hl.tlen] at hi
    have h1 := hl.tla i hi
    rw [rowsE_place hg i hi] at h1
    rw [h1]
    have h2 := (rowsE_takes hg hw).eto i (by rw [rowsE_len]; exact hi)
    unfold eTo
    rw [rowsE_at n st tl wt i hi] at h2 ⊢
    show ((at_ tl i).toNat : Int) = at_ tl i
    have : 0 ≤ at_ tl i := h2.1
    omega
  · rw [hl.wlen] at hi
    have h1 := hl.wta i hi
    rw [rowsE_place hg i hi] at h1
    rw [h1]
    unfold eWt
    rw [rowsE_at n st tl wt i hi]
    rfl
end
end Go.Proofs.Ytmagigmcbegmiaa
