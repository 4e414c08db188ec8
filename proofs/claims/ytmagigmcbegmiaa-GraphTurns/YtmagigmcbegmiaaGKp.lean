import Derived.Test.YtmagigmcbegmiaaGB
import Derived.Test.YtmagigmcbegmiaaReachP
/- Plain: what is built of the edges of a graph is that graph; the edges from a vertex, in their order. -/
namespace Go.Proofs.Ytmagigmcbegmiaa
set_option linter.unusedVariables false
/-- The e-th edge of a graph. -/
def edgeAt (n : Nat) (st tl wt : List Int) (e : Nat) : Int × Int × Int := ((src st n e : Nat), at_ tl e, at_ wt e)
/-- All edges of a graph, row by row. -/
def rowsE (n : Nat) (st tl wt : List Int) : List Ed3 := upto (edgeAt n st tl wt) tl.length
theorem rowsE_len (n : Nat) (st tl wt : List Int) : (rowsE n st tl wt).length = tl.length := upto_len _ _
theorem rowsE_at (n : Nat) (st tl wt : List Int) (i : Nat) (h : i < tl.length) : eAt (rowsE n st tl wt) i = edgeAt n st tl wt i := by simp [rowsE, upto, eAt, h]
theorem cnt_congr {p q : Nat → Prop} [DecidablePred p] [DecidablePred q] {m : Nat} (h : ∀ i, i < m → (p i ↔ q i)) : cnt p m = cnt q m := by
  induction m with
  | zero => rfl
  | succ m ih =>
    unfold cnt
    rw [ih (fun i hi => h i (by omega))]
    by_cases hp : p m
    · rw [if_pos hp, if_pos ((h m (by omega)).1 hp)]
    · rw [if_neg hp, if_neg (fun hq => hp ((h m (by omega)).2 hq))]
theorem cnt_lo (K m : Nat) : cnt (fun i => i < K) m = min K m := by
  induction m with
  | zero => simp [cnt]
  | succ m ih => unfold cnt; rw [ih]; split <;> omega
theorem cnt_from (K m : Nat) : cnt (fun i => K ≤ i) m = m - K := by
  induction m with
  | zero => simp [cnt]
  | succ m ih => unfold cnt; rw [ih]; split <;> omega
section
variable {n m : Nat} {l : List Ed3} {st tl wt nx : List Int}
theorem src_lo (hg : Good n st tl wt) {p v : Nat} (hp : p < tl.length) (hv : v ≤ n) : src st n p < v ↔ (p : Int) < at_ st v := by
  obtain ⟨h1, h2⟩ := src_spec hg hp
  have h3 := src_lt hg hp
  constructor
  · intro h
    have := hg.mono (src st n p + 1) v (by omega) hv
    omega
  · intro h
    rcases Nat.lt_or_ge (src st n p) v with h4 | h4
    · exact h4
    · have := hg.mono v (src st n p) h4 (by omega)
      omega
theorem rowsE_from (i : Nat) (h : i < tl.length) : eFrom (rowsE n st tl wt) i = src st n i := by unfold eFrom; rw [rowsE_at n st tl wt i h]; rfl
theorem rowsE_begins (hg : Good n st tl wt) (v : Nat) (hv : v ≤ n) : (begins (eFrom (rowsE n st tl wt)) tl.length v : Int) = at_ st v := by
  have hr := hg.range v hv
  unfold begins
  rw [cnt_congr (q := fun i => i < (at_ st v).toNat) (fun i hi => by rw [rowsE_from i hi, src_lo hg hi hv]; omega), cnt_lo]
  omega
theorem rowsE_place (hg : Good n st tl wt) (i : Nat) (hi : i < tl.length) : place (eFrom (rowsE n st tl wt)) tl.length i = i := by
  obtain ⟨h1, h2⟩ := src_spec hg hi
  have h3 := src_lt hg hi
  have hb := rowsE_begins hg (src st n i) (by omega)
  unfold place outs
  rw [rowsE_from i hi]
  rw [cnt_congr (q := fun j => (at_ st (src st n i)).toNat ≤ j) (fun j hj => ?_), cnt_from]
  · have := hg.range (src st n i) (by omega)
    omega
  · rw [rowsE_from j (by omega)]
    have hr := hg.range (src st n i) (by omega)
    constructor
    · intro h
      have := (src_spec hg (show j < tl.length by omega)).1
      rw [h] at this; omega
    · intro h
      exact src_eq hg h3 (by omega) (by omega)
theorem rowsE_takes (hg : Good n st tl wt) (hw : ∀ e, e < tl.length → 0 ≤ at_ wt e) : Takes n (rowsE n st tl wt) := by
  have hed : ∀ i, i < tl.length → (0 ≤ at_ tl i ∧ at_ tl i < n) ∧ at_ wt i ≤ 4294967295 := fun i hi => by
    have := hg.edges i hi
    unfold edgeNo at this
    by_cases h : IsV n (at_ tl i)
    · rw [if_pos h] at this
      refine ⟨h, ?_⟩
      by_cases h2 : 4294967295 < at_ wt i
      · rw [if_pos h2] at this; cases this
      · omega
    · rw [if_neg h] at this; cases this
  refine ⟨hg.n_le, by rw [rowsE_len]; exact hg.m_le, fun i hi => ?_, fun i hi => ?_, fun i hi => ?_⟩ <;> rw [rowsE_len] at hi <;> rw [rowsE_at n st tl wt i hi]
  · have := src_lt hg hi
    exact ⟨by show (0 : Int) ≤ (src st n i : Nat); omega, by show ((src st n i : Nat) : Int) < n; omega⟩
  · exact (hed i hi).1
  · exact ⟨hw i hi, (hed i hi).2⟩
/-- The edges from a vertex, in their order. -/
def fil (v : Int) (l : List Ed3) : List Ed3 := l.filter fun e => e.1 == v
/-- A row of a graph. -/
def rowE (n : Nat) (st tl wt : List Int) (v : Nat) : List Ed3 := upto (fun r => edgeAt n st tl wt ((at_ st v).toNat + r)) (at_ st (v + 1) - at_ st v).toNat
theorem fil_row (hs : Summed n m (eFrom l) n st) (hl : Laying n m (eFrom l) (eTo l) (eWt l) m nx tl wt) (ht : Takes n l) (hm : l.length = m) (v : Nat) (hv : v < n) : fil v l = rowE n st tl wt v := by
  have hF : ∀ i, i < m → eFrom l i < n := fun i hi => by have := ht.efr i (by omega); unfold eFrom; omega
  have key : ∀ i, i ≤ m → fil v (l.take i) = upto (fun r => edgeAt n st tl wt ((at_ st v).toNat + r)) (outs (eFrom l) v i) := by
    intro i
    induction i with
    | zero => intro _; simp [fil, outs, cnt, upto]
    | succ i ih =>
      intro hi
      have hlt : i < l.length := by omega
      rw [List.take_succ_eq_append_getElem hlt]
      unfold fil at ih ⊢
      rw [List.filter_append, ih (by omega), outs_succ]
      have he : eAt l i = l[i] := by simp [eAt, hlt]
      have hr := ht.efr i hlt
      obtain ⟨p1, p2, p3, p4⟩ := hl.edge hs hF ht.n_le (by have := ht.m_le; omega) (show i < m by omega)
      by_cases hf : eFrom l i = v
      · rw [if_pos hf, upto_succ]
        congr 1
        have h1 : (l[i].1 == (v : Int)) = true := by
          have : eFrom l i = v := hf
          unfold eFrom at this; rw [he] at this hr; simp; omega
        rw [List.filter_cons_of_pos (p := fun e : Ed3 => e.1 == (v : Int)) h1, List.filter_nil]
        congr 1
        have hpl : (at_ st v).toNat + outs (eFrom l) v i = place (eFrom l) m i := by
          unfold place; rw [hf, hs.2.1 v (by omega)]; omega
        rw [hpl]
        unfold edgeAt
        rw [p2, p3, p4]
        have hto := ht.eto i hlt
        unfold eFrom eTo eWt
        rw [he] at hr hto ⊢
        ext
        · show l[i].1 = ((l[i].1.toNat : Nat) : Int); omega
        · show l[i].2.1 = ((l[i].2.1.toNat : Nat) : Int); omega
        · rfl
      · rw [if_neg hf, Nat.add_zero]
        have h1 : ¬ (l[i].1 == (v : Int)) = true := by
          intro h; apply hf
          unfold eFrom; rw [he]; simp at h; omega
        rw [List.filter_cons_of_neg (p := fun e : Ed3 => e.1 == (v : Int)) h1, List.filter_nil, List.append_nil]
  have := key m (Nat.le_refl _)
  rw [← hm, List.take_length] at this
  rw [this]
  unfold rowE
  congr 1
  rw [hs.2.1 v (by omega), hs.2.1 (v + 1) (by omega), begins_succ, hm]
  omega
/-- Built of the edges of a graph: the graph. -/
theorem rows_back {st' tl' wt' nx' : List Int} (hg : Good n st tl wt) (hw : ∀ e, e < tl.length → 0 ≤ at_ wt e) (hs : Summed n tl.length (eFrom (rowsE n st tl wt)) n st') (hl : Laying n tl.length (eFrom (rowsE n st tl wt)) (eTo (rowsE n st tl wt)) (eWt (rowsE n st tl wt)) tl.length nx' tl' wt') : st' = st ∧ tl' = tl ∧ wt' = wt := by
  have ext_at : ∀ (a b : List Int), a.length = b.length → (∀ i, i < a.length → at_ a i = at_ b i) → a = b := by
    intro a b h1 h2
    apply List.ext_getElem h1
    intro i h3 h4
    have := h2 i h3
    simpa [at_, h3, h4] using this
  refine ⟨ext_at _ _ (by rw [hs.1, hg.s_len]) (fun i hi => ?_), ext_at _ _ hl.tlen (fun i hi => ?_), ext_at _ _ (by rw [hl.wlen, hg.w_len]) (fun i hi => ?_)⟩
  · rw [hs.1] at hi
    rw [hs.2.1 i (by omega), rowsE_begins hg i (by omega)]
  · rw [hl.tlen] at hi
    have h1 := hl.tla i hi
    rw [rowsE_place hg i hi] at h1
    rw [h1]
    have h2 := (rowsE_takes hg hw).eto i (by rw [rowsE_len]; exact hi)
    unfold eTo
    rw [rowsE_at n st tl wt i hi] at h2 ⊢
    show ((at_ tl i).toNat : Int) = at_ tl i
    have : 0 ≤ at_ tl i := h2.1
    omega
  · rw [hl.wlen] at hi
    have h1 := hl.wta i hi
    rw [rowsE_place hg i hi] at h1
    rw [h1]
    unfold eWt
    rw [rowsE_at n st tl wt i hi]
    rfl
end
end Go.Proofs.Ytmagigmcbegmiaa

/- Plain: edges in their order; rows one behind the other; those alike with the one ahead left out. -/
namespace Go.Proofs.Ytmagigmcbegmiaa
set_option linter.unusedVariables false
set_option linter.unusedSimpArgs false
/-- Where to, how heavy. -/
abbrev Pq : Type := Int × Int
def plt (a b : Pq) : Bool := decide (a.1 < b.1 ∨ (a.1 = b.1 ∧ a.2 < b.2))
def ple (a b : Pq) : Bool := !plt b a
def psrt (l : List Pq) : List Pq := l.mergeSort ple
theorem ple_iff (a b : Pq) : ple a b = true ↔ (a.1 < b.1 ∨ (a.1 = b.1 ∧ a.2 ≤ b.2)) := by
  simp only [ple, plt, Bool.not_eq_true', decide_eq_false_iff_not]; omega
theorem plt_iff (a b : Pq) : plt a b = true ↔ (a.1 < b.1 ∨ (a.1 = b.1 ∧ a.2 < b.2)) := by simp [plt]
theorem plt_niff (a b : Pq) : plt a b = false ↔ ¬ (a.1 < b.1 ∨ (a.1 = b.1 ∧ a.2 < b.2)) := by simp [plt]
theorem ple_trans (a b c : Pq) (h1 : ple a b = true) (h2 : ple b c = true) : ple a c = true := by rw [ple_iff] at *; omega
theorem ple_total (a b : Pq) : (ple a b || ple b a) = true := by rw [Bool.or_eq_true, ple_iff, ple_iff]; omega
theorem psrt_perm (l : List Pq) : (psrt l).Perm l := List.mergeSort_perm _ _
theorem psrt_length (l : List Pq) : (psrt l).length = l.length := (psrt_perm l).length_eq
theorem psrt_pair (l : List Pq) : (psrt l).Pairwise (fun a b => ple a b = true) := List.pairwise_mergeSort ple_trans ple_total l
def mkE (v : Int) (p : Pq) : Ed3 := (v, p.1, p.2)
/-- Rows one behind the other. -/
def fl (f : Nat → List Ed3) (k : Nat) : List Ed3 := (List.range k).flatMap f
theorem fl_zero (f : Nat → List Ed3) : fl f 0 = [] := rfl
theorem fl_succ (f : Nat → List Ed3) (k : Nat) : fl f (k + 1) = fl f k ++ f k := by simp [fl, List.range_succ]
theorem fl_congr {f g : Nat → List Ed3} {k : Nat} (h : ∀ u, u < k → f u = g u) : fl f k = fl g k := by
  induction k with
  | zero => rfl
  | succ k ih => rw [fl_succ, fl_succ, ih (fun u hu => h u (by omega)), h k (by omega)]
/-- The rows behind v. -/
def beh (f : Nat → List Ed3) (v : Nat) : Nat → List Ed3
  | 0 => []
  | k + 1 => beh f v k ++ f (v + 1 + k)
theorem beh_congr {f g : Nat → List Ed3} {v k : Nat} (h : ∀ u, v < u → f u = g u) : beh f v k = beh g v k := by
  induction k with
  | zero => rfl
  | succ k ih => unfold beh; rw [ih, h _ (by omega)]
theorem fl_split (f : Nat → List Ed3) (v k : Nat) : fl f (v + 1 + k) = fl f v ++ f v ++ beh f v k := by
  induction k with
  | zero => rw [Nat.add_zero, fl_succ]; simp [beh]
  | succ k ih => rw [show v + 1 + (k + 1) = v + 1 + k + 1 by omega, fl_succ, ih]; simp [beh]
theorem fil_nil_of {v : Int} {l : List Ed3} (h : ∀ e ∈ l, e.1 ≠ v) : fil v l = [] := by
  unfold fil
  rw [List.filter_eq_nil_iff]
  intro e he
  simpa using h e he
theorem fil_all_of {v : Int} {l : List Ed3} (h : ∀ e ∈ l, e.1 = v) : fil v l = l := by
  unfold fil
  rw [List.filter_eq_self]
  intro e he
  simpa using h e he
theorem fil_append (v : Int) (a b : List Ed3) : fil v (a ++ b) = fil v a ++ fil v b := by simp [fil]
theorem fil_fl {f : Nat → List Ed3} (hf : ∀ u : Nat, ∀ e ∈ f u, e.1 = (u : Int)) (k v : Nat) : fil (v : Int) (fl f k) = if v < k then f v else [] := by
  induction k with
  | zero => simp [fl_zero, fil]
  | succ k ih =>
    rw [fl_succ, fil_append, ih]
    by_cases h : v = k
    · subst h
      rw [if_neg (by omega), if_pos (by omega), fil_all_of (hf v)]; simp
    · rw [fil_nil_of (v := (v : Int)) (l := f k) (fun e he => by rw [hf k e he]; omega), List.append_nil]
      by_cases h2 : v < k
      · rw [if_pos h2, if_pos (by omega)]
      · rw [if_neg h2, if_neg (by omega)]
theorem mem_fil {v : Int} {l : List Ed3} {e : Ed3} : e ∈ fil v l ↔ e ∈ l ∧ e.1 = v := by simp [fil]
theorem by_rows {R : Ed3 → Ed3 → Prop} : ∀ {L : List Ed3}, (∀ v, (fil v L).Pairwise R) → L.Pairwise (fun p q => p.1 = q.1 → R p q)
  | [], _ => List.Pairwise.nil
  | a :: L, h => by
    refine List.pairwise_cons.2 ⟨fun b hb hab => ?_, by_rows fun v => ?_⟩
    · have h1 := h a.1
      rw [show fil a.1 (a :: L) = a :: fil a.1 L by simp [fil]] at h1
      exact (List.pairwise_cons.1 h1).1 b (mem_fil.2 ⟨hb, hab.symm⟩)
    · refine (h v).sublist ?_
      unfold fil
      exact (List.sublist_cons_self a L).filter _
theorem count_fil (x : Ed3) (l : List Ed3) : l.count x = (fil x.1 l).count x := by
  unfold fil
  rw [List.count_filter (by simp)]
/-- Between the same two vertices. -/
def alk (a b : Ed3) : Bool := a.1 == b.1 && a.2.1 == b.2.1
theorem alk_iff (a b : Ed3) : alk a b = true ↔ a.1 = b.1 ∧ a.2.1 = b.2.1 := by simp [alk]
/-- Those that are not as the one ahead of them. -/
def kp (prev : Ed3) : List Ed3 → List Ed3
  | [] => []
  | b :: l => if alk b prev then kp b l else b :: kp b l
def cpt : List Ed3 → List Ed3
  | [] => []
  | a :: l => a :: kp a l
theorem kp_snoc (a : Ed3) (l : List Ed3) (x : Ed3) : kp a (l ++ [x]) = kp a l ++ (if alk x ((a :: l).getLast (by simp)) then [] else [x]) := by
  induction l generalizing a with
  | nil => by_cases h : alk x a = true <;> simp [kp, h]
  | cons b l ih =>
    simp only [List.cons_append, kp]
    rw [ih b]
    have e : (a :: b :: l).getLast (by simp) = (b :: l).getLast (by simp) := List.getLast_cons (by simp)
    rw [e]
    split <;> simp
theorem getLast_take {l : List Ed3} {j : Nat} (h0 : 0 < j) (h : j ≤ l.length) (hn : l.take j ≠ []) : (l.take j).getLast hn = eAt l (j - 1) := by
  rw [List.getLast_eq_getElem, List.getElem_take]
  have : (l.take j).length = j := by rw [List.length_take]; omega
  unfold eAt
  simp only [this]
  rw [List.getElem?_eq_getElem (by omega)]; rfl
theorem cpt_take (l : List Ed3) (j : Nat) (h0 : 0 < j) (hj : j < l.length) : cpt (l.take (j + 1)) = cpt (l.take j) ++ (if alk (eAt l j) (eAt l (j - 1)) then [] else [eAt l j]) := by
  have he : eAt l j = l[j] := by simp [eAt, hj]
  rw [List.take_succ_eq_append_getElem hj, ← he]
  have hl : (l.take j).length = j := by rw [List.length_take]; omega
  have hne : l.take j ≠ [] := fun e => by rw [e] at hl; simp at hl; omega
  have hg := getLast_take h0 (Nat.le_of_lt hj) hne
  match hm : l.take j, hne, hg with
  | a :: t, _, hg =>
    simp only [List.cons_append, cpt]
    rw [kp_snoc, hg]
theorem cpt_len_le (l : List Ed3) : (cpt l).length ≤ l.length := by
  have : ∀ (l : List Ed3) a, (kp a l).length ≤ l.length := by
    intro l
    induction l with
    | nil => intro a; simp [kp]
    | cons b l ih => intro a; unfold kp; have := ih b; split <;> simp <;> omega
  cases l with
  | nil => simp [cpt]
  | cons a l => simp [cpt]; exact this l a
theorem cpt_one {l : List Ed3} (h : l.length < 2) : cpt l = l := by
  match l, h with
  | [], _ => rfl
  | [a], _ => rfl
theorem cpt_first (l : List Ed3) (h : 0 < l.length) : cpt (l.take 1) = l.take 1 := cpt_one (by rw [List.length_take]; omega)
/-- In the order of the vertices, then of the ends, then of the weights. -/
def lxl (a b : Ed3) : Prop := a.1 < b.1 ∨ (a.1 = b.1 ∧ (a.2.1 < b.2.1 ∨ (a.2.1 = b.2.1 ∧ a.2.2 ≤ b.2.2)))
def lxs (a b : Ed3) : Prop := a.1 < b.1 ∨ (a.1 = b.1 ∧ a.2.1 < b.2.1)
theorem kp_facts : ∀ (l : List Ed3) (p : Ed3), (p :: l).Pairwise lxl → (∀ b ∈ kp p l, lxs p b ∧ b ∈ l) ∧ (kp p l).Pairwise lxs ∧ ∀ x ∈ l, (x.1 = p.1 ∧ x.2.1 = p.2.1) ∨ ∃ y ∈ kp p l, y.1 = x.1 ∧ y.2.1 = x.2.1 ∧ y.2.2 ≤ x.2.2
  | [], p, _ => ⟨fun b hb => (by simp [kp] at hb), (by simp [kp]), fun x hx => (by simp at hx)⟩
  | b :: l, p, h => by
    have h1 := List.pairwise_cons.1 h
    have hpb := h1.1 b (by simp)
    have hbl := (List.pairwise_cons.1 h1.2).1
    obtain ⟨i1, i2, i3⟩ := kp_facts l b h1.2
    unfold lxl at hpb
    by_cases ha : alk b p = true
    · have ha' := (alk_iff _ _).1 ha
      simp only [kp, ha, if_true]
      refine ⟨fun c hc => ⟨?_, List.mem_cons_of_mem _ (i1 c hc).2⟩, i2, fun x hx => ?_⟩
      · have := (i1 c hc).1
        unfold lxs at this ⊢
        omega
      · rcases List.mem_cons.1 hx with rfl | hx
        · exact .inl ha'
        · rcases i3 x hx with h3 | h3
          · exact .inl ⟨by omega, by omega⟩
          · exact .inr h3
    · have ha' : ¬ (b.1 = p.1 ∧ b.2.1 = p.2.1) := fun h => ha ((alk_iff _ _).2 h)
      simp only [kp, ha]
      rw [if_neg (by simp)]
      have hs : lxs p b := by unfold lxs; omega
      refine ⟨fun c hc => ?_, List.pairwise_cons.2 ⟨fun c hc => (i1 c hc).1, i2⟩, fun x hx => .inr ?_⟩
      · rcases List.mem_cons.1 hc with rfl | hc
        · exact ⟨hs, by simp⟩
        · have := (i1 c hc).1
          refine ⟨?_, List.mem_cons_of_mem _ (i1 c hc).2⟩
          unfold lxs at this hs ⊢
          omega
      · rcases List.mem_cons.1 hx with rfl | hx
        · exact ⟨x, by simp, rfl, rfl, Int.le_refl _⟩
        · rcases i3 x hx with h3 | ⟨y, hy, h3⟩
          · have := hbl x hx
            unfold lxl at this
            exact ⟨b, by simp, by omega, by omega, by omega⟩
          · exact ⟨y, List.mem_cons_of_mem _ hy, h3⟩
theorem cpt_facts (l : List Ed3) (h : l.Pairwise lxl) : (∀ b ∈ cpt l, b ∈ l) ∧ (cpt l).Pairwise lxs ∧ ∀ x ∈ l, ∃ y ∈ cpt l, y.1 = x.1 ∧ y.2.1 = x.2.1 ∧ y.2.2 ≤ x.2.2 := by
  cases l with
  | nil => simp [cpt]
  | cons a l =>
    obtain ⟨i1, i2, i3⟩ := kp_facts l a h
    have h1 := (List.pairwise_cons.1 h).1
    refine ⟨fun b hb => ?_, List.pairwise_cons.2 ⟨fun c hc => (i1 c hc).1, i2⟩, fun x hx => ?_⟩
    · rcases List.mem_cons.1 hb with rfl | hb
      · simp
      · exact List.mem_cons_of_mem _ (i1 b hb).2
    · rcases List.mem_cons.1 hx with rfl | hx
      · exact ⟨x, by simp [cpt], rfl, rfl, Int.le_refl _⟩
      · rcases i3 x hx with h3 | ⟨y, hy, h3⟩
        · have := h1 x hx
          unfold lxl at this
          exact ⟨a, by simp [cpt], by omega, by omega, by omega⟩
        · exact ⟨y, by simp [cpt, hy], h3⟩
/-- The lightest stands there just once. -/
theorem cpt_once {l : List Ed3} (h : l.Pairwise lxl) {z : Ed3} (hz : z ∈ l) (hmin : ∀ y ∈ l, y.1 = z.1 → y.2.1 = z.2.1 → z.2.2 ≤ y.2.2) : (cpt l).count z = 1 := by
  obtain ⟨h1, h2, h3⟩ := cpt_facts l h
  obtain ⟨y, hy, e1, e2, e3⟩ := h3 z hz
  have := hmin y (h1 y hy) e1 e2
  have e : y = z := Prod.ext e1 (Prod.ext e2 (by omega))
  subst e
  have hnd : (cpt l).Nodup := h2.imp fun {a b} hab => by
    intro e
    subst e
    unfold lxs at hab
    omega
  have c1 : (cpt l).count y ≤ 1 := List.nodup_iff_count.1 hnd y
  have c2 : 0 < (cpt l).count y := List.count_pos_iff.2 hy
  omega
theorem fl_lxl {f : Nat → List Ed3} (hf : ∀ u : Nat, ∀ e ∈ f u, e.1 = (u : Int)) (hs : ∀ u, (f u).Pairwise lxl) (k : Nat) : (fl f k).Pairwise lxl := by
  induction k with
  | zero => rw [fl_zero]; exact List.Pairwise.nil
  | succ k ih =>
    rw [fl_succ, List.pairwise_append]
    refine ⟨ih, hs k, fun a ha b hb => ?_⟩
    unfold fl at ha
    obtain ⟨u, hu, hau⟩ := List.mem_flatMap.1 ha
    have := List.mem_range.1 hu
    have e1 := hf u a hau
    have e2 := hf k b hb
    exact .inl (by omega)
theorem mkE_lxl (v : Int) {l : List Pq} (h : l.Pairwise (fun a b => ple a b = true)) : (l.map (mkE v)).Pairwise lxl := by
  rw [List.pairwise_map]
  refine h.imp fun {a b} hab => ?_
  rw [ple_iff] at hab
  exact .inr ⟨rfl, hab⟩
theorem mkE_from {v : Int} {l : List Pq} {e : Ed3} (h : e ∈ l.map (mkE v)) : e.1 = v := by
  obtain ⟨p, _, rfl⟩ := List.mem_map.1 h
  rfl
def swp3 (e : Ed3) : Ed3 := (e.2.1, e.1, e.2.2)
theorem swp3_swp3 (e : Ed3) : swp3 (swp3 e) = e := rfl
theorem count_swp (l : List Ed3) (x : Ed3) : (l.map swp3).count (swp3 x) = l.count x := by
  induction l with
  | nil => rfl
  | cons a l ih =>
    rw [List.map_cons, List.count_cons, List.count_cons, ih]
    have e : (swp3 a == swp3 x) = (a == x) := by
      rw [Bool.eq_iff_iff, beq_iff_eq, beq_iff_eq]
      constructor
      · intro h
        have := congrArg swp3 h
        simpa [swp3_swp3] using this
      · intro h; rw [h]
    rw [e]
end Go.Proofs.Ytmagigmcbegmiaa
