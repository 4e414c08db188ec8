import Derived.Test.YtmagigmcbegmiaaRl
import Derived.Test.YtmagigmcbegmiaaGKp
/- GraphRelabels, plainly: numbered anew and back again. -/
namespace Go.Proofs.Ytmagigmcbegmiaa
open Go.RowKit Go.Lib
set_option linter.unusedVariables false
set_option linter.unusedSimpArgs false
theorem cnt_list (p : Nat → Prop) [DecidablePred p] : ∀ m, cnt p m = (List.range m).countP (fun i => decide (p i))
  | 0 => rfl
  | m + 1 => by
    rw [List.range_succ, List.countP_append, ← cnt_list p m]
    show cnt p m + _ = _
    by_cases h : p m
    · simp [h]
    · simp [h]
theorem nodup_sub {α : Type} [DecidableEq α] : ∀ (l m : List α), l.Nodup → (∀ x, x ∈ l → x ∈ m) → l.length ≤ m.length
  | [], m, _, _ => by simp
  | a :: l, m, hn, h => by
    have hn2 := List.nodup_cons.1 hn
    have ha : a ∈ m := h a (by simp)
    have h1 := nodup_sub l (m.erase a) hn2.2 (fun x hx => by
      have hne : x ≠ a := fun e => hn2.1 (e ▸ hx)
      exact (List.mem_erase_of_ne hne).2 (h x (by simp [hx])))
    rw [List.length_erase_of_mem ha] at h1
    have := List.length_pos_of_mem ha
    simp
    omega
/-- As many as there are edges, at most. -/
theorem perm_same {α : Type} [DecidableEq α] {l m : List α} (hl : l.Nodup) (hm : m.Nodup) (h : ∀ x, x ∈ l ↔ x ∈ m) : l.Perm m := by
  rw [List.perm_iff_count]
  intro a
  rw [hl.count, hm.count]
  by_cases ha : a ∈ l
  · rw [if_pos ha, if_pos ((h a).1 ha)]
  · rw [if_neg ha, if_neg (fun hc => ha ((h a).2 hc))]
/-- The sorted keys are those of the edges in their order. -/
theorem cnt_bij {p : Nat → Prop} [DecidablePred p] {f : Nat → Nat} {m : Nat} (h1 : ∀ i, i < m → f i < m) (h2 : ∀ i j, i < m → j < m → f i = f j → i = j) : cnt p m = cnt (fun i => p (f i)) m := by
  rw [cnt_list, cnt_list]
  have hn : ((List.range m).map f).Nodup := by
    unfold List.Nodup
    rw [List.pairwise_map]
    have := List.nodup_range (n := m)
    unfold List.Nodup at this
    refine this.imp_of_mem ?_
    intro a b ha hb hab he
    exact hab (h2 a b (List.mem_range.1 ha) (List.mem_range.1 hb) he)
  have hsub : ∀ x, x ∈ (List.range m).map f → x ∈ List.range m := by
    intro x hx
    obtain ⟨i, hi, rfl⟩ := List.mem_map.1 hx
    exact List.mem_range.2 (h1 i (List.mem_range.1 hi))
  have hp : ((List.range m).map f).Perm (List.range m) := by
    refine perm_same hn List.nodup_range (fun x => ⟨hsub x, fun hx => ?_⟩)
    by_cases hin : x ∈ (List.range m).map f
    · exact hin
    · exfalso
      have h3 := nodup_sub (x :: (List.range m).map f) (List.range m) (List.nodup_cons.2 ⟨hin, hn⟩) (fun y hy => by
        rcases List.mem_cons.1 hy with rfl | hy
        · exact hx
        · exact hsub y hy)
      rw [List.length_cons, List.length_map] at h3
      omega
  rw [← hp.countP_eq, List.countP_map]
  rfl
theorem cnt_cut {p : Nat → Prop} [DecidablePred p] {k m : Nat} (h : k ≤ m) : cnt p k = cnt (fun j => j < k ∧ p j) m := by
  induction m with
  | zero => have : k = 0 := by omega
            subst this; rfl
  | succ m ih =>
    rcases Nat.lt_or_ge m k with h1 | h1
    · have : k = m + 1 := by omega
      subst this
      exact cnt_congr fun i hi => ⟨fun h => ⟨hi, h⟩, fun h => h.2⟩
    · show _ = cnt (fun j => j < k ∧ p j) m + _
      rw [← ih h1, if_neg (by omega)]
      rfl
section
variable {n : Nat} {st tl wt st' tl' wt' nx st2 tl2 wt2 nx2 o : List Int} {P Q : Nat → Nat}
/-- The relabelled lists are a graph, and their edges are those of the graph with other numbers. -/
theorem ren_edge (hg : Good n st tl wt) (hP : ∀ v, v < n → P v < n) (hs : Summed n tl.length (rF P n st) n st') (hl : Laying n tl.length (rF P n st) (rT P tl) (fun e => at_ wt e) tl.length nx tl' wt') :
    Good n st' tl' wt' ∧ ∀ i, i < tl.length → place (rF P n st) tl.length i < tl'.length ∧ src st' n (place (rF P n st) tl.length i) = P (src st n i) ∧ tov tl' (place (rF P n st) tl.length i) = P (tov tl i) := by
  have hF : ∀ i, i < tl.length → rF P n st i < n := fun i hi => hP _ (src_lt hg hi)
  refine ⟨hl.good hs hF hg.n_le hg.m_le, fun i hi => ?_⟩
  obtain ⟨h1, h2, h3, _⟩ := hl.edge hs hF hg.n_le hg.m_le hi
  refine ⟨h1, h2, ?_⟩
  unfold tov
  rw [h3]
  unfold rT tov
  exact Int.toNat_natCast _
theorem src_begins (hg : Good n st tl wt) (v : Nat) (hv : v ≤ n) : (begins (src st n) tl.length v : Int) = at_ st v := by
  rw [← rowsE_begins hg v hv]
  congr 1
  exact cnt_congr fun i hi => by rw [rowsE_from i hi]
theorem src_place (hg : Good n st tl wt) (i : Nat) (hi : i < tl.length) : place (src st n) tl.length i = i := by
  refine Eq.trans ?_ (rowsE_place hg i hi)
  unfold place
  rw [rowsE_from i hi]
  unfold begins outs
  rw [cnt_congr (p := fun j => src st n j < src st n i) (q := fun j => eFrom (rowsE n st tl wt) j < src st n i) (fun j hj => by rw [rowsE_from j hj]), cnt_congr (p := fun j => src st n j = src st n i) (q := fun j => eFrom (rowsE n st tl wt) j = src st n i) (fun j hj => by rw [rowsE_from j (by omega)])]
/-- Numbered anew and back again: the graph. -/
theorem ren_back (hg : Good n st tl wt) (hP : ∀ v, v < n → P v < n) (hQ : ∀ v, v < n → Q v < n) (hQP : ∀ v, v < n → Q (P v) = v) (hs : Summed n tl.length (rF P n st) n st') (hl : Laying n tl.length (rF P n st) (rT P tl) (fun e => at_ wt e) tl.length nx tl' wt')
    (hs2 : Summed n tl'.length (rF Q n st') n st2) (hl2 : Laying n tl'.length (rF Q n st') (rT Q tl') (fun e => at_ wt' e) tl'.length nx2 tl2 wt2) : st2 = st ∧ tl2 = tl := by
  obtain ⟨hgd, hE⟩ := ren_edge hg hP hs hl
  have hm : tl'.length = tl.length := hl.tlen
  rw [hm] at hs2 hl2
  obtain ⟨f, hf⟩ : ∃ f, f = place (rF P n st) tl.length := ⟨_, rfl⟩
  rw [← hf] at hE
  have f1 : ∀ i, i < tl.length → f i < tl.length := fun i hi => by rw [hf]; exact place_lt hi
  have f2 : ∀ i j, i < tl.length → j < tl.length → f i = f j → i = j := fun i j hi hj hij => by
    rw [hf] at hij
    rcases Nat.lt_trichotomy i j with h1 | h1 | h1
    · exact absurd hij (place_inj hj h1)
    · exact h1
    · exact absurd hij.symm (place_inj hi h1)
  have hF : ∀ i, i < tl.length → rF Q n st' (f i) = src st n i := fun i hi => by
    show Q (src st' n (f i)) = _
    rw [(hE i hi).2.1, hQP _ (src_lt hg hi)]
  have hB : ∀ v, begins (rF Q n st') tl.length v = begins (src st n) tl.length v := fun v => by
    unfold begins
    rw [cnt_bij f1 f2]
    exact cnt_congr fun i hi => by rw [hF i hi]
  have hO : ∀ i, i < tl.length → outs (rF Q n st') (src st n i) (f i) = outs (src st n) (src st n i) i := fun i hi => by
    unfold outs
    rw [cnt_cut (m := tl.length) (Nat.le_of_lt (f1 i hi)), cnt_cut (m := tl.length) (Nat.le_of_lt hi), cnt_bij f1 f2]
    refine cnt_congr fun j hj => ?_
    rw [hF j hj]
    constructor
    · rintro ⟨h1, h2⟩
      refine ⟨?_, h2⟩
      rcases Nat.lt_or_ge j i with h3 | h3
      · exact h3
      · exfalso
        have e : rF P n st j = rF P n st i := by unfold rF; rw [h2]
        rw [hf] at h1
        unfold place at h1
        rw [e] at h1
        have : outs (rF P n st) (rF P n st i) i ≤ outs (rF P n st) (rF P n st i) j := cnt_grow h3
        omega
    · rintro ⟨h1, h2⟩
      refine ⟨?_, h2⟩
      have e : rF P n st j = rF P n st i := by unfold rF; rw [h2]
      rw [hf]
      unfold place
      rw [e]
      have : outs (rF P n st) (rF P n st i) j < outs (rF P n st) (rF P n st i) i := by
        unfold outs
        exact cnt_lt h1 e
      omega
  have hpl : ∀ i, i < tl.length → place (rF Q n st') tl.length (f i) = i := fun i hi => by
    have h1 : place (rF Q n st') tl.length (f i) = place (src st n) tl.length i := by
      unfold place
      rw [hF i hi, hB, hO i hi]
    rw [h1, src_place hg i hi]
  have ext_at : ∀ (a b : List Int), a.length = b.length → (∀ i, i < a.length → at_ a i = at_ b i) → a = b := by
    intro a b h1 h2
    apply List.ext_getElem h1
    intro i h3 h4
    have := h2 i h3
    simpa [at_, h3, h4] using this
  refine ⟨ext_at _ _ (by rw [hs2.1, hg.s_len]) (fun i hi => ?_), ext_at _ _ hl2.tlen (fun i hi => ?_)⟩
  · rw [hs2.1] at hi
    rw [hs2.2.1 i (by omega), hB, src_begins hg i (by omega)]
  · rw [hl2.tlen] at hi
    have h1 := hl2.tla (f i) (f1 i hi)
    rw [hpl i hi] at h1
    rw [h1]
    show ((Q (tov tl' (f i)) : Nat) : Int) = _
    rw [(hE i hi).2.2, hQP _ (tov_lt' hg hi).1]
    exact (tov_lt' hg hi).2.symm
end
end Go.Proofs.Ytmagigmcbegmiaa

/- GraphRelabels, plainly: what is reached, anew numbered and turned; how many edges. -/
namespace Go.Proofs.Ytmagigmcbegmiaa
open Go.RowKit Go.Lib
set_option linter.unusedVariables false
set_option linter.unusedSimpArgs false
section
variable {n : Nat} {st tl wt st' tl' wt' nx : List Int} {P Q : Nat → Nat}
theorem rch_one {v : Nat} : Rch n st tl [(v : Int)] v := Rch.start 0 v (by simp) rfl
theorem rch_trans {a b c : Nat} (h1 : Rch n st tl [(a : Int)] b) (h2 : Rch n st tl [(b : Int)] c) : Rch n st tl [(a : Int)] c := by
  induction h2 with
  | start i v hi hv =>
    have : i = 0 := by simp at hi; omega
    subst this
    have e : ((b : Nat) : Int) = (v : Int) := hv
    have : b = v := by omega
    rw [← this]; exact h1
  | edge e he h ih => exact Rch.edge e he ih
/-- Each edge of the one is an edge of the other, the vertices by another name. -/
theorem rch_map {f : Nat → Nat} {a u : Nat} (hE : ∀ i, i < tl.length → ∃ e, e < tl'.length ∧ src st' n e = f (src st n i) ∧ tov tl' e = f (tov tl i)) (h : Rch n st tl [(a : Int)] u) : Rch n st' tl' [((f a : Nat) : Int)] (f u) := by
  induction h with
  | start i v hi hv =>
    have : i = 0 := by simp at hi; omega
    subst this
    have e : ((a : Nat) : Int) = (v : Int) := hv
    have : a = v := by omega
    rw [← this]; exact rch_one
  | edge i hi h ih =>
    obtain ⟨e, e1, e2, e3⟩ := hE i hi
    rw [← e3]
    exact Rch.edge e e1 (by rw [e2]; exact ih)
/-- Each edge of the one is an edge of the other the other way round. -/
theorem rch_flip {a u : Nat} (hE : ∀ i, i < tl.length → ∃ e, e < tl'.length ∧ src st' n e = tov tl i ∧ tov tl' e = src st n i) (h : Rch n st tl [(a : Int)] u) : Rch n st' tl' [((u : Nat) : Int)] a := by
  induction h with
  | start i v hi hv =>
    have : i = 0 := by simp at hi; omega
    subst this
    have e : ((a : Nat) : Int) = (v : Int) := hv
    have : a = v := by omega
    rw [← this]; exact rch_one
  | edge i hi h ih =>
    obtain ⟨e, e1, e2, e3⟩ := hE i hi
    refine rch_trans ?_ ih
    have := Rch.edge (n := n) (st := st') (tl := tl') (fr := [((tov tl i : Nat) : Int)]) e e1 (by rw [e2]; exact rch_one)
    rw [e3] at this; exact this
theorem rch_in (hg : Good n st tl wt) {a u : Nat} (ha : a < n) (h : Rch n st tl [(a : Int)] u) : u < n := by
  cases h with
  | start i v hi hv =>
    have : i = 0 := by simp at hi; omega
    subst this
    have e : ((a : Nat) : Int) = (u : Int) := hv
    omega
  | edge i hi h => exact (tov_lt' hg hi).1
theorem place_all {F : Nat → Nat} {m e : Nat} (he : e < m) : ∃ i, i < m ∧ place F m i = e := by
  rcases Classical.em (∃ i, i < m ∧ place F m i = e) with h | h
  · exact h
  · exfalso
    have hn : ((List.range m).map (place F m)).Nodup := by
      unfold List.Nodup
      rw [List.pairwise_map]
      have := List.nodup_range (n := m)
      unfold List.Nodup at this
      refine this.imp_of_mem ?_
      intro a b ha hb hab hij
      rcases Nat.lt_trichotomy a b with h1 | h1 | h1
      · exact absurd hij (place_inj (List.mem_range.1 hb) h1)
      · exact hab h1
      · exact absurd hij.symm (place_inj (List.mem_range.1 ha) h1)
    have h3 := nodup_sub (e :: (List.range m).map (place F m)) (List.range m) (List.nodup_cons.2 ⟨fun hc => by
      obtain ⟨i, hi, hie⟩ := List.mem_map.1 hc
      exact h ⟨i, List.mem_range.1 hi, hie⟩, hn⟩) (fun y hy => by
      rcases List.mem_cons.1 hy with rfl | hy
      · exact List.mem_range.2 he
      · obtain ⟨i, hi, rfl⟩ := List.mem_map.1 hy
        exact List.mem_range.2 (place_lt (List.mem_range.1 hi)))
    rw [List.length_cons, List.length_map] at h3
    omega
theorem ren_reach (hg : Good n st tl wt) (hP : ∀ v, v < n → P v < n) (hQP : ∀ v, v < n → Q (P v) = v) (hs : Summed n tl.length (rF P n st) n st') (hl : Laying n tl.length (rF P n st) (rT P tl) (fun e => at_ wt e) tl.length nx tl' wt') {a u : Nat} (ha : a < n) (hu : u < n) : Rch n st' tl' [((P a : Nat) : Int)] (P u) ↔ Rch n st tl [(a : Int)] u := by
  obtain ⟨hgd, hE⟩ := ren_edge hg hP hs hl
  constructor
  · intro h
    have := rch_map (st := st') (tl := tl') (st' := st) (tl' := tl) (f := Q) (fun i hi => by
      rw [hl.tlen] at hi
      obtain ⟨j, hj, rfl⟩ := place_all (F := rF P n st) hi
      exact ⟨j, hj, by rw [(hE j hj).2.1, hQP _ (src_lt hg hj)], by rw [(hE j hj).2.2, hQP _ (tov_lt' hg hj).1]⟩) h
    rw [hQP _ ha, hQP _ hu] at this
    exact this
  · exact rch_map (f := P) (fun i hi => ⟨_, hE i hi⟩)
theorem turn_reach (hg : Good n st tl wt) (hs : Summed n tl.length (tov tl) n st') (hl : Laying n tl.length (tov tl) (src st n) (fun e => at_ wt e) tl.length nx tl' wt') {a u : Nat} : Rch n st' tl' [((u : Nat) : Int)] a ↔ Rch n st tl [(a : Int)] u := by
  have hF : ∀ i, i < tl.length → tov tl i < n := fun i hi => (tov_lt' hg hi).1
  have hE : ∀ i, i < tl.length → place (tov tl) tl.length i < tl'.length ∧ src st' n (place (tov tl) tl.length i) = tov tl i ∧ tov tl' (place (tov tl) tl.length i) = src st n i := fun i hi => by
    obtain ⟨h1, h2, h3, _⟩ := hl.edge hs hF hg.n_le hg.m_le hi
    refine ⟨h1, h2, ?_⟩
    show (at_ tl' _).toNat = _
    rw [h3]
    exact Int.toNat_natCast _
  constructor
  · refine rch_flip (fun i hi => ?_)
    rw [hl.tlen] at hi
    obtain ⟨j, hj, rfl⟩ := place_all (F := tov tl) hi
    exact ⟨j, hj, (hE j hj).2.2.symm, (hE j hj).2.1.symm⟩
  · exact rch_flip (fun i hi => ⟨_, hE i hi⟩)
/-- As many edges as the vertex had. -/
theorem ren_deg (hg : Good n st tl wt) (hP : ∀ v, v < n → P v < n) (hQP : ∀ v, v < n → Q (P v) = v) (hs : Summed n tl.length (rF P n st) n st') {v : Nat} (hv : v < n) : at_ st' (P v + 1) - at_ st' (P v) = at_ st (v + 1) - at_ st v := by
  have hp := hP v hv
  have h1 : at_ st' (P v + 1) = (begins (rF P n st) tl.length (P v + 1) : Nat) := hs.2.1 _ (by omega)
  have h2 : at_ st' (P v) = (begins (rF P n st) tl.length (P v) : Nat) := hs.2.1 _ (by omega)
  rw [h1, h2, ← src_begins hg (v + 1) (by omega), ← src_begins hg v (by omega), begins_succ, begins_succ]
  have : outs (rF P n st) (P v) tl.length = outs (src st n) v tl.length := cnt_congr fun i hi => by
    show P (src st n i) = P v ↔ src st n i = v
    refine ⟨fun h => ?_, fun h => by rw [h]⟩
    have h3 := hQP _ (src_lt hg hi)
    rw [h, hQP v hv] at h3
    exact h3.symm
  rw [this]
  omega
end
end Go.Proofs.Ytmagigmcbegmiaa
