/- GraphRelabels, plainly: what is reached, anew numbered and turned; how many edges. -/
import Derived.Test.YtmagigmcbegmiaaRb
namespace Go.Proofs.Ytmagigmcbegmiaa
open Go.RowKit Go.Lib
set_option linter.unusedVariables false
set_option linter.unusedSimpArgs false
section
variable {n : Nat} {st tl wt st' tl' wt' nx : List Int} {P Q : Nat → Nat}
theorem rch_one {v : Nat} : Rch n st tl [(v : Int)] v := Rch.start 0 v (by simp) rfl
theorem rch_trans {a b c : Nat} (h1 : Rch n st tl [(a : Int)] b) (h2 : Rch n st tl [(b : Int)] c) : Rch n st tl [(a : Int)] c := by
  induction h2 with
  | start i v hi hv =>
    have : i = 0 := by simp at hi; omega
    subst this
    have e : ((b : Nat) : Int) = (v : Int) := hv
    have : b = v := by omega
    rw [← this]; exact h1
  | edge e he h ih => exact Rch.edge e he ih
/-- Each edge of the one is an edge of the other, the vertices by another name. -/
theorem rch_map {f : Nat → Nat} {a u : Nat} (hE : ∀ i, i < tl.length → ∃ e, e < tl'.length ∧ src st' n e = f (src st n i) ∧ tov tl' e = f (tov tl i)) (h : Rch n st tl [(a : Int)] u) : Rch n st' tl' [((f a : Nat) : Int)] (f u) := by
  induction h with
  | start i v hi hv =>
    have : i = 0 := by simp at hi; omega
    subst this
    have e : ((a : Nat) : Int) = (v : Int) := hv
    have : a = v := by omega
    rw [← this]; exact rch_one
  | edge i hi h ih =>
    obtain ⟨e, e1, e2, e3⟩ := hE i hi
    rw [← e3]
    exact Rch.edge e e1 (by rw [e2]; exact ih)
/-- Each edge of the one is an edge of the other the other way round. -/
theorem rch_flip {a u : Nat} (hE : ∀ i, i < tl.length → ∃ e, e < tl'.length ∧ src st' n e = tov tl i ∧ tov tl' e = src st n i) (h : Rch n st tl [(a : Int)] u) : Rch n st' tl' [((u : Nat) : Int)] a := by
  induction h with
  | start i v hi hv =>
    have : i = 0 := by simp at hi; omega
    subst this
    have e : ((a : Nat) : Int) = (v : Int) := hv
    have : a = v := by omega
    rw [← this]; exact rch_one
  | edge i hi h ih =>
    obtain ⟨e, e1, e2, e3⟩ := hE i hi
    refine rch_trans ?_ ih
    have := Rch.edge (n := n) (st := st') (tl := tl') (fr := [((tov tl i : Nat) : Int)]) e e1 (by rw [e2]; exact rch_one)
    rw [e3] at this; exact this
theorem rch_in (hg : Good n st tl wt) {a u : Nat} (ha : a < n) (h : Rch n st tl [(a : Int)] u) : u < n := by
  cases h with
  | start i v hi hv =>
    have : i = 0 := by simp at hi; omega
    subst this
    have e : ((a : Nat) : Int) = (u : Int) := hv
    omega
  | edge i hi h => exact (tov_lt' hg hi).1
theorem place_all {F : Nat → Nat} {m e : Nat} (he : e < m) : ∃ i, i < m ∧ place F m i = e := by
  rcases Classical.em (∃ i, i < m ∧ place F m i = e) with h | h
  · exact h
  · exfalso
    have hn : ((List.range m).map (place F m)).Nodup := by
      unfold List.Nodup
      rw [List.pairwise_map]
      have := List.nodup_range (n := m)
      unfold List.Nodup at this
      refine this.imp_of_mem ?_
      intro a b ha hb hab hij
      rcases Nat.lt_trichotomy a b with h1 | h1 | h1
      · exact absurd hij (place_inj (List.mem_range.1 hb) h1)
      · exact hab h1
      · exact absurd hij.symm (place_inj (List.mem_range.1 ha) h1)
    have h3 := nodup_sub (e :: (List.range m).map (place F m)) (List.range m) (List.nodup_cons.2 ⟨fun hc => by
      obtain ⟨i, hi, hie⟩ := List.mem_map.1 hc
      exact h ⟨i, List.mem_range.1 hi, hie⟩, hn⟩) (fun y hy => by
      rcases List.mem_cons.1 hy with rfl | hy
      · exact List.mem_range.2 he
      · obtain ⟨i, hi, rfl⟩ := List.mem_map.1 hy
        exact List.mem_range.2 (place_lt (List.mem_range.1 hi)))
    rw [List.length_cons, List.length_map] at h3
    omega
theorem ren_reach (hg : Good n st tl wt) (hP : ∀ v, v < n → P v < n) (hQP : ∀ v, v < n → Q (P v) = v) (hs : Summed n tl.length (rF P n st) n st') (hl : Laying n tl.length (rF P n st) (rT P tl) (fun e => at_ wt e) tl.length nx tl' wt') {a u : Nat} (ha : a < n) (hu : u < n) : Rch n st' tl' [((P a : Nat) : Int)] (P u) ↔ Rch n st tl [(a : Int)] u := by
  obtain ⟨hgd, hE⟩ := ren_edge hg hP hs hl
  constructor
  · intro h
    have := rch_map (st := st') (tl := tl') (st' := st) (tl' := tl) (f := Q) (fun i hi => by
      rw [hl.tlen] at hi
      obtain ⟨j, hj, rfl⟩ := place_all (F := rF P n st) hi
      exact ⟨j, hj, by rw [(hE j hj).2.1, hQP _ (src_lt hg hj)], by rw [(hE j hj).2.2, hQP _ (tov_lt' hg hj).1]⟩) h
    rw [hQP _ ha, hQP _ hu] at this
    exact this
  · exact rch_map (f := P) (fun i hi => ⟨_, hE i hi⟩)
theorem turn_reach (hg : Good n st tl wt) (hs : Summed n tl.length (tov tl) n st') (hl : Laying n tl.length (tov tl) (src st n) (fun e => at_ wt e) tl.length nx tl' wt') {a u : Nat} : Rch n st' tl' [((u : Nat) : Int)] a ↔ Rch n st tl [(a : Int)] u := by
  have hF : ∀ i, i < tl.length → tov tl i < n := fun i hi => (tov_lt' hg hi).1
  have hE : ∀ i, i < tl.length → place (tov tl) tl.length i < tl'.length ∧ src st' n (place (tov tl) tl.length i) = tov tl i ∧ tov tl' (place (tov tl) tl.length i) = src st n i := fun i hi => by
    obtain ⟨h1, h2, h3, _⟩ := hl.edge hs hF hg.n_le hg.m_le hi
    refine ⟨h1, h2, ?_⟩
    show (at_ tl' _).toNat = _
    rw [h3]
    exact Int.toNat_natCast _
  constructor
  · refine rch_flip (fun i hi => ?_)
    rw [hl.tlen] at hi
    obtain ⟨j, hj, rfl⟩ := place_all (F := tov tl) hi
    exact ⟨j, hj, (hE j hj).2.2.symm, (hE j hj).2.1.symm⟩
  · exact rch_flip (fun i hi => ⟨_, hE i hi⟩)
/-- As many edges as the vertex had. -/
theorem ren_deg (hg : Good n st tl wt) (hP : ∀ v, v < n → P v < n) (hQP : ∀ v, v < n → Q (P v) = v) (hs : Summed n tl.length (rF P n st) n st') {v : Nat} (hv : v < n) : at_ st' (P v + 1) - at_ st' (P v) = at_ st (v + 1) - at_ st v := by
  have hp := hP v hv
  have h1 : at_ st' (P v + 1) = (begins (rF P n st) tl.length (P v + 1) : Nat) := hs.2.1 _ (by omega)
  have h2 : at_ st' (P v) = (begins (rF P n st) tl.length (P v) : Nat) := hs.2.1 _ (by omega)
  rw [h1, h2, ← src_begins hg (v + 1) (by omega), ← src_begins hg v (by omega), begins_succ, begins_succ]
  have : outs (rF P n st) (P v) tl.length = outs (src st n) v tl.length := cnt_congr fun i hi => by
    show P (src st n i) = P v ↔ src st n i = v
    refine ⟨fun h => ?_, fun h => by rw [h]⟩
    have h3 := hQP _ (src_lt hg hi)
    rw [h, hQP v hv] at h3
    exact h3.symm
  rw [this]
  omega
end
end Go.Proofs.Ytmagigmcbegmiaa
