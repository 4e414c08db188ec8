/- GraphTwice, plainly: what holds of the edges of the graphs that were turned, turned twice, sorted, merged. -/
import Derived.Test.YtmagigmcbegmiaaTq
namespace Go.Proofs.Ytmagigmcbegmiaa
set_option linter.unusedVariables false
set_option linter.unusedSimpArgs false
structure TwF (l A B C D : List Ed3) : Prop where
  ca : ∀ x, A.count (swp3 x) = l.count x
  cb : ∀ x, B.count x = l.count x
  cc : ∀ x, C.count x = l.count x
  cd : ∀ z ∈ l, (∀ y ∈ l, y.1 = z.1 → y.2.1 = z.2.1 → z.2.2 ≤ y.2.2) → D.count z = 1
  pb : B.Pairwise (fun p q => p.1 = q.1 → p.2.1 ≤ q.2.1)
  pc : C.Pairwise (fun p q => p.1 = q.1 → p.2.1 < q.2.1 ∨ (p.2.1 = q.2.1 ∧ p.2.2 ≤ q.2.2))
  pd : D.Pairwise (fun p q => p.1 = q.1 → p.2.1 < q.2.1)
  la : A.length = l.length
  lb : B.length = l.length
  lc : C.length = l.length
  ld : D.length ≤ l.length
theorem laid_good {n m : Nat} {st tl wt nx : List Int} {L : List Ed3} (hs : Summed n m (eFrom L) n st) (hl : Laying n m (eFrom L) (eTo L) (eWt L) m nx tl wt) (ht : Takes n L) (hm : L.length = m) : Good n st tl wt ∧ ∀ e, e < tl.length → 0 ≤ at_ wt e :=
  ⟨Laying.good hs hl (fun i hi => by have := ht.efr i (by omega); unfold eFrom; omega) ht.n_le (by have := ht.m_le; omega), fun e he => (hl.win e (by rw [← hl.tlen]; exact he)).1⟩
/-- Turned: laid of the edges turned. -/
theorem turned_laid {n m : Nat} {st tl wt st1 tl1 wt1 nx1 : List Int} (hg : Good n st tl wt) (hm : tl.length = m) (hs : Summed n m (tov tl) n st1) (hl : Laying n m (tov tl) (src st n) (fun e => at_ wt e) m nx1 tl1 wt1) :
    Summed n m (eFrom ((rowsE n st tl wt).map swp3)) n st1 ∧ Laying n m (eFrom ((rowsE n st tl wt).map swp3)) (eTo ((rowsE n st tl wt).map swp3)) (eWt ((rowsE n st tl wt).map swp3)) m nx1 tl1 wt1 := by
  subst hm
  exact ⟨hs.congr fun i hi => (turn_laid hg i hi).1, hl.congr (fun i hi => (turn_laid hg i hi).1) (fun i hi => (turn_laid hg i hi).2.1) (fun i hi => (turn_laid hg i hi).2.2)⟩
theorem tw_facts {n m k : Nat} {l : List Ed3} {st tl wt nx st1 tl1 wt1 nx1 st2 tl2 wt2 nx2 st3 tl3 wt3 nx3 st4 tl4 wt4 nx4 : List Int} (ht : Takes n l) (hm : l.length = m)
    (hs : Summed n m (eFrom l) n st) (hl : Laying n m (eFrom l) (eTo l) (eWt l) m nx tl wt)
    (hs1 : Summed n m (tov tl) n st1) (hl1 : Laying n m (tov tl) (src st n) (fun e => at_ wt e) m nx1 tl1 wt1)
    (hs2 : Summed n m (tov tl1) n st2) (hl2 : Laying n m (tov tl1) (src st1 n) (fun e => at_ wt1 e) m nx2 tl2 wt2)
    (hs3 : Summed n m (eFrom (sortE n st tl wt)) n st3) (hl3 : Laying n m (eFrom (sortE n st tl wt)) (eTo (sortE n st tl wt)) (eWt (sortE n st tl wt)) m nx3 tl3 wt3)
    (hk : (cpt (sortE n st tl wt)).length = k)
    (hs4 : Summed n k (eFrom (cpt (sortE n st tl wt))) n st4) (hl4 : Laying n k (eFrom (cpt (sortE n st tl wt))) (eTo (cpt (sortE n st tl wt))) (eWt (cpt (sortE n st tl wt))) k nx4 tl4 wt4) :
    TwF l (rowsE n st1 tl1 wt1) (rowsE n st2 tl2 wt2) (rowsE n st3 tl3 wt3) (rowsE n st4 tl4 wt4) := by
  obtain ⟨hg, hw⟩ := laid_good hs hl ht hm
  have htl := hl.tlen
  have hR := rowsE_takes hg hw
  obtain ⟨a1, a2⟩ := turned_laid hg htl hs1 hl1
  have hlen1 : ((rowsE n st tl wt).map swp3).length = m := by rw [List.length_map, rowsE_len]; exact htl
  obtain ⟨hg1, hw1⟩ := laid_good a1 a2 (swp_takes hR) hlen1
  have hR1 := rowsE_takes hg1 hw1
  have htl1 := hl1.tlen
  obtain ⟨b1, b2⟩ := turned_laid hg1 htl1 hs2 hl2
  have hlen2 : ((rowsE n st1 tl1 wt1).map swp3).length = m := by rw [List.length_map, rowsE_len]; exact htl1
  have hS := sortE_takes hg hw
  have hSl : (sortE n st tl wt).length = m := by rw [sortE_len hg]; exact htl
  have hC := cpt_takes hS sortE_lxl
  have cg : ∀ x, (rowsE n st tl wt).count x = l.count x := count_laid hs hl ht hm
  have c1 : ∀ x, (rowsE n st1 tl1 wt1).count (swp3 x) = l.count x := fun x => by rw [count_laid a1 a2 (swp_takes hR) hlen1, count_swp, cg]
  have cS : ∀ x, (sortE n st tl wt).count x = l.count x := fun x => by rw [(sortE_perm hg).count_eq, cg]
  have mS : ∀ x, x ∈ sortE n st tl wt ↔ x ∈ l := fun x => by rw [← List.count_pos_iff, cS, List.count_pos_iff]
  refine ⟨c1, fun x => ?_, fun x => ?_, fun z hz hmin => ?_, ?_, ?_, ?_, ?_, ?_, ?_, ?_⟩
  · rw [count_laid b1 b2 (swp_takes hR1) hlen2]
    have := c1 (swp3 x)
    rw [swp3_swp3] at this
    have h2 := count_swp (rowsE n st1 tl1 wt1) (swp3 x)
    rw [swp3_swp3] at h2
    have h3 := c1 x
    omega
  · rw [count_laid hs3 hl3 hS hSl, cS]
  · rw [count_laid hs4 hl4 hC hk]
    exact cpt_once sortE_lxl ((mS z).2 hz) fun y hy => hmin y ((mS y).1 hy)
  · refine by_rows fun v => ?_
    rw [fil_laid b1 b2 (swp_takes hR1) hlen2]
    have h : ((rowsE n st1 tl1 wt1).map swp3).Pairwise (fun p q => p.2.1 ≤ q.2.1) := by
      rw [List.pairwise_map]
      exact (rows_from hg1).imp fun h => h
    exact h.sublist List.filter_sublist
  · refine by_rows fun v => ?_
    rw [fil_laid hs3 hl3 hS hSl]
    have h : (fil v (sortE n st tl wt)).Pairwise lxl := sortE_lxl.sublist List.filter_sublist
    refine List.Pairwise.imp_of_mem (fun {a b} ha hb hab => ?_) h
    have e1 := (mem_fil.1 ha).2
    have e2 := (mem_fil.1 hb).2
    unfold lxl at hab
    omega
  · refine by_rows fun v => ?_
    rw [fil_laid hs4 hl4 hC hk]
    have h : (fil v (cpt (sortE n st tl wt))).Pairwise lxs := (cpt_facts _ sortE_lxl).2.1.sublist List.filter_sublist
    refine List.Pairwise.imp_of_mem (fun {a b} ha hb hab => ?_) h
    have e1 := (mem_fil.1 ha).2
    have e2 := (mem_fil.1 hb).2
    unfold lxs at hab
    omega
  · rw [rowsE_len, hl1.tlen, hm]
  · rw [rowsE_len, hl2.tlen, hm]
  · rw [rowsE_len, hl3.tlen, hm]
  · rw [rowsE_len, hl4.tlen, ← hk, hm]
    have := cpt_len_le (sortE n st tl wt)
    omega
end Go.Proofs.Ytmagigmcbegmiaa
