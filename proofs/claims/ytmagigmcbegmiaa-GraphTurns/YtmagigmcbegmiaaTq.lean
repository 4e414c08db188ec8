/- Plain: the rows of a graph one behind the other; what is laid of a list has its edges; sorted rows. -/
import Derived.Test.YtmagigmcbegmiaaGKp
import Derived.Test.YtmagigmcbegmiaaGT2
namespace Go.Proofs.Ytmagigmcbegmiaa
set_option linter.unusedVariables false
set_option linter.unusedSimpArgs false
section
variable {n m : Nat} {st tl wt nx : List Int} {L : List Ed3}
theorem upto_add {α : Type} (f : Nat → α) (a b : Nat) : upto f (a + b) = upto f a ++ upto (fun r => f (a + r)) b := by
  unfold upto
  rw [List.range_add, List.map_append, List.map_map]
  rfl
/-- A row: where to, how heavy. -/
def rowP (st tl wt : List Int) (v : Nat) : List Pq := upto (rowAt tl wt (at_ st v).toNat) (at_ st (v + 1) - at_ st v).toNat
def rowR (st tl wt : List Int) (v : Nat) : List Ed3 := (rowP st tl wt v).map (mkE (v : Int))
def sRow (st tl wt : List Int) (v : Nat) : List Ed3 := (psrt (rowP st tl wt v)).map (mkE (v : Int))
theorem rowP_len (v : Nat) : (rowP st tl wt v).length = (at_ st (v + 1) - at_ st v).toNat := upto_len _ _
theorem rowR_len (v : Nat) : (rowR st tl wt v).length = (at_ st (v + 1) - at_ st v).toNat := by unfold rowR; rw [List.length_map, rowP_len]
theorem sRow_len (v : Nat) : (sRow st tl wt v).length = (at_ st (v + 1) - at_ st v).toNat := by unfold sRow; rw [List.length_map, psrt_length, rowP_len]
theorem fl_len (hg : Good n st tl wt) (f : Nat → List Ed3) (hf : ∀ u, (f u).length = (at_ st (u + 1) - at_ st u).toNat) (k : Nat) (hk : k ≤ n) : ((fl f k).length : Int) = at_ st k := by
  induction k with
  | zero => rw [fl_zero, hg.zero]; rfl
  | succ k ih =>
    rw [fl_succ, List.length_append, hf]
    have := ih (by omega)
    have h2 := hg.mono k (k + 1) (by omega) hk
    omega
theorem rows_fl (hg : Good n st tl wt) : rowsE n st tl wt = fl (rowR st tl wt) n := by
  have key : ∀ k, k ≤ n → fl (rowR st tl wt) k = upto (edgeAt n st tl wt) (at_ st k).toNat := by
    intro k
    induction k with
    | zero => intro _; rw [fl_zero, hg.zero]; rfl
    | succ k ih =>
      intro hk
      have h1 := hg.mono k (k + 1) (by omega) hk
      have h0 := hg.range k (by omega)
      rw [fl_succ, ih (by omega), show (at_ st (k + 1)).toNat = (at_ st k).toNat + (at_ st (k + 1) - at_ st k).toNat by omega, upto_add]
      congr 1
      unfold rowR rowP upto
      rw [List.map_map]
      refine List.map_congr_left fun r hr => ?_
      have hr' := List.mem_range.1 hr
      show mkE k (rowAt tl wt _ r) = edgeAt n st tl wt _
      unfold mkE rowAt edgeAt
      rw [src_eq hg (v := k) (p := (at_ st k).toNat + r) (by omega) (by omega) (by omega)]
  have := key n (Nat.le_refl _)
  rw [this, hg.last]
  rfl
theorem rowR_from (v : Nat) : ∀ e ∈ rowR st tl wt v, e.1 = (v : Int) := fun e he => mkE_from he
theorem sRow_from (v : Nat) : ∀ e ∈ sRow st tl wt v, e.1 = (v : Int) := fun e he => mkE_from he
/-- All rows sorted. -/
def sortE (n : Nat) (st tl wt : List Int) : List Ed3 := fl (sRow st tl wt) n
/-- The first k rows sorted. -/
def gk (st tl wt : List Int) (k v : Nat) : List Ed3 := if v < k then sRow st tl wt v else rowR st tl wt v
def sL (n : Nat) (st tl wt : List Int) (k : Nat) : List Ed3 := fl (gk st tl wt k) n
theorem gk_len (k v : Nat) : (gk st tl wt k v).length = (at_ st (v + 1) - at_ st v).toNat := by
  unfold gk
  split
  · exact sRow_len v
  · exact rowR_len v
theorem sL_zero (hg : Good n st tl wt) : sL n st tl wt 0 = rowsE n st tl wt := by
  rw [rows_fl hg]
  exact fl_congr fun u _ => by unfold gk; rw [if_neg (by omega)]
theorem sL_all : sL n st tl wt n = sortE n st tl wt := fl_congr fun u hu => by unfold gk; rw [if_pos hu]
theorem sL_len (hg : Good n st tl wt) (k : Nat) : (sL n st tl wt k).length = tl.length := by
  have := fl_len hg (gk st tl wt k) (gk_len k) n (Nat.le_refl _)
  rw [hg.last] at this
  unfold sL
  omega
theorem sortE_len (hg : Good n st tl wt) : (sortE n st tl wt).length = tl.length := by rw [← sL_all]; exact sL_len hg n
theorem sL_split (hg : Good n st tl wt) (v : Nat) (hv : v < n) : ∃ A C, sL n st tl wt v = A ++ rowR st tl wt v ++ C ∧ sL n st tl wt (v + 1) = A ++ sRow st tl wt v ++ C ∧ (A.length : Int) = at_ st v := by
  refine ⟨fl (gk st tl wt v) v, beh (gk st tl wt v) v (n - v - 1), ?_, ?_, fl_len hg _ (gk_len v) v (by omega)⟩
  · unfold sL
    have e : n = v + 1 + (n - v - 1) := by omega
    conv => lhs; rw [e]
    rw [fl_split]
    congr 2
    unfold gk; rw [if_neg (by omega)]
  · unfold sL
    have e : n = v + 1 + (n - v - 1) := by omega
    conv => lhs; rw [e]
    rw [fl_split, fl_congr (g := gk st tl wt v) (k := v) (fun u hu => by unfold gk; rw [if_pos (by omega), if_pos hu]), beh_congr (g := gk st tl wt v) (v := v) (fun u hu => by unfold gk; rw [if_neg (by omega), if_neg (by omega)])]
    congr 2
    unfold gk; rw [if_pos (by omega)]
theorem fl_perm {f g : Nat → List Ed3} (h : ∀ u, (f u).Perm (g u)) (k : Nat) : (fl f k).Perm (fl g k) := by
  induction k with
  | zero => exact List.Perm.refl _
  | succ k ih => rw [fl_succ, fl_succ]; exact ih.append (h k)
theorem sortE_perm (hg : Good n st tl wt) : (sortE n st tl wt).Perm (rowsE n st tl wt) := by
  rw [rows_fl hg]
  exact fl_perm (fun u => (psrt_perm _).map _) n
theorem sortE_lxl : (sortE n st tl wt).Pairwise lxl := fl_lxl sRow_from (fun u => mkE_lxl _ (psrt_pair _)) n
theorem rows_from (hg : Good n st tl wt) : (rowsE n st tl wt).Pairwise (fun p q => p.1 ≤ q.1) := by
  rw [rows_fl hg]
  generalize hk : n = k
  clear hk hg
  induction k with
  | zero => exact List.Pairwise.nil
  | succ k ih =>
    rw [fl_succ, List.pairwise_append]
    refine ⟨ih, List.pairwise_of_forall_mem_list fun a ha b hb => ?_, fun a ha b hb => ?_⟩
    · rw [rowR_from k a ha, rowR_from k b hb]; exact Int.le_refl _
    · obtain ⟨u, hu, hau⟩ := List.mem_flatMap.1 ha
      have := List.mem_range.1 hu
      rw [rowR_from u a hau, rowR_from k b hb]; omega
/-- What Build takes, by members. -/
theorem eAt_mem {l : List Ed3} {i : Nat} (h : i < l.length) : eAt l i ∈ l := by
  have : eAt l i = l[i] := by simp [eAt, h]
  rw [this]; exact List.getElem_mem h
theorem mem_eAt {l : List Ed3} {e : Ed3} (h : e ∈ l) : ∃ i, i < l.length ∧ eAt l i = e := by
  obtain ⟨i, hi, rfl⟩ := List.getElem_of_mem h
  exact ⟨i, hi, by simp [eAt, hi]⟩
theorem takes_mem (h : Takes n L) : ∀ e ∈ L, (0 ≤ e.1 ∧ e.1 < n) ∧ (0 ≤ e.2.1 ∧ e.2.1 < n) ∧ 0 ≤ e.2.2 ∧ e.2.2 ≤ 4294967295 := by
  intro e he
  obtain ⟨i, hi, rfl⟩ := mem_eAt he
  exact ⟨h.efr i hi, h.eto i hi, h.ewt i hi⟩
theorem takes_of (hn : n ≤ 1048576) (hm : L.length ≤ 4194304) (h : ∀ e ∈ L, (0 ≤ e.1 ∧ e.1 < n) ∧ (0 ≤ e.2.1 ∧ e.2.1 < n) ∧ 0 ≤ e.2.2 ∧ e.2.2 ≤ 4294967295) : Takes n L :=
  ⟨hn, hm, fun i hi => (h _ (eAt_mem hi)).1, fun i hi => (h _ (eAt_mem hi)).2.1, fun i hi => (h _ (eAt_mem hi)).2.2⟩
theorem sortE_takes (hg : Good n st tl wt) (hw : ∀ e, e < tl.length → 0 ≤ at_ wt e) : Takes n (sortE n st tl wt) :=
  takes_of hg.n_le (by rw [sortE_len hg]; exact hg.m_le) fun e he => takes_mem (rowsE_takes hg hw) e ((sortE_perm hg).mem_iff.1 he)
theorem cpt_takes (h : Takes n L) (hl : L.Pairwise lxl) : Takes n (cpt L) :=
  takes_of h.n_le (Nat.le_trans (cpt_len_le L) h.m_le) fun e he => takes_mem h e ((cpt_facts L hl).1 e he)
theorem swp_takes (h : Takes n L) : Takes n (L.map swp3) :=
  takes_of h.n_le (by rw [List.length_map]; exact h.m_le) fun e he => by
    obtain ⟨a, ha, rfl⟩ := List.mem_map.1 he
    have := takes_mem h a ha
    exact ⟨this.2.1, this.1, this.2.2⟩
/-- A graph is laid of its own edges. -/
theorem rows_laid (hg : Good n st tl wt) (hw : ∀ e, e < tl.length → 0 ≤ at_ wt e) : Summed n tl.length (eFrom (rowsE n st tl wt)) n st ∧ ∃ nx, Laying n tl.length (eFrom (rowsE n st tl wt)) (eTo (rowsE n st tl wt)) (eWt (rowsE n st tl wt)) tl.length nx tl wt := by
  have ht := rowsE_takes hg hw
  refine ⟨⟨hg.s_len, fun u hu => (rowsE_begins hg u hu).symm, fun u h1 h2 => by omega⟩, tab (n + 1) (fun v => ((begins (eFrom (rowsE n st tl wt)) tl.length v + outs (eFrom (rowsE n st tl wt)) v tl.length : Nat) : Int)), ?_⟩
  refine ⟨tab_length _ _, fun v hv => tab_at _ _ _ (by omega), rfl, hg.w_len, fun j hj => ?_, fun j hj => ?_, fun e he => ?_, fun e he => ?_⟩
  · rw [rowsE_place hg j hj]
    have := ht.eto j (by rw [rowsE_len]; exact hj)
    unfold eTo
    rw [rowsE_at n st tl wt j hj] at this ⊢
    have h0 : 0 ≤ at_ tl j := this.1
    show at_ tl j = ((at_ tl j).toNat : Int)
    omega
  · rw [rowsE_place hg j hj]
    unfold eWt
    rw [rowsE_at n st tl wt j hj]; rfl
  · have := hg.vtx e he; omega
  · have := hg.vtx e he
    exact ⟨hw e he, this.2.2⟩
theorem fil_out (ht : Takes n L) {v : Int} (h : v < 0 ∨ (n : Int) ≤ v) : fil v L = [] := fil_nil_of fun e he => by
  have := takes_mem ht e he
  omega
/-- What is laid of a list has, from each vertex, its edges in their order. -/
theorem fil_laid (hs : Summed n m (eFrom L) n st) (hl : Laying n m (eFrom L) (eTo L) (eWt L) m nx tl wt) (ht : Takes n L) (hm : L.length = m) (v : Int) : fil v (rowsE n st tl wt) = fil v L := by
  have hg : Good n st tl wt := Laying.good hs hl (fun i hi => by have := ht.efr i (by omega); unfold eFrom; omega) ht.n_le (by have := ht.m_le; omega)
  have hw : ∀ e, e < tl.length → 0 ≤ at_ wt e := fun e he => (hl.win e (by rw [← hl.tlen]; exact he)).1
  by_cases hv : 0 ≤ v ∧ v < n
  · obtain ⟨u, rfl⟩ : ∃ u : Nat, v = (u : Int) := ⟨v.toNat, by omega⟩
    obtain ⟨h1, nx2, h2⟩ := rows_laid hg hw
    rw [fil_row hs hl ht hm u (by omega), fil_row h1 h2 (rowsE_takes hg hw) (rowsE_len n st tl wt) u (by omega)]
  · rw [fil_out ht (by omega), fil_out (rowsE_takes hg hw) (by omega)]
theorem count_laid (hs : Summed n m (eFrom L) n st) (hl : Laying n m (eFrom L) (eTo L) (eWt L) m nx tl wt) (ht : Takes n L) (hm : L.length = m) (x : Ed3) : (rowsE n st tl wt).count x = L.count x := by
  rw [count_fil, fil_laid hs hl ht hm, ← count_fil]
theorem begins_congr {F G : Nat → Nat} (h : ∀ i, i < m → F i = G i) (v : Nat) : begins F m v = begins G m v := cnt_congr fun i hi => by rw [h i hi]
theorem outs_congr {F G : Nat → Nat} {k : Nat} (h : ∀ i, i < k → F i = G i) (v : Nat) : outs F v k = outs G v k := cnt_congr fun i hi => by rw [h i hi]
theorem Summed.congr {F G : Nat → Nat} {k : Nat} (hs : Summed n m F k st) (h : ∀ i, i < m → F i = G i) : Summed n m G k st :=
  ⟨hs.1, fun u hu => by rw [hs.2.1 u hu, begins_congr h], fun u h1 h2 => by rw [hs.2.2 u h1 h2, outs_congr h]⟩
theorem place_congr {F G : Nat → Nat} (h : ∀ i, i < m → F i = G i) (i : Nat) (hi : i < m) : place F m i = place G m i := by
  unfold place
  rw [h i hi, begins_congr h, outs_congr (fun j hj => h j (by omega))]
theorem Laying.congr {F G T U : Nat → Nat} {V W : Nat → Int} (hl : Laying n m F T V m nx tl wt) (h : ∀ i, i < m → F i = G i) (h2 : ∀ i, i < m → T i = U i) (h3 : ∀ i, i < m → V i = W i) : Laying n m G U W m nx tl wt :=
  ⟨hl.nlen, fun v hv => by rw [hl.nxa v hv, begins_congr h, outs_congr h], hl.tlen, hl.wlen, fun j hj => by rw [← place_congr h j hj, hl.tla j hj, h2 j hj], fun j hj => by rw [← place_congr h j hj, hl.wta j hj, h3 j hj], hl.tin, hl.win⟩
/-- Turned round is laid of the edges turned. -/
theorem turn_laid (hg : Good n st tl wt) (i : Nat) (hi : i < tl.length) : tov tl i = eFrom ((rowsE n st tl wt).map swp3) i ∧ src st n i = eTo ((rowsE n st tl wt).map swp3) i ∧ at_ wt i = eWt ((rowsE n st tl wt).map swp3) i := by
  have e : eAt ((rowsE n st tl wt).map swp3) i = swp3 (edgeAt n st tl wt i) := by
    rw [← rowsE_at n st tl wt i hi]
    simp [eAt, rowsE_len, hi]
  unfold eFrom eTo eWt tov
  rw [e]
  exact ⟨rfl, by simp [swp3, edgeAt], rfl⟩
end
end Go.Proofs.Ytmagigmcbegmiaa
