/- GraphTwice: the law. -/
import Derived.Test.YtmagigmcbegmiaaTy
import Derived.Test.YtmagigmcbegmiaaTf
import Derived.Test.YtmagigmcbegmiaaTt
import Derived.Test.YtmagigmcbegmiaaGV
import Derived.Deep.Cut
import Derived.Deep.CutRange
import Derived.BigRegion
import Derived.BigQuiet
namespace Go.Proofs.Ytmagigmcbegmiaa
open Go.RowKit Go.Lib Go.Shelf
set_option linter.unusedVariables false
set_option linter.unusedSimpArgs false
theorem box_new {w V : World} {cs : Array Value} {t : TypeId} (h : V = w.alloc (.cells cs t)) : Below w.heap.size w V ∧ V.heap[w.heap.size]? = some (.cells cs t (0, 0)) := by
  rw [h]; exact ⟨below_alloc (Below.refl _ _) _, heap_new _ _⟩
theorem box_cell {W x : World} {A : Nat} {t : TypeId} {p : Array Value} (hA : W.heap[A]? = some (.cells p t (0, 0))) (h : Below W.heap.size W x) {j : Nat} {u : Value} (hu : p[j]? = some u) : x.cell? ⟨A, j, none⟩ = some u := cell_of ((h.block A (lt_of_heap hA)).trans hA) hu
theorem lay_nonneg {n m i : Nat} {F T : Nat → Nat} {V : Nat → Int} {nx tl wt : List Int} (h : Laying n m F T V i nx tl wt) : ∀ e, 0 ≤ at_ wt e := fun e => by
  rcases Nat.lt_or_ge e m with h1 | h1
  · exact (h.win e h1).1
  · unfold at_; rw [List.getElem?_eq_none (by rw [h.wlen]; exact h1)]; simp
theorem turn_gd {n : Nat} {st tl wt st1 tl1 wt1 nx1 : List Int} (hg : Good n st tl wt) (hs : Summed n tl.length (tov tl) n st1) (hl : Laying n tl.length (tov tl) (src st n) (fun e => at_ wt e) tl.length nx1 tl1 wt1) : Good n st1 tl1 wt1 :=
  Laying.good hs hl (fun i hi => (tov_lt' hg hi).1) hg.n_le hg.m_le
/-- The lightest so far from x0 to x1. -/
structure LG (l : List Ed3) (x0 x1 : Int) (j : Nat) (y : Int) : Prop where
  mem : (x0, x1, y) ∈ l
  low : ∀ i, i < j → (eAt l i).1 = x0 → (eAt l i).2.1 = x1 → y ≤ (eAt l i).2.2
theorem LG.skip {l : List Ed3} {x0 x1 y e0 e1 e2 : Int} {j : Nat} (h : LG l x0 x1 j y) (he : eAt l j = (e0, e1, e2)) (hn : e0 = x0 → e1 = x1 → ¬ e2 < y) : LG l x0 x1 (j + 1) y :=
  ⟨h.mem, fun i hi h0 h1 => by
    by_cases e : i = j
    · subst e
      rw [he] at h0 h1 ⊢
      have := hn h0 h1
      show y ≤ e2
      omega
    · exact h.low i (by omega) h0 h1⟩
theorem LG.take {l : List Ed3} {x0 x1 y e2 : Int} {j : Nat} (h : LG l x0 x1 j y) (hj : j < l.length) (he : eAt l j = (x0, x1, e2)) (hn : e2 < y) : LG l x0 x1 (j + 1) e2 :=
  ⟨by rw [← he]; exact eAt_mem hj, fun i hi h0 h1 => by
    by_cases e : i = j
    · subst e
      rw [he]; exact Int.le_refl _
    · have := h.low i (by omega) h0 h1
      omega⟩
theorem LG.done {l : List Ed3} {x0 x1 y : Int} {j : Nat} (h : LG l x0 x1 j y) (hj : l.length ≤ j) : ∀ u ∈ l, u.1 = x0 → u.2.1 = x1 → y ≤ u.2.2 := fun u hu h0 h1 => by
  obtain ⟨i, hi, rfl⟩ := mem_eAt hu
  exact h.low i (by omega) h0 h1
theorem pair_at {l : List Ed3} {R : Ed3 → Ed3 → Prop} (h : l.Pairwise R) {i j : Nat} (hij : i < j) (hj : j < l.length) : R (eAt l i) (eAt l j) := by
  have e1 : eAt l i = l[i] := by simp [eAt, show i < l.length by omega]
  have e2 : eAt l j = l[j] := by simp [eAt, hj]
  rw [e1, e2]
  exact (List.pairwise_iff_getElem.1 h) i j (by omega) hj hij
theorem lg_put {X : World} {bl : Nat} {a b c a' b' c' : Value} (h : X.heap[bl]? = some (.cells #[a, b, c] 50 (0, 0))) : (((X.setCell ⟨bl, 0, none⟩ a').setCell ⟨bl, 1, none⟩ b').setCell ⟨bl, 2, none⟩ c').heap[bl]? = some (.cells #[a', b', c'] 50 (0, 0)) := by rw [heap_set (heap_set (heap_set h _) _) _]; rfl
set_option maxRecDepth 100000 in
set_option maxHeartbeats 16000000 in
theorem twice_law (nI : Int) (v : Value) (es : List Ed3) (w : World) (hE : EAt w v es) (hnn : ∀ i, i < es.length → 0 ≤ (eAt es i).2.2) :
    Calls Try.prog 10 #[.int .i64 nI, v] w fun e w' => e = .returned (.bool true) ∧ Below w.heap.size w w' := by
  obtain ⟨n, hn1, hn2, hbu⟩ := built_any nI v es w hE hnn
  obtain ⟨va0, vc0, rfl, _⟩ := id hE
  have HBU := hide hbu
  obtain ⟨m, hm⟩ : ∃ m, m = min es.length 300 := ⟨_, rfl⟩
  rw [← hm] at HBU
  have hm3 : m ≤ 300 := by omega
  have HTK := hide (prL_takes es m hn1 hn2 hm3 (fun i hi => hnn i (by omega)))
  have HLL := hide (prL_len n es m)
  have HLV := hide (fun X => live_any X)
  clear hE hnn hbu hm
  go_enter Try.func10, Try.ntmps10
  go_wp2_with fail
  refine HBU.out.mono ?_
  rintro e w1 ⟨ao0, ca0, bo0, cb0, co0, cc0, lo, lc, st0, tl0, wt0, nx0, rfl, hgm, hel, hb1⟩
  generalize prL n es m = l at HTK HLL hgm hel
  have HB1 := hide hb1
  have HGM := hide hgm
  have HEL := hide hel
  clear hb1 hgm hel HBU
  go_upto_region 2 with fail
  obtain ⟨V, hV⟩ : ∃ V, V = w1.alloc (.cells #[.int .i64 n, .slice ao0 (n + 1) ca0, .slice bo0 m cb0, .slice co0 m cc0] 25) := ⟨_, rfl⟩
  obtain ⟨hbV, hVA⟩ := box_new hV
  rw [← hV]
  obtain ⟨b0, hb0⟩ : ∃ b0, b0 = w1.heap.size := ⟨_, rfl⟩
  rw [← hb0] at hVA ⊢
  have HB := hide (below_on HB1.out hbV)
  have HK0 : Hid (∀ X, Below V.heap.size V X → X.cell? ⟨b0, 0, none⟩ = some (.int .i64 n) ∧ X.cell? ⟨b0, 1, none⟩ = some (.slice ao0 (n + 1) ca0) ∧ X.cell? ⟨b0, 2, none⟩ = some (.slice bo0 m cb0) ∧ X.cell? ⟨b0, 3, none⟩ = some (.slice co0 m cc0) ∧ GIs X n (.slice ao0 (n + 1) ca0) (.slice bo0 m cb0) (.slice co0 m cc0) st0 tl0 wt0) := fun X hX => ⟨box_cell hVA hX rfl, box_cell hVA hX rfl, box_cell hVA hX rfl, box_cell hVA hX rfl, HGM.out.at (below_on hbV hX)⟩
  have HEX : Hid (∀ X, Below V.heap.size V X → EAt X (.slice lo m lc) l) := fun X hX => HEL.out.below (below_on hbV hX)
  have HT0 := hide HGM.out.la.tlen
  have HGD0 := hide HGM.out.gd
  have HWN0 := hide (lay_nonneg HGM.out.la)
  have HSU0 := hide HGM.out.su
  have HLA0 := hide HGM.out.la
  clear hV hbV hVA hb0 HB1 HGM HEL
  have HTU0 := hide (fun W h => turn_good n (.slice ao0 (n + 1) ca0) (.slice bo0 m cb0) (.slice co0 m cc0) st0 tl0 wt0 W h HGD0.out HWN0.out)
  have HSO0 := hide (fun W h => sort_good n (.slice ao0 (n + 1) ca0) (.slice bo0 m cb0) (.slice co0 m cc0) st0 tl0 wt0 W h HGD0.out (fun e _ => HWN0.out e))
  have HME0 := hide (fun W h => merge_good n (.slice ao0 (n + 1) ca0) (.slice bo0 m cb0) (.slice co0 m cc0) st0 tl0 wt0 W h HGD0.out (fun e _ => HWN0.out e))
  have HSE : Hid ((sortE n st0 tl0 wt0).length = m) := by have := sortE_len HGD0.out; rw [HT0.out] at this; exact this
  unfold gAgg at HTU0 HSO0 HME0
  go_wp2_with fail
  refine (HLV.out _).mono ?_
  rintro e cur ⟨rfl, hb2⟩
  replace HB := hide (below_on HB.out hb2)
  replace HK0 := hide (fun X hX => HK0.out X (below_on hb2 hX))
  replace HEX := hide (fun X hX => HEX.out X (below_on hb2 hX))
  clear hb2 HLV V
  obtain ⟨c0, c1, c2, c3, hgi⟩ := HK0.out _ (Below.refl _ _)
  have HGX := hide hgi
  clear hgi
  go_wp2_with fail
  refine (HTU0.out _ HGX.out).mono ?_
  rintro e w2 ⟨va, vb, vc, st1, tl1, wt1, nx1, rfl, hgi, hsu, hla, hb2⟩
  obtain ⟨ao1, ca1, rfl⟩ := hgi.s.shape
  obtain ⟨bo1, cb1, rfl⟩ := hgi.t.shape
  obtain ⟨co1, cc1, rfl⟩ := hgi.u.shape
  clear c0 c1 c2 c3 HGX
  have hgd := turn_gd HGD0.out hsu hla
  rw [HT0.out] at hsu hla
  have htl := hla.tlen
  have hwl := hla.wlen
  rw [hgd.s_len, htl, hwl] at hgi
  unfold gAgg
  rw [hgd.s_len, htl, hwl]
  have HSU1 := hide hsu
  have HLA1 := hide hla
  have HGD1 := hide hgd
  have HT1 := hide htl
  have HWN1 := hide (lay_nonneg hla)
  have HGI := hide hgi
  have HB2 := hide hb2
  clear hsu hla hgd htl hwl hgi hb2
  go_upto_region 5 with fail
  obtain ⟨V, hV⟩ : ∃ V, V = w2.alloc (.cells #[.int .i64 n, .slice ao1 (n + 1) ca1, .slice bo1 m cb1, .slice co1 m cc1] 25) := ⟨_, rfl⟩
  obtain ⟨hbV, hVA⟩ := box_new hV
  rw [← hV]
  obtain ⟨b1, hb1⟩ : ∃ b, b = w2.heap.size := ⟨_, rfl⟩
  rw [← hb1] at hVA ⊢
  have hbn := below_on HB2.out hbV
  replace HB := hide (below_on HB.out hbn)
  replace HEX := hide (fun X hX => HEX.out X (below_on hbn hX))
  replace HK0 := hide (fun X hX => HK0.out X (below_on hbn hX))
  have HK1 : Hid (∀ X, Below V.heap.size V X → X.cell? ⟨b1, 0, none⟩ = some (.int .i64 n) ∧ X.cell? ⟨b1, 1, none⟩ = some (.slice ao1 (n + 1) ca1) ∧ X.cell? ⟨b1, 2, none⟩ = some (.slice bo1 m cb1) ∧ X.cell? ⟨b1, 3, none⟩ = some (.slice co1 m cc1) ∧ GIs X n (.slice ao1 (n + 1) ca1) (.slice bo1 m cb1) (.slice co1 m cc1) st1 tl1 wt1) := fun X hX => ⟨box_cell hVA hX rfl, box_cell hVA hX rfl, box_cell hVA hX rfl, box_cell hVA hX rfl, HGI.out.below (below_on hbV hX)⟩
  clear hV hbV hVA hb1 hbn HB2 HGI w2
  try clear cur
  rename World => cur
  have HTU1 := hide (fun W h => turn_good n (.slice ao1 (n + 1) ca1) (.slice bo1 m cb1) (.slice co1 m cc1) st1 tl1 wt1 W h HGD1.out HWN1.out)
  unfold gAgg at HTU1
  obtain ⟨c0, c1, c2, c3, hgi⟩ := HK1.out _ (Below.refl _ _)
  have HGX := hide hgi
  clear hgi
  go_wp2_with fail
  refine (HTU1.out _ HGX.out).mono ?_
  rintro e w2 ⟨va, vb, vc, st2, tl2, wt2, nx2, rfl, hgi, hsu, hla, hb2⟩
  obtain ⟨ao2, ca2, rfl⟩ := hgi.s.shape
  obtain ⟨bo2, cb2, rfl⟩ := hgi.t.shape
  obtain ⟨co2, cc2, rfl⟩ := hgi.u.shape
  clear c0 c1 c2 c3 HGX
  have hgd := turn_gd HGD1.out hsu hla
  rw [HT1.out] at hsu hla
  have htl := hla.tlen
  have hwl := hla.wlen
  rw [hgd.s_len, htl, hwl] at hgi
  unfold gAgg
  rw [hgd.s_len, htl, hwl]
  have HSU2 := hide hsu
  have HLA2 := hide hla
  have HGD2 := hide hgd
  have HT2 := hide htl
  have HWN2 := hide (lay_nonneg hla)
  have HGI := hide hgi
  have HB2 := hide hb2
  clear hsu hla hgd htl hwl hgi hb2
  go_upto_region 6 with fail
  obtain ⟨V, hV⟩ : ∃ V, V = w2.alloc (.cells #[.int .i64 n, .slice ao2 (n + 1) ca2, .slice bo2 m cb2, .slice co2 m cc2] 25) := ⟨_, rfl⟩
  obtain ⟨hbV, hVA⟩ := box_new hV
  rw [← hV]
  obtain ⟨b2, hb2⟩ : ∃ b, b = w2.heap.size := ⟨_, rfl⟩
  rw [← hb2] at hVA ⊢
  have hbn := below_on HB2.out hbV
  replace HB := hide (below_on HB.out hbn)
  replace HEX := hide (fun X hX => HEX.out X (below_on hbn hX))
  replace HK0 := hide (fun X hX => HK0.out X (below_on hbn hX))
  replace HK1 := hide (fun X hX => HK1.out X (below_on hbn hX))
  have HK2 : Hid (∀ X, Below V.heap.size V X → X.cell? ⟨b2, 0, none⟩ = some (.int .i64 n) ∧ X.cell? ⟨b2, 1, none⟩ = some (.slice ao2 (n + 1) ca2) ∧ X.cell? ⟨b2, 2, none⟩ = some (.slice bo2 m cb2) ∧ X.cell? ⟨b2, 3, none⟩ = some (.slice co2 m cc2) ∧ GIs X n (.slice ao2 (n + 1) ca2) (.slice bo2 m cb2) (.slice co2 m cc2) st2 tl2 wt2) := fun X hX => ⟨box_cell hVA hX rfl, box_cell hVA hX rfl, box_cell hVA hX rfl, box_cell hVA hX rfl, HGI.out.below (below_on hbV hX)⟩
  clear hV hbV hVA hb2 hbn HB2 HGI w2
  try clear cur
  rename World => cur
  obtain ⟨c0, c1, c2, c3, hgi⟩ := HK0.out _ (Below.refl _ _)
  have HGX := hide hgi
  clear hgi
  go_wp2_with fail
  refine (HSO0.out _ HGX.out).mono ?_
  rintro e w2 ⟨va, vb, vc, st3, tl3, wt3, nx3, rfl, hgi, hsu, hla, hb2⟩
  obtain ⟨ao3, ca3, rfl⟩ := hgi.s.shape
  obtain ⟨bo3, cb3, rfl⟩ := hgi.t.shape
  obtain ⟨co3, cc3, rfl⟩ := hgi.u.shape
  clear c0 c1 c2 c3 HGX
  rw [HSE.out] at hsu hla
  have hgd := (laid_good hsu hla (sortE_takes HGD0.out (fun e _ => HWN0.out e)) HSE.out).1
  have htl := hla.tlen
  have hwl := hla.wlen
  rw [hgd.s_len, htl, hwl] at hgi
  unfold gAgg
  rw [hgd.s_len, htl, hwl]
  have HSU3 := hide hsu
  have HLA3 := hide hla
  have HGD3 := hide hgd
  have HT3 := hide htl
  have HWN3 := hide (lay_nonneg hla)
  have HGI := hide hgi
  have HB2 := hide hb2
  clear hsu hla hgd htl hwl hgi hb2
  go_upto_region 7 with fail
  obtain ⟨V, hV⟩ : ∃ V, V = w2.alloc (.cells #[.int .i64 n, .slice ao3 (n + 1) ca3, .slice bo3 m cb3, .slice co3 m cc3] 25) := ⟨_, rfl⟩
  obtain ⟨hbV, hVA⟩ := box_new hV
  rw [← hV]
  obtain ⟨b3, hb3⟩ : ∃ b, b = w2.heap.size := ⟨_, rfl⟩
  rw [← hb3] at hVA ⊢
  have hbn := below_on HB2.out hbV
  replace HB := hide (below_on HB.out hbn)
  replace HEX := hide (fun X hX => HEX.out X (below_on hbn hX))
  replace HK0 := hide (fun X hX => HK0.out X (below_on hbn hX))
  replace HK1 := hide (fun X hX => HK1.out X (below_on hbn hX))
  replace HK2 := hide (fun X hX => HK2.out X (below_on hbn hX))
  have HK3 : Hid (∀ X, Below V.heap.size V X → X.cell? ⟨b3, 0, none⟩ = some (.int .i64 n) ∧ X.cell? ⟨b3, 1, none⟩ = some (.slice ao3 (n + 1) ca3) ∧ X.cell? ⟨b3, 2, none⟩ = some (.slice bo3 m cb3) ∧ X.cell? ⟨b3, 3, none⟩ = some (.slice co3 m cc3) ∧ GIs X n (.slice ao3 (n + 1) ca3) (.slice bo3 m cb3) (.slice co3 m cc3) st3 tl3 wt3) := fun X hX => ⟨box_cell hVA hX rfl, box_cell hVA hX rfl, box_cell hVA hX rfl, box_cell hVA hX rfl, HGI.out.below (below_on hbV hX)⟩
  clear hV hbV hVA hb3 hbn HB2 HGI w2
  try clear cur
  rename World => cur
  obtain ⟨c0, c1, c2, c3, hgi⟩ := HK0.out _ (Below.refl _ _)
  have HGX := hide hgi
  clear hgi
  go_wp2_with fail
  refine (HME0.out _ HGX.out).mono ?_
  rintro e w2 ⟨va, vb, vc, st4, tl4, wt4, nx4, rfl, hgi, hsu, hla, hb2⟩
  obtain ⟨ao4, ca4, rfl⟩ := hgi.s.shape
  obtain ⟨bo4, cb4, rfl⟩ := hgi.t.shape
  obtain ⟨co4, cc4, rfl⟩ := hgi.u.shape
  clear c0 c1 c2 c3 HGX
  obtain ⟨K, hK⟩ : ∃ K, (cpt (sortE n st0 tl0 wt0)).length = K := ⟨_, rfl⟩
  rw [hK] at hsu hla
  have hgd := (laid_good hsu hla (cpt_takes (sortE_takes HGD0.out (fun e _ => HWN0.out e)) sortE_lxl) hK).1
  have htl := hla.tlen
  have hwl := hla.wlen
  rw [hgd.s_len, htl, hwl] at hgi
  unfold gAgg
  rw [hgd.s_len, htl, hwl]
  have hKm : K ≤ m := by have := cpt_len_le (sortE n st0 tl0 wt0); have := HSE.out; omega
  have HKE := hide hK
  clear hK
  have HSU4 := hide hsu
  have HLA4 := hide hla
  have HGD4 := hide hgd
  have HT4 := hide htl
  have HWN4 := hide (lay_nonneg hla)
  have HGI := hide hgi
  have HB2 := hide hb2
  clear hsu hla hgd htl hwl hgi hb2
  go_upto_region 8 with fail
  obtain ⟨V, hV⟩ : ∃ V, V = w2.alloc (.cells #[.int .i64 n, .slice ao4 (n + 1) ca4, .slice bo4 K cb4, .slice co4 K cc4] 25) := ⟨_, rfl⟩
  obtain ⟨hbV, hVA⟩ := box_new hV
  rw [← hV]
  obtain ⟨b4, hb4⟩ : ∃ b, b = w2.heap.size := ⟨_, rfl⟩
  rw [← hb4] at hVA ⊢
  have hbn := below_on HB2.out hbV
  replace HB := hide (below_on HB.out hbn)
  replace HEX := hide (fun X hX => HEX.out X (below_on hbn hX))
  replace HK0 := hide (fun X hX => HK0.out X (below_on hbn hX))
  replace HK1 := hide (fun X hX => HK1.out X (below_on hbn hX))
  replace HK2 := hide (fun X hX => HK2.out X (below_on hbn hX))
  replace HK3 := hide (fun X hX => HK3.out X (below_on hbn hX))
  have HK4 : Hid (∀ X, Below V.heap.size V X → X.cell? ⟨b4, 0, none⟩ = some (.int .i64 n) ∧ X.cell? ⟨b4, 1, none⟩ = some (.slice ao4 (n + 1) ca4) ∧ X.cell? ⟨b4, 2, none⟩ = some (.slice bo4 K cb4) ∧ X.cell? ⟨b4, 3, none⟩ = some (.slice co4 K cc4) ∧ GIs X n (.slice ao4 (n + 1) ca4) (.slice bo4 K cb4) (.slice co4 K cc4) st4 tl4 wt4) := fun X hX => ⟨box_cell hVA hX rfl, box_cell hVA hX rfl, box_cell hVA hX rfl, box_cell hVA hX rfl, HGI.out.below (below_on hbV hX)⟩
  clear hV hbV hVA hb4 hbn HB2 HGI w2
  try clear cur
  rename World => cur
  clear HTU0 HTU1 HSO0 HME0
  obtain ⟨c0, c1, c2, c3, hgi⟩ := HK1.out _ (Below.refl _ _)
  have HGX := hide hgi
  have hed := edges_good n (.slice ao1 (n + 1) ca1) (.slice bo1 m cb1) (.slice co1 m cc1) st1 tl1 wt1 cur hgi HGD1.out (good_chk' HGD1.out)
  unfold EdgesW gAgg at hed
  rw [HT1.out] at hed
  have HED := hide hed
  clear hgi hed
  go_wp2_with fail
  refine HED.out.mono ?_
  rintro e w2 ⟨R1, rfl, hre, hb2, _⟩
  have HRE : Hid (EAt w2 (.slice (some ⟨R1, 0, none⟩) m m) (rowsE n st1 tl1 wt1)) := by show EAt _ _ _; unfold rowsE; rw [HT1.out]; exact hre
  have HB2 := hide hb2
  clear c0 c1 c2 c3 HGX HED hre hb2
  go_upto_region 9 with fail
  obtain ⟨V, hV⟩ : ∃ V, V = w2.alloc (.cells #[.int .i64 n, .slice (some ⟨R1, 0, none⟩) m m] 47) := ⟨_, rfl⟩
  obtain ⟨hbV, hVA⟩ := box_new hV
  rw [← hV]
  obtain ⟨q1, hq1⟩ : ∃ b, b = w2.heap.size := ⟨_, rfl⟩
  rw [← hq1] at hVA ⊢
  have hbn := below_on HB2.out hbV
  replace HB := hide (below_on HB.out hbn)
  replace HEX := hide (fun X hX => HEX.out X (below_on hbn hX))
  replace HK0 := hide (fun X hX => HK0.out X (below_on hbn hX))
  replace HK1 := hide (fun X hX => HK1.out X (below_on hbn hX))
  replace HK2 := hide (fun X hX => HK2.out X (below_on hbn hX))
  replace HK3 := hide (fun X hX => HK3.out X (below_on hbn hX))
  replace HK4 := hide (fun X hX => HK4.out X (below_on hbn hX))
  have HL1 : Hid (∀ X, Below V.heap.size V X → X.cell? ⟨q1, 1, none⟩ = some (.slice (some ⟨R1, 0, none⟩) m m) ∧ EAt X (.slice (some ⟨R1, 0, none⟩) m m) (rowsE n st1 tl1 wt1)) := fun X hX => ⟨box_cell hVA hX rfl, HRE.out.below (below_on hbV hX)⟩
  clear hV hbV hVA hq1 hbn HB2 HRE w2
  try clear cur
  rename World => cur
  obtain ⟨c0, c1, c2, c3, hgi⟩ := HK2.out _ (Below.refl _ _)
  have HGX := hide hgi
  have hed := edges_good n (.slice ao2 (n + 1) ca2) (.slice bo2 m cb2) (.slice co2 m cc2) st2 tl2 wt2 cur hgi HGD2.out (good_chk' HGD2.out)
  unfold EdgesW gAgg at hed
  rw [HT2.out] at hed
  have HED := hide hed
  clear hgi hed
  go_wp2_with fail
  refine HED.out.mono ?_
  rintro e w2 ⟨R2, rfl, hre, hb2, _⟩
  have HRE : Hid (EAt w2 (.slice (some ⟨R2, 0, none⟩) m m) (rowsE n st2 tl2 wt2)) := by show EAt _ _ _; unfold rowsE; rw [HT2.out]; exact hre
  have HB2 := hide hb2
  clear c0 c1 c2 c3 HGX HED hre hb2
  go_upto_region 10 with fail
  obtain ⟨V, hV⟩ : ∃ V, V = w2.alloc (.cells #[.int .i64 n, .slice (some ⟨R2, 0, none⟩) m m] 47) := ⟨_, rfl⟩
  obtain ⟨hbV, hVA⟩ := box_new hV
  rw [← hV]
  obtain ⟨q2, hq2⟩ : ∃ b, b = w2.heap.size := ⟨_, rfl⟩
  rw [← hq2] at hVA ⊢
  have hbn := below_on HB2.out hbV
  replace HB := hide (below_on HB.out hbn)
  replace HEX := hide (fun X hX => HEX.out X (below_on hbn hX))
  replace HK0 := hide (fun X hX => HK0.out X (below_on hbn hX))
  replace HK1 := hide (fun X hX => HK1.out X (below_on hbn hX))
  replace HK2 := hide (fun X hX => HK2.out X (below_on hbn hX))
  replace HK3 := hide (fun X hX => HK3.out X (below_on hbn hX))
  replace HK4 := hide (fun X hX => HK4.out X (below_on hbn hX))
  replace HL1 := hide (fun X hX => HL1.out X (below_on hbn hX))
  have HL2 : Hid (∀ X, Below V.heap.size V X → X.cell? ⟨q2, 1, none⟩ = some (.slice (some ⟨R2, 0, none⟩) m m) ∧ EAt X (.slice (some ⟨R2, 0, none⟩) m m) (rowsE n st2 tl2 wt2)) := fun X hX => ⟨box_cell hVA hX rfl, HRE.out.below (below_on hbV hX)⟩
  clear hV hbV hVA hq2 hbn HB2 HRE w2
  try clear cur
  rename World => cur
  obtain ⟨c0, c1, c2, c3, hgi⟩ := HK3.out _ (Below.refl _ _)
  have HGX := hide hgi
  have hed := edges_good n (.slice ao3 (n + 1) ca3) (.slice bo3 m cb3) (.slice co3 m cc3) st3 tl3 wt3 cur hgi HGD3.out (good_chk' HGD3.out)
  unfold EdgesW gAgg at hed
  rw [HT3.out] at hed
  have HED := hide hed
  clear hgi hed
  go_wp2_with fail
  refine HED.out.mono ?_
  rintro e w2 ⟨R3, rfl, hre, hb2, _⟩
  have HRE : Hid (EAt w2 (.slice (some ⟨R3, 0, none⟩) m m) (rowsE n st3 tl3 wt3)) := by show EAt _ _ _; unfold rowsE; rw [HT3.out]; exact hre
  have HB2 := hide hb2
  clear c0 c1 c2 c3 HGX HED hre hb2
  go_upto_region 11 with fail
  obtain ⟨V, hV⟩ : ∃ V, V = w2.alloc (.cells #[.int .i64 n, .slice (some ⟨R3, 0, none⟩) m m] 47) := ⟨_, rfl⟩
  obtain ⟨hbV, hVA⟩ := box_new hV
  rw [← hV]
  obtain ⟨q3, hq3⟩ : ∃ b, b = w2.heap.size := ⟨_, rfl⟩
  rw [← hq3] at hVA ⊢
  have hbn := below_on HB2.out hbV
  replace HB := hide (below_on HB.out hbn)
  replace HEX := hide (fun X hX => HEX.out X (below_on hbn hX))
  replace HK0 := hide (fun X hX => HK0.out X (below_on hbn hX))
  replace HK1 := hide (fun X hX => HK1.out X (below_on hbn hX))
  replace HK2 := hide (fun X hX => HK2.out X (below_on hbn hX))
  replace HK3 := hide (fun X hX => HK3.out X (below_on hbn hX))
  replace HK4 := hide (fun X hX => HK4.out X (below_on hbn hX))
  replace HL1 := hide (fun X hX => HL1.out X (below_on hbn hX))
  replace HL2 := hide (fun X hX => HL2.out X (below_on hbn hX))
  have HL3 : Hid (∀ X, Below V.heap.size V X → X.cell? ⟨q3, 1, none⟩ = some (.slice (some ⟨R3, 0, none⟩) m m) ∧ EAt X (.slice (some ⟨R3, 0, none⟩) m m) (rowsE n st3 tl3 wt3)) := fun X hX => ⟨box_cell hVA hX rfl, HRE.out.below (below_on hbV hX)⟩
  clear hV hbV hVA hq3 hbn HB2 HRE w2
  try clear cur
  rename World => cur
  obtain ⟨c0, c1, c2, c3, hgi⟩ := HK4.out _ (Below.refl _ _)
  have HGX := hide hgi
  have hed := edges_good n (.slice ao4 (n + 1) ca4) (.slice bo4 K cb4) (.slice co4 K cc4) st4 tl4 wt4 cur hgi HGD4.out (good_chk' HGD4.out)
  unfold EdgesW gAgg at hed
  rw [HT4.out] at hed
  have HED := hide hed
  clear hgi hed
  go_wp2_with fail
  refine HED.out.mono ?_
  rintro e w2 ⟨R4, rfl, hre, hb2, _⟩
  have HRE : Hid (EAt w2 (.slice (some ⟨R4, 0, none⟩) K K) (rowsE n st4 tl4 wt4)) := by show EAt _ _ _; unfold rowsE; rw [HT4.out]; exact hre
  have HB2 := hide hb2
  clear c0 c1 c2 c3 HGX HED hre hb2
  go_upto_region 12 with fail
  obtain ⟨V, hV⟩ : ∃ V, V = w2.alloc (.cells #[.int .i64 n, .slice (some ⟨R4, 0, none⟩) K K] 47) := ⟨_, rfl⟩
  obtain ⟨hbV, hVA⟩ := box_new hV
  rw [← hV]
  obtain ⟨q4, hq4⟩ : ∃ b, b = w2.heap.size := ⟨_, rfl⟩
  rw [← hq4] at hVA ⊢
  have hbn := below_on HB2.out hbV
  replace HB := hide (below_on HB.out hbn)
  replace HEX := hide (fun X hX => HEX.out X (below_on hbn hX))
  replace HK0 := hide (fun X hX => HK0.out X (below_on hbn hX))
  replace HK1 := hide (fun X hX => HK1.out X (below_on hbn hX))
  replace HK2 := hide (fun X hX => HK2.out X (below_on hbn hX))
  replace HK3 := hide (fun X hX => HK3.out X (below_on hbn hX))
  replace HK4 := hide (fun X hX => HK4.out X (below_on hbn hX))
  replace HL1 := hide (fun X hX => HL1.out X (below_on hbn hX))
  replace HL2 := hide (fun X hX => HL2.out X (below_on hbn hX))
  replace HL3 := hide (fun X hX => HL3.out X (below_on hbn hX))
  have HL4 : Hid (∀ X, Below V.heap.size V X → X.cell? ⟨q4, 1, none⟩ = some (.slice (some ⟨R4, 0, none⟩) K K) ∧ EAt X (.slice (some ⟨R4, 0, none⟩) K K) (rowsE n st4 tl4 wt4)) := fun X hX => ⟨box_cell hVA hX rfl, HRE.out.below (below_on hbV hX)⟩
  clear hV hbV hVA hq4 hbn HB2 HRE w2
  try clear cur
  rename World => cur
  have HTW := hide (tw_facts HTK.out HLL.out HSU0.out HLA0.out HSU1.out HLA1.out HSU2.out HLA2.out HSU3.out HLA3.out HKE.out HSU4.out HLA4.out)
  obtain ⟨A, hA⟩ : ∃ A, A = rowsE n st1 tl1 wt1 := ⟨_, rfl⟩
  obtain ⟨B, hB⟩ : ∃ A, A = rowsE n st2 tl2 wt2 := ⟨_, rfl⟩
  obtain ⟨C, hC⟩ : ∃ A, A = rowsE n st3 tl3 wt3 := ⟨_, rfl⟩
  obtain ⟨D, hD⟩ : ∃ A, A = rowsE n st4 tl4 wt4 := ⟨_, rfl⟩
  rw [← hA, ← hB, ← hC, ← hD] at HTW
  rw [← hA] at HL1
  rw [← hB] at HL2
  rw [← hC] at HL3
  rw [← hD] at HL4
  have HDL : Hid (D.length = K) := by show _ = _; rw [hD, rowsE_len]; exact HT4.out
  clear hA hB hC hD HK0 HK1 HK2 HK3 HK4 HSU0 HSU1 HSU2 HSU3 HSU4 HLA0 HLA1 HLA2 HLA3 HLA4 HGD0 HGD1 HGD2 HGD3 HGD4 HT0 HT1 HT2 HT3 HT4 HWN0 HWN1 HWN2 HWN3 HWN4 HSE HKE HTK
  obtain ⟨z1, _⟩ := HL1.out _ (Below.refl _ _)
  obtain ⟨z2, _⟩ := HL2.out _ (Below.refl _ _)
  obtain ⟨z3, _⟩ := HL3.out _ (Below.refl _ _)
  go_wp2_with fail
  clear z1 z2 z3
  go_loopw [24, 25, 26, 27, 28] (fun t _ _ _ _ wr => ∃ i : Nat, t = .int .i64 (i : Int) ∧ i ≤ m ∧ Below cur.heap.size cur wr) (fun t _ _ _ _ _ => m - (RowKit.intOf t).toNat)
  case atStart => exact ⟨0, rfl, Nat.zero_le _, Below.refl _ _⟩
  case round =>
    obtain ⟨i, rfl, him, hbr⟩ := hrel
    have HBR := hide hbr
    clear hbr
    by_cases hlt : i < m
    · have hil : i < l.length := by rw [HLL.out]; exact hlt
      obtain ⟨x0, hx0⟩ : ∃ x, x = (eAt l i).1 := ⟨_, rfl⟩
      obtain ⟨x1, hx1⟩ : ∃ x, x = (eAt l i).2.1 := ⟨_, rfl⟩
      obtain ⟨x2, hx2⟩ : ∃ x, x = (eAt l i).2.2 := ⟨_, rfl⟩
      have HXE : Hid (eAt l i = (x0, x1, x2)) := by show _ = _; rw [hx0, hx1, hx2]
      have HXM : Hid ((x0, x1, x2) ∈ l) := by have := eAt_mem hil; rw [HXE.out] at this; exact this
      have hEA := HEX.out _ HBR.out
      rw [← HLL.out] at hEA
      obtain ⟨gl, ol, rfl, hgl, d1, d2, d3⟩ := hEA.cellAt hil
      rw [← hx0] at d1
      rw [← hx1] at d2
      rw [← hx2] at d3
      obtain ⟨k, hk⟩ : ∃ k, k = l.count (x0, x1, x2) := ⟨_, rfl⟩
      have HTL := hide (fun W h => times_any (.slice (some ⟨gl, ol, none⟩) m lc) l x0 x1 x2 W h (by rw [HLL.out]; omega))
      have HTA := hide (fun W h => times_any (.slice (some ⟨R1, 0, none⟩) m m) A x1 x0 x2 W h (by rw [HTW.out.la, HLL.out]; omega))
      have HTB := hide (fun W h => times_any (.slice (some ⟨R2, 0, none⟩) m m) B x0 x1 x2 W h (by rw [HTW.out.lb, HLL.out]; omega))
      have HTC := hide (fun W h => times_any (.slice (some ⟨R3, 0, none⟩) m m) C x0 x1 x2 W h (by rw [HTW.out.lc, HLL.out]; omega))
      rw [← hk] at HTL
      rw [show A.count (x1, x0, x2) = k by rw [hk]; exact HTW.out.ca (x0, x1, x2)] at HTA
      rw [HTW.out.cb, ← hk] at HTB
      rw [HTW.out.cc, ← hk] at HTC
      have hii : (i : Int) < (m : Int) := by omega
      clear hx0 hx1 hx2 hEA hk hil
      go_upto_region 18 with fail
      obtain ⟨V, hV⟩ : ∃ V, V = wr.alloc (.cells #[.int .i64 x0, .int .i64 x1, .int .u64 x2] 50) := ⟨_, rfl⟩
      obtain ⟨hbV, hVA⟩ := box_new hV
      rw [← hV]
      obtain ⟨bx, hbx⟩ : ∃ b, b = wr.heap.size := ⟨_, rfl⟩
      rw [← hbx] at hVA ⊢
      have HBV := hide (below_on HBR.out hbV)
      have HBX : Hid (∀ X, Below V.heap.size V X → X.heap[bx]? = some (.cells #[.int .i64 x0, .int .i64 x1, .int .u64 x2] 50 (0, 0))) := fun X hX => (hX.block _ (lt_of_heap hVA)).trans hVA
      have hcb : cur.heap.size ≤ bx := by rw [hbx]; exact HBR.out.size
      have HCB := hide hcb
      clear hV hbV hVA hbx d1 d2 d3 HBR hcb
      have y0 := cell_of (HBX.out V (Below.refl _ _)) (i := 0) rfl
      have y1 := cell_of (HBX.out V (Below.refl _ _)) (i := 1) rfl
      have y2 := cell_of (HBX.out V (Below.refl _ _)) (i := 2) rfl
      go_wp2_with fail
      refine (HTL.out _ (HEX.out _ HBV.out)).mono ?_
      rintro e wa ⟨rfl, hba⟩
      have HBA := hide hba
      clear hba y0 y1 y2 HTL
      have y0 := cell_of (HBX.out wa HBA.out) (i := 0) rfl
      have y1 := cell_of (HBX.out wa HBA.out) (i := 1) rfl
      have y2 := cell_of (HBX.out wa HBA.out) (i := 2) rfl
      obtain ⟨z1, hz1⟩ := HL1.out _ (below_on HBV.out HBA.out)
      have HZ := hide hz1
      clear hz1
      go_wp2_with fail
      refine (HTA.out _ HZ.out).mono ?_
      rintro e wb ⟨rfl, hbb⟩
      have HBB := hide (below_on HBA.out hbb)
      clear hbb y0 y1 y2 z1 HZ HTA HBA
      have y0 := cell_of (HBX.out wb HBB.out) (i := 0) rfl
      have y1 := cell_of (HBX.out wb HBB.out) (i := 1) rfl
      have y2 := cell_of (HBX.out wb HBB.out) (i := 2) rfl
      obtain ⟨z1, hz1⟩ := HL2.out _ (below_on HBV.out HBB.out)
      have HZ := hide hz1
      clear hz1
      go_wp2_with fail
      refine (HTB.out _ HZ.out).mono ?_
      rintro e wc ⟨rfl, hbc⟩
      have HBC := hide (below_on HBB.out hbc)
      clear hbc y0 y1 y2 z1 HZ HTB HBB
      have y0 := cell_of (HBX.out wc HBC.out) (i := 0) rfl
      have y1 := cell_of (HBX.out wc HBC.out) (i := 1) rfl
      have y2 := cell_of (HBX.out wc HBC.out) (i := 2) rfl
      obtain ⟨z1, hz1⟩ := HL3.out _ (below_on HBV.out HBC.out)
      have HZ := hide hz1
      clear hz1
      go_wp2_with fail
      refine (HTC.out _ HZ.out).mono ?_
      rintro e wd ⟨rfl, hbd⟩
      have HBD := hide (below_on HBC.out hbd)
      clear hbd y0 y1 y2 z1 HZ HTC HBC
      have y0 := cell_of (HBX.out wd HBD.out) (i := 0) rfl
      have y1 := cell_of (HBX.out wd HBD.out) (i := 1) rfl
      have y2 := cell_of (HBX.out wd HBD.out) (i := 2) rfl
      go_upto_region 22 with fail
      obtain ⟨U, hU⟩ : ∃ V, V = wd.alloc (.cells #[.int .i64 x0, .int .i64 x1, .int .u64 x2] 50) := ⟨_, rfl⟩
      obtain ⟨hbU, hUA⟩ := box_new hU
      rw [← hU]
      have hVw : V.heap.size ≤ wd.heap.size := HBD.out.size
      obtain ⟨bl, hbl⟩ : ∃ b, b = wd.heap.size := ⟨_, rfl⟩
      rw [← hbl] at hUA hVw ⊢
      have HBU2 := hide (below_on HBD.out hbU)
      have HUA := hide hUA
      have HVW := hide hVw
      clear hU hbU hUA hVw hbl y0 y1 y2 HBD wd
      go_wp2_with fail
      go_loopw [28] (fun t wr => ∃ (j : Nat) (y : Int), t = .int .i64 (j : Int) ∧ j ≤ m ∧ LG l x0 x1 j y ∧ Below V.heap.size V wr ∧ wr.heap[bl]? = some (.cells #[.int .i64 x0, .int .i64 x1, .int .u64 y] 50 (0, 0))) (fun t _ => m - (RowKit.intOf t).toNat)
      case atStart => exact ⟨0, x2, rfl, Nat.zero_le _, ⟨HXM.out, fun i hi => absurd hi (Nat.not_lt_zero _)⟩, HBU2.out, HUA.out⟩
      case round =>
        clear HBU2 HUA
        obtain ⟨j, y, rfl, hjm, hlg, hbr, hyb⟩ := hrel
        have HLG := hide hlg
        have HBR := hide hbr
        have HYB := hide hyb
        clear hlg hbr hyb
        have y0 := cell_of (HBX.out _ HBR.out) (i := 0) rfl
        have y1 := cell_of (HBX.out _ HBR.out) (i := 1) rfl
        have u0 := cell_of HYB.out (i := 0) rfl
        have u1 := cell_of HYB.out (i := 1) rfl
        have u2 := cell_of HYB.out (i := 2) rfl
        by_cases hlt2 : j < m
        · have hjl : j < l.length := by rw [HLL.out]; exact hlt2
          obtain ⟨e0, he0⟩ : ∃ x, x = (eAt l j).1 := ⟨_, rfl⟩
          obtain ⟨e1, he1⟩ : ∃ x, x = (eAt l j).2.1 := ⟨_, rfl⟩
          obtain ⟨e2, he2⟩ : ∃ x, x = (eAt l j).2.2 := ⟨_, rfl⟩
          have HEE : Hid (eAt l j = (e0, e1, e2)) := by show _ = _; rw [he0, he1, he2]
          have hEA := HEX.out _ (below_on HBV.out HBR.out)
          rw [← HLL.out] at hEA
          obtain ⟨gl2, ol2, he, hgl2, d1, d2, d3⟩ := hEA.cellAt hjl
          simp only [Option.some.injEq, Addr.mk.injEq, and_true] at he
          obtain ⟨rfl, rfl⟩ := he
          rw [← he0] at d1
          rw [← he1] at d2
          rw [← he2] at d3
          have hji : (j : Int) < (m : Int) := by omega
          have HJL := hide hjl
          clear he0 he1 he2 hEA hjl hgl hgl2
          by_cases h0 : e0 = x0
          · have g0 : (e0 == x0) = true := by simp [h0]
            by_cases h1 : e1 = x1
            · have g1 : (e1 == x1) = true := by simp [h1]
              by_cases h2 : e2 < y
              · have g2 : decide (e2 < y) = true := decide_eq_true h2
                have q0 := free_of HYB.out 0
                have q1' := free_of HYB.out 1
                have q2' := free_of HYB.out 2
                have HLT := hide (HLG.out.take HJL.out (by rw [HEE.out, h0, h1]) h2)
                have H01 := hide (And.intro h0 h1)
                clear h0 h1
                go_wp2_with fail
                go_quiet (fail)
                go_wp2_with fail
                go_roundw
                case rel =>
                  have hp := lg_put (a' := .int .i64 e0) (b' := .int .i64 e1) (c' := .int .u64 e2) HYB.out
                  rw [H01.out.1, H01.out.2] at hp ⊢
                  exact ⟨j + 1, e2, by go_num, by omega, HLT.out, Chg.below (below_drewN HBR.out _) (Chg.three (S := fun k => k = bl) rfl _ _ _) (fun k hk => by rw [hk]; exact HVW.out) HBR.out.size, hp⟩
                case measure => simp [RowKit.intOf]; omega
              · have g2 : decide (e2 < y) = false := decide_eq_false h2
                have HLS := hide (HLG.out.skip HEE.out (fun _ _ => h2))
                clear h0 h1
                go_wp2_with fail
                go_quiet (fail)
                go_wp2_with fail
                go_roundw
                case rel => exact ⟨j + 1, y, by go_num, by omega, HLS.out, below_drewN HBR.out _, HYB.out⟩
                case measure => simp [RowKit.intOf]; omega
            · have g1 : (e1 == x1) = false := by simp [h1]
              have HLS := hide (HLG.out.skip HEE.out (fun _ h => absurd h h1))
              clear h0 h1
              go_wp2_with fail
              go_quiet (fail)
              go_wp2_with fail
              go_roundw
              case rel => exact ⟨j + 1, y, by go_num, by omega, HLS.out, below_drewN HBR.out _, HYB.out⟩
              case measure => simp [RowKit.intOf]; omega
          · have g0 : (e0 == x0) = false := by simp [h0]
            have HLS := hide (HLG.out.skip HEE.out (fun h _ => absurd h h0))
            clear h0
            go_wp2_with fail
            go_quiet (fail)
            go_wp2_with fail
            go_roundw
            case rel => exact ⟨j + 1, y, by go_num, by omega, HLS.out, below_drewN HBR.out _, HYB.out⟩
            case measure => simp [RowKit.intOf]; omega
        · have hji : ¬ (j : Int) < (m : Int) := by omega
          have hcd := HTW.out.cd (x0, x1, y) HLG.out.mem (fun u hu h0 h1 => HLG.out.done (by rw [HLL.out]; omega) u hu h0 h1)
          have HTD := hide (fun W h => times_any (.slice (some ⟨R4, 0, none⟩) K K) D x0 x1 y W h (by rw [HDL.out]; omega))
          rw [hcd, show ((1 : Nat) : Int) = 1 from rfl] at HTD
          obtain ⟨z1, hz1⟩ := HL4.out _ (below_on HBV.out HBR.out)
          have HZ := hide hz1
          clear hz1 hcd HLG y0 y1
          go_wp2_with fail
          refine (HTD.out _ HZ.out).mono ?_
          rintro e wf ⟨rfl, hbf⟩
          have HBF := hide (below_on HBV.out (below_on HBR.out hbf))
          clear hbf z1 u0 u1 u2 HTD HZ HBR HYB
          go_wp2_with fail
          go_roundw
          case rel => exact ⟨i + 1, by go_num, by omega, HBF.out⟩
          case measure => simp [RowKit.intOf]; omega
    · have hii : ¬ (i : Int) < (m : Int) := by omega
      go_wp2_with fail
      have HC0 := hide HBR.out
      clear HBR
      go_loopw [29, 30, 31, 32, 33] (fun t _ _ _ _ wr => ∃ i : Nat, t = .int .i64 (i : Int) ∧ 1 ≤ i ∧ i ≤ m + 1 ∧ Below cur.heap.size cur wr) (fun t _ _ _ _ _ => m + 1 - (RowKit.intOf t).toNat)
      case atStart => exact ⟨1, rfl, Nat.le_refl _, by omega, HC0.out⟩
      case round =>
        clear hii hlt him HC0
        obtain ⟨i, rfl, hi1, him, hbr⟩ := hrel
        have HC0 := hide hbr
        clear hbr
        obtain ⟨z2, _⟩ := HL2.out _ HC0.out
        by_cases hlt : i < m
        · have hii : (i : Int) < (m : Int) := by omega
          obtain ⟨p, hp⟩ : ∃ p : Nat, (i : Int) - 1 = (p : Int) := ⟨i - 1, by omega⟩
          have hpi : p + 1 = i := by omega
          have hpm : (p : Int) < (m : Int) := by omega
          have hwp : wrap64 ((i : Int) - 1) = (p : Int) := by rw [← hp]; exact IntWalk.wrap64_in _ (by omega)
          obtain ⟨zc, hz1⟩ := HL2.out _ HC0.out
          obtain ⟨gx, ox, hox, _, d1, d2, d3⟩ := (show EAt _ (.slice (some ⟨R2, 0, none⟩) B.length m) B by rw [HTW.out.lb, HLL.out]; exact hz1).cellAt (i := p) (by rw [HTW.out.lb, HLL.out]; omega)
          simp only [Option.some.injEq, Addr.mk.injEq, and_true] at hox
          obtain ⟨rfl, rfl⟩ := hox
          rw [Nat.zero_add] at d1 d2 d3
          obtain ⟨pe0, hpe0⟩ : ∃ x, x = (eAt B p).1 := ⟨_, rfl⟩
          obtain ⟨pe1, hpe1⟩ : ∃ x, x = (eAt B p).2.1 := ⟨_, rfl⟩
          obtain ⟨pe2, hpe2⟩ : ∃ x, x = (eAt B p).2.2 := ⟨_, rfl⟩
          have HE1 : Hid (eAt B p = (pe0, pe1, pe2)) := by show _ = _; rw [hpe0, hpe1, hpe2]
          rw [← hpe0] at d1
          rw [← hpe1] at d2
          rw [← hpe2] at d3
          clear hpe0 hpe1 hpe2 hz1
          go_upto_region 33 with fail
          obtain ⟨W1, hW⟩ : ∃ V, V = wr.alloc (.cells #[.int .i64 pe0, .int .i64 pe1, .int .u64 pe2] 50) := ⟨_, rfl⟩
          obtain ⟨hbW, hWA⟩ := box_new hW
          rw [← hW]
          obtain ⟨x1, hx1⟩ : ∃ b, b = wr.heap.size := ⟨_, rfl⟩
          rw [← hx1] at hWA ⊢
          have HC1 := hide (below_on HC0.out hbW)
          have HX1 : Hid (∀ X, Below W1.heap.size W1 X → X.heap[x1]? = some (.cells #[.int .i64 pe0, .int .i64 pe1, .int .u64 pe2] 50 (0, 0))) := fun X hX => (hX.block _ (lt_of_heap hWA)).trans hWA
          clear hW hbW hWA hx1 zc d1 d2 d3 HC0
          obtain ⟨zc, hz1⟩ := HL2.out _ HC1.out
          obtain ⟨gx, ox, hox, _, d1, d2, d3⟩ := (show EAt _ (.slice (some ⟨R2, 0, none⟩) B.length m) B by rw [HTW.out.lb, HLL.out]; exact hz1).cellAt (i := i) (by rw [HTW.out.lb, HLL.out]; omega)
          simp only [Option.some.injEq, Addr.mk.injEq, and_true] at hox
          obtain ⟨rfl, rfl⟩ := hox
          rw [Nat.zero_add] at d1 d2 d3
          obtain ⟨qe0, hqe0⟩ : ∃ x, x = (eAt B i).1 := ⟨_, rfl⟩
          obtain ⟨qe1, hqe1⟩ : ∃ x, x = (eAt B i).2.1 := ⟨_, rfl⟩
          obtain ⟨qe2, hqe2⟩ : ∃ x, x = (eAt B i).2.2 := ⟨_, rfl⟩
          have HE2 : Hid (eAt B i = (qe0, qe1, qe2)) := by show _ = _; rw [hqe0, hqe1, hqe2]
          rw [← hqe0] at d1
          rw [← hqe1] at d2
          rw [← hqe2] at d3
          clear hqe0 hqe1 hqe2 hz1
          go_upto_region 34 with fail
          obtain ⟨W2, hW⟩ : ∃ V, V = W1.alloc (.cells #[.int .i64 qe0, .int .i64 qe1, .int .u64 qe2] 50) := ⟨_, rfl⟩
          obtain ⟨hbW, hWA⟩ := box_new hW
          rw [← hW]
          obtain ⟨x2, hx2⟩ : ∃ b, b = W1.heap.size := ⟨_, rfl⟩
          rw [← hx2] at hWA ⊢
          have HC2 := hide (below_on HC1.out hbW)
          replace HX1 := hide (fun X hX => HX1.out X (below_on hbW hX))
          have HX2 : Hid (∀ X, Below W2.heap.size W2 X → X.heap[x2]? = some (.cells #[.int .i64 qe0, .int .i64 qe1, .int .u64 qe2] 50 (0, 0))) := fun X hX => (hX.block _ (lt_of_heap hWA)).trans hWA
          clear hW hbW hWA hx2 zc d1 d2 d3 HC1
          obtain ⟨zc, hz1⟩ := HL3.out _ HC2.out
          obtain ⟨gx, ox, hox, _, d1, d2, d3⟩ := (show EAt _ (.slice (some ⟨R3, 0, none⟩) C.length m) C by rw [HTW.out.lc, HLL.out]; exact hz1).cellAt (i := p) (by rw [HTW.out.lc, HLL.out]; omega)
          simp only [Option.some.injEq, Addr.mk.injEq, and_true] at hox
          obtain ⟨rfl, rfl⟩ := hox
          rw [Nat.zero_add] at d1 d2 d3
          obtain ⟨ye0, hye0⟩ : ∃ x, x = (eAt C p).1 := ⟨_, rfl⟩
          obtain ⟨ye1, hye1⟩ : ∃ x, x = (eAt C p).2.1 := ⟨_, rfl⟩
          obtain ⟨ye2, hye2⟩ : ∃ x, x = (eAt C p).2.2 := ⟨_, rfl⟩
          have HE3 : Hid (eAt C p = (ye0, ye1, ye2)) := by show _ = _; rw [hye0, hye1, hye2]
          rw [← hye0] at d1
          rw [← hye1] at d2
          rw [← hye2] at d3
          clear hye0 hye1 hye2 hz1
          go_upto_region 35 with fail
          obtain ⟨W3, hW⟩ : ∃ V, V = W2.alloc (.cells #[.int .i64 ye0, .int .i64 ye1, .int .u64 ye2] 50) := ⟨_, rfl⟩
          obtain ⟨hbW, hWA⟩ := box_new hW
          rw [← hW]
          obtain ⟨x3, hx3⟩ : ∃ b, b = W2.heap.size := ⟨_, rfl⟩
          rw [← hx3] at hWA ⊢
          have HC3 := hide (below_on HC2.out hbW)
          replace HX1 := hide (fun X hX => HX1.out X (below_on hbW hX))
          replace HX2 := hide (fun X hX => HX2.out X (below_on hbW hX))
          have HX3 : Hid (∀ X, Below W3.heap.size W3 X → X.heap[x3]? = some (.cells #[.int .i64 ye0, .int .i64 ye1, .int .u64 ye2] 50 (0, 0))) := fun X hX => (hX.block _ (lt_of_heap hWA)).trans hWA
          clear hW hbW hWA hx3 zc d1 d2 d3 HC2
          obtain ⟨zc, hz1⟩ := HL3.out _ HC3.out
          obtain ⟨gx, ox, hox, _, d1, d2, d3⟩ := (show EAt _ (.slice (some ⟨R3, 0, none⟩) C.length m) C by rw [HTW.out.lc, HLL.out]; exact hz1).cellAt (i := i) (by rw [HTW.out.lc, HLL.out]; omega)
          simp only [Option.some.injEq, Addr.mk.injEq, and_true] at hox
          obtain ⟨rfl, rfl⟩ := hox
          rw [Nat.zero_add] at d1 d2 d3
          obtain ⟨ze0, hze0⟩ : ∃ x, x = (eAt C i).1 := ⟨_, rfl⟩
          obtain ⟨ze1, hze1⟩ : ∃ x, x = (eAt C i).2.1 := ⟨_, rfl⟩
          obtain ⟨ze2, hze2⟩ : ∃ x, x = (eAt C i).2.2 := ⟨_, rfl⟩
          have HE4 : Hid (eAt C i = (ze0, ze1, ze2)) := by show _ = _; rw [hze0, hze1, hze2]
          rw [← hze0] at d1
          rw [← hze1] at d2
          rw [← hze2] at d3
          clear hze0 hze1 hze2 hz1
          go_upto_region 36 with fail
          obtain ⟨W4, hW⟩ : ∃ V, V = W3.alloc (.cells #[.int .i64 ze0, .int .i64 ze1, .int .u64 ze2] 50) := ⟨_, rfl⟩
          obtain ⟨hbW, hWA⟩ := box_new hW
          rw [← hW]
          obtain ⟨x4, hx4⟩ : ∃ b, b = W3.heap.size := ⟨_, rfl⟩
          rw [← hx4] at hWA ⊢
          have HC4 := hide (below_on HC3.out hbW)
          replace HX1 := hide (fun X hX => HX1.out X (below_on hbW hX))
          replace HX2 := hide (fun X hX => HX2.out X (below_on hbW hX))
          replace HX3 := hide (fun X hX => HX3.out X (below_on hbW hX))
          have HX4 : Hid (∀ X, Below W4.heap.size W4 X → X.heap[x4]? = some (.cells #[.int .i64 ze0, .int .i64 ze1, .int .u64 ze2] 50 (0, 0))) := fun X hX => (hX.block _ (lt_of_heap hWA)).trans hWA
          clear hW hbW hWA hx4 zc d1 d2 d3 HC3
          have HPB := hide (pair_at HTW.out.pb (i := p) (j := i) (by omega) (by rw [HTW.out.lb, HLL.out]; omega))
          have HPC := hide (pair_at HTW.out.pc (i := p) (j := i) (by omega) (by rw [HTW.out.lc, HLL.out]; omega))
          rw [HE1.out, HE2.out] at HPB
          rw [HE3.out, HE4.out] at HPC
          have hpb : pe0 = qe0 → pe1 ≤ qe1 := HPB.out
          have hpc : ye0 = ze0 → ye1 < ze1 ∨ (ye1 = ze1 ∧ ye2 ≤ ze2) := HPC.out
          have v1 := cell_of (HX1.out _ (Below.refl _ _)) (i := 0) rfl
          have v2 := cell_of (HX1.out _ (Below.refl _ _)) (i := 1) rfl
          have v3 := cell_of (HX2.out _ (Below.refl _ _)) (i := 0) rfl
          have v4 := cell_of (HX2.out _ (Below.refl _ _)) (i := 1) rfl
          have v5 := cell_of (HX3.out _ (Below.refl _ _)) (i := 0) rfl
          have v6 := cell_of (HX3.out _ (Below.refl _ _)) (i := 1) rfl
          have v7 := cell_of (HX3.out _ (Below.refl _ _)) (i := 2) rfl
          have v8 := cell_of (HX4.out _ (Below.refl _ _)) (i := 0) rfl
          have v9 := cell_of (HX4.out _ (Below.refl _ _)) (i := 1) rfl
          have v10 := cell_of (HX4.out _ (Below.refl _ _)) (i := 2) rfl
          clear HPB HPC HE1 HE2 HE3 HE4 hp hwp hpi hpm
          by_cases hA : pe0 = qe0
          · have ga : (pe0 == qe0) = true := by simp [hA]
            have hA2 := hpb hA
            have ga2 : decide (qe1 < pe1) = false := decide_eq_false (by omega)
            have ga3 : ¬ qe1 < pe1 := by omega
            clear hA hA2
            by_cases hB : ye0 = ze0
            · have gb : (ye0 == ze0) = true := by simp [hB]
              have hB2 := hpc hB
              have gc : decide (ze1 < ye1) = false := decide_eq_false (by omega)
              have gc2 : ¬ ze1 < ye1 := by omega
              by_cases hC : ye1 = ze1
              · have gd : (ye1 == ze1) = true := by simp [hC]
                have ge : decide (ze2 < ye2) = false := decide_eq_false (by omega)
                have ge2 : ¬ ze2 < ye2 := by omega
                clear hB hC hB2 hpc hpb
                go_wp2_with fail
                go_roundw
                case rel => exact ⟨i + 1, by go_num, by omega, by omega, HC4.out⟩
                case measure => simp [RowKit.intOf]; omega
              · have gd : (ye1 == ze1) = false := by simp [hC]
                clear hB hC hB2 hpc hpb
                go_wp2_with fail
                go_roundw
                case rel => exact ⟨i + 1, by go_num, by omega, by omega, HC4.out⟩
                case measure => simp [RowKit.intOf]; omega
            · have gb : (ye0 == ze0) = false := by simp [hB]
              clear hB hpc hpb
              go_wp2_with fail
              go_roundw
              case rel => exact ⟨i + 1, by go_num, by omega, by omega, HC4.out⟩
              case measure => simp [RowKit.intOf]; omega
          · have ga : (pe0 == qe0) = false := by simp [hA]
            clear hA
            by_cases hB : ye0 = ze0
            · have gb : (ye0 == ze0) = true := by simp [hB]
              have hB2 := hpc hB
              have gc : decide (ze1 < ye1) = false := decide_eq_false (by omega)
              have gc2 : ¬ ze1 < ye1 := by omega
              by_cases hC : ye1 = ze1
              · have gd : (ye1 == ze1) = true := by simp [hC]
                have ge : decide (ze2 < ye2) = false := decide_eq_false (by omega)
                have ge2 : ¬ ze2 < ye2 := by omega
                clear hB hC hB2 hpc hpb
                go_wp2_with fail
                go_roundw
                case rel => exact ⟨i + 1, by go_num, by omega, by omega, HC4.out⟩
                case measure => simp [RowKit.intOf]; omega
              · have gd : (ye1 == ze1) = false := by simp [hC]
                clear hB hC hB2 hpc hpb
                go_wp2_with fail
                go_roundw
                case rel => exact ⟨i + 1, by go_num, by omega, by omega, HC4.out⟩
                case measure => simp [RowKit.intOf]; omega
            · have gb : (ye0 == ze0) = false := by simp [hB]
              clear hB hpc hpb
              go_wp2_with fail
              go_roundw
              case rel => exact ⟨i + 1, by go_num, by omega, by omega, HC4.out⟩
              case measure => simp [RowKit.intOf]; omega
        · have hii : ¬ (i : Int) < (m : Int) := by omega
          go_wp2_with fail
          clear z2
          have HQ := hide HC0.out
          clear HC0
          go_loopw [34] (fun t wr => ∃ i : Nat, t = .int .i64 (i : Int) ∧ 1 ≤ i ∧ i ≤ K + 1 ∧ Below cur.heap.size cur wr) (fun t _ => K + 1 - (RowKit.intOf t).toNat)
          case atStart => exact ⟨1, rfl, Nat.le_refl _, by omega, HQ.out⟩
          case round =>
            clear hii hlt him hi1 HQ
            obtain ⟨i, rfl, hi1, him, hbr⟩ := hrel
            have HC0 := hide hbr
            clear hbr
            obtain ⟨zc, hz1⟩ := HL4.out _ HC0.out
            by_cases hlt : i < K
            · have hii : (i : Int) < (K : Int) := by omega
              obtain ⟨p, hp⟩ : ∃ p : Nat, (i : Int) - 1 = (p : Int) := ⟨i - 1, by omega⟩
              have hpi : p + 1 = i := by omega
              have hpm : (p : Int) < (K : Int) := by omega
              have hwp : IntKind.i64.wrap ((i : Int) - 1) = (p : Int) := by rw [← hp]; exact IntWalk.i64_in _ (by omega)
              have HZD : Hid (EAt wr (.slice (some ⟨R4, 0, none⟩) D.length K) D) := by show EAt _ _ _; rw [HDL.out]; exact hz1
              obtain ⟨gx, ox, hox, _, d1, d2, _⟩ := HZD.out.cellAt (i := p) (by rw [HDL.out]; omega)
              simp only [Option.some.injEq, Addr.mk.injEq, and_true] at hox
              obtain ⟨rfl, rfl⟩ := hox
              obtain ⟨gx, ox, hox, _, d3, d4, _⟩ := HZD.out.cellAt (i := i) (by rw [HDL.out]; omega)
              simp only [Option.some.injEq, Addr.mk.injEq, and_true] at hox
              obtain ⟨rfl, rfl⟩ := hox
              rw [Nat.zero_add] at d1 d2 d3 d4
              have hpd := pair_at HTW.out.pd (i := p) (j := i) (by omega) (by rw [HDL.out]; omega)
              obtain ⟨a0, ha0⟩ : ∃ x, x = (eAt D p).1 := ⟨_, rfl⟩
              obtain ⟨a1, ha1⟩ : ∃ x, x = (eAt D p).2.1 := ⟨_, rfl⟩
              obtain ⟨c0, hc0⟩ : ∃ x, x = (eAt D i).1 := ⟨_, rfl⟩
              obtain ⟨c1, hc1⟩ : ∃ x, x = (eAt D i).2.1 := ⟨_, rfl⟩
              rw [← ha0, ← ha1, ← hc0, ← hc1] at hpd
              rw [← ha0] at d1
              rw [← ha1] at d2
              rw [← hc0] at d3
              rw [← hc1] at d4
              clear ha0 ha1 hc0 hc1 hz1 HZD
              by_cases hA : a0 = c0
              · have ga : (a0 == c0) = true := by simp [hA]
                have hA2 := hpd hA
                have gb : decide (c1 ≤ a1) = false := decide_eq_false (by omega)
                have gb2 : ¬ c1 ≤ a1 := by omega
                clear hA hA2 hpd hp hpi
                go_wp2_with fail
                go_quiet (fail)
                go_wp2_with fail
                go_roundw
                case rel => exact ⟨i + 1, by go_num, by omega, by omega, below_drewN HC0.out _⟩
                case measure => simp [RowKit.intOf]; omega
              · have ga : (a0 == c0) = false := by simp [hA]
                clear hA hpd hp hpi
                go_wp2_with fail
                go_quiet (fail)
                go_wp2_with fail
                go_roundw
                case rel => exact ⟨i + 1, by go_num, by omega, by omega, below_drewN HC0.out _⟩
                case measure => simp [RowKit.intOf]; omega
            · have hii : ¬ (i : Int) < (K : Int) := by omega
              go_wp2_with fail
              go_ret
              exact ⟨rfl, below_on HB.out HC0.out⟩
end Go.Proofs.Ytmagigmcbegmiaa
