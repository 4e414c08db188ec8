import Derived.Test.YteblkbneghbcbaaHx
import Derived.Test.YteblkbneghbcbaaGEd
/- The law's longest: one more than the greatest ahead, along the edges. -/
namespace Go.Proofs.Yteblkbneghbcbaa
open Go.RowKit Go.Lib
set_option linter.unusedVariables false
set_option linter.unusedSimpArgs false
def bstL (dl : List Int) (l : List Ed3) (n : Nat) : Nat → List Int
  | 0 => tab n (fun _ => 0)
  | i + 1 => if at_ (bstL dl l n i) (eTo l i) < at_ dl (eFrom l i) + 1 then (bstL dl l n i).set (eTo l i) (at_ dl (eFrom l i) + 1) else bstL dl l n i
theorem bstL_len (dl : List Int) (l : List Ed3) (n i : Nat) : (bstL dl l n i).length = n := by
  induction i with
  | zero => exact tab_length _ _
  | succ i ih =>
    unfold bstL
    split
    · rw [List.length_set]; exact ih
    · exact ih
structure FB (w wr : World) (gb : Array Value) (A : Nat) (L : List Int) : Prop where
  bel : Below w.heap.size w wr
  box : wr.heap[w.heap.size]? = some (.cells gb 55 (0, 0))
  arr : Arr wr A L
  lt : w.heap.size < A
section
variable {w wr X : World} {gb : Array Value} {A : Nat} {L : List Int}
theorem FB.on (h : FB w wr gb A L) (hb : Below wr.heap.size wr X) : FB w X gb A L := ⟨below_on h.bel hb, (hb.block _ (lt_of_heap h.box)).trans h.box, (hb.block _ (lt_of_heap h.arr)).trans h.arr, h.lt⟩
theorem FB.put (h : FB w wr gb A L) (i : Nat) (x : Int) : FB w (wr.setCell ⟨A, i, none⟩ (.int .i64 x)) gb A (L.set i x) := by
  have hwA := h.lt
  have hc : Chg (fun k => k = A) wr (wr.setCell ⟨A, i, none⟩ (.int .i64 x)) := (Chg.refl (fun k => k = A) wr).setCell (p := ⟨A, i, none⟩) rfl _
  exact ⟨Chg.below h.bel hc (fun k hk => by omega) h.bel.size, hc.heap h.box (by omega), h.arr.put i x, hwA⟩
end
set_option maxRecDepth 100000 in
set_option maxHeartbeats 8000000 in
theorem longest_any (n m : Nat) (eo : Option Addr) (ec : Nat) (dv : Value) (l : List Ed3) (dl : List Int) (w : World) (hE : EAt w (.slice eo m ec) l) (hm : l.length = m) (hd : RowAt .i64 w dv dl) (hdl : dl.length = n) (hn : n ≤ 1048576) (hmm : m ≤ 4194304)
    (hf : ∀ i, i < m → (eAt l i).1 = (eFrom l i : Int) ∧ eFrom l i < n) (ht : ∀ i, i < m → (eAt l i).2.1 = (eTo l i : Int) ∧ eTo l i < n) (hb : ∀ v, v < n → 0 ≤ at_ dl v ∧ at_ dl v ≤ 4398046511104) :
    Calls Try.prog 34 #[.agg #[.int .i64 n, .slice eo m ec], dv] w fun e w' => e = .returned (.bool (decide (bstL dl l n m = dl))) ∧ Below w.heap.size w w' := by
  obtain ⟨i3, hi3, hz3, hs3, hy3⟩ := info_parts Try.info3
  obtain ⟨w1, hw1⟩ : ∃ w1, w1 = w.alloc (.cells #[.int .i64 n, .slice eo m ec] 55) := ⟨_, rfl⟩
  have hb1 : Below w.heap.size w w1 := by rw [hw1]; exact below_alloc (Below.refl _ _) _
  have hA : w1.heap[w.heap.size]? = some (.cells #[.int .i64 n, .slice eo m ec] 55 (0, 0)) := by rw [hw1]; exact heap_new _ _
  obtain ⟨d_o, dc, rfl⟩ := hd.shape
  rw [hdl] at hd ⊢
  have HE := hide hE; have HD := hide hd; have HDL := hide hdl; have HF := hide hf; have HT := hide ht; have HB := hide hb; have HM := hide hm
  have HB1 := hide hb1; have HA := hide hA
  have c0 := cell_of hA (i := 0) rfl
  have hnn : ((n : Int) != (n : Int)) = false := by simp
  clear hE hd hdl hf ht hb hm hb1 hA
  go_enter Try.func34, Try.ntmps34
  go_upto_region 1 with fail
  rw [← hw1]
  clear hw1
  go_upto_region 4 with (first
    | (at_make; refine wpList_make_full _ rfl _ _ 22 rfl w1.heap.size 3 i3 (.int .i64 0) 1 Try.underlying22 hi3 hz3 hs3 _ _ _ _ n rfl rfl rfl rfl (by rw [hy3]; omega) (by unfold maxLen; omega) (Nat.le_refl _) ?_; intro w2 hown hgrow)
    | fail)
  have hb2 : Below w1.heap.size w1 w2 := (Below.refl _ _).grown hgrow (Nat.le_refl _) (by intro j hj; cases hj)
  have HFB : Hid (FB w w2 #[.int .i64 n, .slice eo m ec] w1.heap.size (bstL dl l n 0)) := by
    refine ⟨below_on HB1.out hb2, (hb2.block _ (lt_of_heap HA.out)).trans HA.out, ?_, lt_of_heap HA.out⟩
    have := arr_made hown
    simpa [bstL] using this
  generalize w1.heap.size = A at HFB ⊢
  clear hown hgrow hb2 c0 HB1 HA
  go_wp2_with fail
  go_loopw [6, 7] (fun t _ wr => ∃ i : Nat, i ≤ m ∧ t = .int .i64 i ∧ FB w wr #[.int .i64 n, .slice eo m ec] A (bstL dl l n i)) (fun t _ _ => m - (RowKit.intOf t).toNat)
  case atStart => exact ⟨0, Nat.zero_le _, rfl, HFB.out⟩
  case round =>
    obtain ⟨i, hi, rfl, hfb⟩ := hrel
    have HFR := hide hfb
    clear hfb HFB
    have c0 := cell_of HFR.out.box (i := 0) rfl
    have c1 := cell_of HFR.out.box (i := 1) rfl
    by_cases hlt : i < m
    · have hEr := HE.out.below HFR.out.bel
      rw [← HM.out] at hEr
      obtain ⟨g, o, rfl, hgl, e0, e1, e2⟩ := hEr.cellAt (i := i) (by have := HM.out; omega)
      obtain ⟨hf1, hf2⟩ := HF.out i hlt
      obtain ⟨ht1, ht2⟩ := HT.out i hlt
      rw [hf1] at e0
      rw [ht1] at e1
      obtain ⟨f, hff⟩ : ∃ f, f = eFrom l i := ⟨_, rfl⟩
      obtain ⟨t, htt⟩ : ∃ t, t = eTo l i := ⟨_, rfl⟩
      rw [← hff] at e0 hf2
      rw [← htt] at e1 ht2
      have HFF := hide hff; have HTT := hide htt
      clear hff htt hf1 ht1 hEr
      generalize (eAt l i).2.2 = x at e2
      go_upto_region 8 with fail
      obtain ⟨V, hV⟩ : ∃ V, V = wr.alloc (.cells #[.int .i64 (f : Int), .int .i64 (t : Int), .int .u64 x] 60) := ⟨_, rfl⟩
      have hbV : Below wr.heap.size wr V := by rw [hV]; exact below_alloc (Below.refl _ _) _
      have hVA : V.heap[wr.heap.size]? = some (.cells #[.int .i64 (f : Int), .int .i64 (t : Int), .int .u64 x] 60 (0, 0)) := by rw [hV]; exact heap_new _ _
      rw [← hV]
      clear hV c0 c1 e0 e1 e2
      have HFV := hide (HFR.out.on hbV)
      have q0 := cell_of hVA (i := 0) rfl
      have q1 := cell_of hVA (i := 1) rfl
      have q2 := cell_of hVA (i := 2) rfl
      have hAl := lt_of_heap HFR.out.arr
      obtain ⟨E, hEb⟩ : ∃ E, E = wr.heap.size := ⟨_, rfl⟩
      rw [← hEb] at q0 q1 q2 hAl ⊢
      clear hEb hVA
      obtain ⟨gd, od, dc', he, _, dd⟩ := (HD.out.below HFV.out.bel).cellAt f (by rw [HDL.out]; exact hf2)
      rw [HDL.out] at he
      simp only [Value.slice.injEq, true_and] at he
      obtain ⟨rfl, rfl⟩ := he
      have a0 := HFV.out.arr.cell t (by rw [bstL_len]; exact ht2)
      have a1 := HFV.out.arr.free t
      obtain ⟨y1, y2⟩ := HB.out f hf2
      obtain ⟨y, hy⟩ : ∃ y, y = at_ dl f := ⟨_, rfl⟩
      obtain ⟨z, hz⟩ : ∃ z, z = at_ (bstL dl l n i) t := ⟨_, rfl⟩
      rw [← hy] at dd y1 y2
      rw [← hz] at a0
      have hst : bstL dl l n (i + 1) = if z < y + 1 then (bstL dl l n i).set t (y + 1) else bstL dl l n i := by
        rw [hz, hy, HTT.out, HFF.out]; rfl
      have HST := hide hst
      clear hst hy hz
      have hd1 : ¬ A = E := by omega
      have hd2 : ¬ E = A := by omega
      by_cases hx : z < y + 1
      · have hxd : decide (z < y + 1) = true := by simpa using hx
        go_quiet (fail)
        have HFN := hide (HFV.out.on (below_drewN (Below.refl _ _) nq))
        have a0' := HFN.out.arr.cell t (by rw [bstL_len]; exact ht2)
        have a1' := HFN.out.arr.free t
        go_wp2_with fail
        go_region
        go_wp2_with fail
        refine ⟨⟨i + 1, by omega, by simp, ?_⟩, by simp [RowKit.intOf]; omega⟩
        rw [HST.out, if_pos hx]
        exact (HFV.out.on (below_drewN (Below.refl _ _) _)).put _ _
      · have hxd : decide (z < y + 1) = false := by simpa using hx
        go_quiet (fail)
        have HFN := hide (HFV.out.on (below_drewN (Below.refl _ _) nq))
        go_wp2_with fail
        refine ⟨⟨i + 1, by omega, by simp, ?_⟩, by simp [RowKit.intOf]; omega⟩
        rw [HST.out, if_neg hx]
        exact HFN.out
    · obtain rfl : m = i := by omega
      have HSM := hide (lawSame_any (.slice (some ⟨A, 0, none⟩) n n) (.slice d_o n dc) _ dl wr (HFR.out.arr.row (bstL_len _ _ _ _) (by omega)) (HD.out.below HFR.out.bel))
      go_wp2_with fail
      refine HSM.out.mono ?_
      rintro e w9 ⟨rfl, hb9⟩
      go_wp2_with fail
      go_ret
      exact ⟨rfl, below_on HFR.out.bel hb9⟩
end Go.Proofs.Yteblkbneghbcbaa

/- The law's circle: a circle, edge by edge. -/
namespace Go.Proofs.Yteblkbneghbcbaa
open Go.RowKit Go.Lib
set_option linter.unusedVariables false
set_option linter.unusedSimpArgs false
/-- Which sources have been seen. -/
def sn (st c : List Int) (n k x : Nat) : Bool := (List.range k).any (fun j => decide (src st n (at_ c j).toNat = x))
theorem sn_zero (st c : List Int) (n : Nat) : sn st c n 0 = fun _ => false := funext fun x => by simp [sn]
theorem sn_next {st c : List Int} {n k a : Nat} (h : src st n (at_ c k).toNat = a) : (fun x => if x = a then true else sn st c n k x) = sn st c n (k + 1) := funext fun x => by
  simp only [sn, List.range_succ, List.any_append, List.any_cons, List.any_nil, Bool.or_false]
  by_cases e : x = a
  · rw [if_pos e, h, e]; simp
  · rw [if_neg e, h, decide_eq_false (fun h => e h.symm)]; simp
theorem sn_not {st tl c : List Int} {n k : Nat} (h : Ci n st tl c) (hk : k < c.length) : sn st c n k (src st n (at_ c k).toNat) = false := by
  rw [← Bool.not_eq_true]
  intro h2
  simp only [sn, List.any_eq_true, List.mem_range, decide_eq_true_eq] at h2
  obtain ⟨j, h3, h4⟩ := h2
  have := h.apart j k (by omega) hk h4
  omega
theorem eAt_upto (f : Nat → Ed3) (m i : Nat) (h : i < m) : eAt (upto f m) i = f i := by simp [eAt, upto, h]
structure FC (w wr : World) (gb : Array Value) (C n : Nat) (K : Nat → Bool) : Prop where
  bel : Below w.heap.size w wr
  box : wr.heap[w.heap.size]? = some (.cells gb 55 (0, 0))
  car : BArr wr C (btab n K)
  lt : w.heap.size < C
section
variable {w wr X : World} {gb : Array Value} {C n : Nat} {K : Nat → Bool}
theorem FC.on (h : FC w wr gb C n K) (hb : Below wr.heap.size wr X) : FC w X gb C n K := ⟨below_on h.bel hb, (hb.block _ (lt_of_heap h.box)).trans h.box, (hb.block _ (lt_of_heap h.car)).trans h.car, h.lt⟩
theorem FC.put (h : FC w wr gb C n K) (i : Nat) (b : Bool) : FC w (wr.setCell ⟨C, i, none⟩ (.bool b)) gb C n (fun v => if v = i then b else K v) := by
  have hwA := h.lt
  have hc : Chg (fun k => k = C) wr (wr.setCell ⟨C, i, none⟩ (.bool b)) := (Chg.refl (fun k => k = C) wr).setCell (p := ⟨C, i, none⟩) rfl _
  exact ⟨Chg.below h.bel hc (fun k hk => by omega) h.bel.size, hc.heap h.box (by omega), h.car.put i b, hwA⟩
end
set_option maxRecDepth 100000 in
set_option maxHeartbeats 8000000 in
theorem circL_any (n m : Nat) (eo : Option Addr) (ec : Nat) (cv : Value) (st tl wt c : List Int) (w : World) (hE : EAt w (.slice eo m ec) (upto (edgeAt n st tl wt) m)) (hm : tl.length = m) (hg : Good n st tl wt) (hcv : RowAt .i64 w cv c) (hci : Ci n st tl c) :
    Calls Try.prog 32 #[.agg #[.int .i64 n, .slice eo m ec], cv] w fun e w' => e = .returned (.bool true) ∧ Below w.heap.size w w' := by
  obtain ⟨i4, hi4, hz4, hs4, hy4⟩ := info_parts Try.info4
  have hnl := hg.n_le
  have hml := hg.m_le
  rw [hm] at hml
  have hul : (upto (edgeAt n st tl wt) m).length = m := upto_len _ _
  have HEC : Hid (∀ X, Below w.heap.size w X → ∀ e, e < m → ∃ g o, eo = some ⟨g, o, none⟩ ∧ g < w.heap.size ∧ X.cell? ⟨g, o + e * 3, none⟩ = some (.int .i64 (src st n e : Int)) ∧ X.cell? ⟨g, o + e * 3 + 1, none⟩ = some (.int .i64 (at_ tl e))) := fun X hX e he => by
    have h0 : EAt w (.slice eo (upto (edgeAt n st tl wt) m).length ec) (upto (edgeAt n st tl wt) m) := by rw [hul]; exact hE
    obtain ⟨g, o, h1, h2, h3, h4, h5⟩ := h0.cellAt (i := e) (by rw [hul]; exact he)
    rw [eAt_upto _ _ _ he] at h3 h4
    exact ⟨g, o, h1, h2, (below_cell hX h2).trans h3, (below_cell hX h2).trans h4⟩
  obtain ⟨co, cc, rfl⟩ := hcv.shape
  obtain ⟨kl, hkl⟩ : ∃ kl, kl = c.length := ⟨_, rfl⟩
  have hk0 := hci.pos
  have hkn := hci.few
  have HV := hide hcv; have HCI := hide hci; have HG := hide hg; have HM := hide hm; have HKL := hide hkl
  rw [← hkl] at hk0 hkn HV ⊢
  obtain ⟨w1, hw1⟩ : ∃ w1, w1 = w.alloc (.cells #[.int .i64 n, .slice eo m ec] 55) := ⟨_, rfl⟩
  have hb1 : Below w.heap.size w w1 := by rw [hw1]; exact below_alloc (Below.refl _ _) _
  have hA : w1.heap[w.heap.size]? = some (.cells #[.int .i64 n, .slice eo m ec] 55 (0, 0)) := by rw [hw1]; exact heap_new _ _
  have c0 := cell_of hA (i := 0) rfl
  have HB1 := hide hb1; have HA := hide hA
  have hke : ((kl : Int) == 0) = false := by simp; omega
  clear hE hm hg hcv hci hkl hul hb1 hA
  go_enter Try.func32, Try.ntmps32
  go_upto_region 1 with fail
  rw [← hw1]
  clear hw1
  go_upto_region 4 with (first
    | (at_make; refine wpList_make_full _ rfl _ _ 51 rfl w1.heap.size 4 i4 (.bool false) 1 Try.underlying51 hi4 hz4 hs4 _ _ _ _ n rfl rfl rfl rfl (by rw [hy4]; omega) (by unfold maxLen; omega) (Nat.le_refl _) ?_; intro w2 hown hgrow)
    | fail)
  have hb2 : Below w1.heap.size w1 w2 := (Below.refl _ _).grown hgrow (Nat.le_refl _) (by intro j hj; cases hj)
  have HFB : Hid (FC w w2 #[.int .i64 n, .slice eo m ec] w1.heap.size n (sn st c n 0)) := by
    refine ⟨below_on HB1.out hb2, (hb2.block _ (lt_of_heap HA.out)).trans HA.out, ?_, lt_of_heap HA.out⟩
    rw [sn_zero]
    exact barr_made hown
  generalize w1.heap.size = C at HFB ⊢
  clear hown hgrow hb2 c0 HB1 HA hke
  go_wp2_with fail
  go_loopw [6] (fun t wr => ∃ i : Nat, i ≤ kl ∧ t = .int .i64 i ∧ FC w wr #[.int .i64 n, .slice eo m ec] C n (sn st c n i)) (fun t _ => kl - (RowKit.intOf t).toNat)
  case atStart => exact ⟨0, Nat.zero_le _, rfl, HFB.out⟩
  case round =>
    obtain ⟨i, hi, rfl, hfb⟩ := hrel
    have HFR := hide hfb
    clear hfb HFB
    by_cases hlt : i < kl
    · have c1 := cell_of HFR.out.box (i := 1) rfl
      have hic : i < c.length := by have := HKL.out; omega
      obtain ⟨gl, ol, lc, he, _, hx⟩ := (HV.out.below HFR.out.bel).cellAt i hic
      rw [← HKL.out] at he
      simp only [Value.slice.injEq, true_and] at he
      obtain ⟨rfl, rfl⟩ := he
      obtain ⟨e, he1, he2⟩ := HCI.out.edge i hic
      rw [HM.out] at he2
      rw [he1] at hx
      obtain ⟨g, o, rfl, hgl, e0, e1⟩ := HEC.out _ HFR.out.bel e he2
      obtain ⟨a, ha⟩ : ∃ a, a = src st n e := ⟨_, rfl⟩
      have han : a < n := by rw [ha]; exact src_lt HG.out (by rw [HM.out]; exact he2)
      rw [← ha] at e0
      have y1 := HFR.out.car.cell a han
      have yf := HFR.out.car.free a
      have hsn := sn_not HCI.out hic
      rw [he1, Int.toNat_natCast, ← ha] at hsn
      rw [hsn] at y1
      have HSX := hide (sn_next (st := st) (c := c) (n := n) (k := i) (a := a) (by rw [he1, Int.toNat_natCast, ← ha]))
      have he00 : ¬ (e : Int) < 0 := by omega
      have hem0 : ¬ (m : Int) ≤ (e : Int) := by omega
      clear he1 ha hsn hic
      go_upto_region 7 with fail
      go_quiet (fail)
      have HFN := hide (HFR.out.on (below_drewN (Below.refl _ _) nq))
      have y1' := HFN.out.car.cell a han
      have yf' := HFN.out.car.free a
      have hd1 : ¬ C = g := by have := HFR.out.lt; omega
      have hd2 : ¬ g = C := by have := HFR.out.lt; omega
      go_wp2_with fail
      go_region
      go_wp2_with fail
      refine ⟨⟨i + 1, by omega, by simp, ?_⟩, by simp [RowKit.intOf]; omega⟩
      rw [← HSX.out]
      exact (HFR.out.on (below_drewN (Below.refl _ _) _)).put _ _
    · have HF4 := hide HFR.out
      clear HFR hi
      go_wp2_with fail
      clear hlt
      generalize sn st c n i = K at HF4
      go_loopw [7] (fun t wr => ∃ i : Nat, i ≤ kl ∧ t = .int .i64 i ∧ FC w wr #[.int .i64 n, .slice eo m ec] C n K) (fun t _ => kl - (RowKit.intOf t).toNat)
      case atStart => exact ⟨0, Nat.zero_le _, rfl, HF4.out⟩
      case round =>
        obtain ⟨j, hj, rfl, hfb⟩ := hrel
        have HFR := hide hfb
        clear hfb HF4
        by_cases hlt : j < kl
        · have c1 := cell_of HFR.out.box (i := 1) rfl
          have hic : j < c.length := by have := HKL.out; omega
          obtain ⟨j2, hj2⟩ : ∃ j2, j2 = (j + 1) % kl := ⟨_, rfl⟩
          have hj2k : j2 < kl := by rw [hj2]; exact Nat.mod_lt _ (by omega)
          have hic2 : j2 < c.length := by have := HKL.out; omega
          obtain ⟨gl, ol, lc, he, _, hx⟩ := (HV.out.below HFR.out.bel).cellAt j hic
          rw [← HKL.out] at he
          simp only [Value.slice.injEq, true_and] at he
          obtain ⟨rfl, rfl⟩ := he
          obtain ⟨gl2, ol2, lc2, he, _, hx2⟩ := (HV.out.below HFR.out.bel).cellAt j2 hic2
          rw [← HKL.out] at he
          simp only [Value.slice.injEq, Option.some.injEq, Addr.mk.injEq, and_true, true_and] at he
          obtain ⟨⟨rfl, rfl⟩, rfl⟩ := he
          obtain ⟨e, he1, he2⟩ := HCI.out.edge j hic
          obtain ⟨d, hd1, hd2⟩ := HCI.out.edge j2 hic2
          rw [HM.out] at he2 hd2
          rw [he1] at hx
          rw [hd1] at hx2
          obtain ⟨g, o, rfl, hgl, e0, e1⟩ := HEC.out _ HFR.out.bel e he2
          obtain ⟨g', o', he, _, d0, d1⟩ := HEC.out _ HFR.out.bel d hd2
          simp only [Option.some.injEq, Addr.mk.injEq, and_true] at he
          obtain ⟨rfl, rfl⟩ := he
          have hnx := HCI.out.next j hic
          rw [← HKL.out, ← hj2, he1, hd1, Int.toNat_natCast, Int.toNat_natCast] at hnx
          rw [hnx] at e1
          generalize src st n d = a at e1 d0
          have hw1 : IntKind.i64.wrap ((j : Int) + 1) = (j : Int) + 1 := IntWalk.i64_in _ (by omega)
          have hrm : ((j : Int) + 1).tmod (kl : Int) = (j2 : Int) := by rw [hj2]; rfl
          have hkl0 : ¬ (kl : Int) = 0 := by omega
          have haa : ((a : Int) != (a : Int)) = false := by simp
          clear he1 hd1 hnx hj2 hic hic2 e0 d1
          go_upto_region 13 with fail
          go_quiet (fail)
          go_wp2_with fail
          exact ⟨⟨j + 1, by omega, by simp, HFR.out.on (below_drewN (Below.refl _ _) _)⟩, by simp [RowKit.intOf]; omega⟩
        · have hjk : j = kl := by omega
          go_wp2_with fail
          go_ret
          exact ⟨rfl, HFR.out.bel⟩
end Go.Proofs.Yteblkbneghbcbaa

/- The law's forward, plainly. -/
namespace Go.Proofs.Yteblkbneghbcbaa
open Go.RowKit Go.Lib
set_option linter.unusedVariables false
set_option linter.unusedSimpArgs false
structure Fwd (n : Nat) (st tl o : List Int) (P : Nat → Nat) : Prop where
  len : o.length = n
  rng : ∀ i, i < n → ∃ v : Nat, at_ o i = (v : Int) ∧ v < n ∧ P v = i
  pos : ∀ v, v < n → P v < n ∧ at_ o (P v) = (v : Int)
  edge : ∀ e, e < tl.length → P (src st n e) < P (tN tl e)
  prev : ∀ i, 1 ≤ i → i < n → at_ o i < at_ o (i - 1) → ∃ e, e < tl.length ∧ (src st n e : Int) = at_ o (i - 1) ∧ at_ tl e = at_ o i
theorem cn_pos {tl : List Int} {D : Nat → Bool} {u : Int} (h : cn tl D u ≠ 0) : ∃ e, e < tl.length ∧ at_ tl e = u ∧ D e = false := by
  have h1 : 0 < (List.range tl.length).countP (fun e => decide (at_ tl e = u) && !D e) := Nat.pos_of_ne_zero h
  rw [List.countP_pos_iff] at h1
  obtain ⟨e, he, h2⟩ := h1
  simp at h2
  exact ⟨e, by simpa using he, h2.1, h2.2⟩
theorem cn_none {tl : List Int} {D : Nat → Bool} {u : Int} (h : cn tl D u = 0) : ∀ e, e < tl.length → at_ tl e = u → D e = true := by
  intro e he h1
  have h2 : (List.range tl.length).countP (fun e => decide (at_ tl e = u) && !D e) = 0 := h
  rw [List.countP_eq_zero] at h2
  have := h2 e (by simpa using he)
  simp [h1] at this
  exact this
theorem split_at (o : List Int) (i : Nat) (hi : i < o.length) : o = o.take i ++ at_ o i :: o.drop (i + 1) := by
  have : at_ o i = o[i] := by unfold at_; rw [List.getElem?_eq_getElem hi]; rfl
  rw [this, ← List.drop_eq_getElem_cons hi, List.take_append_drop]
theorem fwd_of {n : Nat} {st tl wt o : List Int} (hg : Good n st tl wt) (h : Sq n st tl o) (hl : o.length = n) : ∃ P, Fwd n st tl o P := by
  obtain ⟨hr, hnd⟩ := Sq.rng n st tl h
  have hat : ∀ i, i < n → at_ o i ∈ o := fun i hi => at_mem (by omega)
  have hinj : ∀ i j, i < n → j < n → at_ o i = at_ o j → i = j := by
    intro i j hi hj e
    have h1 : at_ o i = o[i]'(by omega) := by unfold at_; rw [List.getElem?_eq_getElem (by omega)]; rfl
    have h2 : at_ o j = o[j]'(by omega) := by unfold at_; rw [List.getElem?_eq_getElem (by omega)]; rfl
    rw [h1, h2] at e
    exact (List.getElem_inj hnd).1 e
  have hsur : ∀ v, v < n → ∃ i, i < n ∧ at_ o i = (v : Int) := by
    intro v hv
    obtain ⟨i, hi, he⟩ := inj_surj n (fun i => (at_ o i).toNat) (fun i hi => by have := hr _ (hat i hi); omega) (fun i j hi hj e => by
      have h1 := hr _ (hat i hi); have h2 := hr _ (hat j hj)
      exact hinj i j hi hj (by omega)) v hv
    have := hr _ (hat i hi)
    exact ⟨i, hi, by omega⟩
  have hP : ∃ P : Nat → Nat, ∀ v, v < n → P v < n ∧ at_ o (P v) = (v : Int) := by
    refine ⟨fun v => if hv : v < n then (hsur v hv).choose else 0, fun v hv => ?_⟩
    simp only [dif_pos hv]
    exact (hsur v hv).choose_spec
  obtain ⟨P, hP⟩ := hP
  have hsp : ∀ i, i < n → Rdy n tl (dn n st (o.take i)) (o.take i) (at_ o i) ∧ ∀ v, Rdy n tl (dn n st (o.take i)) (o.take i) v → at_ o i ≤ v := fun i hi => by
    have h1 := h
    rw [split_at o i (by omega), show o.take i ++ at_ o i :: o.drop (i + 1) = (o.take i ++ [at_ o i]) ++ o.drop (i + 1) by simp] at h1
    exact Sq.last n st tl (Sq.front n st tl h1)
  have hmt : ∀ i, i ≤ n → ∀ x, x ∈ o.take i → ∃ j, j < i ∧ at_ o j = x := by
    intro i hi x hx
    obtain ⟨j, hj, e⟩ := List.mem_iff_getElem.1 hx
    rw [List.length_take] at hj
    refine ⟨j, by omega, ?_⟩
    rw [← e, List.getElem_take]
    unfold at_; rw [List.getElem?_eq_getElem (by omega)]; rfl
  refine ⟨P, hl, ?_, hP, ?_, ?_⟩
  · intro i hi
    have h1 := hr _ (hat i hi)
    refine ⟨(at_ o i).toNat, by omega, by omega, ?_⟩
    have h2 := hP (at_ o i).toNat (by omega)
    exact hinj _ _ h2.1 hi (by rw [h2.2]; omega)
  · intro e he
    have hs := src_lt hg he
    have ht := hg.vtx e he
    have htn : tN tl e < n := by unfold tN; omega
    obtain ⟨p1, p2⟩ := hP _ htn
    obtain ⟨q1, q2⟩ := hP _ hs
    have h1 := cn_none (hsp (P (tN tl e)) p1).1.2.2 e he (by rw [p2]; unfold tN; omega)
    have h2 : (src st n e : Int) ∈ o.take (P (tN tl e)) := by simpa [dn] using h1
    obtain ⟨j, hj, hj2⟩ := hmt _ (by omega) _ h2
    have := hinj _ _ q1 (by omega) (q2.trans hj2.symm)
    omega
  · intro i h1 h2 h3
    have k1 := hsp (i - 1) (by omega)
    have k2 := hsp i h2
    have hnr : ¬ Rdy n tl (dn n st (o.take (i - 1))) (o.take (i - 1)) (at_ o i) := fun hc => by have := k1.2 _ hc; omega
    have hni : ¬ at_ o i ∈ o.take (i - 1) := fun hc => by
      obtain ⟨j, hj, e⟩ := hmt _ (by omega) _ hc
      have := hinj j i (by omega) h2 e
      omega
    have hcn : cn tl (dn n st (o.take (i - 1))) (at_ o i) ≠ 0 := fun hc => hnr ⟨hr _ (hat i h2), hni, hc⟩
    obtain ⟨e, he, e1, e2⟩ := cn_pos hcn
    refine ⟨e, he, ?_, e1⟩
    have h4 := cn_none k2.1.2.2 e he e1
    have h5 : (src st n e : Int) ∈ o.take i := by simpa [dn] using h4
    have h6 : ¬ (src st n e : Int) ∈ o.take (i - 1) := by simpa [dn] using e2
    obtain ⟨j, hj, e3⟩ := hmt _ (by omega) _ h5
    have : j = i - 1 := by
      rcases Nat.lt_or_ge j (i - 1) with hj2 | hj2
      · exfalso
        refine h6 ?_
        rw [← e3]
        have : at_ o j = o[j]'(by omega) := by unfold at_; rw [List.getElem?_eq_getElem (by omega)]; rfl
        rw [this]
        exact List.mem_take_iff_getElem.2 ⟨j, by omega, rfl⟩
      · omega
    rw [← this]; exact e3.symm
def laL (P : Nat → Nat) (n : Nat) (st tl : List Int) : Nat → List Int
  | 0 => tab n (fun _ => -1)
  | i + 1 => if at_ (laL P n st tl i) (tN tl i) < (P (src st n i) : Int) then (laL P n st tl i).set (tN tl i) (P (src st n i) : Int) else laL P n st tl i
theorem laL_len (P : Nat → Nat) (n : Nat) (st tl : List Int) (i : Nat) : (laL P n st tl i).length = n := by
  induction i with
  | zero => exact tab_length _ _
  | succ i ih =>
    unfold laL
    split
    · rw [List.length_set]; exact ih
    · exact ih
theorem laL_ge {n : Nat} {st tl wt : List Int} (hg : Good n st tl wt) (P : Nat → Nat) : ∀ i, i ≤ tl.length → ∀ e, e < i → (P (src st n e) : Int) ≤ at_ (laL P n st tl i) (tN tl e) := by
  intro i
  induction i with
  | zero => intro _ e he; omega
  | succ i ih =>
    intro hi e he
    have ht := hg.vtx i (by omega)
    have htn : tN tl i < (laL P n st tl i).length := by rw [laL_len]; unfold tN; omega
    unfold laL
    rcases Nat.lt_or_ge e i with h1 | h1
    · have := ih (by omega) e h1
      split
      · rename_i hlt
        rw [at_set _ _ _ _ htn]
        split
        · rename_i heq
          rw [heq] at this
          omega
        · exact this
      · exact this
    · have : e = i := by omega
      subst this
      split
      · rw [at_set _ _ _ _ htn, if_pos rfl]; exact Int.le_refl _
      · omega
def negL (n k : Nat) : List Int := tab n (fun v => if v < k then -1 else 0)
theorem negL_zero (n : Nat) : negL n 0 = tab n (fun _ => 0) := tab_congr fun v _ => if_neg (by omega)
theorem negL_all (n : Nat) : negL n n = tab n (fun _ => -1) := tab_congr fun v hv => if_pos hv
theorem negL_set (n k : Nat) : (negL n k).set k (-1) = negL n (k + 1) := by
  unfold negL
  rw [tab_set]
  refine tab_congr fun v hv => ?_
  by_cases h1 : v = k
  · rw [if_pos h1, if_pos (by omega)]
  · rw [if_neg h1]
    by_cases h2 : v < k
    · rw [if_pos h2, if_pos (by omega)]
    · rw [if_neg h2, if_neg (by omega)]
def atL (P : Nat → Nat) (n i : Nat) : List Int := tab n (fun v => if P v < i then (P v : Int) else -1)
theorem atL_zero (P : Nat → Nat) (n : Nat) : atL P n 0 = tab n (fun _ => -1) := tab_congr fun v _ => if_neg (by omega)
theorem atL_all {P : Nat → Nat} {n : Nat} (h : ∀ v, v < n → P v < n) : atL P n n = tab n (fun v => (P v : Int)) := tab_congr fun v hv => if_pos (h v hv)
theorem atL_set {P : Nat → Nat} {n i q : Nat} (hq : P q = i) (hu : ∀ v, v < n → P v = i → v = q) : (atL P n i).set q (i : Int) = atL P n (i + 1) := by
  unfold atL
  rw [tab_set]
  refine tab_congr fun v hv => ?_
  by_cases h1 : v = q
  · rw [if_pos h1, h1, if_pos (by omega), hq]
  · rw [if_neg h1]
    have : P v ≠ i := fun e => h1 (hu v hv e)
    by_cases h2 : P v < i
    · rw [if_pos h2, if_pos (by omega)]
    · rw [if_neg h2, if_neg (by omega)]
structure F2 (w wr : World) (gb : Array Value) (A : Nat) (LA : List Int) (B : Nat) (LB : List Int) : Prop where
  f : FB w wr gb A LA
  arr : Arr wr B LB
  AB : A < B
section
variable {w wr X : World} {gb : Array Value} {A B : Nat} {LA LB : List Int}
theorem F2.on (h : F2 w wr gb A LA B LB) (hb : Below wr.heap.size wr X) : F2 w X gb A LA B LB := ⟨h.f.on hb, (hb.block _ (lt_of_heap h.arr)).trans h.arr, h.AB⟩
theorem F2.put (h : F2 w wr gb A LA B LB) (i : Nat) (x : Int) : F2 w (wr.setCell ⟨B, i, none⟩ (.int .i64 x)) gb A LA B (LB.set i x) := by
  have hwA := h.f.lt; have hAB := h.AB
  have hc : Chg (fun k => k = B) wr (wr.setCell ⟨B, i, none⟩ (.int .i64 x)) := (Chg.refl (fun k => k = B) wr).setCell (p := ⟨B, i, none⟩) rfl _
  exact ⟨⟨Chg.below h.f.bel hc (fun k hk => by omega) h.f.bel.size, hc.heap h.f.box (by omega), hc.heap h.f.arr (by omega), hwA⟩, h.arr.put i x, hAB⟩
end
set_option maxRecDepth 100000 in
set_option maxHeartbeats 16000000 in
theorem forward_any (n m : Nat) (eo : Option Addr) (ec : Nat) (ov : Value) (st tl wt o : List Int) (P : Nat → Nat) (w : World) (hE : EAt w (.slice eo m ec) (upto (edgeAt n st tl wt) m)) (hm : tl.length = m) (hg : Good n st tl wt) (hov : RowAt .i64 w ov o) (hf : Fwd n st tl o P) :
    Calls Try.prog 33 #[.agg #[.int .i64 n, .slice eo m ec], ov] w fun e w' => e = .returned (.bool true) ∧ Below w.heap.size w w' := by
  obtain ⟨i3, hi3, hz3, hs3, hy3⟩ := info_parts Try.info3
  have hnl := hg.n_le
  have hml := hg.m_le
  rw [hm] at hml
  have hul : (upto (edgeAt n st tl wt) m).length = m := upto_len _ _
  have HEC : Hid (∀ X, Below w.heap.size w X → ∀ e, e < m → ∃ g q x, eo = some ⟨g, q, none⟩ ∧ g < w.heap.size ∧ X.cell? ⟨g, q + e * 3, none⟩ = some (.int .i64 (src st n e : Int)) ∧ X.cell? ⟨g, q + e * 3 + 1, none⟩ = some (.int .i64 (tN tl e : Int)) ∧ X.cell? ⟨g, q + e * 3 + 2, none⟩ = some (.int .u64 x)) := fun X hX e he => by
    have h0 : EAt w (.slice eo (upto (edgeAt n st tl wt) m).length ec) (upto (edgeAt n st tl wt) m) := by rw [hul]; exact hE
    obtain ⟨g, q, h1, h2, h3, h4, h5⟩ := h0.cellAt (i := e) (by rw [hul]; exact he)
    rw [eAt_upto _ _ _ he] at h3 h4 h5
    have ht : at_ tl e = (tN tl e : Int) := by have := hg.vtx e (by omega); unfold tN; omega
    have h4' : w.cell? ⟨g, q + e * 3 + 1, none⟩ = some (.int .i64 (at_ tl e)) := h4
    rw [ht] at h4'
    exact ⟨g, q, _, h1, h2, (below_cell hX h2).trans h3, (below_cell hX h2).trans h4', (below_cell hX h2).trans h5⟩
  have HSL : Hid (∀ e, e < m → src st n e < n ∧ tN tl e < n) := fun e he => by
    have := hg.vtx e (by omega)
    exact ⟨src_lt hg (by omega), by unfold tN; omega⟩
  obtain ⟨oo, oc, rfl⟩ := hov.shape
  rw [hf.len] at hov ⊢
  have HV := hide hov; have HG := hide hg; have HM := hide hm; have HF := hide hf
  obtain ⟨w1, hw1⟩ : ∃ w1, w1 = w.alloc (.cells #[.int .i64 n, .slice eo m ec] 55) := ⟨_, rfl⟩
  have hb1 : Below w.heap.size w w1 := by rw [hw1]; exact below_alloc (Below.refl _ _) _
  have hA : w1.heap[w.heap.size]? = some (.cells #[.int .i64 n, .slice eo m ec] 55 (0, 0)) := by rw [hw1]; exact heap_new _ _
  have c0 := cell_of hA (i := 0) rfl
  have HB1 := hide hb1; have HA := hide hA
  clear hE hm hg hov hul hb1 hA hf
  go_enter Try.func33, Try.ntmps33
  go_upto_region 1 with fail
  rw [← hw1]
  clear hw1
  go_upto_region 2 with (first
    | (at_make; refine wpList_make_full _ rfl _ _ 22 rfl w1.heap.size 3 i3 (.int .i64 0) 1 Try.underlying22 hi3 hz3 hs3 _ _ _ _ n rfl rfl rfl rfl (by rw [hy3]; omega) (by unfold maxLen; omega) (Nat.le_refl _) ?_; intro w2 hown hgrow)
    | fail)
  have hb2 : Below w1.heap.size w1 w2 := (Below.refl _ _).grown hgrow (Nat.le_refl _) (by intro j hj; cases hj)
  have HFB : Hid (FB w w2 #[.int .i64 n, .slice eo m ec] w1.heap.size (negL n 0)) := by
    refine ⟨below_on HB1.out hb2, (hb2.block _ (lt_of_heap HA.out)).trans HA.out, ?_, lt_of_heap HA.out⟩
    rw [negL_zero]
    exact arr_made hown
  generalize w1.heap.size = A at HFB ⊢
  clear hown hgrow hb2 c0 HB1 HA
  go_wp2_with fail
  go_loopw [6] (fun t wr => ∃ i : Nat, i ≤ n ∧ t = .int .i64 i ∧ FB w wr #[.int .i64 n, .slice eo m ec] A (negL n i)) (fun t _ => n - (RowKit.intOf t).toNat)
  case atStart => exact ⟨0, Nat.zero_le _, rfl, HFB.out⟩
  case round =>
    obtain ⟨i, hi, rfl, hfb⟩ := hrel
    have HFR := hide hfb
    clear hfb HFB
    have c0 := cell_of HFR.out.box (i := 0) rfl
    by_cases hlt : i < n
    · have y1 := HFR.out.arr.cell i (by unfold negL; rw [tab_length]; exact hlt)
      have yf := HFR.out.arr.free i
      go_wp2_with fail
      refine ⟨⟨i + 1, by omega, by simp, ?_⟩, by simp [RowKit.intOf]; omega⟩
      rw [← negL_set]
      exact HFR.out.put _ _
    · obtain rfl : n = i := by omega
      have HF0 : Hid (FB w wr #[.int .i64 n, .slice eo m ec] A (atL P n 0)) := by
        show FB _ _ _ _ _
        rw [atL_zero, ← negL_all]; exact HFR.out
      clear HFR
      go_wp2_with fail
      clear c0
      go_loopw [7] (fun t wr => ∃ i : Nat, i ≤ n ∧ t = .int .i64 i ∧ FB w wr #[.int .i64 n, .slice eo m ec] A (atL P n i)) (fun t _ => n - (RowKit.intOf t).toNat)
      case atStart => exact ⟨0, Nat.zero_le _, rfl, HF0.out⟩
      case round =>
        obtain ⟨i, hi, rfl, hfb⟩ := hrel
        have HFR := hide hfb
        clear hfb HF0
        have c0 := cell_of HFR.out.box (i := 0) rfl
        by_cases hlt : i < n
        · obtain ⟨gl, ol, lc, he, _, hx⟩ := (HV.out.below HFR.out.bel).cellAt i (by rw [HF.out.len]; exact hlt)
          rw [HF.out.len] at he
          simp only [Value.slice.injEq, true_and] at he
          obtain ⟨rfl, rfl⟩ := he
          obtain ⟨q, hq1, hq2, hq3⟩ := HF.out.rng i hlt
          rw [hq1] at hx
          have y1 := HFR.out.arr.cell q (by unfold atL; rw [tab_length]; exact hq2)
          rw [show at_ (atL P n i) q = -1 by unfold atL; rw [tab_at _ _ _ hq2, if_neg (by omega)]] at y1
          have yf := HFR.out.arr.free q
          have HSX := hide (atL_set (P := P) (n := n) hq3 (fun v hv hv2 => by have h1 := (HF.out.pos v hv).2; rw [hv2, hq1] at h1; omega))
          have h00 : ¬ (q : Int) < 0 := by omega
          have hm0 : ¬ (n : Int) ≤ (q : Int) := by omega
          clear hq1 hq3
          go_upto_region 9 with fail
          go_quiet (fail)
          have HFN := hide (HFR.out.on (below_drewN (Below.refl _ _) nq))
          have y1' := HFN.out.arr.cell q (by unfold atL; rw [tab_length]; exact hq2)
          have yf' := HFN.out.arr.free q
          go_wp2_with fail
          refine ⟨⟨i + 1, by omega, by simp, ?_⟩, by simp [RowKit.intOf]; omega⟩
          rw [← HSX.out]
          exact HFN.out.put _ _
        · obtain rfl : n = i := by omega
          have hnn : ((n : Int) != (n : Int)) = false := by simp
          go_upto_region 15 with (first
            | (at_make; refine wpList_make_full _ rfl _ _ 22 rfl wr.heap.size 3 i3 (.int .i64 0) 1 Try.underlying22 hi3 hz3 hs3 _ _ _ _ n rfl rfl rfl rfl (by rw [hy3]; omega) (by unfold maxLen; omega) (Nat.le_refl _) ?_; intro w2 hown hgrow)
            | fail)
          have hb2 : Below wr.heap.size wr w2 := (Below.refl _ _).grown hgrow (Nat.le_refl _) (by intro j hj; cases hj)
          have HF2 : Hid (F2 w w2 #[.int .i64 n, .slice eo m ec] A (tab n (fun v => (P v : Int))) wr.heap.size (negL n 0)) := by
            refine ⟨?_, ?_, lt_of_heap HFR.out.arr⟩
            · rw [← atL_all (fun v hv => (HF.out.pos v hv).1)]
              exact HFR.out.on hb2
            · rw [negL_zero]
              exact arr_made hown
          generalize wr.heap.size = B at HF2 ⊢
          clear hown hgrow hb2 c0 HFR
          go_wp2_with fail
          go_loopw [9] (fun t wr => ∃ i : Nat, i ≤ n ∧ t = .int .i64 i ∧ F2 w wr #[.int .i64 n, .slice eo m ec] A (tab n (fun v => (P v : Int))) B (negL n i)) (fun t _ => n - (RowKit.intOf t).toNat)
          case atStart => exact ⟨0, Nat.zero_le _, rfl, HF2.out⟩
          case round =>
            obtain ⟨i, hi, rfl, hfb⟩ := hrel
            have HFR := hide hfb
            clear hfb HF2
            have c0 := cell_of HFR.out.f.box (i := 0) rfl
            by_cases hlt : i < n
            · have y1 := HFR.out.arr.cell i (by unfold negL; rw [tab_length]; exact hlt)
              have yf := HFR.out.arr.free i
              go_wp2_with fail
              refine ⟨⟨i + 1, by omega, by simp, ?_⟩, by simp [RowKit.intOf]; omega⟩
              rw [← negL_set]
              exact HFR.out.put _ _
            · obtain rfl : n = i := by omega
              have HF3 : Hid (F2 w wr #[.int .i64 n, .slice eo m ec] A (tab n (fun v => (P v : Int))) B (laL P n st tl 0)) := by
                show F2 _ _ _ _ _ _ _
                rw [show laL P n st tl 0 = negL n n by rw [negL_all]; rfl]; exact HFR.out
              clear HFR
              go_wp2_with fail
              clear c0
              go_loopw [10, 11] (fun t _ wr => ∃ i : Nat, i ≤ m ∧ t = .int .i64 i ∧ F2 w wr #[.int .i64 n, .slice eo m ec] A (tab n (fun v => (P v : Int))) B (laL P n st tl i)) (fun t _ _ => m - (RowKit.intOf t).toNat)
              case atStart => exact ⟨0, Nat.zero_le _, rfl, HF3.out⟩
              case round =>
                obtain ⟨i, hi, rfl, hfb⟩ := hrel
                have HFR := hide hfb
                clear hfb HF3
                have c1 := cell_of HFR.out.f.box (i := 1) rfl
                by_cases hlt : i < m
                · obtain ⟨g, q, x, rfl, hgl, e0, e1, e2⟩ := HEC.out _ HFR.out.f.bel i hlt
                  obtain ⟨hs1, hs2⟩ := HSL.out i hlt
                  have hed := HF.out.edge i (by rw [HM.out]; exact hlt)
                  have hst : laL P n st tl (i + 1) = if at_ (laL P n st tl i) (tN tl i) < (P (src st n i) : Int) then (laL P n st tl i).set (tN tl i) (P (src st n i) : Int) else laL P n st tl i := rfl
                  have hpn := (HF.out.pos _ hs1).1
                  have hpn2 := (HF.out.pos _ hs2).1
                  obtain ⟨a, ha⟩ : ∃ a, a = src st n i := ⟨_, rfl⟩
                  obtain ⟨t, htt⟩ : ∃ t, t = tN tl i := ⟨_, rfl⟩
                  rw [← ha] at e0 hs1 hed hst hpn
                  rw [← htt] at e1 hs2 hed hst hpn2
                  clear ha htt
                  go_upto_region 23 with fail
                  obtain ⟨V, hV⟩ : ∃ V, V = wr.alloc (.cells #[.int .i64 (a : Int), .int .i64 (t : Int), .int .u64 x] 60) := ⟨_, rfl⟩
                  have hbV : Below wr.heap.size wr V := by rw [hV]; exact below_alloc (Below.refl _ _) _
                  have hVA : V.heap[wr.heap.size]? = some (.cells #[.int .i64 (a : Int), .int .i64 (t : Int), .int .u64 x] 60 (0, 0)) := by rw [hV]; exact heap_new _ _
                  rw [← hV]
                  clear hV c1 e0 e1 e2
                  have HFV := hide (HFR.out.on hbV)
                  have q0 := cell_of hVA (i := 0) rfl
                  have q1 := cell_of hVA (i := 1) rfl
                  have hBl := lt_of_heap HFR.out.arr
                  obtain ⟨E, hEb⟩ : ∃ E, E = wr.heap.size := ⟨_, rfl⟩
                  rw [← hEb] at q0 q1 hBl ⊢
                  have HVA := hide hVA
                  rw [← hEb] at HVA
                  clear hEb hVA
                  have a0 := HFV.out.f.arr.cell a (by rw [tab_length]; exact hs1)
                  have a1 := HFV.out.f.arr.cell t (by rw [tab_length]; exact hs2)
                  rw [tab_at _ _ _ hs1] at a0
                  rw [tab_at _ _ _ hs2] at a1
                  have b0 := HFV.out.arr.cell t (by rw [laL_len]; exact hs2)
                  obtain ⟨z, hz⟩ : ∃ z, z = at_ (laL P n st tl i) t := ⟨_, rfl⟩
                  rw [← hz] at b0 hst
                  obtain ⟨pa, hpa⟩ : ∃ pa, pa = P a := ⟨_, rfl⟩
                  obtain ⟨pt, hpt⟩ : ∃ pt, pt = P t := ⟨_, rfl⟩
                  rw [← hpa] at a0 hst hed hpn
                  rw [← hpt] at a1 hed hpn2
                  have HST := hide hst
                  clear hst hz hpa hpt
                  have hge : ¬ (pt : Int) ≤ (pa : Int) := by omega
                  go_quiet (fail)
                  have HFN := hide (HFV.out.on (below_drewN (Below.refl _ _) nq))
                  go_upto_region 25 with fail
                  by_cases hx : z < (pa : Int)
                  · have hxd : decide (z < (pa : Int)) = true := by simpa using hx
                    go_quiet (fail)
                    have hd1 : ¬ B = E := by omega
                    have hd2 : ¬ E = B := by omega
                    have hd3 : ¬ A = B := by have := HFR.out.AB; omega
                    have hd4 : ¬ B = A := by have := HFR.out.AB; omega
                    have bf := HFV.out.arr.free t
                    go_wp2_with fail
                    go_region
                    go_wp2_with fail
                    refine ⟨⟨i + 1, by omega, by simp, ?_⟩, by simp [RowKit.intOf]; omega⟩
                    rw [HST.out, if_pos hx]
                    first
                      | exact (HFV.out.on (below_drewN (Below.refl _ _) _)).put _ _
                      | exact (HFN.out.on (below_drewN (Below.refl _ _) _)).put _ _
                  · have hxd : decide (z < (pa : Int)) = false := by simpa using hx
                    go_quiet (fail)
                    go_wp2_with fail
                    refine ⟨⟨i + 1, by omega, by simp, ?_⟩, by simp [RowKit.intOf]; omega⟩
                    rw [HST.out, if_neg hx]
                    first
                      | exact HFV.out.on (below_drewN (Below.refl _ _) _)
                      | exact HFN.out.on (below_drewN (Below.refl _ _) _)
                · obtain rfl : m = i := by omega
                  have HF5 := hide HFR.out
                  have HGE := hide (laL_ge HG.out P m (by rw [HM.out]; exact Nat.le_refl _))
                  clear HFR hi hlt
                  go_wp2_with fail
                  clear c1
                  go_loopw [12] (fun t wr => ∃ i : Nat, 1 ≤ i ∧ t = .int .i64 i ∧ (i ≤ n ∨ i = 1) ∧ F2 w wr #[.int .i64 n, .slice eo m ec] A (tab n (fun v => (P v : Int))) B (laL P n st tl m)) (fun t _ => n + 1 - (RowKit.intOf t).toNat)
                  case atStart => exact ⟨1, Nat.le_refl _, rfl, .inr rfl, HF5.out⟩
                  case round =>
                    obtain ⟨i, hi1, rfl, hi, hfb⟩ := hrel
                    have HFR := hide hfb
                    clear hfb HF5
                    by_cases hlt : i < n
                    · obtain ⟨gl, ol, lc, he, _, hx1⟩ := (HV.out.below HFR.out.f.bel).cellAt i (by rw [HF.out.len]; exact hlt)
                      rw [HF.out.len] at he
                      simp only [Value.slice.injEq, true_and] at he
                      obtain ⟨rfl, rfl⟩ := he
                      obtain ⟨gl2, ol2, lc2, he, _, hx2⟩ := (HV.out.below HFR.out.f.bel).cellAt (i - 1) (by rw [HF.out.len]; omega)
                      rw [HF.out.len] at he
                      simp only [Value.slice.injEq, Option.some.injEq, Addr.mk.injEq, and_true, true_and] at he
                      obtain ⟨⟨rfl, rfl⟩, rfl⟩ := he
                      obtain ⟨q, hq1, hq2, hq3⟩ := HF.out.rng i hlt
                      obtain ⟨r, hr1, hr2, hr3⟩ := HF.out.rng (i - 1) (by omega)
                      have hpv := HF.out.prev i hi1 hlt
                      rw [hq1, hr1] at hpv
                      rw [hq1] at hx1
                      rw [hr1] at hx2
                      have b0 := HFR.out.arr.cell q (by rw [laL_len]; exact hq2)
                      have hz : (q : Int) < (r : Int) → ((i - 1 : Nat) : Int) ≤ at_ (laL P n st tl m) q := fun h => by
                        obtain ⟨e, he, h1, h2⟩ := hpv h
                        have h3 := HGE.out e (by rw [← HM.out]; exact he)
                        have h4 : src st n e = r := by omega
                        have h5 : tN tl e = q := by unfold tN; omega
                        rw [h4, h5, hr3] at h3
                        exact h3
                      generalize at_ (laL P n st tl m) q = z at b0 hz
                      obtain ⟨j, hj⟩ : ∃ j, i = j + 1 := ⟨i - 1, (Nat.sub_add_cancel hi1).symm⟩
                      subst hj
                      rw [Nat.add_sub_cancel] at hx2 hz
                      clear hpv hq1 hr1 hq3 hr3 hi
                      have hji : ((j + 1 : Nat) : Int) < (n : Int) := by omega
                      by_cases hx : (q : Int) < (r : Int)
                      · have hxd : decide ((q : Int) < (r : Int)) = true := by simpa using hx
                        have hzz : ¬ z < (j : Int) := by have := hz hx; omega
                        clear hz
                        go_upto_region 30 with fail
                        go_quiet (fail)
                        go_wp2_with fail
                        exact ⟨⟨j + 1 + 1, by omega, by simp, .inl (by omega), HFR.out.on (below_drewN (Below.refl _ _) _)⟩, by simp [RowKit.intOf]; omega⟩
                      · have hxd : decide ((q : Int) < (r : Int)) = false := by simpa using hx
                        clear hz
                        go_upto_region 30 with fail
                        go_quiet (fail)
                        go_wp2_with fail
                        exact ⟨⟨j + 1 + 1, by omega, by simp, .inl (by omega), HFR.out.on (below_drewN (Below.refl _ _) _)⟩, by simp [RowKit.intOf]; omega⟩
                    · have hd : ¬ (i : Int) < (n : Int) := by omega
                      go_wp2_with fail
                      go_ret
                      exact ⟨rfl, HFR.out.f.bel⟩
end Go.Proofs.Yteblkbneghbcbaa

/- StrongForward, plainly: a circle is, just if a part has two vertices or an edge goes from a vertex to itself. -/
namespace Go.Proofs.Yteblkbneghbcbaa
open Go.RowKit Go.Lib
set_option linter.unusedVariables false
set_option linter.unusedSimpArgs false
theorem cntL_less {B : Nat → Nat → Prop} {v : Nat} (h : lea B v ≠ v) : ∀ k, v + 1 ≤ k → cntL B k < k := by
  intro k
  induction k with
  | zero => intro h; omega
  | succ k ih =>
    intro hk
    rw [cntL_succ]
    rcases Nat.lt_or_ge v k with h1 | h1
    · have := ih (by omega)
      split <;> omega
    · have : k = v := by omega
      subst this
      rw [if_neg h]
      have := cntL_le (B := B) k
      omega
theorem cntL_full {B : Nat → Nat → Prop} {n : Nat} (h : ∀ v, v < n → lea B v = v) : ∀ k, k ≤ n → cntL B k = k := by
  intro k
  induction k with
  | zero => intro _; have := cntL_le (B := B) 0; omega
  | succ k ih => intro hk; rw [cntL_succ, ih (by omega), if_pos (h k (by omega))]
theorem ci_two {n : Nat} {st tl wt c : List Int} (hg : Good n st tl wt) (hc : Ci n st tl c) : cntL (BG n st tl) n < n ∨ ∃ e, e < tl.length ∧ src st n e = tN tl e := by
  have hk := hc.pos
  obtain ⟨S, hS⟩ : ∃ S : Nat → Nat, ∀ a, S a = src st n (at_ c (a % c.length)).toNat := ⟨_, fun _ => rfl⟩
  have hE : ∀ a, EE n (sN st) (tN tl) (S a) (S (a + 1)) := by
    intro a
    obtain ⟨e, h1, h2⟩ := hc.edge (a % c.length) (Nat.mod_lt _ hk)
    have h3 := hc.next (a % c.length) (Nat.mod_lt _ hk)
    rw [h1, Int.toNat_natCast] at h3
    rw [hS, hS, ee_iff hg, h1, Int.toNat_natCast]
    refine ⟨e, h2, rfl, ?_⟩
    unfold tN
    rw [h3, Nat.mod_add_mod]
    exact Int.toNat_natCast _
  have hR : ∀ d a, Rc (EE n (sN st) (tN tl)) (S a) (S (a + d)) := by
    intro d
    induction d with
    | zero => intro a; exact .refl _
    | succ d ih => intro a; exact (ih a).trans (.head (hE (a + d)) (.refl _))
  rcases Nat.lt_or_ge 1 c.length with h2 | h2
  · left
    have h01 : S 0 ≠ S 1 := by
      rw [hS, hS, Nat.zero_mod, Nat.mod_eq_of_lt h2]
      intro e
      have := hc.apart 0 1 hk h2 e
      omega
    have hb : BG n st tl (S 0) (S 1) := by
      refine ⟨hR 1 0, ?_⟩
      have h3 := hR (c.length - 1) 1
      rw [show 1 + (c.length - 1) = c.length by omega] at h3
      have h4 : S c.length = S 0 := by rw [hS, hS, Nat.mod_self, Nat.zero_mod]
      rw [h4] at h3
      exact h3
    have hlt : ∀ a, S a < n := fun a => (hE a).1
    have key : ∀ u v, u < v → v < n → BG n st tl u v → cntL (BG n st tl) n < n := fun u v huv hv hb => by
      refine cntL_less (v := v) ?_ n (by omega)
      have := (lea_spec (Bo.eqv _) v).2.2 u hb
      intro e
      have e2 : lea (BG n st tl) v ≤ u := this
      omega
    rcases Nat.lt_or_ge (S 0) (S 1) with h3 | h3
    · exact key _ _ h3 (hlt 1) hb
    · exact key _ _ (by omega) (hlt 0) hb.symm
  · right
    obtain ⟨e, h1, h2'⟩ := hc.edge 0 hk
    have h3 := hc.next 0 hk
    rw [show (0 + 1) % c.length = 0 by rw [show c.length = 1 by omega], h1, Int.toNat_natCast] at h3
    exact ⟨e, h2', by unfold tN; rw [h3]; exact (Int.toNat_natCast _).symm⟩
theorem fwd_none {n : Nat} {st tl wt o : List Int} {P : Nat → Nat} (hg : Good n st tl wt) (h : Fwd n st tl o P) : cntL (BG n st tl) n = n ∧ ∀ e, e < tl.length → src st n e ≠ tN tl e := by
  have hE : ∀ a b, EE n (sN st) (tN tl) a b → P a < P b := by
    intro a b hab
    obtain ⟨e, he, h1, h2⟩ := (ee_iff hg).1 hab
    rw [← h1, ← h2]
    exact h.edge e he
  have hR : ∀ a b, Rc (EE n (sN st) (tN tl)) a b → a = b ∨ P a < P b := by
    intro a b hab
    induction hab with
    | refl => exact .inl rfl
    | head e _ ih =>
      have := hE _ _ e
      rcases ih with rfl | ih
      · exact .inr this
      · exact .inr (by omega)
  constructor
  · refine cntL_full (fun v hv => ?_) n (Nat.le_refl _)
    obtain ⟨h1, h2, h3⟩ := lea_spec (Bo.eqv (EE n (sN st) (tN tl))) v
    have h4 : Bo (EE n (sN st) (tN tl)) (lea (BG n st tl) v) v := h2
    rcases hR _ _ h4.1 with e | e
    · exact e
    · rcases hR _ _ h4.2 with e2 | e2
      · exact e2.symm
      · omega
  · intro e he hc
    have := h.edge e he
    rw [hc] at this
    omega
end Go.Proofs.Yteblkbneghbcbaa

/- StrongForward, plainly: the longest ways are one more than the greatest ahead. -/
namespace Go.Proofs.Yteblkbneghbcbaa
open Go.RowKit Go.Lib
set_option linter.unusedVariables false
set_option linter.unusedSimpArgs false
structure Mx (n : Nat) (st tl : List Int) (D : Nat → Prop) (L : List Int) (v : Nat) (x : Int) : Prop where
  up : ∀ e, e < tl.length → D e → tN tl e = v → at_ L (src st n e) + 1 ≤ x
  is : x = 0 ∨ ∃ e, e < tl.length ∧ D e ∧ tN tl e = v ∧ x = at_ L (src st n e) + 1
  nn : 0 ≤ x
section
variable {n : Nat} {st tl wt o : List Int} {P : Nat → Nat}
theorem Mx.le {D : Nat → Prop} {L : List Int} {v : Nat} {x y : Int} (h : Mx n st tl D L v x) (k : Mx n st tl D L v y) : x ≤ y := by
  rcases h.is with e | ⟨e, he, hd, ht, hx⟩
  · rw [e]; exact k.nn
  · rw [hx]; exact k.up e he hd ht
theorem Mx.one {D : Nat → Prop} {L : List Int} {v : Nat} {x y : Int} (h : Mx n st tl D L v x) (k : Mx n st tl D L v y) : x = y := by
  have := h.le k; have := k.le h; omega
theorem Mx.congr {D E : Nat → Prop} {L : List Int} {v : Nat} {x : Int} (h : Mx n st tl D L v x) (hd : ∀ e, e < tl.length → (D e ↔ E e)) : Mx n st tl E L v x :=
  ⟨fun e he h1 h2 => h.up e he ((hd e he).2 h1) h2, h.is.imp id (fun ⟨e, he, h1, h2⟩ => ⟨e, he, (hd e he).1 h1, h2⟩), h.nn⟩
/-- One more edge, e0, to a: L' is L but for a. -/
theorem Mx.more {D : Nat → Prop} {L L' : List Int} {e0 : Nat} (he0 : e0 < tl.length) (h : ∀ v, v < n → Mx n st tl D L v (at_ L' v))
    (ha : tN tl e0 < n) (hl : ∀ v, 0 ≤ at_ L v) {K K' : List Int}
    (hs : ∀ e, e < tl.length → (D e ∨ e = e0) → at_ K (src st n e) = at_ L (src st n e))
    (hK : ∀ v, v < n → at_ K' v = if v = tN tl e0 then max (at_ L' v) (at_ L (src st n e0) + 1) else at_ L' v) :
    ∀ v, v < n → Mx n st tl (fun e => D e ∨ e = e0) K v (at_ K' v) := by
  intro v hv
  have hm := h v hv
  rw [hK v hv]
  have hl0 := hl (src st n e0)
  refine ⟨?_, ?_, ?_⟩
  · intro e he hd ht
    rw [hs e he hd]
    rcases hd with hd | rfl
    · have := hm.up e he hd ht
      split <;> omega
    · rw [if_pos ht.symm]
      omega
  · by_cases hva : v = tN tl e0
    · rw [if_pos hva]
      rcases Int.le_total (at_ L (src st n e0) + 1) (at_ L' v) with hle | hle
      · rw [show max (at_ L' v) (at_ L (src st n e0) + 1) = at_ L' v by omega]
        rcases hm.is with e | ⟨e, he, hd, ht, hx⟩
        · exact .inl e
        · exact .inr ⟨e, he, .inl hd, ht, by rw [hs e he (.inl hd)]; exact hx⟩
      · rw [show max (at_ L' v) (at_ L (src st n e0) + 1) = at_ L (src st n e0) + 1 by omega]
        exact .inr ⟨e0, he0, .inr rfl, hva.symm, by rw [hs e0 he0 (.inr rfl)]⟩
    · rw [if_neg hva]
      rcases hm.is with e | ⟨e, he, hd, ht, hx⟩
      · exact .inl e
      · exact .inr ⟨e, he, .inl hd, ht, by rw [hs e he (.inl hd)]; exact hx⟩
  · have := hm.nn
    split <;> omega
theorem at_zero (n v : Nat) : at_ (tab n (fun _ => 0)) v = 0 := by
  rcases Nat.lt_or_ge v n with h | h
  · exact tab_at _ _ _ h
  · unfold at_; rw [List.getElem?_eq_none (by rw [tab_length]; exact h)]; rfl
theorem eTo_row (hg : Good n st tl wt) {i : Nat} (h : i < tl.length) : eTo (upto (edgeAt n st tl wt) tl.length) i = tN tl i ∧ eFrom (upto (edgeAt n st tl wt) tl.length) i = src st n i := by
  unfold eTo eFrom
  rw [eAt_upto _ _ _ h]
  exact ⟨rfl, by show ((src st n i : Int)).toNat = _; exact Int.toNat_natCast _⟩
theorem bstL_succ (dl : List Int) (l : List Ed3) (n i : Nat) : bstL dl l n (i + 1) = if at_ (bstL dl l n i) (eTo l i) < at_ dl (eFrom l i) + 1 then (bstL dl l n i).set (eTo l i) (at_ dl (eFrom l i) + 1) else bstL dl l n i := rfl
theorem bst_mx (hg : Good n st tl wt) (dl : List Int) (hd : ∀ v, 0 ≤ at_ dl v) : ∀ i, i ≤ tl.length → ∀ v, v < n → Mx n st tl (fun e => e < i) dl v (at_ (bstL dl (upto (edgeAt n st tl wt) tl.length) n i) v) := by
  intro i
  induction i with
  | zero =>
    intro _ v hv
    show Mx n st tl _ dl v (at_ (tab n (fun _ => 0)) v)
    rw [at_zero]
    exact ⟨fun e _ h => absurd h (by omega), .inl rfl, Int.le_refl _⟩
  | succ i ih =>
    intro hi v hv
    obtain ⟨h1, h2⟩ := eTo_row hg (i := i) (by omega)
    have ht : tN tl i < n := by have := hg.vtx i (by omega); unfold tN; omega
    have hK : ∀ v, v < n → at_ (bstL dl (upto (edgeAt n st tl wt) tl.length) n (i + 1)) v = if v = tN tl i then max (at_ (bstL dl (upto (edgeAt n st tl wt) tl.length) n i) v) (at_ dl (src st n i) + 1) else at_ (bstL dl (upto (edgeAt n st tl wt) tl.length) n i) v := by
      intro v hv
      rw [bstL_succ, h1, h2]
      split
      · rename_i hlt
        rw [at_set _ _ _ _ (by rw [bstL_len]; exact ht)]
        split
        · rename_i hva
          rw [hva]; omega
        · rfl
      · split
        · rename_i hva
          rw [hva]; omega
        · rfl
    exact (Mx.more (by omega) (ih (by omega)) ht hd (fun e _ _ => rfl) hK v hv).congr (fun e he => by omega)
theorem at_past {L : List Int} {v : Nat} (h : L.length ≤ v) : at_ L v = 0 := by unfold at_; rw [List.getElem?_eq_none h]; rfl
theorem rowL_len (tl L : List Int) (u p j : Nat) : (rowL tl L u p j).length = L.length := by
  induction j with
  | zero => rfl
  | succ j ih => show (stepL _ _ _).length = _; unfold stepL; rw [List.length_set]; exact ih
theorem row_mx (hg : Good n st tl wt) (h : Fwd n st tl o P) {i u p r : Nat} (hi : i < n) (hu : at_ o i = (u : Int)) (hun : u < n) (hPu : P u = i) (hp : at_ st u = (p : Int)) (hr : at_ st (u + 1) = (p : Int) + (r : Int)) {L : List Int} (hL : L.length = n)
    (h0 : ∀ v, v < n → Mx n st tl (fun e => P (src st n e) < i) L v (at_ L v)) :
    ∀ j, j ≤ r → ∀ v, v < n → Mx n st tl (fun e => P (src st n e) < i ∨ (src st n e = u ∧ e < p + j)) (rowL tl L u p j) v (at_ (rowL tl L u p j) v) := by
  have hrm : p + r ≤ tl.length := by have := hg.range (u + 1) (by omega); omega
  have hsp : ∀ e, e < tl.length → src st n e = u → p ≤ e := fun e he hs => by
    have := (src_spec hg he).1
    rw [hs, hp] at this
    omega
  intro j
  induction j with
  | zero =>
    intro _ v hv
    exact (h0 v hv).congr (fun e he => ⟨.inl, fun hh => hh.elim id (fun ⟨h1, h2⟩ => absurd (hsp e he h1) (by omega))⟩)
  | succ j ih =>
    intro hj v hv
    have he0 : p + j < tl.length := by omega
    have hs0 : src st n (p + j) = u := src_eq hg hun (by rw [hp]; omega) (by rw [hr]; omega)
    have ht : tN tl (p + j) < n := by have := hg.vtx (p + j) he0; unfold tN; omega
    have hfw := h.edge (p + j) he0
    rw [hs0, hPu] at hfw
    have hnn : ∀ v, 0 ≤ at_ (rowL tl L u p j) v := fun v => by
      rcases Nat.lt_or_ge v n with hv | hv
      · exact (ih (by omega) v hv).nn
      · rw [at_past (by rw [rowL_len, hL]; exact hv)]; exact Int.le_refl _
    have hset : ∀ v, at_ (rowL tl L u p (j + 1)) v = if v = tN tl (p + j) then max (at_ (rowL tl L u p j) (tN tl (p + j))) (at_ (rowL tl L u p j) u + 1) else at_ (rowL tl L u p j) v := fun v => by
      show at_ (stepL (rowL tl L u p j) u (at_ tl (p + j)).toNat) v = _
      unfold stepL
      rw [at_set _ _ _ _ (by rw [rowL_len, hL]; exact ht)]
      rfl
    refine (Mx.more he0 (ih (by omega)) ht hnn (K := rowL tl L u p (j + 1)) (K' := rowL tl L u p (j + 1)) ?_ ?_ v hv).congr ?_
    · intro e he hd
      rw [hset, if_neg]
      intro hc
      have : P (src st n e) ≤ i := by
        rcases hd with (hd | hd) | hd
        · omega
        · rw [hd.1, hPu]; exact Nat.le_refl _
        · rw [hd, hs0, hPu]; exact Nat.le_refl _
      rw [hc] at this
      omega
    · intro v hv
      rw [hset, hs0]
      split
      · rename_i hva; rw [hva]
      · rfl
    · intro e he
      constructor
      · rintro ((hd | ⟨h1, h2⟩) | rfl)
        · exact .inl hd
        · exact .inr ⟨h1, by omega⟩
        · exact .inr ⟨hs0, by omega⟩
      · rintro (hd | ⟨h1, h2⟩)
        · exact .inl (.inl hd)
        · rcases Nat.lt_or_ge e (p + j) with h3 | h3
          · exact .inl (.inr ⟨h1, h3⟩)
          · exact .inr (by omega)
theorem allL_len (n : Nat) (st tl o : List Int) (i : Nat) : (allL n st tl o i).length = n := by
  induction i with
  | zero => exact tab_length _ _
  | succ i ih => show (rowL _ _ _ _ _).length = _; rw [rowL_len]; exact ih
theorem all_mx (hg : Good n st tl wt) (h : Fwd n st tl o P) : ∀ i, i ≤ n → ∀ v, v < n → Mx n st tl (fun e => P (src st n e) < i) (allL n st tl o i) v (at_ (allL n st tl o i) v) := by
  intro i
  induction i with
  | zero =>
    intro _ v hv
    show Mx n st tl _ _ v (at_ (tab n (fun _ => 0)) v)
    rw [at_zero]
    exact ⟨fun e _ h => absurd h (by omega), .inl rfl, Int.le_refl _⟩
  | succ i ih =>
    intro hi v hv
    obtain ⟨u, hu, hun, hPu⟩ := h.rng i (by omega)
    have r1 := hg.range u (by omega); have r2 := hg.range (u + 1) (by omega); have r3 := hg.step u hun
    obtain ⟨p, hp⟩ : ∃ p : Nat, at_ st u = (p : Int) := ⟨(at_ st u).toNat, by omega⟩
    obtain ⟨r, hr⟩ : ∃ r : Nat, at_ st (u + 1) = (p : Int) + (r : Int) := ⟨(at_ st (u + 1)).toNat - p, by omega⟩
    rw [allL_succ hu hp hr]
    refine (row_mx hg h (by omega) hu hun hPu hp hr (allL_len _ _ _ _ _) (ih (by omega)) r (Nat.le_refl _) v hv).congr (fun e he => ?_)
    constructor
    · rintro (hd | ⟨h1, h2⟩)
      · omega
      · rw [h1, hPu]; omega
    · intro hd
      rcases Nat.lt_or_ge (P (src st n e)) i with h1 | h1
      · exact .inl h1
      · right
        have h2 : P (src st n e) = i := by omega
        have h3 := (h.pos _ (src_lt hg he)).2
        rw [h2, hu] at h3
        have h4 : src st n e = u := by omega
        have h5 := (src_spec hg he).2
        rw [h4, hr] at h5
        exact ⟨h4, by omega⟩
theorem all_bd (hg : Good n st tl wt) (h : Fwd n st tl o P) : ∀ k v, v < n → P v = k → 0 ≤ at_ (allL n st tl o n) v ∧ at_ (allL n st tl o n) v ≤ (k : Int) := by
  intro k
  induction k using Nat.strongRecOn with
  | ind k ih =>
    intro v hv hk
    have hm := all_mx hg h n (Nat.le_refl _) v hv
    refine ⟨hm.nn, ?_⟩
    rcases hm.is with e | ⟨e, he, hd, ht, hx⟩
    · rw [e]; omega
    · have h1 := h.edge e he
      rw [ht, hk] at h1
      have h2 := ih _ h1 _ (src_lt hg he) rfl
      rw [hx]; omega
theorem best_all (hg : Good n st tl wt) (h : Fwd n st tl o P) : bstL (allL n st tl o n) (upto (edgeAt n st tl wt) tl.length) n tl.length = allL n st tl o n := by
  have hnn : ∀ v, 0 ≤ at_ (allL n st tl o n) v := fun v => by
    rcases Nat.lt_or_ge v n with hv | hv
    · exact (all_mx hg h n (Nat.le_refl _) v hv).nn
    · rw [at_past (by rw [allL_len]; exact hv)]; exact Int.le_refl _
  apply List.ext_getElem
  · rw [bstL_len, allL_len]
  · intro v h1 h2
    have hv : v < n := by rw [allL_len] at h2; exact h2
    have a := bst_mx hg (allL n st tl o n) hnn tl.length (Nat.le_refl _) v hv
    have b := all_mx hg h n (Nat.le_refl _) v hv
    have := a.one (b.congr (fun e he => ⟨fun _ => he, fun _ => (h.pos _ (src_lt hg he)).1⟩))
    unfold at_ at this
    rw [List.getElem?_eq_getElem h1, List.getElem?_eq_getElem h2] at this
    simpa using this
end
end Go.Proofs.Yteblkbneghbcbaa

/- StrongForward. -/
namespace Go.Proofs.Yteblkbneghbcbaa
open Go.RowKit Go.Lib
set_option linter.unusedVariables false
set_option linter.unusedSimpArgs false
def lpB (n : Nat) (st tl : List Int) (k : Nat) : Bool := (List.range k).any (fun e => decide (src st n e = tN tl e))
theorem lpB_succ (n : Nat) (st tl : List Int) (k : Nat) : lpB n st tl (k + 1) = (lpB n st tl k || decide (src st n k = tN tl k)) := by
  unfold lpB; rw [List.range_succ, List.any_append]; simp
theorem lpB_iff (n : Nat) (st tl : List Int) (k : Nat) : lpB n st tl k = true ↔ ∃ e, e < k ∧ src st n e = tN tl e := by
  unfold lpB; simp
def FwC (n : Nat) (st tl c ol dl : List Int) (b : Bool) (oe de : Int) : Prop :=
  (b = false ∧ oe = 0 ∧ de = 0 ∧ c = [] ∧ ∃ P, Fwd n st tl ol P ∧ dl = allL n st tl ol n) ∨ (b = true ∧ oe = 33 ∧ de = 33 ∧ ol = [] ∧ dl = [] ∧ Ci n st tl c)
theorem fwC_of {n : Nat} {st tl wt c : List Int} {b : Bool} {E : Int} (hg : Good n st tl wt) (h : CA n st tl wt c b E) : E = 0 ∧ FwC n st tl c (ordA n st tl wt).1 (lngA n st tl wt).1 b (ordA n st tl wt).2 (lngA n st tl wt).2 := by
  have hc := good_chk' hg
  by_cases hl : (ordL n st tl).length < n
  · have ho := ordA_few hc (ordL_fin n st tl) hl
    rcases h with ⟨_, h2, _⟩ | ⟨h1, _⟩ | ⟨_, h2, h3, n', he, _, h5⟩
    · rw [ho] at h2; exact absurd rfl h2
    · rw [ho] at h1; cases h1
    · have : n' = n := by omega
      subst this
      refine ⟨h2, .inr ⟨h3, by rw [ho], ?_, by rw [ho], ?_, h5⟩⟩
      · rw [lngA_bad (by rw [ho]; decide), ho]
      · rw [lngA_bad (by rw [ho]; decide)]
  · have ho := ordA_all hc (ordL_fin n st tl) hl
    rcases h with ⟨h1, _⟩ | ⟨_, h2, h3, h4, _⟩ | ⟨h1, _⟩
    · rw [ho] at h1; exact absurd rfl h1
    · have hlen : (ordL n st tl).length = n := by have := Sq.len n st tl (ordL_fin n st tl).1; omega
      obtain ⟨P, hP⟩ := fwd_of hg (ordL_fin n st tl).1 hlen
      have hz : (ordA (n : Int) st tl wt).2 = 0 := by rw [ho]
      refine ⟨h2, .inl ⟨h3, hz, by rw [lngA_good hz], h4, P, by rw [ho]; exact hP, by rw [lngA_good hz, ho]; show allL n st tl (ordL n st tl) (ordL n st tl).length = _; rw [hlen]⟩⟩
    · rw [ho] at h1; cases h1
theorem fwC_is {n : Nat} {st tl wt c ol dl : List Int} {b : Bool} {oe de : Int} (hg : Good n st tl wt) (h : FwC n st tl c ol dl b oe de) : b = (decide ((cntL (BG n st tl) n : Int) < (n : Int)) || lpB n st tl tl.length) := by
  rcases h with ⟨rfl, _, _, _, P, hP, _⟩ | ⟨rfl, _, _, _, _, hc⟩
  · obtain ⟨h1, h2⟩ := fwd_none hg hP
    have h3 : lpB n st tl tl.length = false := by
      rw [← Bool.not_eq_true, lpB_iff]
      rintro ⟨e, he, h3⟩
      exact h2 e he h3
    rw [h1, h3]; simp
  · rcases ci_two hg hc with h1 | ⟨e, he, h1⟩
    · have : decide ((cntL (BG n st tl) n : Int) < (n : Int)) = true := by simpa using h1
      rw [this]; rfl
    · rw [(lpB_iff n st tl tl.length).2 ⟨e, he, h1⟩]; simp
theorem longest_true {n m : Nat} {st tl wt o dl : List Int} {P : Nat → Nat} (hg : Good n st tl wt) (h : Fwd n st tl o P) (eo : Option Addr) (ec : Nat) (dv : Value) (w : World) (hE : EAt w (.slice eo m ec) (upto (edgeAt n st tl wt) m)) (hm : m = tl.length) (hd : RowAt .i64 w dv dl) (hdl : dl = allL n st tl o n) :
    Calls Try.prog 34 #[.agg #[.int .i64 n, .slice eo m ec], dv] w fun e w' => e = .returned (.bool true) ∧ Below w.heap.size w w' := by
  subst hm
  subst hdl
  refine (longest_any n tl.length eo ec dv _ _ w hE (upto_len _ _) hd (allL_len _ _ _ _ _) hg.n_le hg.m_le ?_ ?_ ?_).mono ?_
  · intro i hi
    obtain ⟨h1, h2⟩ := eTo_row hg hi
    rw [h2, eAt_upto _ _ _ hi]
    exact ⟨rfl, src_lt hg hi⟩
  · intro i hi
    obtain ⟨h1, h2⟩ := eTo_row hg hi
    rw [h1, eAt_upto _ _ _ hi]
    have := hg.vtx i hi
    refine ⟨?_, by unfold tN; omega⟩
    show at_ tl i = _
    unfold tN; omega
  · intro v hv
    have h1 := all_bd hg h _ v hv rfl
    have h2 := (h.pos v hv).1
    have h3 := hg.n_le
    omega
  · rintro e w' ⟨rfl, hb⟩
    rw [best_all hg h]
    exact ⟨by simp, hb⟩
set_option maxRecDepth 100000 in
set_option maxHeartbeats 16000000 in
theorem forward_law (N : Int) (va vb vc : Value) (st tl wt : List Int) (w : World) (hg : GIs w N va vb vc st tl wt) (hst : st.length ≤ 17592186044416) (hto : tl.length ≤ 17592186044416) (hwt : wt.length ≤ 17592186044416) (hw : ∀ e, 0 ≤ at_ wt e) :
    Calls Try.prog 9 #[gAgg N va vb vc] w fun e w' => e = .returned (.bool true) ∧ Below w.heap.size w w' := by
  obtain ⟨bo, cb, rfl⟩ := hg.t.shape
  obtain ⟨W, hW⟩ : ∃ W, W = w.alloc (.cells #[.int .i64 N, va, .slice bo tl.length cb, vc] 25) := ⟨_, rfl⟩
  have hbW : Below w.heap.size w W := by rw [hW]; exact below_alloc (Below.refl _ _) _
  have hA : W.heap[w.heap.size]? = some (.cells #[.int .i64 N, va, .slice bo tl.length cb, vc] 25 (0, 0)) := by rw [hW]; exact heap_new _ _
  have HBW := hide hbW
  have HG := hide (hg.below hbW)
  have HK : Hid (∀ X, Below W.heap.size W X → X.cell? ⟨w.heap.size, 0, none⟩ = some (.int .i64 N) ∧ X.cell? ⟨w.heap.size, 1, none⟩ = some va ∧ X.cell? ⟨w.heap.size, 2, none⟩ = some (.slice bo tl.length cb) ∧ X.cell? ⟨w.heap.size, 3, none⟩ = some vc) := fun X hX => ⟨box_keep hA hX rfl, box_keep hA hX rfl, box_keep hA hX rfl, box_keep hA hX rfl⟩
  have HRF : Hid (∀ X, Below W.heap.size W X → Calls Try.prog 27 #[gAgg N va (.slice bo tl.length cb) vc] X fun e w' => e = .returned (.tuple #[.bool (decide ((chk N st tl wt).1 ≠ 0)), .bool true]) ∧ Below X.heap.size X w') := fun X hX => refused_any N va _ vc st tl wt X (HG.out.below hX) hst hto hwt hw
  have HPa : Hid (∀ X, Below W.heap.size W X → Calls Try.prog 12 #[gAgg N va (.slice bo tl.length cb) vc] X (LN X (prtA N st tl wt))) := fun X hX => parts_any N va _ vc st tl wt X (HG.out.below hX) hst hto hwt hw
  have HOr : Hid (∀ X, Below W.heap.size W X → Calls Try.prog 20 #[gAgg N va (.slice bo tl.length cb) vc] X (LN X (ordA N st tl wt))) := fun X hX => ord_any N va _ vc st tl wt X (HG.out.below hX) hst hto hwt
  have HLg : Hid (∀ X, Below W.heap.size W X → Calls Try.prog 22 #[gAgg N va (.slice bo tl.length cb) vc] X (LN X (lngA N st tl wt))) := fun X hX => lng_any N va _ vc st tl wt X (HG.out.below hX) hst hto hwt
  have HCi : Hid (∀ X, Below W.heap.size W X → Calls Try.prog 24 #[gAgg N va (.slice bo tl.length cb) vc] X fun e w' => ∃ cv c b E, e = .returned (.tuple #[cv, .bool b, .int .i64 E]) ∧ RowAt .i64 w' cv c ∧ CA N st tl wt c b E ∧ Below X.heap.size X w') := fun X hX => circle_any N va _ vc st tl wt X (HG.out.below hX) hst hto hwt
  have HNO := hide (fun x W => no_any x W)
  have HHE := hide (heads_any W)
  clear hg hA hbW hw hst hto hwt
  unfold gAgg at *
  by_cases hz : (chk N st tl wt).1 = 0
  · obtain ⟨n, rfl, hgood⟩ := chk_good hz
    have HGD := hide hgood
    rw [show decide ((chk (n : Int) st tl wt).1 ≠ 0) = false by simp [hz]] at HRF
    rw [show prtA n st tl wt = (tab n (fun v => (numb (BG n st tl) v : Int)), 0) by unfold prtA; rw [if_pos hz, Int.toNat_natCast]] at HPa
    have HNB := hide hgood.n_le
    obtain ⟨ol, oe, hoo⟩ : ∃ ol oe, (ol, oe) = ordA (n : Int) st tl wt := ⟨_, _, rfl⟩
    obtain ⟨dl, de, hdd⟩ : ∃ dl de, (dl, de) = lngA (n : Int) st tl wt := ⟨_, _, rfl⟩
    have HFC : Hid (∀ c b E, CA (n : Int) st tl wt c b E → E = 0 ∧ FwC n st tl c ol dl b oe de) := fun c b E h => by
      have := fwC_of HGD.out h
      rw [← hoo, ← hdd] at this
      exact this
    rw [← hoo] at HOr
    rw [← hdd] at HLg
    have HED : Hid (∀ X, Below W.heap.size W X → Calls Try.prog 31 #[gAgg n va (.slice bo tl.length cb) vc] X (EdgesW X n st tl wt)) := fun X hX => edges_good n va _ vc st tl wt X (HG.out.below hX) HGD.out (good_chk' HGD.out)
    unfold gAgg at HED
    clear hz hgood hoo hdd
    go_enter Try.func9, Try.ntmps9
    go_upto_region 1 with fail
    rw [← hW]
    clear hW
    go_wp2_with fail
    refine HHE.out.mono ?_
    rintro e w1 ⟨rfl, hb1⟩
    have HBX := hide hb1
    clear hb1 HHE
    obtain ⟨p0, p1, p2, p3⟩ := HK.out _ HBX.out
    go_wp2_with fail
    refine (HRF.out _ HBX.out).mono ?_
    rintro e w2 ⟨rfl, hb⟩
    replace HBX := hide (below_on HBX.out hb)
    clear p0 p1 p2 p3 hb HRF
    obtain ⟨p0, p1, p2, p3⟩ := HK.out _ HBX.out
    go_wp2_with fail
    refine (HOr.out _ HBX.out).mono ?_
    rintro e w3 ⟨v3, rfl, hr3, hb⟩
    obtain ⟨oo, oc, rfl⟩ := hr3.shape
    replace HBX := hide (below_on HBX.out hb)
    have HO3 := hide hr3
    clear p0 p1 p2 p3 hb hr3 HOr
    obtain ⟨p0, p1, p2, p3⟩ := HK.out _ HBX.out
    go_wp2_with fail
    refine (HCi.out _ HBX.out).mono ?_
    rintro e w4 ⟨v4, c, b, E4, rfl, hr4, hca, hb⟩
    obtain ⟨co, cc, rfl⟩ := hr4.shape
    obtain ⟨rfl, hfc⟩ := HFC.out _ _ _ hca
    have HFw := hide hfc; have HC4 := hide hr4
    replace HBX := hide (below_on HBX.out hb)
    replace HO3 := hide (HO3.out.below hb)
    clear p0 p1 p2 p3 hb hr4 hca hfc HCi HFC
    obtain ⟨p0, p1, p2, p3⟩ := HK.out _ HBX.out
    go_wp2_with fail
    refine (HLg.out _ HBX.out).mono ?_
    rintro e w5 ⟨v5, rfl, hr5, hb⟩
    obtain ⟨d_o, dc, rfl⟩ := hr5.shape
    have HD5 := hide hr5
    replace HBX := hide (below_on HBX.out hb)
    replace HO3 := hide (HO3.out.below hb)
    replace HC4 := hide (HC4.out.below hb)
    clear p0 p1 p2 p3 hb hr5 HLg
    obtain ⟨p0, p1, p2, p3⟩ := HK.out _ HBX.out
    go_wp2_with fail
    refine (HPa.out _ HBX.out).mono ?_
    rintro e w6 ⟨v6, rfl, hr6, hb⟩
    obtain ⟨lo, lc, rfl⟩ := hr6.shape
    rw [tab_length] at hr6 ⊢
    have HL6 := hide hr6
    replace HBX := hide (below_on HBX.out hb)
    replace HO3 := hide (HO3.out.below hb)
    replace HC4 := hide (HC4.out.below hb)
    replace HD5 := hide (HD5.out.below hb)
    clear p0 p1 p2 p3 hb hr6 HPa
    obtain ⟨p0, p1, p2, p3⟩ := HK.out _ HBX.out
    go_wp2_with fail
    refine (HED.out _ HBX.out).mono ?_
    rintro e w7 ⟨R, rfl, hE7, hb, _⟩
    have HE7 := hide hE7
    replace HBX := hide (below_on HBX.out hb)
    replace HO3 := hide (HO3.out.below hb)
    replace HC4 := hide (HC4.out.below hb)
    replace HD5 := hide (HD5.out.below hb)
    replace HL6 := hide (HL6.out.below hb)
    clear p0 p1 p2 p3 hb hE7 HED
    obtain ⟨m, hmm⟩ : ∃ m, m = tl.length := ⟨_, rfl⟩
    have HM := hide hmm
    rw [← hmm] at HE7 HK ⊢
    clear hmm
    go_upto_region 11 with fail
    obtain ⟨V, hV⟩ : ∃ V, V = w7.alloc (.cells #[.int .i64 n, .slice (some ⟨R, 0, none⟩) m m] 55) := ⟨_, rfl⟩
    have hbV : Below w7.heap.size w7 V := by rw [hV]; exact below_alloc (Below.refl _ _) _
    have hVA : V.heap[w7.heap.size]? = some (.cells #[.int .i64 n, .slice (some ⟨R, 0, none⟩) m m] 55 (0, 0)) := by rw [hV]; exact heap_new _ _
    rw [← hV]
    obtain ⟨bx, hbx⟩ : ∃ bx, bx = w7.heap.size := ⟨_, rfl⟩
    rw [← hbx] at hVA ⊢
    have HBZ := hide (below_on HBX.out hbV)
    have HKV : Hid (∀ X, Below V.heap.size V X → (X.cell? ⟨w.heap.size, 0, none⟩ = some (.int .i64 n) ∧ X.cell? ⟨w.heap.size, 2, none⟩ = some (.slice bo m cb)) ∧ X.cell? ⟨bx, 0, none⟩ = some (.int .i64 n) ∧ X.cell? ⟨bx, 1, none⟩ = some (.slice (some ⟨R, 0, none⟩) m m)) := fun X hX => ⟨⟨(HK.out X (below_on HBZ.out hX)).1, (HK.out X (below_on HBZ.out hX)).2.2.1⟩, cell_of ((hX.block _ (lt_of_heap hVA)).trans hVA) (i := 0) rfl, cell_of ((hX.block _ (lt_of_heap hVA)).trans hVA) (i := 1) rfl⟩
    have HEX : Hid (∀ X, Below V.heap.size V X → EAt X (.slice (some ⟨R, 0, none⟩) m m) (upto (edgeAt n st tl wt) m)) := fun X hX => (HE7.out.below hbV).below hX
    have HLX : Hid (∀ X, Below V.heap.size V X → RowAt .i64 X (.slice lo n lc) (tab n (fun v => (numb (BG n st tl) v : Int)))) := fun X hX => (HL6.out.below hbV).below hX
    have HOX : Hid (∀ X, Below V.heap.size V X → RowAt .i64 X (.slice oo ol.length oc) ol) := fun X hX => (HO3.out.below hbV).below hX
    have HCX : Hid (∀ X, Below V.heap.size V X → RowAt .i64 X (.slice co c.length cc) c) := fun X hX => (HC4.out.below hbV).below hX
    have HDX : Hid (∀ X, Below V.heap.size V X → RowAt .i64 X (.slice d_o dl.length dc) dl) := fun X hX => (HD5.out.below hbV).below hX
    clear hV hbV hVA hbx HE7 HL6 HO3 HC4 HD5 HK HG HBX
    have hm0 : m ≤ 4194304 := by rw [HM.out]; exact HGD.out.m_le
    have hn0 := HNB.out
    have hnn : ((n : Int) != (n : Int)) = false := by simp
    have hmn : ((m : Int) != (m : Int)) = false := by simp
    obtain ⟨⟨p0, p2⟩, q0, q1⟩ := HKV.out _ (Below.refl _ _)
    go_wp2_with (first | (go_at_call 15; refine (HNO.out _ _).mono ?_; rintro e w9 ⟨rfl, hw9⟩; subst hw9) | fail)
    clear p0 p2 q0 q1 hnn hmn
    go_loopw [16, 18] (fun t u wr => ∃ k : Nat, u = .int .i64 (k : Int) ∧ k ≤ n ∧ t = .int .i64 (cntL (BG n st tl) k : Int) ∧ wr = w9) (fun _ u _ => n - (RowKit.intOf u).toNat)
    case atStart => exact ⟨0, rfl, Nat.zero_le _, rfl, rfl⟩
    case round =>
      obtain ⟨k, rfl, hk, rfl, hww⟩ := hrel
      rw [hww]
      clear hww
      by_cases hlt : k < n
      · obtain ⟨g, o, c1, he, _, d⟩ := (HLX.out _ (Below.refl _ _)).cellAt k (by rw [tab_length]; exact hlt)
        rw [tab_length] at he
        simp only [Value.slice.injEq, true_and] at he
        obtain ⟨rfl, rfl⟩ := he
        rw [tab_at n _ k hlt] at d
        have hki : (k : Int) < (n : Int) := by omega
        have hcb : cntL (BG n st tl) k ≤ 1048576 := Nat.le_trans (cntL_le k) (by omega)
        by_cases hl : lea (BG n st tl) k = k
        · have h1 : numb (BG n st tl) k = cntL (BG n st tl) k := numb_new hl
          have h2 : cntL (BG n st tl) (k + 1) = cntL (BG n st tl) k + 1 := by rw [cntL_succ, if_pos hl]
          rw [h1] at d
          obtain ⟨x, hx⟩ : ∃ x, x = cntL (BG n st tl) k := ⟨_, rfl⟩
          rw [← hx] at d hcb h2 ⊢
          have H2 := hide h2
          have hgt : (x : Int) < (x : Int) + 1 := by omega
          clear h1 h2 hx hl
          go_wp2_with fail
          exact ⟨⟨k + 1, by simp, by omega, by rw [H2.out]; simp, by first | rfl | trivial⟩, by simp [RowKit.intOf]; omega⟩
        · have h1 := numb_old (Bo.eqv (EE n (sN st) (tN tl))) hl
          have h1' : numb (BG n st tl) k + 1 ≤ cntL (BG n st tl) k := h1
          have h2 : cntL (BG n st tl) (k + 1) = cntL (BG n st tl) k := by rw [cntL_succ, if_neg hl]; rfl
          obtain ⟨x, hx⟩ : ∃ x, x = cntL (BG n st tl) k := ⟨_, rfl⟩
          obtain ⟨y, hy⟩ : ∃ y, y = numb (BG n st tl) k := ⟨_, rfl⟩
          rw [← hx] at hcb h2 h1' ⊢
          rw [← hy] at d h1'
          have H2 := hide h2
          have hgt : ¬ (x : Int) < (y : Int) + 1 := by omega
          have hyb : y ≤ 1048576 := by omega
          clear h1 h1' h2 hx hy hl
          go_wp2_with fail
          exact ⟨⟨k + 1, by simp, by omega, by rw [H2.out], by first | rfl | trivial⟩, by simp [RowKit.intOf]; omega⟩
      · have hkn : k = n := by omega
        rw [hkn]
        clear hk hlt hkn
        go_wp2_with fail
        go_loopw [17, 19] (fun t u wr => ∃ k : Nat, u = .int .i64 (k : Int) ∧ k ≤ m ∧ t = .bool (lpB n st tl k) ∧ Below w9.heap.size w9 wr) (fun _ u _ => m - (RowKit.intOf u).toNat)
        case atStart => exact ⟨0, rfl, Nat.zero_le _, rfl, Below.refl _ _⟩
        case round =>
          obtain ⟨j, rfl, hj, rfl, hbj⟩ := hrel
          have HBJ := hide hbj
          clear hbj
          obtain ⟨⟨p0, p2⟩, q0, q1⟩ := HKV.out _ HBJ.out
          by_cases hjl : j < m
          · have HLS := hide (lpB_succ n st tl j)
            have h0 : EAt wr (.slice (some ⟨R, 0, none⟩) (upto (edgeAt n st tl wt) m).length m) (upto (edgeAt n st tl wt) m) := by rw [upto_len]; exact HEX.out _ HBJ.out
            obtain ⟨g, o, he, hgl, e0, e1, _⟩ := h0.cellAt (i := j) (by rw [upto_len]; exact hjl)
            simp only [Option.some.injEq, Addr.mk.injEq, and_true] at he
            obtain ⟨rfl, rfl⟩ := he
            rw [eAt_upto _ _ _ hjl] at e0 e1
            have ht : at_ tl j = (tN tl j : Int) := by have := HGD.out.vtx j (by rw [← HM.out]; exact hjl); unfold tN; omega
            rw [Nat.zero_add] at e0 e1
            have e0' : wr.cell? ⟨R, j * 3, none⟩ = some (.int .i64 (src st n j : Int)) := e0
            have e1' : wr.cell? ⟨R, j * 3 + 1, none⟩ = some (.int .i64 (tN tl j : Int)) := by rw [← ht]; exact e1
            clear e0 e1 h0 ht
            obtain ⟨a, ha⟩ : ∃ a, a = src st n j := ⟨_, rfl⟩
            obtain ⟨t, htt⟩ : ∃ t, t = tN tl j := ⟨_, rfl⟩
            rw [← ha, ← htt] at HLS
            rw [← ha] at e0'
            rw [← htt] at e1'
            clear ha htt
            obtain ⟨b0, hb0⟩ : ∃ b0, b0 = lpB n st tl j := ⟨_, rfl⟩
            rw [← hb0] at HLS ⊢
            clear hb0
            cases b0 with
            | true =>
              go_upto_region 23 with fail
              go_quiet (fail)
              go_wp2_with fail
              exact ⟨⟨j + 1, by simp, by omega, by rw [HLS.out]; rfl, below_drewN HBJ.out _⟩, by simp [RowKit.intOf]; omega⟩
            | false =>
              by_cases hat : a = t
              · subst hat
                have haa : ((a : Int) == (a : Int)) = true := by simp
                go_upto_region 23 with fail
                go_quiet (fail)
                go_wp2_with fail
                exact ⟨⟨j + 1, by simp, by omega, by rw [HLS.out]; simp, below_drewN HBJ.out _⟩, by simp [RowKit.intOf]; omega⟩
              · have haa : ((a : Int) == (t : Int)) = false := by simp; omega
                go_upto_region 23 with fail
                go_quiet (fail)
                go_wp2_with fail
                exact ⟨⟨j + 1, by simp, by omega, by rw [HLS.out]; simp [hat], below_drewN HBJ.out _⟩, by simp [RowKit.intOf]; omega⟩
          · have hjm : j = m := by omega
            rw [hjm]
            clear hj hjl hjm
            have his := fwC_is HGD.out HFw.out
            rw [← HM.out] at his
            obtain ⟨x, hx⟩ : ∃ x, x = cntL (BG n st tl) n := ⟨_, rfl⟩
            obtain ⟨lp, hlp⟩ : ∃ lp, lp = lpB n st tl m := ⟨_, rfl⟩
            rw [← hx, ← hlp] at his
            rw [← hx, ← hlp]
            clear hx hlp
            have HEJ := hide (HEX.out _ HBJ.out)
            have HOJ := hide (HOX.out _ HBJ.out)
            have HCJ := hide (HCX.out _ HBJ.out)
            have HDJ := hide (HDX.out _ HBJ.out)
            rcases HFw.out with ⟨hb, ho, hd, hc, P, hP, hdl⟩ | ⟨hb, ho, hd, hol, hdl, hci⟩
            · subst hb
              have hxn : ¬ (x : Int) < (n : Int) := by intro h; rw [decide_eq_true h] at his; cases his
              have hlf : lp = false := by
                cases lp with
                | false => rfl
                | true => rw [Bool.or_true] at his; cases his
              subst hlf
              subst ho
              subst hd
              subst hc
              have hll := hP.len
              have hFW := hide (forward_any n m (some ⟨R, 0, none⟩) m (.slice oo ol.length oc) st tl wt ol P wr HEJ.out HM.out.symm HGD.out HOJ.out hP)
              have HLO : Hid (∀ X, Below wr.heap.size wr X → Calls Try.prog 34 #[.agg #[.int .i64 n, .slice (some ⟨R, 0, none⟩) m m], .slice d_o dl.length dc] X fun e w' => e = .returned (.bool true) ∧ Below X.heap.size X w') := fun X hX => longest_true HGD.out hP (some ⟨R, 0, none⟩) m _ X (HEJ.out.below hX) HM.out (HDJ.out.below hX) hdl
              clear his HFw hdl hll hP
              go_wp2_with (first | (go_at_call 15; refine (HNO.out _ _).mono ?_; rintro e w8 ⟨rfl, hw8⟩; subst hw8) | (go_at_call 33; refine hFW.out.mono ?_; rintro e w10 ⟨rfl, hb10⟩; have HB10 := hide hb10; obtain ⟨⟨p0', p2'⟩, q0', q1'⟩ := HKV.out _ (below_on HBJ.out hb10); clear hb10) | (go_at_call 34; refine (HLO.out _ HB10.out).mono ?_; rintro e w11 ⟨rfl, hb11⟩) | fail)
              go_ret
              exact ⟨rfl, below_on HBW.out (below_on HBZ.out (below_on HBJ.out (below_on HB10.out hb11)))⟩
            · subst hb
              subst ho
              subst hd
              subst hol
              subst hdl
              have hFW := hide (circL_any n m (some ⟨R, 0, none⟩) m (.slice co c.length cc) st tl wt c wr HEJ.out HM.out.symm HGD.out HCJ.out hci)
              clear HFw
              by_cases hxn : (x : Int) < (n : Int)
              · clear his
                go_wp2_with (first | (go_at_call 15; refine (HNO.out _ _).mono ?_; rintro e w8 ⟨rfl, hw8⟩; subst hw8) | (go_at_call 32; refine hFW.out.mono ?_; rintro e w8 ⟨rfl, hb8⟩) | fail)
                go_ret
                exact ⟨rfl, below_on HBW.out (below_on HBZ.out (below_on HBJ.out hb8))⟩
              · have hlt : lp = true := by
                  rw [decide_eq_false hxn] at his
                  exact his.symm
                subst hlt
                clear his
                go_wp2_with (first | (go_at_call 15; refine (HNO.out _ _).mono ?_; rintro e w8 ⟨rfl, hw8⟩; subst hw8) | (go_at_call 32; refine hFW.out.mono ?_; rintro e w8 ⟨rfl, hb8⟩) | fail)
                go_ret
                exact ⟨rfl, below_on HBW.out (below_on HBZ.out (below_on HBJ.out hb8))⟩
  · rw [show decide ((chk N st tl wt).1 ≠ 0) = true by simp [hz]] at HRF
    go_enter Try.func9, Try.ntmps9
    go_upto_region 1 with fail
    rw [← hW]
    clear hW
    go_wp2_with fail
    refine HHE.out.mono ?_
    rintro e w1 ⟨rfl, hb1⟩
    have HBX := hide hb1
    clear hb1 HHE
    obtain ⟨p0, p1, p2, p3⟩ := HK.out _ HBX.out
    go_wp2_with fail
    refine (HRF.out _ HBX.out).mono ?_
    rintro e w2 ⟨rfl, hb⟩
    replace HBX := hide (below_on HBX.out hb)
    clear p0 p1 p2 p3 hb HRF
    go_wp2_with fail
    go_ret
    exact ⟨rfl, below_on HBW.out HBX.out⟩
end Go.Proofs.Yteblkbneghbcbaa
