/- The reference's order. -/
import Derived.Test.YteblkbneghbcbaaFmFw
namespace Go.Proofs.Yteblkbneghbcbaa
open Go.RowKit Go.Lib
set_option linter.unusedVariables false
set_option linter.unusedSimpArgs false
def bCells (l : List Bool) : Array Value := (l.map Value.bool).toArray
def BArr (w : World) (g : Nat) (l : List Bool) : Prop := w.heap[g]? = some (.cells (bCells l) 4 (0, 0))
def btab (n : Nat) (f : Nat → Bool) : List Bool := (List.range n).map f
theorem BArr.cell {w : World} {g n : Nat} {f : Nat → Bool} (h : BArr w g (btab n f)) (i : Nat) (hi : i < n) : w.cell? ⟨g, i, none⟩ = some (.bool (f i)) := cell_of h (by simp [bCells, btab, hi])
theorem BArr.free {w : World} {g : Nat} {l : List Bool} (h : BArr w g l) (i : Nat) : w.frozen? ⟨g, i, none⟩ = false := free_of h i
theorem BArr.put {w : World} {g n : Nat} {f : Nat → Bool} (h : BArr w g (btab n f)) (i : Nat) (b : Bool) : BArr (w.setCell ⟨g, i, none⟩ (.bool b)) g (btab n (fun v => if v = i then b else f v)) := by
  unfold BArr at h ⊢
  rw [heap_set h]
  congr 2
  apply Array.ext'
  simp only [bCells, btab, Array.toList_setIfInBounds, List.map_map]
  apply List.ext_getElem?
  intro j
  rw [List.getElem?_set]
  by_cases e : i = j
  · subst e
    rw [if_pos rfl]
    by_cases hj : i < n
    · simp [hj]
    · simp [hj]
  · rw [if_neg e]
    by_cases hj : j < n
    · simp [hj, Ne.symm e, show ¬ j = i from fun h => e h.symm]
    · simp [hj]
theorem barr_made {w : World} {base g n : Nat} (h : w.ownsRow base 4 1 (.slice (some ⟨g, 0, none⟩) n n) n (madeCells (Value.bool false).cells (n * 1)).toList) : BArr w g (btab n (fun _ => false)) := by
  obtain ⟨h0, ⟨he, hn⟩ | ⟨g', cap, cur, he, hg, hb, h1, h2, h3, h4⟩⟩ := h
  · simp at he
  · simp only [Value.slice.injEq, Option.some.injEq, Addr.mk.injEq, true_and, and_true] at he
    obtain ⟨rfl, rfl⟩ := he
    unfold BArr
    rw [hb]
    congr 2
    apply Array.ext'
    have h5 : cur.toList.take (n * 1) = cur.toList := List.take_of_length_le (by simp; omega)
    rw [h5] at h4
    rw [h4]
    simp [bCells, btab, madeCells, Value.cells]
    intro a _; rw [Nat.mod_one]; rfl
theorem mdec2 {a k n : Nat} (h : k < n) : a * (n + 1) + (n - (RowKit.intOf (.int .i64 ((k : Int) + 1))).toNat) < a * (n + 1) + (n - (RowKit.intOf (.int .i64 (k : Int))).toNat) := Nat.add_lt_add_left (mdec h) _
theorem mdec3 {a b k x n : Nat} (h : b < a) (hx : x ≤ n) : b * (n + 1) + (n - x) < a * (n + 1) + (n - k) := by
  have : (b + 1) * (n + 1) ≤ a * (n + 1) := Nat.mul_le_mul_right _ h
  rw [Nat.succ_mul] at this
  omega
theorem Try.info4 : (Try.prog.info? 4).map (fun i => (i.zero, i.size, i.bytes)) = some (some (.bool false), 1, 1) := by kernel_rfl
structure RM (w wr : World) (gb : Array Value) (A C : Nat) (cv : Value) (L : List Int) (K : List Bool) (l : List Int) : Prop where
  bel : Below w.heap.size w wr
  box : wr.heap[w.heap.size]? = some (.cells gb 25 (0, 0))
  arr : Arr wr A L
  car : BArr wr C K
  com : wr.ownsRow (C + 1) 3 1 cv l.length (ivs l)
  wA : w.heap.size < A
  AC : A < C
section
variable {w wr : World} {gb : Array Value} {A C : Nat} {cv : Value} {L l : List Int} {K : List Bool}
theorem RM.on (h : RM w wr gb A C cv L K l) {w' : World} (hb : Below wr.heap.size wr w') : RM w w' gb A C cv L K l :=
  ⟨below_on h.bel hb, (hb.block _ (lt_of_heap h.box)).trans h.box, (hb.block _ (lt_of_heap h.arr)).trans h.arr, (hb.block _ (lt_of_heap h.car)).trans h.car, own_chg (S := fun _ => False) h.com (Chg.of_below hb) (fun _ _ h => h), h.wA, h.AC⟩
theorem RM.come_lt (h : RM w wr gb A C cv L K l) : ∀ k, cv.ownBlock = some k → C + 1 ≤ k ∧ k < wr.heap.size := fun k hk => World.ownsRow.lt h.com k hk
theorem RM.setA (h : RM w wr gb A C cv L K l) (i : Nat) (x : Int) : RM w (wr.setCell ⟨A, i, none⟩ (.int .i64 x)) gb A C cv (L.set i x) K l := by
  have hwA := h.wA; have hAC := h.AC
  have hc : Chg (fun k => k = A) wr (wr.setCell ⟨A, i, none⟩ (.int .i64 x)) := (Chg.refl (fun k => k = A) wr).setCell (p := ⟨A, i, none⟩) rfl _
  exact ⟨Chg.below h.bel hc (fun k hk => by omega) h.bel.size, hc.heap h.box (by omega), h.arr.put i x, hc.heap h.car (by omega), own_chg h.com hc (fun g hg => by have := h.come_lt g hg; omega), hwA, hAC⟩
theorem RM.setC {n : Nat} {f : Nat → Bool} (h : RM w wr gb A C cv L (btab n f) l) (i : Nat) (b : Bool) : RM w (wr.setCell ⟨C, i, none⟩ (.bool b)) gb A C cv L (btab n (fun v => if v = i then b else f v)) l := by
  have hwA := h.wA; have hAC := h.AC
  have hc : Chg (fun k => k = C) wr (wr.setCell ⟨C, i, none⟩ (.bool b)) := (Chg.refl (fun k => k = C) wr).setCell (p := ⟨C, i, none⟩) rfl _
  exact ⟨Chg.below h.bel hc (fun k hk => by omega) h.bel.size, hc.heap h.box (by omega), hc.heap h.arr (by omega), h.car.put i b, own_chg h.com hc (fun g hg => by have := h.come_lt g hg; omega), hwA, hAC⟩
theorem RM.came (h : RM w wr gb A C cv L K l) {o : Obj} {x : Int} {g cap : Nat} {w2 : World} (hown : w2.ownsRow (C + 1) 3 1 (.slice (some ⟨g, 0, none⟩) (l.length + 1) cap) (l.length + 1) (ivs l ++ [.int .i64 x])) (hgrow : (wr.alloc o).grownBy w2 cv.ownBlock) :
    RM w w2 gb A C (.slice (some ⟨g, 0, none⟩) (l ++ [x]).length cap) L K (l ++ [x]) := by
  have hwA := h.wA; have hAC := h.AC
  have hc : Chg (fun k => cv.ownBlock = some k) wr w2 := ((Chg.refl _ wr).alloc o).grown hgrow (fun k hk => .inl hk)
  have hno : ∀ k, k ≤ C → ¬ cv.ownBlock = some k := fun k hk h3 => by have := h.come_lt k h3; omega
  refine ⟨Chg.below h.bel hc (fun k hk => by have := h.come_lt k hk; omega) h.bel.size, hc.heap h.box (hno _ (by omega)), hc.heap h.arr (hno _ (by omega)), hc.heap h.car (hno _ (Nat.le_refl _)), ?_, hwA, hAC⟩
  rw [List.length_append, List.length_singleton, show ivs (l ++ [x]) = ivs l ++ [.int .i64 x] by simp [ivs]]
  exact hown
theorem RM.boxc (h : RM w wr gb A C cv L K l) {j : Nat} {u : Value} (hu : gb[j]? = some u) : wr.cell? ⟨w.heap.size, j, none⟩ = some u := cell_of h.box hu
end
theorem F0.came {w wr w' : World} {gb : Array Value} {A n : Nat} {L : List Int} (h : F0 w wr gb A L) (hown : w'.ownsRow wr.heap.size 4 1 (.slice (some ⟨wr.heap.size, 0, none⟩) n n) n (madeCells (Value.bool false).cells (n * 1)).toList) (hgrow : wr.grownBy w' none) : RM w w' gb A wr.heap.size (.slice none 0 0) L (btab n (fun _ => false)) [] := by
  have hb : Below wr.heap.size wr w' := (Below.refl _ _).grown hgrow (Nat.le_refl _) (by intro j hj; cases hj)
  exact ⟨below_on h.bel hb, (hb.block _ (lt_of_heap h.box)).trans h.box, (hb.block _ (lt_of_heap h.arr)).trans h.arr, barr_made hown, ⟨by simp [ivs], .inl ⟨rfl, rfl⟩⟩, h.wA, lt_of_heap h.arr⟩
set_option maxRecDepth 100000 in
set_option maxHeartbeats 8000000 in
theorem order_any (n : Nat) (va vb vc : Value) (st tl wt : List Int) (w : World) (hgi : GIs w n va vb vc st tl wt) (hg : Good n st tl wt) :
    Calls Try.prog 51 #[gAgg n va vb vc] w fun e w' => ∃ cv l, e = .returned cv ∧ Fin n st tl l ∧ RowAt .i64 w' cv l ∧ Below w.heap.size w w' := by
  obtain ⟨i4, hi4, hz4, hs4, hy4⟩ := info_parts Try.info4
  obtain ⟨i3, hi3, hz3, hs3, hy3⟩ := info_parts Try.info3q
  have hnl := hg.n_le
  have hml := hg.m_le
  obtain ⟨ga, oa, ca, rfl, hca, _⟩ := hgi.s.cellAt 0 (by rw [hg.s_len]; omega)
  obtain ⟨bo, cb_, rfl⟩ := hgi.t.shape
  have HG := hide hg
  have HS := hide hgi.s
  have HT := hide hgi.t
  obtain ⟨m, hm⟩ : ∃ m, m = tl.length := ⟨_, rfl⟩
  have HM := hide hm
  have hsl := hg.s_len
  rw [hsl] at hca HS ⊢
  rw [← hm] at hml HT ⊢
  have hcb : m ≤ cb_ := by
    obtain ⟨_, _, he, h1, _⟩ := hgi.t
    simp only [Value.slice.injEq] at he
    obtain ⟨_, _, rfl⟩ := he
    omega
  have HCB := hide hcb; have HCA := hide hca; have HNL := hide hnl; have HML := hide hml
  clear hgi hg hm hsl
  unfold gAgg
  have hbox := heap_new w (.cells #[.int .i64 n, .slice (some ⟨ga, oa, none⟩) (n + 1) ca, .slice bo m cb_, vc] 25)
  have c0 := cell_of hbox (i := 0) rfl
  have HB0 : Hid (Below w.heap.size w (w.alloc (.cells #[.int .i64 n, .slice (some ⟨ga, oa, none⟩) (n + 1) ca, .slice bo m cb_, vc] 25))) := below_alloc (Below.refl _ _) _
  have HBX := hide hbox
  clear hbox
  go_enter Try.func51, Try.ntmps51
  go_upto_region 1 with fail
  have HW1 : Hid (w.heap.size < (w.alloc (.cells #[.int .i64 n, .slice (some ⟨ga, oa, none⟩) (n + 1) ca, .slice bo m cb_, vc] 25)).heap.size) := by simp [hide]
  generalize (w.alloc (.cells #[.int .i64 n, .slice (some ⟨ga, oa, none⟩) (n + 1) ca, .slice bo m cb_, vc] 25)) = w1 at c0 HB0 HBX HW1 ⊢
  go_upto_region 2 with (first
    | (at_make; refine wpList_make_full _ rfl _ _ 22 rfl w1.heap.size 3 i3 (.int .i64 0) 1 Try.underlying22 hi3 hz3 hs3 _ _ _ _ n rfl rfl rfl rfl (by rw [hy3]; omega) (by unfold maxLen; omega) (Nat.le_refl _) ?_; intro w2 hown hgrow)
    | fail)
  have hb2 : Below w1.heap.size w1 w2 := (Below.refl _ _).grown hgrow (Nat.le_refl _) (by intro j hj; cases hj)
  have HF : Hid (F0 w w2 #[.int .i64 n, .slice (some ⟨ga, oa, none⟩) (n + 1) ca, .slice bo m cb_, vc] w1.heap.size (tab n (fun v => (cb tl 0 (v : Int) : Int)))) := by
    refine ⟨below_on HB0.out hb2, (hb2.block _ HW1.out).trans HBX.out, ?_, HW1.out⟩
    have := arr_made hown
    simpa [cb_zero] using this
  generalize w1.heap.size = A at HF ⊢
  clear hown hgrow hb2 HB0 HBX HW1 c0
  go_wp2_with fail
  go_loopw [4] (fun t wr => ∃ k : Nat, k ≤ m ∧ t = .int .i64 k ∧ F0 w wr #[.int .i64 n, .slice (some ⟨ga, oa, none⟩) (n + 1) ca, .slice bo m cb_, vc] A (tab n (fun v => (cb tl k (v : Int) : Int)))) (fun t _ => m - (RowKit.intOf t).toNat)
  case atStart => exact ⟨0, Nat.zero_le _, rfl, HF.out⟩
  case round =>
    obtain ⟨k, hk, rfl, hf⟩ := hrel
    have HFR := hide hf
    have c2 := cell_of hf.box (i := 2) rfl
    clear hf HF
    by_cases hlt : k < m
    · obtain ⟨gb, ob, cc, he, hcc, hx⟩ := (HT.out.below HFR.out.bel).cellAt k (by have := HM.out; omega)
      simp only [Value.slice.injEq] at he
      obtain ⟨rfl, hlen, hcc2⟩ := he
      subst hcc2
      obtain ⟨a, ha⟩ : ∃ a : Nat, at_ tl k = (a : Int) := ⟨(at_ tl k).toNat, by have := HG.out.vtx k (by have := HM.out; omega); omega⟩
      have han : a < n := by have := HG.out.vtx k (by have := HM.out; omega); omega
      rw [ha] at hx
      have y0 := HFR.out.arr.cell a (by rw [tab_length]; exact han)
      rw [tab_at _ _ _ han] at y0
      have yf := HFR.out.arr.free a
      have hcl := cb_le tl k (a : Int)
      have HX : Hid (F0 w (wr.setCell ⟨A, a, none⟩ (.int .i64 ((cb tl k (a : Int) : Int) + 1))) #[.int .i64 n, .slice (some ⟨ga, oa, none⟩) (n + 1) ca, .slice (some ⟨gb, ob, none⟩) m cb_, vc] A (tab n (fun v => (cb tl (k + 1) (v : Int) : Int)))) := by
        have := HFR.out.setA a ((cb tl k (a : Int) : Int) + 1)
        rw [tab_count HG.out (by have := HM.out; omega) ha] at this
        exact this
      have hkm : (k : Int) + 1 ≤ 9223372036854775807 := by omega
      have hkc : (k : Int) < cb_ := by omega
      generalize cb tl k (a : Int) = cx at y0 hcl HX
      have hcx : (cx : Int) + 1 ≤ 9223372036854775807 := by omega
      clear hlen hcc ha hcl
      go_wp2_with fail
      go_roundw
      case rel => exact ⟨k + 1, Nat.succ_le_of_lt hlt, by go_num, HX.out⟩
      case measure => exact mdec hlt
    · have hkm : m = k := by omega
      clear hlt hk
      subst hkm
      have HF1 : Hid (F0 w wr #[.int .i64 n, .slice (some ⟨ga, oa, none⟩) (n + 1) ca, .slice bo m cb_, vc] A (tab n (fun v => (cn tl (dn n st []) (v : Int) : Int)))) := by
        have := HFR.out
        rw [HM.out, show (fun v : Nat => (cb tl tl.length (v : Int) : Int)) = fun v : Nat => (cn tl (dn n st []) (v : Int) : Int) from funext fun v => by rw [cb_all n st tl (v : Int)]] at this
        rw [HM.out]
        exact this
      have c0 := cell_of HFR.out.box (i := 0) rfl
      clear HFR
      go_wp2_with (first
        | (at_make; refine wpList_make_full _ rfl _ _ 51 rfl wr.heap.size 4 i4 (.bool false) 1 Try.underlying51 hi4 hz4 hs4 _ _ _ _ n rfl rfl rfl rfl (by rw [hy4]; have := HNL.out; omega) (by unfold maxLen; have := HNL.out; omega) (Nat.le_refl _) ?_; intro w3 hown hgrow; have HR0 := hide (HF1.out.came hown hgrow); clear hown hgrow)
        | fail)
      have HR1 : Hid (RM w w3 #[.int .i64 n, .slice (some ⟨ga, oa, none⟩) (n + 1) ca, .slice bo m cb_, vc] A wr.heap.size (.slice none 0 0) (tab n (fun v => (cn tl (dn n st []) (v : Int) : Int))) (btab n (fun v => decide ((v : Int) ∈ ([] : List Int)))) []) := by
        have := HR0.out
        rw [show (fun _ : Nat => false) = (fun v : Nat => decide ((v : Int) ∈ ([] : List Int))) from funext fun v => by simp] at this
        exact this
      generalize wr.heap.size = C at HR1 ⊢
      clear HR0 HF1 c0 c2
      go_loopw [6, 7] (fun t v wr => ∃ (l : List Int) (k : Nat), v = .int .i64 k ∧ k ≤ n ∧ RM w wr #[.int .i64 n, .slice (some ⟨ga, oa, none⟩) (n + 1) ca, .slice bo m cb_, vc] A C t (tab n (fun v => (cn tl (dn n st l) (v : Int) : Int))) (btab n (fun v => decide ((v : Int) ∈ l))) l ∧ Sq n st tl l ∧ ∀ x, 0 ≤ x → x < (k : Int) → ¬ Rdy n tl (dn n st l) l x) (fun t v _ => (n - lenV t) * (n + 1) + (n - (RowKit.intOf v).toNat))
      case atStart => exact ⟨[], 0, rfl, Nat.zero_le _, HR1.out, .nil, fun x h1 h2 => absurd h2 (by simpa using h1)⟩
      case round =>
        obtain ⟨l, k, rfl, hk, hr, hsq, hnr⟩ := hrel
        have HRR := hide hr; have HSQ := hide hsq; have HNR := hide hnr
        have HLN := hide (lenV_own hr.com)
        have c0 := hr.boxc (j := 0) rfl
        have c1 := hr.boxc (j := 1) rfl
        have c2 := hr.boxc (j := 2) rfl
        clear hr hsq hnr HR1
        by_cases hlt : k < n
        · have y0 := HRR.out.arr.cell k (by rw [tab_length]; exact hlt)
          rw [tab_at _ _ _ hlt] at y0
          have y1 := HRR.out.car.cell k hlt
          have yf := HRR.out.car.free k
          have hkm2 : (k : Int) + 1 ≤ 9223372036854775807 := by have := HNL.out; omega
          by_cases hkl : (k : Int) ∈ l
          · rw [decide_eq_true hkl] at y1
            have HN2 : Hid (∀ x, 0 ≤ x → x < ((k + 1 : Nat) : Int) → ¬ Rdy n tl (dn n st l) l x) := fun x h1 h2 h3 => by
              by_cases e : x = (k : Int)
              · subst e; exact h3.2.1 hkl
              · exact HNR.out x h1 (by omega) h3
            clear hkl
            go_wp2_with fail
            go_roundw
            case rel => exact ⟨l, k + 1, by go_num, Nat.succ_le_of_lt hlt, HRR.out, HSQ.out, HN2.out⟩
            case measure => exact mdec2 hlt
          · rw [decide_eq_false hkl] at y1
            obtain ⟨cx, hcx⟩ : ∃ cx : Int, cx = (cn tl (dn n st l) (k : Int) : Int) := ⟨_, rfl⟩
            rw [← hcx] at y0
            have HCX := hide hcx
            have HKL := hide hkl
            clear hcx hkl
            by_cases hz : 0 < cx
            · have HN2 : Hid (∀ x, 0 ≤ x → x < ((k + 1 : Nat) : Int) → ¬ Rdy n tl (dn n st l) l x) := fun x h1 h2 h3 => by
                by_cases e : x = (k : Int)
                · subst e; have := h3.2.2; have := HCX.out; omega
                · exact HNR.out x h1 (by omega) h3
              go_wp2_with fail
              go_roundw
              case rel => exact ⟨l, k + 1, by go_num, Nat.succ_le_of_lt hlt, HRR.out, HSQ.out, HN2.out⟩
              case measure => exact mdec2 hlt
            · have HRD : Hid (Rdy n tl (dn n st l) l (k : Int)) := ⟨⟨by omega, by omega⟩, HKL.out, by have := HCX.out; omega⟩
              have HSQ2 : Hid (Sq n st tl (l ++ [(k : Int)])) := .snoc HSQ.out HRD.out (fun v hv => by
                by_cases h : v < (k : Int)
                · exact absurd hv (HNR.out v hv.1.1 h)
                · omega)
              have HLEN : Hid (l.length < n) := by
                have := Sq.len n st tl HSQ2.out
                simp at this
                show _ < _
                omega
              obtain ⟨p, hp⟩ : ∃ p : Nat, at_ st k = (p : Int) := ⟨(at_ st k).toNat, by have := HG.out.range k (by omega); omega⟩
              obtain ⟨r, hr⟩ : ∃ r : Nat, at_ st (k + 1) = ((p + r : Nat) : Int) := ⟨(at_ st (k + 1)).toNat - p, by have := HG.out.step k hlt; have := HG.out.range (k + 1) (by omega); omega⟩
              have hpr : p + r ≤ m := by have := HG.out.range (k + 1) (by omega); have := HM.out; omega
              have HSRC : Hid (∀ j, j < r → src st n (p + j) = k) := fun j hj => src_eq HG.out hlt (by rw [hp]; omega) (by rw [hr]; omega)
              have HP_ := hide hp; have HR_ := hide hr
              obtain ⟨ga2, oa2, ca2, he1, hca1, hx1⟩ := HS.out.cellAt k (by rw [HG.out.s_len]; omega)
              obtain ⟨ga3, oa3, ca3, he2, _, hx2⟩ := HS.out.cellAt (k + 1) (by rw [HG.out.s_len]; omega)
              simp only [Value.slice.injEq, Option.some.injEq, Addr.mk.injEq, and_true] at he1 he2
              obtain ⟨⟨rfl, rfl⟩, hq7, rfl⟩ := he1
              obtain ⟨⟨rfl, rfl⟩, hq8, rfl⟩ := he2
              rw [hp] at hx1
              rw [hr] at hx2
              have HX1 := hide hx1; have HX2 := hide hx2
              have HRC : Hid (RM w (wr.setCell ⟨C, k, none⟩ (.bool true)) #[.int .i64 n, .slice (some ⟨ga, oa, none⟩) (n + 1) ca, .slice bo m cb_, vc] A C u6 (tab n (fun v => (cn tl (dn n st l) (v : Int) : Int))) (btab n (fun v => decide ((v : Int) ∈ l ++ [(k : Int)]))) l) := by
                have := HRR.out.setC k true
                rw [show (fun v : Nat => if v = k then true else decide ((v : Int) ∈ l)) = fun v : Nat => decide ((v : Int) ∈ l ++ [(k : Int)]) from funext fun v => by
                  by_cases e : v = k
                  · subst e; simp
                  · have : ¬ (v : Int) = (k : Int) := by omega
                    simp [e, this]] at this
                exact this
              have HOA := hide (own_chg (S := fun _ => False) HRC.out.com ((Chg.refl _ (wr.setCell ⟨C, k, none⟩ (.bool true))).alloc (.cells #[.int .i64 (k : Int)] 3)) (fun _ _ h => h))
              have hCs : C + 1 ≤ (wr.setCell ⟨C, k, none⟩ (.bool true)).heap.size := Nat.succ_le_of_lt (lt_of_heap HRC.out.car)
              have hc00 : cx = 0 := by have := HCX.out; omega
              subst hc00
              clear hq7 hq8 hp hr hx1 hx2 hca1 hz
              go_upto_region 13 with fail
              generalize (wr.setCell ⟨C, k, none⟩ (.bool true)) = w7 at HRC HOA hCs ⊢
              clear c0 c1 c2 y0 y1 yf HRR
              go_upto_region 14 with (first
                | (at_builtin; refine wpList_append_lies _ rfl (.tmp 54) (.tmp 56) 22 rfl (C + 1) 3 i3 (.int .i64 0) 1 8 Try.underlying22 hi3 hz3 hs3 hy3 rfl (by omega) _ l.length (ivs l) rfl HOA.out ⟨w7.heap.size, 0, none⟩ 1 1 [.int .i64 (k : Int)] rfl rfl (one_at w7 _ _) (by simp [Value.oneCell']) (by omega) (by unfold maxLen; have := HLEN.out; have := HNL.out; omega) (by have := HLEN.out; have := HNL.out; omega) (by simp; omega) (w7.heap.size + 1) (by simp) ?_; intro g8 cap8 w8 hown hgrow hat hltg; have HR8 := hide (HRC.out.came hown hgrow); clear hown hgrow hat hltg HOA)
                | fail)
              have hcl : (l ++ [(k : Int)]).length = l.length + 1 := by simp
              rw [hcl] at HR8
              generalize hcv8 : (Value.slice (some ⟨g8, 0, none⟩) (l.length + 1) cap8) = cv8 at HR8 ⊢
              have HCV : Hid (lenV cv8 = l.length + 1) := by rw [← hcv8]; rfl
              clear hcv8 hcl
              have b1 := HR8.out.boxc (j := 1) rfl
              have s1 : w8.cell? ⟨ga, oa + k, none⟩ = some (.int .i64 (p : Int)) := (below_cell HR8.out.bel (block_of_cell HX1.out)).trans HX1.out
              have HR9 : Hid (RM w w8 #[.int .i64 n, .slice (some ⟨ga, oa, none⟩) (n + 1) ca, .slice bo m cb_, vc] A C cv8 (tab n (fun v => (cn tl (dp n st l k p) (v : Int) : Int))) (btab n (fun v => decide ((v : Int) ∈ l ++ [(k : Int)]))) (l ++ [(k : Int)])) := by
                have := HR8.out
                rw [← tab_cn (n := n) (tl := tl) (dp_start n st tl l k HG.out p HP_.out)] at this
                exact this
              have HNR9 : Hid (∀ y, 0 ≤ y → y < ((k + 1 : Nat) : Int) → ¬ Rdy n tl (dp n st l k p) (l ++ [(k : Int)]) y) := fun y h1 h2 h3 => by
                obtain ⟨h4, h5⟩ := (rdy_start HG.out HP_.out y).1 h3
                exact HNR.out y h1 (by omega) h4
              have hka : (k : Int) < ca := by have := HCA.out; omega
              clear HRC hCs HR8
              go_wp2_with fail
              clear s1 b1
              go_loopw [8, 9] (fun x e wr => ∃ j : Nat, j ≤ r ∧ e = .int .i64 ((p + j : Nat) : Int) ∧ ∃ y : Nat, y ≤ k + 1 ∧ x = .int .i64 (y : Int) ∧ RM w wr #[.int .i64 n, .slice (some ⟨ga, oa, none⟩) (n + 1) ca, .slice bo m cb_, vc] A C cv8 (tab n (fun v => (cn tl (dp n st l k (p + j)) (v : Int) : Int))) (btab n (fun v => decide ((v : Int) ∈ l ++ [(k : Int)]))) (l ++ [(k : Int)]) ∧ ∀ z, 0 ≤ z → z < (y : Int) → ¬ Rdy n tl (dp n st l k (p + j)) (l ++ [(k : Int)]) z) (fun _ e _ => p + r - (RowKit.intOf e).toNat)
              case atStart => exact ⟨0, Nat.zero_le _, rfl, k + 1, Nat.le_refl _, by go_num, HR9.out, HNR9.out⟩
              case round =>
                obtain ⟨j, hj, rfl, y, hy, rfl, hrm, hnr⟩ := hrel
                have HRJ := hide hrm; have HNJ := hide hnr
                have c1 := hrm.boxc (j := 1) rfl
                have c2 := hrm.boxc (j := 2) rfl
                have s2 : wr.cell? ⟨ga, oa + (k + 1), none⟩ = some (.int .i64 ((p + r : Nat) : Int)) := (below_cell hrm.bel (block_of_cell HX2.out)).trans HX2.out
                have hk1c : (k : Int) + 1 < ca := by have := HCA.out; omega
                clear hrm hnr HR9 HNR9
                by_cases hjr : j < r
                · obtain ⟨gs, os_, cs, he, hcc, hx⟩ := (HT.out.below HRJ.out.bel).cellAt (p + j) (by have := HM.out; omega)
                  simp only [Value.slice.injEq] at he
                  obtain ⟨rfl, hlen9, hcc2⟩ := he
                  subst hcc2
                  have hpm : p + j < tl.length := by have := HM.out; omega
                  obtain ⟨a, ha⟩ : ∃ a : Nat, at_ tl (p + j) = (a : Int) := ⟨(at_ tl (p + j)).toNat, by have := HG.out.vtx (p + j) hpm; omega⟩
                  have han : a < n := by have := HG.out.vtx (p + j) hpm; omega
                  rw [ha] at hx
                  have hul : ¬ (k : Int) ∈ l := HRD.out.2.1
                  obtain ⟨t1, t2⟩ := tab_down HG.out hpm (HSRC.out j hjr) hul ha
                  have y0 := HRJ.out.arr.cell a (by rw [tab_length]; exact han)
                  rw [tab_at _ _ _ han] at y0
                  have yf := HRJ.out.arr.free a
                  have hmx := cn_max tl (dp n st l k (p + j)) (a : Int)
                  have HSE : Hid (RM w (wr.setCell ⟨A, a, none⟩ (.int .i64 ((cn tl (dp n st l k (p + j)) (a : Int) : Int) - 1))) #[.int .i64 n, .slice (some ⟨ga, oa, none⟩) (n + 1) ca, .slice (some ⟨gs, os_, none⟩) m cb_, vc] A C cv8 (tab n (fun v => (cn tl (dp n st l k (p + j + 1)) (v : Int) : Int))) (btab n (fun v => decide ((v : Int) ∈ l ++ [(k : Int)]))) (l ++ [(k : Int)])) := by
                    have := HRJ.out.setA a ((cn tl (dp n st l k (p + j)) (a : Int) : Int) - 1)
                    rw [t1] at this
                    exact this
                  have HNX := hide (fun x => rdy_next (l' := l ++ [(k : Int)]) HG.out hpm (HSRC.out j hjr) hul x)
                  have hnc := not_came HG.out HSQ2.out hpm (HSRC.out j hjr)
                  rw [ha] at hnc
                  obtain ⟨cx, hcx⟩ : ∃ cx : Int, cx = (cn tl (dp n st l k (p + j)) (a : Int) : Int) := ⟨_, rfl⟩
                  rw [← hcx] at y0 HSE
                  obtain ⟨cy, hcy⟩ : ∃ cy : Int, cy = cx - 1 := ⟨_, rfl⟩
                  have hcy2 : cx - 1 = cy := hcy.symm
                  rw [hcy2] at HSE
                  have hw64 : wrap64 cy = cy := IntWalk.wrap64_in _ (by have := HML.out; have := HM.out; omega)
                  have hwy : IntKind.i64.wrap (cx - 1) = cy := by rw [hcy]; exact IntWalk.i64_in _ (by have := HML.out; have := HM.out; omega)
                  have HCY : Hid (cy = (cn tl (dp n st l k (p + j + 1)) (a : Int) : Int)) := by rw [hcy, hcx]; exact t2
                  have z0 : (wr.setCell ⟨A, a, none⟩ (.int .i64 cy)).cell? ⟨A, a, none⟩ = some (.int .i64 cy) := by
                    have := HSE.out.arr.cell a (by rw [tab_length]; exact han)
                    rw [tab_at _ _ _ han, ← HCY.out] at this
                    exact this
                  have z1 : (wr.setCell ⟨A, a, none⟩ (.int .i64 cy)).cell? ⟨C, a, none⟩ = some (.bool false) := by
                    have := HSE.out.car.cell a han
                    rw [decide_eq_false hnc] at this
                    exact this
                  obtain ⟨e0, he0⟩ : ∃ e0 : Nat, e0 = p + j := ⟨_, rfl⟩
                  have hem : (e0 : Int) + 1 ≤ 9223372036854775807 := by have := HML.out; omega
                  have hec : (e0 : Int) < cb_ := by have := HCB.out; omega
                  have helt : (e0 : Int) < ((p + r : Nat) : Int) := by omega
                  have helt2 : e0 < p + r := by omega
                  have hem2 : e0 < m := by omega
                  obtain ⟨pr, hpr2⟩ : ∃ pr : Nat, pr = p + r := ⟨_, rfl⟩
                  rw [← hpr2] at s2 helt helt2
                  rw [← he0] at hx ⊢
                  have HE0 := hide he0; have HPR2 := hide hpr2
                  have HA_ := hide ha; have HPM := hide hpm; have HNC := hide hnc
                  have HMS : Hid (p + r - (e0 + 1) < p + r - e0) := by show _ < _; omega
                  clear hlen9 hcc ha t1 t2 hmx hcx hcy hpm hul hnc he0 hpr2
                  by_cases hz : cy = 0
                  · subst hz
                    by_cases hay : (a : Int) < (y : Int)
                    · go_wp2_with fail
                      go_roundw
                      case rel =>
                        refine ⟨j + 1, Nat.succ_le_of_lt hjr, by have := HE0.out; go_num, a, by omega, rfl, HSE.out, fun z h1 h2 h3 => ?_⟩
                        rw [show p + (j + 1) = p + j + 1 from rfl, HNX.out z] at h3
                        rcases h3 with h3 | h3
                        · exact HNJ.out z h1 (by omega) h3
                        · have := h3.1; rw [HA_.out] at this; omega
                      case measure =>
                        have := HMS.out
                        simp [RowKit.intOf]
                        omega
                    · have hay2 : decide ((a : Int) < (y : Int)) = false := decide_eq_false hay
                      go_wp2_with fail
                      go_roundw
                      case rel =>
                        refine ⟨j + 1, Nat.succ_le_of_lt hjr, by have := HE0.out; go_num, y, hy, rfl, HSE.out, fun z h1 h2 h3 => ?_⟩
                        rw [show p + (j + 1) = p + j + 1 from rfl, HNX.out z] at h3
                        rcases h3 with h3 | h3
                        · exact HNJ.out z h1 h2 h3
                        · have := h3.1; rw [HA_.out] at this; omega
                      case measure =>
                        have := HMS.out
                        simp [RowKit.intOf]
                        omega
                  · have hzb : (cy == 0) = false := by simpa using hz
                    have HZ := hide hz
                    go_wp2_with fail
                    go_roundw
                    case rel =>
                      refine ⟨j + 1, Nat.succ_le_of_lt hjr, by have := HE0.out; go_num, y, hy, rfl, HSE.out, fun z h1 h2 h3 => ?_⟩
                      rw [show p + (j + 1) = p + j + 1 from rfl, HNX.out z] at h3
                      rcases h3 with h3 | h3
                      · exact HNJ.out z h1 h2 h3
                      · have h4 := h3.2.1
                        rw [h3.1, HA_.out] at h4
                        have := HCY.out; have := HZ.out; omega
                    case measure =>
                      have := HMS.out
                      simp [RowKit.intOf]
                      omega
                · have hje : j = r := by omega
                  have HSR : Hid (at_ st (k + 1) = ((p + j : Nat) : Int)) := by rw [hje]; exact HR_.out
                  have HEQ : Hid (RM w wr #[.int .i64 n, .slice (some ⟨ga, oa, none⟩) (n + 1) ca, .slice bo m cb_, vc] A C cv8 (tab n (fun v => (cn tl (dn n st (l ++ [(k : Int)])) (v : Int) : Int))) (btab n (fun v => decide ((v : Int) ∈ l ++ [(k : Int)]))) (l ++ [(k : Int)])) := by
                    have := HRJ.out
                    rw [tab_cn (n := n) (tl := tl) (dp_end n st tl l k HG.out (p + j) HSR.out)] at this
                    exact this
                  have HNE : Hid (∀ z, 0 ≤ z → z < (y : Int) → ¬ Rdy n tl (dn n st (l ++ [(k : Int)])) (l ++ [(k : Int)]) z) := fun z h1 h2 h3 => HNJ.out z h1 h2 ((rdy_end HG.out HSR.out z).2 h3)
                  have HMS : Hid ((n - lenV cv8) * (n + 1) + (n - y) < (n - l.length) * (n + 1) + (n - k)) := mdec3 (by have := HCV.out; have := HLEN.out; omega) (by omega)
                  subst hje
                  have hlt2 : ¬ ((p + j : Nat) : Int) < ((p + j : Nat) : Int) := by omega
                  go_wp2_with fail
                  refine ⟨⟨l ++ [(k : Int)], y, rfl, by omega, HEQ.out, HSQ2.out, HNE.out⟩, ?_⟩
                  rw [HLN.out]
                  simpa [RowKit.intOf] using HMS.out
        · have hkn : n = k := by omega
          have HFin : Hid (Fin n st tl l) := ⟨HSQ.out, fun v hv => HNR.out v hv.1.1 (by have := hv.1.2; omega) hv⟩
          go_wp2_with fail
          go_ret
          exact ⟨_, l, rfl, HFin.out, RowAt.of_own HRR.out.com, HRR.out.bel⟩
end Go.Proofs.Yteblkbneghbcbaa
