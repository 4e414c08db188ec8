import Derived.Test.YteblkbneghbcbaaRo
import Derived.Test.YteblkbneghbcbaaKr
/- A row of bools under way; how many are false. -/
namespace Go.Proofs.Yteblkbneghbcbaa
open Go.RowKit Go.Lib
set_option linter.unusedVariables false
set_option linter.unusedSimpArgs false
/-- Has, under way. -/
structure X0 (w wr : World) (gb : Array Value) (C n : Nat) (K : Nat → Bool) : Prop where
  bel : Below w.heap.size w wr
  box : wr.heap[w.heap.size]? = some (.cells gb 25 (0, 0))
  car : BArr wr C (btab n K)
  wC : w.heap.size < C
theorem X0.put {w wr : World} {gb : Array Value} {C n : Nat} {K : Nat → Bool} (h : X0 w wr gb C n K) (i : Nat) (b : Bool) : X0 w (wr.setCell ⟨C, i, none⟩ (.bool b)) gb C n (fun v => if v = i then b else K v) := by
  have h1 := h.wC
  have hc : Chg (fun k => k = C) wr (wr.setCell ⟨C, i, none⟩ (.bool b)) := (Chg.refl (fun k => k = C) wr).setCell (p := ⟨C, i, none⟩) rfl _
  exact ⟨Chg.below h.bel hc (fun k hk => by omega) h.bel.size, hc.heap h.box (by omega), h.car.put i b, h1⟩
/-- How many cells of a block are false. -/
def offs (w : World) (g : Nat) : Nat := match w.heap[g]? with
  | some (.cells a _ _) => a.toList.countP (fun v => match v with | .bool b => !b | _ => false)
  | _ => 0
theorem offs_of {w : World} {g n : Nat} {K : Nat → Bool} (h : BArr w g (btab n K)) : offs w g = (List.range n).countP (fun x => !K x) := by
  unfold BArr at h
  unfold offs
  rw [h]
  simp only [bCells, btab, List.map_map, List.countP_map]
  rfl
theorem off_less {n a : Nat} {K : Nat → Bool} (ha : a < n) (hK : K a = false) : (List.range n).countP (fun x => !(if x = a then true else K x)) < (List.range n).countP (fun x => !K x) := by
  induction n with
  | zero => omega
  | succ n ih =>
    rw [List.range_succ, List.countP_append, List.countP_append, List.countP_singleton, List.countP_singleton]
    by_cases e : a = n
    · subst e
      have h1 : (List.range a).countP (fun x => !(if x = a then true else K x)) = (List.range a).countP (fun x => !K x) := by
        apply List.countP_congr
        intro x hx
        have := List.mem_range.1 hx
        rw [if_neg (by omega)]
      rw [h1]
      simp [hK]
    · have := ih (by omega)
      rw [if_neg (show ¬ n = a by omega)]
      omega
end Go.Proofs.Yteblkbneghbcbaa

/- The document's reached. -/
namespace Go.Proofs.Yteblkbneghbcbaa
open Go.RowKit Go.Lib
set_option linter.unusedVariables false
set_option linter.unusedSimpArgs false
structure RK (w wr : World) (gb : Array Value) (C n : Nat) (K : Nat → Bool) (cv : Value) (l : List Int) : Prop where
  bel : Below w.heap.size w wr
  box : wr.heap[w.heap.size]? = some (.cells gb 25 (0, 0))
  car : BArr wr C (btab n K)
  own : wr.ownsRow (C + 1) 3 1 cv l.length (ivs l)
  wC : w.heap.size < C
section
variable {w wr : World} {gb : Array Value} {C n : Nat} {K : Nat → Bool} {cv : Value} {l : List Int}
theorem RK.own_lt (h : RK w wr gb C n K cv l) : ∀ k, cv.ownBlock = some k → C + 1 ≤ k ∧ k < wr.heap.size := fun k hk => World.ownsRow.lt h.own k hk
theorem RK.setC (h : RK w wr gb C n K cv l) (i : Nat) (b : Bool) : RK w (wr.setCell ⟨C, i, none⟩ (.bool b)) gb C n (fun v => if v = i then b else K v) cv l := by
  have hwC := h.wC
  have hc : Chg (fun k => k = C) wr (wr.setCell ⟨C, i, none⟩ (.bool b)) := (Chg.refl (fun k => k = C) wr).setCell (p := ⟨C, i, none⟩) rfl _
  exact ⟨Chg.below h.bel hc (fun k hk => by omega) h.bel.size, hc.heap h.box (by omega), h.car.put i b, own_chg h.own hc (fun g hg => by have := h.own_lt g hg; omega), hwC⟩
theorem RK.came (h : RK w wr gb C n K cv l) {o : Obj} {x : Int} {g cap : Nat} {w2 : World} (hown : w2.ownsRow (C + 1) 3 1 (.slice (some ⟨g, 0, none⟩) (l.length + 1) cap) (l.length + 1) (ivs l ++ [.int .i64 x])) (hgrow : (wr.alloc o).grownBy w2 cv.ownBlock) :
    RK w w2 gb C n K (.slice (some ⟨g, 0, none⟩) (l ++ [x]).length cap) (l ++ [x]) := by
  have hwC := h.wC
  have hc : Chg (fun k => cv.ownBlock = some k) wr w2 := ((Chg.refl _ wr).alloc o).grown hgrow (fun k hk => .inl hk)
  have hno : ∀ k, k ≤ C → ¬ cv.ownBlock = some k := fun k hk h3 => by have := h.own_lt k h3; omega
  refine ⟨Chg.below h.bel hc (fun k hk => by have := h.own_lt k hk; omega) h.bel.size, hc.heap h.box (hno _ (by omega)), hc.heap h.car (hno _ (Nat.le_refl _)), ?_, hwC⟩
  rw [List.length_append, List.length_singleton, show ivs (l ++ [x]) = ivs l ++ [.int .i64 x] by simp [ivs]]
  exact hown
theorem own_pop {B g k cap : Nat} {u : Int} (h : wr.ownsRow B 3 1 (.slice (some ⟨g, 0, none⟩) (k + 1) cap) (k + 1) (ivs (l ++ [u]))) (hk : l.length = k) : wr.ownsRow B 3 1 (.slice (some ⟨g, 0, none⟩) k cap) k (ivs l) := by
  obtain ⟨h0, ⟨he, _⟩ | ⟨g', cap', cur, he, hg, hb, h1, h2, h3, h4⟩⟩ := h
  · simp at he
  · simp only [Value.slice.injEq, Option.some.injEq, Addr.mk.injEq, and_true] at he
    obtain ⟨rfl, _, rfl⟩ := he
    refine ⟨by simp [ivs, hk], .inr ⟨g, cap, cur, rfl, hg, hb, by omega, h2, h3, ?_⟩⟩
    have := congrArg (List.take k) h4
    rw [List.take_take, show min k ((k + 1) * 1) = k by omega] at this
    rw [Nat.mul_one, this]
    simp only [ivs, List.map_append]
    rw [List.take_append_of_le_length (by simp; omega), List.take_of_length_le (by simp; omega)]
end
set_option maxRecDepth 100000 in
set_option maxHeartbeats 8000000 in
theorem reached_any (n : Nat) (va vb vc : Value) (st tl wt : List Int) (v0 : Nat) (w : World) (hgi : GIs w n va vb vc st tl wt) (hg : Good n st tl wt) (hv0 : v0 < n) :
    Calls Try.prog 43 #[gAgg n va vb vc, .int .i64 (v0 : Int)] w fun e w' => ∃ C K, e = .returned (.slice (some ⟨C, 0, none⟩) n n) ∧ BArr w' C (btab n K) ∧ w.heap.size ≤ C ∧ (∀ x, x < n → (K x = true ↔ Rc (EE n (sN st) (tN tl)) v0 x)) ∧ Below w.heap.size w w' := by
  obtain ⟨i4, hi4, hz4, hs4, hy4⟩ := info_parts Try.info4
  obtain ⟨i3, hi3, hz3, hs3, hy3⟩ := info_parts Try.info3q
  have hnl := hg.n_le
  have hml := hg.m_le
  obtain ⟨ga, oa, ca, rfl, hca, _⟩ := hgi.s.cellAt 0 (by rw [hg.s_len]; omega)
  obtain ⟨bo, cb_, rfl⟩ := hgi.t.shape
  have HG := hide hg; have HS := hide hgi.s; have HT := hide hgi.t
  obtain ⟨m, hm⟩ : ∃ m, m = tl.length := ⟨_, rfl⟩
  have HM := hide hm
  have hsl := hg.s_len
  have hcb : m ≤ cb_ := by
    obtain ⟨_, _, he, h1, _⟩ := hgi.t
    simp only [Value.slice.injEq] at he
    obtain ⟨_, _, rfl⟩ := he
    omega
  rw [hsl] at hca HS ⊢
  rw [← hm] at hml HT ⊢
  have HCB := hide hcb; have HCA := hide hca; have HNL := hide hnl; have HML := hide hml
  clear hgi hg hm hsl
  unfold gAgg
  have hbox := heap_new w (.cells #[.int .i64 n, .slice (some ⟨ga, oa, none⟩) (n + 1) ca, .slice bo m cb_, vc] 25)
  have c0 := cell_of hbox (i := 0) rfl
  have HB0 : Hid (Below w.heap.size w (w.alloc (.cells #[.int .i64 n, .slice (some ⟨ga, oa, none⟩) (n + 1) ca, .slice bo m cb_, vc] 25))) := below_alloc (Below.refl _ _) _
  have HBX := hide hbox
  clear hbox
  go_enter Try.func43, Try.ntmps43
  go_upto_region 1 with fail
  have HW1 : Hid (w.heap.size < (w.alloc (.cells #[.int .i64 n, .slice (some ⟨ga, oa, none⟩) (n + 1) ca, .slice bo m cb_, vc] 25)).heap.size) := by simp [hide]
  generalize (w.alloc (.cells #[.int .i64 n, .slice (some ⟨ga, oa, none⟩) (n + 1) ca, .slice bo m cb_, vc] 25)) = w1 at c0 HB0 HBX HW1 ⊢
  go_upto_region 2 with (first
    | (at_make; refine wpList_make_full _ rfl _ _ 51 rfl w1.heap.size 4 i4 (.bool false) 1 Try.underlying51 hi4 hz4 hs4 _ _ _ _ n rfl rfl rfl rfl (by rw [hy4]; omega) (by unfold maxLen; omega) (Nat.le_refl _) ?_; intro w2 hown hgrow)
    | fail)
  have hb2 : Below w1.heap.size w1 w2 := (Below.refl _ _).grown hgrow (Nat.le_refl _) (by intro j hj; cases hj)
  have HX : Hid (X0 w w2 #[.int .i64 n, .slice (some ⟨ga, oa, none⟩) (n + 1) ca, .slice bo m cb_, vc] w1.heap.size n (fun _ => false)) := ⟨below_on HB0.out hb2, (hb2.block _ HW1.out).trans HBX.out, barr_made hown, HW1.out⟩
  generalize w1.heap.size = C at HX ⊢
  clear hown hgrow hb2 HB0 HBX HW1 c0
  have y0 := HX.out.car.cell v0 hv0
  have yf := HX.out.car.free v0
  have HRK : Hid (RK w ((w2.setCell ⟨C, v0, none⟩ (.bool true)).alloc (.cells #[.int .i64 (v0 : Int)] 3)) #[.int .i64 n, .slice (some ⟨ga, oa, none⟩) (n + 1) ca, .slice bo m cb_, vc] C n (fun x => decide (x = v0)) (.slice (some ⟨(w2.setCell ⟨C, v0, none⟩ (.bool true)).heap.size, 0, none⟩) 1 1) [(v0 : Int)]) := by
    have h1 := HX.out.put v0 true
    rw [show (fun v => if v = v0 then true else (fun _ : Nat => false) v) = (fun x => decide (x = v0)) from funext fun x => by by_cases e : x = v0 <;> simp [e]] at h1
    generalize (w2.setCell ⟨C, v0, none⟩ (.bool true)) = w3 at h1 ⊢
    have hb : Below w3.heap.size w3 (w3.alloc (.cells #[.int .i64 (v0 : Int)] 3)) := below_alloc (Below.refl _ _) _
    exact ⟨below_on h1.bel hb, (hb.block _ (lt_of_heap h1.box)).trans h1.box, (hb.block _ (lt_of_heap h1.car)).trans h1.car, ⟨by simp [ivs], .inr ⟨w3.heap.size, 1, _, rfl, lt_of_heap h1.car, heap_new _ _, Nat.le_refl _, by unfold maxLen; omega, by simp, by simp [ivs]⟩⟩, h1.wC⟩
  have hsz3 : (w2.setCell ⟨C, v0, none⟩ (.bool true)).heap.size = w2.heap.size := by simp [World.setCell]
  rw [hsz3] at HRK
  clear hsz3
  have HRP := hide (RP.start n (sN st) (tN tl) v0 hv0)
  have HSM : Hid ([(v0 : Int)].length + (List.range n).countP (fun x => !decide (x = v0)) ≤ n) := by
    have := off_less (n := n) (a := v0) (K := fun _ => false) hv0 rfl
    have e : (List.range n).countP (fun x => !(if x = v0 then true else (fun _ : Nat => false) x)) = (List.range n).countP (fun x => !decide (x = v0)) := List.countP_congr fun x _ => by by_cases e : x = v0 <;> simp [e]
    rw [e] at this
    have h2 := List.countP_le_length (p := fun x => !(fun _ : Nat => false) x) (l := List.range n)
    simp at h2 this ⊢
    show _ ≤ _
    omega
  go_wp2_with fail
  clear y0 yf HX
  go_loopw [6] (fun cv wr => ∃ (K : Nat → Bool) (l : List Int), RK w wr #[.int .i64 n, .slice (some ⟨ga, oa, none⟩) (n + 1) ca, .slice bo m cb_, vc] C n K cv l ∧ RP n (sN st) (tN tl) v0 K l n 0 ∧ l.length + (List.range n).countP (fun x => !K x) ≤ n) (fun cv wr => lenV cv + 2 * offs wr C)
  case atStart => exact ⟨_, _, HRK.out, HRP.out, HSM.out⟩
  case round =>
    obtain ⟨K, l, hrk, hrp, hsm⟩ := hrel
    have HKR := hide hrk; have HPR := hide hrp; have HSR := hide hsm
    have HLN := hide (lenV_own hrk.own)
    clear hrk hrp hsm HRK HRP HSM
    rcases List.eq_nil_or_concat l with rfl | ⟨l0, x, rfl⟩
    · obtain ⟨co, cc, rfl⟩ : ∃ co cc, u6 = .slice co 0 cc := by
        obtain ⟨_, ⟨rfl, h0⟩ | ⟨g, cap, cur, rfl, _⟩⟩ := HKR.out.own
        · exact ⟨_, _, rfl⟩
        · exact ⟨_, _, rfl⟩
      have HK := hide (HPR.out.done (fun x y h => (ee_lt HG.out h).2) hv0)
      go_wp2_with fail
      go_ret
      exact ⟨C, K, rfl, HKR.out.car, by have := HKR.out.wC; omega, HK.out, HKR.out.bel⟩
    · rw [List.concat_eq_append] at HKR HPR HSR HLN
      obtain ⟨u, rfl, hun, hKu⟩ := HPR.out.wkn x (by simp)
      obtain ⟨k, hk⟩ : ∃ k, k = l0.length := ⟨_, rfl⟩
      have hlk : (l0 ++ [(u : Int)]).length = k + 1 := by simp [hk]
      have how := HKR.out.own
      obtain ⟨g, c, he, hg1, hg2, hc1, hc2, hcl⟩ := own_cells how (by omega)
      rw [hlk] at he how hc1 HLN
      subst he
      have d0 := (hcl k (by omega)).1
      rw [show at_ (l0 ++ [(u : Int)]) k = (u : Int) by simp [at_, hk]] at d0
      have HOW := hide (own_pop how hk.symm)
      have HRK2 : Hid (RK w wr #[.int .i64 n, .slice (some ⟨ga, oa, none⟩) (n + 1) ca, .slice bo m cb_, vc] C n K (.slice (some ⟨g, 0, none⟩) k c) l0) := by
        have h1 := HKR.out
        exact ⟨h1.bel, h1.box, h1.car, by rw [← hk]; exact HOW.out, h1.wC⟩
      have HRP2 := hide HPR.out.pop
      have HSM2 : Hid (l0.length + (List.range n).countP (fun x => !K x) ≤ n) := by
        have := HSR.out; rw [hlk] at this; show _ ≤ _; omega
      have hkc : (k : Int) ≤ c := by omega
      have hkc2 : (k : Int) < c := by omega
      have HK_ := hide hk
      have c1 := cell_of HKR.out.box (i := 1) rfl
      obtain ⟨p, hp⟩ : ∃ p : Nat, at_ st u = (p : Int) := ⟨(at_ st u).toNat, by have := HG.out.range u (by omega); omega⟩
      obtain ⟨r, hr⟩ : ∃ r : Nat, at_ st (u + 1) = ((p + r : Nat) : Int) := ⟨(at_ st (u + 1)).toNat - p, by have := HG.out.step u hun; have := HG.out.range (u + 1) (by omega); omega⟩
      have hpr : p + r ≤ m := by have := HG.out.range (u + 1) (by omega); have := HM.out; omega
      have HP_ : Hid (sN st u = p) := by show _ = _; unfold sN; omega
      have HR_ : Hid (sN st (u + 1) = p + r) := by show _ = _; unfold sN; omega
      obtain ⟨ga2, oa2, ca2, he1, hca1, hx1⟩ := HS.out.cellAt u (by rw [HG.out.s_len]; omega)
      obtain ⟨ga3, oa3, ca3, he2, _, hx2⟩ := HS.out.cellAt (u + 1) (by rw [HG.out.s_len]; omega)
      simp only [Value.slice.injEq, Option.some.injEq, Addr.mk.injEq, and_true] at he1 he2
      obtain ⟨⟨rfl, rfl⟩, hq7, rfl⟩ := he1
      obtain ⟨⟨rfl, rfl⟩, hq8, rfl⟩ := he2
      rw [hp] at hx1
      rw [hr] at hx2
      have HX2 := hide hx2
      have s1 : wr.cell? ⟨ga, oa + u, none⟩ = some (.int .i64 (p : Int)) := (below_cell HKR.out.bel (block_of_cell hx1)).trans hx1
      have hua : (u : Int) < ca := by have := HCA.out; omega
      have hua1 : (u : Int) + 1 < ca := by have := HCA.out; omega
      have hu1 : (u : Int) + 1 ≤ 9223372036854775807 := by have := HNL.out; omega
      obtain ⟨M0, hM0⟩ : ∃ M0, M0 = k + 2 * offs wr C := ⟨_, rfl⟩
      have HM0 := hide hM0
      have hkn : k < n := by have := HSR.out; rw [hlk] at this; omega
      have hkm : (k : Int) + 1 ≤ 9223372036854775807 := by have := HNL.out; omega
      rw [HP_.out] at HRP2
      clear hk hlk how hg1 hg2 hc1 hc2 hcl hq7 hq8 hca1 hp hr hx1 hx2 hM0 HPR HSR HOW hKu HLN
      go_wp2_with fail
      clear c1 s1 d0
      have HIN : Hid (lenV (.slice (some ⟨g, 0, none⟩) k c) + 2 * offs wr C ≤ M0) := by have := HM0.out; show k + _ ≤ _; omega
      have HOUT : Hid (M0 < lenV (.slice (some ⟨g, 0, none⟩) (k + 1) c) + 2 * offs wr C) := by have := HM0.out; show _ < k + 1 + _; omega
      go_loopw [6, 8] (fun cv t wr => ∃ (j : Nat) (K : Nat → Bool) (l : List Int), j ≤ r ∧ t = .int .i64 ((p + j : Nat) : Int) ∧ RK w wr #[.int .i64 n, .slice (some ⟨ga, oa, none⟩) (n + 1) ca, .slice bo m cb_, vc] C n K cv l ∧ RP n (sN st) (tN tl) v0 K l u (p + j) ∧ l.length + (List.range n).countP (fun x => !K x) ≤ n ∧ lenV cv + 2 * offs wr C ≤ M0) (fun _ t _ => p + r - (RowKit.intOf t).toNat)
      case atStart => exact ⟨0, K, l0, Nat.zero_le _, rfl, HRK2.out, HRP2.out, HSM2.out, HIN.out⟩
      case round =>
        obtain ⟨j, K2, l2, hj, rfl, hrk, hrp, hsm, hme⟩ := hrel
        have HKJ := hide hrk; have HPJ := hide hrp; have HSJ := hide hsm; have HMJ := hide hme
        clear hrk hrp hsm hme HRK2 HRP2 HSM2 HIN HKR
        have c1 := cell_of HKJ.out.box (i := 1) rfl
        have c2 := cell_of HKJ.out.box (i := 2) rfl
        have s2 : wr.cell? ⟨ga, oa + (u + 1), none⟩ = some (.int .i64 ((p + r : Nat) : Int)) := (below_cell HKJ.out.bel (block_of_cell HX2.out)).trans HX2.out
        obtain ⟨e0, he0⟩ : ∃ e0 : Nat, e0 = p + j := ⟨_, rfl⟩
        obtain ⟨pr, hpr2⟩ : ∃ pr : Nat, pr = p + r := ⟨_, rfl⟩
        rw [← hpr2] at s2
        rw [← he0]
        by_cases hjr : j < r
        · have hpm : p + j < tl.length := by have := HM.out; omega
          obtain ⟨gs, os_, cs, he, hcc, hx⟩ := (HT.out.below HKJ.out.bel).cellAt (p + j) hpm
          simp only [Value.slice.injEq] at he
          obtain ⟨rfl, hlen9, hcc2⟩ := he
          subst hcc2
          obtain ⟨a, ha⟩ : ∃ a : Nat, at_ tl (p + j) = (a : Int) := ⟨(at_ tl (p + j)).toNat, by have := HG.out.vtx (p + j) hpm; omega⟩
          have han : a < n := by have := HG.out.vtx (p + j) hpm; omega
          have HTA : Hid (tN tl (p + j) = a) := by show _ = _; unfold tN; omega
          rw [ha, ← he0] at hx
          have y0 := HKJ.out.car.cell a han
          have yf := HKJ.out.car.free a
          have hem : (e0 : Int) + 1 ≤ 9223372036854775807 := by have := HML.out; omega
          have hec : (e0 : Int) < cb_ := by have := HCB.out; omega
          have helt : (e0 : Int) < (pr : Int) := by omega
          have helt2 : e0 < pr := by omega
          have hem2 : e0 < m := by omega
          have HMS : Hid (p + r - (e0 + 1) < p + r - e0) := by show _ < _; omega
          have HE0 := hide he0
          clear hlen9 hcc ha hpm he0 hpr2
          by_cases hKa : K2 a = true
          · rw [hKa] at y0
            have HNX := hide (HPJ.out.next (by rw [HTA.out]; exact hKa))
            clear hKa
            go_wp2_with fail
            go_roundw
            case rel => exact ⟨j + 1, K2, l2, Nat.succ_le_of_lt hjr, by have := HE0.out; go_num, HKJ.out, HNX.out, HSJ.out, HMJ.out⟩
            case measure =>
              have := HMS.out
              simp [RowKit.intOf]
              omega
          · have hKa : K2 a = false := by simpa using hKa
            rw [hKa] at y0
            have HPU := hide (HPJ.out.push hun (by have := HP_.out; omega) (by have := HR_.out; omega) HTA.out han)
            have HKC := hide (HKJ.out.setC a true)
            have HLN := hide (lenV_own HKJ.out.own)
            have HOF : Hid (offs (wr.setCell ⟨C, a, none⟩ (.bool true)) C < offs wr C ∧ (List.range n).countP (fun x => !(if x = a then true else K2 x)) < (List.range n).countP (fun x => !K2 x)) := by
              have h1 := offs_of HKC.out.car
              have h2 := offs_of HKJ.out.car
              have h3 := off_less han hKa
              exact ⟨by omega, h3⟩
            have HOA := hide (own_chg (S := fun _ => False) HKC.out.own ((Chg.refl _ (wr.setCell ⟨C, a, none⟩ (.bool true))).alloc (.cells #[.int .i64 (a : Int)] 3)) (fun _ _ h => h))
            have hCs : C + 1 ≤ (wr.setCell ⟨C, a, none⟩ (.bool true)).heap.size := Nat.succ_le_of_lt (lt_of_heap HKC.out.car)
            have c2' := cell_of HKC.out.box (i := 2) rfl
            have hx' : (wr.setCell ⟨C, a, none⟩ (.bool true)).cell? ⟨gs, os_ + e0, none⟩ = some (.int .i64 (a : Int)) := by
              obtain ⟨gs2, os2, cs2, he2, _, hx2⟩ := (HT.out.below HKC.out.bel).cellAt e0 (by have := HM.out; omega)
              simp only [Value.slice.injEq, Option.some.injEq, Addr.mk.injEq, and_true] at he2
              obtain ⟨⟨rfl, rfl⟩, _, _⟩ := he2
              rw [hx2]
              congr 2
              have := HTA.out
              unfold tN at this
              have h5 := HG.out.vtx e0 (by have := HM.out; omega)
              rw [← HE0.out] at this
              omega
            clear hKa
            go_upto_region 12 with fail
            generalize (wr.setCell ⟨C, a, none⟩ (.bool true)) = w7 at HKC HOA hCs HOF c2' hx' ⊢
            clear c1 c2 s2 y0 yf hx HKJ
            go_upto_region 9 with (first
              | (at_builtin; refine wpList_append_lies _ rfl (.tmp 62) (.tmp 68) 22 rfl (C + 1) 3 i3 (.int .i64 0) 1 8 Try.underlying22 hi3 hz3 hs3 hy3 rfl (by omega) _ l2.length (ivs l2) rfl HOA.out ⟨w7.heap.size, 0, none⟩ 1 1 [.int .i64 (a : Int)] rfl rfl (one_at w7 _ _) (by simp [Value.oneCell']) (by omega) (by unfold maxLen; have := HSJ.out; have := HNL.out; omega) (by have := HSJ.out; have := HNL.out; omega) (by simp; omega) (w7.heap.size + 1) (by simp) ?_; intro g8 cap8 w8 hown hgrow hat hltg)
              | fail)
            have HK8 := hide (HKC.out.came hown hgrow)
            have HO8 : Hid (offs w8 C = offs w7 C) := by
              have h1 := offs_of HK8.out.car
              have h2 := offs_of HKC.out.car
              show _ = _
              omega
            clear hown hgrow hat hltg HOA
            go_wp2_with fail
            refine ⟨⟨j + 1, _, _, Nat.succ_le_of_lt hjr, by have := HE0.out; go_num, by have := HK8.out; rw [List.length_append, List.length_singleton] at this; exact this, HPU.out, ?_, ?_⟩, ?_⟩
            · have h1 := HOF.out.2; have h2 := HSJ.out
              rw [List.length_append, List.length_singleton]
              omega
            · have h1 := HOF.out.1; have h2 := HMJ.out; have h3 := HO8.out; have h4 := HLN.out
              show l2.length + 1 + 2 * offs w8 C ≤ M0
              omega
            · have := HMS.out
              simp [RowKit.intOf]
              omega
        · have hjj : j = r := by omega
          have HEN : Hid (RP n (sN st) (tN tl) v0 K2 l2 n 0) := HPJ.out.over hun (by rw [HR_.out, hjj])
          have hd : decide ((e0 : Int) < (pr : Int)) = false := decide_eq_false (by omega)
          have hd2 : ¬ (e0 : Int) < (pr : Int) := by omega
          clear he0 hpr2 hjr hjj hj hpr
          go_wp2_with fail
          refine ⟨⟨K2, l2, HKJ.out, HEN.out, HSJ.out⟩, ?_⟩
          exact Nat.lt_of_le_of_lt HMJ.out HOUT.out
end Go.Proofs.Yteblkbneghbcbaa
