/- entries. -/
import Derived.Test.YtacmlilcamkndaaRv
namespace Go.Proofs.Ytacmlilcamkndaa
open Go.RowKit Go.Lib
set_option linter.unusedVariables false
set_option linter.unusedSimpArgs false
def ent (n : Nat) (fr pl : Nat → Int) : List Int := tab (n * 2) (fun k => if k % 2 = 0 then fr (k / 2) else pl (k / 2))
theorem ent_len (n : Nat) (fr pl : Nat → Int) : (ent n fr pl).length = n * 2 := tab_length _ _
theorem ent_fr {n v : Nat} (fr pl : Nat → Int) (hv : v < n) : at_ (ent n fr pl) (v * 2) = fr v := by
  unfold ent; rw [tab_at _ _ _ (by omega), if_pos (by omega), show v * 2 / 2 = v by omega]
theorem ent_pl {n v : Nat} (fr pl : Nat → Int) (hv : v < n) : at_ (ent n fr pl) (v * 2 + 1) = pl v := by
  unfold ent; rw [tab_at _ _ _ (by omega), if_neg (by omega), show (v * 2 + 1) / 2 = v by omega]
theorem ent_put (n a : Nat) (fr pl : Nat → Int) (x y : Int) : ((ent n fr pl).set (a * 2) x).set (a * 2 + 1) y = ent n (fun v => if v = a then x else fr v) (fun v => if v = a then y else pl v) := by
  unfold ent
  rw [tab_set, tab_set]
  refine tab_congr fun k hk => ?_
  by_cases h1 : k = a * 2 + 1
  · rw [if_pos h1, if_neg (by omega)]; exact (if_pos (by omega)).symm
  · rw [if_neg h1]
    by_cases h2 : k = a * 2
    · rw [if_pos h2, if_pos (by omega)]; exact (if_pos (by omega)).symm
    · rw [if_neg h2]
      by_cases h3 : k % 2 = 0
      · rw [if_pos h3, if_pos h3]; exact (if_neg (by omega)).symm
      · rw [if_neg h3, if_neg h3]; exact (if_neg (by omega)).symm
theorem ent_start (n : Nat) : tab (n * 2) (fun _ => (-1 : Int)) = ent n (fun _ => -1) (fun _ => -1) := by
  unfold ent
  exact tab_congr fun k _ => by split <;> rfl
structure XM (w wr : World) (gb : Array Value) (C E n : Nat) (K : Nat → Bool) (fr pl : Nat → Int) : Prop where
  bel : Below w.heap.size w wr
  box : wr.heap[w.heap.size]? = some (.cells gb 25 (0, 0))
  car : BArr wr C (btab n K)
  ent : E2 wr E (ent n fr pl)
  wC : w.heap.size < C
  CE : C < E
theorem XM.put {w wr : World} {gb : Array Value} {C E n : Nat} {K : Nat → Bool} {fr pl : Nat → Int} (h : XM w wr gb C E n K fr pl) (a : Nat) (x y : Int) : XM w ((wr.setCell ⟨E, a * 2, none⟩ (.int .i64 x)).setCell ⟨E, a * 2 + 1, none⟩ (.int .i64 y)) gb C E n K (fun v => if v = a then x else fr v) (fun v => if v = a then y else pl v) := by
  have h1 := h.wC; have h2 := h.CE
  have hc : Chg (fun k => k = E) wr ((wr.setCell ⟨E, a * 2, none⟩ (.int .i64 x)).setCell ⟨E, a * 2 + 1, none⟩ (.int .i64 y)) := ((Chg.refl (fun k => k = E) wr).setCell (p := ⟨E, a * 2, none⟩) rfl _).setCell (p := ⟨E, a * 2 + 1, none⟩) rfl _
  have he := (h.ent.put (a * 2) x).put (a * 2 + 1) y
  rw [ent_put] at he
  exact ⟨Chg.below h.bel hc (fun k hk => by omega) h.bel.size, hc.heap h.box (by omega), hc.heap h.car (by omega), he, h1, h2⟩
/-- Has, under way. -/
structure X0 (w wr : World) (gb : Array Value) (C n : Nat) (K : Nat → Bool) : Prop where
  bel : Below w.heap.size w wr
  box : wr.heap[w.heap.size]? = some (.cells gb 25 (0, 0))
  car : BArr wr C (btab n K)
  wC : w.heap.size < C
theorem X0.put {w wr : World} {gb : Array Value} {C n : Nat} {K : Nat → Bool} (h : X0 w wr gb C n K) (i : Nat) (b : Bool) : X0 w (wr.setCell ⟨C, i, none⟩ (.bool b)) gb C n (fun v => if v = i then b else K v) := by
  have h1 := h.wC
  have hc : Chg (fun k => k = C) wr (wr.setCell ⟨C, i, none⟩ (.bool b)) := (Chg.refl (fun k => k = C) wr).setCell (p := ⟨C, i, none⟩) rfl _
  exact ⟨Chg.below h.bel hc (fun k hk => by omega) h.bel.size, hc.heap h.box (by omega), h.car.put i b, h1⟩
set_option maxRecDepth 100000 in
set_option maxHeartbeats 8000000 in
theorem entries_any (n : Nat) (va vb vc cv : Value) (st tl wt L : List Int) (w : World) (hgi : GIs w n va vb vc st tl wt) (hg : Good n st tl wt) (hcv : RowAt .i64 w cv L) (hL : ∀ v, v ∈ L → 0 ≤ v ∧ v < (n : Int)) (hn0 : 0 < n) (hLn : L.length ≤ n) :
    Calls Try.prog 32 #[gAgg n va vb vc, cv] w fun e w' => ∃ E fr pl, e = .returned (.slice (some ⟨E, 0, none⟩) n n) ∧ E2 w' E (ent n fr pl) ∧ EF n st tl L fr pl ∧ w.heap.size ≤ E ∧ Below w.heap.size w w' := by
  obtain ⟨i4, hi4, hz4, hs4, hy4⟩ := info_parts Try.info4
  have hnl := hg.n_le
  have hml := hg.m_le
  obtain ⟨ga, oa, ca, rfl, hca, _⟩ := hgi.s.cellAt 0 (by rw [hg.s_len]; omega)
  obtain ⟨bo, cb_, rfl⟩ := hgi.t.shape
  obtain ⟨lo, lc, rfl⟩ := hcv.shape
  have HG := hide hg; have HS := hide hgi.s; have HT := hide hgi.t; have HV := hide hcv; have HLR := hide hL
  obtain ⟨m, hm⟩ : ∃ m, m = tl.length := ⟨_, rfl⟩
  obtain ⟨kl, hkl⟩ : ∃ k, k = L.length := ⟨_, rfl⟩
  have HM := hide hm; have HKL := hide hkl
  have hsl := hg.s_len
  have hcb : m ≤ cb_ := by
    obtain ⟨_, _, he, h1, _⟩ := hgi.t
    simp only [Value.slice.injEq] at he
    obtain ⟨_, _, rfl⟩ := he
    omega
  have hlc : kl ≤ lc := by
    obtain ⟨_, _, he, h1, _⟩ := hcv
    simp only [Value.slice.injEq] at he
    obtain ⟨_, _, rfl⟩ := he
    omega
  rw [hsl] at hca HS ⊢
  rw [← hm] at hml HT ⊢
  rw [← hkl] at HV hLn ⊢
  have HCB := hide hcb; have HCA := hide hca; have HNL := hide hnl; have HML := hide hml; have HLC := hide hlc; have HLN := hide hLn
  clear hgi hg hm hsl hcv hL hkl hcb hca hlc
  unfold gAgg
  have hbox := heap_new w (.cells #[.int .i64 n, .slice (some ⟨ga, oa, none⟩) (n + 1) ca, .slice bo m cb_, vc] 25)
  have c0 := cell_of hbox (i := 0) rfl
  have HB0 : Hid (Below w.heap.size w (w.alloc (.cells #[.int .i64 n, .slice (some ⟨ga, oa, none⟩) (n + 1) ca, .slice bo m cb_, vc] 25))) := below_alloc (Below.refl _ _) _
  have HBX := hide hbox
  clear hbox
  go_enter Try.func32, Try.ntmps32
  go_upto_region 1 with fail
  have HW1 : Hid (w.heap.size < (w.alloc (.cells #[.int .i64 n, .slice (some ⟨ga, oa, none⟩) (n + 1) ca, .slice bo m cb_, vc] 25)).heap.size) := by simp [hide]
  generalize (w.alloc (.cells #[.int .i64 n, .slice (some ⟨ga, oa, none⟩) (n + 1) ca, .slice bo m cb_, vc] 25)) = w1 at c0 HB0 HBX HW1 ⊢
  go_upto_region 2 with (first
    | (at_make; refine wpList_make_full _ rfl _ _ 48 rfl w1.heap.size 4 i4 (.bool false) 1 Try.underlying48 hi4 hz4 hs4 _ _ _ _ n rfl rfl rfl rfl (by rw [hy4]; omega) (by unfold maxLen; omega) (Nat.le_refl _) ?_; intro w2 hown hgrow)
    | fail)
  have hb2 : Below w1.heap.size w1 w2 := (Below.refl _ _).grown hgrow (Nat.le_refl _) (by intro j hj; cases hj)
  have HX : Hid (X0 w w2 #[.int .i64 n, .slice (some ⟨ga, oa, none⟩) (n + 1) ca, .slice bo m cb_, vc] w1.heap.size n (fun _ => false)) := ⟨below_on HB0.out hb2, (hb2.block _ HW1.out).trans HBX.out, barr_made hown, HW1.out⟩
  generalize w1.heap.size = C at HX ⊢
  clear hown hgrow hb2 HB0 HBX HW1 c0
  go_wp2_with fail
  go_loopw [16] (fun t wr => ∃ k : Nat, k ≤ kl ∧ t = .int .i64 k ∧ X0 w wr #[.int .i64 n, .slice (some ⟨ga, oa, none⟩) (n + 1) ca, .slice bo m cb_, vc] C n (fun v => decide ((v : Int) ∈ L.take k))) (fun t _ => kl - (RowKit.intOf t).toNat)
  case atStart => exact ⟨0, Nat.zero_le _, rfl, by
    have := HX.out
    rw [show (fun _ : Nat => false) = (fun v : Nat => decide ((v : Int) ∈ L.take 0)) from funext fun v => by simp] at this
    exact this⟩
  case round =>
    obtain ⟨k, hk, rfl, hx⟩ := hrel
    have HXR := hide hx
    clear hx HX
    by_cases hlt : k < kl
    · obtain ⟨gl, ol, cc, he, hcc, hx⟩ := (HV.out.below HXR.out.bel).cellAt k (by have := HKL.out; omega)
      simp only [Value.slice.injEq] at he
      obtain ⟨rfl, hlen, hcc2⟩ := he
      subst hcc2
      have hkL : k < L.length := by have := HKL.out; omega
      have hmem := HLR.out (at_ L k) (at_mem hkL)
      obtain ⟨a, ha⟩ : ∃ a : Nat, at_ L k = (a : Int) := ⟨(at_ L k).toNat, by omega⟩
      have han : a < n := by omega
      rw [ha] at hx
      have y0 := HXR.out.car.cell a han
      have yf := HXR.out.car.free a
      have HX2 : Hid (X0 w (wr.setCell ⟨C, a, none⟩ (.bool true)) #[.int .i64 n, .slice (some ⟨ga, oa, none⟩) (n + 1) ca, .slice bo m cb_, vc] C n (fun v => decide ((v : Int) ∈ L.take (k + 1)))) := by
        have := HXR.out.put a true
        rw [show (fun v : Nat => if v = a then true else decide ((v : Int) ∈ L.take k)) = (fun v : Nat => decide ((v : Int) ∈ L.take (k + 1))) from funext fun v => by
          have e1 : L[k] = (a : Int) := by rw [← ha]; simp [at_, hkL]
          rw [List.take_succ_eq_append_getElem hkL, e1]
          by_cases e : v = a
          · subst e; simp
          · have : ¬ (v : Int) = (a : Int) := by omega
            simp [e, this]] at this
        exact this
      have hkm : (k : Int) + 1 ≤ 9223372036854775807 := by have := HLN.out; omega
      have hkc : (k : Int) < lc := by have := HLC.out; omega
      clear hlen hcc ha hmem hkL
      go_wp2_with fail
      go_roundw
      case rel => exact ⟨k + 1, Nat.succ_le_of_lt hlt, by go_num, HX2.out⟩
      case measure => exact mdec hlt
    · have hkk : kl = k := by omega
      subst hkk
      have HX1 : Hid (X0 w wr #[.int .i64 n, .slice (some ⟨ga, oa, none⟩) (n + 1) ca, .slice bo m cb_, vc] C n (fun v => decide ((v : Int) ∈ L))) := by
        have := HXR.out
        rw [show L.take kl = L from List.take_of_length_le (by have := HKL.out; omega)] at this
        exact this
      clear HXR hlt hk
      have c0 := cell_of HX1.out.box (i := 0) rfl
      have hbox0 := block_of_cell c0
      have c0' : (wr.alloc (.cells #[.int .i64 (-1), .int .i64 (-1)] 61)).cell? ⟨w.heap.size, 0, none⟩ = some (.int .i64 (n : Int)) := Lib.cell?_alloc_some _ c0
      have HRp := hide (repeat_any n wr.heap.size hn0 HNL.out (wr.alloc (.cells #[.int .i64 (-1), .int .i64 (-1)] 61)) (cell_of (heap_new _ _) rfl) (cell_of (heap_new _ _) rfl))
      have hsz : (wr.alloc (.cells #[.int .i64 (-1), .int .i64 (-1)] 61)).heap.size = wr.heap.size + 1 := by simp
      rw [hsz] at HRp
      go_wp2_with fail
      refine HRp.out.mono ?_
      rintro e w4 ⟨rfl, he2, hb4⟩
      have HX3 : Hid (XM w w4 #[.int .i64 n, .slice (some ⟨ga, oa, none⟩) (n + 1) ca, .slice bo m cb_, vc] C (wr.heap.size + 1) n (fun v => decide ((v : Int) ∈ L)) (fun _ => -1) (fun _ => -1)) := by
        rw [ent_start] at he2
        have hb5 : Below wr.heap.size wr w4 := (below_alloc (Below.refl _ _) _ : Below wr.heap.size wr (wr.alloc (.cells #[.int .i64 (-1), .int .i64 (-1)] 61))).trans (hb4.mono (by omega))
        have h6 := HX1.out
        exact ⟨below_on h6.bel hb5, (hb5.block _ (lt_of_heap h6.box)).trans h6.box, (hb5.block _ (lt_of_heap h6.car)).trans h6.car, he2, h6.wC, by have := lt_of_heap h6.car; omega⟩
      have HwE : Hid (w.heap.size ≤ wr.heap.size + 1) := by have := HX1.out.bel.size; show _ ≤ _; omega
      clear he2 hb4 c0 c0' hbox0 HX1 HRp
      generalize wr.heap.size + 1 = E at HX3 HwE ⊢
      have b0 := cell_of HX3.out.box (i := 0) rfl
      go_wp2_with fail
      clear b0
      go_loopw [31] (fun t wr => ∃ u : Nat, u ≤ n ∧ t = .int .i64 u ∧ ∃ fr pl, XM w wr #[.int .i64 n, .slice (some ⟨ga, oa, none⟩) (n + 1) ca, .slice bo m cb_, vc] C E n (fun v => decide ((v : Int) ∈ L)) fr pl ∧ EN n st tl L (fun e => src st n e < u) fr pl) (fun t _ => n - (RowKit.intOf t).toNat)
      case atStart => exact ⟨0, Nat.zero_le _, rfl, _, _, HX3.out, EN.start.congr fun e _ _ h => by omega⟩
      case round =>
        obtain ⟨u, hu, rfl, fr, pl, hx, hen⟩ := hrel
        have HXR := hide hx; have HEN := hide hen
        clear hx hen HX3
        by_cases hlt : u < n
        · obtain ⟨p, hp⟩ : ∃ p : Nat, at_ st u = (p : Int) := ⟨(at_ st u).toNat, by have := HG.out.range u (by omega); omega⟩
          obtain ⟨r, hr⟩ : ∃ r : Nat, at_ st (u + 1) = ((p + r : Nat) : Int) := ⟨(at_ st (u + 1)).toNat - p, by have := HG.out.step u hlt; have := HG.out.range (u + 1) (by omega); omega⟩
          have hpr : p + r ≤ m := by have := HG.out.range (u + 1) (by omega); have := HM.out; omega
          have HSRC : Hid (∀ j, j < r → src st n (p + j) = u) := fun j hj => src_eq HG.out hlt (by rw [hp]; omega) (by rw [hr]; omega)
          have HP_ := hide hp; have HR_ := hide hr
          obtain ⟨ga2, oa2, ca2, he1, hca1, hx1⟩ := HS.out.cellAt u (by rw [HG.out.s_len]; omega)
          obtain ⟨ga3, oa3, ca3, he2, _, hx2⟩ := HS.out.cellAt (u + 1) (by rw [HG.out.s_len]; omega)
          simp only [Value.slice.injEq, Option.some.injEq, Addr.mk.injEq, and_true] at he1 he2
          obtain ⟨⟨rfl, rfl⟩, hq7, rfl⟩ := he1
          obtain ⟨⟨rfl, rfl⟩, hq8, rfl⟩ := he2
          rw [hp] at hx1
          rw [hr] at hx2
          have HX2 := hide hx2
          have s1 : wr.cell? ⟨ga, oa + u, none⟩ = some (.int .i64 (p : Int)) := (below_cell HXR.out.bel (block_of_cell hx1)).trans hx1
          have b1 := cell_of HXR.out.box (i := 1) rfl
          have hua : (u : Int) < ca := by have := HCA.out; omega
          have hua1 : (u : Int) + 1 < ca := by have := HCA.out; omega
          have hu1 : (u : Int) + 1 ≤ 9223372036854775807 := by have := HNL.out; omega
          have HEN1 : Hid (EN n st tl L (fun e => src st n e < u ∨ (src st n e = u ∧ e < p + 0)) fr pl) := HEN.out.congr fun e he hl h => by
            rcases h with h | ⟨h, h2⟩
            · exact h
            · have := (src_spec HG.out he).1
              rw [h, HP_.out] at this
              omega
          clear hq7 hq8 hca1 hp hr hx1 hx2 HEN
          go_wp2_with fail
          clear s1 b1
          go_loopw [10] (fun t wr => ∃ j : Nat, j ≤ r ∧ t = .int .i64 ((p + j : Nat) : Int) ∧ ∃ fr pl, XM w wr #[.int .i64 n, .slice (some ⟨ga, oa, none⟩) (n + 1) ca, .slice bo m cb_, vc] C E n (fun v => decide ((v : Int) ∈ L)) fr pl ∧ EN n st tl L (fun e => src st n e < u ∨ (src st n e = u ∧ e < p + j)) fr pl) (fun t _ => p + r - (RowKit.intOf t).toNat)
          case atStart => exact ⟨0, Nat.zero_le _, rfl, _, _, HXR.out, HEN1.out⟩
          case round =>
            obtain ⟨j, hj, rfl, fr2, pl2, hx, hen⟩ := hrel
            have HXJ := hide hx; have HEJ := hide hen
            clear hx hen HXR HEN1
            have b1 := cell_of HXJ.out.box (i := 1) rfl
            have b2 := cell_of HXJ.out.box (i := 2) rfl
            have s2 : wr.cell? ⟨ga, oa + (u + 1), none⟩ = some (.int .i64 ((p + r : Nat) : Int)) := (below_cell HXJ.out.bel (block_of_cell HX2.out)).trans HX2.out
            have y1 := HXJ.out.car.cell u hlt
            obtain ⟨e0, he0⟩ : ∃ e0 : Nat, e0 = p + j := ⟨_, rfl⟩
            obtain ⟨pr, hpr2⟩ : ∃ pr : Nat, pr = p + r := ⟨_, rfl⟩
            rw [← hpr2] at s2
            rw [← he0]
            by_cases hju : j < r ∧ ¬ (u : Int) ∈ L
            · obtain ⟨hjr, huL⟩ := hju
              rw [decide_eq_false huL] at y1
              obtain ⟨gs, os_, cs, he, hcc, hx⟩ := (HT.out.below HXJ.out.bel).cellAt (p + j) (by have := HM.out; omega)
              simp only [Value.slice.injEq] at he
              obtain ⟨rfl, hlen9, hcc2⟩ := he
              subst hcc2
              have hpm : p + j < tl.length := by have := HM.out; omega
              obtain ⟨a, ha⟩ : ∃ a : Nat, at_ tl (p + j) = (a : Int) := ⟨(at_ tl (p + j)).toNat, by have := HG.out.vtx (p + j) hpm; omega⟩
              have han : a < n := by have := HG.out.vtx (p + j) hpm; omega
              rw [ha, ← he0] at hx
              have z0 := HXJ.out.ent.cell (a * 2) (by rw [ent_len]; omega)
              have z1 := HXJ.out.ent.cell (a * 2 + 1) (by rw [ent_len]; omega)
              have f0 := HXJ.out.ent.free (a * 2)
              have f1 := HXJ.out.ent.free (a * 2 + 1)
              have HPU := hide (HXJ.out.put a (u : Int) (e0 : Int))
              have HEP : Hid (EN n st tl L (fun e => src st n e < u ∨ (src st n e = u ∧ e < p + (j + 1))) (fun v => if v = a then (u : Int) else fr2 v) (fun v => if v = a then (e0 : Int) else pl2 v)) := by
                have h1 := HEJ.out.put hpm ha (by rw [HSRC.out j hjr]; exact huL)
                rw [HSRC.out j hjr, ← he0] at h1
                refine h1.congr fun e he hl h => ?_
                rcases h with h | ⟨h, h2⟩
                · exact .inl (.inl h)
                · by_cases e1 : e = e0
                  · exact .inr e1
                  · exact .inl (.inr ⟨h, by omega⟩)
              have hem : (e0 : Int) + 1 ≤ 9223372036854775807 := by have := HML.out; omega
              have hec : (e0 : Int) < cb_ := by have := HCB.out; omega
              have helt : (e0 : Int) < (pr : Int) := by omega
              have helt2 : e0 < pr := by omega
              have hem2 : e0 < m := by omega
              have HMS : Hid (p + r - (e0 + 1) < p + r - e0) := by show _ < _; omega
              have HE0 := hide he0
              clear hlen9 hcc ha hpm he0 hpr2 huL
              go_wp2_with fail
              go_roundw
              case rel => exact ⟨j + 1, Nat.succ_le_of_lt hjr, by have := HE0.out; go_num, _, _, HPU.out, HEP.out⟩
              case measure =>
                have := HMS.out
                simp [RowKit.intOf]
                omega
            · have HEU : Hid (EN n st tl L (fun e => src st n e < u + 1) fr2 pl2) := HEJ.out.congr fun e he hl h => by
                by_cases e1 : src st n e = u
                · right
                  refine ⟨e1, ?_⟩
                  have huL : ¬ (u : Int) ∈ L := by rw [← e1]; exact hl
                  have hjr : j = r := by
                    have : ¬ j < r := fun h => hju ⟨h, huL⟩
                    omega
                  have := (src_spec HG.out he).2
                  rw [e1, HR_.out] at this
                  omega
                · left; omega
              have hend : (e0 : Int) < (pr : Int) → (u : Int) ∈ L := fun h => Classical.byContradiction fun hc => hju ⟨by omega, hc⟩
              by_cases helt : (e0 : Int) < (pr : Int)
              · rw [decide_eq_true (hend helt)] at y1
                clear hju hend he0 hpr2
                go_wp2_with fail
                exact ⟨⟨u + 1, Nat.succ_le_of_lt hlt, by go_num, _, _, HXJ.out, HEU.out⟩, mdec hlt⟩
              · have hd : decide ((e0 : Int) < (pr : Int)) = false := decide_eq_false helt
                clear hju hend he0 hpr2
                go_wp2_with fail
                exact ⟨⟨u + 1, Nat.succ_le_of_lt hlt, by go_num, _, _, HXJ.out, HEU.out⟩, mdec hlt⟩
        · have HEFn : Hid (EF n st tl L fr pl) := HEN.out.congr fun e he hl _ => by have := src_lt HG.out he; omega
          go_wp2_with fail
          go_ret
          exact ⟨E, fr, pl, rfl, HXR.out.ent, HEFn.out, HwE.out, HXR.out.bel⟩
end Go.Proofs.Ytacmlilcamkndaa
