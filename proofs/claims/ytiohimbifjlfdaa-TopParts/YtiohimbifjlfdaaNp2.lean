import Derived.Test.YtiohimbifjlfdaaNb
import Derived.Test.YtiohimbifjlfdaaPr
/- numbered: its list is new. -/
namespace Go.Proofs.Ytiohimbifjlfdaa
open Go.RowKit Go.Lib
set_option linter.unusedVariables false
set_option linter.unusedSimpArgs false
set_option maxRecDepth 100000 in
set_option maxHeartbeats 8000000 in
theorem numbered_new (n : Nat) (gv : Value) (G : List Int) (B : Nat → Nat → Prop) (w : World) (hn : n ≤ 1048576) (hgl : G.length = n) (hgv : RowAt .i64 w gv G) (hE : Eqv B) (hGr : ∀ v, v < n → ∃ f : Nat, at_ G v = (f : Int) ∧ f < n) (hGB : ∀ u v, u < n → v < n → (at_ G u = at_ G v ↔ B u v)) :
    Calls Try.prog 16 #[gv] w fun e w' => ∃ A, e = .returned (.tuple #[.slice (some ⟨A, 0, none⟩) n n, .int .i64 (cntL B n : Int)]) ∧ Arr w' A (tab n (fun v => (numb B v : Int))) ∧ w.heap.size ≤ A ∧ Below w.heap.size w w' := by
  obtain ⟨i3, hi3, hz3, hs3, hy3⟩ := info_parts Try.info3q
  obtain ⟨go, gc, rfl⟩ := hgv.shape
  have HV := hide hgv; have HE := hide hE; have HGr := hide hGr; have HGB := hide hGB; have HNL := hide hn; have HGL := hide hgl
  have HRp := hide (repI_all n w.heap.size hn (w.alloc (.cells #[.int .i64 (-1)] 3)) (cell_of (heap_new _ _) rfl))
  rw [hgl]
  clear hgv hE hGr hGB hgl
  have hsz : (w.alloc (.cells #[.int .i64 (-1)] 3)).heap.size = w.heap.size + 1 := by simp
  rw [hsz] at HRp
  have HB0 : Hid (Below w.heap.size w (w.alloc (.cells #[.int .i64 (-1)] 3))) := below_alloc (Below.refl _ _) _
  clear hsz
  go_enter Try.func16, Try.ntmps16
  go_wp2_with fail
  refine HRp.out.mono ?_
  rintro e w2 ⟨rfl, ha2, hb2⟩
  have HA2 := hide ha2
  have HB2 : Hid (Below w.heap.size w w2) := HB0.out.trans (hb2.mono (by omega))
  have HwA : Hid (w.heap.size ≤ w.heap.size + 1) := Nat.le_succ _
  clear ha2 hb2 HRp HB0
  generalize w.heap.size + 1 = A at HA2 HwA ⊢
  go_upto_region 4 with (first
    | (at_make; refine wpList_make_full _ rfl _ _ 25 rfl w2.heap.size 3 i3 (.int .i64 0) 1 Try.underlying25 hi3 hz3 hs3 _ _ _ _ n rfl rfl rfl rfl (by rw [hy3]; omega) (by unfold maxLen; omega) (Nat.le_refl _) ?_; intro w3 hown hgrow)
    | fail)
  have hb3 : Below w2.heap.size w2 w3 := (Below.refl _ _).grown hgrow (Nat.le_refl _) (by intro j hj; cases hj)
  have HX : Hid (NM w w3 A w2.heap.size (tab n (fun f => nmF G B 0 f)) (ptL B n 0)) := by
    refine ⟨below_on HB2.out hb3, (hb3.block _ (lt_of_heap HA2.out)).trans HA2.out, ?_, HwA.out, lt_of_heap HA2.out⟩
    have e : ptL B n 0 = tab n (fun _ => 0) := tab_congr fun v _ => if_neg (by omega)
    rw [e]
    exact arr_made hown
  generalize w2.heap.size = P at HX ⊢
  clear hown hgrow hb3 HB2 HA2
  go_wp2_with fail
  go_loopw [18, 5] (fun t c wr => ∃ k : Nat, k ≤ n ∧ t = .int .i64 k ∧ c = .int .i64 (cntL B k : Int) ∧ NM w wr A P (tab n (fun f => nmF G B k f)) (ptL B n k)) (fun t _ _ => n - (RowKit.intOf t).toNat)
  case atStart => exact ⟨0, Nat.zero_le _, rfl, rfl, HX.out⟩
  case round =>
    obtain ⟨k, hk, rfl, rfl, hx⟩ := hrel
    have HXR := hide hx
    clear hx HX
    by_cases hlt : k < n
    · obtain ⟨gg, og, gc2, he, hcc, hx⟩ := (HV.out.below HXR.out.bel).cellAt k (by rw [HGL.out]; exact hlt)
      simp only [Value.slice.injEq] at he
      obtain ⟨rfl, hlen9, hcc2⟩ := he
      subst hcc2
      obtain ⟨f, hf, hfn⟩ := HGr.out k hlt
      have HF := hide hf
      rw [hf] at hx
      have y0 := HXR.out.arr.cell f (by rw [tab_length]; exact hfn)
      rw [tab_at _ _ _ hfn] at y0
      have yf := HXR.out.arr.free f
      have hkg : (k : Int) < gc := by rw [HGL.out] at hcc; omega
      have hcl := cntL_le (B := B) k
      have hcm : (cntL B k : Int) + 1 ≤ 9223372036854775807 := by have := HNL.out; omega
      have hkm : (k : Int) + 1 ≤ 9223372036854775807 := by have := HNL.out; omega
      clear hlen9 hcc hf
      by_cases hl : lea B k = k
      · rw [nm_at_new HE.out HGB.out hlt HF.out hl] at y0
        have HNC : Hid (numb B k = cntL B k) := numb_new hl
        have HCS : Hid (cntL B (k + 1) = cntL B k + 1) := by show _ = _; rw [cntL_succ, if_pos hl]
        have HX1 : Hid (NM w (wr.setCell ⟨A, f, none⟩ (.int .i64 (cntL B k : Int))) A P (tab n (fun f => nmF G B (k + 1) f)) (ptL B n k)) := by
          have := HXR.out.setA f (cntL B k : Int)
          rw [tab_set, ← HNC.out, tab_congr (fun v _ => nm_new HE.out HGB.out hlt HF.out hl v)] at this
          rw [← HNC.out]
          exact this
        have z0 := HX1.out.arr.cell f (by rw [tab_length]; exact hfn)
        have hzz : at_ (tab n (fun f => nmF G B (k + 1) f)) f = (cntL B k : Int) := by
          rw [tab_at _ _ _ hfn, ← nm_new HE.out HGB.out hlt HF.out hl, if_pos rfl, HNC.out]
        rw [hzz] at z0
        have zc := HX1.out.prt.cell k (by rw [ptL_len]; exact hlt)
        have zf := HX1.out.prt.free k
        have HX2 : Hid (NM w ((wr.setCell ⟨A, f, none⟩ (.int .i64 (cntL B k : Int))).setCell ⟨P, k, none⟩ (.int .i64 (cntL B k : Int))) A P (tab n (fun f => nmF G B (k + 1) f)) (ptL B n (k + 1))) := by
          have := HX1.out.setP k (cntL B k : Int)
          rw [← HNC.out, ptL_set, HNC.out] at this
          exact this
        generalize cntL B k = cx at y0 HCS z0 zc zf hcm HX1 HX2 hcl HNC ⊢
        clear hl hzz HX1 hcl
        go_upto_region 7 with fail
        go_wp2_with fail
        refine ⟨⟨k + 1, Nat.succ_le_of_lt hlt, by go_num, by rw [HCS.out]; go_num, HX2.out⟩, mdec hlt⟩
      · rw [nm_at_old HE.out HGB.out hlt HF.out hl] at y0
        have HCS : Hid (cntL B (k + 1) = cntL B k) := by show _ = _; rw [cntL_succ, if_neg hl]; rfl
        have hxx : ¬ (numb B k : Int) = -1 := by omega
        have zc := HXR.out.prt.cell k (by rw [ptL_len]; exact hlt)
        have zf := HXR.out.prt.free k
        have HX2 : Hid (NM w (wr.setCell ⟨P, k, none⟩ (.int .i64 (numb B k : Int))) A P (tab n (fun f => nmF G B (k + 1) f)) (ptL B n (k + 1))) := by
          have := HXR.out.setP k (numb B k : Int)
          rw [ptL_set, tab_congr (fun v _ => nm_old HE.out HGB.out hlt HF.out hl v)] at this
          exact this
        generalize numb B k = nx at y0 hxx HX2
        generalize cntL B k = cx at HCS hcm hcl ⊢
        have hxb : ((nx : Int) == -1) = false := by simp
        clear hl hcl
        go_upto_region 7 with fail
        go_wp2_with fail
        refine ⟨⟨k + 1, Nat.succ_le_of_lt hlt, by go_num, by rw [HCS.out], HX2.out⟩, mdec hlt⟩
    · have hkn : k = n := by omega
      have HRW : Hid (Arr wr P (tab n (fun v => (numb B v : Int)))) := by
        have h1 := HXR.out.prt
        rw [hkn] at h1
        have e : ptL B n n = tab n (fun v => (numb B v : Int)) := tab_congr fun v hv => if_pos hv
        rw [e] at h1
        exact h1
      have HCN : Hid (cntL B k = cntL B n) := by rw [hkn]; exact hide rfl
      generalize cntL B k = cx at HCN ⊢
      have hd : decide ((k : Int) < (n : Int)) = false := decide_eq_false (by omega)
      clear hkn hk
      go_wp2_with fail
      go_ret2
      have hcn := HCN.out
      subst hcn
      exact ⟨P, rfl, HRW.out, by have := HXR.out.wA; have := HXR.out.AP; omega, HXR.out.bel⟩
end Go.Proofs.Ytiohimbifjlfdaa

/- The document's Parts: its list is new. -/
namespace Go.Proofs.Ytiohimbifjlfdaa
open Go.RowKit Go.Lib
set_option linter.unusedVariables false
set_option linter.unusedSimpArgs false
end Go.Proofs.Ytiohimbifjlfdaa
