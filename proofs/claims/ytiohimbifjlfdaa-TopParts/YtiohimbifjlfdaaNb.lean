/- numbered. -/
import Derived.Test.YtiohimbifjlfdaaRpR
import Derived.Test.YtiohimbifjlfdaaKp
namespace Go.Proofs.Ytiohimbifjlfdaa
open Go.RowKit Go.Lib
set_option linter.unusedVariables false
set_option linter.unusedSimpArgs false
section
variable {n k f : Nat} {G : List Int} {B : Nat → Nat → Prop}
/-- The numbers by group, behind k vertices. -/
noncomputable def nmF (G : List Int) (B : Nat → Nat → Prop) (k f : Nat) : Int := match (List.range k).find? (fun u => decide (at_ G u = (f : Int))) with
  | some u => (numb B u : Int)
  | none => -1
theorem nmF_zero (f : Nat) : nmF G B 0 f = -1 := rfl
theorem nm_none (hE : Eqv B) (hGB : ∀ u v, u < n → v < n → (at_ G u = at_ G v ↔ B u v)) (hk : k < n) (hf : at_ G k = (f : Int)) (hl : lea B k = k) : (List.range k).find? (fun u => decide (at_ G u = (f : Int))) = none := by
  rw [List.find?_eq_none]
  intro u hu hc
  have hu := List.mem_range.1 hu
  have h1 : at_ G u = at_ G k := by rw [hf]; simpa using hc
  have h2 := (lea_spec hE k).2.2 u ((hGB u k (by omega) hk).1 h1)
  omega
theorem nm_some (hE : Eqv B) (hGB : ∀ u v, u < n → v < n → (at_ G u = at_ G v ↔ B u v)) (hk : k < n) (hf : at_ G k = (f : Int)) (hl : ¬ lea B k = k) : ∃ u, (List.range k).find? (fun u => decide (at_ G u = (f : Int))) = some u ∧ numb B u = numb B k := by
  obtain ⟨h1, h2, h3⟩ := lea_spec hE k
  obtain ⟨u, e1, e2, e3, _⟩ := find_least (fun u => decide (at_ G u = (f : Int))) k ⟨lea B k, by omega, by
    have := (hGB (lea B k) k (by omega) hk).2 h2
    simp [this, hf]⟩
  exact ⟨u, e1, numb_eq hE ((hGB u k (by omega) hk).1 (by rw [hf]; simpa using e3))⟩
theorem nm_at_new (hE : Eqv B) (hGB : ∀ u v, u < n → v < n → (at_ G u = at_ G v ↔ B u v)) (hk : k < n) (hf : at_ G k = (f : Int)) (hl : lea B k = k) : nmF G B k f = -1 := by
  unfold nmF; rw [nm_none hE hGB hk hf hl]
theorem nm_at_old (hE : Eqv B) (hGB : ∀ u v, u < n → v < n → (at_ G u = at_ G v ↔ B u v)) (hk : k < n) (hf : at_ G k = (f : Int)) (hl : ¬ lea B k = k) : nmF G B k f = (numb B k : Int) := by
  obtain ⟨u, h1, h2⟩ := nm_some hE hGB hk hf hl
  unfold nmF; rw [h1]; simp only; rw [h2]
theorem nmF_some {x u : Nat} (hc : (List.range k).find? (fun u => decide (at_ G u = (x : Int))) = some u) : nmF G B (k + 1) x = nmF G B k x := by
  unfold nmF
  rw [List.range_succ, List.find?_append, hc]
  rfl
theorem nmF_none {x : Nat} (hc : (List.range k).find? (fun u => decide (at_ G u = (x : Int))) = none) : nmF G B (k + 1) x = (if at_ G k = (x : Int) then (numb B k : Int) else -1) ∧ nmF G B k x = -1 := by
  unfold nmF
  rw [List.range_succ, List.find?_append, hc]
  refine ⟨?_, rfl⟩
  by_cases h : at_ G k = (x : Int) <;> simp [h]
theorem nm_new (hE : Eqv B) (hGB : ∀ u v, u < n → v < n → (at_ G u = at_ G v ↔ B u v)) (hk : k < n) (hf : at_ G k = (f : Int)) (hl : lea B k = k) (x : Nat) : (if x = f then (numb B k : Int) else nmF G B k x) = nmF G B (k + 1) x := by
  by_cases e : x = f
  · subst e
    rw [if_pos rfl, (nmF_none (nm_none hE hGB hk hf hl)).1, if_pos hf]
  · rw [if_neg e]
    cases hc : (List.range k).find? (fun u => decide (at_ G u = (x : Int))) with
    | some u => exact (nmF_some hc).symm
    | none => rw [(nmF_none hc).1, (nmF_none (B := B) hc).2, if_neg (by rw [hf]; omega)]
theorem nm_old (hE : Eqv B) (hGB : ∀ u v, u < n → v < n → (at_ G u = at_ G v ↔ B u v)) (hk : k < n) (hf : at_ G k = (f : Int)) (hl : ¬ lea B k = k) (x : Nat) : nmF G B k x = nmF G B (k + 1) x := by
  cases hc : (List.range k).find? (fun u => decide (at_ G u = (x : Int))) with
  | some u => exact (nmF_some hc).symm
  | none =>
    have hx : ¬ at_ G k = (x : Int) := fun hx => by
      obtain ⟨u, h1, _⟩ := nm_some hE hGB hk hx hl
      rw [hc] at h1; cases h1
    rw [(nmF_none hc).1, (nmF_none (B := B) hc).2, if_neg hx]
end
/-- The numbers of the parts of the first k. -/
noncomputable def ptL (B : Nat → Nat → Prop) (n k : Nat) : List Int := tab n (fun v => if v < k then (numb B v : Int) else 0)
theorem ptL_len (B : Nat → Nat → Prop) (n k : Nat) : (ptL B n k).length = n := tab_length _ _
theorem ptL_set (B : Nat → Nat → Prop) (n k : Nat) : (ptL B n k).set k (numb B k : Int) = ptL B n (k + 1) := by
  unfold ptL
  rw [tab_set]
  refine tab_congr fun v _ => ?_
  by_cases e : v = k
  · rw [if_pos e, e, if_pos (by omega)]
  · rw [if_neg e]
    by_cases h : v < k
    · rw [if_pos h, if_pos (by omega)]
    · rw [if_neg h, if_neg (by omega)]
structure NM (w wr : World) (A P : Nat) (L R : List Int) : Prop where
  bel : Below w.heap.size w wr
  arr : Arr wr A L
  prt : Arr wr P R
  wA : w.heap.size ≤ A
  AP : A < P
theorem NM.setA {w wr : World} {A P : Nat} {L R : List Int} (h : NM w wr A P L R) (i : Nat) (x : Int) : NM w (wr.setCell ⟨A, i, none⟩ (.int .i64 x)) A P (L.set i x) R := by
  have h1 := h.wA; have h2 := h.AP
  have hc : Chg (fun k => k = A) wr (wr.setCell ⟨A, i, none⟩ (.int .i64 x)) := (Chg.refl (fun k => k = A) wr).setCell (p := ⟨A, i, none⟩) rfl _
  exact ⟨Chg.below h.bel hc (fun k hk => by omega) h.bel.size, h.arr.put i x, hc.heap h.prt (by omega), h1, h2⟩
theorem NM.setP {w wr : World} {A P : Nat} {L R : List Int} (h : NM w wr A P L R) (i : Nat) (x : Int) : NM w (wr.setCell ⟨P, i, none⟩ (.int .i64 x)) A P L (R.set i x) := by
  have h1 := h.wA; have h2 := h.AP
  have hc : Chg (fun k => k = P) wr (wr.setCell ⟨P, i, none⟩ (.int .i64 x)) := (Chg.refl (fun k => k = P) wr).setCell (p := ⟨P, i, none⟩) rfl _
  exact ⟨Chg.below h.bel hc (fun k hk => by omega) h.bel.size, hc.heap h.arr (by omega), h.prt.put i x, h1, h2⟩
set_option maxRecDepth 100000 in
set_option maxHeartbeats 8000000 in
theorem numbered_any (n : Nat) (gv : Value) (G : List Int) (B : Nat → Nat → Prop) (w : World) (hn : n ≤ 1048576) (hgl : G.length = n) (hgv : RowAt .i64 w gv G) (hE : Eqv B) (hGr : ∀ v, v < n → ∃ f : Nat, at_ G v = (f : Int) ∧ f < n) (hGB : ∀ u v, u < n → v < n → (at_ G u = at_ G v ↔ B u v)) :
    Calls Try.prog 16 #[gv] w fun e w' => ∃ pv, e = .returned (.tuple #[pv, .int .i64 (cntL B n : Int)]) ∧ RowAt .i64 w' pv (tab n (fun v => (numb B v : Int))) ∧ Below w.heap.size w w' := by
  obtain ⟨i3, hi3, hz3, hs3, hy3⟩ := info_parts Try.info3q
  obtain ⟨go, gc, rfl⟩ := hgv.shape
  have HV := hide hgv; have HE := hide hE; have HGr := hide hGr; have HGB := hide hGB; have HNL := hide hn; have HGL := hide hgl
  have HRp := hide (repI_all n w.heap.size hn (w.alloc (.cells #[.int .i64 (-1)] 3)) (cell_of (heap_new _ _) rfl))
  rw [hgl]
  clear hgv hE hGr hGB hgl
  have hsz : (w.alloc (.cells #[.int .i64 (-1)] 3)).heap.size = w.heap.size + 1 := by simp
  rw [hsz] at HRp
  have HB0 : Hid (Below w.heap.size w (w.alloc (.cells #[.int .i64 (-1)] 3))) := below_alloc (Below.refl _ _) _
  clear hsz
  go_enter Try.func16, Try.ntmps16
  go_wp2_with fail
  refine HRp.out.mono ?_
  rintro e w2 ⟨rfl, ha2, hb2⟩
  have HA2 := hide ha2
  have HB2 : Hid (Below w.heap.size w w2) := HB0.out.trans (hb2.mono (by omega))
  have HwA : Hid (w.heap.size ≤ w.heap.size + 1) := Nat.le_succ _
  clear ha2 hb2 HRp HB0
  generalize w.heap.size + 1 = A at HA2 HwA ⊢
  go_upto_region 4 with (first
    | (at_make; refine wpList_make_full _ rfl _ _ 25 rfl w2.heap.size 3 i3 (.int .i64 0) 1 Try.underlying25 hi3 hz3 hs3 _ _ _ _ n rfl rfl rfl rfl (by rw [hy3]; omega) (by unfold maxLen; omega) (Nat.le_refl _) ?_; intro w3 hown hgrow)
    | fail)
  have hb3 : Below w2.heap.size w2 w3 := (Below.refl _ _).grown hgrow (Nat.le_refl _) (by intro j hj; cases hj)
  have HX : Hid (NM w w3 A w2.heap.size (tab n (fun f => nmF G B 0 f)) (ptL B n 0)) := by
    refine ⟨below_on HB2.out hb3, (hb3.block _ (lt_of_heap HA2.out)).trans HA2.out, ?_, HwA.out, lt_of_heap HA2.out⟩
    have e : ptL B n 0 = tab n (fun _ => 0) := tab_congr fun v _ => if_neg (by omega)
    rw [e]
    exact arr_made hown
  generalize w2.heap.size = P at HX ⊢
  clear hown hgrow hb3 HB2 HA2
  go_wp2_with fail
  go_loopw [18, 5] (fun t c wr => ∃ k : Nat, k ≤ n ∧ t = .int .i64 k ∧ c = .int .i64 (cntL B k : Int) ∧ NM w wr A P (tab n (fun f => nmF G B k f)) (ptL B n k)) (fun t _ _ => n - (RowKit.intOf t).toNat)
  case atStart => exact ⟨0, Nat.zero_le _, rfl, rfl, HX.out⟩
  case round =>
    obtain ⟨k, hk, rfl, rfl, hx⟩ := hrel
    have HXR := hide hx
    clear hx HX
    by_cases hlt : k < n
    · obtain ⟨gg, og, gc2, he, hcc, hx⟩ := (HV.out.below HXR.out.bel).cellAt k (by rw [HGL.out]; exact hlt)
      simp only [Value.slice.injEq] at he
      obtain ⟨rfl, hlen9, hcc2⟩ := he
      subst hcc2
      obtain ⟨f, hf, hfn⟩ := HGr.out k hlt
      have HF := hide hf
      rw [hf] at hx
      have y0 := HXR.out.arr.cell f (by rw [tab_length]; exact hfn)
      rw [tab_at _ _ _ hfn] at y0
      have yf := HXR.out.arr.free f
      have hkg : (k : Int) < gc := by rw [HGL.out] at hcc; omega
      have hcl := cntL_le (B := B) k
      have hcm : (cntL B k : Int) + 1 ≤ 9223372036854775807 := by have := HNL.out; omega
      have hkm : (k : Int) + 1 ≤ 9223372036854775807 := by have := HNL.out; omega
      clear hlen9 hcc hf
      by_cases hl : lea B k = k
      · rw [nm_at_new HE.out HGB.out hlt HF.out hl] at y0
        have HNC : Hid (numb B k = cntL B k) := numb_new hl
        have HCS : Hid (cntL B (k + 1) = cntL B k + 1) := by show _ = _; rw [cntL_succ, if_pos hl]
        have HX1 : Hid (NM w (wr.setCell ⟨A, f, none⟩ (.int .i64 (cntL B k : Int))) A P (tab n (fun f => nmF G B (k + 1) f)) (ptL B n k)) := by
          have := HXR.out.setA f (cntL B k : Int)
          rw [tab_set, ← HNC.out, tab_congr (fun v _ => nm_new HE.out HGB.out hlt HF.out hl v)] at this
          rw [← HNC.out]
          exact this
        have z0 := HX1.out.arr.cell f (by rw [tab_length]; exact hfn)
        have hzz : at_ (tab n (fun f => nmF G B (k + 1) f)) f = (cntL B k : Int) := by
          rw [tab_at _ _ _ hfn, ← nm_new HE.out HGB.out hlt HF.out hl, if_pos rfl, HNC.out]
        rw [hzz] at z0
        have zc := HX1.out.prt.cell k (by rw [ptL_len]; exact hlt)
        have zf := HX1.out.prt.free k
        have HX2 : Hid (NM w ((wr.setCell ⟨A, f, none⟩ (.int .i64 (cntL B k : Int))).setCell ⟨P, k, none⟩ (.int .i64 (cntL B k : Int))) A P (tab n (fun f => nmF G B (k + 1) f)) (ptL B n (k + 1))) := by
          have := HX1.out.setP k (cntL B k : Int)
          rw [← HNC.out, ptL_set, HNC.out] at this
          exact this
        generalize cntL B k = cx at y0 HCS z0 zc zf hcm HX1 HX2 hcl HNC ⊢
        clear hl hzz HX1 hcl
        go_upto_region 7 with fail
        go_wp2_with fail
        refine ⟨⟨k + 1, Nat.succ_le_of_lt hlt, by go_num, by rw [HCS.out]; go_num, HX2.out⟩, mdec hlt⟩
      · rw [nm_at_old HE.out HGB.out hlt HF.out hl] at y0
        have HCS : Hid (cntL B (k + 1) = cntL B k) := by show _ = _; rw [cntL_succ, if_neg hl]; rfl
        have hxx : ¬ (numb B k : Int) = -1 := by omega
        have zc := HXR.out.prt.cell k (by rw [ptL_len]; exact hlt)
        have zf := HXR.out.prt.free k
        have HX2 : Hid (NM w (wr.setCell ⟨P, k, none⟩ (.int .i64 (numb B k : Int))) A P (tab n (fun f => nmF G B (k + 1) f)) (ptL B n (k + 1))) := by
          have := HXR.out.setP k (numb B k : Int)
          rw [ptL_set, tab_congr (fun v _ => nm_old HE.out HGB.out hlt HF.out hl v)] at this
          exact this
        generalize numb B k = nx at y0 hxx HX2
        generalize cntL B k = cx at HCS hcm hcl ⊢
        have hxb : ((nx : Int) == -1) = false := by simp
        clear hl hcl
        go_upto_region 7 with fail
        go_wp2_with fail
        refine ⟨⟨k + 1, Nat.succ_le_of_lt hlt, by go_num, by rw [HCS.out], HX2.out⟩, mdec hlt⟩
    · have hkn : k = n := by omega
      have HRW : Hid (RowAt .i64 wr (.slice (some ⟨P, 0, none⟩) n n) (tab n (fun v => (numb B v : Int)))) := by
        have h1 := HXR.out.prt
        rw [hkn] at h1
        have e : ptL B n n = tab n (fun v => (numb B v : Int)) := tab_congr fun v hv => if_pos hv
        rw [e] at h1
        exact h1.row (tab_length _ _) (by have := HNL.out; omega)
      have HCN : Hid (cntL B k = cntL B n) := by rw [hkn]; exact hide rfl
      generalize cntL B k = cx at HCN ⊢
      have hd : decide ((k : Int) < (n : Int)) = false := decide_eq_false (by omega)
      clear hkn hk
      go_wp2_with fail
      go_ret2
      have hcn := HCN.out
      subst hcn
      exact ⟨_, rfl, HRW.out, HXR.out.bel⟩
end Go.Proofs.Ytiohimbifjlfdaa
