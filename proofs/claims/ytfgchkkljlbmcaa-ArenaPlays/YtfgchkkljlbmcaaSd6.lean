/- Side.grants: a new port. -/
import Derived.Test.YtfgchkkljlbmcaaSd5
namespace Go.Proofs.Ytfgchkkljlbmcaa
open Go.RowKit Go.Lib Go.MuLone
set_option linter.unusedVariables false
set_option linter.unusedSimpArgs false
set_option maxRecDepth 100000 in
set_option maxHeartbeats 8000000 in
theorem grants_port {w : World} {F : Nat → Prop} {x b gc q rb rgc Y n : Nat} {lv rlv pv wv hv : Value} {s : Ast} {ps : List Nat} {whos : List Int} {gs : List Bool} (h : Sd w F x b gc q rb rgc Y lv rlv pv wv hv s s ps whos gs gs) (hn : NB s whos n) (hbig : (n + 1) * 64 ≤ 140737488355328) (sec : Bool) (port cell want put fw fk fc : Int) (hc : 0 ≤ cell) :
    Calls Try.prog 56 #[.pointer (some ⟨x, 0, none⟩), opV 8 sec port cell want put fw fk fc] w fun e w' => e = .returned (.bool true) ∧ StP w w' F x n := by
  obtain ⟨i48, hi48, hx0, hx1, hx2⟩ := info_parts Try.info48
  obtain ⟨ao, c, rfl⟩ := owns_shape h.row
  obtain ⟨W, hW⟩ : ∃ W, W = w.alloc (opO 8 sec port cell want put fw fk fc) := ⟨_, rfl⟩
  have hb : Below w.heap.size w W := by rw [hW]; exact (Below.refl _ _).alloc (Nat.le_refl _) _
  have hob : W.heap[w.heap.size]? = some (opO 8 sec port cell want put fw fk fc) := by rw [hW]; exact heap_new _ _
  have HOB := hide hob
  have H1 := hide (h.news hb)
  have HP1 := hide ((SP.refl w F).step (S := fun _ => False) (Chg.of_below hb) (fun _ e => e.elim))
  have HN := hide hn
  have HBG := hide hbig
  have HFL : Hid (∀ i, F i → i < w.heap.size) := h.fl
  have k0 := cell_of hob (i := 0) rfl
  have k2 := cell_of hob (i := 2) rfl
  have k3 := cell_of hob (i := 3) rfl
  have HQN := hide h.qNo
  have HFB := hide h.fb
  have HFX : Hid (∀ i, (i = x ∨ Value.ownBlock (.slice ao ps.length c) = some i) → F i) := fun i hi => hi.elim (fun e => by rw [e]; exact h.fx) (fun e => h.fpv i e)
  have HNO := hide (fun e W => no_any e W)
  have HLE := hide h.le
  have c0 : W.cell? ⟨x, 0, none⟩ = some (.pointer (some ⟨b, 0, none⟩)) := cell_of H1.out.sb rfl
  have HYW : Hid (Y ≤ W.heap.size) := H1.out.ar.yw
  clear h hb hob hn hbig
  obtain ⟨ob, hobe⟩ : ∃ ob, ob = w.heap.size := ⟨_, rfl⟩
  have HOW := hide hobe
  rw [← hobe] at HOB k0 k2 k3
  unfold opV
  unfold opO at hW
  go_enter Try.func56, Try.ntmps56
  go_upto_region 1 with fail
  rw [← hW, ← hobe]
  clear hW hobe
  go_wp2_with fail
  refine wp_region_noPanic ?_
  go_region_held3 (fun z => z.cell? ⟨x, 0, none⟩ = some (.pointer (some ⟨b, 0, none⟩)) ∧ z.cell? ⟨ob, 3, none⟩ = some (.int .i64 cell))
    (first | exact ⟨c0, k3⟩ | exact ⟨cell_of H2.out.sb rfl, cell_of HO2.out (i := 3) rfl⟩)
    ((go_at_call 33; refine (port_any b cell W.drew hc).mono ?_; rintro e w1 ⟨rfl, hw1⟩; have hb1 : Below W.heap.size W w1 := (by rw [hw1]; exact ((Below.refl _ _).drew).alloc (Nat.le_refl _) _); have HB1 := hide hb1; have H2 := hide (H1.out.news hb1); have HO2 := hide ((hb1.block _ (lt_of_heap HOB.out)).trans HOB.out); have HNP : Hid (w1.heap[W.heap.size]? = some (PObj b cell false)) := (by show _ = _; rw [hw1]; exact heap_new W.drew _); clear hw1 hb1))
  refine NoPanic.normal ?_
  obtain ⟨np, hnp⟩ : ∃ np, np = W.heap.size := ⟨_, rfl⟩
  have HNW := hide hnp
  rw [← hnp] at HNP ⊢
  have HP2 := hide (HP1.out.step (S := fun _ => False) (Chg.of_below HB1.out) (fun _ e => e.elim))
  have d2 : w1.cell? ⟨x, 2, none⟩ = some (.pointer (some ⟨q, 0, none⟩)) := cell_of H2.out.sb rfl
  clear c0 k0 k2 k3 hnp
  have k3 := cell_of HO2.out (i := 3) rfl
  have HOF : Hid (¬ F ob) := fun e => by have := HFL.out ob e; have := HOW.out; omega
  have HRP := hide (fun hz => refPort_lies Y q rb wv hv whos gs cell w1.drew (H2.out.news ((Below.refl _ _).drew)).qo hc hz (by have := HN.out.wl; have := HBG.out; omega))
  go_wp2_with fail
  refine wp_region_noPanic ?_
  go_region_held3 (fun z => z.cell? ⟨x, 2, none⟩ = some (.pointer (some ⟨q, 0, none⟩)) ∧ z.cell? ⟨ob, 3, none⟩ = some (.int .i64 cell))
    (first | exact ⟨d2, k3⟩ | exact HS3.out)
    ((go_at_call 63; refine (HRP.out (Nat.le_trans HYW.out HB1.out.size)).mono ?_; rintro e w2 ⟨rfl, wv', hv', hQ, hwo, hho, hk2⟩; have HQ := hide hQ; have HWO := hide hwo; have HHO := hide hho; have HK2 := hide hk2; have HS3 : Hid (w2.cell? ⟨x, 2, none⟩ = some (.pointer (some ⟨q, 0, none⟩)) ∧ w2.cell? ⟨ob, 3, none⟩ = some (.int .i64 cell)) := ⟨keep_cell hk2 d2 (H2.out.xNo), keep_cell hk2 k3 (fun e => HOF.out (HQN.out ob e))⟩; clear hQ hwo hho hk2))
  refine NoPanic.normal ?_
  have x2 : w2.heap[x]? = some (.cells #[.pointer (some ⟨b, 0, none⟩), .slice ao ps.length c, .pointer (some ⟨q, 0, none⟩)] 105 (0, 0)) := HK2.out.heap (show w1.drew.heap[x]? = _ from H2.out.sb) H2.out.xNo
  have e1 : w2.cell? ⟨x, 1, none⟩ = some (.slice ao ps.length c) := cell_of x2 rfl
  have fx1 := free_of x2 1
  have hxl := lt_of_heap x2
  have HO3 : Hid (w2.heap[ob]? = some (opO 8 sec port cell want put fw fk fc)) := HK2.out.heap (show w1.drew.heap[ob]? = _ from HO2.out) (fun e => HOF.out (HQN.out ob e))
  have HROW : Hid (w2.ownsRow Y 48 1 (.slice ao ps.length c) ps.length (ptrs ps)) := ownsRow_block H2.out.row (fun i hi => HK2.out.block i (owns_lt H2.out.row hi).2 (fun e => by
    rcases e with e | e | e
    · exact (H2.out.tpv hi).ne H2.out.tq (by decide) e
    · exact (H2.out.tpv hi).ne (H2.out.twv e) (by decide) rfl
    · exact (H2.out.tpv hi).ne (H2.out.thv e) (by decide) rfl))
  have HYZ : Hid (Y ≤ w2.heap.size) := Nat.le_trans (Nat.le_trans HYW.out HB1.out.size) HK2.out.size
  have HPL : Hid (ps.length ≤ n) := by have := HLE.out; have := HN.out.wl; show _ ≤ _; omega
  have HK3 := hide x2
  clear d2 k3 x2
  obtain ⟨L, hL⟩ : ∃ L, L = ps.length := ⟨_, rfl⟩
  rw [← hL] at e1 HROW HPL
  have HLL := hide hL
  clear hL
  go_upto_region 7 with (first | (go_at_call 31; refine (HNO.out _ _).mono ?_; rintro e w' ⟨rfl, hw⟩; subst w') | fail)
  go_wp2_with (at_builtin; refine wpList_append_lies _ rfl _ _ 39 rfl Y 48 i48 (.pointer none) 1 8 Try.underlying39 hi48 hx0 hx1 hx2 rfl (by decide) _ _ _ rfl (HROW.out.alloc _) ⟨w2.heap.size, 0, none⟩ 1 1 [.pointer (some ⟨np, 0, none⟩)] rfl rfl ?c1 ?c2 (by decide) ?c3 ?c4 ?c5 (w2.heap.size + 1) (by simp) ?_)
  case c1 =>
    intro j u hj
    match j, hj with
    | 0, hj => simp at hj; subst hj; exact cell_of (heap_at _ _ (by simp)) rfl
  case c2 => intro u hu; simp at hu; subst hu; rfl
  case c3 => have := HPL.out; have := HBG.out; unfold maxLen; omega
  case c4 => have := HPL.out; have := HBG.out; omega
  case c5 => have := HYZ.out; simp; omega
  intro g3 cap3 w3 hown hgrow hat hlt
  have x3 : w3.heap[x]? = some (.cells #[.pointer (some ⟨b, 0, none⟩), .slice ao ps.length c, .pointer (some ⟨q, 0, none⟩)] 105 (0, 0)) := by
    rw [hgrow.block x (by simp; omega) (fun e => by
      obtain ⟨cs, hcs⟩ := own_type HROW.out e.symm
      exact ne_of_type HK3.out hcs (by decide) rfl)]
    exact heap_old HK3.out _
  rw [HLL.out] at hown hgrow hat
  have hsd := Sd.port (H2.out.news ((Below.refl _ _).drew)) (show w1.drew.heap[np]? = _ from HNP.out) (fun e => by have := H1.out.fl np (H1.out.fps np e); have := HNW.out; omega) (.inl (.inr ⟨by have := HNW.out; omega, lt_of_heap HNP.out⟩)) HQ.out HWO.out HHO.out HK2.out hown hgrow hat
  rw [← HLL.out] at hsd
  have HSD := hide hsd
  have v1 : w3.cell? ⟨x, 1, none⟩ = some (.slice ao ps.length c) := cell_of x3 rfl
  have fv1 := free_of x3 1
  have hxl3 := lt_of_heap x3
  clear hown hgrow hat hlt x3 hsd e1 fx1
  go_upto_region 8 with fail
  generalize hz : w3.setCell ⟨x, 1, none⟩ (.slice (some ⟨g3, 0, none⟩) (L + 1) cap3) = z at HSD ⊢
  clear hz v1 fv1 hxl3
  have H4 := hide HSD.out.1
  have HP4 := hide ((HP2.out.step (S := fun _ => False) (Chg.of_below ((Below.refl _ _).drew)) (fun _ e => e.elim)).step HSD.out.2 (fun i hi => .inl (by
    rcases hi with e | e | e | e | e
    · rw [e]; exact H2.out.fx
    · rw [e]; exact H2.out.fq
    · exact H2.out.fwv i e
    · exact H2.out.fhv i e
    · exact H2.out.fpv i (by rw [← HLL.out]; exact e))))
  have HO4 : Hid (z.heap[ob]? = some (opO 8 sec port cell want put fw fk fc)) := HSD.out.2.heap (show w1.drew.heap[ob]? = _ from HO2.out) (fun e => by
    rcases e with e | e | e | e | e
    · exact HOF.out (HFX.out ob (.inl e))
    · exact HOF.out (HQN.out ob (.inl e))
    · exact HOF.out (HQN.out ob (.inr (.inl e)))
    · exact HOF.out (HQN.out ob (.inr (.inr e)))
    · exact HOF.out (HFX.out ob (.inr (by rw [← HLL.out]; exact e))))
  have HN4 : Hid (z.heap[np]? = some (PObj b cell false)) := H4.out.po ps.length np cell false (by simp) (by simp [HLE.out]) (by have := H2.out.lg; have := H2.out.le; simp [show gs.length = ps.length by omega])
  have HPB : Hid (np ≠ b) := ne_of_type HN4.out H4.out.ar.hb (by decide)
  have HWHO := hide (fun X (hX : X.heap[np]? = some (PObj b cell false)) => who_any np b cell false X hX)
  have HGR := hide (granted_any np Y b gc lv s cell false z.drew (H4.out.news ((Below.refl _ _).drew)).ar HN4.out HPB.out)
  have k3 := cell_of HO4.out (i := 3) rfl
  have HOB5 : Hid (ob ≠ b) := fun e => HOF.out (by rw [e]; exact HFB.out)
  have hcc : (cell == cell) = true := by simp
  refine wp_region_noPanic ?_
  go_region_held3 (fun z => z.cell? ⟨ob, 3, none⟩ = some (.int .i64 cell))
    (first | exact k3 | exact HS5.out)
    (first
      | (go_at_call 64; refine (HWHO.out z.drew HN4.out).mono ?_; rintro e w' ⟨rfl, hw⟩; subst w')
      | (go_at_call 23; refine HGR.out.mono ?_; rintro e w5 ⟨rfl, ha5, hk5, _⟩; have H5 := hide ((H4.out.news ((Below.refl _ _).drew)).lookA hk5 ha5 (fun i hi => .inl hi)); have HP5 := hide ((HP4.out.step (S := fun _ => False) (Chg.of_below ((Below.refl _ _).drew)) (fun _ e => e.elim)).step hk5 (fun i hi => by rw [hi]; exact (H4.out.news ((Below.refl _ _).drew)).fb)); have HS5 := hide (keep_cell hk5 (show z.drew.cell? ⟨ob, 3, none⟩ = _ from k3) HOB5.out); clear ha5 hk5))
  refine NoPanic.normal ?_
  go_wp2_with fail
  go_ret
  exact ⟨rfl, _, _, _, _, _, _, _, _, _, _, _, _, _, _, _, _, H5.out, HP5.out, HN.out.port cell⟩
end Go.Proofs.Ytfgchkkljlbmcaa
