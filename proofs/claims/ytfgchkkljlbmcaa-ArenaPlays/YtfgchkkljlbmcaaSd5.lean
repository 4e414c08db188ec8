/- Side.grants. -/
import Derived.Test.YtfgchkkljlbmcaaSd3
import Derived.Test.YtfgchkkljlbmcaaSd4
namespace Go.Proofs.Ytfgchkkljlbmcaa
open Go.RowKit Go.Lib Go.MuLone
set_option linter.unusedVariables false
set_option linter.unusedSimpArgs false
theorem NB.port {s : Ast} {whos : List Int} {n : Nat} (h : NB s whos n) (who : Int) : NB s (whos ++ [who]) (n + 1) := ⟨by have := h.lg; omega, h.c0, by have := h.c1; omega, by have := h.wl; simp; omega⟩
theorem QIs.put {w : World} {Z q b : Nat} {wv hv : Value} {whos : List Int} {has : List Bool} (h : QIs w Z q b wv hv whos has) {k : Nat} {u : Bool} (hk : has[k]? = some u) :
    ∃ g cap, hv = .slice (some ⟨g, 0, none⟩) has.length cap ∧ k < has.length ∧ has.length ≤ cap ∧ w.cell? ⟨g, k, none⟩ = some (.bool u) ∧ w.frozen? ⟨g, k, none⟩ = false ∧
      ∀ u', QIs (w.setCell ⟨g, k, none⟩ (.bool u')) Z q b wv hv whos (has.set k u') ∧ Chg (fun j => hv.ownBlock = some j) w (w.setCell ⟨g, k, none⟩ (.bool u')) := by
  obtain ⟨g, cap, rfl, hgZ, hgl, hkn, hnc, hc, hf, hset⟩ := row_at h.hh (k := k) (u := .bool u) (by simp [hk])
  refine ⟨g, cap, rfl, hkn, hnc, hc, hf, fun u' => ?_⟩
  have kk : Chg (fun j => some g = some j) w (w.setCell ⟨g, k, none⟩ (.bool u')) := (Chg.refl (fun j => some g = some j) w).setCell (p := ⟨g, k, none⟩) rfl _
  have hne : ∀ j, wv.ownBlock = some j → j ≠ g := by
    intro j hj e
    subst e
    obtain ⟨c1, h1⟩ := own_type h.hw hj
    obtain ⟨c2, h2⟩ := own_type h.hh (k := j) rfl
    rw [h1] at h2
    simp at h2
  refine ⟨⟨?_, ?_, ?_, by simpa using h.le, h.qY⟩, kk⟩
  · exact kk.heap h.hq (fun e => by have := h.qY; cases e; omega)
  · exact ownsRow_block h.hw (fun j hj => kk.block j (owns_lt h.hw hj).2 (fun e => hne j hj (by cases e; rfl)))
  · have := hset (.bool u')
    rw [List.length_set, List.map_set]
    exact this
theorem keep_cell {w w' : World} {S : Nat → Prop} (k : Chg S w w') {a i : Nat} {v : Value} (h : w.cell? ⟨a, i, none⟩ = some v) (hs : ¬ S a) : w'.cell? ⟨a, i, none⟩ = some v := by
  have hl : a < w.heap.size := by
    rcases Nat.lt_or_ge a w.heap.size with h1 | h1
    · exact h1
    · simp [World.cell?, Array.getElem?_eq_none h1] at h
  unfold World.cell? at h ⊢
  rw [k.block a hl hs]; exact h
theorem keep5 {X w' : World} {b x g0 q gh i1 i2 i3 i4 i5 : Nat} {v1 v2 v3 v4 v5 : Value} (n1 : x ≠ b) (n2 : g0 ≠ b) (n3 : q ≠ b) (n4 : gh ≠ b) (k : Chg (fun k => k = b) X.drew w') (h1 : X.cell? ⟨x, i1, none⟩ = some v1) (h2 : X.cell? ⟨g0, i2, none⟩ = some v2) (h3 : X.cell? ⟨x, i3, none⟩ = some v3) (h4 : X.cell? ⟨q, i4, none⟩ = some v4) (h5 : X.cell? ⟨gh, i5, none⟩ = some v5) :
    w'.cell? ⟨x, i1, none⟩ = some v1 ∧ w'.cell? ⟨g0, i2, none⟩ = some v2 ∧ w'.cell? ⟨x, i3, none⟩ = some v3 ∧ w'.cell? ⟨q, i4, none⟩ = some v4 ∧ w'.cell? ⟨gh, i5, none⟩ = some v5 :=
  ⟨keep_cell k h1 n1, keep_cell k h2 n2, keep_cell k h3 n1, keep_cell k h4 n3, keep_cell k h5 n4⟩
theorem Sd.qNo {w : World} {F : Nat → Prop} {x b gc q rb rgc Y : Nat} {lv rlv pv wv hv : Value} {s r : Ast} {ps : List Nat} {whos : List Int} {gs has : List Bool} (h : Sd w F x b gc q rb rgc Y lv rlv pv wv hv s r ps whos gs has) : ∀ i, (i = q ∨ wv.ownBlock = some i ∨ hv.ownBlock = some i) → F i := fun i hi => by
  rcases hi with e | e | e
  · rw [e]; exact h.fq
  · exact h.fwv i e
  · exact h.fhv i e
theorem Sd.xNo {w : World} {F : Nat → Prop} {x b gc q rb rgc Y : Nat} {lv rlv pv wv hv : Value} {s r : Ast} {ps : List Nat} {whos : List Int} {gs has : List Bool} (h : Sd w F x b gc q rb rgc Y lv rlv pv wv hv s r ps whos gs has) : ¬ (x = q ∨ wv.ownBlock = some x ∨ hv.ownBlock = some x) := fun hi => by
  rcases hi with e | e | e
  · exact h.tx.ne h.tq (by decide) e
  · exact h.tx.ne (h.twv e) (by decide) rfl
  · exact h.tx.ne (h.thv e) (by decide) rfl
set_option maxRecDepth 100000 in
set_option maxHeartbeats 8000000 in
theorem grants_none6 {w : World} {F : Nat → Prop} {x b gc q rb rgc Y n : Nat} {lv rlv pv wv hv : Value} {s : Ast} {ps : List Nat} {whos : List Int} {gs : List Bool} (h : Sd w F x b gc q rb rgc Y lv rlv pv wv hv s s ps whos gs gs) (hn : NB s whos n) (hbig : (n + 1) * 64 ≤ 140737488355328) (h0 : ps.length = 0) (sec : Bool) (port cell want put fw fk fc : Int) :
    Calls Try.prog 56 #[.pointer (some ⟨x, 0, none⟩), opV 6 sec port cell want put fw fk fc] w fun e w' => e = .returned (.bool true) ∧ StP w w' F x n := by
  obtain ⟨ao, c, rfl⟩ := owns_shape h.row
  obtain ⟨W, hW⟩ : ∃ W, W = w.alloc (opO 6 sec port cell want put fw fk fc) := ⟨_, rfl⟩
  have hb : Below w.heap.size w W := by rw [hW]; exact (Below.refl _ _).alloc (Nat.le_refl _) _
  have hob : W.heap[w.heap.size]? = some (opO 6 sec port cell want put fw fk fc) := by rw [hW]; exact heap_new _ _
  have HOB := hide hob
  have H1 := hide (h.news hb)
  have HP1 := hide ((SP.refl w F).step (S := fun _ => False) (Chg.of_below hb) (fun _ e => e.elim))
  have HN := hide hn
  have HBG := hide hbig
  have HFL : Hid (∀ i, F i → i < w.heap.size) := h.fl
  have k0 := cell_of hob (i := 0) rfl
  have k2 := cell_of hob (i := 2) rfl
  have k3 := cell_of hob (i := 3) rfl
  have c1 : W.cell? ⟨x, 1, none⟩ = some (.slice ao ps.length c) := cell_of H1.out.sb rfl
  rw [h0] at c1
  clear h hb hob hn hbig
  obtain ⟨ob, hobe⟩ : ∃ ob, ob = w.heap.size := ⟨_, rfl⟩
  have HOW := hide hobe
  rw [← hobe] at HOB k0 k2 k3
  unfold opV
  unfold opO at hW
  go_enter Try.func56, Try.ntmps56
  go_upto_region 1 with fail
  rw [← hW, ← hobe]
  clear hW hobe
  go_wp2_with fail
  go_ret
  exact ⟨rfl, _, _, _, _, _, _, _, _, _, _, _, _, _, _, _, _, H1.out, HP1.out, HN.out.up⟩
set_option maxRecDepth 100000 in
set_option maxHeartbeats 8000000 in
theorem grants_none7 {w : World} {F : Nat → Prop} {x b gc q rb rgc Y n : Nat} {lv rlv pv wv hv : Value} {s : Ast} {ps : List Nat} {whos : List Int} {gs : List Bool} (h : Sd w F x b gc q rb rgc Y lv rlv pv wv hv s s ps whos gs gs) (hn : NB s whos n) (hbig : (n + 1) * 64 ≤ 140737488355328) (h0 : ps.length = 0) (sec : Bool) (port cell want put fw fk fc : Int) :
    Calls Try.prog 56 #[.pointer (some ⟨x, 0, none⟩), opV 7 sec port cell want put fw fk fc] w fun e w' => e = .returned (.bool true) ∧ StP w w' F x n := by
  obtain ⟨ao, c, rfl⟩ := owns_shape h.row
  obtain ⟨W, hW⟩ : ∃ W, W = w.alloc (opO 7 sec port cell want put fw fk fc) := ⟨_, rfl⟩
  have hb : Below w.heap.size w W := by rw [hW]; exact (Below.refl _ _).alloc (Nat.le_refl _) _
  have hob : W.heap[w.heap.size]? = some (opO 7 sec port cell want put fw fk fc) := by rw [hW]; exact heap_new _ _
  have HOB := hide hob
  have H1 := hide (h.news hb)
  have HP1 := hide ((SP.refl w F).step (S := fun _ => False) (Chg.of_below hb) (fun _ e => e.elim))
  have HN := hide hn
  have HBG := hide hbig
  have HFL : Hid (∀ i, F i → i < w.heap.size) := h.fl
  have k0 := cell_of hob (i := 0) rfl
  have k2 := cell_of hob (i := 2) rfl
  have k3 := cell_of hob (i := 3) rfl
  have c1 : W.cell? ⟨x, 1, none⟩ = some (.slice ao ps.length c) := cell_of H1.out.sb rfl
  rw [h0] at c1
  clear h hb hob hn hbig
  obtain ⟨ob, hobe⟩ : ∃ ob, ob = w.heap.size := ⟨_, rfl⟩
  have HOW := hide hobe
  rw [← hobe] at HOB k0 k2 k3
  unfold opV
  unfold opO at hW
  go_enter Try.func56, Try.ntmps56
  go_upto_region 1 with fail
  rw [← hW, ← hobe]
  clear hW hobe
  go_wp2_with fail
  go_ret
  exact ⟨rfl, _, _, _, _, _, _, _, _, _, _, _, _, _, _, _, _, H1.out, HP1.out, HN.out.up⟩
set_option maxRecDepth 100000 in
set_option maxHeartbeats 8000000 in
theorem grants_bad {w : World} {F : Nat → Prop} {x b gc q rb rgc Y n : Nat} {lv rlv pv wv hv : Value} {s : Ast} {ps : List Nat} {whos : List Int} {gs : List Bool} (h : Sd w F x b gc q rb rgc Y lv rlv pv wv hv s s ps whos gs gs) (hn : NB s whos n) (hbig : (n + 1) * 64 ≤ 140737488355328) (sec : Bool) (port cell want put fw fk fc : Int) (hc : cell < 0) :
    Calls Try.prog 56 #[.pointer (some ⟨x, 0, none⟩), opV 8 sec port cell want put fw fk fc] w fun e w' => e = .returned (.bool true) ∧ StP w w' F x n := by
  obtain ⟨W, hW⟩ : ∃ W, W = w.alloc (opO 8 sec port cell want put fw fk fc) := ⟨_, rfl⟩
  have hb : Below w.heap.size w W := by rw [hW]; exact (Below.refl _ _).alloc (Nat.le_refl _) _
  have hob : W.heap[w.heap.size]? = some (opO 8 sec port cell want put fw fk fc) := by rw [hW]; exact heap_new _ _
  have HOB := hide hob
  have H1 := hide (h.news hb)
  have HP1 := hide ((SP.refl w F).step (S := fun _ => False) (Chg.of_below hb) (fun _ e => e.elim))
  have HN := hide hn
  have HBG := hide hbig
  have HFL : Hid (∀ i, F i → i < w.heap.size) := h.fl
  have k0 := cell_of hob (i := 0) rfl
  have k2 := cell_of hob (i := 2) rfl
  have k3 := cell_of hob (i := 3) rfl
  have HPB := hide (fun W => port_bad b cell W hc)
  have HRB := hide (fun W => refPort_bad q cell W hc)
  have HNO := hide (fun e W => no_any e W)
  have c0 : W.cell? ⟨x, 0, none⟩ = some (.pointer (some ⟨b, 0, none⟩)) := cell_of H1.out.sb rfl
  have c2 : W.cell? ⟨x, 2, none⟩ = some (.pointer (some ⟨q, 0, none⟩)) := cell_of H1.out.sb rfl
  clear h hb hob hn hbig
  obtain ⟨ob, hobe⟩ : ∃ ob, ob = w.heap.size := ⟨_, rfl⟩
  have HOW := hide hobe
  rw [← hobe] at HOB k0 k2 k3
  unfold opV
  unfold opO at hW
  go_enter Try.func56, Try.ntmps56
  go_upto_region 1 with fail
  rw [← hW, ← hobe]
  clear hW hobe
  go_wp2_with fail
  go_quiet ((go_at_call 33; refine Calls.quiet_of_same (HPB.out _)))
  go_wp2_with fail
  generalize hXe : W.drewN _ = X
  have hbX : Below W.heap.size W X := by rw [← hXe]; exact below_drewN' _
  have H2 := hide (H1.out.news hbX)
  have HP2 := hide (HP1.out.step (S := fun _ => False) (Chg.of_below hbX) (fun _ e => e.elim))
  have HO2 := hide ((hbX.block _ (lt_of_heap HOB.out)).trans HOB.out)
  clear c0 c2 k0 k2 k3 hXe hbX H1 HOB HP1
  have c2 : X.cell? ⟨x, 2, none⟩ = some (.pointer (some ⟨q, 0, none⟩)) := cell_of H2.out.sb rfl
  have k3 := cell_of HO2.out (i := 3) rfl
  go_quiet ((go_at_call 63; refine Calls.quiet_of_same (HRB.out _)))
  go_wp2_with (go_at_call 31; refine (HNO.out _ _).mono ?_; rintro e w' ⟨rfl, rfl⟩)
  go_ret
  exact ⟨rfl, _, _, _, _, _, _, _, _, _, _, _, _, _, _, _, _, H2.out.news (below_drewN' _), HP2.out.step (S := fun _ => False) (Chg.of_below (below_drewN' _)) (fun _ e => e.elim), HN.out.up⟩
set_option maxRecDepth 100000 in
set_option maxHeartbeats 8000000 in
theorem grants_grant {w : World} {F : Nat → Prop} {x b gc q rb rgc Y n : Nat} {lv rlv pv wv hv : Value} {s : Ast} {ps : List Nat} {whos : List Int} {gs : List Bool} (h : Sd w F x b gc q rb rgc Y lv rlv pv wv hv s s ps whos gs gs) (hn : NB s whos n) (hbig : (n + 1) * 64 ≤ 140737488355328) (h0 : 0 < ps.length) (sec : Bool) (port cell want put fw fk fc : Int) :
    Calls Try.prog 56 #[.pointer (some ⟨x, 0, none⟩), opV 6 sec port cell want put fw fk fc] w fun e w' => e = .returned (.bool true) ∧ StP w w' F x n := by
  have hpl : (ps.length : Int) ≤ 140737488355328 := by have := h.le; have := hn.wl; omega
  have hjr : 0 ≤ port % (ps.length : Int) ∧ port % (ps.length : Int) < ps.length := ⟨Int.emod_nonneg _ (by omega), Int.emod_lt_of_pos _ (by omega)⟩
  obtain ⟨j, hje⟩ : ∃ j : Nat, port % (ps.length : Int) = (j : Int) := ⟨(port % (ps.length : Int)).toNat, by omega⟩
  have hjl : j < ps.length := by omega
  obtain ⟨p, who, g, hj, hwh, hg, hpo⟩ := h.at_ hjl
  have HIX := hide (fun W => index_any port ps.length W (by omega) (by omega))
  rw [hje] at HIX
  obtain ⟨g0, cap, rfl, hgY, hgl, _, hnc, hpc, _, _⟩ := row_at h.row (k := j) (u := .pointer (some ⟨p, 0, none⟩)) (by simp [ptrs, hj])
  obtain ⟨W, hW⟩ : ∃ W, W = w.alloc (opO 6 sec port cell want put fw fk fc) := ⟨_, rfl⟩
  have hb : Below w.heap.size w W := by rw [hW]; exact (Below.refl _ _).alloc (Nat.le_refl _) _
  have hob : W.heap[w.heap.size]? = some (opO 6 sec port cell want put fw fk fc) := by rw [hW]; exact heap_new _ _
  have HOB := hide hob
  have H1 := hide (h.news hb)
  have HP1 := hide ((SP.refl w F).step (S := fun _ => False) (Chg.of_below hb) (fun _ e => e.elim))
  have HN := hide hn
  have HBG := hide hbig
  have HFL : Hid (∀ i, F i → i < w.heap.size) := h.fl
  have k0 := cell_of hob (i := 0) rfl
  have k2 := cell_of hob (i := 2) rfl
  have k3 := cell_of hob (i := 3) rfl
  have HJ := hide hj
  have HWH := hide hwh
  have HG := hide hg
  have c1 : W.cell? ⟨x, 1, none⟩ = some (.slice (some ⟨g0, 0, none⟩) ps.length cap) := cell_of H1.out.sb rfl
  have hp2 : W.cell? ⟨g0, j, none⟩ = some (.pointer (some ⟨p, 0, none⟩)) := by
    have e := hb.block g0 hgl
    unfold World.cell? at hpc ⊢
    rw [e]; exact hpc
  obtain ⟨L, hL⟩ : ∃ L, L = ps.length := ⟨_, rfl⟩
  have hLe := hide hL
  rw [← hL] at c1 HIX hnc h0 hpl hjl
  have hjL : (j : Int) < (L : Int) := by omega
  have hL0 : ¬ (L : Int) = 0 := by omega
  have hLb : ((L : Int) == 0) = false := by simp; omega
  have HGL := hide hgl
  clear h hb hob hn hj hwh hg hpo hpc hjr hje hbig hgY hgl hL
  obtain ⟨ob, hobe⟩ : ∃ ob, ob = w.heap.size := ⟨_, rfl⟩
  have HOW := hide hobe
  rw [← hobe] at HOB k0 k2 k3
  unfold opV
  unfold opO at hW
  go_enter Try.func56, Try.ntmps56
  go_upto_region 1 with fail
  rw [← hW, ← hobe]
  clear hW hobe
  go_wp2_with fail
  go_quiet ((go_at_call 20; refine Calls.quiet_of_same (HIX.out _)))
  generalize hXe : W.drewN _ = X
  have hbX : Below W.heap.size W X := by rw [← hXe]; exact below_drewN' _
  have H2 := hide (H1.out.news hbX)
  have HP2 := hide (HP1.out.step (S := fun _ => False) (Chg.of_below hbX) (fun _ e => e.elim))
  have hO2 := (hbX.block _ (lt_of_heap HOB.out)).trans HOB.out
  have hp3 : X.cell? ⟨g0, j, none⟩ = some (.pointer (some ⟨p, 0, none⟩)) := by rw [← hXe]; exact hp2
  have HA := hide (H2.out.accR HJ.out HWH.out HG.out HN.out HBG.out)
  have HGR := hide (grant_any p Y b gc lv s who g X HA.out.ar HA.out.po HA.out.pb HA.out.pg HA.out.pl)
  clear c1 k0 k2 k3 hXe hbX H1 HOB HP1 hp2
  have c1 : X.cell? ⟨x, 1, none⟩ = some (.slice (some ⟨g0, 0, none⟩) L cap) := by rw [hLe.out]; exact cell_of H2.out.sb rfl
  have k0 := cell_of hO2 (i := 0) rfl
  clear hO2
  go_wp2_with fail
  refine HGR.out.mono ?_
  rintro e w3 ⟨rfl, ha3, hp3', hk3, _⟩
  have H3 := hide (H2.out.turnA hk3 ha3 HJ.out HWH.out hp3' (fun i hi => hi.elim .inl (fun e => .inr (.inr (.inl e)))) (.inl rfl))
  have HP3 := hide (HP2.out.step hk3 (fun i hi => by rcases hi with e | e; rw [e]; exact H2.out.fb; rw [e]; exact H2.out.fps p (List.mem_of_getElem? HJ.out)))
  clear ha3 hp3' hk3 c1 k0 hp3 HGR HA
  obtain ⟨gh, ch, hhv, hjh, hch, hcell, hfree, hput⟩ := H3.out.qo.put HG.out
  have d2 : w3.cell? ⟨x, 2, none⟩ = some (.pointer (some ⟨q, 0, none⟩)) := cell_of H3.out.sb rfl
  have e2 : w3.cell? ⟨q, 2, none⟩ = some hv := cell_of H3.out.qo.hq rfl
  rw [hhv] at e2
  have hjh2 : (j : Int) < (gs.length : Int) := by omega
  have HPU := hide (hput true)
  clear hput hhv
  go_wp2_with fail
  go_ret
  have hq4 := HPU.out.1
  have hk4 := HPU.out.2
  exact ⟨rfl, _, _, _, _, _, _, _, _, _, _, _, _, _, _, _, _, H3.out.turnR hk4 (H3.out.re.pass H3.out.qo hk4) hq4 (fun i hi => .inr (.inr (.inr hi))) (.inl rfl), HP3.out.step hk4 (fun i hi => H3.out.fhv i hi), HN.out.up⟩
set_option maxRecDepth 100000 in
set_option maxHeartbeats 8000000 in
theorem grants_granted {w : World} {F : Nat → Prop} {x b gc q rb rgc Y n : Nat} {lv rlv pv wv hv : Value} {s : Ast} {ps : List Nat} {whos : List Int} {gs : List Bool} (h : Sd w F x b gc q rb rgc Y lv rlv pv wv hv s s ps whos gs gs) (hn : NB s whos n) (hbig : (n + 1) * 64 ≤ 140737488355328) (h0 : 0 < ps.length) (sec : Bool) (port cell want put fw fk fc : Int) :
    Calls Try.prog 56 #[.pointer (some ⟨x, 0, none⟩), opV 7 sec port cell want put fw fk fc] w fun e w' => e = .returned (.bool true) ∧ StP w w' F x n := by
  have hpl : (ps.length : Int) ≤ 140737488355328 := by have := h.le; have := hn.wl; omega
  have hjr : 0 ≤ port % (ps.length : Int) ∧ port % (ps.length : Int) < ps.length := ⟨Int.emod_nonneg _ (by omega), Int.emod_lt_of_pos _ (by omega)⟩
  obtain ⟨j, hje⟩ : ∃ j : Nat, port % (ps.length : Int) = (j : Int) := ⟨(port % (ps.length : Int)).toNat, by omega⟩
  have hjl : j < ps.length := by omega
  obtain ⟨p, who, g, hj, hwh, hg, hpo⟩ := h.at_ hjl
  have HIX := hide (fun W => index_any port ps.length W (by omega) (by omega))
  rw [hje] at HIX
  obtain ⟨g0, cap, rfl, hgY, hgl, _, hnc, hpc, _, _⟩ := row_at h.row (k := j) (u := .pointer (some ⟨p, 0, none⟩)) (by simp [ptrs, hj])
  obtain ⟨W, hW⟩ : ∃ W, W = w.alloc (opO 7 sec port cell want put fw fk fc) := ⟨_, rfl⟩
  have hb : Below w.heap.size w W := by rw [hW]; exact (Below.refl _ _).alloc (Nat.le_refl _) _
  have hob : W.heap[w.heap.size]? = some (opO 7 sec port cell want put fw fk fc) := by rw [hW]; exact heap_new _ _
  have HOB := hide hob
  have H1 := hide (h.news hb)
  have HP1 := hide ((SP.refl w F).step (S := fun _ => False) (Chg.of_below hb) (fun _ e => e.elim))
  have HN := hide hn
  have HBG := hide hbig
  have HFL : Hid (∀ i, F i → i < w.heap.size) := h.fl
  have k0 := cell_of hob (i := 0) rfl
  have k2 := cell_of hob (i := 2) rfl
  have k3 := cell_of hob (i := 3) rfl
  have HJ := hide hj
  have HWH := hide hwh
  have HG := hide hg
  have c1 : W.cell? ⟨x, 1, none⟩ = some (.slice (some ⟨g0, 0, none⟩) ps.length cap) := cell_of H1.out.sb rfl
  have hp2 : W.cell? ⟨g0, j, none⟩ = some (.pointer (some ⟨p, 0, none⟩)) := by
    have e := hb.block g0 hgl
    unfold World.cell? at hpc ⊢
    rw [e]; exact hpc
  obtain ⟨L, hL⟩ : ∃ L, L = ps.length := ⟨_, rfl⟩
  have hLe := hide hL
  rw [← hL] at c1 HIX hnc h0 hpl hjl
  have hjL : (j : Int) < (L : Int) := by omega
  have hL0 : ¬ (L : Int) = 0 := by omega
  have hLb : ((L : Int) == 0) = false := by simp; omega
  have HGL := hide hgl
  clear h hb hob hn hj hwh hg hpo hpc hjr hje hbig hgY hgl hL
  obtain ⟨ob, hobe⟩ : ∃ ob, ob = w.heap.size := ⟨_, rfl⟩
  have HOW := hide hobe
  rw [← hobe] at HOB k0 k2 k3
  unfold opV
  unfold opO at hW
  go_enter Try.func56, Try.ntmps56
  go_upto_region 1 with fail
  rw [← hW, ← hobe]
  clear hW hobe
  go_wp2_with fail
  go_quiet ((go_at_call 20; refine Calls.quiet_of_same (HIX.out _)))
  generalize hXe : W.drewN _ = X
  have hbX : Below W.heap.size W X := by rw [← hXe]; exact below_drewN' _
  have H2 := hide (H1.out.news hbX)
  have HP2 := hide (HP1.out.step (S := fun _ => False) (Chg.of_below hbX) (fun _ e => e.elim))
  have hO2 := (hbX.block _ (lt_of_heap HOB.out)).trans HOB.out
  have hp3 : X.cell? ⟨g0, j, none⟩ = some (.pointer (some ⟨p, 0, none⟩)) := by rw [← hXe]; exact hp2
  have HA := hide (H2.out.accR HJ.out HWH.out HG.out HN.out HBG.out)
  have HGR := hide (granted_any p Y b gc lv s who g X.drew (H2.out.news ((Below.refl _ _).drew)).ar HA.out.po HA.out.pb)
  clear c1 k0 k2 k3 hXe hbX H1 HOB HP1 hp2
  have c1 : X.cell? ⟨x, 1, none⟩ = some (.slice (some ⟨g0, 0, none⟩) L cap) := by rw [hLe.out]; exact cell_of H2.out.sb rfl
  have k0 := cell_of hO2 (i := 0) rfl
  clear hO2
  obtain ⟨gh, ch, hhv, hjh, hch, hcell, hfree, hput⟩ := H2.out.qo.put HG.out
  have d2 : X.cell? ⟨x, 2, none⟩ = some (.pointer (some ⟨q, 0, none⟩)) := cell_of H2.out.sb rfl
  have e2 : X.cell? ⟨q, 2, none⟩ = some hv := cell_of H2.out.qo.hq rfl
  rw [hhv] at e2
  have hjh2 : (j : Int) < (gs.length : Int) := by omega
  have HHV := hide hhv
  have HRB : Hid (TyAt X g0 48) := own_ty H2.out.row rfl
  clear hput hhv
  go_wp2_with fail
  clear k0
  refine wp_region_noPanic ?_
  go_region_held3 (fun z => z.cell? ⟨x, 1, none⟩ = some (.slice (some ⟨g0, 0, none⟩) L cap) ∧ z.cell? ⟨g0, j, none⟩ = some (.pointer (some ⟨p, 0, none⟩)) ∧ z.cell? ⟨x, 2, none⟩ = some (.pointer (some ⟨q, 0, none⟩)) ∧ z.cell? ⟨q, 2, none⟩ = some (.slice (some ⟨gh, 0, none⟩) gs.length ch) ∧ z.cell? ⟨gh, j, none⟩ = some (.bool g))
    (first | exact ⟨c1, hp3, d2, e2, hcell⟩ | exact HS3.out)
    ((go_at_call 23; refine HGR.out.mono ?_; rintro e w3 ⟨rfl, ha3, hk3, _⟩; have H3 := hide ((H2.out.news ((Below.refl _ _).drew)).lookA hk3 ha3 (fun i hi => .inl hi)); have HP3 := hide ((HP2.out.step (S := fun _ => False) (Chg.of_below ((Below.refl _ _).drew)) (fun _ e => e.elim)).step hk3 (fun i hi => by rw [hi]; exact (H2.out.news ((Below.refl _ _).drew)).fb)); have HS3 := hide (keep5 (H2.out.tx.ne H2.out.tb (by decide)) (HRB.out.ne H2.out.tb (by decide)) (H2.out.tq.ne H2.out.tb (by decide)) ((H2.out.thv (by rw [HHV.out]; rfl)).ne H2.out.tb (by decide)) hk3 c1 hp3 d2 e2 hcell); clear ha3 hk3))
  refine NoPanic.normal ?_
  go_wp2_with fail
  go_ret
  exact ⟨by simp, _, _, _, _, _, _, _, _, _, _, _, _, _, _, _, _, H3.out, HP3.out, HN.out.up⟩
end Go.Proofs.Ytfgchkkljlbmcaa
