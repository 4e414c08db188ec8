/- Side.accesses. -/
import Derived.Test.YtfgchkkljlbmcaaSd2
import Derived.Deep.RegionHeld3
import Derived.BigRegion
import Derived.BigQuiet
namespace Go.Proofs.Ytfgchkkljlbmcaa
open Go.RowKit Go.Lib Go.MuLone
set_option linter.unusedVariables false
set_option linter.unusedSimpArgs false
/-- How far it has come. -/
structure NB (s : Ast) (whos : List Int) (n : Nat) : Prop where
  lg : s.log.length ≤ n
  c0 : 0 ≤ s.count
  c1 : s.count ≤ n
  wl : whos.length ≤ n
theorem NB.up {s : Ast} {whos : List Int} {n : Nat} (h : NB s whos n) : NB s whos (n + 1) := ⟨by have := h.lg; omega, h.c0, by have := h.c1; omega, by have := h.wl; omega⟩
theorem stop_log' (s : Ast) (x y z : Int) : (s.stop x y z).log = s.log ∧ (s.stop x y z).count = s.count := by unfold Ast.stop; split <;> exact ⟨rfl, rfl⟩
theorem NB.stop {s : Ast} {whos : List Int} {n : Nat} (h : NB s whos n) (x y z : Int) : NB (s.stop x y z) whos n := ⟨by rw [(stop_log' s x y z).1]; exact h.lg, by rw [(stop_log' s x y z).2]; exact h.c0, by rw [(stop_log' s x y z).2]; exact h.c1, h.wl⟩
theorem NB.acc {s : Ast} {whos : List Int} {n : Nat} (h : NB s whos n) (who : Int) (g : Bool) (kind cell want put : Int) : NB (accS s who g kind cell want put) whos (n + 1) := by
  unfold accS
  split
  · refine ⟨?_, ?_, ?_, by have := h.wl; omega⟩
    · unfold Ast.made
      show (if s.keep then s.log ++ [_] else s.log).length ≤ _
      have := h.lg
      split
      · simp; omega
      · omega
    · show 0 ≤ s.count + 1
      have := h.c0; omega
    · show s.count + 1 ≤ _
      have := h.c1; omega
  · unfold accZ
    split
    · exact h.up
    · split
      · exact (h.stop _ _ _).up
      · exact (h.stop _ _ _).up
/-- Only F's blocks have turned, F' has but them and new ones. -/
structure SP (w : World) (F : Nat → Prop) (w' : World) (F' : Nat → Prop) : Prop where
  inF : ∀ k, F' k → F k ∨ w.heap.size ≤ k
  chg : Chg F w w'
theorem SP.refl (w : World) (F : Nat → Prop) : SP w F w F := ⟨fun _ h => .inl h, Chg.refl _ _⟩
theorem SP.step {w w1 w2 : World} {F F1 S : Nat → Prop} (h : SP w F w1 F1) (k : Chg S w1 w2) (hS : ∀ i, S i → F1 i) : SP w F w2 (nxF F1 w1 w2) :=
  ⟨fun i hi => hi.elim (h.inF i) (fun e => .inr (by have := h.chg.size; omega)), k.os.trans h.chg.os, k.tape.trans h.chg.tape, k.output.trans h.chg.output, Nat.le_trans h.chg.size k.size, fun i hi hn => by
    rw [k.block i (Nat.lt_of_lt_of_le hi h.chg.size) (fun hs => (h.inF i (hS i hs)).elim hn (fun e => by omega)), h.chg.block i hi hn]⟩
/-- What a step leaves. -/
def StP (w w' : World) (F : Nat → Prop) (x n : Nat) : Prop :=
  ∃ F' b gc q rb rgc Y lv rlv pv wv hv s ps whos gs, Sd w' F' x b gc q rb rgc Y lv rlv pv wv hv s s ps whos gs gs ∧ SP w F w' F' ∧ NB s whos (n + 1)
def opV (k : Int) (sec : Bool) (port cell want put fw fk fc : Int) : Value := .agg #[.int .i64 k, .bool sec, .int .i64 port, .int .i64 cell, .int .u64 want, .int .u64 put, .int .i64 fw, .int .i64 fk, .int .i64 fc]
def opO (k : Int) (sec : Bool) (port cell want put fw fk fc : Int) : Obj := .cells #[.int .i64 k, .bool sec, .int .i64 port, .int .i64 cell, .int .u64 want, .int .u64 put, .int .i64 fw, .int .i64 fk, .int .i64 fc] 47
theorem accB_no {s : Ast} {g : Bool} {kind cell want : Int} (h : ¬ kind = 3) : accB s g kind cell want = false := by unfold accB refB; rw [if_neg h]; simp
theorem accV_no {s : Ast} {g : Bool} {kind cell : Int} (h : kind = 2 ∨ kind = 3) : accV s g kind cell = 0 := by unfold accV refV; rw [if_pos h]; simp
theorem Sd.accR {w : World} {F : Nat → Prop} {x b gc q rb rgc Y : Nat} {lv rlv pv wv hv : Value} {s r : Ast} {ps : List Nat} {whos : List Int} {gs has : List Bool} (h : Sd w F x b gc q rb rgc Y lv rlv pv wv hv s r ps whos gs has) {j p n : Nat} {who : Int} {g : Bool} (hj : ps[j]? = some p) (hwh : whos[j]? = some who) (hg : gs[j]? = some g) (hn : NB s whos n) (hb : (n + 1) * 64 ≤ 140737488355328) : AR w Y b gc p lv s who g :=
  ⟨h.ar, h.po j p who g hj hwh hg, (h.tp hj).ne h.tb (by decide), (h.tp hj).ne h.tgc (by decide), fun e => (h.tp hj).ne (h.tlv e) (by decide) rfl, hn.c0, by have := hn.c1; omega, by have := hn.lg; omega⟩
theorem accSet_F {w : World} {F : Nat → Prop} {x b gc q rb rgc Y : Nat} {lv rlv pv wv hv : Value} {s r : Ast} {ps : List Nat} {whos : List Int} {gs has : List Bool} (h : Sd w F x b gc q rb rgc Y lv rlv pv wv hv s r ps whos gs has) {j p : Nat} (hj : ps[j]? = some p) : ∀ i, accSet b gc p lv i → F i := fun i hi => by
  rcases hi with e | e | e | e
  · rw [e]; exact h.fb
  · rw [e]; exact h.fgc
  · rw [e]; exact h.fps p (List.mem_of_getElem? hj)
  · exact h.flv i e
theorem refSet_F {w : World} {F : Nat → Prop} {x b gc q rb rgc Y : Nat} {lv rlv pv wv hv : Value} {s r : Ast} {ps : List Nat} {whos : List Int} {gs has : List Bool} (h : Sd w F x b gc q rb rgc Y lv rlv pv wv hv s r ps whos gs has) : ∀ i, (refSet rb rgc rlv i ∨ hv.ownBlock = some i) → F i := fun i hi => by
  rcases hi with (e | e | e) | e
  · rw [e]; exact h.frb
  · rw [e]; exact h.frg
  · exact h.frl i e
  · exact h.fhv i e
/-- The program's access, then the document's: what is left. -/
theorem acc_left {X w3 : World} {F : Nat → Prop} {x b gc q rb rgc Y : Nat} {lv rlv pv wv hv : Value} {s : Ast} {ps : List Nat} {whos : List Int} {gs : List Bool} {j p : Nat} {who kind cell want put : Int} {g : Bool}
    (h : Sd X F x b gc q rb rgc Y lv rlv pv wv hv s s ps whos gs gs) (hj : ps[j]? = some p) (hwh : whos[j]? = some who) (ha : APost X w3 Y b gc p lv (accS s who g kind cell want put) who (accG s g)) :
    ∃ lv', Sd w3 (nxF F X w3) x b gc q rb rgc Y lv' rlv pv wv hv (accS s who g kind cell want put) s ps whos (gs.set j (accG s g)) gs ∧ Chg (accSet b gc p lv) X w3 := by
  obtain ⟨lv', h1, h2, h3, h4⟩ := ha
  exact ⟨lv', h.turnA h4 h1 hj hwh h3 (fun i hi => hi) h2, h4⟩
theorem do_left {w3 w4 : World} {F : Nat → Prop} {x b gc q rb rgc Y : Nat} {lv rlv pv wv hv : Value} {s r r' : Ast} {ps : List Nat} {whos : List Int} {gs has has' : List Bool}
    (h : Sd w3 F x b gc q rb rgc Y lv rlv pv wv hv s r ps whos gs has) (hr : RPst w3 w4 Y q rb rgc rlv wv hv r' whos has') :
    ∃ rlv', Sd w4 (nxF F w3 w4) x b gc q rb rgc Y lv rlv' pv wv hv s r' ps whos gs has' ∧ Chg (fun i => refSet rb rgc rlv i ∨ hv.ownBlock = some i) w3 w4 := by
  obtain ⟨lv', h1, h2, h3, h4⟩ := hr
  exact ⟨lv', h.turnR h4 h1 h3 (fun i hi => by rcases hi with (e | e | e) | e; exact .inl e; exact .inr (.inl e); exact .inr (.inr (.inl e)); exact .inr (.inr (.inr e))) h2, h4⟩
theorem below_drewN' {w : World} (q : Nat) : Below w.heap.size w (w.drewN q) := below_drewN (Below.refl _ _) q
set_option maxRecDepth 100000 in
set_option maxHeartbeats 4000000 in
theorem accesses_none {w : World} {F : Nat → Prop} {x b gc q rb rgc Y n : Nat} {lv rlv pv wv hv : Value} {s : Ast} {ps : List Nat} {whos : List Int} {gs : List Bool} (h : Sd w F x b gc q rb rgc Y lv rlv pv wv hv s s ps whos gs gs) (hn : NB s whos n) (h0 : ps.length = 0) (k : Int) (sec : Bool) (port cell want put fw fk fc : Int) :
    Calls Try.prog 55 #[.pointer (some ⟨x, 0, none⟩), opV k sec port cell want put fw fk fc] w fun e w' => e = .returned (.bool true) ∧ StP w w' F x n := by
  obtain ⟨ao, c, rfl⟩ := owns_shape h.row
  obtain ⟨W, hW⟩ : ∃ W, W = w.alloc (opO k sec port cell want put fw fk fc) := ⟨_, rfl⟩
  have hb : Below w.heap.size w W := by rw [hW]; exact (Below.refl _ _).alloc (Nat.le_refl _) _
  have H1 := hide (h.news hb)
  have HP := hide ((SP.refl w F).step (S := fun _ => False) (Chg.of_below hb) (fun _ e => e.elim))
  have c1 : W.cell? ⟨x, 1, none⟩ = some (.slice ao ps.length c) := cell_of H1.out.sb rfl
  rw [h0] at c1
  unfold opV
  unfold opO at hW
  clear h hb
  go_enter Try.func55, Try.ntmps55
  go_upto_region 1 with fail
  rw [← hW]
  clear hW
  go_wp2_with fail
  go_ret
  exact ⟨rfl, _, _, _, _, _, _, _, _, _, _, _, _, _, _, _, _, H1.out, HP.out, hn.up⟩
set_option maxRecDepth 100000 in
set_option maxHeartbeats 8000000 in
theorem accesses_1 {w : World} {F : Nat → Prop} {x b gc q rb rgc Y n : Nat} {lv rlv pv wv hv : Value} {s : Ast} {ps : List Nat} {whos : List Int} {gs : List Bool} (h : Sd w F x b gc q rb rgc Y lv rlv pv wv hv s s ps whos gs gs) (hn : NB s whos n) (hbig : (n + 1) * 64 ≤ 140737488355328) (h0 : 0 < ps.length) (sec : Bool) (port cell want put fw fk fc : Int) :
    Calls Try.prog 55 #[.pointer (some ⟨x, 0, none⟩), opV 1 sec port cell want put fw fk fc] w fun e w' => e = .returned (.bool true) ∧ StP w w' F x n := by
  have hpl : (ps.length : Int) ≤ 140737488355328 := by have := h.le; have := hn.wl; omega
  have hjr : 0 ≤ port % (ps.length : Int) ∧ port % (ps.length : Int) < ps.length := ⟨Int.emod_nonneg _ (by omega), Int.emod_lt_of_pos _ (by omega)⟩
  obtain ⟨j, hje⟩ : ∃ j : Nat, port % (ps.length : Int) = (j : Int) := ⟨(port % (ps.length : Int)).toNat, by omega⟩
  have hjl : j < ps.length := by omega
  obtain ⟨p, who, g, hj, hwh, hg, hpo⟩ := h.at_ hjl
  have HIX := hide (fun W => index_any port ps.length W (by omega) (by omega))
  rw [hje] at HIX
  obtain ⟨g0, cap, rfl, hgY, hgl, _, hnc, hpc, _, _⟩ := row_at h.row (k := j) (u := .pointer (some ⟨p, 0, none⟩)) (by simp [ptrs, hj])
  obtain ⟨W, hW⟩ : ∃ W, W = w.alloc (opO 1 sec port cell want put fw fk fc) := ⟨_, rfl⟩
  have hb : Below w.heap.size w W := by rw [hW]; exact (Below.refl _ _).alloc (Nat.le_refl _) _
  have hob : W.heap[w.heap.size]? = some (opO 1 sec port cell want put fw fk fc) := by rw [hW]; exact heap_new _ _
  have HOB := hide hob
  have H1 := hide (h.news hb)
  have HP1 := hide ((SP.refl w F).step (S := fun _ => False) (Chg.of_below hb) (fun _ e => e.elim))
  have HAF := hide (accSet_F h hj)
  have HRF := hide (refSet_F h)
  have HBG := hide hbig
  have HN := hide hn
  have HJ := hide hj
  have HWH := hide hwh
  have HG := hide hg
  have HACC := hide (fun X (hX : Below W.heap.size W X) => pLoad ((H1.out.news hX).accR hj hwh hg hn hbig) cell want put)
  have c1 : W.cell? ⟨x, 1, none⟩ = some (.slice (some ⟨g0, 0, none⟩) ps.length cap) := cell_of H1.out.sb rfl
  have hp2 : W.cell? ⟨g0, j, none⟩ = some (.pointer (some ⟨p, 0, none⟩)) := by
    have e := hb.block g0 hgl
    unfold World.cell? at hpc ⊢
    rw [e]; exact hpc
  have k0 := cell_of hob (i := 0) rfl
  have k2 := cell_of hob (i := 2) rfl
  have k3 := cell_of hob (i := 3) rfl
  have k4 := cell_of hob (i := 4) rfl
  have k5 := cell_of hob (i := 5) rfl
  obtain ⟨L, hL⟩ : ∃ L, L = ps.length := ⟨_, rfl⟩
  rw [← hL] at c1 HIX hnc h0 hpl hjl
  obtain ⟨ob, hobe⟩ : ∃ ob, ob = w.heap.size := ⟨_, rfl⟩
  have HBS : Hid (∀ i, F i → i ≠ ob) := fun i hi => by have := h.fl i hi; omega
  have hjL : (j : Int) < (L : Int) := by omega
  have hL0 : ¬ (L : Int) = 0 := by omega
  have hLb : ((L : Int) == 0) = false := by simp; omega
  rw [← hobe] at HOB k0 k2 k3 k4 k5
  unfold opV
  unfold opO at hW
  clear h hb hob hn hj hwh hg hpo hpc hjr hje hbig hgY hgl
  go_enter Try.func55, Try.ntmps55
  go_upto_region 1 with fail
  rw [← hW, ← hobe]
  clear hW hobe hL
  go_wp2_with fail
  go_quiet ((go_at_call 20; refine Calls.quiet_of_same (HIX.out _)))
  go_wp2_with fail
  refine (HACC.out _ (below_drewN' _)).mono ?_
  rintro e w3 ⟨rfl, ha⟩
  generalize hXe : W.drewN _ = X at ha
  have hbX : Below W.heap.size W X := by rw [← hXe]; exact below_drewN' _
  obtain ⟨lv', h3, hk3⟩ := acc_left (H1.out.news hbX) HJ.out HWH.out ha
  have HP3 := hide ((HP1.out.step (S := fun _ => False) (Chg.of_below hbX) (fun _ e => e.elim)).step hk3 (accSet_F (H1.out.news hbX) HJ.out))
  have hob3 : w3.heap[ob]? = some (opO 1 sec port cell want put fw fk fc) := hk3.heap ((hbX.block _ (lt_of_heap HOB.out)).trans HOB.out) (fun e => HBS.out ob (HAF.out ob e) rfl)
  have H3 := hide h3
  have HOB3 := hide hob3
  have HDO := hide (fun X (hX : Below w3.heap.size w3 X) => refDo_any q wv hv whos gs j 1 cell want put (h3.news hX).qo (h3.news hX).re HG.out HWH.out (by decide) (by decide) HN.out.c0 (by have := HN.out.c1; have := HBG.out; omega) (by have := HN.out.lg; have := HBG.out; omega))
  rw [accB_no (show ¬ (1 : Int) = 3 by decide)] at HDO
  have d2 : w3.cell? ⟨x, 2, none⟩ = some (.pointer (some ⟨q, 0, none⟩)) := cell_of h3.sb rfl
  clear k0 k2 k3 k4 k5 c1 hp2 ha h3 hk3 hob3 hbX hXe
  have k0 := cell_of HOB3.out (i := 0) rfl
  have k3 := cell_of HOB3.out (i := 3) rfl
  have k4 := cell_of HOB3.out (i := 4) rfl
  have k5 := cell_of HOB3.out (i := 5) rfl
  go_wp2_with fail
  refine wp_region_noPanic ?_
  go_region_held3 (fun z => z.cell? ⟨x, 2, none⟩ = some (.pointer (some ⟨q, 0, none⟩)) ∧ z.cell? ⟨ob, 0, none⟩ = some (.int .i64 1) ∧ z.cell? ⟨ob, 3, none⟩ = some (.int .i64 cell) ∧ z.cell? ⟨ob, 4, none⟩ = some (.int .u64 want) ∧ z.cell? ⟨ob, 5, none⟩ = some (.int .u64 put))
    (first | exact ⟨d2, k0, k3, k4, k5⟩ | exact ⟨cell_of H4.out.sb rfl, cell_of HOB4.out (i := 0) rfl, cell_of HOB4.out (i := 3) rfl, cell_of HOB4.out (i := 4) rfl, cell_of HOB4.out (i := 5) rfl⟩)
    ((go_at_call 62; refine (HDO.out w3.drew ((Below.refl _ _).drew)).mono ?_; rintro e w4 ⟨rfl, hr⟩; obtain ⟨rlv', h4, hk4⟩ := do_left (H3.out.news ((Below.refl _ _).drew)) hr; have HP4 := hide ((HP3.out.step (S := fun _ => False) (Chg.of_below ((Below.refl _ _).drew)) (fun _ e => e.elim)).step hk4 (refSet_F (H3.out.news ((Below.refl _ _).drew)))); have H4 := hide h4; have HOB4 := hide (hk4.heap (show w3.drew.heap[ob]? = _ from HOB3.out) (fun e => HBS.out ob (HRF.out ob e) rfl)); clear hr h4 hk4))
  refine NoPanic.normal ?_
  go_wp2_with fail
  go_ret
  exact ⟨rfl, _, _, _, _, _, _, _, _, _, _, _, _, _, _, _, _, H4.out, HP4.out, HN.out.acc who g 1 cell want put⟩
set_option maxRecDepth 100000 in
set_option maxHeartbeats 8000000 in
theorem accesses_2 {w : World} {F : Nat → Prop} {x b gc q rb rgc Y n : Nat} {lv rlv pv wv hv : Value} {s : Ast} {ps : List Nat} {whos : List Int} {gs : List Bool} (h : Sd w F x b gc q rb rgc Y lv rlv pv wv hv s s ps whos gs gs) (hn : NB s whos n) (hbig : (n + 1) * 64 ≤ 140737488355328) (h0 : 0 < ps.length) (sec : Bool) (port cell want put fw fk fc : Int) :
    Calls Try.prog 55 #[.pointer (some ⟨x, 0, none⟩), opV 2 sec port cell want put fw fk fc] w fun e w' => e = .returned (.bool true) ∧ StP w w' F x n := by
  have hpl : (ps.length : Int) ≤ 140737488355328 := by have := h.le; have := hn.wl; omega
  have hjr : 0 ≤ port % (ps.length : Int) ∧ port % (ps.length : Int) < ps.length := ⟨Int.emod_nonneg _ (by omega), Int.emod_lt_of_pos _ (by omega)⟩
  obtain ⟨j, hje⟩ : ∃ j : Nat, port % (ps.length : Int) = (j : Int) := ⟨(port % (ps.length : Int)).toNat, by omega⟩
  have hjl : j < ps.length := by omega
  obtain ⟨p, who, g, hj, hwh, hg, hpo⟩ := h.at_ hjl
  have HIX := hide (fun W => index_any port ps.length W (by omega) (by omega))
  rw [hje] at HIX
  obtain ⟨g0, cap, rfl, hgY, hgl, _, hnc, hpc, _, _⟩ := row_at h.row (k := j) (u := .pointer (some ⟨p, 0, none⟩)) (by simp [ptrs, hj])
  obtain ⟨W, hW⟩ : ∃ W, W = w.alloc (opO 2 sec port cell want put fw fk fc) := ⟨_, rfl⟩
  have hb : Below w.heap.size w W := by rw [hW]; exact (Below.refl _ _).alloc (Nat.le_refl _) _
  have hob : W.heap[w.heap.size]? = some (opO 2 sec port cell want put fw fk fc) := by rw [hW]; exact heap_new _ _
  have HOB := hide hob
  have H1 := hide (h.news hb)
  have HP1 := hide ((SP.refl w F).step (S := fun _ => False) (Chg.of_below hb) (fun _ e => e.elim))
  have HAF := hide (accSet_F h hj)
  have HRF := hide (refSet_F h)
  have HBG := hide hbig
  have HN := hide hn
  have HJ := hide hj
  have HWH := hide hwh
  have HG := hide hg
  have HACC := hide (fun X (hX : Below W.heap.size W X) => pStore ((H1.out.news hX).accR hj hwh hg hn hbig) cell want put)
  have c1 : W.cell? ⟨x, 1, none⟩ = some (.slice (some ⟨g0, 0, none⟩) ps.length cap) := cell_of H1.out.sb rfl
  have hp2 : W.cell? ⟨g0, j, none⟩ = some (.pointer (some ⟨p, 0, none⟩)) := by
    have e := hb.block g0 hgl
    unfold World.cell? at hpc ⊢
    rw [e]; exact hpc
  have k0 := cell_of hob (i := 0) rfl
  have k2 := cell_of hob (i := 2) rfl
  have k3 := cell_of hob (i := 3) rfl
  have k4 := cell_of hob (i := 4) rfl
  have k5 := cell_of hob (i := 5) rfl
  obtain ⟨L, hL⟩ : ∃ L, L = ps.length := ⟨_, rfl⟩
  rw [← hL] at c1 HIX hnc h0 hpl hjl
  obtain ⟨ob, hobe⟩ : ∃ ob, ob = w.heap.size := ⟨_, rfl⟩
  have HBS : Hid (∀ i, F i → i ≠ ob) := fun i hi => by have := h.fl i hi; omega
  have hjL : (j : Int) < (L : Int) := by omega
  have hL0 : ¬ (L : Int) = 0 := by omega
  have hLb : ((L : Int) == 0) = false := by simp; omega
  rw [← hobe] at HOB k0 k2 k3 k4 k5
  unfold opV
  unfold opO at hW
  clear h hb hob hn hj hwh hg hpo hpc hjr hje hbig hgY hgl
  go_enter Try.func55, Try.ntmps55
  go_upto_region 1 with fail
  rw [← hW, ← hobe]
  clear hW hobe hL
  go_wp2_with fail
  go_quiet ((go_at_call 20; refine Calls.quiet_of_same (HIX.out _)))
  go_wp2_with fail
  refine (HACC.out _ (below_drewN' _)).mono ?_
  rintro e w3 ⟨rfl, ha⟩
  generalize hXe : W.drewN _ = X at ha
  have hbX : Below W.heap.size W X := by rw [← hXe]; exact below_drewN' _
  obtain ⟨lv', h3, hk3⟩ := acc_left (H1.out.news hbX) HJ.out HWH.out ha
  have HP3 := hide ((HP1.out.step (S := fun _ => False) (Chg.of_below hbX) (fun _ e => e.elim)).step hk3 (accSet_F (H1.out.news hbX) HJ.out))
  have hob3 : w3.heap[ob]? = some (opO 2 sec port cell want put fw fk fc) := hk3.heap ((hbX.block _ (lt_of_heap HOB.out)).trans HOB.out) (fun e => HBS.out ob (HAF.out ob e) rfl)
  have H3 := hide h3
  have HOB3 := hide hob3
  have HDO := hide (fun X (hX : Below w3.heap.size w3 X) => refDo_any q wv hv whos gs j 2 cell want put (h3.news hX).qo (h3.news hX).re HG.out HWH.out (by decide) (by decide) HN.out.c0 (by have := HN.out.c1; have := HBG.out; omega) (by have := HN.out.lg; have := HBG.out; omega))
  rw [accB_no (show ¬ (2 : Int) = 3 by decide)] at HDO
  rw [accV_no (show (2 : Int) = 2 ∨ (2 : Int) = 3 by decide)] at HDO
  have d2 : w3.cell? ⟨x, 2, none⟩ = some (.pointer (some ⟨q, 0, none⟩)) := cell_of h3.sb rfl
  clear k0 k2 k3 k4 k5 c1 hp2 ha h3 hk3 hob3 hbX hXe
  have k0 := cell_of HOB3.out (i := 0) rfl
  have k3 := cell_of HOB3.out (i := 3) rfl
  have k4 := cell_of HOB3.out (i := 4) rfl
  have k5 := cell_of HOB3.out (i := 5) rfl
  go_wp2_with fail
  refine wp_region_noPanic ?_
  go_region_held3 (fun z => z.cell? ⟨x, 2, none⟩ = some (.pointer (some ⟨q, 0, none⟩)) ∧ z.cell? ⟨ob, 0, none⟩ = some (.int .i64 2) ∧ z.cell? ⟨ob, 3, none⟩ = some (.int .i64 cell) ∧ z.cell? ⟨ob, 4, none⟩ = some (.int .u64 want) ∧ z.cell? ⟨ob, 5, none⟩ = some (.int .u64 put))
    (first | exact ⟨d2, k0, k3, k4, k5⟩ | exact ⟨cell_of H4.out.sb rfl, cell_of HOB4.out (i := 0) rfl, cell_of HOB4.out (i := 3) rfl, cell_of HOB4.out (i := 4) rfl, cell_of HOB4.out (i := 5) rfl⟩)
    ((go_at_call 62; refine (HDO.out w3.drew ((Below.refl _ _).drew)).mono ?_; rintro e w4 ⟨rfl, hr⟩; obtain ⟨rlv', h4, hk4⟩ := do_left (H3.out.news ((Below.refl _ _).drew)) hr; have HP4 := hide ((HP3.out.step (S := fun _ => False) (Chg.of_below ((Below.refl _ _).drew)) (fun _ e => e.elim)).step hk4 (refSet_F (H3.out.news ((Below.refl _ _).drew)))); have H4 := hide h4; have HOB4 := hide (hk4.heap (show w3.drew.heap[ob]? = _ from HOB3.out) (fun e => HBS.out ob (HRF.out ob e) rfl)); clear hr h4 hk4))
  refine NoPanic.normal ?_
  go_wp2_with fail
  go_ret
  exact ⟨rfl, _, _, _, _, _, _, _, _, _, _, _, _, _, _, _, _, H4.out, HP4.out, HN.out.acc who g 2 cell want put⟩
set_option maxRecDepth 100000 in
set_option maxHeartbeats 8000000 in
theorem accesses_3 {w : World} {F : Nat → Prop} {x b gc q rb rgc Y n : Nat} {lv rlv pv wv hv : Value} {s : Ast} {ps : List Nat} {whos : List Int} {gs : List Bool} (h : Sd w F x b gc q rb rgc Y lv rlv pv wv hv s s ps whos gs gs) (hn : NB s whos n) (hbig : (n + 1) * 64 ≤ 140737488355328) (h0 : 0 < ps.length) (sec : Bool) (port cell want put fw fk fc : Int) :
    Calls Try.prog 55 #[.pointer (some ⟨x, 0, none⟩), opV 3 sec port cell want put fw fk fc] w fun e w' => e = .returned (.bool true) ∧ StP w w' F x n := by
  have hpl : (ps.length : Int) ≤ 140737488355328 := by have := h.le; have := hn.wl; omega
  have hjr : 0 ≤ port % (ps.length : Int) ∧ port % (ps.length : Int) < ps.length := ⟨Int.emod_nonneg _ (by omega), Int.emod_lt_of_pos _ (by omega)⟩
  obtain ⟨j, hje⟩ : ∃ j : Nat, port % (ps.length : Int) = (j : Int) := ⟨(port % (ps.length : Int)).toNat, by omega⟩
  have hjl : j < ps.length := by omega
  obtain ⟨p, who, g, hj, hwh, hg, hpo⟩ := h.at_ hjl
  have HIX := hide (fun W => index_any port ps.length W (by omega) (by omega))
  rw [hje] at HIX
  obtain ⟨g0, cap, rfl, hgY, hgl, _, hnc, hpc, _, _⟩ := row_at h.row (k := j) (u := .pointer (some ⟨p, 0, none⟩)) (by simp [ptrs, hj])
  obtain ⟨W, hW⟩ : ∃ W, W = w.alloc (opO 3 sec port cell want put fw fk fc) := ⟨_, rfl⟩
  have hb : Below w.heap.size w W := by rw [hW]; exact (Below.refl _ _).alloc (Nat.le_refl _) _
  have hob : W.heap[w.heap.size]? = some (opO 3 sec port cell want put fw fk fc) := by rw [hW]; exact heap_new _ _
  have HOB := hide hob
  have H1 := hide (h.news hb)
  have HP1 := hide ((SP.refl w F).step (S := fun _ => False) (Chg.of_below hb) (fun _ e => e.elim))
  have HAF := hide (accSet_F h hj)
  have HRF := hide (refSet_F h)
  have HBG := hide hbig
  have HN := hide hn
  have HJ := hide hj
  have HWH := hide hwh
  have HG := hide hg
  have HACC := hide (fun X (hX : Below W.heap.size W X) => pCas ((H1.out.news hX).accR hj hwh hg hn hbig) cell want put)
  have c1 : W.cell? ⟨x, 1, none⟩ = some (.slice (some ⟨g0, 0, none⟩) ps.length cap) := cell_of H1.out.sb rfl
  have hp2 : W.cell? ⟨g0, j, none⟩ = some (.pointer (some ⟨p, 0, none⟩)) := by
    have e := hb.block g0 hgl
    unfold World.cell? at hpc ⊢
    rw [e]; exact hpc
  have k0 := cell_of hob (i := 0) rfl
  have k2 := cell_of hob (i := 2) rfl
  have k3 := cell_of hob (i := 3) rfl
  have k4 := cell_of hob (i := 4) rfl
  have k5 := cell_of hob (i := 5) rfl
  obtain ⟨L, hL⟩ : ∃ L, L = ps.length := ⟨_, rfl⟩
  rw [← hL] at c1 HIX hnc h0 hpl hjl
  obtain ⟨ob, hobe⟩ : ∃ ob, ob = w.heap.size := ⟨_, rfl⟩
  have HBS : Hid (∀ i, F i → i ≠ ob) := fun i hi => by have := h.fl i hi; omega
  have hjL : (j : Int) < (L : Int) := by omega
  have hL0 : ¬ (L : Int) = 0 := by omega
  have hLb : ((L : Int) == 0) = false := by simp; omega
  rw [← hobe] at HOB k0 k2 k3 k4 k5
  unfold opV
  unfold opO at hW
  clear h hb hob hn hj hwh hg hpo hpc hjr hje hbig hgY hgl
  go_enter Try.func55, Try.ntmps55
  go_upto_region 1 with fail
  rw [← hW, ← hobe]
  clear hW hobe hL
  go_wp2_with fail
  go_quiet ((go_at_call 20; refine Calls.quiet_of_same (HIX.out _)))
  go_wp2_with fail
  refine (HACC.out _ (below_drewN' _)).mono ?_
  rintro e w3 ⟨rfl, ha⟩
  generalize hXe : W.drewN _ = X at ha
  have hbX : Below W.heap.size W X := by rw [← hXe]; exact below_drewN' _
  obtain ⟨lv', h3, hk3⟩ := acc_left (H1.out.news hbX) HJ.out HWH.out ha
  have HP3 := hide ((HP1.out.step (S := fun _ => False) (Chg.of_below hbX) (fun _ e => e.elim)).step hk3 (accSet_F (H1.out.news hbX) HJ.out))
  have hob3 : w3.heap[ob]? = some (opO 3 sec port cell want put fw fk fc) := hk3.heap ((hbX.block _ (lt_of_heap HOB.out)).trans HOB.out) (fun e => HBS.out ob (HAF.out ob e) rfl)
  have H3 := hide h3
  have HOB3 := hide hob3
  have HDO := hide (fun X (hX : Below w3.heap.size w3 X) => refDo_any q wv hv whos gs j 3 cell want put (h3.news hX).qo (h3.news hX).re HG.out HWH.out (by decide) (by decide) HN.out.c0 (by have := HN.out.c1; have := HBG.out; omega) (by have := HN.out.lg; have := HBG.out; omega))
  rw [accV_no (show (3 : Int) = 2 ∨ (3 : Int) = 3 by decide)] at HDO
  have d2 : w3.cell? ⟨x, 2, none⟩ = some (.pointer (some ⟨q, 0, none⟩)) := cell_of h3.sb rfl
  clear k0 k2 k3 k4 k5 c1 hp2 ha h3 hk3 hob3 hbX hXe
  have k0 := cell_of HOB3.out (i := 0) rfl
  have k3 := cell_of HOB3.out (i := 3) rfl
  have k4 := cell_of HOB3.out (i := 4) rfl
  have k5 := cell_of HOB3.out (i := 5) rfl
  go_wp2_with fail
  refine wp_region_noPanic ?_
  go_region_held3 (fun z => z.cell? ⟨x, 2, none⟩ = some (.pointer (some ⟨q, 0, none⟩)) ∧ z.cell? ⟨ob, 0, none⟩ = some (.int .i64 3) ∧ z.cell? ⟨ob, 3, none⟩ = some (.int .i64 cell) ∧ z.cell? ⟨ob, 4, none⟩ = some (.int .u64 want) ∧ z.cell? ⟨ob, 5, none⟩ = some (.int .u64 put))
    (first | exact ⟨d2, k0, k3, k4, k5⟩ | exact ⟨cell_of H4.out.sb rfl, cell_of HOB4.out (i := 0) rfl, cell_of HOB4.out (i := 3) rfl, cell_of HOB4.out (i := 4) rfl, cell_of HOB4.out (i := 5) rfl⟩)
    ((go_at_call 62; refine (HDO.out w3.drew ((Below.refl _ _).drew)).mono ?_; rintro e w4 ⟨rfl, hr⟩; obtain ⟨rlv', h4, hk4⟩ := do_left (H3.out.news ((Below.refl _ _).drew)) hr; have HP4 := hide ((HP3.out.step (S := fun _ => False) (Chg.of_below ((Below.refl _ _).drew)) (fun _ e => e.elim)).step hk4 (refSet_F (H3.out.news ((Below.refl _ _).drew)))); have H4 := hide h4; have HOB4 := hide (hk4.heap (show w3.drew.heap[ob]? = _ from HOB3.out) (fun e => HBS.out ob (HRF.out ob e) rfl)); clear hr h4 hk4))
  refine NoPanic.normal ?_
  go_wp2_with fail
  go_ret
  exact ⟨rfl, _, _, _, _, _, _, _, _, _, _, _, _, _, _, _, _, H4.out, HP4.out, HN.out.acc who g 3 cell want put⟩
set_option maxRecDepth 100000 in
set_option maxHeartbeats 8000000 in
theorem accesses_4 {w : World} {F : Nat → Prop} {x b gc q rb rgc Y n : Nat} {lv rlv pv wv hv : Value} {s : Ast} {ps : List Nat} {whos : List Int} {gs : List Bool} (h : Sd w F x b gc q rb rgc Y lv rlv pv wv hv s s ps whos gs gs) (hn : NB s whos n) (hbig : (n + 1) * 64 ≤ 140737488355328) (h0 : 0 < ps.length) (sec : Bool) (port cell want put fw fk fc : Int) :
    Calls Try.prog 55 #[.pointer (some ⟨x, 0, none⟩), opV 4 sec port cell want put fw fk fc] w fun e w' => e = .returned (.bool true) ∧ StP w w' F x n := by
  have hpl : (ps.length : Int) ≤ 140737488355328 := by have := h.le; have := hn.wl; omega
  have hjr : 0 ≤ port % (ps.length : Int) ∧ port % (ps.length : Int) < ps.length := ⟨Int.emod_nonneg _ (by omega), Int.emod_lt_of_pos _ (by omega)⟩
  obtain ⟨j, hje⟩ : ∃ j : Nat, port % (ps.length : Int) = (j : Int) := ⟨(port % (ps.length : Int)).toNat, by omega⟩
  have hjl : j < ps.length := by omega
  obtain ⟨p, who, g, hj, hwh, hg, hpo⟩ := h.at_ hjl
  have HIX := hide (fun W => index_any port ps.length W (by omega) (by omega))
  rw [hje] at HIX
  obtain ⟨g0, cap, rfl, hgY, hgl, _, hnc, hpc, _, _⟩ := row_at h.row (k := j) (u := .pointer (some ⟨p, 0, none⟩)) (by simp [ptrs, hj])
  obtain ⟨W, hW⟩ : ∃ W, W = w.alloc (opO 4 sec port cell want put fw fk fc) := ⟨_, rfl⟩
  have hb : Below w.heap.size w W := by rw [hW]; exact (Below.refl _ _).alloc (Nat.le_refl _) _
  have hob : W.heap[w.heap.size]? = some (opO 4 sec port cell want put fw fk fc) := by rw [hW]; exact heap_new _ _
  have HOB := hide hob
  have H1 := hide (h.news hb)
  have HP1 := hide ((SP.refl w F).step (S := fun _ => False) (Chg.of_below hb) (fun _ e => e.elim))
  have HAF := hide (accSet_F h hj)
  have HRF := hide (refSet_F h)
  have HBG := hide hbig
  have HN := hide hn
  have HJ := hide hj
  have HWH := hide hwh
  have HG := hide hg
  have HACC := hide (fun X (hX : Below W.heap.size W X) => pAdd ((H1.out.news hX).accR hj hwh hg hn hbig) cell want put)
  have c1 : W.cell? ⟨x, 1, none⟩ = some (.slice (some ⟨g0, 0, none⟩) ps.length cap) := cell_of H1.out.sb rfl
  have hp2 : W.cell? ⟨g0, j, none⟩ = some (.pointer (some ⟨p, 0, none⟩)) := by
    have e := hb.block g0 hgl
    unfold World.cell? at hpc ⊢
    rw [e]; exact hpc
  have k0 := cell_of hob (i := 0) rfl
  have k2 := cell_of hob (i := 2) rfl
  have k3 := cell_of hob (i := 3) rfl
  have k4 := cell_of hob (i := 4) rfl
  have k5 := cell_of hob (i := 5) rfl
  obtain ⟨L, hL⟩ : ∃ L, L = ps.length := ⟨_, rfl⟩
  rw [← hL] at c1 HIX hnc h0 hpl hjl
  obtain ⟨ob, hobe⟩ : ∃ ob, ob = w.heap.size := ⟨_, rfl⟩
  have HBS : Hid (∀ i, F i → i ≠ ob) := fun i hi => by have := h.fl i hi; omega
  have hjL : (j : Int) < (L : Int) := by omega
  have hL0 : ¬ (L : Int) = 0 := by omega
  have hLb : ((L : Int) == 0) = false := by simp; omega
  rw [← hobe] at HOB k0 k2 k3 k4 k5
  unfold opV
  unfold opO at hW
  clear h hb hob hn hj hwh hg hpo hpc hjr hje hbig hgY hgl
  go_enter Try.func55, Try.ntmps55
  go_upto_region 1 with fail
  rw [← hW, ← hobe]
  clear hW hobe hL
  go_wp2_with fail
  go_quiet ((go_at_call 20; refine Calls.quiet_of_same (HIX.out _)))
  go_wp2_with fail
  refine (HACC.out _ (below_drewN' _)).mono ?_
  rintro e w3 ⟨rfl, ha⟩
  generalize hXe : W.drewN _ = X at ha
  have hbX : Below W.heap.size W X := by rw [← hXe]; exact below_drewN' _
  obtain ⟨lv', h3, hk3⟩ := acc_left (H1.out.news hbX) HJ.out HWH.out ha
  have HP3 := hide ((HP1.out.step (S := fun _ => False) (Chg.of_below hbX) (fun _ e => e.elim)).step hk3 (accSet_F (H1.out.news hbX) HJ.out))
  have hob3 : w3.heap[ob]? = some (opO 4 sec port cell want put fw fk fc) := hk3.heap ((hbX.block _ (lt_of_heap HOB.out)).trans HOB.out) (fun e => HBS.out ob (HAF.out ob e) rfl)
  have H3 := hide h3
  have HOB3 := hide hob3
  have HDO := hide (fun X (hX : Below w3.heap.size w3 X) => refDo_any q wv hv whos gs j 4 cell want put (h3.news hX).qo (h3.news hX).re HG.out HWH.out (by decide) (by decide) HN.out.c0 (by have := HN.out.c1; have := HBG.out; omega) (by have := HN.out.lg; have := HBG.out; omega))
  rw [accB_no (show ¬ (4 : Int) = 3 by decide)] at HDO
  have d2 : w3.cell? ⟨x, 2, none⟩ = some (.pointer (some ⟨q, 0, none⟩)) := cell_of h3.sb rfl
  clear k0 k2 k3 k4 k5 c1 hp2 ha h3 hk3 hob3 hbX hXe
  have k0 := cell_of HOB3.out (i := 0) rfl
  have k3 := cell_of HOB3.out (i := 3) rfl
  have k4 := cell_of HOB3.out (i := 4) rfl
  have k5 := cell_of HOB3.out (i := 5) rfl
  go_wp2_with fail
  refine wp_region_noPanic ?_
  go_region_held3 (fun z => z.cell? ⟨x, 2, none⟩ = some (.pointer (some ⟨q, 0, none⟩)) ∧ z.cell? ⟨ob, 0, none⟩ = some (.int .i64 4) ∧ z.cell? ⟨ob, 3, none⟩ = some (.int .i64 cell) ∧ z.cell? ⟨ob, 4, none⟩ = some (.int .u64 want) ∧ z.cell? ⟨ob, 5, none⟩ = some (.int .u64 put))
    (first | exact ⟨d2, k0, k3, k4, k5⟩ | exact ⟨cell_of H4.out.sb rfl, cell_of HOB4.out (i := 0) rfl, cell_of HOB4.out (i := 3) rfl, cell_of HOB4.out (i := 4) rfl, cell_of HOB4.out (i := 5) rfl⟩)
    ((go_at_call 62; refine (HDO.out w3.drew ((Below.refl _ _).drew)).mono ?_; rintro e w4 ⟨rfl, hr⟩; obtain ⟨rlv', h4, hk4⟩ := do_left (H3.out.news ((Below.refl _ _).drew)) hr; have HP4 := hide ((HP3.out.step (S := fun _ => False) (Chg.of_below ((Below.refl _ _).drew)) (fun _ e => e.elim)).step hk4 (refSet_F (H3.out.news ((Below.refl _ _).drew)))); have H4 := hide h4; have HOB4 := hide (hk4.heap (show w3.drew.heap[ob]? = _ from HOB3.out) (fun e => HBS.out ob (HRF.out ob e) rfl)); clear hr h4 hk4))
  refine NoPanic.normal ?_
  go_wp2_with fail
  go_ret
  exact ⟨rfl, _, _, _, _, _, _, _, _, _, _, _, _, _, _, _, _, H4.out, HP4.out, HN.out.acc who g 4 cell want put⟩
set_option maxRecDepth 100000 in
set_option maxHeartbeats 8000000 in
theorem accesses_5 {w : World} {F : Nat → Prop} {x b gc q rb rgc Y n : Nat} {lv rlv pv wv hv : Value} {s : Ast} {ps : List Nat} {whos : List Int} {gs : List Bool} (h : Sd w F x b gc q rb rgc Y lv rlv pv wv hv s s ps whos gs gs) (hn : NB s whos n) (hbig : (n + 1) * 64 ≤ 140737488355328) (h0 : 0 < ps.length) (sec : Bool) (port cell want put fw fk fc : Int) :
    Calls Try.prog 55 #[.pointer (some ⟨x, 0, none⟩), opV 5 sec port cell want put fw fk fc] w fun e w' => e = .returned (.bool true) ∧ StP w w' F x n := by
  have hpl : (ps.length : Int) ≤ 140737488355328 := by have := h.le; have := hn.wl; omega
  have hjr : 0 ≤ port % (ps.length : Int) ∧ port % (ps.length : Int) < ps.length := ⟨Int.emod_nonneg _ (by omega), Int.emod_lt_of_pos _ (by omega)⟩
  obtain ⟨j, hje⟩ : ∃ j : Nat, port % (ps.length : Int) = (j : Int) := ⟨(port % (ps.length : Int)).toNat, by omega⟩
  have hjl : j < ps.length := by omega
  obtain ⟨p, who, g, hj, hwh, hg, hpo⟩ := h.at_ hjl
  have HIX := hide (fun W => index_any port ps.length W (by omega) (by omega))
  rw [hje] at HIX
  obtain ⟨g0, cap, rfl, hgY, hgl, _, hnc, hpc, _, _⟩ := row_at h.row (k := j) (u := .pointer (some ⟨p, 0, none⟩)) (by simp [ptrs, hj])
  obtain ⟨W, hW⟩ : ∃ W, W = w.alloc (opO 5 sec port cell want put fw fk fc) := ⟨_, rfl⟩
  have hb : Below w.heap.size w W := by rw [hW]; exact (Below.refl _ _).alloc (Nat.le_refl _) _
  have hob : W.heap[w.heap.size]? = some (opO 5 sec port cell want put fw fk fc) := by rw [hW]; exact heap_new _ _
  have HOB := hide hob
  have H1 := hide (h.news hb)
  have HP1 := hide ((SP.refl w F).step (S := fun _ => False) (Chg.of_below hb) (fun _ e => e.elim))
  have HAF := hide (accSet_F h hj)
  have HRF := hide (refSet_F h)
  have HBG := hide hbig
  have HN := hide hn
  have HJ := hide hj
  have HWH := hide hwh
  have HG := hide hg
  have HACC := hide (fun X (hX : Below W.heap.size W X) => pSwap ((H1.out.news hX).accR hj hwh hg hn hbig) cell want put)
  have c1 : W.cell? ⟨x, 1, none⟩ = some (.slice (some ⟨g0, 0, none⟩) ps.length cap) := cell_of H1.out.sb rfl
  have hp2 : W.cell? ⟨g0, j, none⟩ = some (.pointer (some ⟨p, 0, none⟩)) := by
    have e := hb.block g0 hgl
    unfold World.cell? at hpc ⊢
    rw [e]; exact hpc
  have k0 := cell_of hob (i := 0) rfl
  have k2 := cell_of hob (i := 2) rfl
  have k3 := cell_of hob (i := 3) rfl
  have k4 := cell_of hob (i := 4) rfl
  have k5 := cell_of hob (i := 5) rfl
  obtain ⟨L, hL⟩ : ∃ L, L = ps.length := ⟨_, rfl⟩
  rw [← hL] at c1 HIX hnc h0 hpl hjl
  obtain ⟨ob, hobe⟩ : ∃ ob, ob = w.heap.size := ⟨_, rfl⟩
  have HBS : Hid (∀ i, F i → i ≠ ob) := fun i hi => by have := h.fl i hi; omega
  have hjL : (j : Int) < (L : Int) := by omega
  have hL0 : ¬ (L : Int) = 0 := by omega
  have hLb : ((L : Int) == 0) = false := by simp; omega
  rw [← hobe] at HOB k0 k2 k3 k4 k5
  unfold opV
  unfold opO at hW
  clear h hb hob hn hj hwh hg hpo hpc hjr hje hbig hgY hgl
  go_enter Try.func55, Try.ntmps55
  go_upto_region 1 with fail
  rw [← hW, ← hobe]
  clear hW hobe hL
  go_wp2_with fail
  go_quiet ((go_at_call 20; refine Calls.quiet_of_same (HIX.out _)))
  go_wp2_with fail
  refine (HACC.out _ (below_drewN' _)).mono ?_
  rintro e w3 ⟨rfl, ha⟩
  generalize hXe : W.drewN _ = X at ha
  have hbX : Below W.heap.size W X := by rw [← hXe]; exact below_drewN' _
  obtain ⟨lv', h3, hk3⟩ := acc_left (H1.out.news hbX) HJ.out HWH.out ha
  have HP3 := hide ((HP1.out.step (S := fun _ => False) (Chg.of_below hbX) (fun _ e => e.elim)).step hk3 (accSet_F (H1.out.news hbX) HJ.out))
  have hob3 : w3.heap[ob]? = some (opO 5 sec port cell want put fw fk fc) := hk3.heap ((hbX.block _ (lt_of_heap HOB.out)).trans HOB.out) (fun e => HBS.out ob (HAF.out ob e) rfl)
  have H3 := hide h3
  have HOB3 := hide hob3
  have HDO := hide (fun X (hX : Below w3.heap.size w3 X) => refDo_any q wv hv whos gs j 5 cell want put (h3.news hX).qo (h3.news hX).re HG.out HWH.out (by decide) (by decide) HN.out.c0 (by have := HN.out.c1; have := HBG.out; omega) (by have := HN.out.lg; have := HBG.out; omega))
  rw [accB_no (show ¬ (5 : Int) = 3 by decide)] at HDO
  have d2 : w3.cell? ⟨x, 2, none⟩ = some (.pointer (some ⟨q, 0, none⟩)) := cell_of h3.sb rfl
  clear k0 k2 k3 k4 k5 c1 hp2 ha h3 hk3 hob3 hbX hXe
  have k0 := cell_of HOB3.out (i := 0) rfl
  have k3 := cell_of HOB3.out (i := 3) rfl
  have k4 := cell_of HOB3.out (i := 4) rfl
  have k5 := cell_of HOB3.out (i := 5) rfl
  go_wp2_with fail
  refine wp_region_noPanic ?_
  go_region_held3 (fun z => z.cell? ⟨x, 2, none⟩ = some (.pointer (some ⟨q, 0, none⟩)) ∧ z.cell? ⟨ob, 0, none⟩ = some (.int .i64 5) ∧ z.cell? ⟨ob, 3, none⟩ = some (.int .i64 cell) ∧ z.cell? ⟨ob, 4, none⟩ = some (.int .u64 want) ∧ z.cell? ⟨ob, 5, none⟩ = some (.int .u64 put))
    (first | exact ⟨d2, k0, k3, k4, k5⟩ | exact ⟨cell_of H4.out.sb rfl, cell_of HOB4.out (i := 0) rfl, cell_of HOB4.out (i := 3) rfl, cell_of HOB4.out (i := 4) rfl, cell_of HOB4.out (i := 5) rfl⟩)
    ((go_at_call 62; refine (HDO.out w3.drew ((Below.refl _ _).drew)).mono ?_; rintro e w4 ⟨rfl, hr⟩; obtain ⟨rlv', h4, hk4⟩ := do_left (H3.out.news ((Below.refl _ _).drew)) hr; have HP4 := hide ((HP3.out.step (S := fun _ => False) (Chg.of_below ((Below.refl _ _).drew)) (fun _ e => e.elim)).step hk4 (refSet_F (H3.out.news ((Below.refl _ _).drew)))); have H4 := hide h4; have HOB4 := hide (hk4.heap (show w3.drew.heap[ob]? = _ from HOB3.out) (fun e => HBS.out ob (HRF.out ob e) rfl)); clear hr h4 hk4))
  refine NoPanic.normal ?_
  go_wp2_with fail
  go_ret
  exact ⟨rfl, _, _, _, _, _, _, _, _, _, _, _, _, _, _, _, _, H4.out, HP4.out, HN.out.acc who g 5 cell want put⟩
end Go.Proofs.Ytfgchkkljlbmcaa
