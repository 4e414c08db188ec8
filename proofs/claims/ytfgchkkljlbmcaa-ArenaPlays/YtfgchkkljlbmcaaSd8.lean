/- Side.looks: Fault, Count, Log, Image; Side.all. -/
import Derived.Test.YtfgchkkljlbmcaaSd7
namespace Go.Proofs.Ytfgchkkljlbmcaa
open Go.RowKit Go.Lib Go.MuLone
set_option linter.unusedVariables false
set_option linter.unusedSimpArgs false
theorem words_of {w : World} {Z n : Nat} {xs : List Int} (h : w.heap[Z]? = some (wordsObj xs)) (hn : xs.length = n) (hm : n ≤ 9223372036854775807) : WordsAt w (.slice (some ⟨Z, 0, none⟩) n n) xs := by
  subst hn
  refine .inr ⟨Z, 0, _, rfl, lt_of_heap h, Nat.le_refl _, hm, fun i hi => ?_⟩
  rw [Nat.zero_add]
  exact words_cell h i hi
theorem Sd.cells {w : World} {F : Nat → Prop} {x b gc q rb rgc Y : Nat} {lv rlv pv wv hv : Value} {s r : Ast} {ps : List Nat} {whos : List Int} {gs has : List Bool} (h : Sd w F x b gc q rb rgc Y lv rlv pv wv hv s r ps whos gs has) :
    w.cell? ⟨x, 0, none⟩ = some (.pointer (some ⟨b, 0, none⟩)) ∧ w.cell? ⟨x, 2, none⟩ = some (.pointer (some ⟨q, 0, none⟩)) ∧ w.cell? ⟨q, 0, none⟩ = some (.pointer (some ⟨rb, 0, none⟩)) ∧ w.cell? ⟨rb, 0, none⟩ = some (.slice (some ⟨rgc, 0, none⟩) r.cells.length r.cells.length) ∧ w.cell? ⟨rb, 1, none⟩ = some rlv ∧ w.cell? ⟨rb, 3, none⟩ = some (.bool r.stopped) ∧ w.cell? ⟨rb, 4, none⟩ = some (.int .i64 r.fw) ∧ w.cell? ⟨rb, 5, none⟩ = some (.int .i64 r.fk) ∧ w.cell? ⟨rb, 6, none⟩ = some (.int .i64 r.fc) ∧ w.cell? ⟨rb, 7, none⟩ = some (.int .i64 r.count) :=
  ⟨cell_of h.sb rfl, cell_of h.sb rfl, cell_of h.qo.hq rfl, cell_of h.re.hb rfl, cell_of h.re.hb rfl, cell_of h.re.hb rfl, cell_of h.re.hb rfl, cell_of h.re.hb rfl, cell_of h.re.hb rfl, cell_of h.re.hb rfl⟩
set_option maxRecDepth 100000 in
set_option maxHeartbeats 8000000 in
theorem looks_fault {w : World} {F : Nat → Prop} {x b gc q rb rgc Y n : Nat} {lv rlv pv wv hv : Value} {s : Ast} {ps : List Nat} {whos : List Int} {gs : List Bool} (h : Sd w F x b gc q rb rgc Y lv rlv pv wv hv s s ps whos gs gs) (hn : NB s whos n) (hbig : (n + 1) * 64 ≤ 140737488355328) (sec : Bool) (port cell want put fw fk fc : Int) :
    Calls Try.prog 57 #[.pointer (some ⟨x, 0, none⟩), opV 12 sec port cell want put fw fk fc] w fun e w' => e = .returned (.bool true) ∧ StP w w' F x n := by
  obtain ⟨W, hW⟩ : ∃ W, W = w.alloc (opO 12 sec port cell want put fw fk fc) := ⟨_, rfl⟩
  have hb : Below w.heap.size w W := by rw [hW]; exact (Below.refl _ _).alloc (Nat.le_refl _) _
  have hob : W.heap[w.heap.size]? = some (opO 12 sec port cell want put fw fk fc) := by rw [hW]; exact heap_new _ _
  have HOB := hide hob
  have H1 := hide (h.news hb)
  have HP1 := hide ((SP.refl w F).step (S := fun _ => False) (Chg.of_below hb) (fun _ e => e.elim))
  have HN := hide hn
  have HBG := hide hbig
  have HFL : Hid (∀ i, F i → i < w.heap.size) := h.fl
  have k0 := cell_of hob (i := 0) rfl
  have k3 := cell_of hob (i := 3) rfl
  have k5 := cell_of hob (i := 5) rfl
  have k6 := cell_of hob (i := 6) rfl
  have k7 := cell_of hob (i := 7) rfl
  have k8 := cell_of hob (i := 8) rfl
  have HFB := hide h.fb
  have HFG := hide h.fgc
  have HFRB := hide h.frb
  have HFRG := hide h.frg
  have c0 : W.cell? ⟨x, 0, none⟩ = some (.pointer (some ⟨b, 0, none⟩)) := cell_of H1.out.sb rfl
  have HPK := hide (fault_any Y b gc lv s _ H1.out.ar)
  unfold faultVal at HPK
  clear h hb hob hn hbig
  obtain ⟨ob, hobe⟩ : ∃ ob, ob = w.heap.size := ⟨_, rfl⟩
  have HOW := hide hobe
  rw [← hobe] at HOB k0 k3 k5 k6 k7 k8
  have HOF : Hid (¬ F ob) := fun e => by have := HFL.out ob e; have := HOW.out; omega
  unfold opV
  unfold opO at hW
  go_enter Try.func57, Try.ntmps57
  go_upto_region 1 with fail
  rw [← hW, ← hobe]
  clear hW hobe
  go_wp2_with fail
  refine HPK.out.mono ?_
  rintro e w2 ⟨rfl, ha2, hk2⟩
  have H2 := hide (H1.out.lookA hk2 ha2 (fun i hi => .inl hi))
  have HP2 := hide (HP1.out.step hk2 (fun i hi => by rw [hi]; exact H1.out.fb))
  clear ha2 hk2 c0 k0 k3 k5 k6 k7 k8
  go_upto_region 14 with fail
  obtain ⟨U, hU⟩ : ∃ U, U = w2.alloc (.cells #[.int .i64 s.fw, .int .i64 s.fk, .int .i64 s.fc] 45) := ⟨_, rfl⟩
  have hbU : Below w2.heap.size w2 U := by rw [hU]; exact (Below.refl _ _).alloc (Nat.le_refl _) _
  have hUA : U.heap[w2.heap.size]? = some (.cells #[.int .i64 s.fw, .int .i64 s.fk, .int .i64 s.fc] 45 (0, 0)) := by rw [hU]; exact heap_new _ _
  rw [← hU]
  have H3 := hide (H2.out.news hbU)
  have HP3 := hide (HP2.out.step (S := fun _ => False) (Chg.of_below hbU) (fun _ e => e.elim))
  have u0 := cell_of hUA (i := 0) rfl
  have u1 := cell_of hUA (i := 1) rfl
  have u2 := cell_of hUA (i := 2) rfl
  obtain ⟨_, c2, d0, _, _, r3, r4, r5, r6, _⟩ := H3.out.cells
  have hef := fun W => eql_fault s.fw s.fk s.fc W
  generalize s.stopped = st at r3 ⊢
  generalize s.fw = f1 at u0 r4 hef ⊢
  generalize s.fk = f2 at u1 r5 hef ⊢
  generalize s.fc = f3 at u2 r6 hef ⊢
  clear hU hbU hUA
  cases st
  all_goals
    go_quiet (fail)
    go_wp2_with fail
    go_ret
    exact ⟨rfl, _, _, _, _, _, _, _, _, _, _, _, _, _, _, _, _, H3.out.news (below_drewN' _), HP3.out.step (S := fun _ => False) (Chg.of_below (below_drewN' _)) (fun _ e => e.elim), HN.out.up⟩
set_option maxRecDepth 100000 in
set_option maxHeartbeats 8000000 in
theorem looks_count {w : World} {F : Nat → Prop} {x b gc q rb rgc Y n : Nat} {lv rlv pv wv hv : Value} {s : Ast} {ps : List Nat} {whos : List Int} {gs : List Bool} (h : Sd w F x b gc q rb rgc Y lv rlv pv wv hv s s ps whos gs gs) (hn : NB s whos n) (hbig : (n + 1) * 64 ≤ 140737488355328) (sec : Bool) (port cell want put fw fk fc : Int) :
    Calls Try.prog 57 #[.pointer (some ⟨x, 0, none⟩), opV 13 sec port cell want put fw fk fc] w fun e w' => e = .returned (.bool true) ∧ StP w w' F x n := by
  obtain ⟨W, hW⟩ : ∃ W, W = w.alloc (opO 13 sec port cell want put fw fk fc) := ⟨_, rfl⟩
  have hb : Below w.heap.size w W := by rw [hW]; exact (Below.refl _ _).alloc (Nat.le_refl _) _
  have hob : W.heap[w.heap.size]? = some (opO 13 sec port cell want put fw fk fc) := by rw [hW]; exact heap_new _ _
  have HOB := hide hob
  have H1 := hide (h.news hb)
  have HP1 := hide ((SP.refl w F).step (S := fun _ => False) (Chg.of_below hb) (fun _ e => e.elim))
  have HN := hide hn
  have HBG := hide hbig
  have HFL : Hid (∀ i, F i → i < w.heap.size) := h.fl
  have k0 := cell_of hob (i := 0) rfl
  have k3 := cell_of hob (i := 3) rfl
  have k5 := cell_of hob (i := 5) rfl
  have k6 := cell_of hob (i := 6) rfl
  have k7 := cell_of hob (i := 7) rfl
  have k8 := cell_of hob (i := 8) rfl
  have HFB := hide h.fb
  have HFG := hide h.fgc
  have HFRB := hide h.frb
  have HFRG := hide h.frg
  obtain ⟨c0, c2, d0, _, _, _, _, _, _, r7⟩ := H1.out.cells
  have HPK := hide (count_any Y b gc lv s _ (H1.out.news ((Below.refl _ _).drew)).ar)
  clear h hb hob hn hbig
  obtain ⟨ob, hobe⟩ : ∃ ob, ob = w.heap.size := ⟨_, rfl⟩
  have HOW := hide hobe
  rw [← hobe] at HOB k0 k3 k5 k6 k7 k8
  have HOF : Hid (¬ F ob) := fun e => by have := HFL.out ob e; have := HOW.out; omega
  unfold opV
  unfold opO at hW
  go_enter Try.func57, Try.ntmps57
  go_upto_region 1 with fail
  rw [← hW, ← hobe]
  clear hW hobe
  generalize hct : s.count = ct at r7 HPK
  go_wp2_with fail
  refine wp_region_noPanic ?_
  go_region_held3 (fun z => z.cell? ⟨x, 0, none⟩ = some (.pointer (some ⟨b, 0, none⟩)) ∧ z.cell? ⟨x, 2, none⟩ = some (.pointer (some ⟨q, 0, none⟩)) ∧ z.cell? ⟨q, 0, none⟩ = some (.pointer (some ⟨rb, 0, none⟩)) ∧ z.cell? ⟨rb, 7, none⟩ = some (.int .i64 ct))
    (first | exact ⟨c0, c2, d0, r7⟩ | exact HS2.out)
    ((go_at_call 27; refine HPK.out.mono ?_; rintro e w2 ⟨rfl, ha2, hk2, _⟩; have H2 := hide ((H1.out.news ((Below.refl _ _).drew)).lookA hk2 ha2 (fun i hi => .inl hi)); have HP2 := hide ((HP1.out.step (S := fun _ => False) (Chg.of_below ((Below.refl _ _).drew)) (fun _ e => e.elim)).step hk2 (fun i hi => by rw [hi]; exact (H1.out.news ((Below.refl _ _).drew)).fb)); have HS2 : Hid (w2.cell? ⟨x, 0, none⟩ = some (.pointer (some ⟨b, 0, none⟩)) ∧ w2.cell? ⟨x, 2, none⟩ = some (.pointer (some ⟨q, 0, none⟩)) ∧ w2.cell? ⟨q, 0, none⟩ = some (.pointer (some ⟨rb, 0, none⟩)) ∧ w2.cell? ⟨rb, 7, none⟩ = some (.int .i64 ct)) := ⟨H2.out.cells.1, H2.out.cells.2.1, H2.out.cells.2.2.1, by rw [← hct]; exact H2.out.cells.2.2.2.2.2.2.2.2.2⟩; clear ha2 hk2))
  refine NoPanic.normal ?_
  go_wp2_with fail
  go_ret
  exact ⟨by simp, _, _, _, _, _, _, _, _, _, _, _, _, _, _, _, _, H2.out, HP2.out, HN.out.up⟩
set_option maxRecDepth 100000 in
set_option maxHeartbeats 8000000 in
theorem looks_log {w : World} {F : Nat → Prop} {x b gc q rb rgc Y n : Nat} {lv rlv pv wv hv : Value} {s : Ast} {ps : List Nat} {whos : List Int} {gs : List Bool} (h : Sd w F x b gc q rb rgc Y lv rlv pv wv hv s s ps whos gs gs) (hn : NB s whos n) (hbig : (n + 1) * 64 ≤ 140737488355328) (sec : Bool) (port cell want put fw fk fc : Int) :
    Calls Try.prog 57 #[.pointer (some ⟨x, 0, none⟩), opV 14 sec port cell want put fw fk fc] w fun e w' => e = .returned (.bool true) ∧ StP w w' F x n := by
  obtain ⟨W, hW⟩ : ∃ W, W = w.alloc (opO 14 sec port cell want put fw fk fc) := ⟨_, rfl⟩
  have hb : Below w.heap.size w W := by rw [hW]; exact (Below.refl _ _).alloc (Nat.le_refl _) _
  have hob : W.heap[w.heap.size]? = some (opO 14 sec port cell want put fw fk fc) := by rw [hW]; exact heap_new _ _
  have HOB := hide hob
  have H1 := hide (h.news hb)
  have HP1 := hide ((SP.refl w F).step (S := fun _ => False) (Chg.of_below hb) (fun _ e => e.elim))
  have HN := hide hn
  have HBG := hide hbig
  have HFL : Hid (∀ i, F i → i < w.heap.size) := h.fl
  have k0 := cell_of hob (i := 0) rfl
  have k3 := cell_of hob (i := 3) rfl
  have k5 := cell_of hob (i := 5) rfl
  have k6 := cell_of hob (i := 6) rfl
  have k7 := cell_of hob (i := 7) rfl
  have k8 := cell_of hob (i := 8) rfl
  have HFB := hide h.fb
  have HFG := hide h.fgc
  have HFRB := hide h.frb
  have HFRG := hide h.frg
  obtain ⟨c0, c2, d0, _, r1, _, _, _, _, _⟩ := H1.out.cells
  have HPK := hide (log_any Y b gc lv s _ (H1.out.news ((Below.refl _ _).drew)).ar (by have := hn.lg; omega))
  obtain ⟨rao, rc, hrl⟩ := owns_shape H1.out.re.hl
  have HRL := hide hrl
  rw [hrl] at r1
  clear hrl
  clear h hb hob hn hbig
  obtain ⟨ob, hobe⟩ : ∃ ob, ob = w.heap.size := ⟨_, rfl⟩
  have HOW := hide hobe
  rw [← hobe] at HOB k0 k3 k5 k6 k7 k8
  have HOF : Hid (¬ F ob) := fun e => by have := HFL.out ob e; have := HOW.out; omega
  unfold opV
  unfold opO at hW
  go_enter Try.func57, Try.ntmps57
  go_upto_region 1 with fail
  rw [← hW, ← hobe]
  clear hW hobe
  go_wp2_with fail
  refine wp_region_noPanic ?_
  go_region_held3 (fun z => z.cell? ⟨x, 0, none⟩ = some (.pointer (some ⟨b, 0, none⟩)) ∧ z.cell? ⟨x, 2, none⟩ = some (.pointer (some ⟨q, 0, none⟩)) ∧ z.cell? ⟨q, 0, none⟩ = some (.pointer (some ⟨rb, 0, none⟩)) ∧ z.cell? ⟨rb, 1, none⟩ = some (.slice rao s.log.length rc))
    (first | exact ⟨c0, c2, d0, r1⟩ | exact HS2.out)
    (first
      | (go_at_call 24; refine HPK.out.mono ?_; rintro e w2 ⟨v', rfl, ho2, ha2, hk2⟩; obtain ⟨ao, c, rfl⟩ := owns_shape ho2; have HO2 := hide (AccsAt.of_owns ho2); have H2 := hide ((H1.out.news ((Below.refl _ _).drew)).lookA hk2 ha2 (fun i hi => .inl hi)); have HP2 := hide ((HP1.out.step (S := fun _ => False) (Chg.of_below ((Below.refl _ _).drew)) (fun _ e => e.elim)).step hk2 (fun i hi => by rw [hi]; exact (H1.out.news ((Below.refl _ _).drew)).fb)); have HS2 : Hid (w2.cell? ⟨x, 0, none⟩ = some (.pointer (some ⟨b, 0, none⟩)) ∧ w2.cell? ⟨x, 2, none⟩ = some (.pointer (some ⟨q, 0, none⟩)) ∧ w2.cell? ⟨q, 0, none⟩ = some (.pointer (some ⟨rb, 0, none⟩)) ∧ w2.cell? ⟨rb, 1, none⟩ = some (.slice rao s.log.length rc)) := ⟨H2.out.cells.1, H2.out.cells.2.1, H2.out.cells.2.2.1, by rw [← HRL.out]; exact H2.out.cells.2.2.2.2.1⟩; clear ha2 hk2 ho2)
      | (go_at_call 16; refine (sameLog_any _ _ s.log _ HO2.out (by rw [← HRL.out]; exact AccsAt.of_owns H2.out.re.hl)).mono ?_; rintro e w3 ⟨rfl, m3, hw3⟩; subst w3))
  refine NoPanic.normal ?_
  go_wp2_with fail
  go_ret
  exact ⟨rfl, _, _, _, _, _, _, _, _, _, _, _, _, _, _, _, _, H2.out.news (below_drewN' _), HP2.out.step (S := fun _ => False) (Chg.of_below (below_drewN' _)) (fun _ e => e.elim), HN.out.up⟩
set_option maxRecDepth 100000 in
set_option maxHeartbeats 8000000 in
theorem looks_image {w : World} {F : Nat → Prop} {x b gc q rb rgc Y n : Nat} {lv rlv pv wv hv : Value} {s : Ast} {ps : List Nat} {whos : List Int} {gs : List Bool} (h : Sd w F x b gc q rb rgc Y lv rlv pv wv hv s s ps whos gs gs) (hn : NB s whos n) (hbig : (n + 1) * 64 ≤ 140737488355328) (sec : Bool) (port cell want put fw fk fc : Int) :
    Calls Try.prog 57 #[.pointer (some ⟨x, 0, none⟩), opV 15 sec port cell want put fw fk fc] w fun e w' => e = .returned (.bool true) ∧ StP w w' F x n := by
  obtain ⟨W, hW⟩ : ∃ W, W = w.alloc (opO 15 sec port cell want put fw fk fc) := ⟨_, rfl⟩
  have hb : Below w.heap.size w W := by rw [hW]; exact (Below.refl _ _).alloc (Nat.le_refl _) _
  have hob : W.heap[w.heap.size]? = some (opO 15 sec port cell want put fw fk fc) := by rw [hW]; exact heap_new _ _
  have HOB := hide hob
  have H1 := hide (h.news hb)
  have HP1 := hide ((SP.refl w F).step (S := fun _ => False) (Chg.of_below hb) (fun _ e => e.elim))
  have HN := hide hn
  have HBG := hide hbig
  have HFL : Hid (∀ i, F i → i < w.heap.size) := h.fl
  have k0 := cell_of hob (i := 0) rfl
  have k3 := cell_of hob (i := 3) rfl
  have k5 := cell_of hob (i := 5) rfl
  have k6 := cell_of hob (i := 6) rfl
  have k7 := cell_of hob (i := 7) rfl
  have k8 := cell_of hob (i := 8) rfl
  have HFB := hide h.fb
  have HFG := hide h.fgc
  have HFRB := hide h.frb
  have HFRG := hide h.frg
  obtain ⟨c0, c2, d0, r0, _, _, _, _, _, _⟩ := H1.out.cells
  have HPK := hide (image_any Y b gc lv s _ (H1.out.news ((Below.refl _ _).drew)).ar)
  have HCL := hide h.ar.len
  clear h hb hob hn hbig
  obtain ⟨ob, hobe⟩ : ∃ ob, ob = w.heap.size := ⟨_, rfl⟩
  have HOW := hide hobe
  rw [← hobe] at HOB k0 k3 k5 k6 k7 k8
  have HOF : Hid (¬ F ob) := fun e => by have := HFL.out ob e; have := HOW.out; omega
  unfold opV
  unfold opO at hW
  go_enter Try.func57, Try.ntmps57
  go_upto_region 1 with fail
  rw [← hW, ← hobe]
  clear hW hobe
  go_wp2_with fail
  refine wp_region_noPanic ?_
  go_region_held3 (fun z => z.cell? ⟨x, 0, none⟩ = some (.pointer (some ⟨b, 0, none⟩)) ∧ z.cell? ⟨x, 2, none⟩ = some (.pointer (some ⟨q, 0, none⟩)) ∧ z.cell? ⟨q, 0, none⟩ = some (.pointer (some ⟨rb, 0, none⟩)) ∧ z.cell? ⟨rb, 0, none⟩ = some (.slice (some ⟨rgc, 0, none⟩) s.cells.length s.cells.length))
    (first | exact ⟨c0, c2, d0, r0⟩ | exact HS2.out)
    (first
      | (go_at_call 26; refine HPK.out.mono ?_; rintro e w2 ⟨v', rfl, ho2, ha2, hk2⟩; obtain ⟨ao, c, rfl⟩ := owns_shape ho2; have HO2 := hide (WordsAt.of_owns ho2); have H2 := hide ((H1.out.news ((Below.refl _ _).drew)).lookA hk2 ha2 (fun i hi => .inl hi)); have HP2 := hide ((HP1.out.step (S := fun _ => False) (Chg.of_below ((Below.refl _ _).drew)) (fun _ e => e.elim)).step hk2 (fun i hi => by rw [hi]; exact (H1.out.news ((Below.refl _ _).drew)).fb)); have HS2 : Hid (w2.cell? ⟨x, 0, none⟩ = some (.pointer (some ⟨b, 0, none⟩)) ∧ w2.cell? ⟨x, 2, none⟩ = some (.pointer (some ⟨q, 0, none⟩)) ∧ w2.cell? ⟨q, 0, none⟩ = some (.pointer (some ⟨rb, 0, none⟩)) ∧ w2.cell? ⟨rb, 0, none⟩ = some (.slice (some ⟨rgc, 0, none⟩) s.cells.length s.cells.length)) := ⟨H2.out.cells.1, H2.out.cells.2.1, H2.out.cells.2.2.1, H2.out.cells.2.2.2.1⟩; clear ha2 hk2 ho2)
      | (go_at_call 15; refine (sameWords_any _ _ s.cells _ HO2.out (words_of H2.out.re.hc rfl (by have := HCL.out; omega))).mono ?_; rintro e w3 ⟨rfl, m3, hw3⟩; subst w3))
  refine NoPanic.normal ?_
  go_wp2_with fail
  go_ret
  exact ⟨rfl, _, _, _, _, _, _, _, _, _, _, _, _, _, _, _, _, H2.out.news (below_drewN' _), HP2.out.step (S := fun _ => False) (Chg.of_below (below_drewN' _)) (fun _ e => e.elim), HN.out.up⟩
end Go.Proofs.Ytfgchkkljlbmcaa
