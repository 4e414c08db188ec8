/- Side.all. -/
import Derived.Test.YtfgchkkljlbmcaaSd8
namespace Go.Proofs.Ytfgchkkljlbmcaa
open Go.RowKit Go.Lib Go.MuLone
set_option linter.unusedVariables false
set_option linter.unusedSimpArgs false
theorem all_cells {w : World} {F : Nat → Prop} {x b gc q rb rgc Y fb : Nat} {lv rlv pv wv hv : Value} {s : Ast} {ps : List Nat} {whos : List Int} {gs has : List Bool} {rao : Option Addr} {rc : Nat} (h : Sd w F x b gc q rb rgc Y lv rlv pv wv hv s s ps whos gs has) (hr : rlv = .slice rao s.log.length rc) (hu : w.heap[fb]? = some (.cells #[.int .i64 s.fw, .int .i64 s.fk, .int .i64 s.fc] 45 (0, 0))) :
    w.cell? ⟨x, 0, none⟩ = some (.pointer (some ⟨b, 0, none⟩)) ∧ w.cell? ⟨x, 2, none⟩ = some (.pointer (some ⟨q, 0, none⟩)) ∧ w.cell? ⟨q, 0, none⟩ = some (.pointer (some ⟨rb, 0, none⟩)) ∧ w.cell? ⟨rb, 0, none⟩ = some (.slice (some ⟨rgc, 0, none⟩) s.cells.length s.cells.length) ∧ w.cell? ⟨rb, 1, none⟩ = some (.slice rao s.log.length rc) ∧ w.cell? ⟨rb, 3, none⟩ = some (.bool s.stopped) ∧ w.cell? ⟨rb, 4, none⟩ = some (.int .i64 s.fw) ∧ w.cell? ⟨rb, 5, none⟩ = some (.int .i64 s.fk) ∧ w.cell? ⟨rb, 6, none⟩ = some (.int .i64 s.fc) ∧ w.cell? ⟨rb, 7, none⟩ = some (.int .i64 s.count) ∧ w.cell? ⟨fb, 0, none⟩ = some (.int .i64 s.fw) ∧ w.cell? ⟨fb, 1, none⟩ = some (.int .i64 s.fk) ∧ w.cell? ⟨fb, 2, none⟩ = some (.int .i64 s.fc) := by
  obtain ⟨c0, c2, d0, r0, r1, r3, r4, r5, r6, r7⟩ := h.cells
  rw [hr] at r1
  exact ⟨c0, c2, d0, r0, r1, r3, r4, r5, r6, r7, cell_of hu rfl, cell_of hu rfl, cell_of hu rfl⟩
set_option maxRecDepth 100000 in
set_option maxHeartbeats 8000000 in
theorem all_any {w : World} {F : Nat → Prop} {x b gc q rb rgc Y n : Nat} {lv rlv pv wv hv : Value} {s : Ast} {ps : List Nat} {whos : List Int} {gs : List Bool} (h : Sd w F x b gc q rb rgc Y lv rlv pv wv hv s s ps whos gs gs) (hn : NB s whos n) (hbig : (n + 1) * 64 ≤ 140737488355328) :
    Calls Try.prog 39 #[.pointer (some ⟨x, 0, none⟩)] w fun e w' => e = .returned (.bool true) ∧ StP w w' F x n := by
  have HFT := hide (fun X (hX : AIs X Y b gc lv s) => fault_any Y b gc lv s X hX)
  have HLG := hide (fun X (hX : AIs X Y b gc lv s) => log_any Y b gc lv s X hX (by have := hn.lg; omega))
  have HIM := hide (fun X (hX : AIs X Y b gc lv s) => image_any Y b gc lv s X hX)
  have HCT := hide (fun X (hX : AIs X Y b gc lv s) => count_any Y b gc lv s X hX)
  have HCL := hide h.ar.len
  have HF := hide h.fl
  have HFB := hide h.fb
  have HN := hide hn
  have H0 := hide h
  obtain ⟨rao, rc, hrl⟩ := owns_shape h.re.hl
  have HRL := hide hrl
  obtain ⟨c0, _, _, _, _, _, _, _, _, _⟩ := h.cells
  have hef := fun W => eql_fault s.fw s.fk s.fc W
  unfold faultVal at HFT
  clear h hn hbig hrl
  go_enter Try.func39, Try.ntmps39
  go_wp2_with fail
  refine (HFT.out w H0.out.ar).mono ?_
  rintro e w2 ⟨rfl, ha2, hk2⟩
  have H2 := hide (H0.out.lookA hk2 ha2 (fun i hi => .inl hi))
  have HP2 := hide ((SP.refl w F).step hk2 (fun i hi => by rw [hi]; exact H0.out.fb))
  clear ha2 hk2 c0
  obtain ⟨U, hU⟩ : ∃ U, U = w2.alloc (.cells #[.int .i64 s.fw, .int .i64 s.fk, .int .i64 s.fc] 45) := ⟨_, rfl⟩
  have hbU : Below w2.heap.size w2 U := by rw [hU]; exact (Below.refl _ _).alloc (Nat.le_refl _) _
  have hUA : U.heap[w2.heap.size]? = some (.cells #[.int .i64 s.fw, .int .i64 s.fk, .int .i64 s.fc] 45 (0, 0)) := by rw [hU]; exact heap_new _ _
  have H3 := hide (H2.out.news hbU)
  have HP3 := hide (HP2.out.step (S := fun _ => False) (Chg.of_below hbU) (fun _ e => e.elim))
  have HUA := hide hUA
  have HBN : Hid (w2.heap.size ≠ b) := fun e => by have := H2.out.fl b H2.out.fb; omega
  obtain ⟨fb, hfb⟩ : ∃ fb, fb = w2.heap.size := ⟨_, rfl⟩
  go_upto_region 2 with fail
  rw [← hU, ← hfb]
  rw [← hfb] at HUA HBN
  clear hU hbU hUA hfb
  have hs3 := all_cells H3.out HRL.out HUA.out
  obtain ⟨c0, c2, d0, r0, r1, r3, r4, r5, r6, r7, u0, u1, u2⟩ := hs3
  have hct : (s.count == s.count) = true := by simp
  have hst : (s.stopped == s.stopped) = true := by simp
  simp only [List.append_eq, List.cons_append, List.nil_append]
  refine wp_region_noPanic ?_
  go_region_held3 (fun z => z.cell? ⟨x, 0, none⟩ = some (.pointer (some ⟨b, 0, none⟩)) ∧ z.cell? ⟨x, 2, none⟩ = some (.pointer (some ⟨q, 0, none⟩)) ∧ z.cell? ⟨q, 0, none⟩ = some (.pointer (some ⟨rb, 0, none⟩)) ∧ z.cell? ⟨rb, 0, none⟩ = some (.slice (some ⟨rgc, 0, none⟩) s.cells.length s.cells.length) ∧ z.cell? ⟨rb, 1, none⟩ = some (.slice rao s.log.length rc) ∧ z.cell? ⟨rb, 3, none⟩ = some (.bool s.stopped) ∧ z.cell? ⟨rb, 4, none⟩ = some (.int .i64 s.fw) ∧ z.cell? ⟨rb, 5, none⟩ = some (.int .i64 s.fk) ∧ z.cell? ⟨rb, 6, none⟩ = some (.int .i64 s.fc) ∧ z.cell? ⟨rb, 7, none⟩ = some (.int .i64 s.count) ∧ z.cell? ⟨fb, 0, none⟩ = some (.int .i64 s.fw) ∧ z.cell? ⟨fb, 1, none⟩ = some (.int .i64 s.fk) ∧ z.cell? ⟨fb, 2, none⟩ = some (.int .i64 s.fc))
    (first | exact ⟨c0, c2, d0, r0, r1, r3, r4, r5, r6, r7, u0, u1, u2⟩ | exact HS4.out | exact HS5.out | exact HS6.out | exact HS7.out | exact HS8.out)
    (first
      | (go_at_call 24; refine (HLG.out U.drew (H3.out.news ((Below.refl _ _).drew)).ar).mono ?_; rintro e w4 ⟨v', rfl, ho4, ha4, hk4⟩; obtain ⟨ao, c, rfl⟩ := owns_shape ho4; have HO4 := hide (AccsAt.of_owns ho4); have H4 := hide ((H3.out.news ((Below.refl _ _).drew)).lookA hk4 ha4 (fun i hi => .inl hi)); have HP4 := hide ((HP3.out.step (S := fun _ => False) (Chg.of_below ((Below.refl _ _).drew)) (fun _ e => e.elim)).step hk4 (fun i hi => by rw [hi]; exact (H3.out.news ((Below.refl _ _).drew)).fb)); have HU4 := hide (hk4.heap (show U.drew.heap[fb]? = _ from HUA.out) HBN.out); have HS4 := hide (all_cells H4.out HRL.out HU4.out); clear ha4 hk4 ho4)
      | (go_at_call 16; refine (sameLog_any _ _ s.log _ HO4.out (by rw [← HRL.out]; exact AccsAt.of_owns H4.out.re.hl)).mono ?_; rintro e w5 ⟨rfl, m5, hw5⟩; have hb5 : Below w4.heap.size w4 w5 := (by rw [hw5]; exact below_drewN' _); have H5 := hide (H4.out.news hb5); have HP5 := hide (HP4.out.step (S := fun _ => False) (Chg.of_below hb5) (fun _ e => e.elim)); have HU5 := hide ((hb5.block _ (lt_of_heap HU4.out)).trans HU4.out); have HS5 := hide (all_cells H5.out HRL.out HU5.out); clear hw5 hb5)
      | (go_at_call 26; refine (HIM.out w5 H5.out.ar).mono ?_; rintro e w6 ⟨v', rfl, ho6, ha6, hk6⟩; obtain ⟨ao6, c6, rfl⟩ := owns_shape ho6; have HO6 := hide (WordsAt.of_owns ho6); have H6 := hide (H5.out.lookA hk6 ha6 (fun i hi => .inl hi)); have HP6 := hide (HP5.out.step hk6 (fun i hi => by rw [hi]; exact H5.out.fb)); have HU6 := hide (hk6.heap HU5.out HBN.out); have HS6 := hide (all_cells H6.out HRL.out HU6.out); clear ha6 hk6 ho6)
      | (go_at_call 15; refine (sameWords_any _ _ s.cells _ HO6.out (words_of H6.out.re.hc rfl (by have := HCL.out; omega))).mono ?_; rintro e w7 ⟨rfl, m7, hw7⟩; have hb7 : Below w6.heap.size w6 w7 := (by rw [hw7]; exact below_drewN' _); have H7 := hide (H6.out.news hb7); have HP7 := hide (HP6.out.step (S := fun _ => False) (Chg.of_below hb7) (fun _ e => e.elim)); have HU7 := hide ((hb7.block _ (lt_of_heap HU6.out)).trans HU6.out); have HS7 := hide (all_cells H7.out HRL.out HU7.out); clear hw7 hb7)
      | (go_at_call 27; refine (HCT.out w7 H7.out.ar).mono ?_; rintro e w8 ⟨rfl, ha8, hk8, _⟩; have H8 := hide (H7.out.lookA hk8 ha8 (fun i hi => .inl hi)); have HP8 := hide (HP7.out.step hk8 (fun i hi => by rw [hi]; exact H7.out.fb)); have HU8 := hide (hk8.heap HU7.out HBN.out); have HS8 := hide (all_cells H8.out HRL.out HU8.out); clear ha8 hk8))
  refine NoPanic.normal ?_
  go_wp2_with fail
  go_ret
  exact ⟨by simp, _, _, _, _, _, _, _, _, _, _, _, _, _, _, _, _, H8.out, HP8.out, HN.out.up⟩
end Go.Proofs.Ytfgchkkljlbmcaa
