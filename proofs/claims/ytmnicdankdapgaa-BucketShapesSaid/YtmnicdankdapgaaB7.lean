/- BucketShapes: the walk. -/
import Derived.Test.YtmnicdankdapgaaB6
import Derived.Test.YtmnicdankdapgaaT2
namespace Go.Proofs.Ytmnicdankdapgaa
open Go.RowKit Go.Lib
set_option linter.unusedVariables false
/-- What the law keeps in memory. -/
structure LV (w : World) (b W S C D : Int) (g c M : Nat) (l : List Tk) (X : World) : Prop where
  m : GM w w.heap.size 69 b W S C D X
  t : TM X g c M l 91 92
theorem LV.below {w : World} {b W S C D : Int} {g c M : Nat} {l : List Tk} {X Y : World} (h : LV w b W S C D g c M l X) (hb : Below X.heap.size X Y) : LV w b W S C D g c M l Y := ⟨h.m.below hb, h.t.below hb⟩
set_option maxRecDepth 100000 in
set_option maxHeartbeats 16000000 in
theorem shapesB_law (b W S C D who : Int) (v : Value) (l : List Tk) (w : World) (hl : TAt w v l) (htk : Tok l) (hlen : l.length * 16 ≤ 140737488351232) (hD : 0 ≤ D) (hD2 : D < 18446744073709551616) :
    Calls Try.prog 5 #[bAgg b W S C D, .int .i64 who, v] w fun e w' => e = .returned (.bool true) ∧ Below w.heap.size w w' := by
  obtain ⟨i0, hi, hz0, hz1, hz2⟩ := info_parts Try.info35
  obtain ⟨ao, ca, rfl, k1, k2⟩ := hl.shape
  have HL := hide hl
  have HTK := hide htk
  have HC1 := hide (fun w => bucketCells_any b W S C D w hD)
  have HC2 := hide (fun w => refCellsB_any b W S C D w hD)
  obtain ⟨N9, hN9⟩ : ∃ N9, N9 = (if OkB b W S C D then S * (2 + 2 * C) else 0) := ⟨_, rfl⟩
  obtain ⟨E9, hE9⟩ : ∃ E9 : Int, E9 = (if OkB b W S C D then 0 else 60) := ⟨_, rfl⟩
  rw [← hN9, ← hE9] at HC1 HC2
  have HF1 := hide (fun v w h => bucketFill_any b W S C D v l w h htk hD hD2)
  have HF2 := hide (fun v w h => refFillB_any b W S C D v l w h htk hD hD2)
  obtain ⟨E8, hE8⟩ : ∃ E8, E8 = errB b W S C D l := ⟨_, rfl⟩
  obtain ⟨A8, hA8⟩ : ∃ A8, A8 = ansB b W S C D l := ⟨_, rfl⟩
  rw [← hE8, ← hA8] at HF1 HF2
  have HO1 := hide (fun w => bucketOpen_any b W S C D who w hD)
  have HO2 := hide (fun w => refOpenB_any b W S C D who w hD)
  obtain ⟨E7, hE7⟩ : ∃ E7, E7 = openB b W S C D who := ⟨_, rfl⟩
  rw [← hE7] at HO1 HO2
  have HNO := hide (fun x w => no30_any x w)
  have HSW := hide (fun v1 v2 w h1 h2 => sameWords33_any v1 v2 A8 w h1 h2)
  have HST := hide (fun v1 v2 w h1 h2 => sameTasks34_any v1 v2 l w h1 h2)
  obtain ⟨M, hM⟩ : ∃ M, M = l.length := ⟨_, rfl⟩
  rw [← hM] at k1 HL hlen ⊢
  have HM := hide hM
  unfold bAgg at HC1 HC2 HF1 HF2 HO1 HO2 ⊢
  clear hl htk hN9 hE9 hE8 hA8 hE7 hM
  go_enter Try.func5, Try.ntmps5
  go_wp2_with (first
    | (go_at_call 28; refine (HC1.out _).mono ?_; rintro e w1 ⟨rfl, hb1⟩; have hm1 := (gm_one w 69 b W S C D).below hb1; obtain ⟨s0, s1, s2, s3, s4⟩ := hm1.five; have HM1 := hide hm1; clear hb1 hm1)
    | (go_at_call 29; refine (HC2.out _).mono ?_; rintro e w2 ⟨rfl, hb2⟩; have hm2 := HM1.out.below hb2; have HM2 := hide hm2; clear hb2 hm2 s0 s1 s2 s3 s4 HM1)
    | (go_at_call 30; refine (HNO.out _ _).mono ?_; rintro e w3 ⟨rfl, rfl⟩)
    | (at_builtin; refine wpList_freshT rfl (.tmp 40) (.tmp 41) 24 rfl 35 i0 (.agg #[.int .u64 0, .int .u64 0]) Try.underlying24 hi hz0 hz1 hz2 rfl w3.heap.size _ (own_new2 _ 35 w3.heap.size rfl) (by simp) _ l rfl rfl (HL.out.below (below_alloc HM2.out.bel _)) (by rw [← HM.out]; omega) (by rw [← HM.out]; unfold maxLen; omega) ?_; intro v4 w4 hownA hbelA; rw [← HM.out] at hownA)
    | (at_builtin; refine wpList_append_own _ rfl (.tmp 43) (.tmp 46) 24 rfl _ 35 i0 (.agg #[.int .u64 0, .int .u64 0]) 2 16 Try.underlying24 hi hz0 hz1 hz2 rfl (by decide) _ _ _ rfl (hownA.alloc _) ⟨w4.heap.size, 0, none⟩ 2 2 [.int .u64 91, .int .u64 0, .int .u64 92, .int .u64 0] rfl rfl (four_at w4 _ _ _ _ _) (by simp [Value.oneCell']) (by unfold maxLen; omega) (by omega) (by have hq := hbelA.size; simp at hq; simp; omega) ?_; intro v5 w5 hownB hgrowB hqB; rw [HM.out] at hownA hownB; obtain ⟨g, c, rfl, ka, kb, kc, htm, hbel⟩ := marksT_made (k1 := 91) (k2 := 92) hownA (below_on (below_alloc (Below.refl _ _) _) hbelA) hownB hgrowB; rw [← HM.out] at ka htm; have HW := hide (show LV w b W S C D g c M l w5 from ⟨HM2.out.below hbel, htm⟩); clear hownA hbelA hownB hgrowB hqB htm hbel HM2)
    | fail)
  obtain ⟨s0, s1, s2, s3, s4⟩ := HW.out.m.five
  have j1 : (M : Int) ≤ (c : Int) := by omega
  have j2 : M ≤ c := by omega
  have j3 : (0 : Int) ≤ (M : Int) := by omega
  have HWd := hide (HW.out.below (Below.refl _ _).drew)
  go_region_held3 (fun x => x.cell? ⟨w.heap.size, 0, none⟩ = some (.int .i64 b) ∧ x.cell? ⟨w.heap.size, 1, none⟩ = some (.int .i64 W) ∧ x.cell? ⟨w.heap.size, 2, none⟩ = some (.int .i64 S) ∧ x.cell? ⟨w.heap.size, 3, none⟩ = some (.int .i64 C) ∧ x.cell? ⟨w.heap.size, 4, none⟩ = some (.int .u64 D))
    (first | go_keep | exact HW6.out.m.five)
    ((go_at_call 31; refine (HF1.out _ _ HWd.out.t.t).mono ?_; rintro e w6 ⟨rv, rfl, hr, hb6⟩; obtain ⟨o6, c6, rfl⟩ := hr.shape; have HR6 := hide hr; have HW6 := hide (HWd.out.below hb6); clear hr hb6))
  rename_i hHeld
  clear hHeld s0 s1 s2 s3 s4 HWd HW HF1
  obtain ⟨s0, s1, s2, s3, s4⟩ := HW6.out.m.five
  rw [← HM.out]
  have j4 : (M : Int) < (M : Int) + 2 := by omega
  have j5 : (M : Int) + 1 < (M : Int) + 2 := by omega
  by_cases hE : E7 = 0
  · subst hE
    go_wp2_with (first
      | (go_at_call 32; refine (HF2.out _ _ (HL.out.below HW6.out.m.bel)).mono ?_; rintro e w7 ⟨rv7, rfl, hr7, hb7⟩; obtain ⟨o7, c7, rfl⟩ := hr7.shape; have HR7 := hide hr7; have HR67 := hide (HR6.out.below hb7); have HW7 := hide (HW6.out.below hb7); clear hr7 hb7 s0 s1 s2 s3 s4)
      | (go_at_call 33; refine (HSW.out _ _ _ HR67.out HR7.out).mono ?_; rintro e w8 ⟨rfl, hb8⟩; have HW8 := hide (HW7.out.below hb8); clear hb8)
      | (go_at_call 30; refine (HNO.out _ _).mono ?_; rintro e wq ⟨rfl, rfl⟩)
      | (go_at_call 34; refine (HST.out _ _ _ HW8.out.t.t (HL.out.below HW8.out.m.bel)).mono ?_; rintro e w9 ⟨rfl, hb9⟩; have HW9 := hide (HW8.out.below hb9); have q1 := HW9.out.t.c1; have q2 := HW9.out.t.c2; obtain ⟨s0, s1, s2, s3, s4⟩ := HW9.out.m.five; clear hb9)
      | (go_at_call 35; refine (HO1.out _).mono ?_; rintro e wa ⟨hba, hha⟩; obtain ⟨_, ha, rfl, hna⟩ := hha.resolve_left (fun k => k.1 rfl); have HNA := hide hna; have hwa := HW9.out.below hba; obtain ⟨t0, t1, t2, t3, t4⟩ := hwa.m.five; have HWa := hide hwa; clear hba hha hna hwa q1 q2 s0 s1 s2 s3 s4)
      | (go_at_call 36; refine (HO2.out _).mono ?_; rintro e wb ⟨hbb, hhb⟩; obtain ⟨_, hb, rfl, hnb⟩ := hhb.resolve_left (fun k => k.1 rfl); have HNB := hide hnb; have HNA2 := hide (HNA.out.below hbb); have HBb := hide (HWa.out.below hbb).m.bel; clear hbb hhb hnb t0 t1 t2 t3 t4)
      | (go_at_call 37; refine (bucketOver_new ha _ HNA2.out).mono ?_; rintro e wc ⟨rfl, rfl⟩)
      | (go_at_call 39; refine (bucketReply_new ha _ HNA2.out).mono ?_; rintro e wd ⟨rfl, hbd⟩; have HBd := hide (below_on HBb.out hbd); have HNB2 := hide (HNB.out.below hbd); clear hbd)
      | (go_at_call 40; refine (refReplyB_new hb _ HNB2.out).mono ?_; rintro e we ⟨rfl, hbe⟩; have HBe := hide (below_on HBd.out hbe); clear hbe)
      | (go_at_call 38; refine (sameReply38_any _).mono ?_; rintro e wf ⟨rfl, hbf⟩; have HBf := hide (below_on HBe.out hbf); clear hbf)
      | fail)
    go_ret
    exact ⟨rfl, HBf.out⟩
  · go_wp2_with (first
      | (go_at_call 32; refine (HF2.out _ _ (HL.out.below HW6.out.m.bel)).mono ?_; rintro e w7 ⟨rv7, rfl, hr7, hb7⟩; obtain ⟨o7, c7, rfl⟩ := hr7.shape; have HR7 := hide hr7; have HR67 := hide (HR6.out.below hb7); have HW7 := hide (HW6.out.below hb7); clear hr7 hb7 s0 s1 s2 s3 s4)
      | (go_at_call 33; refine (HSW.out _ _ _ HR67.out HR7.out).mono ?_; rintro e w8 ⟨rfl, hb8⟩; have HW8 := hide (HW7.out.below hb8); clear hb8)
      | (go_at_call 30; refine (HNO.out _ _).mono ?_; rintro e wq ⟨rfl, rfl⟩)
      | (go_at_call 34; refine (HST.out _ _ _ HW8.out.t.t (HL.out.below HW8.out.m.bel)).mono ?_; rintro e w9 ⟨rfl, hb9⟩; have HW9 := hide (HW8.out.below hb9); have q1 := HW9.out.t.c1; have q2 := HW9.out.t.c2; obtain ⟨s0, s1, s2, s3, s4⟩ := HW9.out.m.five; clear hb9)
      | (go_at_call 35; refine (HO1.out _).mono ?_; rintro e wa ⟨hba, hha⟩; obtain ⟨_, rfl⟩ := hha.resolve_right (fun k => hE k.1); have hwa := HW9.out.below hba; obtain ⟨t0, t1, t2, t3, t4⟩ := hwa.m.five; have HWa := hide hwa; clear hba hha hwa q1 q2 s0 s1 s2 s3 s4)
      | (go_at_call 36; refine (HO2.out _).mono ?_; rintro e wb ⟨hbb, hhb⟩; obtain ⟨_, rfl⟩ := hhb.resolve_right (fun k => hE k.1); have HBb := hide (HWa.out.below hbb).m.bel; clear hbb hhb t0 t1 t2 t3 t4)
      | fail)
    go_ret
    exact ⟨rfl, HBb.out⟩
end Go.Proofs.Ytmnicdankdapgaa
