/- RingFills: the walk. -/
import Derived.Test.YtgjdjdgondpjeaaGreatR5
namespace Go.Proofs.YtgjdjdgondpjeaaGreat
open Go.RowKit Go.Lib
set_option linter.unusedVariables false
/-- What the law keeps in memory, from the copy of the tasks on. -/
structure LR (w : World) (b C : Int) (g c M : Nat) (l : List Tk) (X : World) : Prop where
  m : QM w w.heap.size 23 b C X
  t : TM X g c M l 71 72
theorem LR.below {w : World} {b C : Int} {g c M : Nat} {l : List Tk} {X Y : World} (h : LR w b C g c M l X) (hb : Below X.heap.size X Y) : LR w b C g c M l Y := ⟨h.m.below hb, h.t.below hb⟩
/-- All that the law has made, in a world X. -/
structure FN (w w5 : World) (b C : Int) (g c M : Nat) (l : List Tk) (S2 S3 S4 S5 S6 : Nat) (a1 a2 a3 a4 : Option Addr) (n1 n2 n3 n4 : Nat) (A8 A6 : List Int) (vw vl : Value) (X : World) : Prop where
  lr : LR w b C g c M l X
  l1 : LA w5.heap.size S2 X a1 n1 A8
  l2 : LA S2 S3 X a2 n2 A8
  l3 : LA S3 S4 X a3 n3 A6
  l4 : LA S5 S6 X a4 n4 A8
  want : RowAt .u64 X vw A8
  less : RowAt .u64 X vl A6
  bel : Below w5.heap.size w5 X
  sz : S6 ≤ X.heap.size
theorem FN.below {w w5 : World} {b C : Int} {g c M : Nat} {l : List Tk} {S2 S3 S4 S5 S6 : Nat} {a1 a2 a3 a4 : Option Addr} {n1 n2 n3 n4 : Nat} {A8 A6 : List Int} {vw vl : Value} {X Y : World} (h : FN w w5 b C g c M l S2 S3 S4 S5 S6 a1 a2 a3 a4 n1 n2 n3 n4 A8 A6 vw vl X) (hb : Below X.heap.size X Y) : FN w w5 b C g c M l S2 S3 S4 S5 S6 a1 a2 a3 a4 n1 n2 n3 n4 A8 A6 vw vl Y :=
  ⟨h.lr.below hb, h.l1.below hb, h.l2.below hb, h.l3.below hb, h.l4.below hb, h.want.below hb, h.less.below hb, below_on h.bel hb, Nat.le_trans h.sz hb.size⟩
theorem LA.wide {S S' T T' : Nat} {X : World} {ao : Option Addr} {n : Nat} {A : List Int} (h : LA S T X ao n A) (h1 : S' ≤ S) (h2 : T ≤ T') : LA S' T' X ao n A := by
  rcases h with h | ⟨p1, p2, g, p3, p4, p5, p6⟩
  · exact .inl h
  · exact .inr ⟨p1, p2, g, by omega, by omega, p5, p6⟩
set_option maxRecDepth 100000 in
set_option maxHeartbeats 32000000 in
theorem ring_lawS (b C who : Int) (ad : Addr) (ca : Nat) (l : List Tk) (w : World) (hl : TAt w (.slice (some ad) l.length ca) l) (htk : Tok l) (hlen : l.length * 16 ≤ 140737488351232) :
    Calls Tryz.prog 9 #[qAgg b C, .slice (some ad) l.length ca, .int .i64 who] w fun e w' => e = .returned (.bool true) ∧ Below w.heap.size w w' := by
  obtain ⟨i0, hi, hz0, hz1, hz2⟩ := info_parts Tryz.info42
  obtain ⟨k1, k2⟩ : l.length ≤ ca ∧ ca ≤ 9223372036854775807 := by obtain ⟨_, _, he, h1, h2⟩ := hl.shape; simp only [Value.slice.injEq, true_and] at he; obtain ⟨_, rfl⟩ := he; exact ⟨h1, h2⟩
  have HL := hide hl
  have HC1 := hide (fun w => ringCells_any b C w)
  have HC2 := hide (fun w => refCellsR_any b C w)
  obtain ⟨N9, hN9⟩ : ∃ N9, N9 = (if OkR b C then 2 + 3 * C else 0) := ⟨_, rfl⟩
  obtain ⟨E9, hE9⟩ : ∃ E9 : Int, E9 = (if OkR b C then 0 else 60) := ⟨_, rfl⟩
  rw [← hN9, ← hE9] at HC1 HC2
  have HF1 : Hid (∀ v w, TAt w v l → Calls Tryz.prog 27 #[qAgg b C, v] w fun e w' => ∃ ao n, e = .returned (.tuple #[.slice ao n n, .int .i64 (errR b C l)]) ∧ n ≤ 200000 ∧ LA w.heap.size w'.heap.size w' ao n (ansR b C l) ∧ Below w.heap.size w w') := fun v w h => (ringFill_any b C v l w h htk).mono fun e w' h => ring_gives h
  have HF2 := hide (fun v w h => refFillR_any b C v l w h htk)
  obtain ⟨h, hh⟩ : ∃ h, h = l.length / 2 := ⟨_, rfl⟩
  have hhl : h ≤ l.length := by omega
  have HF3 : Hid (∀ v w, TAt w v (l.take h) → Calls Tryz.prog 27 #[qAgg b C, v] w fun e w' => ∃ ao n, e = .returned (.tuple #[.slice ao n n, .int .i64 (errR b C (l.take h))]) ∧ n ≤ 200000 ∧ LA w.heap.size w'.heap.size w' ao n (ansR b C (l.take h)) ∧ Below w.heap.size w w') := fun v w h' => (ringFill_any b C v (l.take h) w h' (htk.take h)).mono fun e w' h => ring_gives h
  have HF4 := hide (fun v w h' => refFillR_any b C v (l.take h) w h' (htk.take h))
  obtain ⟨E8, hE8⟩ : ∃ E8, E8 = errR b C l := ⟨_, rfl⟩
  obtain ⟨A8, hA8⟩ : ∃ A8, A8 = ansR b C l := ⟨_, rfl⟩
  obtain ⟨E6, hE6⟩ : ∃ E6, E6 = errR b C (l.take h) := ⟨_, rfl⟩
  obtain ⟨A6, hA6⟩ : ∃ A6, A6 = ansR b C (l.take h) := ⟨_, rfl⟩
  rw [← hE8, ← hA8] at HF1 HF2
  rw [← hE6, ← hA6] at HF3 HF4
  have HTH := hide (fun X (hb : Below w.heap.size w X) => (hl.below hb).take h hhl)
  have HTL : Hid ((l.take h).length = h) := hide (by rw [List.length_take]; omega)
  have HO1 := hide (fun w => ringOpen_any b C who w)
  have HO2 := hide (fun w => refOpenR_any b C who w)
  obtain ⟨E7, hE7⟩ : ∃ E7, E7 = openR b C who := ⟨_, rfl⟩
  rw [← hE7] at HO1 HO2
  have HSW8 := hide (fun v1 v2 w h1 h2 => sameWords10_any v1 v2 A8 w h1 h2)
  have HSW6 := hide (fun v1 v2 w h1 h2 => sameWords10_any v1 v2 A6 w h1 h2)
  have HST := hide (fun v1 v2 w h1 h2 => sameTasks12_any v1 v2 l w h1 h2)
  obtain ⟨M, hM⟩ : ∃ M, M = l.length := ⟨_, rfl⟩
  rw [← hM] at k1 HL hlen hh hhl ⊢
  have HM := hide hM
  have hq2 : (M : Int) / 2 = (h : Int) := by omega
  unfold qAgg at HC1 HC2 HF1 HF2 HF3 HF4 HO1 HO2 ⊢
  clear hl htk hN9 hE9 hE8 hA8 hE6 hA6 hE7 hM hh
  go_enter Tryz.func9, Tryz.ntmps9
  go_wp2_with (first
    | (go_at_call 32; refine (HC1.out _).mono ?_; rintro e w1 ⟨rfl, hb1⟩; have hm1 := (qm_one w 23 b C).below hb1; obtain ⟨s0, s1⟩ := hm1.two; have HM1 := hide hm1; clear hb1 hm1)
    | (go_at_call 33; refine (HC2.out _).mono ?_; rintro e w2 ⟨rfl, hb2⟩; have hm2 := HM1.out.below hb2; clear s0 s1; obtain ⟨s0, s1⟩ := hm2.two; have HM2 := hide hm2; clear hb2 hm2 HM1)
    | (go_at_call 31; refine (HF2.out _ _ (HL.out.below HM2.out.bel)).mono ?_; rintro e w3 ⟨rv3, rfl, hr3, hb3⟩; obtain ⟨o3, c3, rfl⟩ := hr3.shape; have HR3 := hide hr3; have HM3 := hide (HM2.out.below hb3); clear hr3 hb3 s0 s1 HM2)
    | (at_builtin; refine wpList_freshT rfl (.tmp 47) (.tmp 48) 24 rfl 42 i0 (.agg #[.int .u64 0, .int .u64 0]) Tryz.underlying24 hi hz0 hz1 hz2 rfl w3.heap.size _ (own_new2 _ 42 w3.heap.size rfl) (by simp) _ l rfl rfl (HL.out.below (below_alloc HM3.out.bel _)) (by rw [← HM.out]; omega) (by rw [← HM.out]; unfold maxLen; omega) ?_; intro v4 w4 hownA hbelA; rw [← HM.out] at hownA)
    | (at_builtin; refine wpList_append_own _ rfl (.tmp 49) (.tmp 52) 24 rfl _ 42 i0 (.agg #[.int .u64 0, .int .u64 0]) 2 16 Tryz.underlying24 hi hz0 hz1 hz2 rfl (by decide) _ _ _ rfl (hownA.alloc _) ⟨w4.heap.size, 0, none⟩ 2 2 [.int .u64 71, .int .u64 0, .int .u64 72, .int .u64 0] rfl rfl (four_at w4 _ _ _ _ _) (by simp [Value.oneCell']) (by unfold maxLen; omega) (by omega) (by have hq := hbelA.size; simp at hq; simp; omega) ?_; intro v5 w5 hownB hgrowB hqB; rw [HM.out] at hownA hownB; obtain ⟨g, c, rfl, ka, kb, kc, htm, hbel⟩ := marksT_made (k1 := 71) (k2 := 72) hownA (below_on (below_alloc (Below.refl _ _) _) hbelA) hownB hgrowB; rw [← HM.out] at ka htm; have HW := hide (show LR w b C g c M l w5 from ⟨HM3.out.below hbel, htm⟩); have HR5 := hide (HR3.out.below hbel); clear hownA hbelA hownB hgrowB hqB htm hbel HM3 HR3)
    | fail)
  obtain ⟨s0, s1⟩ := HW.out.m.two
  have j1 : (M : Int) ≤ (c : Int) := by omega
  have j2 : M ≤ c := by omega
  have j3 : (0 : Int) ≤ (M : Int) := by omega
  rw [← HM.out]
  have HW5 := HW
  have HWd := hide (HW5.out.below (Below.refl _ _).drew)
  go_region_held3 (fun x => x.cell? ⟨w.heap.size, 0, none⟩ = some (.int .i64 b) ∧ x.cell? ⟨w.heap.size, 1, none⟩ = some (.int .i64 C))
    (first | go_keep | exact HW6.out.m.two)
    ((go_at_call 27; refine (HF1.out _ _ HWd.out.t.t).mono ?_; rintro e w6 ⟨a1, n1, rfl, hn1, hA1, hb6⟩; have HA1 : Hid (LA w5.heap.size w6.heap.size w6 a1 n1 A8) := hide hA1; have HB6 : Hid (Below w5.heap.size w5 w6) := hide (below_on (Below.refl _ w5).drew hb6); have HW6 := hide (HWd.out.below hb6); clear hA1 hb6))
  rename_i hHeld
  clear hHeld s0 s1 HWd HW
  obtain ⟨s0, s1⟩ := HW6.out.m.two
  have HWd := hide (HW6.out.below (Below.refl _ _).drew)
  go_wp2_with fail
  go_region_held3 (fun x => x.cell? ⟨w.heap.size, 0, none⟩ = some (.int .i64 b) ∧ x.cell? ⟨w.heap.size, 1, none⟩ = some (.int .i64 C))
    (first | go_keep | exact HW7.out.m.two)
    ((go_at_call 27; refine (HF1.out _ _ HWd.out.t.t).mono ?_; rintro e w7 ⟨a2, n2, rfl, hn2, hA2, hb7⟩; have HA2 : Hid (LA w6.heap.size w7.heap.size w7 a2 n2 A8) := hide hA2; have HB7 : Hid (Below w6.heap.size w6 w7) := hide (below_on (Below.refl _ w6).drew hb7); have HW7 := hide (HWd.out.below hb7); clear hA2 hb7))
  rename_i hHeld
  clear hHeld s0 s1 HWd
  obtain ⟨s0, s1⟩ := HW7.out.m.two
  go_wp2_with fail
  have j6 : (h : Int) ≤ (ca : Int) := by omega
  have j7 : h ≤ ca := by omega
  have j8 : (0 : Int) ≤ (h : Int) := by omega
  have hwh : IntKind.i64.wrap (h : Int) = (h : Int) := IntWalk.i64_in _ (by omega)
  go_region_held3 (fun x => x.cell? ⟨w.heap.size, 0, none⟩ = some (.int .i64 b) ∧ x.cell? ⟨w.heap.size, 1, none⟩ = some (.int .i64 C))
    (first | go_keep | exact HW8.out.m.two | exact HW9.out.m.two)
    ((first
      | (refine step_freshT (by rfl) (.tmp 74) (.tmp 79) 24 (by rfl) 42 i0 (.agg #[.int .u64 0, .int .u64 0]) Tryz.underlying24 hi hz0 hz1 hz2 rfl w7.heap.size w7.heap.size (by first | exact own_new2 w7 42 w7.heap.size rfl | exact own_new2 w7.drew 42 w7.heap.size rfl) (by simp) _ (l.take h) (by rfl) (by rfl) (HTH.out _ (by first | exact below_drew (below_alloc HW7.out.m.bel _) | exact below_alloc (below_drew HW7.out.m.bel) _)) (by rw [HTL.out]; omega) (by rw [HTL.out]; unfold maxLen; omega) ?_; intro v8 w8 hown8 hbel8; have HT8 := hide (TAt.of_owns hown8); have HB8 : Hid (Below w7.heap.size w7 w8) := hide (below_on (by first | exact below_drew (below_alloc (Below.refl _ _) _) | exact below_alloc (below_drew (Below.refl _ _)) _) hbel8); have HW8 := hide (HW7.out.below HB8.out); clear hown8 hbel8)
      | (go_at_call 27; refine (HF3.out _ _ HT8.out).mono ?_; rintro e w9 ⟨a3, n3, rfl, hn3, hA3, hb9⟩; have HA3 : Hid (LA w8.heap.size w9.heap.size w9 a3 n3 A6) := hide hA3; have HB9 : Hid (Below w8.heap.size w8 w9) := hide hb9; have HW9 := hide (HW8.out.below hb9); clear hA3 hb9)))
  rename_i hHeld
  clear hHeld s0 s1
  obtain ⟨s0, s1⟩ := HW9.out.m.two
  go_wp2_with fail
  go_region_held3 (fun x => x.cell? ⟨w.heap.size, 0, none⟩ = some (.int .i64 b) ∧ x.cell? ⟨w.heap.size, 1, none⟩ = some (.int .i64 C))
    (first | go_keep | exact HWa.out.m.two)
    ((go_at_call 31; refine (HF4.out _ _ (HTH.out _ (below_drew HW9.out.m.bel))).mono ?_; rintro e wa ⟨rva, rfl, hra, hba⟩; obtain ⟨oa, ca', rfl⟩ := hra.shape; have HRa := hide hra; have HBa : Hid (Below w9.heap.size w9 wa) := hide (below_on (Below.refl _ w9).drew hba); have HWa := hide (HW9.out.below HBa.out); clear hra hba))
  rename_i hHeld
  clear hHeld s0 s1
  obtain ⟨s0, s1⟩ := HWa.out.m.two
  have HWd := hide (HWa.out.below (Below.refl _ _).drew)
  go_wp2_with fail
  go_region_held3 (fun x => x.cell? ⟨w.heap.size, 0, none⟩ = some (.int .i64 b) ∧ x.cell? ⟨w.heap.size, 1, none⟩ = some (.int .i64 C))
    (first | go_keep | exact HWb.out.m.two)
    ((go_at_call 27; refine (HF1.out _ _ HWd.out.t.t).mono ?_; rintro e wb ⟨a4, n4, rfl, hn4, hA4, hbb⟩; have HA4 : Hid (LA wa.heap.size wb.heap.size wb a4 n4 A8) := hide hA4; have HBb : Hid (Below wa.heap.size wa wb) := hide (below_on (Below.refl _ wa).drew hbb); have HWb := hide (HWd.out.below hbb); clear hA4 hbb))
  rename_i hHeld
  clear hHeld s0 s1 HWd
  have HK := hide (show FN w w5 b C g c M l w6.heap.size w7.heap.size w9.heap.size w9.heap.size wb.heap.size a1 a2 a3 a4 n1 n2 n3 n4 A8 A6 (.slice o3 A8.length c3) (.slice oa A6.length ca') wb from
    have b8 := below_on HB8.out HB9.out
    have b9 := below_on HBa.out HBb.out
    have b7 := below_on b8 b9
    have b6 := below_on HB7.out b7
    ⟨HWb.out, HA1.out.below b6, HA2.out.below b7, (HA3.out.below b9).wide HB8.out.size (Nat.le_refl _), HA4.out.wide HBa.out.size (Nat.le_refl _), HR5.out.below (below_on HB6.out b6), HRa.out.below HBb.out, below_on HB6.out b6, Nat.le_refl _⟩)
  have q67 : w6.heap.size ≤ w7.heap.size := HB7.out.size
  have q79 : w7.heap.size ≤ w9.heap.size := (below_on HB8.out HB9.out).size
  have q9b : w9.heap.size ≤ wb.heap.size := (below_on HBa.out HBb.out).size
  have q56 : w5.heap.size ≤ w6.heap.size := HB6.out.size
  have q5w : w.heap.size ≤ w5.heap.size := HW5.out.m.bel.size
  have HB5 := hide HW5.out.m.bel
  have HG5 : Hid (g < w5.heap.size) := hide (block_of_cell HW5.out.t.c1)
  clear HA1 HA2 HA3 HA4 HW6 HW7 HW8 HW9 HWa HWb HB6 HB7 HB8 HB9 HBa HBb HR5 HRa HF1 HF2 HF3 HF4 HTH HC1 HC2 HT8
  go_wp2_with (first
    | (go_at_call 34; refine (HSW8.out _ _ _ (HK.out.l1.row hn1) HK.out.want).mono ?_; rintro e wc ⟨rfl, hbc⟩; have HKc := hide (HK.out.below hbc); clear hbc HK)
    | (go_at_call 34; refine (HSW8.out _ _ _ (HKc.out.l2.row hn2) HKc.out.want).mono ?_; rintro e wd ⟨rfl, hbd⟩; have HKd := hide (HKc.out.below hbd); clear hbd HKc)
    | (go_at_call 34; refine (HSW8.out _ _ _ (HKd.out.l4.row hn4) HKd.out.want).mono ?_; rintro e we ⟨rfl, hbe⟩; have HKe := hide (HKd.out.below hbe); clear hbe HKd)
    | (go_at_call 34; refine (HSW6.out _ _ _ (HKe.out.l3.row hn3) HKe.out.less).mono ?_; rintro e wf ⟨rfl, hbf⟩; have HKf := hide (HKe.out.below hbf); clear hbf HKe)
    | (go_at_call 35; refine (ownWords_any wf.heap.size (four _ (.slice a1 n1 n1) (.slice a2 n2 n2) (.slice a3 n3 n3) (.slice a4 n4 n4)) (four _ n1 n2 n3 n4) (four _ (blk a1) (blk a2) (blk a3) (blk a4)) _ (ow_made HKf.out.l1 HKf.out.l2 HKf.out.l3 HKf.out.l4 q67 q79 q9b HKf.out.sz hn1 hn2 hn3 hn4)).mono ?_; rintro e wg ⟨rfl, hcg⟩; have hbg : Below w5.heap.size w5 wg := Chg.below (below_alloc HKf.out.bel _) hcg (own4_low HKf.out.l1 HKf.out.l2 HKf.out.l3 HKf.out.l4 q56 q67 q79) (by have := HKf.out.bel.size; simp; omega); have hwg := HW5.out.below hbg; have t1 := hwg.t.c1; have t2 := hwg.t.c2; obtain ⟨s0, s1⟩ := hwg.m.two; have HWg := hide hwg; clear hcg hbg hwg HKf)
    | (go_at_call 21; refine (HST.out _ _ _ HWg.out.t.t (HL.out.below HWg.out.m.bel)).mono ?_; rintro e wh ⟨rfl, hbh⟩; have hwh' := HWg.out.below hbh; clear s0 s1 t1 t2; obtain ⟨s0, s1⟩ := hwh'.m.two; have HWh := hide hwh'; clear hbh hwh' HWg)
    | fail)
  refine (HO1.out _).mono ?_
  rintro e wi ⟨hbi, hhi⟩
  have hwi := HWh.out.below hbi
  clear s0 s1
  obtain ⟨s0, s1⟩ := hwi.m.two
  have HWi := hide hwi
  clear hbi hwi HWh
  by_cases hE : E7 = 0
  · subst hE
    obtain ⟨_, ha, rfl⟩ := hhi.resolve_left (fun k => k.1 rfl)
    clear hhi
    go_wp2_with (go_at_call 36; refine (HO2.out _).mono ?_; rintro e wj ⟨hbj, hhj⟩; obtain ⟨_, hb', rfl⟩ := hhj.resolve_left (fun k => k.1 rfl); have HBj := hide (HWi.out.below hbj).m.bel; clear hbj hhj)
    go_ret
    exact ⟨rfl, HBj.out⟩
  · obtain ⟨_, rfl⟩ := hhi.resolve_right (fun k => hE k.1)
    clear hhi
    go_wp2_with (go_at_call 36; refine (HO2.out _).mono ?_; rintro e wj ⟨hbj, hhj⟩; obtain ⟨_, rfl⟩ := hhj.resolve_right (fun k => hE k.1); have HBj := hide (HWi.out.below hbj).m.bel; clear hbj hhj)
    go_ret
    exact ⟨by show Ending.returned (Value.bool (E7 != 0)) = _; rw [show (E7 != 0) = true by simpa using hE], HBj.out⟩
set_option maxRecDepth 100000 in
set_option maxHeartbeats 32000000 in
theorem ring_lawN (b C who : Int) (ca : Nat) (l : List Tk) (w : World) (hl : TAt w (.slice none l.length ca) l) (htk : Tok l) (hlen : l.length * 16 ≤ 140737488351232) :
    Calls Tryz.prog 9 #[qAgg b C, .slice none l.length ca, .int .i64 who] w fun e w' => e = .returned (.bool true) ∧ Below w.heap.size w w' := by
  obtain ⟨i0, hi, hz0, hz1, hz2⟩ := info_parts Tryz.info42
  obtain ⟨k1, k2⟩ : l.length ≤ ca ∧ ca ≤ 9223372036854775807 := by obtain ⟨_, _, he, h1, h2⟩ := hl.shape; simp only [Value.slice.injEq, true_and] at he; obtain ⟨_, rfl⟩ := he; exact ⟨h1, h2⟩
  have HL := hide hl
  have HC1 := hide (fun w => ringCells_any b C w)
  have HC2 := hide (fun w => refCellsR_any b C w)
  obtain ⟨N9, hN9⟩ : ∃ N9, N9 = (if OkR b C then 2 + 3 * C else 0) := ⟨_, rfl⟩
  obtain ⟨E9, hE9⟩ : ∃ E9 : Int, E9 = (if OkR b C then 0 else 60) := ⟨_, rfl⟩
  rw [← hN9, ← hE9] at HC1 HC2
  have HF1 : Hid (∀ v w, TAt w v l → Calls Tryz.prog 27 #[qAgg b C, v] w fun e w' => ∃ ao n, e = .returned (.tuple #[.slice ao n n, .int .i64 (errR b C l)]) ∧ n ≤ 200000 ∧ LA w.heap.size w'.heap.size w' ao n (ansR b C l) ∧ Below w.heap.size w w') := fun v w h => (ringFill_any b C v l w h htk).mono fun e w' h => ring_gives h
  have HF2 := hide (fun v w h => refFillR_any b C v l w h htk)
  obtain ⟨h, hh⟩ : ∃ h, h = l.length / 2 := ⟨_, rfl⟩
  have hhl : h ≤ l.length := by omega
  have HF3 : Hid (∀ v w, TAt w v (l.take h) → Calls Tryz.prog 27 #[qAgg b C, v] w fun e w' => ∃ ao n, e = .returned (.tuple #[.slice ao n n, .int .i64 (errR b C (l.take h))]) ∧ n ≤ 200000 ∧ LA w.heap.size w'.heap.size w' ao n (ansR b C (l.take h)) ∧ Below w.heap.size w w') := fun v w h' => (ringFill_any b C v (l.take h) w h' (htk.take h)).mono fun e w' h => ring_gives h
  have HF4 := hide (fun v w h' => refFillR_any b C v (l.take h) w h' (htk.take h))
  obtain ⟨E8, hE8⟩ : ∃ E8, E8 = errR b C l := ⟨_, rfl⟩
  obtain ⟨A8, hA8⟩ : ∃ A8, A8 = ansR b C l := ⟨_, rfl⟩
  obtain ⟨E6, hE6⟩ : ∃ E6, E6 = errR b C (l.take h) := ⟨_, rfl⟩
  obtain ⟨A6, hA6⟩ : ∃ A6, A6 = ansR b C (l.take h) := ⟨_, rfl⟩
  rw [← hE8, ← hA8] at HF1 HF2
  rw [← hE6, ← hA6] at HF3 HF4
  have HTH := hide (fun X (hb : Below w.heap.size w X) => (hl.below hb).take h hhl)
  have HTL : Hid ((l.take h).length = h) := hide (by rw [List.length_take]; omega)
  have HO1 := hide (fun w => ringOpen_any b C who w)
  have HO2 := hide (fun w => refOpenR_any b C who w)
  obtain ⟨E7, hE7⟩ : ∃ E7, E7 = openR b C who := ⟨_, rfl⟩
  rw [← hE7] at HO1 HO2
  have HSW8 := hide (fun v1 v2 w h1 h2 => sameWords10_any v1 v2 A8 w h1 h2)
  have HSW6 := hide (fun v1 v2 w h1 h2 => sameWords10_any v1 v2 A6 w h1 h2)
  have HST := hide (fun v1 v2 w h1 h2 => sameTasks12_any v1 v2 l w h1 h2)
  obtain ⟨M, hM⟩ : ∃ M, M = l.length := ⟨_, rfl⟩
  rw [← hM] at k1 HL hlen hh hhl ⊢
  have HM := hide hM
  have hq2 : (M : Int) / 2 = (h : Int) := by omega
  unfold qAgg at HC1 HC2 HF1 HF2 HF3 HF4 HO1 HO2 ⊢
  clear hl htk hN9 hE9 hE8 hA8 hE6 hA6 hE7 hM hh
  go_enter Tryz.func9, Tryz.ntmps9
  go_wp2_with (first
    | (go_at_call 32; refine (HC1.out _).mono ?_; rintro e w1 ⟨rfl, hb1⟩; have hm1 := (qm_one w 23 b C).below hb1; obtain ⟨s0, s1⟩ := hm1.two; have HM1 := hide hm1; clear hb1 hm1)
    | (go_at_call 33; refine (HC2.out _).mono ?_; rintro e w2 ⟨rfl, hb2⟩; have hm2 := HM1.out.below hb2; clear s0 s1; obtain ⟨s0, s1⟩ := hm2.two; have HM2 := hide hm2; clear hb2 hm2 HM1)
    | (go_at_call 31; refine (HF2.out _ _ (HL.out.below HM2.out.bel)).mono ?_; rintro e w3 ⟨rv3, rfl, hr3, hb3⟩; obtain ⟨o3, c3, rfl⟩ := hr3.shape; have HR3 := hide hr3; have HM3 := hide (HM2.out.below hb3); clear hr3 hb3 s0 s1 HM2)
    | (at_builtin; refine wpList_freshT rfl (.tmp 47) (.tmp 48) 24 rfl 42 i0 (.agg #[.int .u64 0, .int .u64 0]) Tryz.underlying24 hi hz0 hz1 hz2 rfl w3.heap.size _ (own_new2 _ 42 w3.heap.size rfl) (by simp) _ l rfl rfl (HL.out.below (below_alloc HM3.out.bel _)) (by rw [← HM.out]; omega) (by rw [← HM.out]; unfold maxLen; omega) ?_; intro v4 w4 hownA hbelA; rw [← HM.out] at hownA)
    | (at_builtin; refine wpList_append_own _ rfl (.tmp 49) (.tmp 52) 24 rfl _ 42 i0 (.agg #[.int .u64 0, .int .u64 0]) 2 16 Tryz.underlying24 hi hz0 hz1 hz2 rfl (by decide) _ _ _ rfl (hownA.alloc _) ⟨w4.heap.size, 0, none⟩ 2 2 [.int .u64 71, .int .u64 0, .int .u64 72, .int .u64 0] rfl rfl (four_at w4 _ _ _ _ _) (by simp [Value.oneCell']) (by unfold maxLen; omega) (by omega) (by have hq := hbelA.size; simp at hq; simp; omega) ?_; intro v5 w5 hownB hgrowB hqB; rw [HM.out] at hownA hownB; obtain ⟨g, c, rfl, ka, kb, kc, htm, hbel⟩ := marksT_made (k1 := 71) (k2 := 72) hownA (below_on (below_alloc (Below.refl _ _) _) hbelA) hownB hgrowB; rw [← HM.out] at ka htm; have HW := hide (show LR w b C g c M l w5 from ⟨HM3.out.below hbel, htm⟩); have HR5 := hide (HR3.out.below hbel); clear hownA hbelA hownB hgrowB hqB htm hbel HM3 HR3)
    | fail)
  obtain ⟨s0, s1⟩ := HW.out.m.two
  have j1 : (M : Int) ≤ (c : Int) := by omega
  have j2 : M ≤ c := by omega
  have j3 : (0 : Int) ≤ (M : Int) := by omega
  rw [← HM.out]
  have HW5 := HW
  have HWd := hide (HW5.out.below (Below.refl _ _).drew)
  go_region_held3 (fun x => x.cell? ⟨w.heap.size, 0, none⟩ = some (.int .i64 b) ∧ x.cell? ⟨w.heap.size, 1, none⟩ = some (.int .i64 C))
    (first | go_keep | exact HW6.out.m.two)
    ((go_at_call 27; refine (HF1.out _ _ HWd.out.t.t).mono ?_; rintro e w6 ⟨a1, n1, rfl, hn1, hA1, hb6⟩; have HA1 : Hid (LA w5.heap.size w6.heap.size w6 a1 n1 A8) := hide hA1; have HB6 : Hid (Below w5.heap.size w5 w6) := hide (below_on (Below.refl _ w5).drew hb6); have HW6 := hide (HWd.out.below hb6); clear hA1 hb6))
  rename_i hHeld
  clear hHeld s0 s1 HWd HW
  obtain ⟨s0, s1⟩ := HW6.out.m.two
  have HWd := hide (HW6.out.below (Below.refl _ _).drew)
  go_wp2_with fail
  go_region_held3 (fun x => x.cell? ⟨w.heap.size, 0, none⟩ = some (.int .i64 b) ∧ x.cell? ⟨w.heap.size, 1, none⟩ = some (.int .i64 C))
    (first | go_keep | exact HW7.out.m.two)
    ((go_at_call 27; refine (HF1.out _ _ HWd.out.t.t).mono ?_; rintro e w7 ⟨a2, n2, rfl, hn2, hA2, hb7⟩; have HA2 : Hid (LA w6.heap.size w7.heap.size w7 a2 n2 A8) := hide hA2; have HB7 : Hid (Below w6.heap.size w6 w7) := hide (below_on (Below.refl _ w6).drew hb7); have HW7 := hide (HWd.out.below hb7); clear hA2 hb7))
  rename_i hHeld
  clear hHeld s0 s1 HWd
  obtain ⟨s0, s1⟩ := HW7.out.m.two
  go_wp2_with fail
  have j6 : (h : Int) ≤ (ca : Int) := by omega
  have j7 : h ≤ ca := by omega
  have j8 : (0 : Int) ≤ (h : Int) := by omega
  have hwh : IntKind.i64.wrap (h : Int) = (h : Int) := IntWalk.i64_in _ (by omega)
  go_region_held3 (fun x => x.cell? ⟨w.heap.size, 0, none⟩ = some (.int .i64 b) ∧ x.cell? ⟨w.heap.size, 1, none⟩ = some (.int .i64 C))
    (first | go_keep | exact HW8.out.m.two | exact HW9.out.m.two)
    ((first
      | (refine step_freshT (by rfl) (.tmp 74) (.tmp 79) 24 (by rfl) 42 i0 (.agg #[.int .u64 0, .int .u64 0]) Tryz.underlying24 hi hz0 hz1 hz2 rfl w7.heap.size w7.heap.size (by first | exact own_new2 w7 42 w7.heap.size rfl | exact own_new2 w7.drew 42 w7.heap.size rfl) (by simp) _ (l.take h) (by rfl) (by rfl) (HTH.out _ (by first | exact below_drew (below_alloc HW7.out.m.bel _) | exact below_alloc (below_drew HW7.out.m.bel) _)) (by rw [HTL.out]; omega) (by rw [HTL.out]; unfold maxLen; omega) ?_; intro v8 w8 hown8 hbel8; have HT8 := hide (TAt.of_owns hown8); have HB8 : Hid (Below w7.heap.size w7 w8) := hide (below_on (by first | exact below_drew (below_alloc (Below.refl _ _) _) | exact below_alloc (below_drew (Below.refl _ _)) _) hbel8); have HW8 := hide (HW7.out.below HB8.out); clear hown8 hbel8)
      | (go_at_call 27; refine (HF3.out _ _ HT8.out).mono ?_; rintro e w9 ⟨a3, n3, rfl, hn3, hA3, hb9⟩; have HA3 : Hid (LA w8.heap.size w9.heap.size w9 a3 n3 A6) := hide hA3; have HB9 : Hid (Below w8.heap.size w8 w9) := hide hb9; have HW9 := hide (HW8.out.below hb9); clear hA3 hb9)))
  rename_i hHeld
  clear hHeld s0 s1
  obtain ⟨s0, s1⟩ := HW9.out.m.two
  go_wp2_with fail
  go_region_held3 (fun x => x.cell? ⟨w.heap.size, 0, none⟩ = some (.int .i64 b) ∧ x.cell? ⟨w.heap.size, 1, none⟩ = some (.int .i64 C))
    (first | go_keep | exact HWa.out.m.two)
    ((go_at_call 31; refine (HF4.out _ _ (HTH.out _ (below_drew HW9.out.m.bel))).mono ?_; rintro e wa ⟨rva, rfl, hra, hba⟩; obtain ⟨oa, ca', rfl⟩ := hra.shape; have HRa := hide hra; have HBa : Hid (Below w9.heap.size w9 wa) := hide (below_on (Below.refl _ w9).drew hba); have HWa := hide (HW9.out.below HBa.out); clear hra hba))
  rename_i hHeld
  clear hHeld s0 s1
  obtain ⟨s0, s1⟩ := HWa.out.m.two
  have HWd := hide (HWa.out.below (Below.refl _ _).drew)
  go_wp2_with fail
  go_region_held3 (fun x => x.cell? ⟨w.heap.size, 0, none⟩ = some (.int .i64 b) ∧ x.cell? ⟨w.heap.size, 1, none⟩ = some (.int .i64 C))
    (first | go_keep | exact HWb.out.m.two)
    ((go_at_call 27; refine (HF1.out _ _ HWd.out.t.t).mono ?_; rintro e wb ⟨a4, n4, rfl, hn4, hA4, hbb⟩; have HA4 : Hid (LA wa.heap.size wb.heap.size wb a4 n4 A8) := hide hA4; have HBb : Hid (Below wa.heap.size wa wb) := hide (below_on (Below.refl _ wa).drew hbb); have HWb := hide (HWd.out.below hbb); clear hA4 hbb))
  rename_i hHeld
  clear hHeld s0 s1 HWd
  have HK := hide (show FN w w5 b C g c M l w6.heap.size w7.heap.size w9.heap.size w9.heap.size wb.heap.size a1 a2 a3 a4 n1 n2 n3 n4 A8 A6 (.slice o3 A8.length c3) (.slice oa A6.length ca') wb from
    have b8 := below_on HB8.out HB9.out
    have b9 := below_on HBa.out HBb.out
    have b7 := below_on b8 b9
    have b6 := below_on HB7.out b7
    ⟨HWb.out, HA1.out.below b6, HA2.out.below b7, (HA3.out.below b9).wide HB8.out.size (Nat.le_refl _), HA4.out.wide HBa.out.size (Nat.le_refl _), HR5.out.below (below_on HB6.out b6), HRa.out.below HBb.out, below_on HB6.out b6, Nat.le_refl _⟩)
  have q67 : w6.heap.size ≤ w7.heap.size := HB7.out.size
  have q79 : w7.heap.size ≤ w9.heap.size := (below_on HB8.out HB9.out).size
  have q9b : w9.heap.size ≤ wb.heap.size := (below_on HBa.out HBb.out).size
  have q56 : w5.heap.size ≤ w6.heap.size := HB6.out.size
  have q5w : w.heap.size ≤ w5.heap.size := HW5.out.m.bel.size
  have HB5 := hide HW5.out.m.bel
  have HG5 : Hid (g < w5.heap.size) := hide (block_of_cell HW5.out.t.c1)
  clear HA1 HA2 HA3 HA4 HW6 HW7 HW8 HW9 HWa HWb HB6 HB7 HB8 HB9 HBa HBb HR5 HRa HF1 HF2 HF3 HF4 HTH HC1 HC2 HT8
  go_wp2_with (first
    | (go_at_call 34; refine (HSW8.out _ _ _ (HK.out.l1.row hn1) HK.out.want).mono ?_; rintro e wc ⟨rfl, hbc⟩; have HKc := hide (HK.out.below hbc); clear hbc HK)
    | (go_at_call 34; refine (HSW8.out _ _ _ (HKc.out.l2.row hn2) HKc.out.want).mono ?_; rintro e wd ⟨rfl, hbd⟩; have HKd := hide (HKc.out.below hbd); clear hbd HKc)
    | (go_at_call 34; refine (HSW8.out _ _ _ (HKd.out.l4.row hn4) HKd.out.want).mono ?_; rintro e we ⟨rfl, hbe⟩; have HKe := hide (HKd.out.below hbe); clear hbe HKd)
    | (go_at_call 34; refine (HSW6.out _ _ _ (HKe.out.l3.row hn3) HKe.out.less).mono ?_; rintro e wf ⟨rfl, hbf⟩; have HKf := hide (HKe.out.below hbf); clear hbf HKe)
    | (go_at_call 35; refine (ownWords_any wf.heap.size (four _ (.slice a1 n1 n1) (.slice a2 n2 n2) (.slice a3 n3 n3) (.slice a4 n4 n4)) (four _ n1 n2 n3 n4) (four _ (blk a1) (blk a2) (blk a3) (blk a4)) _ (ow_made HKf.out.l1 HKf.out.l2 HKf.out.l3 HKf.out.l4 q67 q79 q9b HKf.out.sz hn1 hn2 hn3 hn4)).mono ?_; rintro e wg ⟨rfl, hcg⟩; have hbg : Below w5.heap.size w5 wg := Chg.below (below_alloc HKf.out.bel _) hcg (own4_low HKf.out.l1 HKf.out.l2 HKf.out.l3 HKf.out.l4 q56 q67 q79) (by have := HKf.out.bel.size; simp; omega); have hwg := HW5.out.below hbg; have t1 := hwg.t.c1; have t2 := hwg.t.c2; obtain ⟨s0, s1⟩ := hwg.m.two; have HWg := hide hwg; clear hcg hbg hwg HKf)
    | (go_at_call 21; refine (HST.out _ _ _ HWg.out.t.t (HL.out.below HWg.out.m.bel)).mono ?_; rintro e wh ⟨rfl, hbh⟩; have hwh' := HWg.out.below hbh; clear s0 s1 t1 t2; obtain ⟨s0, s1⟩ := hwh'.m.two; have HWh := hide hwh'; clear hbh hwh' HWg)
    | fail)
  refine (HO1.out _).mono ?_
  rintro e wi ⟨hbi, hhi⟩
  have hwi := HWh.out.below hbi
  clear s0 s1
  obtain ⟨s0, s1⟩ := hwi.m.two
  have HWi := hide hwi
  clear hbi hwi HWh
  by_cases hE : E7 = 0
  · subst hE
    obtain ⟨_, ha, rfl⟩ := hhi.resolve_left (fun k => k.1 rfl)
    clear hhi
    go_wp2_with (go_at_call 36; refine (HO2.out _).mono ?_; rintro e wj ⟨hbj, hhj⟩; obtain ⟨_, hb', rfl⟩ := hhj.resolve_left (fun k => k.1 rfl); have HBj := hide (HWi.out.below hbj).m.bel; clear hbj hhj)
    go_ret
    exact ⟨rfl, HBj.out⟩
  · obtain ⟨_, rfl⟩ := hhi.resolve_right (fun k => hE k.1)
    clear hhi
    go_wp2_with (go_at_call 36; refine (HO2.out _).mono ?_; rintro e wj ⟨hbj, hhj⟩; obtain ⟨_, rfl⟩ := hhj.resolve_right (fun k => hE k.1); have HBj := hide (HWi.out.below hbj).m.bel; clear hbj hhj)
    go_ret
    exact ⟨by show Ending.returned (Value.bool (E7 != 0)) = _; rw [show (E7 != 0) = true by simpa using hE], HBj.out⟩
theorem ring_law (b C who : Int) (v : Value) (l : List Tk) (w : World) (hl : TAt w v l) (htk : Tok l) (hlen : l.length * 16 ≤ 140737488351232) :
    Calls Tryz.prog 9 #[qAgg b C, v, .int .i64 who] w fun e w' => e = .returned (.bool true) ∧ Below w.heap.size w w' := by
  obtain ⟨ao, ca, rfl, _, _⟩ := hl.shape
  cases ao with
  | none => exact ring_lawN b C who ca l w hl htk hlen
  | some ad => exact ring_lawS b C who ad ca l w hl htk hlen
end Go.Proofs.YtgjdjdgondpjeaaGreat
