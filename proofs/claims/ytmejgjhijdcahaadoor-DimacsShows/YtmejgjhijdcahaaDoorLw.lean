/- DimacsShows: the walk. -/
import Derived.Test.YtmejgjhijdcahaaDoorMk
import Derived.Deep.RegionWith
import Derived.Deep.Cut
namespace Go.Proofs.YtmejgjhijdcahaaDoor
open Go.Shelf Go.RowKit Go.Sort Go.Lib
set_option linter.unusedVariables false
set_option linter.unusedSimpArgs false
def mE (x : Int) : Eg := ⟨x, 0, 0⟩
def mP (x : Int) : Pt := ⟨x, 0⟩
def mQ (x : Int) : Pt := ⟨0, x⟩
/-- What the law keeps in memory, once its lists are made. -/
structure LM (w W : World) (N : Int) (vE vP vI vQ : Value) (lE : List Eg) (lP : List Pt) (lI : List Int) (lQ : List Pt) (gE kE gP kP gI kI gQ kQ : Nat) : Prop where
  b0 : W.cell? ⟨w.heap.size, 0, none⟩ = some (.int .i64 N)
  b1 : W.cell? ⟨w.heap.size, 1, none⟩ = some vE
  bel : Below w.heap.size w W
  mE : ∃ fr, M2 Eg.arr 3 30 W fr gE kE lE (mE (-71)) (mE (-72))
  mP : ∃ fr, M2 Pt.arr 2 32 W fr gP kP lP (mP (-73)) (mP (-74))
  mI : ∃ fr, M2 iArr 1 3 W fr gI kI lI (-75) (-76)
  mQ : ∃ fr, M2 Pt.arr 2 34 W fr gQ kQ lQ (mQ (-77)) (mQ (-78))
  rE : RAt Eg.arr 3 W vE lE
  rP : RAt Pt.arr 2 W vP lP
  rI : RAt iArr 1 W vI lI
  rQ : RAt Pt.arr 2 W vQ lQ
theorem LM.on {w W W' : World} {N : Int} {vE vP vI vQ : Value} {lE : List Eg} {lP : List Pt} {lI : List Int} {lQ : List Pt} {gE kE gP kP gI kI gQ kQ : Nat} (h : LM w W N vE vP vI vQ lE lP lI lQ gE kE gP kP gI kI gQ kQ) (hb : Below W.heap.size W W') : LM w W' N vE vP vI vQ lE lP lI lQ gE kE gP kP gI kI gQ kQ := by
  obtain ⟨h1, h2, h3, ⟨_, h4⟩, ⟨_, h5⟩, ⟨_, h6⟩, ⟨_, h7⟩, h8, h9, h10, h11⟩ := h
  exact ⟨(below_cell hb (block_of_cell h1)).trans h1, (below_cell hb (block_of_cell h2)).trans h2, below_on h3 hb, ⟨_, h4.below hb⟩, ⟨_, h5.below hb⟩, ⟨_, h6.below hb⟩, ⟨_, h7.below hb⟩, h8.below hb, h9.below hb, h10.below hb, h11.below hb⟩
set_option maxRecDepth 100000 in
set_option maxHeartbeats 4000000 in
theorem shows_law (N : Int) (vE vP vI vQ : Value) (lE : List Eg) (lP : List Pt) (lI : List Int) (lQ : List Pt) (w : World) (hE : RAt Eg.arr 3 w vE lE) (hP : RAt Pt.arr 2 w vP lP) (hI : RAt iArr 1 w vI lI) (hQ : RAt Pt.arr 2 w vQ lQ)
    (bE : lE.length * 24 ≤ 140737488351232) (bP : lP.length * 16 ≤ 140737488351232) (bI : lI.length * 8 ≤ 140737488351232) (bQ : lQ.length * 16 ≤ 140737488351232) (wE : Weighed lE) (wP : Ranged lP) (hp : Pow w) :
    Calls Tryd.prog 3 #[.agg #[.int .i64 N, vE], vP, vI, vQ] w fun e w' => e = .returned (.bool true) ∧ Below w.heap.size w w' := by
  obtain ⟨aE, cE, rfl, hcE, h63E⟩ := hE.shape
  obtain ⟨aP, cP, rfl, hcP, h63P⟩ := hP.shape
  obtain ⟨aI, cI, rfl, hcI, h63I⟩ := hI.shape
  obtain ⟨aQ, cQ, rfl, hcQ, h63Q⟩ := hQ.shape
  obtain ⟨S1, E1, p1, r1⟩ := bothE N lE wE
  obtain ⟨S2, E2, p2, r2⟩ := bothP lP wP
  obtain ⟨S3, E3, p3, r3⟩ := bothS lI
  obtain ⟨S4, E4, p4, r4⟩ := bothQ lQ
  have P1 := hide p1; have R1 := hide r1; have P2 := hide p2; have R2 := hide r2; have P3 := hide p3; have R3 := hide r3; have P4 := hide p4; have R4 := hide r4
  clear p1 r1 p2 r2 p3 r3 p4 r4 wE wP
  obtain ⟨nE, hnE⟩ : ∃ n, n = lE.length := ⟨_, rfl⟩
  obtain ⟨nP, hnP⟩ : ∃ n, n = lP.length := ⟨_, rfl⟩
  obtain ⟨nI, hnI⟩ : ∃ n, n = lI.length := ⟨_, rfl⟩
  obtain ⟨nQ, hnQ⟩ : ∃ n, n = lQ.length := ⟨_, rfl⟩
  have HNE := hide hnE; have HNP := hide hnP; have HNI := hide hnI; have HNQ := hide hnQ
  rw [← hnE] at hE bE hcE ⊢
  rw [← hnP] at hP bP hcP ⊢
  rw [← hnI] at hI bI hcI ⊢
  rw [← hnQ] at hQ bQ hcQ ⊢
  have HE := hide hE; have HP := hide hP; have HI := hide hI; have HQ := hide hQ
  have BE := hide bE; have BP := hide bP; have BI := hide bI; have BQ := hide bQ
  have HPW := hide hp
  have CE := hide hcE; have CP := hide hcP; have CI := hide hcI; have CQ := hide hcQ
  clear hE hP hI hQ bE bP bI bQ hnE hnP hnI hnQ hp hcE hcP hcI hcQ h63E h63P h63I h63Q
  obtain ⟨i30, hi30, hz30, hs30, hy30⟩ := info_parts Tryd.info30
  obtain ⟨i32, hi32, hz32, hs32, hy32⟩ := info_parts Tryd.info32
  obtain ⟨i34, hi34, hz34, hs34, hy34⟩ := info_parts Tryd.info34
  obtain ⟨i3, hi3, hz3, hs3, hy3⟩ := info_parts Tryd.info3'
  have HC0 : Hid ((w.alloc (.cells #[.int .i64 N, .slice aE nE cE] 24)).cell? ⟨w.heap.size, 0, none⟩ = some (.int .i64 N)) := cell_of (heap_new _ _) rfl
  have HC1 : Hid ((w.alloc (.cells #[.int .i64 N, .slice aE nE cE] 24)).cell? ⟨w.heap.size, 1, none⟩ = some (.slice aE nE cE)) := cell_of (heap_new _ _) rfl
  have HBw1 : Hid (Below w.heap.size w (w.alloc (.cells #[.int .i64 N, .slice aE nE cE] 24))) := below_alloc (Below.refl _ _) _
  go_enter Tryd.func3, Tryd.ntmps3
  go_upto_region 1 with fail
  generalize (w.alloc (.cells #[.int .i64 N, .slice aE nE cE] 24)) = w1 at HC0 HC1 HBw1 ⊢
  have c1 := HC1.out
  have c1' : (w1.alloc (.cells #[] 30)).cell? ⟨w.heap.size, 1, none⟩ = some (.slice aE nE cE) := Lib.cell?_alloc_some _ c1
  go_upto_region 3 with (first
    | (at_builtin; refine wpList_freshR Eg.size (by decide) rfl (.tmp 21) (.tmp 23) 22 rfl 30 i30 _ 24 Tryd.underlying22 hi30 hz30 hs30 hy30 rfl w1.heap.size w1.heap.size (own_newr w1 30 _ 3 rfl) (by simp) _ lE rfl rfl ((HE.out.below HBw1.out).below (below_alloc (Below.refl _ _) _)) (by rw [← HNE.out]; have := BE.out; omega) (by rw [← HNE.out]; have := BE.out; unfold maxLen; omega) ?_; intro v4E w4E hownA hbelA; have HBA := hide (below_on (below_alloc (Below.refl _ _) _) hbelA); clear hbelA)
    | (at_builtin; refine wpList_append_own _ rfl (.tmp 25) (.tmp 28) 22 rfl w1.heap.size 30 i30 _ 3 24 Tryd.underlying22 hi30 hz30 hs30 hy30 rfl (by decide) _ _ _ rfl (hownA.alloc _) ⟨w4E.heap.size, 0, none⟩ 2 2 ((mE (-71)).arr.toList ++ (mE (-72)).arr.toList) rfl rfl (arr_at w4E _ _) (by simp [Value.oneCell', mE, mP, mQ, Eg.arr, Pt.arr, iArr]) (by unfold maxLen; rw [← HNE.out]; have := BE.out; omega) (by rw [← HNE.out]; have := BE.out; omega) (by have hq := HBA.out.size; simp; omega) ?_; intro v5 wa hownB hgrowB hqB; obtain ⟨gE, kE, he, hem, hbb⟩ := m2_made hownA HBA.out hownB hgrowB; subst he; rw [← HNE.out]; have HME := hide hem; have HKE : Hid (nE + 2 ≤ kE) := (by rw [HNE.out]; exact hem.cap.1); have HBBwa := hide hbb; have HBwa := hide (below_on HBw1.out hbb); clear hownA hownB hgrowB hqB hem hbb HBA)
    | fail)
  clear c1 c1'
  go_upto_region 5 with (first
    | (at_builtin; refine wpList_freshR Pt.size (by decide) rfl (.tmp 30) (.tmp 31) 25 rfl 32 i32 _ 16 Tryd.underlying25 hi32 hz32 hs32 hy32 rfl wa.heap.size wa.heap.size (own_newr wa 32 _ 2 rfl) (by simp) _ lP rfl rfl ((HP.out.below HBwa.out).below (below_alloc (Below.refl _ _) _)) (by rw [← HNP.out]; have := BP.out; omega) (by rw [← HNP.out]; have := BP.out; unfold maxLen; omega) ?_; intro v4P w4P hownA hbelA; have HBA := hide (below_on (below_alloc (Below.refl _ _) _) hbelA); clear hbelA)
    | (at_builtin; refine wpList_append_own _ rfl (.tmp 33) (.tmp 36) 25 rfl wa.heap.size 32 i32 _ 2 16 Tryd.underlying25 hi32 hz32 hs32 hy32 rfl (by decide) _ _ _ rfl (hownA.alloc _) ⟨w4P.heap.size, 0, none⟩ 2 2 ((mP (-73)).arr.toList ++ (mP (-74)).arr.toList) rfl rfl (arr_at w4P _ _) (by simp [Value.oneCell', mE, mP, mQ, Eg.arr, Pt.arr, iArr]) (by unfold maxLen; rw [← HNP.out]; have := BP.out; omega) (by rw [← HNP.out]; have := BP.out; omega) (by have hq := HBA.out.size; simp; omega) ?_; intro v5 wb hownB hgrowB hqB; obtain ⟨gP, kP, he, hem, hbb⟩ := m2_made hownA HBA.out hownB hgrowB; subst he; rw [← HNP.out]; have HMP := hide hem; have HKP : Hid (nP + 2 ≤ kP) := (by rw [HNP.out]; exact hem.cap.1); have HBBwb := hide hbb; have HBwb := hide (below_on HBwa.out hbb); clear hownA hownB hgrowB hqB hem hbb HBA)
    | fail)
  go_upto_region 7 with (first
    | (at_builtin; refine wpList_freshR iSize (by decide) rfl (.tmp 38) (.tmp 39) 26 rfl 3 i3 _ 8 Tryd.underlying26 hi3 hz3 hs3 hy3 rfl wb.heap.size wb.heap.size (own_newr wb 3 _ 1 rfl) (by simp) _ lI rfl rfl ((HI.out.below HBwb.out).below (below_alloc (Below.refl _ _) _)) (by rw [← HNI.out]; have := BI.out; omega) (by rw [← HNI.out]; have := BI.out; unfold maxLen; omega) ?_; intro v4I w4I hownA hbelA; have HBA := hide (below_on (below_alloc (Below.refl _ _) _) hbelA); clear hbelA)
    | (at_builtin; refine wpList_append_own _ rfl (.tmp 41) (.tmp 42) 26 rfl wb.heap.size 3 i3 _ 1 8 Tryd.underlying26 hi3 hz3 hs3 hy3 rfl (by decide) _ _ _ rfl (hownA.alloc _) ⟨w4I.heap.size, 0, none⟩ 2 2 ((iArr (-75)).toList ++ (iArr (-76)).toList) rfl rfl (arr_at w4I _ _) (by simp [Value.oneCell', mE, mP, mQ, Eg.arr, Pt.arr, iArr]) (by unfold maxLen; rw [← HNI.out]; have := BI.out; omega) (by rw [← HNI.out]; have := BI.out; omega) (by have hq := HBA.out.size; simp; omega) ?_; intro v5 wc hownB hgrowB hqB; obtain ⟨gI, kI, he, hem, hbb⟩ := m2_made hownA HBA.out hownB hgrowB; subst he; rw [← HNI.out]; have HMI := hide hem; have HKI : Hid (nI + 2 ≤ kI) := (by rw [HNI.out]; exact hem.cap.1); have HBBwc := hide hbb; have HBwc := hide (below_on HBwb.out hbb); clear hownA hownB hgrowB hqB hem hbb HBA)
    | fail)
  go_upto_region 9 with (first
    | (at_builtin; refine wpList_freshR Pt.size (by decide) rfl (.tmp 44) (.tmp 45) 27 rfl 34 i34 _ 16 Tryd.underlying27 hi34 hz34 hs34 hy34 rfl wc.heap.size wc.heap.size (own_newr wc 34 _ 2 rfl) (by simp) _ lQ rfl rfl ((HQ.out.below HBwc.out).below (below_alloc (Below.refl _ _) _)) (by rw [← HNQ.out]; have := BQ.out; omega) (by rw [← HNQ.out]; have := BQ.out; unfold maxLen; omega) ?_; intro v4Q w4Q hownA hbelA; have HBA := hide (below_on (below_alloc (Below.refl _ _) _) hbelA); clear hbelA)
    | (at_builtin; refine wpList_append_own _ rfl (.tmp 47) (.tmp 50) 27 rfl wc.heap.size 34 i34 _ 2 16 Tryd.underlying27 hi34 hz34 hs34 hy34 rfl (by decide) _ _ _ rfl (hownA.alloc _) ⟨w4Q.heap.size, 0, none⟩ 2 2 ((mQ (-77)).arr.toList ++ (mQ (-78)).arr.toList) rfl rfl (arr_at w4Q _ _) (by simp [Value.oneCell', mE, mP, mQ, Eg.arr, Pt.arr, iArr]) (by unfold maxLen; rw [← HNQ.out]; have := BQ.out; omega) (by rw [← HNQ.out]; have := BQ.out; omega) (by have hq := HBA.out.size; simp; omega) ?_; intro v5 wd hownB hgrowB hqB; obtain ⟨gQ, kQ, he, hem, hbb⟩ := m2_made hownA HBA.out hownB hgrowB; subst he; rw [← HNQ.out]; have HMQ := hide hem; have HKQ : Hid (nQ + 2 ≤ kQ) := (by rw [HNQ.out]; exact hem.cap.1); have HBBwd := hide hbb; have HBwd := hide (below_on HBwc.out hbb); clear hownA hownB hgrowB hqB hem hbb HBA)
    | fail)
  have HL : Hid (LM w wd N (.slice aE nE cE) (.slice aP nP cP) (.slice aI nI cI) (.slice aQ nQ cQ) lE lP lI lQ gE kE gP kP gI kI gQ kQ) := by
    have q1 := below_on (below_on HBBwb.out HBBwc.out) HBBwd.out
    have q2 := below_on HBBwc.out HBBwd.out
    have q0 := below_on HBBwa.out q1
    exact ⟨(below_cell q0 (block_of_cell HC0.out)).trans HC0.out, (below_cell q0 (block_of_cell HC1.out)).trans HC1.out, HBwd.out, ⟨_, HME.out.below q1⟩, ⟨_, HMP.out.below q2⟩, ⟨_, HMI.out.below HBBwd.out⟩, ⟨_, HMQ.out⟩, HE.out.below HBwd.out, HP.out.below HBwd.out, HI.out.below HBwd.out, HQ.out.below HBwd.out⟩
  clear HME HMP HMI HMQ HE HP HI HQ HBwa HBwb HBwc HBwd HBBwa HBBwb HBBwc HBBwd HC0 HC1 HBw1 hi30 hi32 hi34 hi3 hz30 hz32 hz34 hz3 hs30 hs32 hs34 hs3 hy30 hy32 hy34 hy3 BE BP BI BQ
  have HK : Hid (∀ W, Below wd.heap.size wd W → W.cell? ⟨w.heap.size, 0, none⟩ = some (.int .i64 N) ∧ W.cell? ⟨w.heap.size, 1, none⟩ = some (.slice aE nE cE)) := fun W hb => ⟨(HL.out.on hb).b0, (HL.out.on hb).b1⟩
  have HPo : Hid (∀ W, Below wd.heap.size wd W → Pow W) := fun W hb => sw_pow HPW.out (HL.out.on hb).bel
  have HXE : Hid (∀ W, Below wd.heap.size wd W → RAt Eg.arr 3 W (.slice (some ⟨gE, 0, none⟩) nE kE) lE) := fun W hb => by obtain ⟨_, h⟩ := (HL.out.on hb).mE; rw [HNE.out]; exact h.rat Eg.size
  have HXP : Hid (∀ W, Below wd.heap.size wd W → RAt Pt.arr 2 W (.slice (some ⟨gP, 0, none⟩) nP kP) lP) := fun W hb => by obtain ⟨_, h⟩ := (HL.out.on hb).mP; rw [HNP.out]; exact h.rat Pt.size
  have HXI : Hid (∀ W, Below wd.heap.size wd W → RAt iArr 1 W (.slice (some ⟨gI, 0, none⟩) nI kI) lI) := fun W hb => by obtain ⟨_, h⟩ := (HL.out.on hb).mI; rw [HNI.out]; exact h.rat iSize
  have HXQ : Hid (∀ W, Below wd.heap.size wd W → RAt Pt.arr 2 W (.slice (some ⟨gQ, 0, none⟩) nQ kQ) lQ) := fun W hb => by obtain ⟨_, h⟩ := (HL.out.on hb).mQ; rw [HNQ.out]; exact h.rat Pt.size
  have HYE : Hid (∀ W, Below wd.heap.size wd W → RAt Eg.arr 3 W (.slice aE nE cE) lE) := fun W hb => (HL.out.on hb).rE
  have HYP : Hid (∀ W, Below wd.heap.size wd W → RAt Pt.arr 2 W (.slice aP nP cP) lP) := fun W hb => (HL.out.on hb).rP
  have HYI : Hid (∀ W, Below wd.heap.size wd W → RAt iArr 1 W (.slice aI nI cI) lI) := fun W hb => (HL.out.on hb).rI
  have HYQ : Hid (∀ W, Below wd.heap.size wd W → RAt Pt.arr 2 W (.slice aQ nQ cQ) lQ) := fun W hb => (HL.out.on hb).rQ
  have HMK : Hid (∀ W, Below wd.heap.size wd W → (W.cell? ⟨gE, nE * 3, none⟩ = some (.int .i64 (-71)) ∧ W.cell? ⟨gE, (nE + 1) * 3, none⟩ = some (.int .i64 (-72))) ∧ (W.cell? ⟨gP, nP * 2, none⟩ = some (.int .i64 (-73)) ∧ W.cell? ⟨gP, (nP + 1) * 2, none⟩ = some (.int .i64 (-74))) ∧ (W.cell? ⟨gI, nI, none⟩ = some (.int .i64 (-75)) ∧ W.cell? ⟨gI, nI + 1, none⟩ = some (.int .i64 (-76))) ∧ (W.cell? ⟨gQ, nQ * 2 + 1, none⟩ = some (.int .i64 (-77)) ∧ W.cell? ⟨gQ, (nQ + 1) * 2 + 1, none⟩ = some (.int .i64 (-78)))) := fun W hb => by
    obtain ⟨_, h1⟩ := (HL.out.on hb).mE
    obtain ⟨_, h2⟩ := (HL.out.on hb).mP
    obtain ⟨_, h3⟩ := (HL.out.on hb).mI
    obtain ⟨_, h4⟩ := (HL.out.on hb).mQ
    rw [HNE.out, HNP.out, HNI.out, HNQ.out]
    have a5 := h3.mark1 iSize 0 _ rfl
    have a6 := h3.mark2 iSize 0 _ rfl
    simp only [Nat.mul_one, Nat.add_zero] at a5 a6
    exact ⟨⟨h1.mark1 Eg.size 0 _ rfl, h1.mark2 Eg.size 0 _ rfl⟩, ⟨h2.mark1 Pt.size 0 _ rfl, h2.mark2 Pt.size 0 _ rfl⟩, ⟨a5, a6⟩, ⟨h4.mark1 Pt.size 1 _ rfl, h4.mark2 Pt.size 1 _ rfl⟩⟩
  have HEnd : Hid (∀ W, Below wd.heap.size wd W → Below w.heap.size w W) := fun W hb => (HL.out.on hb).bel
  have HRG : Hid ((kE ≤ 9223372036854775807 ∧ kP ≤ 9223372036854775807) ∧ (kI ≤ 9223372036854775807 ∧ kQ ≤ 9223372036854775807)) := by
    obtain ⟨_, h1⟩ := HL.out.mE
    obtain ⟨_, h2⟩ := HL.out.mP
    obtain ⟨_, h3⟩ := HL.out.mI
    obtain ⟨_, h4⟩ := HL.out.mQ
    exact ⟨⟨h1.cap.2.1, h2.cap.2.1⟩, h3.cap.2.1, h4.cap.2.1⟩
  clear HL HPW
  have HBX : Hid (Below wd.heap.size wd wd) := Below.refl _ _
  obtain ⟨q0, q1⟩ := HK.out _ HBX.out
  have jE : (nE : Int) ≤ kE := by have := HKE.out; omega
  have jP : (nP : Int) ≤ kP := by have := HKP.out; omega
  have jI : (nI : Int) ≤ kI := by have := HKI.out; omega
  have jQ : (nQ : Int) ≤ kQ := by have := HKQ.out; omega
  go_region_held3 (fun X => X.cell? ⟨w.heap.size, 0, none⟩ = some (.int .i64 N) ∧ X.cell? ⟨w.heap.size, 1, none⟩ = some (.slice aE nE cE)) (first | go_keep | exact HK.out _ HBX.out) (first
    | (go_at_call 4; refine (P1.out _ _ (HXE.out _ (by first | exact HBX.out | exact below_drew HBX.out)) (HPo.out _ (by first | exact HBX.out | exact below_drew HBX.out))).mono ?_; rintro e we ⟨rfl, hb⟩; replace HBX := hide (below_on (by first | exact HBX.out | exact below_drew HBX.out) hb); clear hb)
    | fail)
  clear q0 q1
  obtain ⟨q0, q1⟩ := HK.out _ HBX.out
  go_upto_region 29 with (first
    | (go_at_call 5; refine (R1.out _ _ (HYE.out _ HBX.out)).mono ?_; rintro e wn5 ⟨rfl, hb⟩; replace HBX := hide (below_on HBX.out hb); clear hb q0 q1; obtain ⟨q0, q1⟩ := HK.out _ HBX.out)
    | (go_at_call 6; refine (no_any _ _).mono ?_; rintro e wn6 ⟨rfl, hb⟩; subst hb)
    | (go_at_call 7; refine (P2.out _ _ (HXP.out _ HBX.out) (HPo.out _ HBX.out)).mono ?_; rintro e wn7 ⟨rfl, hb⟩; replace HBX := hide (below_on HBX.out hb); clear hb q0 q1; obtain ⟨q0, q1⟩ := HK.out _ HBX.out)
    | (go_at_call 8; refine (R2.out _ _ (HYP.out _ HBX.out)).mono ?_; rintro e wn8 ⟨rfl, hb⟩; replace HBX := hide (below_on HBX.out hb); clear hb q0 q1; obtain ⟨q0, q1⟩ := HK.out _ HBX.out)
    | (go_at_call 9; refine (P3.out _ _ (HXI.out _ HBX.out) (HPo.out _ HBX.out)).mono ?_; rintro e wn9 ⟨rfl, hb⟩; replace HBX := hide (below_on HBX.out hb); clear hb q0 q1; obtain ⟨q0, q1⟩ := HK.out _ HBX.out)
    | (go_at_call 10; refine (R3.out _ _ (HYI.out _ HBX.out)).mono ?_; rintro e wn10 ⟨rfl, hb⟩; replace HBX := hide (below_on HBX.out hb); clear hb q0 q1; obtain ⟨q0, q1⟩ := HK.out _ HBX.out)
    | (go_at_call 11; refine (P4.out _ _ (HXQ.out _ HBX.out) (HPo.out _ HBX.out)).mono ?_; rintro e wn11 ⟨rfl, hb⟩; replace HBX := hide (below_on HBX.out hb); clear hb q0 q1; obtain ⟨q0, q1⟩ := HK.out _ HBX.out)
    | (go_at_call 12; refine (R4.out _ _ (HYQ.out _ HBX.out)).mono ?_; rintro e wn12 ⟨rfl, hb⟩; replace HBX := hide (below_on HBX.out hb); clear hb q0 q1; obtain ⟨q0, q1⟩ := HK.out _ HBX.out)
    | fail)
  clear P1 P2 P3 P4 R1 R2 R3 R4
  go_region_held3 (fun X => X.cell? ⟨w.heap.size, 0, none⟩ = some (.int .i64 N) ∧ X.cell? ⟨w.heap.size, 1, none⟩ = some (.slice aE nE cE)) (first | go_keep | exact HK.out _ HBX.out) (first
    | (go_at_call 13; refine (sameRoads_any N _ _ lE _ (HXE.out _ (by first | exact HBX.out | exact below_drew HBX.out)) (HYE.out _ (by first | exact HBX.out | exact below_drew HBX.out))).mono ?_; rintro e wm13 ⟨rfl, hb⟩; replace HBX := hide (below_on (by first | exact HBX.out | exact below_drew HBX.out) hb); clear hb)
    | (go_at_call 14; refine (samePoints_any _ _ lP _ (HXP.out _ (by first | exact HBX.out | exact below_drew HBX.out)) (HYP.out _ (by first | exact HBX.out | exact below_drew HBX.out))).mono ?_; rintro e wm14 ⟨rfl, hb⟩; replace HBX := hide (below_on (by first | exact HBX.out | exact below_drew HBX.out) hb); clear hb)
    | (go_at_call 15; refine (sameInts_any _ _ lI _ (HXI.out _ (by first | exact HBX.out | exact below_drew HBX.out)) (HYI.out _ (by first | exact HBX.out | exact below_drew HBX.out))).mono ?_; rintro e wm15 ⟨rfl, hb⟩; replace HBX := hide (below_on (by first | exact HBX.out | exact below_drew HBX.out) hb); clear hb)
    | (go_at_call 16; refine (sameQueries_any _ _ lQ _ (HXQ.out _ (by first | exact HBX.out | exact below_drew HBX.out)) (HYQ.out _ (by first | exact HBX.out | exact below_drew HBX.out))).mono ?_; rintro e wm16 ⟨rfl, hb⟩; replace HBX := hide (below_on (by first | exact HBX.out | exact below_drew HBX.out) hb); clear hb)
    | fail)
  obtain ⟨⟨m1, m2⟩, ⟨m3, m4⟩, ⟨m5, m6⟩, m7, m8⟩ := HMK.out _ HBX.out
  have l1 : IntKind.i64.wrap ((nE : Int) + 1) = (nE : Int) + 1 := IntWalk.i64_in _ (by have := HKE.out; have := HRG.out.1.1; omega)
  have l2 : IntKind.i64.wrap ((nP : Int) + 1) = (nP : Int) + 1 := IntWalk.i64_in _ (by have := HKP.out; have := HRG.out.1.2; omega)
  have l3 : IntKind.i64.wrap ((nI : Int) + 1) = (nI : Int) + 1 := IntWalk.i64_in _ (by have := HKI.out; have := HRG.out.2.1; omega)
  have l4 : IntKind.i64.wrap ((nQ : Int) + 1) = (nQ : Int) + 1 := IntWalk.i64_in _ (by have := HKQ.out; have := HRG.out.2.2; omega)
  have jE2 : (nE : Int) + 2 ≤ kE := by have := HKE.out; omega
  have jP2 : (nP : Int) + 2 ≤ kP := by have := HKP.out; omega
  have jI2 : (nI : Int) + 2 ≤ kI := by have := HKI.out; omega
  have jQ2 : (nQ : Int) + 2 ≤ kQ := by have := HKQ.out; omega
  go_wp2_with fail
  go_ret
  exact ⟨rfl, HEnd.out _ HBX.out⟩
end Go.Proofs.YtmejgjhijdcahaaDoor
