/- heads. -/
import Derived.Test.YtahhlmmdmjocdaaDoorWrong
import Derived.Lib.SlBytesConst
namespace Go.Proofs.YtahhlmmdmjocdaaDoor
open Go.RowKit Go.Lib
set_option linter.unusedVariables false

theorem SumsAt.belB {w w' : World} {B : Nat} (h : SumsAt w) (hb : Below B w w') (hB : 0 < B) : SumsAt w' := ⟨Nat.lt_of_lt_of_le h.1 hb.size, fun i hi => (below_cell hb hB).trans (h.2 i hi)⟩
theorem SumsAt.but {w w' : World} {r : Nat} (h : SumsAt w) (hb : But r w w') (hr : 0 < r) : SumsAt w' := ⟨Nat.lt_of_lt_of_le h.1 hb.size, fun i hi => by
  rw [← h.2 i hi]
  unfold World.cell?
  rw [hb.block 0 h.1 (by omega)]⟩

set_option maxRecDepth 100000 in
theorem no_any (x : Int) (w : World) : Calls Tryd.prog 7 #[.int .i64 x] w fun e w' => e = .returned (.int .i64 x) ∧ w' = w := by
  go_enter Tryd.func7, Tryd.ntmps7
  go_wp2
  go_ret
  exact ⟨rfl, rfl⟩

set_option maxRecDepth 100000 in
theorem out_own (w : World) (B b : Nat) (v : Value) (bs : List Int) (h : WOwn w B b v bs) (hbig : bs.length ≤ 175921860444160) :
    Calls Tryd.prog 14 #[.pointer (some ⟨b, 0, none⟩)] w fun e w' => ∃ v', e = .returned v' ∧ w'.ownsRow w.heap.size 5 1 v' bs.length (bs.map (Value.int .u8)) ∧ Below w.heap.size w w' := by
  have c0 := cell_of h.hb (i := 0) rfl
  have HC := hide (clone_any v bs w (RowAt.of_owns h.own) hbig)
  obtain ⟨ao, c, rfl⟩ := own_shape h.own
  clear h
  go_enter Tryd.func14, Tryd.ntmps14
  go_wp2_with fail
  refine HC.out.mono ?_
  rintro e w' ⟨v', rfl, hown, hb⟩
  have HO := hide hown; have HB := hide hb
  obtain ⟨ao', c', rfl⟩ := own_shape hown
  clear hown hb
  go_wp2
  go_ret
  exact ⟨_, rfl, HO.out, HB.out⟩

theorem own_write0 {w : World} {B : Nat} {v : Value} {x y : Int} {xs : List Int} (h : w.ownsRow B 5 1 v (x :: xs).length ((x :: xs).map (Value.int .u8))) (hB : B ≤ w.heap.size) :
    ∃ g c, v = .slice (some ⟨g, 0, none⟩) (xs.length + 1) c ∧ w.frozen? ⟨g, 0, none⟩ = false ∧ RowAt .u8 w (.slice (some ⟨g, 0, none⟩) (xs.length + 1) c) (x :: xs) ∧
      RowAt .u8 (w.setCell ⟨g, 0, none⟩ (.int .u8 y)) (.slice (some ⟨g, 0, none⟩) (xs.length + 1) c) (y :: xs) ∧ Below B w (w.setCell ⟨g, 0, none⟩ (.int .u8 y)) := by
  have hr := RowAt.of_owns h
  obtain ⟨hl, ⟨_, h0⟩ | ⟨g, cap, cur, rfl, hg, hh, hnc, hcm, hcur, htake⟩⟩ := h
  · simp at h0
  · refine ⟨g, cap, rfl, free_of hh 0, hr, ?_, (Below.refl _ _).setCell hg _⟩
    have hown2 : (w.setCell ⟨g, 0, none⟩ (.int .u8 y)).ownsRow B 5 1 (.slice (some ⟨g, 0, none⟩) (y :: xs).length cap) (y :: xs).length ((y :: xs).map (Value.int .u8)) := by
      refine ⟨by simp, .inr ⟨g, cap, cur.setIfInBounds 0 (.int .u8 y), rfl, hg, heap_set hh _, hnc, hcm, by simpa using hcur, ?_⟩⟩
      obtain ⟨l⟩ := cur
      cases l with
      | nil => simp at hcur htake
      | cons a r =>
        simp at htake ⊢
        exact htake.2
    exact RowAt.of_owns hown2

theorem le258 : ([] : List Int) ++ le 258 2 = [2, 1] := by decide
theorem enc300 : ([2, 1] : List Int) ++ enc 300 = [2, 1, 172, 2] := by
  rw [enc_big (by decide), enc_small (by decide)]
  decide
theorem crc9 : crc [49, 50, 51, 52, 53, 54, 55, 56, 57] = 3808858755 := by decide +kernel
theorem sealed8 : ([2, 1, 172, 2] : List Int) ++ le (crc [2, 1, 172, 2]) 4 = [2, 1, 172, 2, 80, 49, 172, 228] := by
  rw [show crc [2, 1, 172, 2] = 3836490064 by decide +kernel]
  decide
theorem crcA : vals8 [80, 49, 172, 228] ≠ crc ((([3, 1, 172, 2, 80, 49, 172, 228] : List Int).take 4).drop 0) := by
  rw [show crc ((([3, 1, 172, 2, 80, 49, 172, 228] : List Int).take 4).drop 0) = 971611112 by decide +kernel]
  decide
theorem crcB : vals8 [80, 49, 172, 228] ≠ crc ((([3, 1, 172, 2, 80, 49, 172, 228] : List Int).take 4).drop 4) := by
  rw [show crc ((([3, 1, 172, 2, 80, 49, 172, 228] : List Int).take 4).drop 4) = 0 by decide +kernel]
  decide

theorem nine_row (w : World) : RowAt .u8 (w.alloc (.cells #[.int .u8 49, .int .u8 50, .int .u8 51, .int .u8 52, .int .u8 53, .int .u8 54, .int .u8 55, .int .u8 56, .int .u8 57] 5 (9, 10))) (.slice (some ⟨w.heap.size, 0, none⟩) 9 9) [49, 50, 51, 52, 53, 54, 55, 56, 57] := by
  have hh : (w.alloc (.cells #[.int .u8 49, .int .u8 50, .int .u8 51, .int .u8 52, .int .u8 53, .int .u8 54, .int .u8 55, .int .u8 56, .int .u8 57] 5 (9, 10))).heap[w.heap.size]? = some (.cells #[.int .u8 49, .int .u8 50, .int .u8 51, .int .u8 52, .int .u8 53, .int .u8 54, .int .u8 55, .int .u8 56, .int .u8 57] 5 (9, 10)) := heap_new _ _
  refine ⟨_, 9, rfl, by simp, by decide, (fun e => by cases e), fun a ha i hi => ?_⟩
  cases ha
  rw [Addr.add_lit]
  simp only [World.cell?, hh]
  match i, hi with
  | 0, _ => rfl
  | 1, _ => rfl
  | 2, _ => rfl
  | 3, _ => rfl
  | 4, _ => rfl
  | 5, _ => rfl
  | 6, _ => rfl
  | 7, _ => rfl
  | 8, _ => rfl

set_option maxRecDepth 100000 in
set_option maxHeartbeats 4000000 in
theorem heads_any (W0 : World) (hs : SumsAt W0) : Calls Tryd.prog 4 #[] W0 fun e w' => e = .returned (.bool true) ∧ Below W0.heap.size W0 w' := by
  have hpos := hs.1
  have HS := hide hs
  clear hs
  go_enter Tryd.func4, Tryd.ntmps4
  go_wp2_with fail
  refine (newWriter_any W0).mono ?_
  rintro e w1 ⟨b, rfl, hw1, hb1⟩
  have HWD := hide (word_any w1 W0.heap.size b _ [] 258 2 hw1 hb1.size (by decide) (by decide) (by decide) (by decide) (by simp))
  rw [le258] at HWD
  have HB1 := hide hb1
  clear hw1 hb1
  go_wp2_with fail
  refine HWD.out.mono ?_
  rintro e w2 ⟨rfl, v2, hw2, ht2⟩
  have HB2 := hide (HB1.out.trans ht2.bel)
  have HVA := hide (var_any w2 W0.heap.size b v2 [2, 1] 300 hw2 HB2.out.size (by decide) (by simp))
  rw [enc300] at HVA
  clear hw2 ht2 HB1 HWD
  go_wp2_with fail
  refine HVA.out.mono ?_
  rintro e w3 ⟨rfl, v3, hw3, ht3⟩
  have HB3 := hide (HB2.out.trans ht3.bel)
  have HSE := hide (seal_zero w3 W0.heap.size b v3 [2, 1, 172, 2] hw3 HB3.out.size (HS.out.belB HB3.out hpos) (by decide) (by simp) (by simp))
  rw [sealed8] at HSE
  clear hw3 ht3 HB2 HVA
  go_wp2_with fail
  refine HSE.out.mono ?_
  rintro e w4 ⟨rfl, v4, hw4, ht4⟩
  have HB4 := hide (HB3.out.trans ht4.bel)
  have HOU := hide (out_own w4 W0.heap.size b v4 _ hw4 (by simp))
  clear hw4 ht4 HB3 HSE
  go_wp2_with fail
  refine HOU.out.mono ?_
  rintro e w5 ⟨v5, rfl, hown5, hb5⟩
  obtain ⟨g, c, rfl, hfz, hrow5, hrow6, hb6⟩ := own_write0 (y := 3) hown5 hb5.size
  have HB5 := hide (HB4.out.trans (hb5.mono HB4.out.size))
  have HB6 := hide (HB5.out.trans (hb6.mono HB4.out.size))
  have HR6 := hide hrow6
  obtain ⟨g', o', c', he, hcc, _, hcell⟩ := hrow5.spot (by simp)
  simp only [Value.slice.injEq, Option.some.injEq, Addr.mk.injEq, and_true] at he
  obtain ⟨⟨rfl, rfl⟩, _, rfl⟩ := he
  have q0 := hcell 0 (by simp); have q1 := hcell 1 (by simp); have q2 := hcell 2 (by simp); have q3 := hcell 3 (by simp)
  simp only [List.getElem?_cons_zero, List.getElem?_cons_succ, Option.getD_some, Nat.zero_add] at q0 q1 q2 q3
  clear hown5 hb5 hrow5 hrow6 hb6 hcell HOU
  go_wp2_with fail
  refine (no_any 0 _).mono ?_
  rintro e w6 ⟨rfl, rfl⟩
  go_wp2_with fail
  refine (no_any 0 _).mono ?_
  rintro e w7 ⟨rfl, rfl⟩
  go_wp2_with fail
  refine (newReader_any _ _ _ HR6.out (by simp)).mono ?_
  rintro e w8 ⟨r, rfl, hr8, hrd8, hb8⟩
  have hrpos : 0 < r ∧ W0.heap.size ≤ r := by have h1 := HB6.out.size; omega
  have HB8 := hide (below_on HB6.out hb8)
  have HSK := hide (seek_any w8 r 0 4 _ hrd8 (by simp) (by simp))
  clear hrd8 hb8 hr8 HR6 q0 q1 q2 q3 hfz
  go_wp2_with fail
  refine HSK.out.mono ?_
  rintro e w9 ⟨rfl, hrd9, hbt9⟩
  have HB9 := hide (hbt9.below HB8.out hrpos.2 HB8.out.size)
  have HSA := hide (sealed_wrong w9 r 4 0 _ [80, 49, 172, 228] hrd9 (by decide) rfl (by decide) (by simp) (by simp) (by omega) (HS.out.belB HB9.out hpos) hrpos.1 (by decide) crcA)
  clear hrd9 hbt9 HSK
  go_wp2_with fail
  refine HSA.out.mono ?_
  rintro e w10 ⟨rfl, hrd10, hbt10⟩
  have HB10 := hide (hbt10.below HB9.out hrpos.2 HB9.out.size)
  have HSB := hide (sealed_wrong w10 r 4 4 _ [80, 49, 172, 228] hrd10 (by decide) rfl (by decide) (by simp) (by simp) (by omega) (HS.out.belB HB10.out hpos) hrpos.1 (by decide) crcB)
  clear hrd10 hbt10 HSA
  go_wp2_with fail
  refine HSB.out.mono ?_
  rintro e w11 ⟨rfl, hrd11, hbt11⟩
  have HB11 := hide (hbt11.below HB10.out hrpos.2 HB10.out.size)
  clear hrd11 hbt11 HSB
  go_wp2_with fail
  refine (no_any 0 _).mono ?_
  rintro e w12 ⟨rfl, rfl⟩
  go_wp2_with fail
  refine (no_any 43 _).mono ?_
  rintro e w13 ⟨rfl, rfl⟩
  go_wp2_with fail
  refine (no_any 43 _).mono ?_
  rintro e w14 ⟨rfl, rfl⟩
  have HCR := hide (crc_any _ _ _ (nine_row w14) (HS.out.belB (HB11.out.alloc HB11.out.size _) hpos) (by decide) (by simp))
  rw [crc9] at HCR
  have hcv := Lib.run_convert_bytes_const (P := Tryd.prog) w14 37 5 #[.int .u8 49, .int .u8 50, .int .u8 51, .int .u8 52, .int .u8 53, .int .u8 54, .int .u8 55, .int .u8 56, .int .u8 57] 9 9 Tryd.underlying37 Tryd.underlying5
  go_wp2_with fail
  refine HCR.out.mono ?_
  rintro e w15 ⟨rfl, hw15⟩
  subst hw15
  have HB15 := hide (HB11.out.alloc HB11.out.size (.cells #[.int .u8 49, .int .u8 50, .int .u8 51, .int .u8 52, .int .u8 53, .int .u8 54, .int .u8 55, .int .u8 56, .int .u8 57] 5 (9, 10)))
  go_wp2
  go_ret
  exact ⟨rfl, HB15.out⟩
end Go.Proofs.YtahhlmmdmjocdaaDoor
