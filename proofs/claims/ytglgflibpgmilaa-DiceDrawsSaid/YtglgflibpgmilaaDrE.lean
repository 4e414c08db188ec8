/- DiceDraws: the law, with a second pair. -/
import Derived.Test.YtglgflibpgmilaaDrD
namespace Go.Proofs.Ytglgflibpgmilaa
open Go.RowKit Go.Lib
set_option linter.unusedVariables false
theorem PS.made {w0 w : World} {B b1 b2 base : Nat} {all : List Int} {s : St} {v : Value} (hh : w0.heap[b1]? = some (DObj (fnv 41) v s 0)) (hw : WordsAt w0 b1 v all) (k : Below w0.heap.size w0 w) (hr : RefIs w base b2 all s 0) (hlo : LoV B v) (hb : B ≤ b1) (hlt : b1 < base) : PS w B b1 b2 base all s := by
  have hh5 : w.heap[b1]? = some (DObj (fnv 41) v s 0) := (k.block b1 (lt_of_heap hh)).trans hh
  obtain ⟨fn, v', a1, a2, _⟩ := (show DiceIs w0 b1 all s 0 from ⟨_, v, hh, hw, .inl rfl⟩).below k
  rw [hh5] at a1
  have : v = v' := by unfold DObj at a1; simp at a1; exact a1.2
  subst this
  exact ⟨⟨v, hh5, a2, hlo⟩, hr, hb, hlt⟩
set_option maxRecDepth 100000 in
set_option maxHeartbeats 4000000 in
theorem draws_pos (seed : Nat) (hseed : seed < 18446744073709551616) (kn : Nat) (hkn : kn < 9223372036854775808) (v1 v2 v3 : Value) (xs ys : List Int) (ops : List Op3) (w : World) (h1 : RowAt .u64 w v1 xs) (h2 : RowAt .u64 w v2 ys) (h3 : SAt w v3 ops)
    (hx : Words xs) (hy : Words ys) (hlx : xs.length * 8 ≤ 140737488351232) (hly : ys.length * 8 ≤ 140737488351232) (hlo : ops.length * 24 ≤ 140737488351232) (hok : ∀ (i : Nat) (x : Op3), ops[i]? = some x → x.n < 18446744073709551616) :
    Calls Try.prog 3 #[.int .u64 (seed : Int), .int .i64 (kn : Int), v1, v2, v3] w fun e w' => e = .returned (.bool true) ∧ Below w.heap.size w w' := by
  have HX := hide h1; have HY := hide h2; have HSx := hide hx; have HSy := hide hy; have HLX := hide hlx; have HLY := hide hly; have HLO := hide hlo; have HOK := hide hok; have HSD := hide hseed; have HKN := hide hkn
  obtain ⟨ao, cap, rfl, hc1, hc2⟩ := h3.shape
  have HP := hide (fun i hi => h3.at i hi)
  clear h1 h2 h3 hx hy hlx hly hlo hok hseed hkn
  obtain ⟨n, hn⟩ : ∃ n, n = ops.length := ⟨_, rfl⟩
  have HN := hide hn
  rw [← hn] at hc1 ⊢
  clear hn
  go_enter Try.func3, Try.ntmps3
  go_wp2_with fail
  refine (given3_any v1 xs w HX.out (by have := HLX.out; omega)).mono ?_
  rintro e w1 ⟨g1, c1, rfl, hg1, hf1, hi1, k1, ho1⟩
  have HF1 := hide hf1; have HI1 := hide hi1; have HK1 := hide k1; have HO1 := hide (show Own22 w1 g1 xs.length from ho1); have HG1 := hide hg1
  clear hf1 hi1 k1 ho1 hg1
  go_wp2_with fail
  refine (given3_any v2 ys w1 (HY.out.below22 HK1.out) (by have := HLY.out; omega)).mono ?_
  rintro e w2 ⟨g2, c2, rfl, hg2, hf2, hi2, k2, ho2⟩
  have HF2 := hide hf2; have HI2 := hide hi2; have HK2 := hide k2; have HO2 := hide (show Own22 w2 g2 ys.length from ho2); have HG2 := hide hg2
  clear hf2 hi2 k2 ho2 hg2
  go_wp2_with fail
  refine (new_lo seed _ xs w2 (HI1.out.below22 HK2.out) (by have := HLX.out; omega) HSD.out).mono ?_
  rintro e w3 ⟨b1, u1, rfl, hb1, hh1, hw1, k3, hlo1⟩
  have HB1 := hide hb1; have HH1 := hide hh1; have HW1 := hide hw1; have HK3 := hide k3; have HL1 := hide hlo1
  clear hb1 hh1 hw1 k3 hlo1
  go_wp2_with fail
  refine (for_lo seed kn _ ys w3 (HI2.out.below22 HK3.out) (by have := HLY.out; omega) HSD.out HKN.out).mono ?_
  rintro e w4 ⟨b3, u3, rfl, hb3, hh3, hw3, k4, hlo3⟩
  have HB3 := hide hb3; have HH3 := hide hh3; have HW3 := hide hw3; have HK4 := hide k4; have HL3 := hide hlo3
  clear hb3 hh3 hw3 k4 hlo3
  have LX : Hid (Below w.heap.size w w4) := ((HK1.out.trans (HK2.out.mono HK1.out.size)).trans (HK3.out.mono (Nat.le_trans HK1.out.size HK2.out.size))).trans (HK4.out.mono (Nat.le_trans HK1.out.size (Nat.le_trans HK2.out.size HK3.out.size)))
  go_wp2_with fail
  refine (refNew_any seed _ xs w4 (HX.out.below22 LX.out) (by have := HLX.out; omega) HSD.out).mono ?_
  rintro e w5 ⟨b2, rfl, hb2, hr2, k5⟩
  have HB2 := hide hb2; have HR2 := hide hr2; have HK5 := hide k5
  clear hb2 hr2 k5
  go_wp2_with fail
  refine (refFor_any seed kn _ ys w5 (HY.out.below22 (LX.out.trans (HK5.out.mono LX.out.size))) (by have := HLY.out; omega) HSD.out HKN.out).mono ?_
  rintro e w6 ⟨b4, rfl, hb4, hr4, k6⟩
  have HB4 := hide hb4; have HR4 := hide hr4; have HK6 := hide k6
  clear hb4 hr4 k6
  have L6 : Hid (Below w4.heap.size w4 w6) := HK5.out.trans (HK6.out.mono HK5.out.size)
  have LD0 : Hid (Below w3.heap.size w3 w6) := HK4.out.trans (L6.out.mono HK4.out.size)
  have LC : Hid (Below w2.heap.size w2 w6) := HK3.out.trans (LD0.out.mono HK3.out.size)
  have LB : Hid (Below w1.heap.size w1 w6) := HK2.out.trans (LC.out.mono HK2.out.size)
  have LA : Hid (Below w.heap.size w w6) := HK1.out.trans (LB.out.mono HK1.out.size)
  go_wp2_with fail
  refine (no_any _ _).mono ?_
  rintro e w3' ⟨rfl, rfl⟩
  go_wp2_with fail
  refine (kept_any _ _ xs _ (HF1.out.below22 LB.out) (HX.out.below22 LA.out) (by have := HLX.out; omega)).mono ?_
  rintro e w7 ⟨rfl, k7⟩
  have HK7 := hide k7
  clear k7
  go_wp2_with fail
  refine (kept_any _ _ ys _ ((HF2.out.below22 LC.out).below22 HK7.out) ((HY.out.below22 LA.out).below22 HK7.out) (by have := HLY.out; omega)).mono ?_
  rintro e w8 ⟨rfl, k8⟩
  have LP : Hid (PS w8 w2.heap.size b1 b2 w4.heap.size xs (newSt seed)) := by
    have p := PS.made HH1.out HW1.out LD0.out (HR2.out.below HK6.out) HL1.out HB1.out (Nat.lt_of_lt_of_le (lt_of_heap HH1.out) HK4.out.size)
    exact (p.below HK7.out).below k8
  have LQ : Hid (PS w8 w3.heap.size b3 b4 w5.heap.size ys (newSt (wseed seed kn))) := by
    have p := PS.made HH3.out HW3.out L6.out HR4.out HL3.out HB3.out (Nat.lt_of_lt_of_le (lt_of_heap HH3.out) HK5.out.size)
    exact (p.below HK7.out).below k8
  have LO1 : Hid (Own22 w8 g1 xs.length) := ((HO1.out.below LB.out).below HK7.out).below k8
  have LO2 : Hid (Own22 w8 g2 ys.length) := ((HO2.out.below LC.out).below HK7.out).below k8
  have LW : Hid (Below w.heap.size w w8) := (LA.out.trans (HK7.out.mono LA.out.size)).trans (k8.mono (Nat.le_trans LA.out.size HK7.out.size))
  have q1 : Hid (w.heap.size ≤ g1 ∧ g1 < g2 ∧ g2 < w2.heap.size) := by
    obtain ⟨cs1, p1, _⟩ := HO1.out
    obtain ⟨cs2, p2, _⟩ := HO2.out
    have := lt_of_heap p1; have := lt_of_heap p2; have := HG1.out; have := HG2.out
    exact ⟨by omega, by omega, by omega⟩
  have q2 : Hid (w.heap.size ≤ w2.heap.size ∧ w.heap.size ≤ b2 ∧ w.heap.size ≤ w8.heap.size) := ⟨Nat.le_trans HK1.out.size HK2.out.size, Nat.le_trans LX.out.size HB2.out, LW.out.size⟩
  have q5 : Hid (w2.heap.size ≤ w3.heap.size ∧ b1 < b3 ∧ b3 < b2 ∧ b2 < b4) := ⟨HK3.out.size, Nat.lt_of_lt_of_le (lt_of_heap HH1.out) HB3.out, Nat.lt_of_lt_of_le (lt_of_heap HH3.out) HB2.out, Nat.lt_of_lt_of_le HR2.out.lt HB4.out⟩
  clear k8 HF1 HI1 HK1 HO1 HG1 HF2 HI2 HK2 HO2 HG2 HB1 HL1 HH1 HW1 HK3 HB2 HR2 HK5 LA LB LC HK7 HX HY HB3 HH3 HW3 HK4 HL3 LX HB4 HR4 HK6 L6 LD0
  go_wp2_with fail
  go_loopw [21] (fun t wr => ∃ k : Nat, k ≤ xs.length ∧ t = .int .i64 k ∧ Own22 wr g1 xs.length ∧ But g1 w8 wr) (fun t _ => xs.length - (RowKit.intOf t).toNat)
  case atStart => exact ⟨0, by omega, rfl, LO1.out, But.refl _ _⟩
  case round =>
    obtain ⟨k, hk, rfl, ho, hb⟩ := hrel
    by_cases hlt : k < xs.length
    · obtain ⟨⟨u, hu⟩, hf⟩ := ho.at k hlt
      have hkm : (k : Int) + 1 ≤ 9223372036854775807 := by have := HLX.out; omega
      have HOo := hide ho; have HBb := hide hb
      clear ho hb
      go_wp2_with fail
      go_roundw
      case rel => exact ⟨k + 1, by omega, by go_num, HOo.out.set k _, HBb.out.trans (But.setCell _ ⟨g1, k, none⟩ _)⟩
      case measure => simp [RowKit.intOf]; omega
    · have LO2' : Hid (Own22 wr g2 ys.length) := LO2.out.but hb (by have := q1.out; omega)
      have LP' : Hid (PS wr w2.heap.size b1 b2 w4.heap.size xs (newSt seed)) := LP.out.but hb (by have := q1.out; omega)
      have LQ' : Hid (PS wr w3.heap.size b3 b4 w5.heap.size ys (newSt (wseed seed kn))) := LQ.out.but hb (by have := q1.out; have := q5.out; omega)
      have LW' : Hid (Below w.heap.size w wr) := But.below LW.out hb q1.out.1 q2.out.2.2
      have q3 : Hid (w.heap.size ≤ wr.heap.size) := LW'.out.size
      clear ho hb LO1 LO2 LP LQ LW
      go_wp2_with fail
      go_loopw [22] (fun t wr' => ∃ k : Nat, k ≤ ys.length ∧ t = .int .i64 k ∧ Own22 wr' g2 ys.length ∧ But g2 wr wr') (fun t _ => ys.length - (RowKit.intOf t).toNat)
      case atStart => exact ⟨0, by omega, rfl, LO2'.out, But.refl _ _⟩
      case round =>
        obtain ⟨k', hk', rfl, ho, hb⟩ := hrel
        by_cases hlt' : k' < ys.length
        · obtain ⟨⟨u, hu⟩, hf⟩ := ho.at k' hlt'
          have hkm : (k' : Int) + 1 ≤ 9223372036854775807 := by have := HLY.out; omega
          have HOo := hide ho; have HBb := hide hb
          clear ho hb
          go_wp2_with fail
          go_roundw
          case rel => exact ⟨k' + 1, by omega, by go_num, HOo.out.set k' _, HBb.out.trans (But.setCell _ ⟨g2, k', none⟩ _)⟩
          case measure => simp [RowKit.intOf]; omega
        · have LP2 : Hid (PS wr w2.heap.size b1 b2 w4.heap.size xs (newSt seed)) := LP'.out.but hb (by have := q1.out; omega)
          have LQ2 : Hid (PS wr w3.heap.size b3 b4 w5.heap.size ys (newSt (wseed seed kn))) := LQ'.out.but hb (by have := q1.out; have := q5.out; omega)
          have LW2 : Hid (Below w.heap.size w wr) := But.below LW'.out hb (by have := q1.out; omega) q3.out
          have LD : Hid (DP wr b1 b2 w4.heap.size xs (newSt seed) 0) := LP2.out.dp
          have LE : Hid (DP wr b3 b4 w5.heap.size ys (newSt (wseed seed kn)) 0) := LQ2.out.dp
          have q4 : Hid (w.heap.size ≤ b1 ∧ b1 < b3 ∧ b3 < b2 ∧ b2 < b4) := ⟨Nat.le_trans q2.out.1 LP2.out.lo, q5.out.2⟩
          generalize w4.heap.size = base at LD
          generalize w5.heap.size = base' at LE
          obtain ⟨sd2, hsd2⟩ : ∃ z, z = newSt (wseed seed kn) := ⟨_, rfl⟩
          have HSD2 : Hid sd2.Ok := by rw [hsd2]; exact newSt_ok _
          rw [← hsd2] at LE
          clear hsd2
          clear ho hb LO2' LP' LQ' LW' LP2 LQ2 q1 q2 q3 q5
          go_wp2_with fail
          go_loopw [23] (fun t wr => ∃ k : Nat, k ≤ n ∧ t = .int .i64 k ∧ ∃ s u s2 u2, s.Ok ∧ u ≤ k * 1048576 ∧ DP wr b1 b2 base xs s u ∧ Below w.heap.size w wr ∧ s2.Ok ∧ u2 ≤ k * 1048576 ∧ DP wr b3 b4 base' ys s2 u2) (fun t _ => n - (RowKit.intOf t).toNat)
          case atStart => exact ⟨0, by omega, rfl, _, 0, _, 0, newSt_ok seed, by omega, LD.out, LW2.out, HSD2.out, by omega, LE.out⟩
          case round =>
            clear LD LW2 LE HSD2
            obtain ⟨j, hj, rfl, s, u, s2, u2, hs, hu, hd, hb, hs2, hu2, hd2⟩ := hrel
            have HS2 := hide hs2; have HU2 := hide hu2; have HD2 := hide hd2
            clear hs2 hu2 hd2
            have HS := hide hs; have HU := hide hu; have HD := hide hd; have HB := hide hb
            clear hs hu hd hb
            by_cases hjn : j < n
            · obtain ⟨g0, o0, rfl, hg0, hcell⟩ := HP.out j (by have := HN.out; omega)
              obtain ⟨⟨ok, os, om⟩, hx⟩ : ∃ x, x = ops[j]'(by have := HN.out; omega) := ⟨_, rfl⟩
              have hom : om < 18446744073709551616 := HOK.out j ⟨ok, os, om⟩ (by rw [hx]; exact List.getElem?_eq_getElem _)
              have HOM := hide hom
              rw [← hx] at hcell
              have cg : ∀ i v, w.cell? ⟨g0, i, none⟩ = some v → wr.cell? ⟨g0, i, none⟩ = some v := fun i v hv => (HB.out.cell (p := ⟨g0, i, none⟩) hg0).trans hv
              have x0 : wr.cell? ⟨g0, o0 + j * 3, none⟩ = some (.int .i64 ok) := cg _ _ (hcell 0 _ rfl)
              have x1 : wr.cell? ⟨g0, o0 + j * 3 + 1, none⟩ = some (.bool os) := cg _ _ (hcell 1 _ rfl)
              have x2 : wr.cell? ⟨g0, o0 + j * 3 + 2, none⟩ = some (.int .u64 (om : Int)) := cg _ _ (hcell 2 _ rfl)
              have hjm : (j : Int) + 1 ≤ 9223372036854775807 := by omega
              have hji : (j : Int) < cap := by omega
              clear hcell cg hx hom hc2
              cases os
              · go_wp2_with fail
                have hal : Below wr.heap.size wr (wr.alloc (Obj.cells #[Value.int IntKind.i64 ok, Value.bool false, Value.int IntKind.u64 (om : Int)] 39)) := (Below.refl _ _).alloc (Nat.le_refl _) _
                refine (step_any ok false om HOM.out xs HSx.out (by have := HLX.out; omega) _ b1 b2 base s u (HD.out.below hal) HS.out (by have := HU.out; have := HN.out; have := HLO.out; omega)).mono ?_
                rintro e w9 ⟨rfl, s', u', hs', hu', hd', hbt⟩
                have HS' := hide hs'; have HU' : Hid (u' ≤ (j + 1) * 1048576) := Nat.le_trans hu' (by rw [Nat.succ_mul]; exact Nat.add_le_add_right HU.out _); have HD' := hide hd'
                have HW' : Hid (Below w.heap.size w w9) := Bth.but (HB.out.alloc HB.out.size _) hbt q4.out.1 (by have := q4.out; omega) (Nat.le_trans HB.out.size hal.size)
                have HE' : Hid (DP w9 b3 b4 base' ys s2 u2) := (HD.out.below hal).off (HD2.out.below hal) hbt (by have := q4.out; omega) (by have := q4.out; omega) (by have := q4.out; omega) (by have := q4.out; omega)
                have HU3 : Hid (u2 ≤ (j + 1) * 1048576) := Nat.le_trans HU2.out (Nat.mul_le_mul_right _ (Nat.le_succ j))
                clear hs' hu' hd' hbt hal
                go_wp2_with fail
                refine ⟨⟨j + 1, hjn, by go_num, s', u', s2, u2, HS'.out, HU'.out, HD'.out, HW'.out, HS2.out, HU3.out, HE'.out⟩, ?_⟩
                simp [RowKit.intOf]; omega
              · go_wp2_with fail
                have hal : Below wr.heap.size wr (wr.alloc (Obj.cells #[Value.int IntKind.i64 ok, Value.bool true, Value.int IntKind.u64 (om : Int)] 39)) := (Below.refl _ _).alloc (Nat.le_refl _) _
                refine (step_any ok true om HOM.out ys HSy.out (by have := HLY.out; omega) _ b3 b4 base' s2 u2 (HD2.out.below hal) HS2.out (by have := HU2.out; have := HN.out; have := HLO.out; omega)).mono ?_
                rintro e w9 ⟨rfl, s', u', hs', hu', hd', hbt⟩
                have HS' := hide hs'; have HU' : Hid (u' ≤ (j + 1) * 1048576) := Nat.le_trans hu' (by rw [Nat.succ_mul]; exact Nat.add_le_add_right HU2.out _); have HD' := hide hd'
                have HW' : Hid (Below w.heap.size w w9) := Bth.but (HB.out.alloc HB.out.size _) hbt (by have := q4.out; omega) (by have := q4.out; omega) (Nat.le_trans HB.out.size hal.size)
                have HE' : Hid (DP w9 b1 b2 base xs s u) := (HD2.out.below hal).off (HD.out.below hal) hbt (by have := q4.out; omega) (by have := q4.out; omega) (by have := q4.out; omega) (by have := q4.out; omega)
                have HU3 : Hid (u ≤ (j + 1) * 1048576) := Nat.le_trans HU.out (Nat.mul_le_mul_right _ (Nat.le_succ j))
                clear hs' hu' hd' hbt hal
                go_wp2_with fail
                refine ⟨⟨j + 1, hjn, by go_num, s, u, s', u', HS.out, HU3.out, HE'.out, HW'.out, HS'.out, HU'.out, HD'.out⟩, ?_⟩
                simp [RowKit.intOf]; omega
            · clear hc2
              have x1 : ∀ x : GW wr, x.world.cell? ⟨b2, 1, none⟩ = some (.int .i64 (u : Int)) := fun x => by
                obtain ⟨_, v, hh, _⟩ := HD.out.r.below x.bel
                exact cell_of hh rfl
              have hcs : ∀ x : GW wr, ∃ v, x.world.heap[b2]? = some (RObj v u s) := fun x => by
                obtain ⟨_, v, hh, _⟩ := HD.out.r.below x.bel
                exact ⟨v, hh⟩
              have x2 : ∀ x : GW wr, x.world.cell? ⟨b2, 2, none⟩ = some (.int .u64 s.a) := fun x => by obtain ⟨v, hh⟩ := hcs x; exact cell_of hh rfl
              have x3 : ∀ x : GW wr, x.world.cell? ⟨b2, 3, none⟩ = some (.int .u64 s.b) := fun x => by obtain ⟨v, hh⟩ := hcs x; exact cell_of hh rfl
              have x4 : ∀ x : GW wr, x.world.cell? ⟨b2, 4, none⟩ = some (.int .u64 s.c) := fun x => by obtain ⟨v, hh⟩ := hcs x; exact cell_of hh rfl
              have x5 : ∀ x : GW wr, x.world.cell? ⟨b2, 5, none⟩ = some (.int .u64 s.d) := fun x => by obtain ⟨v, hh⟩ := hcs x; exact cell_of hh rfl
              have HST : Hid (∀ x : GW wr, Calls Try.prog 19 #[.pointer (some ⟨b1, 0, none⟩)] x.world fun e w'' => e = .returned (.agg #[.int .u64 s.a, .int .u64 s.b, .int .u64 s.c, .int .u64 s.d]) ∧ ∃ y : GW wr, w'' = y.world) := fun x => gw_of (state_any x.world b1 _ s u (HD.out.d.below x.bel))
              have heq : ∀ W, (binOp .eql 41 (.agg #[.int .u64 s.a, .int .u64 s.b, .int .u64 s.c, .int .u64 s.d]) (.agg #[.int .u64 s.a, .int .u64 s.b, .int .u64 s.c, .int .u64 s.d])).run Try.prog W = .ok (.bool true) W := fun W => by
                rw [eql_arr]; simp
              clear hcs
              go_wp2_with fail
              refine wp_region_gw (by kernel_rfl) (by kernel_rfl) ?_
              repeat (go_big_quiet_step (first
                | (go_at_call 19; exact HST.out _)
                | (go_at_call 20; exact gw_same (used_dice _ b1 _ _ _ (HD.out.d.below (GW.bel _))))
                | rfl))
              refine wpQuiet_nil ?_
              intro _ hw'
              obtain ⟨x, hw''⟩ := hw'
              subst hw''
              go_wp2_with fail
              go_ret
              exact ⟨rfl, HB.out.trans (x.bel.mono HB.out.size)⟩
end Go.Proofs.Ytglgflibpgmilaa
