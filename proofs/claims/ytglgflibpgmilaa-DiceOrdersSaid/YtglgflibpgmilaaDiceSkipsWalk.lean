/- DiceSkips: the walks. -/
import Derived.Test.YtglgflibpgmilaaDiceLinearWalk
import Derived.Test.YtglgflibpgmilaaSame
namespace Go.Proofs.Ytglgflibpgmilaa
open Go.RowKit Go.Lib

theorem DiceIs.nil_but {w w' : World} {b c : Nat} {s : St} {u : Int} (h : DiceIs w b [] s u) (k : But c w w') (hc : c ≠ b) : DiceIs w' b [] s u := by
  obtain ⟨fn, v, hh, hv, hf⟩ := h
  refine ⟨fn, v, k.heap hh (fun e => hc e.symm), ?_, hf⟩
  rcases hv with hv | ⟨g, o, q, rfl, hg, hgs, h1, h2, _⟩
  · exact .inl hv
  · exact .inr ⟨g, o, q, rfl, hg, Nat.lt_of_lt_of_le hgs k.size, h1, h2, fun i hi => by simp at hi⟩

/-- Three dice, and the state that was handed in. -/
structure Tri (w wr : World) (s : St) (b1 b2 b3 : Nat) (ws : List Int) (s1 : St) (u1 : Int) (s2 : St) (u2 : Int) (s3 : St) : Prop where
  d1 : DiceIs wr b1 ws s1 u1
  d2 : DiceIs wr b2 [] s2 u2
  d3 : DiceIs wr b3 [] s3 0
  st : St4 wr w.heap.size s
  l : Below w.heap.size w wr
  o1 : w.heap.size < b1
  o2 : b1 < b2
  o3 : b2 < b3

section
variable {w wr w' : World} {s : St} {b1 b2 b3 : Nat} {ws ws' : List Int} {s1 s1' s2 s2' s3 s3' : St} {u1 u1' u2 u2' : Int}
theorem Tri.on1 (h : Tri w wr s b1 b2 b3 ws s1 u1 s2 u2 s3) (k : But b1 wr w') (hd : DiceIs w' b1 ws' s1' u1') : Tri w w' s b1 b2 b3 ws' s1' u1' s2 u2 s3 := by
  have := h.o1; have := h.o2; have := h.o3
  exact ⟨hd, h.d2.nil_but k (by omega), h.d3.nil_but k (by omega), k.heap h.st (by omega), But.below h.l k (by omega) h.l.size, h.o1, h.o2, h.o3⟩
theorem Tri.on2 (h : Tri w wr s b1 b2 b3 ws s1 u1 s2 u2 s3) (k : But b2 wr w') (hd : DiceIs w' b2 [] s2' u2') : Tri w w' s b1 b2 b3 ws s1 u1 s2' u2' s3 := by
  have := h.o1; have := h.o2; have := h.o3
  exact ⟨h.d1.beyond k (by omega), hd, h.d3.nil_but k (by omega), k.heap h.st (by omega), But.below h.l k (by omega) h.l.size, h.o1, h.o2, h.o3⟩
theorem Tri.on3 (h : Tri w wr s b1 b2 b3 ws s1 u1 s2 u2 s3) (k : But b3 wr w') (hd : DiceIs w' b3 [] s3' 0) : Tri w w' s b1 b2 b3 ws s1 u1 s2 u2 s3' := by
  have := h.o1; have := h.o2; have := h.o3
  exact ⟨h.d1.beyond k (by omega), h.d2.beyond k (by omega), hd, k.heap h.st (by omega), But.below h.l k (by omega) h.l.size, h.o1, h.o2, h.o3⟩
theorem Tri.below (h : Tri w wr s b1 b2 b3 ws s1 u1 s2 u2 s3) (k : Below wr.heap.size wr w') : Tri w w' s b1 b2 b3 ws s1 u1 s2 u2 s3 :=
  ⟨h.d1.below k, h.d2.below k, h.d3.below k, h.st.below k h.st.lt, h.l.trans (k.mono h.l.size), h.o1, h.o2, h.o3⟩
end

theorem row_below {k : IntKind} {w w' : World} {v : Value} {xs : List Int} (h : RowAt k w v xs) (hb : Below w.heap.size w w') : RowAt k w' v xs := by
  obtain ⟨ao, c, rfl, h1, h2, h3, h4⟩ := h
  refine ⟨ao, c, rfl, h1, h2, h3, fun a ha i hi => ?_⟩
  have hc := h4 a ha i hi
  rw [hb.cell (block_of_cell hc)]
  exact hc

theorem neq_same (s : St) (w : World) : (binOp .neq 41 (stAgg s) (stAgg s)).run Try.prog w = .ok (.bool false) w := by
  unfold stAgg; rw [neq_arr]; simp

set_option maxRecDepth 100000 in
set_option maxHeartbeats 4000000 in
theorem skips_some (s : St) (v : Value) (ws : List Int) (few a b : Nat) (w : World) (hs : s.Ok) (hz : s.isZero = false) (hv : RowAt .u64 w v ws) (hw : Words ws) (hbig : ws.length * 8 ≤ 140737488351232)
    (hf : few < 18446744073709551616) (ha : a < 18446744073709551616) (hb : b < 18446744073709551616) :
    Calls Try.prog 8 #[stAgg s, v, .int .u64 few, .int .u64 a, .int .u64 b] w fun e w' => e = .returned (.bool true) ∧ Below w.heap.size w w' := by
  have q := neq_arr
  obtain ⟨f, hfe⟩ : ∃ f, f = few % 300 := ⟨_, rfl⟩
  have hf3 : f < 300 := by omega
  have efew : (few : Int) % 300 = (f : Int) := by omega
  obtain ⟨ao, c, rfl⟩ : ∃ ao c, v = .slice ao ws.length c := by obtain ⟨ao, c, h, _⟩ := hv; exact ⟨ao, c, h⟩
  have hlen : ws.length ≤ 17592186044416 := by omega
  have HV := hide hv; have HW := hide hw; have HZ := hide hz
  have HEF := hide efew
  clear hv hw hz hfe efew
  unfold stAgg
  go_enter Try.func8, Try.ntmps8
  go_wp2_with fail
  refine (live_any _).mono ?_
  rintro e w1 ⟨rfl, hb1⟩
  have hbel1 : Below w.heap.size w w1 := ((Below.refl _ w).alloc (Nat.le_refl _) _).trans (hb1.mono (by simp))
  have hst1 : St4 w1 w.heap.size s := St4.below (w := w.alloc (.cells (stCells s) 41)) (heap_new w _) hb1 (by simp)
  have HST1 := hide hst1; have HB1 := hide hbel1
  have hsz1 : w.heap.size < w1.heap.size := hst1.lt
  have a0 := hst1.cell 0 (by omega); have a1 := hst1.cell 1 (by omega); have a2 := hst1.cell 2 (by omega); have a3 := hst1.cell 3 (by omega)
  simp only [Leap.word] at a0 a1 a2 a3
  clear hb1 hbel1 hst1
  go_wp2_with fail
  refine (from_any s (.slice ao ws.length c) ws _ HZ.out (row_below HV.out HB1.out) (by omega)).mono ?_
  rintro e w2 ⟨b1, rfl, hn1, hd1, hb2⟩
  have hst2 := HST1.out.below hb2 hsz1
  have hsz2 : w.heap.size < w2.heap.size := hst2.lt
  have HD1 := hide hd1; have HST2 := hide hst2; have HB2 := hide (HB1.out.trans (hb2.mono HB1.out.size)); have HN1 := hide hn1
  have a0 := hst2.cell 0 (by omega); have a1 := hst2.cell 1 (by omega); have a2 := hst2.cell 2 (by omega); have a3 := hst2.cell 3 (by omega)
  simp only [Leap.word] at a0 a1 a2 a3
  have hl1 := hd1.lt
  clear hd1 hst2 hb2 hn1 HST1 HB1
  have ef := HEF.out
  go_wp2_with fail
  refine (from_any s (.slice none 0 0) [] _ HZ.out (RowAt.nil _ _) (by simp)).mono ?_
  rintro e w3 ⟨b2, rfl, hn2, hd2, hb3⟩
  have hst3 := HST2.out.below hb3 hsz2
  have HD1b := hide (HD1.out.below hb3)
  have HD2 := hide hd2; have HST3 := hide hst3; have HB3 := hide (HB2.out.trans (hb3.mono HB2.out.size)); have HN2 := hide hn2
  have a0 := hst3.cell 0 (by omega); have a1 := hst3.cell 1 (by omega); have a2 := hst3.cell 2 (by omega); have a3 := hst3.cell 3 (by omega)
  simp only [Leap.word] at a0 a1 a2 a3
  have hsz3 : w.heap.size < w3.heap.size := hst3.lt
  have hl2 := hd2.lt
  clear hd2 hst3 hb3 hn2 HST2 HB2 HD1
  go_wp2_with fail
  refine (from_any s (.slice none 0 0) [] _ HZ.out (RowAt.nil _ _) (by simp)).mono ?_
  rintro e w4 ⟨b3, rfl, hn3, hd3, hb4⟩
  have hT : Tri w w4 s b1 b2 b3 ws s 0 s 0 s :=
    ⟨HD1b.out.below hb4, HD2.out.below hb4, hd3, HST3.out.below hb4 hsz3, HB3.out.trans (hb4.mono HB3.out.size), by have := HN1.out; omega, by have := HN2.out; omega, by omega⟩
  have HT := hide hT
  clear hT hd3 hb4 hn3 HST3 HB3 HD1b HD2 HN1 HN2
  go_wp2_with fail
  go_loopw [17] (fun i wr => ∃ k : Nat, k ≤ f ∧ i = .int .u64 k ∧ Tri w wr s b1 b2 b3 ws s 0 (Leap.it k s) k s) (fun i _ => f - (RowKit.intOf i).toNat)
  case atStart => exact ⟨0, by omega, rfl, HT.out⟩
  case round =>
    clear HT
    obtain ⟨k, hk, rfl, hT⟩ := hrel
    by_cases hlt : k < f
    · have HT := hide hT
      have hok := Leap.it_ok hs k
      clear hT
      go_wp2_with fail
      refine (next_any _ b2 _ _ _ HT.out.d2 hok (by omega) (by omega)).mono ?_
      rintro e w5 ⟨rfl, hd5, hbut5⟩
      have HT5 := hide (HT.out.on2 hbut5 hd5)
      clear hd5 hbut5 HT
      go_wp2_with fail
      go_roundw
      case rel => exact ⟨k + 1, by omega, by go_num, by simpa [stLeft, Leap.it] using HT5.out⟩
      case measure => simp [RowKit.intOf]; omega
    · obtain rfl : f = k := by omega
      have HT := hide hT
      have hokf := Leap.it_ok hs f
      clear hT
      go_wp2_with fail
      refine (skip_any _ b3 f _ _ _ HT.out.d3 hs (by omega)).mono ?_
      rintro e w5 ⟨rfl, hd5, hbut5⟩
      have HT5 := hide (HT.out.on3 hbut5 hd5)
      clear hd5 hbut5 HT
      go_wp2_with fail
      refine (skip_any _ b1 f _ _ _ HT5.out.d1 hs (by omega)).mono ?_
      rintro e w6 ⟨rfl, hd6, hbut6⟩
      have HT6 := hide (HT5.out.on1 hbut6 hd6)
      clear hd6 hbut6 HT5
      go_wp2_with fail
      refine (state_any _ b2 _ _ _ HT6.out.d2).mono ?_
      rintro e w7 ⟨rfl, hb7⟩
      have HT7 := hide (HT6.out.below hb7)
      clear hb7 HT6
      go_wp2_with fail
      refine (state_any _ b3 _ _ _ HT7.out.d3).mono ?_
      rintro e w8 ⟨rfl, hb8⟩
      have HT8 := hide (HT7.out.below hb8)
      clear hb8 HT7
      have q2 := neq_same
      generalize hIT : Leap.it f s = t at HT8 hokf
      have HIT := hide hIT
      clear hIT
      unfold stAgg
      go_wp2_with fail
      refine (used_dice _ b3 _ _ _ HT8.out.d3).mono ?_
      rintro e w8 ⟨rfl, rfl⟩
      go_wp2_with fail
      refine (state_any _ b1 _ _ _ HT8.out.d1).mono ?_
      rintro e w9 ⟨rfl, hb9⟩
      have HT9 := hide (HT8.out.below hb9)
      clear hb9 HT8
      go_wp2_with fail
      refine (state_any _ b3 _ _ _ HT9.out.d3).mono ?_
      rintro e w10 ⟨rfl, hb10⟩
      have HT10 := hide (HT9.out.below hb10)
      clear hb10 HT9
      unfold stAgg
      go_wp2_with fail
      refine (used_dice _ b1 _ _ _ HT10.out.d1).mono ?_
      rintro e w10 ⟨rfl, rfl⟩
      clear q2
      go_wp2_with fail
      go_loopw [18] (fun i wr => ∃ k : Nat, k ≤ ws.length ∧ i = .int .i64 k ∧ Tri w wr s b1 b2 b3 (ws.drop k) t k t f t) (fun i _ => ws.length - (RowKit.intOf i).toNat)
      case atStart => exact ⟨0, by omega, rfl, by simpa using HT10.out⟩
      case round =>
        clear HT10
        obtain ⟨k, hk2, rfl, hT⟩ := hrel
        by_cases hlt2 : k < ws.length
        · have hne : ws ≠ [] := by intro e; rw [e] at hlt2; simp at hlt2
          obtain ⟨g, o, c', hsl, _, _, hcell⟩ := HV.out.spot hne
          simp only [Value.slice.injEq, true_and] at hsl
          obtain ⟨rfl, rfl⟩ := hsl
          have hck := hcell k hlt2
          have hb0 := block_of_cell hck
          have hdr : ws.drop k = ws[k] :: ws.drop (k + 1) := List.drop_eq_getElem_cons hlt2
          have hwk : ws[k]?.getD 0 = ws[k] := by rw [List.getElem?_eq_getElem hlt2]; rfl
          rw [hwk] at hck
          rw [hdr] at hT
          generalize ws[k] = x at hck hT
          have HT := hide hT; have HCK := hide hck; have HB0 := hide hb0
          clear hT hcell hck hb0 hdr hwk hne
          go_wp2_with fail
          refine (next_any _ b1 _ _ _ HT.out.d1 hokf (by omega) (by omega)).mono ?_
          rintro e w11 ⟨rfl, hd11, hbut11⟩
          have hT11 := HT.out.on1 hbut11 hd11
          have c11 : w11.cell? ⟨g, o + k, none⟩ = some (.int .u64 x) := (hT11.l.cell (p := ⟨g, o + k, none⟩) HB0.out).trans HCK.out
          have HT11 := hide hT11
          clear hd11 hbut11 hT11 HT
          simp only [drawn]
          go_wp2_with fail
          go_roundw
          case rel => exact ⟨k + 1, by omega, by go_num, by simpa [stLeft] using HT11.out⟩
          case measure => simp [RowKit.intOf]; omega
        · have hkl : ws.drop k = [] := List.drop_eq_nil_of_le (by omega)
          rw [hkl] at hT
          have HT := hide hT
          clear hT hkl
          go_wp2_with fail
          refine (next_any _ b1 _ _ _ HT.out.d1 hokf (by omega) (by omega)).mono ?_
          rintro e w11 ⟨rfl, hd11, hbut11⟩
          have HT11 := hide (HT.out.on1 hbut11 hd11)
          clear hd11 hbut11 HT
          go_wp2_with fail
          refine (next_any _ b2 _ _ _ HT11.out.d2 hokf (by omega) (by omega)).mono ?_
          rintro e w12 ⟨rfl, hd12, hbut12⟩
          have hT12 := HT11.out.on2 hbut12 hd12
          have HS := hide hT12.st; have HL := hide hT12.l
          clear hd12 hbut12 hT12 HT11
          by_cases hab : a + b < 18446744073709551616
          · have hlt3 : (a : Int) ≤ (a : Int) + (b : Int) := by omega
            have hab2 : (a : Int) + (b : Int) ≤ 18446744073709551615 := by omega
            go_wp2_with fail
            obtain ⟨a0, a1, a2, a3⟩ := GW.cells HS.out
            have h1 : ∀ W, Calls Try.prog 35 #[stAgg s, .int .u64 (a : Int)] W fun e w' => e = .returned (stAgg (Leap.it a s)) ∧ Below W.heap.size W w' := fun W => lawBehind_any s a W hs HZ.out ha
            have h2 : ∀ W, Calls Try.prog 35 #[stAgg (Leap.it a s), .int .u64 (b : Int)] W fun e w' => e = .returned (stAgg (Leap.it (a + b) s)) ∧ Below W.heap.size W w' := by
              intro W
              have h := lawBehind_any (Leap.it a s) b W (Leap.it_ok hs a) (it_nonzero hs HZ.out a) hb
              rw [← Leap.it_add, Nat.add_comm] at h
              exact h
            have h3 : ∀ W, Calls Try.prog 35 #[stAgg s, .int .u64 ((a : Int) + (b : Int))] W fun e w' => e = .returned (stAgg (Leap.it (a + b) s)) ∧ Below W.heap.size W w' := by
              intro W
              have h := lawBehind_any s (a + b) W hs HZ.out hab
              rw [Int.natCast_add] at h
              exact h
            have H1 := hide h1; have H2 := hide h2; have H3 := hide h3
            clear h1 h2 h3 q
            have q := eql_arr
            refine wp_region_gw (by kernel_rfl) (by kernel_rfl) ?_
            repeat (go_big_quiet_step (first
              | (go_at_call_of 35 (Value.int .u64 (a : Int)); exact gw_of (H1.out _))
              | (go_at_call_of 35 (Value.int .u64 (b : Int)); exact gw_of (H2.out _))
              | (go_at_call_of 35 (Value.int .u64 ((a : Int) + (b : Int))); exact gw_of (H3.out _))
              | rfl))
            unfold stAgg
            repeat (go_big_quiet_step (rfl))
            refine wpQuiet_nil ?_
            intro _ hw'
            obtain ⟨x, hw''⟩ := hw'
            subst hw''
            go_wp2_with fail
            go_ret
            exact ⟨rfl, HL.out.trans (x.bel.mono HL.out.size)⟩
          · have hw0 : IntKind.u64.wrap ((a : Int) + (b : Int)) < (a : Int) := by rw [IntKind.wrap_u64]; omega
            go_wp2_with fail
            go_ret
            exact ⟨rfl, HL.out⟩
set_option maxRecDepth 100000 in
set_option maxHeartbeats 2000000 in
theorem skips_zero (s : St) (v : Value) (few a b : Nat) (w : World) (hz : s.isZero = true) :
    Calls Try.prog 8 #[stAgg s, v, .int .u64 few, .int .u64 a, .int .u64 b] w fun e w' => e = .returned (.bool true) ∧ Below w.heap.size w w' := by
  have HZ := hide hz
  clear hz
  unfold stAgg
  go_enter Try.func8, Try.ntmps8
  go_wp2_with fail
  refine (live_any _).mono ?_
  rintro e w1 ⟨rfl, hb1⟩
  have hbel1 : Below w.heap.size w w1 := ((Below.refl _ w).alloc (Nat.le_refl _) _).trans (hb1.mono (by simp))
  have hst1 : St4 w1 w.heap.size s := St4.below (w := w.alloc (.cells (stCells s) 41)) (heap_new w _) hb1 (by simp)
  have HST1 := hide hst1; have HB1 := hide hbel1
  have a0 := hst1.cell 0 (by omega); have a1 := hst1.cell 1 (by omega); have a2 := hst1.cell 2 (by omega); have a3 := hst1.cell 3 (by omega)
  simp only [Leap.word] at a0 a1 a2 a3
  clear hb1 hbel1 hst1
  go_wp2_with fail
  refine (from_zero s v _ HZ.out).mono ?_
  rintro e w2 ⟨rfl, hb2⟩
  have hst2 := HST1.out.below hb2 HST1.out.lt
  have HB2 := hide (HB1.out.trans (hb2.mono HB1.out.size))
  have a0 := hst2.cell 0 (by omega); have a1 := hst2.cell 1 (by omega); have a2 := hst2.cell 2 (by omega); have a3 := hst2.cell 3 (by omega)
  simp only [Leap.word] at a0 a1 a2 a3
  clear hst2 hb2 HST1 HB1
  go_wp2_with fail
  refine (zero_any s _).mono ?_
  rw [HZ.out]
  rintro e w3 ⟨rfl, hb3⟩
  have HB3 := hide (HB2.out.trans (hb3.mono HB2.out.size))
  clear hb3 HB2
  go_wp2_with fail
  go_ret
  exact ⟨rfl, HB3.out⟩
end Go.Proofs.Ytglgflibpgmilaa
