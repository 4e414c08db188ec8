/- DiceMakes: the walks. -/
import Derived.Test.YtglgflibpgmilaaGiven
import Derived.Test.YtglgflibpgmilaaDiceSkipsWalk
namespace Go.Proofs.Ytglgflibpgmilaa
open Go.RowKit Go.Lib

theorem no_any (e : Int) (w : World) : Calls Try.prog 16 #[.int .i64 e] w fun r w' => r = .returned (.int .i64 e) ∧ w' = w := by
  go_enter Try.func16, Try.ntmps16
  go_wp2
  go_ret
  exact ⟨rfl, rfl⟩

set_option maxRecDepth 100000 in
set_option maxHeartbeats 4000000 in
theorem makes_zero (s : St) (v : Value) (ws : List Int) (n : Nat) (w : World) (hz : s.isZero = true) (hv : RowAt .u64 w v ws) (hbig : ws.length * 8 ≤ 140737488351232) :
    Calls Try.prog 4 #[stAgg s, v, .int .u64 n] w fun e w' => e = .returned (.bool true) ∧ Below w.heap.size w w' := by
  have HZ := hide hz; have HV := hide hv
  clear hz hv
  unfold stAgg
  go_enter Try.func4, Try.ntmps4
  go_wp2_with fail
  refine (given2_any v ws _ (HV.out.alloc _) hbig).mono ?_
  rintro e w1 ⟨g, c, rfl, hg, hf, hi, hb1⟩
  have hst1 : St4 w1 w.heap.size s := St4.below (w := w.alloc (.cells (stCells s) 41)) (heap_new w _) hb1 (by simp)
  have hbel1 : Below w.heap.size w w1 := ((Below.refl _ w).alloc (Nat.le_refl _) _).trans (hb1.mono (by simp))
  have HF := hide hf; have HI := hide hi; have HST := hide hst1; have HB := hide hbel1
  have a0 := hst1.cell 0 (by omega); have a1 := hst1.cell 1 (by omega); have a2 := hst1.cell 2 (by omega); have a3 := hst1.cell 3 (by omega)
  simp only [Leap.word] at a0 a1 a2 a3
  clear hf hi hst1 hb1 hbel1 hg
  go_wp2_with fail
  refine (from_zero s _ _ HZ.out).mono ?_
  rintro e w2 ⟨rfl, hb2⟩
  have hst2 := HST.out.below hb2 HST.out.lt
  have HST2 := hide hst2; have HB2 := hide (HB.out.trans (hb2.mono HB.out.size)); have HF2 := hide (row_below HF.out hb2)
  have a0 := hst2.cell 0 (by omega); have a1 := hst2.cell 1 (by omega); have a2 := hst2.cell 2 (by omega); have a3 := hst2.cell 3 (by omega)
  simp only [Leap.word] at a0 a1 a2 a3
  clear hst2 hb2 HST HB HF
  go_wp2_with fail
  refine (refFrom_zero s v _ HZ.out).mono ?_
  rintro e w3 ⟨rfl, hb3⟩
  have HB3 := hide (HB2.out.trans (hb3.mono HB2.out.size)); have HF3 := hide (row_below HF2.out hb3)
  clear hb3 HST2 HB2 HF2
  go_wp2_with fail
  refine (no_any _ _).mono ?_
  rintro e w3 ⟨rfl, rfl⟩
  go_wp2_with fail
  refine (kept_any _ v ws _ HF3.out (row_below HV.out HB3.out) (by omega)).mono ?_
  rintro e w4 ⟨rfl, hb4⟩
  have HB4 := hide (HB3.out.trans (hb4.mono HB3.out.size))
  clear hb4 HB3 HF3
  go_wp2_with fail
  go_ret
  exact ⟨rfl, HB4.out⟩

theorem gw_same {w8 : World} {x : GW w8} {f : FuncId} {args : Array Value} {v : Value} (h : Calls Try.prog f args x.world fun e w' => e = .returned v ∧ w' = x.world) :
    Calls Try.prog f args x.world fun e w'' => e = .returned v ∧ ∃ y : GW w8, w'' = y.world :=
  h.mono fun _ _ ⟨he, hb⟩ => ⟨he, x, hb⟩

/-- Two dice that have drawn the same, and the state that was handed in. -/
structure Duo (w wr : World) (s : St) (b1 b2 base : Nat) (ws : List Int) (sc : St) (u : Nat) : Prop where
  d : DiceIs wr b1 (ws.drop u) sc u
  r : RefIs wr base b2 ws sc u
  st : St4 wr w.heap.size s
  l : Below w.heap.size w wr
  o1 : w.heap.size < b1
  o2 : b1 < base
section
variable {w wr w' : World} {s : St} {b1 b2 base : Nat} {ws : List Int} {sc : St} {u : Nat}
theorem Duo.below (h : Duo w wr s b1 b2 base ws sc u) (k : Below wr.heap.size wr w') : Duo w w' s b1 b2 base ws sc u :=
  ⟨h.d.below k, h.r.below k, h.st.below k h.st.lt, h.l.trans (k.mono h.l.size), h.o1, h.o2⟩
end

theorem RefIs.cells {w : World} {base b : Nat} {all : List Int} {s : St} {u : Nat} (h : RefIs w base b all s u) :
    w.cell? ⟨b, 2, none⟩ = some (.int .u64 s.a) ∧ w.cell? ⟨b, 3, none⟩ = some (.int .u64 s.b) ∧ w.cell? ⟨b, 4, none⟩ = some (.int .u64 s.c) ∧ w.cell? ⟨b, 5, none⟩ = some (.int .u64 s.d) := by
  obtain ⟨_, v, hh, _⟩ := h
  exact ⟨cell_of hh rfl, cell_of hh rfl, cell_of hh rfl, cell_of hh rfl⟩
theorem GW.drawn {w : World} {base b : Nat} {all : List Int} {s : St} {u : Nat} (h : RefIs w base b all s u) : ∀ x : GW w, x.world.cell? ⟨b, 1, none⟩ = some (.int .i64 (u : Int)) := by
  intro x
  obtain ⟨_, v, hh, _⟩ := h.below x.bel
  exact cell_of hh rfl
theorem duo_first {w wr w6 : World} {s : St} {b1 b2 base : Nat} {ws : List Int} {sc t : St} {k : Nat} (h : Duo w wr s b1 b2 base ws sc k) (hd : DiceIs w6 b1 (ws.drop (k + 1)) t ((k : Int) + 1)) (hb : But b1 wr w6) :
    DiceIs w6 b1 (ws.drop (k + 1)) t ((k + 1 : Nat) : Int) ∧ RefIs w6 base b2 ws sc k ∧ St4 w6 w.heap.size s ∧ Below w.heap.size w w6 ∧ w.heap.size < b1 ∧ b1 < base := by
  have h1 := h.o1; have h2 := h.o2
  exact ⟨by simpa using hd, h.r.ahead hb h.o2, hb.heap h.st (by omega), But.below h.l hb (by omega) h.l.size, h1, h2⟩
theorem duo_second {w w6 w7 : World} {s : St} {b1 b2 base : Nat} {ws : List Int} {sc t : St} {k : Nat}
    (h : DiceIs w6 b1 (ws.drop (k + 1)) t ((k + 1 : Nat) : Int) ∧ RefIs w6 base b2 ws sc k ∧ St4 w6 w.heap.size s ∧ Below w.heap.size w w6 ∧ w.heap.size < b1 ∧ b1 < base)
    (hr : RefIs w7 base b2 ws t (k + 1)) (hb : But b2 w6.drew w7) : Duo w w7 s b1 b2 base ws t (k + 1) := by
  obtain ⟨hd, hr6, hst, hl, o1, o2⟩ := h
  have hb' : But b2 w6 w7 := ⟨hb.os, hb.tape, hb.output, hb.size, hb.block⟩
  have hbb := hr6.1
  exact ⟨hd.beyond hb' (by omega), hr, hb'.heap hst (by omega), But.below hl hb' (by omega) hl.size, o1, o2⟩

set_option maxRecDepth 100000 in
set_option maxHeartbeats 4000000 in
theorem makes_some (s : St) (v : Value) (ws : List Int) (n : Nat) (w : World) (hs : s.Ok) (hz : s.isZero = false) (hv : RowAt .u64 w v ws) (hw : Words ws) (hbig : ws.length * 8 ≤ 140737488351232) (hn : n < 18446744073709551616) :
    Calls Try.prog 4 #[stAgg s, v, .int .u64 n] w fun e w' => e = .returned (.bool true) ∧ Below w.heap.size w w' := by
  have q := neq_arr
  have HZ := hide hz; have HV := hide hv; have HW := hide hw
  clear hz hv hw
  unfold stAgg
  go_enter Try.func4, Try.ntmps4
  go_wp2_with fail
  refine (given2_any v ws _ (HV.out.alloc _) hbig).mono ?_
  rintro e w1 ⟨g, c, rfl, hg, hf, hi, hb1⟩
  have hst1 : St4 w1 w.heap.size s := St4.below (w := w.alloc (.cells (stCells s) 41)) (heap_new w _) hb1 (by simp)
  have hbel1 : Below w.heap.size w w1 := ((Below.refl _ w).alloc (Nat.le_refl _) _).trans (hb1.mono (by simp))
  have HF := hide hf; have HI := hide hi; have HST := hide hst1; have HB := hide hbel1
  have hsz1 := hst1.lt
  have a0 := hst1.cell 0 (by omega); have a1 := hst1.cell 1 (by omega); have a2 := hst1.cell 2 (by omega); have a3 := hst1.cell 3 (by omega)
  simp only [Leap.word] at a0 a1 a2 a3
  clear hf hi hst1 hb1 hbel1 hg
  go_wp2_with fail
  refine (from_any s _ ws _ HZ.out HI.out (by omega)).mono ?_
  rintro e w2 ⟨b1, rfl, hn1, hd1, hb2⟩
  have hst2 := HST.out.below hb2 HST.out.lt
  have hl1 := hd1.lt
  have HST2 := hide hst2; have HB2 := hide (HB.out.trans (hb2.mono HB.out.size)); have HF2 := hide (row_below HF.out hb2); have HD := hide hd1
  have hord1 : w.heap.size < b1 := by omega
  have a0 := hst2.cell 0 (by omega); have a1 := hst2.cell 1 (by omega); have a2 := hst2.cell 2 (by omega); have a3 := hst2.cell 3 (by omega)
  simp only [Leap.word] at a0 a1 a2 a3
  clear hst2 hb2 HST HB HF HI hd1
  go_wp2_with fail
  refine (refFrom_any s v ws _ HZ.out (row_below HV.out HB2.out) (by omega)).mono ?_
  rintro e w3 ⟨b2, rfl, hn2, hr, hb3⟩
  have hDuo : Duo w w3 s b1 b2 w2.heap.size ws s 0 :=
    ⟨by simpa using HD.out.below hb3, hr, HST2.out.below hb3 HST2.out.lt, HB2.out.trans (hb3.mono HB2.out.size), hord1, hl1⟩
  have HF3 := hide (row_below HF2.out hb3); have HU := hide hDuo
  clear hb3 HST2 HB2 HF2 HD hr hDuo hn2
  go_wp2_with fail
  refine (no_any _ _).mono ?_
  rintro e w3 ⟨rfl, rfl⟩
  go_wp2_with fail
  refine (kept_any _ v ws _ HF3.out (row_below HV.out HU.out.l) (by omega)).mono ?_
  rintro e w4 ⟨rfl, hb4⟩
  have HU4 := hide (HU.out.below hb4)
  clear hb4 HU HF3
  go_wp2_with fail
  refine (mix_nat n _ hn).mono ?_
  rintro e w4 ⟨rfl, rfl⟩
  go_wp2_with fail
  obtain ⟨a0, a1, a2, a3⟩ := GW.cells HU4.out.st
  have hd4 : DiceIs w4 b1 ws s 0 := by simpa using HU4.out.d
  have HD4 := hide hd4
  clear hd4
  refine wp_region_gw (by kernel_rfl) (by kernel_rfl) ?_
  repeat (go_big_quiet_step (first
    | (go_at_call 19; exact gw_of (state_any _ b1 _ _ _ (HD4.out.below (GW.bel _))))
    | rfl))
  unfold stAgg
  repeat (go_big_quiet_step (first
    | (go_at_call 20; exact gw_same (used_dice _ b1 _ _ _ (HD4.out.below (GW.bel _))))
    | (go_at_call 24; exact gw_same (refMix_any n _ hn))
    | rfl))
  refine wpQuiet_nil ?_
  intro _ hw'
  obtain ⟨x, hw''⟩ := hw'
  subst hw''
  have HU5 := hide (HU4.out.below x.bel)
  generalize x.world = w5 at HU5 ⊢
  clear HU4 HD4 a0 a1 a2 a3 x
  obtain ⟨m, hm⟩ : ∃ m, m = n % 5 := ⟨_, rfl⟩
  have em : (n : Int) % 5 = (m : Int) := by omega
  have hm5 : m < 5 := by omega
  clear hm
  go_wp2_with fail
  go_loopw [14] (fun t wr => ∃ (k : Nat) (sc : St), k ≤ 3 + m ∧ t = .int .u64 k ∧ sc.Ok ∧ Duo w wr s b1 b2 w2.heap.size ws sc k) (fun t _ => 3 + m - (RowKit.intOf t).toNat)
  case atStart => exact ⟨0, s, by omega, rfl, hs, HU5.out⟩
  case round =>
    clear HU5
    obtain ⟨k, sc, hk, rfl, hsc, hU⟩ := hrel
    by_cases hlt : k < 3 + m
    · have hU2 := hide hU
      have hnx := next_any wr b1 (ws.drop k) sc k hU.d hsc (by omega) (by omega)
      have hnr := fun W (hr : RefIs W w2.heap.size b2 ws sc k) => refNext_any W w2.heap.size b2 ws sc k hr hsc (by omega) (by omega)
      have ht := stLeft_ok (ws := ws.drop k) hsc
      rw [tail_drop] at hnx
      generalize drawn (ws.drop k) sc = D at hnx hnr
      generalize stLeft (ws.drop k) sc = t at hnx hnr ht
      have HNX := hide hnx; have HNR := hide hnr
      clear hnx hnr hU
      go_wp2_with fail
      refine HNX.out.mono ?_
      rintro e w6 ⟨rfl, hd6, hbut6⟩
      have H6 := hide (duo_first hU2.out hd6 hbut6)
      clear hd6 hbut6 hU2 HNX
      go_wp2_with fail
      go_region_with (first
        | (go_at_call 26; refine (HNR.out w6.drew H6.out.2.1).mono ?_; rintro e w7 ⟨rfl, hr7, hbut7⟩; have H7 := hide (duo_second (k := k) H6.out hr7 hbut7); clear hr7 hbut7; obtain ⟨r2, r3, r4, r5⟩ := H7.out.r.cells)
        | (go_at_call 19; refine (state_any _ b1 _ _ _ H7.out.d).mono ?_; rintro e w8 ⟨rfl, hb8⟩; have H8 := hide (H7.out.below hb8); clear hb8; obtain ⟨u2, u3, u4, u5⟩ := H8.out.r.cells; unfold stAgg))
      all_goals
        go_wp2_with fail
        go_roundw
        case rel => exact ⟨k + 1, t, by omega, by go_num, ht, H8.out⟩
        case measure => simp [RowKit.intOf]; omega
    · have HU6 := hide hU
      clear hU
      by_cases hn0 : n = 0
      · subst hn0
        go_wp2_with fail
        refine (fairZero _ _).mono ?_
        rintro e wr ⟨rfl, rfl⟩
        go_wp2_with fail
        refine (refFairZero _ _).mono ?_
        rintro e wr ⟨rfl, rfl⟩
        go_wp2_with fail
        have c1 := GW.drawn HU6.out.r
        refine wp_region_gw (by kernel_rfl) (by kernel_rfl) ?_
        repeat (go_big_quiet_step (first
          | (go_at_call 16; exact gw_same (no_any _ _))
          | (go_at_call 20; exact gw_same (used_dice _ b1 _ _ _ (HU6.out.d.below (GW.bel _))))
          | rfl))
        refine wpQuiet_nil ?_
        intro _ hw'
        obtain ⟨x, hw''⟩ := hw'
        subst hw''
        go_wp2_with fail
        go_ret
        exact ⟨rfl, HU6.out.l.trans (x.bel.mono HU6.out.l.size)⟩
      · have hfd := fair_any wr b1 n (ws.drop k) sc k HU6.out.d hsc (fun y hy => HW.out y (List.mem_of_mem_drop hy)) (by omega) (by omega) (by omega) hn
        have hfr := fun W (hr : RefIs W w2.heap.size b2 ws sc k) => refFair_any W w2.heap.size b2 n ws sc k hr hsc HW.out (by omega) (by omega) (by omega) hn
        generalize fair n (18446744073709551616 % n) 128 (ws.drop k) sc = F at hfd hfr
        have HFD := hide hfd; have HFR := hide hfr
        clear hfd hfr
        go_wp2_with fail
        refine HFD.out.mono ?_
        rintro e w6 ⟨rfl, hd6, hbut6⟩
        have hr6 := HU6.out.r.ahead hbut6 HU6.out.o2
        have hl6 : Below w.heap.size w w6 := But.below HU6.out.l hbut6 (Nat.le_of_lt HU6.out.o1) HU6.out.l.size
        have HD6 := hide hd6; have HR6 := hide hr6; have HL6 := hide hl6
        have ho := HU6.out.o2; have ho1 := HU6.out.o1
        clear hd6 hbut6 hr6 hl6 HFD HU6
        go_wp2_with fail
        refine (HFR.out w6 HR6.out).mono ?_
        rintro e w7 ⟨rfl, hr7, hbut7⟩
        have hb2 := HR6.out.1
        have HD7 := hide (HD6.out.beyond hbut7 (by omega)); have HR7 := hide hr7; have HL7 := hide (But.below HL6.out hbut7 (by omega) HL6.out.size)
        clear hr7 hbut7 HD6 HR6 HL6 HFR
        go_wp2_with fail
        have c1 := GW.drawn HR7.out
        refine wp_region_gw (by kernel_rfl) (by kernel_rfl) ?_
        repeat (go_big_quiet_step (first
          | (go_at_call 16; exact gw_same (no_any _ _))
          | (go_at_call 20; exact gw_same (used_dice _ b1 _ _ _ (HD7.out.below (GW.bel _))))
          | rfl))
        refine wpQuiet_nil ?_
        intro _ hw'
        obtain ⟨x, hw''⟩ := hw'
        subst hw''
        go_wp2_with fail
        go_ret
        exact ⟨rfl, HL7.out.trans (x.bel.mono HL7.out.size)⟩
end Go.Proofs.Ytglgflibpgmilaa
