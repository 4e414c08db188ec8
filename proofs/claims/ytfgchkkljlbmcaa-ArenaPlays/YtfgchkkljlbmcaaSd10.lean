/- Side.step; side. -/
import Derived.Test.YtfgchkkljlbmcaaSd8
namespace Go.Proofs.Ytfgchkkljlbmcaa
open Go.RowKit Go.Lib Go.MuLone
set_option linter.unusedVariables false
set_option linter.unusedSimpArgs false
theorem SP.trans {w w1 w2 : World} {F F1 F2 : Nat → Prop} (h : SP w F w1 F1) (k : SP w1 F1 w2 F2) : SP w F w2 F2 :=
  ⟨fun i hi => (k.inF i hi).elim (h.inF i) (fun e => .inr (by have := h.chg.size; omega)), k.chg.os.trans h.chg.os, k.chg.tape.trans h.chg.tape, k.chg.output.trans h.chg.output, Nat.le_trans h.chg.size k.chg.size, fun i hi hn => by
    rw [k.chg.block i (Nat.lt_of_lt_of_le hi h.chg.size) (fun hs => (h.inF i hs).elim hn (fun e => by omega)), h.chg.block i hi hn]⟩
theorem StP.behind {w w1 w2 : World} {F F1 : Nat → Prop} {x n : Nat} (h : SP w F w1 F1) (k : StP w1 w2 F1 x n) : StP w w2 F x n := by
  obtain ⟨F', b, gc, q, rb, rgc, Y, lv, rlv, pv, wv, hv, s, ps, whos, gs, h1, h2, h3⟩ := k
  exact ⟨F', b, gc, q, rb, rgc, Y, lv, rlv, pv, wv, hv, s, ps, whos, gs, h1, h.trans h2, h3⟩
section
variable {w : World} {F : Nat → Prop} {x b gc q rb rgc Y n : Nat} {lv rlv pv wv hv : Value} {s : Ast} {ps : List Nat} {whos : List Int} {gs : List Bool}
theorem accesses_all (h : Sd w F x b gc q rb rgc Y lv rlv pv wv hv s s ps whos gs gs) (hn : NB s whos n) (hbig : (n + 1) * 64 ≤ 140737488355328) (k : Int) (sec : Bool) (port cell want put fw fk fc : Int) (h1 : 1 ≤ k) (h5 : k ≤ 5) :
    Calls Try.prog 55 #[.pointer (some ⟨x, 0, none⟩), opV k sec port cell want put fw fk fc] w fun e w' => e = .returned (.bool true) ∧ StP w w' F x n := by
  rcases Nat.eq_zero_or_pos ps.length with h0 | h0
  · exact accesses_none h hn h0 k sec port cell want put fw fk fc
  · rcases (show k = 1 ∨ k = 2 ∨ k = 3 ∨ k = 4 ∨ k = 5 by omega) with rfl | rfl | rfl | rfl | rfl
    · exact accesses_1 h hn hbig h0 sec port cell want put fw fk fc
    · exact accesses_2 h hn hbig h0 sec port cell want put fw fk fc
    · exact accesses_3 h hn hbig h0 sec port cell want put fw fk fc
    · exact accesses_4 h hn hbig h0 sec port cell want put fw fk fc
    · exact accesses_5 h hn hbig h0 sec port cell want put fw fk fc
theorem grants_all (h : Sd w F x b gc q rb rgc Y lv rlv pv wv hv s s ps whos gs gs) (hn : NB s whos n) (hbig : (n + 1) * 64 ≤ 140737488355328) (k : Int) (sec : Bool) (port cell want put fw fk fc : Int) (h1 : 6 ≤ k) (h5 : k ≤ 8) :
    Calls Try.prog 56 #[.pointer (some ⟨x, 0, none⟩), opV k sec port cell want put fw fk fc] w fun e w' => e = .returned (.bool true) ∧ StP w w' F x n := by
  rcases (show k = 6 ∨ k = 7 ∨ k = 8 by omega) with rfl | rfl | rfl
  · rcases Nat.eq_zero_or_pos ps.length with h0 | h0
    · exact grants_none6 h hn hbig h0 sec port cell want put fw fk fc
    · exact grants_grant h hn hbig h0 sec port cell want put fw fk fc
  · rcases Nat.eq_zero_or_pos ps.length with h0 | h0
    · exact grants_none7 h hn hbig h0 sec port cell want put fw fk fc
    · exact grants_granted h hn hbig h0 sec port cell want put fw fk fc
  · by_cases hc : cell < 0
    · exact grants_bad h hn hbig sec port cell want put fw fk fc hc
    · exact grants_port h hn hbig sec port cell want put fw fk fc (by omega)
theorem looks_all (h : Sd w F x b gc q rb rgc Y lv rlv pv wv hv s s ps whos gs gs) (hn : NB s whos n) (hbig : (n + 1) * 64 ≤ 140737488355328) (k : Int) (sec : Bool) (port cell want put fw fk fc : Int) :
    Calls Try.prog 57 #[.pointer (some ⟨x, 0, none⟩), opV k sec port cell want put fw fk fc] w fun e w' => e = .returned (.bool true) ∧ StP w w' F x n := by
  by_cases hk : k < 9 ∨ 15 < k
  · exact looks_other h hn hbig k hk sec port cell want put fw fk fc
  · rcases (show k = 9 ∨ k = 10 ∨ k = 11 ∨ k = 12 ∨ k = 13 ∨ k = 14 ∨ k = 15 by omega) with rfl | rfl | rfl | rfl | rfl | rfl | rfl
    · exact looks_peek h hn hbig sec port cell want put fw fk fc
    · exact looks_poke h hn hbig sec port cell want put fw fk fc
    · exact looks_stop h hn hbig sec port cell want put fw fk fc
    · exact looks_fault h hn hbig sec port cell want put fw fk fc
    · exact looks_count h hn hbig sec port cell want put fw fk fc
    · exact looks_log h hn hbig sec port cell want put fw fk fc
    · exact looks_image h hn hbig sec port cell want put fw fk fc
set_option maxRecDepth 100000 in
set_option maxHeartbeats 4000000 in
theorem step_any (h : Sd w F x b gc q rb rgc Y lv rlv pv wv hv s s ps whos gs gs) (hn : NB s whos n) (hbig : (n + 1) * 64 ≤ 140737488355328) (k : Int) (sec : Bool) (port cell want put fw fk fc : Int) :
    Calls Try.prog 38 #[.pointer (some ⟨x, 0, none⟩), opV k sec port cell want put fw fk fc] w fun e w' => e = .returned (.bool true) ∧ StP w w' F x n := by
  obtain ⟨W, hW⟩ : ∃ W, W = w.alloc (opO k sec port cell want put fw fk fc) := ⟨_, rfl⟩
  have hb : Below w.heap.size w W := by rw [hW]; exact (Below.refl _ _).alloc (Nat.le_refl _) _
  have hob : W.heap[w.heap.size]? = some (opO k sec port cell want put fw fk fc) := by rw [hW]; exact heap_new _ _
  have HP1 := hide ((SP.refl w F).step (S := fun _ => False) (Chg.of_below hb) (fun _ e => e.elim))
  have HA := hide (fun h1 h5 => accesses_all (h.news hb) hn hbig k sec port cell want put fw fk fc h1 h5)
  have HG := hide (fun h1 h5 => grants_all (h.news hb) hn hbig k sec port cell want put fw fk fc h1 h5)
  have HL := hide (looks_all (h.news hb) hn hbig k sec port cell want put fw fk fc)
  have k0 := cell_of hob (i := 0) rfl
  have k1 := cell_of hob (i := 1) rfl
  have k2 := cell_of hob (i := 2) rfl
  have k3 := cell_of hob (i := 3) rfl
  have k4 := cell_of hob (i := 4) rfl
  have k5 := cell_of hob (i := 5) rfl
  have k6 := cell_of hob (i := 6) rfl
  have k7 := cell_of hob (i := 7) rfl
  have k8 := cell_of hob (i := 8) rfl
  obtain ⟨ob, hobe⟩ : ∃ ob, ob = w.heap.size := ⟨_, rfl⟩
  rw [← hobe] at k0 k1 k2 k3 k4 k5 k6 k7 k8
  unfold opV at HA HG HL ⊢
  unfold opO at hW
  clear h hb hob hn hbig
  by_cases hA : 1 ≤ k ∧ k ≤ 5
  · have ga1 : decide (1 ≤ k) = true := decide_eq_true hA.1
    have ga2 : decide (k ≤ 5) = true := decide_eq_true hA.2
    have hA1 := hA.1
    have hA2 := hA.2
    have HAA := hide (HA.out hA.1 hA.2)
    clear hA HA HG HL
    go_enter Try.func38, Try.ntmps38
    go_upto_region 1 with fail
    rw [← hW, ← hobe]
    clear hW hobe
    go_wp2_with fail
    refine HAA.out.mono ?_
    rintro e w2 ⟨rfl, hs⟩
    have HS := hide hs
    clear hs
    go_wp2_with fail
    go_ret
    exact ⟨rfl, StP.behind HP1.out HS.out⟩
  · by_cases hG : 6 ≤ k ∧ k ≤ 8
    · have ga1 : decide (6 ≤ k) = true := decide_eq_true hG.1
      have ga2 : decide (k ≤ 8) = true := decide_eq_true hG.2
      have ga3 : decide (k ≤ 5) = false := decide_eq_false (by omega)
      have ga4 : decide (1 ≤ k) = true := decide_eq_true (by omega)
      have hG1 := hG.1
      have hG2 := hG.2
      have hG3 : ¬ k ≤ 5 := by omega
      have hG4 : 1 ≤ k := by omega
      have HGG := hide (HG.out hG.1 hG.2)
      clear hA hG HA HG HL
      go_enter Try.func38, Try.ntmps38
      go_upto_region 1 with fail
      rw [← hW, ← hobe]
      clear hW hobe
      go_wp2_with fail
      refine HGG.out.mono ?_
      rintro e w2 ⟨rfl, hs⟩
      have HS := hide hs
      clear hs
      go_wp2_with fail
      go_ret
      exact ⟨rfl, StP.behind HP1.out HS.out⟩
    · rcases Int.lt_or_le k 1 with hk | hk
      · have ga1 : decide (1 ≤ k) = false := decide_eq_false (by omega)
        have ga2 : decide (6 ≤ k) = false := decide_eq_false (by omega)
        have hb1 : ¬ 1 ≤ k := by omega
        have hb2 : ¬ 6 ≤ k := by omega
        clear hA hG HA HG hk
        go_enter Try.func38, Try.ntmps38
        go_upto_region 1 with fail
        rw [← hW, ← hobe]
        clear hW hobe
        go_wp2_with fail
        refine HL.out.mono ?_
        rintro e w2 ⟨rfl, hs⟩
        have HS := hide hs
        clear hs
        go_wp2_with fail
        go_ret
        exact ⟨rfl, StP.behind HP1.out HS.out⟩
      · have ga1 : decide (1 ≤ k) = true := decide_eq_true (by omega)
        have ga2 : decide (k ≤ 5) = false := decide_eq_false (by omega)
        have ga3 : decide (6 ≤ k) = true := decide_eq_true (by omega)
        have ga4 : decide (k ≤ 8) = false := decide_eq_false (by omega)
        have hb1 : 1 ≤ k := by omega
        have hb2 : ¬ k ≤ 5 := by omega
        have hb3 : 6 ≤ k := by omega
        have hb4 : ¬ k ≤ 8 := by omega
        clear hA hG HA HG hk
        go_enter Try.func38, Try.ntmps38
        go_upto_region 1 with fail
        rw [← hW, ← hobe]
        clear hW hobe
        go_wp2_with fail
        refine HL.out.mono ?_
        rintro e w2 ⟨rfl, hs⟩
        have HS := hide hs
        clear hs
        go_wp2_with fail
        go_ret
        exact ⟨rfl, StP.behind HP1.out HS.out⟩
end
end Go.Proofs.Ytfgchkkljlbmcaa
