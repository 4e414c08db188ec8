/- upTo. -/
import Derived.Test.YtfgchkkljlbmcaaSd9
import Derived.Test.YtfgchkkljlbmcaaSd11
import Derived.Test.YtfgchkkljlbmcaaStopsHelp
namespace Go.Proofs.Ytfgchkkljlbmcaa
open Go.RowKit Go.Lib Go.MuLone
set_option linter.unusedVariables false
set_option linter.unusedSimpArgs false
theorem side_any (n : Int) (keep : Bool) (w : World) : Calls Try.prog 37 #[.int .i64 n, .bool keep] w fun e w' => ∃ v F, e = .returned (.tuple #[v, .bool true]) ∧ SO w' F v 0 ∧ (∀ k, F k → w.heap.size ≤ k) ∧ Below w.heap.size w w' := by
  by_cases hn : n < 0 ∨ 16777216 < n
  · refine (side_bad n keep w hn).mono ?_
    rintro e w' ⟨rfl, rfl⟩
    exact ⟨.pointer none, fun _ => False, rfl, .inl ⟨rfl, fun _ h => h⟩, fun _ h => h.elim, Below.refl _ _⟩
  · obtain ⟨m, rfl⟩ : ∃ m : Nat, n = (m : Int) := ⟨n.toNat, by omega⟩
    refine (side_good m keep w (by omega)).mono ?_
    rintro e w' ⟨x, b, gc, q, rb, rgc, Y, rfl, h, hb⟩
    exact ⟨_, _, rfl, .inr ⟨x, b, gc, q, rb, rgc, Y, _, _, _, _, _, _, [], [], [], rfl, h, ⟨by simp [Ast.new], by simp [Ast.new], by simp [Ast.new], by simp⟩⟩, fun k hk => hk.1, hb⟩
theorem SO.other {w w' : World} {F S : Nat → Prop} {v : Value} {n : Nat} (h : SO w F v n) (k : Chg S w w') (hS : ∀ i, F i → ¬ S i) : SO w' F v n := by
  rcases h with h | ⟨x, b, gc, q, rb, rgc, Y, lv, rlv, pv, wv, hv, s, ps, whos, gs, rfl, h1, h2⟩
  · exact .inl h
  · exact .inr ⟨x, b, gc, q, rb, rgc, Y, lv, rlv, pv, wv, hv, s, ps, whos, gs, rfl, h1.other k hS, h2⟩
theorem SO.lt {w : World} {F : Nat → Prop} {v : Value} {n : Nat} (h : SO w F v n) : ∀ k, F k → k < w.heap.size := by
  rcases h with h | ⟨x, b, gc, q, rb, rgc, Y, lv, rlv, pv, wv, hv, s, ps, whos, gs, rfl, h1, h2⟩
  · exact fun k hk => (h.2 k hk).elim
  · exact h1.fl
theorem SO.up {w : World} {F : Nat → Prop} {v : Value} {n : Nat} (h : SO w F v n) : SO w F v (n + 1) := by
  rcases h with h | ⟨x, b, gc, q, rb, rgc, Y, lv, rlv, pv, wv, hv, s, ps, whos, gs, rfl, h1, h2⟩
  · exact .inl h
  · exact .inr ⟨x, b, gc, q, rb, rgc, Y, lv, rlv, pv, wv, hv, s, ps, whos, gs, rfl, h1, h2.up⟩
theorem SO.val {w : World} {F : Nat → Prop} {v : Value} {n : Nat} (h : SO w F v n) : v = .pointer none ∨ ∃ x, v = .pointer (some ⟨x, 0, none⟩) := by
  rcases h with h | ⟨x, b, gc, q, rb, rgc, Y, lv, rlv, pv, wv, hv, s, ps, whos, gs, rfl, h1, h2⟩
  · exact .inl h.1
  · exact .inr ⟨x, rfl⟩
/-- Two sides in one memory, all of it new. -/
def UT (w0 w : World) (v1 v2 : Value) (n : Nat) : Prop :=
  ∃ F1 F2, SO w F1 v1 n ∧ SO w F2 v2 n ∧ (∀ k, F1 k → ¬ F2 k) ∧ (∀ k, F1 k → w0.heap.size ≤ k) ∧ (∀ k, F2 k → w0.heap.size ≤ k) ∧ Below w0.heap.size w0 w
theorem UT.bel {w0 w : World} {v1 v2 : Value} {n : Nat} (h : UT w0 w v1 v2 n) : Below w0.heap.size w0 w := by
  obtain ⟨_, _, _, _, _, _, _, h⟩ := h; exact h
theorem UT.up {w0 w : World} {v1 v2 : Value} {n : Nat} (h : UT w0 w v1 v2 n) : UT w0 w v1 v2 (n + 1) := by
  obtain ⟨F1, F2, h1, h2, h3, h4, h5, h6⟩ := h; exact ⟨F1, F2, h1.up, h2.up, h3, h4, h5, h6⟩
theorem UT.swap {w0 w : World} {v1 v2 : Value} {n : Nat} (h : UT w0 w v1 v2 n) : UT w0 w v2 v1 n := by
  obtain ⟨F1, F2, h1, h2, h3, h4, h5, h6⟩ := h; exact ⟨F2, F1, h2, h1, fun k a b => h3 k b a, h5, h4, h6⟩
theorem UT.alloc {w0 w : World} {v1 v2 : Value} {n : Nat} (h : UT w0 w v1 v2 n) (o : Obj) : UT w0 (w.alloc o) v1 v2 n := by
  obtain ⟨F1, F2, h1, h2, h3, h4, h5, h6⟩ := h
  have hb : Below w.heap.size w (w.alloc o) := (Below.refl _ _).alloc (Nat.le_refl _) _
  exact ⟨F1, F2, h1.other (S := fun _ => False) (Chg.of_below hb) (fun _ _ e => e), h2.other (S := fun _ => False) (Chg.of_below hb) (fun _ _ e => e), h3, h4, h5, h6.alloc h6.size _⟩
/-- One side goes a step. -/
theorem UT.go {w0 w w' : World} {F1 F2 : Nat → Prop} {v2 : Value} {x n : Nat} (h2 : SO w F2 v2 n) (h3 : ∀ k, F1 k → ¬ F2 k) (h4 : ∀ k, F1 k → w0.heap.size ≤ k) (h5 : ∀ k, F2 k → w0.heap.size ≤ k) (h6 : Below w0.heap.size w0 w) (hs : StP w w' F1 x n) : UT w0 w' (.pointer (some ⟨x, 0, none⟩)) v2 (n + 1) := by
  obtain ⟨F', b, gc, q, rb, rgc, Y, lv, rlv, pv, wv, hv, s, ps, whos, gs, g1, g2, g3⟩ := hs
  refine ⟨F', F2, .inr ⟨x, b, gc, q, rb, rgc, Y, lv, rlv, pv, wv, hv, s, ps, whos, gs, rfl, g1, g3⟩, (h2.other g2.chg (fun i hi e => h3 i e hi)).up, fun k hk hk2 => ?_, fun k hk => ?_, h5, g2.chg.below h6 h4 h6.size⟩
  · rcases g2.inF k hk with e | e
    · exact h3 k e hk2
    · have := h2.lt k hk2; omega
  · rcases g2.inF k hk with e | e
    · exact h4 k e
    · have := h6.size; omega
/-- A call of one of the two that leaves it as StP says. -/
theorem UT.call {w0 w : World} {v2 : Value} {x n f : Nat} {args : Array Value} (h : UT w0 w (.pointer (some ⟨x, 0, none⟩)) v2 n)
    (hc : ∀ F b gc q rb rgc Y lv rlv pv wv hv s ps whos gs, Sd w F x b gc q rb rgc Y lv rlv pv wv hv s s ps whos gs gs → NB s whos n → Calls Try.prog f args w fun e w' => e = .returned (.bool true) ∧ StP w w' F x n) :
    Calls Try.prog f args w fun e w' => e = .returned (.bool true) ∧ UT w0 w' (.pointer (some ⟨x, 0, none⟩)) v2 (n + 1) := by
  obtain ⟨F1, F2, h1, h2, h3, h4, h5, h6⟩ := h
  rcases h1 with h1 | ⟨x', b, gc, q, rb, rgc, Y, lv, rlv, pv, wv, hv, s, ps, whos, gs, e, h1, hn⟩
  · cases h1.1
  · cases e
    refine (hc F1 b gc q rb rgc Y lv rlv pv wv hv s ps whos gs h1 hn).mono ?_
    rintro e w' ⟨rfl, hs⟩
    exact ⟨rfl, UT.go h2 h3 h4 h5 h6 hs⟩
set_option maxRecDepth 100000 in
set_option maxHeartbeats 8000000 in
theorem upTo_any (n m : Int) (keep : Bool) (ao : Option Addr) (len cap : Nat) (ops : Nat → Opr) (lo hi : Int) (whole : Bool) (w : World) (hlen : (len : Int) * 72 ≤ 140737488351232) (hcap : len ≤ cap) (hsc : Script w ao len ops) :
    Calls Try.prog 11 #[.int .i64 n, .int .i64 m, .bool keep, .slice ao len cap, .int .i64 lo, .int .i64 hi, .bool whole] w fun e w' => e = .returned (.bool true) ∧ Below w.heap.size w w' := by
  have HS := hide hsc
  have HSI := hide (fun n keep W => side_any n keep W)
  clear hsc
  go_enter Try.func11, Try.ntmps11
  go_wp2_with fail
  refine (HSI.out n keep w).mono ?_
  rintro e w1 ⟨v1, F1, rfl, hs1, hf1, hb1⟩
  have H1 := hide hs1
  have HF1 := hide hf1
  have HB1 := hide hb1
  clear hs1 hf1 hb1
  go_wp2_with fail
  refine (HSI.out m (!keep) w1).mono ?_
  rintro e w2 ⟨v2, F2, rfl, hs2, hf2, hb2⟩
  have HU : Hid (UT w w2 v1 v2 0) := ⟨F1, F2, H1.out.other (S := fun _ => False) (Chg.of_below hb2) (fun _ _ e => e), hs2, fun k h1 h2 => by have := H1.out.lt k h1; have := hf2 k h2; omega, HF1.out, fun k hk => by have := hf2 k hk; have := HB1.out.size; omega, HB1.out.trans (hb2.mono HB1.out.size)⟩
  have HV1 := hide H1.out.val
  have HV2 := hide hs2.val
  clear hs2 hf2 hb2 H1 HF1 HB1 HSI
  go_wp2_with fail
  go_loopw [19, 20, 21, 22] (fun t _ _ _ wr => ∃ k : Nat, k ≤ len ∧ t = .int .i64 (k : Int) ∧ UT w wr v1 v2 k) (fun t _ _ _ _ => len - (RowKit.intOf t).toNat)
  case atStart => exact ⟨0, by omega, rfl, HU.out⟩
  case round =>
    clear HU
    obtain ⟨k, hk, rfl, hu⟩ := hrel
    have HU := hide hu
    clear hu
    by_cases hlt : k < len
    · obtain ⟨gq, oq, rfl, hgq, hoc⟩ := (HS.out.below HU.out.bel) k hlt
      obtain ⟨⟨kind, second, port, cell, want, put, xa, xb, xc⟩, hops⟩ : ∃ o, ops k = o := ⟨_, rfl⟩
      rw [hops] at hoc
      have o0 : wr.cell? ⟨gq, oq + k * 9, none⟩ = some (.int .i64 kind) := hoc 0 _ rfl
      have o1 : wr.cell? ⟨gq, oq + k * 9 + 1, none⟩ = some (.bool second) := hoc 1 _ rfl
      have o2 : wr.cell? ⟨gq, oq + k * 9 + 2, none⟩ = some (.int .i64 port) := hoc 2 _ rfl
      have o3 : wr.cell? ⟨gq, oq + k * 9 + 3, none⟩ = some (.int .i64 cell) := hoc 3 _ rfl
      have o4 : wr.cell? ⟨gq, oq + k * 9 + 4, none⟩ = some (.int .u64 want) := hoc 4 _ rfl
      have o5 : wr.cell? ⟨gq, oq + k * 9 + 5, none⟩ = some (.int .u64 put) := hoc 5 _ rfl
      have o6 : wr.cell? ⟨gq, oq + k * 9 + 6, none⟩ = some (.int .i64 xa) := hoc 6 _ rfl
      have o7 : wr.cell? ⟨gq, oq + k * 9 + 7, none⟩ = some (.int .i64 xb) := hoc 7 _ rfl
      have o8 : wr.cell? ⟨gq, oq + k * 9 + 8, none⟩ = some (.int .i64 xc) := hoc 8 _ rfl
      have hki : (k : Int) < (len : Int) := by omega
      have HLN : Hid ((k + 1) * 64 ≤ 140737488355328) := by show _ ≤ _; omega
      clear hoc hops
      go_upto_region 9 with fail
      obtain ⟨W, hW⟩ : ∃ W, W = wr.alloc (opO kind second port cell want put xa xb xc) := ⟨_, rfl⟩
      have hob : W.heap[wr.heap.size]? = some (opO kind second port cell want put xa xb xc) := by rw [hW]; exact heap_new _ _
      have HUW : Hid (UT w W v1 v2 k) := by show UT _ _ _ _ _; rw [hW]; exact HU.out.alloc _
      unfold opO at hW
      rw [← hW]
      have k0 := cell_of hob (i := 0) rfl
      have k1 := cell_of hob (i := 1) rfl
      have k2 := cell_of hob (i := 2) rfl
      have k3 := cell_of hob (i := 3) rfl
      have k4 := cell_of hob (i := 4) rfl
      have k5 := cell_of hob (i := 5) rfl
      have k6 := cell_of hob (i := 6) rfl
      have k7 := cell_of hob (i := 7) rfl
      have k8 := cell_of hob (i := 8) rfl
      obtain ⟨ob, hobe⟩ : ∃ ob, ob = wr.heap.size := ⟨_, rfl⟩
      rw [← hobe] at k0 k1 k2 k3 k4 k5 k6 k7 k8 ⊢
      clear hW hob hobe o0 o1 o2 o3 o4 o5 o6 o7 o8 HU
      cases second
      · rcases HV1.out with hv | ⟨x, hv⟩
        · subst hv
          go_wp2_with fail
          go_roundw
          case rel => exact ⟨k + 1, by omega, by go_num, HUW.out.up⟩
          case measure => simp [RowKit.intOf]; omega
        · subst hv
          have HST := hide (HUW.out.call (f := 38) (fun F b gc q rb rgc Y lv rlv pv wv hv s ps whos gs h hn => step_any h hn HLN.out kind false port cell want put xa xb xc))
          unfold opV at HST
          go_wp2_with fail
          refine HST.out.mono ?_
          rintro e w5 ⟨rfl, hu5⟩
          have HU5 := hide (hu5)
          clear hu5 k0 k1 k2 k3 k4 k5 k6 k7 k8
          go_wp2_with fail
          go_roundw
          case rel => exact ⟨k + 1, by omega, by go_num, HU5.out⟩
          case measure => simp [RowKit.intOf]; omega
      · rcases HV2.out with hv | ⟨x, hv⟩
        · subst hv
          go_wp2_with fail
          go_roundw
          case rel => exact ⟨k + 1, by omega, by go_num, HUW.out.up⟩
          case measure => simp [RowKit.intOf]; omega
        · subst hv
          have HST := hide (HUW.out.swap.call (f := 38) (fun F b gc q rb rgc Y lv rlv pv wv hv s ps whos gs h hn => step_any h hn HLN.out kind true port cell want put xa xb xc))
          unfold opV at HST
          go_wp2_with fail
          refine HST.out.mono ?_
          rintro e w5 ⟨rfl, hu5⟩
          have HU5 := hide (hu5.swap)
          clear hu5 k0 k1 k2 k3 k4 k5 k6 k7 k8
          go_wp2_with fail
          go_roundw
          case rel => exact ⟨k + 1, by omega, by go_num, HU5.out⟩
          case measure => simp [RowKit.intOf]; omega
    · have hki : ¬ (k : Int) < (len : Int) := by omega
      have hkl : k = len := by omega
      have HKL : Hid ((k + 1 + 1) * 64 ≤ 140737488355328) := by show _ ≤ _; omega
      have HK1 : Hid ((k + 1) * 64 ≤ 140737488355328) := by show _ ≤ _; omega
      clear hkl
      cases whole
      · go_wp2_with fail
        go_ret
        exact ⟨rfl, HU.out.bel⟩
      · rcases HV1.out with hv | ⟨x, hv⟩
        · subst hv
          rcases HV2.out with hv | ⟨y, hv⟩
          · subst hv
            go_wp2_with fail
            go_ret
            exact ⟨rfl, HU.out.bel⟩
          · subst hv
            have HST := hide (HU.out.swap.call (f := 39) (args := #[.pointer (some ⟨y, 0, none⟩)]) (fun F b gc q rb rgc Y lv rlv pv wv hv s ps whos gs h hn => all_any h hn HK1.out))
            go_wp2_with fail
            refine HST.out.mono ?_
            rintro e w5 ⟨rfl, hu5⟩
            have HU5 := hide hu5
            clear hu5
            go_wp2_with fail
            go_ret
            exact ⟨rfl, HU5.out.bel⟩
        · subst hv
          have HST := hide (HU.out.call (f := 39) (args := #[.pointer (some ⟨x, 0, none⟩)]) (fun F b gc q rb rgc Y lv rlv pv wv hv s ps whos gs h hn => all_any h hn HK1.out))
          rcases HV2.out with hv | ⟨y, hv⟩
          · subst hv
            go_wp2_with fail
            refine HST.out.mono ?_
            rintro e w5 ⟨rfl, hu5⟩
            have HU5 := hide hu5
            clear hu5
            go_wp2_with fail
            go_ret
            exact ⟨rfl, HU5.out.bel⟩
          · subst hv
            go_wp2_with fail
            refine HST.out.mono ?_
            rintro e w5 ⟨rfl, hu5⟩
            have HU5 := hide hu5
            have HS2 := hide (hu5.swap.call (f := 39) (args := #[.pointer (some ⟨y, 0, none⟩)]) (fun F b gc q rb rgc Y lv rlv pv wv hv s ps whos gs h hn => all_any h hn HKL.out))
            clear hu5
            go_wp2_with fail
            refine HS2.out.mono ?_
            rintro e w6 ⟨rfl, hu6⟩
            have HU6 := hide hu6
            clear hu6
            go_wp2_with fail
            go_ret
            exact ⟨rfl, HU6.out.bel⟩
set_option maxRecDepth 100000 in
theorem accesses_law (n m : Int) (ao : Option Addr) (len cap : Nat) (ops : Nat → Opr) (w : World) (hlen : (len : Int) * 72 ≤ 140737488351232) (hcap : len ≤ cap) (hsc : Script w ao len ops) :
    Calls Try.prog 3 #[.int .i64 n, .int .i64 m, .slice ao len cap] w fun e w' => e = .returned (.bool true) ∧ Below w.heap.size w w' := by
  have HU := hide (upTo_any n m true ao len cap ops 1 8 false w hlen hcap hsc)
  clear hsc hlen hcap
  go_enter Try.func3, Try.ntmps3
  go_wp2_with fail
  refine HU.out.mono ?_
  rintro e w' ⟨rfl, hb⟩
  have HB := hide hb
  clear hb
  go_wp2_with fail
  go_ret
  exact ⟨rfl, HB.out⟩
set_option maxRecDepth 100000 in
theorem plays_law (n m : Int) (keep : Bool) (ao : Option Addr) (len cap : Nat) (ops : Nat → Opr) (w : World) (hlen : (len : Int) * 72 ≤ 140737488351232) (hcap : len ≤ cap) (hsc : Script w ao len ops) :
    Calls Try.prog 4 #[.int .i64 n, .int .i64 m, .bool keep, .slice ao len cap] w fun e w' => e = .returned (.bool true) ∧ Below w.heap.size w w' := by
  have HU := hide (upTo_any n m keep ao len cap ops 1 15 true w hlen hcap hsc)
  clear hsc hlen hcap
  go_enter Try.func4, Try.ntmps4
  go_wp2_with fail
  refine HU.out.mono ?_
  rintro e w' ⟨rfl, hb⟩
  have HB := hide hb
  clear hb
  go_wp2_with fail
  go_ret
  exact ⟨rfl, HB.out⟩
end Go.Proofs.Ytfgchkkljlbmcaa
