/- OctetLoose: the walk. -/
import Derived.Test.YtlgfknoikkceiaaDoorSame
import Derived.Deep.RegionHeld3
import Derived.Deep.RegionWith
namespace Go.Proofs.YtlgfknoikkceiaaDoor
open Go.RowKit Go.Lib
set_option linter.unusedVariables false

set_option maxRecDepth 100000 in
set_option maxHeartbeats 4000000 in
theorem loose_any (v : Value) (bs : List Int) (W0 : World) (hv : RowAt .u8 W0 v bs) (hs : SumsAt W0) (hby : ∀ x ∈ bs, 0 ≤ x ∧ x < 256) (hbig : bs.length ≤ 140737488351232) :
    Calls Tryd.prog 3 #[v] W0 fun e w' => e = .returned (.bool true) ∧ Below W0.heap.size W0 w' := by
  have HV := hide hv
  obtain ⟨ao, c, rfl⟩ : ∃ ao c, v = .slice ao bs.length c := by obtain ⟨ao, c, h, _⟩ := hv; exact ⟨ao, c, h⟩
  have hcl : bs.length ≤ c := by
    obtain ⟨ao', c', he, k1, _⟩ := hv
    simp only [Value.slice.injEq] at he
    obtain ⟨_, _, rfl⟩ := he
    exact k1
  have HHD := hide (heads_any W0 hs)
  clear hv hs
  go_enter Tryd.func3, Tryd.ntmps3
  go_wp2_with fail
  refine HHD.out.mono ?_
  rintro e w1 ⟨rfl, hb1⟩
  have HV1 := hide (HV.out.below hb1)
  have HB1 := hide hb1
  clear hb1 HHD
  go_wp2_with fail
  refine (newReader_any w1 _ bs HV1.out (by omega)).mono ?_
  rintro e w2 ⟨r, rfl, hr2, hrd2, hb2⟩
  have HB2 := hide (below_on HB1.out hb2)
  have HRD2 := hide hrd2
  have HV2 := hide (HV1.out.below hb2)
  have hrs : r < w2.heap.size := by obtain ⟨_, _, hh, _⟩ := hrd2; exact lt_of_heap hh
  have hrl : W0.heap.size ≤ r := by have := HB1.out.size; omega
  clear hrd2 hb2 hr2 HV1 HB1
  go_wp2_with fail
  refine (newWriter_any w2).mono ?_
  rintro e w3 ⟨b, rfl, hw3, hb3⟩
  have HB3 := hide (below_on HB2.out hb3)
  have HRV := hide (rvar_any w3 r 0 bs (HRD2.out.below hb3) (by omega) hby (by omega))
  have HRD3 := hide (HRD2.out.below hb3)
  have HV3 := hide (HV2.out.below hb3)
  have HW3 := hide hw3
  have hbr : b ≠ r := by have := hw3.lo; omega
  have hs23 := hb3.size
  clear hw3 hb3 HRD2 HV2 HB2
  go_wp2_with fail
  refine HRV.out.mono ?_
  rintro e w4 (⟨er, her, rfl, hb4⟩ | ⟨x, rfl, hx, hfront, hrd4, hbt4⟩)
  · have HB4 := hide (below_on HB3.out hb4)
    have HAT := hide (at_any w4 r bs 0 (HRD3.out.below hb4))
    clear hb4 HRV HRD3
    go_wp2_with fail
    refine (no_any er _).mono ?_
    rintro e w5 ⟨rfl, rfl⟩
    have hne : ¬ er = 0 := by omega
    go_wp2_with fail
    refine HAT.out.mono ?_
    rintro e w6 ⟨rfl, rfl⟩
    go_wp2_with fail
    refine (no_any er _).mono ?_
    rintro e w7 ⟨rfl, rfl⟩
    have hle : er ≤ 3 := by omega
    go_wp2
    go_ret
    exact ⟨rfl, HB4.out⟩
  · have hw4 : WOwn w4 w2.heap.size b (.slice none 0 0) [] := by
      have h5 := HW3.out
      exact ⟨(hbt4.block b (lt_of_heap h5.hb) hbr).trans h5.hb, World.ownsRow_nil _ _ _ _, h5.lo⟩
    have HB4 := hide (hbt4.below HB3.out hrl HB3.out.size)
    have hs4 : w2.heap.size ≤ w4.heap.size := Nat.le_trans hs23 hbt4.size
    have HVA := hide (var_any w4 w2.heap.size b _ [] x hw4 hs4 hx (by simp))
    rw [List.nil_append] at HVA
    have HAT := hide (at_any w4 r bs _ hrd4)
    rw [Nat.zero_add] at HAT
    have hten := enc_ten hx
    have hrg := enc_range x
    have hnl : (enc x).length ≤ bs.length := by
      have h5 := congrArg List.length hfront
      rw [List.length_take, List.length_drop] at h5
      omega
    have hfr : bs.take (enc x).length = enc x := by simpa using hfront
    obtain ⟨n, hn⟩ : ∃ n, n = (enc x).length := ⟨_, rfl⟩
    rw [← hn] at HAT hten hrg hnl hfr
    have HFR := hide hfr
    have HNN := hide hn
    clear hn hfr hfront hrd4 hw4 HRV hbt4
    have hv0 : (x : Int) / 2 ^ (7 * n) = 0 := by
      have h5 : x / 2 ^ (7 * n) = 0 := Nat.div_eq_of_lt hrg.1
      have h6 : ((x / 2 ^ (7 * n) : Nat) : Int) = 0 := by rw [h5]; rfl
      simpa using h6
    have hv1 : n ≠ 1 → ¬ (x : Int) / 2 ^ (7 * (n - 1)) = 0 := fun h1 => by
      have h5 : 2 ^ (7 * (n - 1)) ≤ x := by rcases hrg.2 with h | h; exact absurd h h1; exact h
      have h6 : 0 < x / 2 ^ (7 * (n - 1)) := Nat.div_pos h5 (Nat.pow_pos (by decide))
      intro h7
      have h8 : ((x / 2 ^ (7 * (n - 1)) : Nat) : Int) = 0 := by simpa using h7
      omega
    have HV0 := hide hv0; have HV1 := hide hv1
    clear hv0 hv1 hrg
    go_wp2_with fail
    refine (no_any 0 _).mono ?_
    rintro e w5 ⟨rfl, rfl⟩
    go_wp2_with fail
    refine HAT.out.mono ?_
    rintro e w6 ⟨rfl, rfl⟩
    go_wp2_with fail
    refine HVA.out.mono ?_
    rintro e w7 ⟨rfl, v7, hw7, ht7⟩
    have HB7 := hide (HB4.out.trans (ht7.bel.mono (by have := HB3.out.size; have := HB4.out.size; omega)))
    have HOU := hide (fun W (hbW : Below w7.heap.size w7 W) => out_any W w2.heap.size b v7 (enc x) ⟨(hbW.block b (lt_of_heap hw7.hb)).trans hw7.hb, ownsRow_keep hw7.own hbW, hw7.lo⟩ (by rw [← HNN.out]; omega))
    rw [← HNN.out] at HOU
    have HRW : Hid (∀ W, Below w7.heap.size w7 W → RowAt .u8 W (.slice ao n c) (enc x)) := fun W hbW => by
      have h5 := ((HV.out.below HB7.out).below hbW).taken hnl
      rw [HFR.out] at h5
      exact h5
    clear HVA HAT hw7 ht7
    have g1 : decide ((n : Int) < 1) = false := decide_eq_false (by omega)
    have g2 : decide ((10 : Int) < (n : Int)) = false := decide_eq_false (by omega)
    have g3 : decide ((bs.length : Int) < (n : Int)) = false := decide_eq_false (by omega)
    have k1 : ¬ (n : Int) < 1 := by omega
    have k1' : ¬ n = 0 := by omega
    have k1'' : ¬ n < 1 := by omega
    have k2 : ¬ (10 : Int) < (n : Int) := by omega
    have k2' : ¬ 10 < n := by omega
    have k3 : ¬ (bs.length : Int) < (n : Int) := by omega
    have k3' : ¬ bs.length < n := by omega
    have g4 : (n : Int) ≤ (c : Int) := by omega
    go_wp2_with fail
    refine wp_region_noPanic ?_
    go_region_held3 (fun _ => True) (trivial)
      (first
        | (go_at_call 12; refine (HOU.out _ (by first | exact Below.refl _ _ | exact (Below.refl _ _).drew)).mono ?_; rintro e w8 ⟨ao8, c8, rfl, hr8, hb8⟩; have hb78 : Below w7.heap.size w7 w8 := (by first | exact hb8 | exact below_on (Below.refl w7.heap.size w7).drew hb8); have HR8 := hide hr8; have HB8 := hide hb78; clear hr8 hb8 hb78)
        | (go_at_call 11; refine (same_any _ _ (enc x) _ HR8.out (HRW.out _ HB8.out)).mono ?_; rintro e w9 ⟨rfl, hb9⟩; have HB9 := hide hb9; clear hb9))
    refine NoPanic.normal ?_
    have hV0 := HV0.out
    have hV1 := HV1.out
    have HBE := hide (HB7.out.trans ((below_on HB8.out HB9.out).mono HB7.out.size))
    have hsplit : n = 1 ∨ n = 2 ∨ n = 3 ∨ n = 4 ∨ n = 5 ∨ n = 6 ∨ n = 7 ∨ n = 8 ∨ n = 9 ∨ n = 10 := by omega
    clear k1 k1' k1'' k2 k2' k3 k3' g1 g2 g3 g4 HV0 HV1 HFR HNN HRW HOU
    rcases hsplit with rfl | rfl | rfl | rfl | rfl | rfl | rfl | rfl | rfl | rfl
    all_goals
      simp only [Nat.reduceMul, Nat.reduceSub, Int.reducePow, ne_eq, Nat.reduceEqDiff, not_false_eq_true, forall_const, not_true_eq_false, false_implies, Nat.succ_ne_self] at hV0 hV1
      go_wp2
      go_ret
      refine ⟨?_, HBE.out⟩
      first | rfl | exact congrArg (fun b => Ending.returned (Value.bool b)) (bne_iff_ne.mpr hV1)
end Go.Proofs.YtlgfknoikkceiaaDoor
