/- Word and Seal of the writer. -/
import Derived.Test.YtahhlmmdmjocdaaDoorCrc
namespace Go.Proofs.YtahhlmmdmjocdaaDoor
open Go.RowKit Go.Lib
set_option linter.unusedVariables false

def le (x : Nat) : Nat → List Int
  | 0 => []
  | s + 1 => ((x % 256 : Nat) : Int) :: le (x / 256) s
theorem le_length (x s : Nat) : (le x s).length = s := by
  induction s generalizing x with
  | zero => rfl
  | succ s ih => simp [le, ih]

set_option maxRecDepth 100000 in
theorem width_any (s : Nat) (w : World) (h1 : 1 ≤ s) (h8 : s ≤ 8) : Calls Tryd.prog 22 #[.int .i64 s] w fun e w' => e = .returned (.bool true) ∧ w' = w := by
  go_enter Tryd.func22, Tryd.ntmps22
  go_wp2
  all_goals first
    | (exfalso; omega)
    | (go_ret; exact ⟨rfl, rfl⟩)
    | (go_ret; refine ⟨?_, rfl⟩; show Ending.returned (Value.bool _) = _; congr 2; simp; omega)

set_option maxRecDepth 100000 in
set_option maxHeartbeats 2000000 in
theorem word_any (w : World) (B b : Nat) (v : Value) (bs : List Int) (x s : Nat) (h : WOwn w B b v bs) (hB : B ≤ w.heap.size) (hx : x < 18446744073709551616) (hx0 : x / 2 ^ (8 * s) = 0) (h1 : 1 ≤ s) (h8 : s ≤ 8) (hlen : bs.length ≤ 175921860444160) :
    Calls Tryd.prog 11 #[.pointer (some ⟨b, 0, none⟩), .int .u64 x, .int .i64 s] w fun e w' => e = .returned (.int .i64 0) ∧ ∃ v', WOwn w' B b v' (bs ++ le x s) ∧ Turn B b w w' := by
  obtain ⟨i0, hi, hz0, hz1, hz2⟩ := info_parts Tryd.info5
  have H := hide h
  have HWD := hide (width_any s w h1 h8)
  have hx0' : (x : Int) / 2 ^ (8 * s) = 0 := by
    have : ((x / 2 ^ (8 * s) : Nat) : Int) = 0 := by rw [hx0]; rfl
    simpa using this
  clear h hx0
  go_enter Tryd.func11, Tryd.ntmps11
  go_wp2_with fail
  refine HWD.out.mono ?_
  rintro e w' ⟨rfl, rfl⟩
  go_wp2
  clear hx0'
  generalize (x : Int) / 2 ^ (8 * s) = q14
  go_loopw [18, 1] (fun t u wr => ∃ (i y : Nat) (bs' : List Int) (vv : Value), i ≤ s ∧ t = .int .i64 i ∧ u = .int .u64 y ∧ y < 18446744073709551616 ∧ bs ++ le x s = bs' ++ le y (s - i) ∧ bs'.length = bs.length + i ∧ WOwn wr B b vv bs' ∧ Turn B b w' wr) (fun t _ _ => s - (RowKit.intOf t).toNat)
  case atStart => exact ⟨0, x, bs, v, by omega, rfl, rfl, hx, rfl, rfl, H.out, Turn.refl _ _ _⟩
  case round =>
    obtain ⟨i, y, bs', vv, his, rfl, rfl, hy, he, hbl, hw, ht⟩ := hrel
    have HE := hide he; have HW := hide hw; have HT := hide ht
    have hB' : B ≤ wr.heap.size := Nat.le_trans hB ht.bel.size
    have c0 := cell_of hw.hb (i := 0) rfl
    have hl3 : bs'.length ≤ 175921860444170 := by omega
    have HBL := hide hbl
    clear hw ht he hbl
    by_cases hlt : i < s
    · go_wp2_with (first
        | (at_builtin; refine wpList_append_own_wide _ rfl (.tmp 24) (.tmp 27) 37 rfl B 5 i0 (.int .u8 0) 1 1 Tryd.underlying37 hi hz0 hz1 hz2 rfl (by decide) _ _ _ rfl (HW.out.own.alloc _) ⟨wr.heap.size, 0, none⟩ 1 1 [.int .u8 _] rfl rfl (one_at wr _ _) (by simp [Value.oneCell']) (by unfold maxLen; omega) (by omega) (by simp; omega) ?_; intro v2 w2 hown2 hgrow2 hq2; obtain ⟨g, c2, rfl, k1, k2, k3, k4⟩ := put_byte HW.out hB' hown2 hgrow2; have HK := hide (And.intro k3 k4); clear hown2 hgrow2 hq2 k3 k4)
        | fail)
      have hk := HK.out.1
      go_roundw
      case rel =>
        refine ⟨i + 1, y / 256, bs' ++ [((y % 256 : Nat) : Int)], .slice (some ⟨g, 0, none⟩) (bs'.length + 1) c2, by omega, by simp, by simp, by omega, ?_, by simp; have := HBL.out; omega, ?_, HT.out.trans HK.out.2⟩
        · rw [HE.out]
          obtain ⟨d, hd⟩ : ∃ d, s - i = d + 1 := ⟨s - i - 1, by omega⟩
          rw [hd, show s - (i + 1) = d by omega]
          simp [le]
        · simpa using hk
      case measure => simp [RowKit.intOf]; omega
    · go_wp2
      go_ret
      refine ⟨rfl, vv, ?_, HT.out⟩
      rw [HE.out, show s - i = 0 by omega]
      simpa [le] using HW.out
theorem RowAt.dropped {k : IntKind} {w : World} {ao : Option Addr} {n c : Nat} {xs : List Int} (h : RowAt k w (.slice ao n c) xs) : n = xs.length := by
  obtain ⟨_, _, he, _⟩ := h
  simp only [Value.slice.injEq] at he
  exact he.2.1

set_option maxRecDepth 100000 in
set_option maxHeartbeats 2000000 in
theorem seal_zero (w : World) (B b : Nat) (v : Value) (bs : List Int) (h : WOwn w B b v bs) (hB : B ≤ w.heap.size) (hs : SumsAt w) (hby : ∀ x ∈ bs, 0 ≤ x ∧ x < 256) (hne : bs ≠ []) (hlen : bs.length ≤ 1000) :
    Calls Tryd.prog 13 #[.pointer (some ⟨b, 0, none⟩), .int .i64 0] w fun e w' => e = .returned (.int .i64 0) ∧ ∃ v', WOwn w' B b v' (bs ++ le (crc bs) 4) ∧ Turn B b w w' := by
  have c0 := cell_of h.hb (i := 0) rfl
  have hrow : RowAt .u8 w v bs := RowAt.of_owns h.own
  obtain ⟨g, o, c, rfl, hc, hm, _⟩ := hrow.spot hne
  have HCR := hide (crc_any _ bs w hrow hs hby (by omega))
  have HWD := hide (word_any w B b _ bs (crc bs) 4 h hB (by have := crc_lt bs hby; omega) (by have := crc_lt bs hby; exact Nat.div_eq_of_lt (by simpa using this)) (by omega) (by omega) (by omega))
  have hcl := crc_lt bs hby
  obtain ⟨cr, hcr⟩ : ∃ cr, cr = crc bs := ⟨_, rfl⟩
  rw [← hcr] at HCR HWD hcl ⊢
  have hpos : 0 < bs.length := List.length_pos_iff.2 hne
  have hcp : ¬ c = 0 := by omega
  clear h hrow hne hcr
  go_enter Tryd.func13, Tryd.ntmps13
  go_wp2_with fail
  refine HCR.out.mono ?_
  rintro e w1 ⟨rfl, rfl⟩
  go_wp2_with fail
  refine HWD.out.mono ?_
  rintro e w2 ⟨rfl, v', hw, ht⟩
  have HW := hide (And.intro hw ht)
  clear hw ht
  go_wp2
  go_ret
  exact ⟨rfl, v', HW.out.1, HW.out.2⟩
end Go.Proofs.YtahhlmmdmjocdaaDoor
