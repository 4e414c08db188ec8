/- The reference's writer. -/
import Derived.Test.YtpfpelhhebafeaaDoorWxA
namespace Go.Proofs.YtpfpelhhebafeaaDoor
open Go.RowKit Go.Lib Go.Maps
set_option linter.unusedVariables false
set_option linter.unusedSimpArgs false
set_option maxRecDepth 100000 in
set_option maxHeartbeats 2000000 in
theorem rvar_w (w : World) (b : Nat) (v : Value) (bs : List Int) (x : Nat) (h : WX w 54 b v bs) (hx : x < 18446744073709551616) (hlen : bs.length ≤ 100000000000000) :
    Calls Tryd.prog 43 #[.pointer (some ⟨b, 0, none⟩), .int .u64 x] w fun e w' => e = .returned (.tuple #[]) ∧ ∃ v', WX w' 54 b v' (bs ++ enc x) ∧ WT b v v' w w' := by
  obtain ⟨i0, hi, hz0, hz1, hz2⟩ := info_parts Tryd.info5
  have H := hide h
  clear h
  go_enter Tryd.func43, Tryd.ntmps43
  go_wp2
  go_loopw [1] (fun t wr => ∃ (y : Nat) (bs' : List Int) (vv : Value), t = .int .u64 y ∧ y < 18446744073709551616 ∧ bs ++ enc x = bs' ++ enc y ∧ WX wr 54 b vv bs' ∧ WT b v vv w wr) (fun t _ => (RowKit.intOf t).toNat)
  case atStart => exact ⟨x, bs, v, rfl, hx, rfl, H.out, WT.refl _ _ _⟩
  case round =>
    obtain ⟨y, bs', vv, rfl, hy, he, hw, ht⟩ := hrel
    have HE := hide he; have HW := hide hw; have HT := hide ht
    have c0 := cell_of hw.hb (i := 0) rfl
    have hy10 := enc_ten hy
    have hx10 := enc_ten hx
    have hl2 : bs.length + (enc x).length = bs'.length + (enc y).length := by have := congrArg List.length he; simpa using this
    have hl3 : bs'.length ≤ 100000000000010 := by omega
    clear hw ht he hl2
    by_cases hs : y < 128
    · have hs' : ¬ (127 : Int) < (y : Int) := by omega
      go_wp2_with (first
        | (at_builtin; refine wpList_append_own_at _ rfl (.tmp 25) (.tmp 28) 22 rfl 0 5 i0 (.int .u8 0) 1 1 Tryd.underlying22 hi hz0 hz1 hz2 rfl (by decide) _ _ _ rfl (HW.out.own.alloc _) ⟨wr.heap.size, 0, none⟩ 1 1 [.int .u8 _] rfl rfl (one_at wr _ _) (by simp [Value.oneCell']) (by unfold maxLen; omega) (by omega) (Nat.zero_le _) ?_; intro v2 w2 hown2 hgrow2 hq2 hloc2; obtain ⟨g, c2, rfl, k1, k2, k3, k4⟩ := put_byte_x HW.out (by decide) hown2 hgrow2 hloc2; have HK := hide (And.intro k3 k4); clear hown2 hgrow2 hq2 hloc2 k3 k4)
        | fail)
      first | go_end0 | refine bodyPost_ret (results_none rfl _ _ _) rfl ?_
      refine ⟨rfl, .slice (some ⟨g, 0, none⟩) (bs'.length + 1) c2, ?_, HT.out.trans HK.out.2⟩
      rw [HE.out, enc_small hs]
      have hk := HK.out.1
      simpa using hk
    · have hs' : (127 : Int) < (y : Int) := by omega
      go_wp2_with (first
        | (at_builtin; refine wpList_append_own_at _ rfl (.tmp 10) (.tmp 15) 22 rfl 0 5 i0 (.int .u8 0) 1 1 Tryd.underlying22 hi hz0 hz1 hz2 rfl (by decide) _ _ _ rfl (HW.out.own.alloc _) ⟨wr.heap.size, 0, none⟩ 1 1 [.int .u8 _] rfl rfl (one_at wr _ _) (by simp [Value.oneCell']) (by unfold maxLen; omega) (by omega) (Nat.zero_le _) ?_; intro v2 w2 hown2 hgrow2 hq2 hloc2; obtain ⟨g, c2, rfl, k1, k2, k3, k4⟩ := put_byte_x HW.out (by decide) hown2 hgrow2 hloc2; have HK := hide (And.intro k3 k4); clear hown2 hgrow2 hq2 hloc2 k3 k4)
        | fail)
      have hbyte := HK.out.1
      have e128 : (128 : Int) + (y : Int) % 128 = ((y % 128 + 128 : Nat) : Int) := by push_cast; omega
      rw [e128] at hbyte
      refine ⟨⟨y / 128, bs' ++ [((y % 128 + 128 : Nat) : Int)], _, by simp, by omega, ?_, hbyte, HT.out.trans HK.out.2⟩, ?_⟩
      · rw [HE.out, enc_big hs]
        simp
      · simp [RowKit.intOf]; omega
set_option maxRecDepth 100000 in
theorem fits_any (x s : Nat) (w : World) (h1 : 1 ≤ s) (h8 : s ≤ 8) (hx : x < 18446744073709551616) : Calls Tryd.prog 56 #[.int .u64 x, .int .i64 s] w fun e w' => e = .returned (.bool (decide (x / 2 ^ (8 * s) = 0))) ∧ w' = w := by
  by_cases h : s = 8
  · have e : decide (x / 2 ^ (8 * s) = 0) = true := by
      rw [h]
      exact decide_eq_true (Nat.div_eq_of_lt (by simpa using hx))
    rw [e]
    subst h
    go_enter Tryd.func56, Tryd.ntmps56
    go_wp2
    go_ret
    exact ⟨rfl, rfl⟩
  · have h8i : ((s : Int) == 8) = false := by simp; omega
    have h8j : ¬ (s : Int) = 8 := by omega
    have e : ((x : Int) / 2 ^ (8 * s) == 0) = decide (x / 2 ^ (8 * s) = 0) := by
      have e2 : (x : Int) / 2 ^ (8 * s) = ((x / 2 ^ (8 * s) : Nat) : Int) := by push_cast; rfl
      rw [e2]
      by_cases h0 : x / 2 ^ (8 * s) = 0
      · rw [h0]; rfl
      · rw [decide_eq_false h0]; simp; omega
    rw [← e]
    clear e
    go_enter Tryd.func56, Tryd.ntmps56
    go_wp2
    go_ret
    exact ⟨rfl, rfl⟩
set_option maxRecDepth 100000 in
set_option maxHeartbeats 2000000 in
theorem rword_ok (w : World) (b : Nat) (v : Value) (bs : List Int) (x s : Nat) (h : WX w 54 b v bs) (hx : x < 18446744073709551616) (hx0 : x / 2 ^ (8 * s) = 0) (h1 : 1 ≤ s) (h8 : s ≤ 8) (hlen : bs.length ≤ 100000000000000) :
    Calls Tryd.prog 42 #[.pointer (some ⟨b, 0, none⟩), .int .u64 x, .int .i64 s] w fun e w' => e = .returned (.int .i64 0) ∧ ∃ v', WX w' 54 b v' (bs ++ le x s) ∧ WT b v v' w w' := by
  obtain ⟨i0, hi, hz0, hz1, hz2⟩ := info_parts Tryd.info5
  have H := hide h
  have HF := hide (fits_any x s w h1 h8 hx)
  rw [decide_eq_true hx0] at HF
  have g1 : ¬ (s : Int) < 1 := by omega
  have g2 : ¬ (8 : Int) < (s : Int) := by omega
  clear h hx0
  go_enter Tryd.func42, Tryd.ntmps42
  go_wp2_with (first
    | (go_at_call 56; refine HF.out.mono ?_; rintro e w' ⟨rfl, rfl⟩)
    | fail)
  go_loopw [7, 1] (fun t u wr => ∃ (i y : Nat) (bs' : List Int) (vv : Value), i ≤ s ∧ t = .int .i64 i ∧ u = .int .u64 y ∧ y < 18446744073709551616 ∧ bs ++ le x s = bs' ++ le y (s - i) ∧ bs'.length = bs.length + i ∧ WX wr 54 b vv bs' ∧ WT b v vv w' wr) (fun t _ _ => s - (RowKit.intOf t).toNat)
  case atStart => exact ⟨0, x, bs, v, by omega, rfl, rfl, hx, rfl, rfl, H.out, WT.refl _ _ _⟩
  case round =>
    obtain ⟨i, y, bs', vv, his, rfl, rfl, hy, he, hbl, hw, ht⟩ := hrel
    have HE := hide he; have HW := hide hw; have HT := hide ht
    have c0 := cell_of hw.hb (i := 0) rfl
    have hl3 : bs'.length ≤ 100000000000010 := by omega
    have HBL := hide hbl
    clear hw ht he hbl
    by_cases hlt : i < s
    · go_wp2_with (first
        | (at_builtin; refine wpList_append_own_at _ rfl (.tmp 29) (.tmp 33) 22 rfl 0 5 i0 (.int .u8 0) 1 1 Tryd.underlying22 hi hz0 hz1 hz2 rfl (by decide) _ _ _ rfl (HW.out.own.alloc _) ⟨wr.heap.size, 0, none⟩ 1 1 [.int .u8 _] rfl rfl (one_at wr _ _) (by simp [Value.oneCell']) (by unfold maxLen; omega) (by omega) (Nat.zero_le _) ?_; intro v2 w2 hown2 hgrow2 hq2 hloc2; obtain ⟨g, c2, rfl, k1, k2, k3, k4⟩ := put_byte_x HW.out (by decide) hown2 hgrow2 hloc2; have HK := hide (And.intro k3 k4); clear hown2 hgrow2 hq2 hloc2 k3 k4)
        | fail)
      have hk := HK.out.1
      go_roundw
      case rel =>
        refine ⟨i + 1, y / 256, bs' ++ [((y % 256 : Nat) : Int)], .slice (some ⟨g, 0, none⟩) (bs'.length + 1) c2, by omega, by simp, by simp, by omega, ?_, by simp; have := HBL.out; omega, ?_, HT.out.trans HK.out.2⟩
        · rw [HE.out]
          obtain ⟨d, hd⟩ : ∃ d, s - i = d + 1 := ⟨s - i - 1, by omega⟩
          rw [hd, show s - (i + 1) = d by omega]
          simp [le]
        · simpa using hk
      case measure => simp [RowKit.intOf]; omega
    · go_wp2
      go_ret
      refine ⟨rfl, vv, ?_, HT.out⟩
      rw [HE.out, show s - i = 0 by omega]
      simpa [le] using HW.out
set_option maxRecDepth 100000 in
theorem rword_narrow (w : World) (b : Nat) (x s : Int) (h : ¬ (1 ≤ s ∧ s ≤ 8)) :
    Calls Tryd.prog 42 #[.pointer (some ⟨b, 0, none⟩), .int .u64 x, .int .i64 s] w fun e w' => e = .returned (.int .i64 4) ∧ w' = w := by
  have hh : s < 1 ∨ 8 < s := by omega
  clear h
  go_enter Tryd.func42, Tryd.ntmps42
  rcases hh with hh | hh
  · go_wp2
    go_ret
    exact ⟨rfl, rfl⟩
  · have h2 : ¬ s < 1 := by omega
    go_wp2
    go_ret
    exact ⟨rfl, rfl⟩
set_option maxRecDepth 100000 in
theorem rword_big (w : World) (b x s : Nat) (h1 : 1 ≤ s) (h8 : s ≤ 8) (hx : x < 18446744073709551616) (hx0 : x / 2 ^ (8 * s) ≠ 0) :
    Calls Tryd.prog 42 #[.pointer (some ⟨b, 0, none⟩), .int .u64 x, .int .i64 s] w fun e w' => e = .returned (.int .i64 4) ∧ w' = w := by
  have HF := hide (fits_any x s w h1 h8 hx)
  rw [decide_eq_false hx0] at HF
  have g1 : ¬ (s : Int) < 1 := by omega
  have g2 : ¬ (8 : Int) < (s : Int) := by omega
  clear hx0
  go_enter Tryd.func42, Tryd.ntmps42
  go_wp2_with (first
    | (go_at_call 56; refine HF.out.mono ?_; rintro e w' ⟨rfl, rfl⟩)
    | fail)
  go_ret
  exact ⟨rfl, rfl⟩
set_option maxRecDepth 100000 in
set_option maxHeartbeats 2000000 in
theorem rseal_ok (w : World) (b f : Nat) (v : Value) (bs : List Int) (h : WX w 54 b v bs) (hby : ∀ x ∈ bs, 0 ≤ x ∧ x < 256) (hlen : bs.length ≤ 100000000000000) (hf : f ≤ bs.length) :
    Calls Tryd.prog 45 #[.pointer (some ⟨b, 0, none⟩), .int .i64 f] w fun e w' => e = .returned (.int .i64 0) ∧ ∃ v', WX w' 54 b v' (bs ++ le (crc (bs.drop f)) 4) ∧ WT b v v' w w' := by
  have hbd : ∀ x ∈ bs.drop f, 0 ≤ x ∧ x < 256 := fun x hx => hby x (List.mem_of_mem_drop hx)
  have c0 := cell_of h.hb (i := 0) rfl
  have hrow : RowAt .u8 w v bs := RowAt.of_owns h.own
  have HO := hide h.own
  have HWD := hide (rword_ok w b _ bs (crc (bs.drop f)) 4 h (by have := crc_lt _ hbd; omega) (by have := crc_lt _ hbd; exact Nat.div_eq_of_lt (by simpa using this)) (by omega) (by omega) (by omega))
  have hcl := crc_lt _ hbd
  obtain ⟨ao, c, rfl, k1, k2, k3, k4⟩ := hrow
  have hdl : (bs.drop f).length = bs.length - f := List.length_drop ..
  have HCR : Hid (∀ a : Option Addr, (a = ao ∧ f = 0) ∨ (∃ g, a = some ⟨g, f, none⟩ ∧ ao = some ⟨g, 0, none⟩) ∨ (f = bs.length ∧ ∃ g, a = some ⟨g, 0, none⟩) → Calls Tryd.prog 37 #[.slice a (bs.length - f) (c - f)] w fun e w' => e = .returned (.int .u32 ((crc (bs.drop f) : Nat) : Int)) ∧ w' = w) := by
    intro a ha
    refine refCrc_any _ (bs.drop f) w ⟨a, c - f, by rw [hdl], by rw [hdl]; omega, by omega, ?_, fun a' ha' i hi => ?_⟩ hbd (by rw [hdl]; omega)
    · intro hn
      rcases ha with ⟨rfl, h0⟩ | ⟨g, rfl, _⟩ | ⟨_, g, rfl⟩
      · rw [k3 hn, Nat.zero_sub]
      · cases hn
      · cases hn
    · rw [hdl] at hi
      have hgd : (bs.drop f).getD i 0 = bs.getD (f + i) 0 := by simp [List.getD, List.getElem?_drop]
      rw [hgd]
      rcases ha with ⟨rfl, rfl⟩ | ⟨g, rfl, rfl⟩ | ⟨h0, g, rfl⟩
      · rw [Nat.zero_add]; exact k4 a' ha' i (by omega)
      · cases ha'
        have := k4 _ rfl (f + i) (by omega)
        rw [Addr.add_lit, Nat.zero_add] at this
        rw [Addr.add_lit]
        exact this
      · omega
  obtain ⟨cr, hcr⟩ : ∃ cr, cr = crc (bs.drop f) := ⟨_, rfl⟩
  rw [← hcr] at HCR HWD hcl ⊢
  obtain ⟨L, hL⟩ : ∃ L, L = bs.length := ⟨_, rfl⟩
  rw [← hL] at c0 k1 HCR hlen hf
  have hfL : (f : Int) ≤ (L : Int) := by omega
  have hLc : (L : Int) ≤ (c : Int) := by omega
  have hf0 : ¬ (f : Int) < 0 := by omega
  have hfL2 : ¬ (L : Int) < (f : Int) := by omega
  clear h hcr k4 hbd hdl hL hby
  cases ao with
  | none =>
    obtain rfl := k3 rfl
    obtain rfl : L = 0 := by omega
    obtain rfl : f = 0 := by omega
    have HC2 := hide (HCR.out none (.inl ⟨rfl, rfl⟩))
    rw [Nat.sub_self] at HC2
    clear k3 HCR
    go_enter Tryd.func45, Tryd.ntmps45
    go_wp2_with (first
      | (go_at_call 37; refine HC2.out.mono ?_; rintro e w1 ⟨rfl, rfl⟩)
      | (go_at_call 42; refine HWD.out.mono ?_; rintro e w2 ⟨rfl, v', hw, ht⟩; have HW := hide (And.intro hw ht); clear hw ht)
      | fail)
    go_ret
    exact ⟨rfl, v', HW.out.1, HW.out.2⟩
  | some a =>
    obtain ⟨g, rfl⟩ : ∃ g, a = ⟨g, 0, none⟩ := by
      obtain ⟨_, ⟨he, _⟩ | ⟨g', cap', cur', he, _⟩⟩ := HO.out
      · simp at he
      · simp only [Value.slice.injEq, Option.some.injEq] at he; exact ⟨g', he.1⟩
    clear k3
    by_cases hcf : c = f
    · have HC2 := hide (HCR.out (some ⟨g, 0, none⟩) (.inr (.inr ⟨by omega, g, rfl⟩)))
      have hcf2 : f = c := hcf.symm
      subst hcf2
      obtain rfl : L = f := by omega
      rw [Nat.sub_self] at HC2
      clear HCR hcf
      go_enter Tryd.func45, Tryd.ntmps45
      go_wp2_with (first
        | (go_at_call 37; refine HC2.out.mono ?_; rintro e w1 ⟨rfl, rfl⟩)
        | (go_at_call 42; refine HWD.out.mono ?_; rintro e w2 ⟨rfl, v', hw, ht⟩; have HW := hide (And.intro hw ht); clear hw ht)
        | fail)
      go_ret
      exact ⟨rfl, v', HW.out.1, HW.out.2⟩
    · have HC2 := hide (HCR.out (some ⟨g, f, none⟩) (.inr (.inl ⟨g, rfl, rfl⟩)))
      clear HCR
      go_enter Tryd.func45, Tryd.ntmps45
      go_wp2_with (first
        | (go_at_call 37; refine HC2.out.mono ?_; rintro e w1 ⟨rfl, rfl⟩)
        | (go_at_call 42; refine HWD.out.mono ?_; rintro e w2 ⟨rfl, v', hw, ht⟩; have HW := hide (And.intro hw ht); clear hw ht)
        | fail)
      go_ret
      exact ⟨rfl, v', HW.out.1, HW.out.2⟩
set_option maxRecDepth 100000 in
theorem rseal_bad (w : World) (b : Nat) (v : Value) (bs : List Int) (f : Int) (h : WX w 54 b v bs) (hf : ¬ (0 ≤ f ∧ f ≤ (bs.length : Int))) :
    Calls Tryd.prog 45 #[.pointer (some ⟨b, 0, none⟩), .int .i64 f] w fun e w' => e = .returned (.int .i64 6) ∧ w' = w := by
  have c0 := cell_of h.hb (i := 0) rfl
  obtain ⟨ao, c, rfl⟩ := own_shape h.own
  have hh : f < 0 ∨ (bs.length : Int) < f := by omega
  clear h hf
  go_enter Tryd.func45, Tryd.ntmps45
  go_wp2
  all_goals first
    | (exfalso; omega)
    | (go_ret; exact ⟨rfl, rfl⟩)
set_option maxRecDepth 100000 in
set_option maxHeartbeats 4000000 in
theorem rbytes_w (w : World) (b : Nat) (v : Value) (bs : List Int) (xv : Value) (xs : List Int) (h : WX w 54 b v bs) (hx : RowAt .u8 w xv xs) (hxb : ∀ g o n c, xs ≠ [] → xv = .slice (some ⟨g, o, none⟩) n c → g ≠ b ∧ v.ownBlock ≠ some g) (hlen : bs.length + xs.length ≤ 100000000000000) :
    Calls Tryd.prog 44 #[.pointer (some ⟨b, 0, none⟩), xv] w fun e w' => e = .returned (.tuple #[]) ∧ ∃ v', WX w' 54 b v' (bs ++ xs) ∧ WT b v v' w w' := by
  obtain ⟨i0, hi, hz0, hz1, hz2⟩ := info_parts Tryd.info5
  have H := hide h
  have HXR := hide hx
  have HXB := hide hxb
  obtain ⟨ao, c, rfl⟩ : ∃ ao c, xv = .slice ao xs.length c := by obtain ⟨ao, c, h, _⟩ := hx; exact ⟨ao, c, h⟩
  obtain ⟨L, hL⟩ : ∃ L, L = xs.length := ⟨_, rfl⟩
  have HL := hide hL
  rw [← hL] at HXR HXB hlen ⊢
  clear h hx hxb hL
  go_enter Tryd.func44, Tryd.ntmps44
  go_wp2
  go_loopw [4] (fun t wr => ∃ (i : Nat) (vv : Value), i ≤ L ∧ t = .int .i64 (i : Int) ∧ WX wr 54 b vv (bs ++ xs.take i) ∧ WT b v vv w wr) (fun t _ => L - (RowKit.intOf t).toNat)
  case atStart => exact ⟨0, v, by omega, rfl, by simpa using H.out, WT.refl _ _ _⟩
  case round =>
    obtain ⟨i, vv, hiL, rfl, hw, ht⟩ := hrel
    have HW := hide hw; have HT := hide ht
    have c0 := cell_of hw.hb (i := 0) rfl
    by_cases hlt : i < L
    · have hil : i < xs.length := by rw [← HL.out]; exact hlt
      obtain ⟨g, o, c', he, k1, k2, k3⟩ := HXR.out.spot (by intro e; rw [e] at hil; simp at hil)
      have hne : xs ≠ [] := by intro e; rw [e] at hil; simp at hil
      obtain ⟨hgb, hgv⟩ := HXB.out g o _ _ hne he
      simp only [Value.slice.injEq] at he
      obtain ⟨rfl, hdrop, rfl⟩ := he
      clear hdrop
      have d0 := k3 i hil
      have hglt : g < w.heap.size := block_of_cell d0
      have d : wr.cell? ⟨g, o + i, none⟩ = some (.int .u8 (xs[i]?.getD 0)) := by
        simp only [World.cell?] at d0 ⊢
        rw [ht.blk g hglt hgb hgv]
        exact d0
      obtain ⟨x, hx⟩ : ∃ x, x = xs[i]?.getD 0 := ⟨_, rfl⟩
      rw [← hx] at d
      have HT1 : Hid (bs ++ xs.take (i + 1) = (bs ++ xs.take i) ++ [x]) := hide (by
        rw [List.take_add_one, hx, List.getElem?_eq_getElem hil, List.append_assoc]
        rfl)
      have hli : (bs ++ xs.take i).length = bs.length + i := by rw [List.length_append, List.length_take]; omega
      obtain ⟨cur, hcur⟩ : ∃ cur, cur = bs ++ xs.take i := ⟨_, rfl⟩
      rw [← hcur] at HW HT1 hli
      obtain ⟨N0, hN0⟩ : ∃ N0, N0 = cur.length := ⟨_, rfl⟩
      have HN0 := hide hN0
      have HOW : Hid (wr.ownsRow 0 5 1 vv N0 (cur.map (Value.int .u8))) := hide (by rw [hN0]; exact HW.out.own)
      have hli2 : N0 ≤ 100000000000000 := by omega
      rw [← HL.out] at k1
      have hlti : (i : Int) < (L : Int) := by omega
      clear hx k3 k2 d0 hw ht hgv hli hcur hN0
      have c0a : (wr.alloc (.cells #[.int .u8 x] 5)).cell? ⟨b, 0, none⟩ = some vv := cell_of (HW.out.below (below_alloc' (Below.refl _ _) _)).hb (i := 0) rfl
      go_wp2_with fail
      refine wp_region_noPanic ?_
      go_region_law ((refine step_append_lies _ (by rfl) _ _ _ (by rfl) 0 5 i0 (.int .u8 0) 1 1 Tryd.underlying22 hi hz0 hz1 hz2 rfl (by omega) vv N0 (cur.map (Value.int .u8)) (by rfl) (by first | exact (HOW.out.alloc _).drew | exact HOW.out.drew.alloc _) ⟨wr.heap.size, 0, none⟩ 1 1 [.int .u8 x] (by rfl) (by rfl) (by first | exact one_at' wr _ _ | exact one_at wr.drew _ _) (by simp [Value.oneCell']) (by omega) (by unfold maxLen; omega) (by omega) (Nat.zero_le _) (wr.heap.size + 1) (by simp) ?_; intro g5 cap5 w5 hown5 hgrow5 hat5 hlt5; obtain ⟨z1, z2, z3, z4⟩ := put_x (xs := [x]) HW.out (by decide) (by first | exact (below_alloc' (Below.refl _ wr) _).drew | exact below_alloc' ((Below.refl _ wr).drew) _) (by show w5.ownsRow 0 5 1 _ (cur.length + 1) _; rw [← HN0.out]; exact hown5) hgrow5 (by rcases hat5 with e5 | e5; exact .inl (by rw [e5]; rfl); exact .inr (by rw [e5]; simp [Value.ownBlock])); have HZ := hide (And.intro z3 z4); clear hown5 hgrow5 hat5 hlt5 z3 z4))
      all_goals
        refine NoPanic.normal ?_
        go_wp2_with fail
        go_roundw
        case rel => exact ⟨i + 1, _, hlt, by simp, by rw [HT1.out]; exact HZ.out.1, HT.out.trans HZ.out.2⟩
        case measure => simp [RowKit.intOf]; omega
    · obtain rfl : i = L := by omega
      have HT2 : Hid (xs.take i = xs) := hide (List.take_of_length_le (by rw [← HL.out]; exact Nat.le_refl _))
      clear hw ht
      go_wp2
      first | go_end0 | refine bodyPost_ret (results_none rfl _ _ _) rfl ?_
      refine ⟨rfl, vv, ?_, HT.out⟩
      have := HW.out
      rw [HT2.out] at this
      exact this
end Go.Proofs.YtpfpelhhebafeaaDoor
