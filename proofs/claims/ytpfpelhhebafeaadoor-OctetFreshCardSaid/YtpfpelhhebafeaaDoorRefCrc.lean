/- The reference's Crc; roomy, kept. -/
import Derived.Test.YtpfpelhhebafeaaDoorJoinsWalk
import Derived.Test.YtpfpelhhebafeaaDoorSame
import Derived.Test.YtpfpelhhebafeaaDoorBurstWalk
namespace Go.Proofs.YtpfpelhhebafeaaDoor
open Go.RowKit Go.Lib
set_option linter.unusedVariables false

set_option maxRecDepth 100000 in
theorem bit_any (r : Nat) (w : World) (hr : r < 4294967296) : Calls Tryd.prog 53 #[.int .u32 r] w fun e w' => e = .returned (.int .u32 ((mv r : Nat) : Int)) ∧ w' = w := by
  have h2 := xor32 (r / 2) 2197175160 (by omega) (by decide)
  have e2 : ((r / 2 : Nat) : Int) = (r : Int) / 2 := by omega
  rw [e2] at h2
  rcases Nat.mod_two_eq_zero_or_one r with h | h
  · have HM : Hid (((mv r : Nat) : Int) = (r : Int) / 2) := by
      show ((mv r : Nat) : Int) = (r : Int) / 2
      unfold mv
      rw [if_neg (by omega), Nat.xor_zero]
      exact e2
    have h1 : (r : Int) % 2 = 0 := by omega
    clear h h2 e2
    go_enter Tryd.func53, Tryd.ntmps53
    go_wp2
    go_ret
    exact ⟨by rw [HM.out]; rfl, rfl⟩
  · have HM : Hid (((mv r : Nat) : Int) = bits .xor .u32 ((r : Int) / 2) 2197175160) := by
      show ((mv r : Nat) : Int) = bits .xor .u32 ((r : Int) / 2) 2197175160
      unfold mv
      rw [if_pos h]
      exact h2.symm
    have h1 : (r : Int) % 2 = 1 := by omega
    clear h h2 e2
    go_enter Tryd.func53, Tryd.ntmps53
    go_wp2
    go_ret
    exact ⟨by rw [HM.out]; rfl, rfl⟩

set_option maxRecDepth 100000 in
set_option maxHeartbeats 2000000 in
theorem refCrc_any (v : Value) (bs : List Int) (w : World) (h : RowAt .u8 w v bs) (hby : ∀ x ∈ bs, 0 ≤ x ∧ x < 256) (hbig : bs.length ≤ 175921860444160) :
    Calls Tryd.prog 37 #[v] w fun e w' => e = .returned (.int .u32 ((crc bs : Nat) : Int)) ∧ w' = w := by
  have H := hide h
  obtain ⟨ao, c, rfl⟩ : ∃ ao c, v = .slice ao bs.length c := by obtain ⟨ao, c, h, _⟩ := h; exact ⟨ao, c, h⟩
  have HBY := hide hby
  obtain ⟨L, hL⟩ : ∃ L, L = bs.length := ⟨_, rfl⟩
  rw [← hL] at hbig H ⊢
  have HL := hide hL
  clear h hby hL
  go_enter Tryd.func37, Tryd.ntmps37
  go_wp2_with fail
  go_loopw [4, 3] (fun t a wr => ∃ i r : Nat, i ≤ L ∧ t = .int .i64 i ∧ a = .int .u32 r ∧ r < 4294967296 ∧ sumAll (bs.drop i) r = sumAll bs 4294967295 ∧ wr = w) (fun t _ _ => L - (RowKit.intOf t).toNat)
  case atStart => exact ⟨0, 4294967295, by omega, rfl, rfl, by decide, by simp, rfl⟩
  case round =>
    obtain ⟨i, r, hi, rfl, rfl, hr, hsum, rfl⟩ := hrel
    by_cases hlt : i < L
    · have hil : i < bs.length := by rw [← HL.out]; exact hlt
      obtain ⟨g, o, c', he, k1, k2, k3⟩ := H.out.spot (by intro e; rw [e] at hil; simp at hil)
      simp only [Value.slice.injEq] at he
      obtain ⟨rfl, hdrop, rfl⟩ := he
      clear hdrop
      have d := k3 i hil
      have hx := HBY.out (bs[i]) (List.getElem_mem hil)
      rw [List.getElem?_eq_getElem hil] at d
      simp only [Option.getD_some] at d
      obtain ⟨x, hxv⟩ : ∃ x : Nat, bs[i] = (x : Int) := ⟨(bs[i]).toNat, by omega⟩
      rw [hxv] at d hx
      have hx2 : x < 4294967296 := by omega
      have e1 := xor32 r x hr hx2
      have hr1 : r ^^^ x < 4294967296 := Nat.xor_lt_two_pow (n := 32) hr (by omega)
      have HN : Hid (sumAll (bs.drop (i + 1)) (mvs 8 (r ^^^ x)) = sumAll bs 4294967295) := by
        have h9 := hsum
        rw [List.drop_eq_getElem_cons hil] at h9
        have h10 : sumStep r bs[i] = mvs 8 (r ^^^ x) := by rw [step_mvs, hxv]; rfl
        unfold sumAll at h9 ⊢
        rw [List.foldl_cons, h10] at h9
        exact h9
      obtain ⟨q, hq⟩ : ∃ q, q = r ^^^ x := ⟨_, rfl⟩
      rw [← hq] at e1 hr1 HN
      have HQL := hide (fun k => mvs_lt k hr1)
      have hli : (i : Int) < (L : Int) := by omega
      clear hsum hxv hq k3 hr
      go_wp2_with fail
      go_loopw [3, 5] (fun a t wr2 => ∃ k : Nat, k ≤ 8 ∧ a = .int .u32 ((mvs k q : Nat) : Int) ∧ t = .int .i64 k ∧ wr2 = wr) (fun _ t _ => 8 - (RowKit.intOf t).toNat)
      case atStart => exact ⟨0, by omega, by first | rfl | (rw [e1]; rfl), rfl, rfl⟩
      case round =>
        obtain ⟨k, hk, rfl, rfl, rfl⟩ := hrel
        by_cases hlt2 : k < 8
        · have HM := hide (bit_any (mvs k q) wr (HQL.out k))
          rw [show mv (mvs k q) = mvs (k + 1) q from (mvs_add k 1 q).symm] at HM
          obtain ⟨z, hz⟩ : ∃ z, z = mvs k q := ⟨_, rfl⟩
          rw [← hz] at HM ⊢
          clear hz
          go_wp2_with (go_at_call 53; refine HM.out.mono ?_; rintro e w' ⟨rfl, rfl⟩)
          go_roundw
          case rel => exact ⟨k + 1, by omega, rfl, by simp, by first | exact trivial | rfl⟩
          case measure => simp [RowKit.intOf]; omega
        · obtain rfl : k = 8 := by omega
          have h8 := HQL.out 8
          obtain ⟨z, hz⟩ : ∃ z, z = mvs 8 q := ⟨_, rfl⟩
          rw [← hz] at HN h8 ⊢
          clear hz
          go_wp2_with fail
          go_roundw
          case rel => exact ⟨i + 1, z, by omega, by simp, rfl, h8, HN.out, by first | exact trivial | rfl⟩
          case measure => simp [RowKit.intOf]; omega
    · have hi2 : i = bs.length := by rw [← HL.out]; omega
      rw [hi2] at hsum
      have hR : r = sumAll bs 4294967295 := by rw [← hsum, List.drop_length]; rfl
      have HR := hide hR
      have HX := hide (xor32 r 4294967295 hr (by decide))
      clear hR hsum hi2
      go_wp2
      go_ret
      refine ⟨?_, rfl⟩
      have e9 : ((crc bs : Nat) : Int) = bits .xor .u32 (r : Int) 4294967295 := by
        have h5 := HX.out
        unfold crc
        rw [← HR.out, Nat.xor_comm]
        exact h5.symm
      rw [e9]
      rfl

/-- roomy: a copy with two marks behind it. -/
theorem two_at (w : World) (x y : Value) (t : TypeId) : ∀ j u, [x, y][j]? = some u → (w.alloc (.cells #[x, y] t)).cell? ((⟨w.heap.size, 0, none⟩ : Addr).add j) = some u := by
  intro j u hj
  have hh : (w.alloc (.cells #[x, y] t)).heap[w.heap.size]? = some (.cells #[x, y] t (0, 0)) := heap_new _ _
  rw [Addr.add_lit]
  match j, hj with
  | 0, hj => simp at hj; subst hj; exact cell_of hh rfl
  | 1, hj => simp at hj; subst hj; exact cell_of hh rfl

set_option maxRecDepth 100000 in
set_option maxHeartbeats 2000000 in
theorem roomy_any (v : Value) (bs : List Int) (w : World) (h : RowAt .u8 w v bs) (hbig : bs.length ≤ 150737488351232) :
    Calls Tryd.prog 27 #[v] w fun e w' => ∃ g c, e = .returned (.slice (some ⟨g, 0, none⟩) (bs.length + 2) c) ∧ Own8 w' w.heap.size g c (bs ++ [201, 202]) ∧ Below w.heap.size w w' := by
  obtain ⟨i0, hi, hz0, hz1, hz2⟩ := info_parts Tryd.info5
  have H := hide h
  obtain ⟨ao, c, rfl⟩ : ∃ ao c, v = .slice ao bs.length c := by obtain ⟨ao, c, h, _⟩ := h; exact ⟨ao, c, h⟩
  obtain ⟨L, hL⟩ : ∃ L, L = bs.length := ⟨_, rfl⟩
  rw [← hL] at hbig H ⊢
  have HL := hide hL
  have HO1 : Hid ((w.alloc (.cells #[] 5)).ownsRow w.heap.size 5 1 (.slice (some ⟨w.heap.size, 0, none⟩) 0 0) ([] : List Int).length (([] : List Int).map (Value.int .u8))) := World.ownsRow_made w #[] 0 (Nat.le_refl _) (Nat.zero_le _) rfl
  have HAL : Hid (Below w.heap.size w (w.alloc (.cells #[] 5))) := (Below.refl _ _).alloc (Nat.le_refl _) _
  clear h hL
  go_enter Tryd.func27, Tryd.ntmps27
  go_wp2_with fail
  go_loopw [3, 4] (fun x t wr => ∃ (i : Nat) (a : Option Addr) (c : Nat), i ≤ L ∧ x = .slice a i c ∧ t = .int .i64 i ∧ wr.ownsRow w.heap.size 5 1 (.slice a i c) i ((bs.take i).map (Value.int .u8)) ∧ Below w.heap.size w wr) (fun _ t _ => L - (RowKit.intOf t).toNat)
  case atStart => exact ⟨0, _, _, by omega, rfl, rfl, HO1.out, HAL.out⟩
  case round =>
    obtain ⟨i, a, c1, hiL, rfl, rfl, hown, hB⟩ := hrel
    have hvo : ∀ k, (Value.slice a i c1).ownBlock = some k → w.heap.size ≤ k := by
      intro k hk
      obtain ⟨_, ⟨he, _⟩ | ⟨g', cap', cur', he, hg', hh', _⟩⟩ := hown
      · rw [he] at hk; cases hk
      · rw [he] at hk; cases hk; exact hg'
    have HVO := hide hvo
    have HO := hide hown
    have HB := hide hB
    have hsz := hB.size
    clear hown hB hvo HO1 HAL
    by_cases hlt : i < L
    · have hil : i < bs.length := by rw [← HL.out]; exact hlt
      obtain ⟨g, o, c', he, k1, k2, k3⟩ := (H.out.below HB.out).spot (by intro e; rw [e] at hil; simp at hil)
      simp only [Value.slice.injEq] at he
      obtain ⟨rfl, hdrop, rfl⟩ := he
      clear hdrop
      have d := k3 i hil
      obtain ⟨x, hx⟩ : ∃ x, x = bs[i]?.getD 0 := ⟨_, rfl⟩
      rw [← hx] at d
      have HT : Hid ((bs.take (i + 1)).map (Value.int .u8) = (bs.take i).map (Value.int .u8) ++ [.int .u8 x]) := by
        show (bs.take (i + 1)).map (Value.int .u8) = (bs.take i).map (Value.int .u8) ++ [.int .u8 x]
        rw [List.take_add_one, List.map_append, hx, List.getElem?_eq_getElem hil]
        rfl
      clear hx k3
      go_wp2_with (first
        | (at_builtin; refine wpList_append_own_wide _ rfl _ _ 22 rfl w.heap.size 5 i0 (.int .u8 0) 1 1 Tryd.underlying22 hi hz0 hz1 hz2 rfl (by decide) _ _ _ rfl (HO.out.alloc _) ⟨wr.heap.size, 0, none⟩ 1 1 [.int .u8 _] rfl rfl (one_at wr _ _) (by simp [Value.oneCell']) (by unfold maxLen; omega) (by omega) (by simp; omega) ?_; intro v2 w2 hown2 hgrow2 hq2; obtain ⟨a2, c2, rfl⟩ := own_shape hown2; have HO2 := hide hown2; have HB2 := hide ((HB.out.alloc hsz _).grown hgrow2 (by simp; omega) HVO.out); clear hown2 hgrow2 hq2)
        | fail)
      go_roundw
      case rel => exact ⟨i + 1, a2, c2, by omega, rfl, by simp, by rw [HT.out]; exact HO2.out, HB2.out⟩
      case measure => simp [RowKit.intOf]; omega
    · obtain rfl : i = L := by omega
      have HT : Hid ((bs.take i).map (Value.int .u8) = bs.map (Value.int .u8)) := by
        show (bs.take i).map (Value.int .u8) = bs.map (Value.int .u8)
        rw [HL.out, List.take_length]
      go_wp2_with (first
        | (at_builtin; refine wpList_append_own_wide _ rfl _ _ 22 rfl w.heap.size 5 i0 (.int .u8 0) 1 1 Tryd.underlying22 hi hz0 hz1 hz2 rfl (by decide) _ _ _ rfl (HO.out.alloc _) ⟨wr.heap.size, 0, none⟩ 2 2 [.int .u8 201, .int .u8 202] rfl rfl (two_at wr _ _ _) (by simp [Value.oneCell']) (by unfold maxLen; omega) (by omega) (by simp; omega) ?_; intro v2 w2 hown2 hgrow2 hq2; obtain ⟨a2, c2, rfl⟩ := own_shape hown2; have HO2 := hide hown2; have HB2 := hide ((HB.out.alloc hsz _).grown hgrow2 (by simp; omega) HVO.out); clear hown2 hgrow2 hq2)
        | fail)
      go_ret
      have hown := HO2.out
      rw [HT.out] at hown
      obtain ⟨g3, c3, he3⟩ : ∃ g c, (Value.slice a2 (i + 2) c2) = .slice (some ⟨g, 0, none⟩) (i + 2) c := by
        obtain ⟨_, ⟨he, h0⟩ | ⟨g', cap', cur', he, _⟩⟩ := hown
        · omega
        · exact ⟨g', cap', he⟩
      rw [he3] at hown
      refine ⟨g3, c3, by rw [← he3]; rfl, ⟨?_⟩, HB2.out⟩
      have hl2 : (bs ++ [201, 202]).length = i + 2 := by rw [List.length_append, ← HL.out]; rfl
      rw [hl2]
      simpa using hown

set_option maxRecDepth 100000 in
set_option maxHeartbeats 2000000 in
theorem kept_any (B g c : Nat) (lv : Value) (bs : List Int) (w : World) (h : Own8 w B g c (bs ++ [201, 202])) (hl : RowAt .u8 w lv bs) (hbig : bs.length ≤ 150737488351232) :
    Calls Tryd.prog 31 #[.slice (some ⟨g, 0, none⟩) (bs.length + 2) c, lv] w fun e w' => e = .returned (.bool true) ∧ Below w.heap.size w w' := by
  have hll : (bs ++ [201, 202]).length = bs.length + 2 := by rw [List.length_append]; rfl
  have hcl := h.parts.2.1
  rw [hll] at hcl
  have d1 := h.cell (k := bs.length) (by rw [hll]; omega)
  have d2 := h.cell (k := bs.length + 1) (by rw [hll]; omega)
  rw [show (bs ++ [201, 202])[bs.length]?.getD 0 = 201 by simp] at d1
  rw [show (bs ++ [201, 202])[bs.length + 1]?.getD 0 = 202 by simp] at d2
  have hrow := h.row
  have hsub := sub_row (f := 0) (p := bs.length) hrow (by omega) (by rw [hll]; omega)
  rw [List.drop_zero, List.take_left, Nat.sub_zero, Nat.sub_zero] at hsub
  have HSA := hide (same_any _ lv bs w hsub hl)
  obtain ⟨ao, lc, rfl⟩ : ∃ ao c, lv = .slice ao bs.length c := by obtain ⟨ao, c, h, _⟩ := hl; exact ⟨ao, c, h⟩
  obtain ⟨L, hL⟩ : ∃ L, L = bs.length := ⟨_, rfl⟩
  rw [← hL] at HSA d1 d2 hbig hcl ⊢
  have hlc : (L : Int) ≤ (c : Int) := by omega
  have hgc : g < w.heap.size := by obtain ⟨_, _, cur, hh, _⟩ := h.parts; exact lt_of_heap hh
  have HD := hide (And.intro d1 d2)
  clear h hl hsub hrow hL hll d1 d2
  go_enter Tryd.func31, Tryd.ntmps31
  go_wp2_with fail
  refine HSA.out.mono ?_
  rintro e w2 ⟨rfl, hb2⟩
  have d1 := (below_cell (o := L) hb2 hgc).trans HD.out.1
  have d2 := (below_cell (o := L + 1) hb2 hgc).trans HD.out.2
  have HB := hide hb2
  clear hb2
  go_wp2
  go_ret
  exact ⟨rfl, HB.out⟩
end Go.Proofs.YtpfpelhhebafeaaDoor
