/- TopVars: the walk. -/
import Derived.Test.YtlenfiajoeijnaaLaws
import Derived.Laws.BytesArg
namespace Go.Proofs.Ytlenfiajoeijnaa
open Go.RowKit Go.Lib
set_option linter.unusedVariables false

theorem tmod_bounds (x n : Int) (hn : 0 < n) : -n < x.tmod n ∧ x.tmod n < n := by
  constructor
  · have := Int.lt_tmod_of_pos x hn; omega
  · exact Int.tmod_lt_of_pos x hn

theorem ends_off {w : World} {ao : Option Addr} {n c r : Nat} {k : IntKind} {xs : List Int} (h : RowAt k w (.slice ao n c) xs) (hr : w.heap.size ≤ r) (hx : 0 < xs.length) : ∀ a, ao = some a → a.block ≠ r := by
  intro a ha e
  obtain ⟨ao', c', he, _, _, _, h4⟩ := h
  simp only [Value.slice.injEq] at he
  obtain ⟨rfl, _, _⟩ := he
  have h5 := block_of_cell (h4 a ha 0 hx)
  have e2 : (a.add 0).block = a.block := by unfold Addr.add; split <;> rfl
  omega

theorem RdIs.below {w w' : World} {r p : Nat} {bs : List Int} (h : RdIs w r bs p) (hb : Below w.heap.size w w') : RdIs w' r bs p := by
  obtain ⟨ao, c, hh, hr, ha⟩ := h
  exact ⟨ao, c, (hb.block r (lt_of_heap hh)).trans hh, hr.below hb, ha⟩
theorem RowAt.but {k : IntKind} {w w' : World} {g o n c r : Nat} {xs : List Int} (h : RowAt k w (.slice (some ⟨g, o, none⟩) n c) xs) (hb : But r w w') (hg : g ≠ r) : RowAt k w' (.slice (some ⟨g, o, none⟩) n c) xs := by
  obtain ⟨ao', c', he, h1, h2, h3, h4⟩ := h
  simp only [Value.slice.injEq] at he
  obtain ⟨rfl, rfl, rfl⟩ := he
  refine ⟨_, c, rfl, h1, h2, h3, fun a ha i hi => ?_⟩
  have h5 := h4 a ha i hi
  cases ha
  rw [Addr.add_lit] at h5 ⊢
  have hl : g < w.heap.size := block_of_cell h5
  unfold World.cell?
  rw [hb.block g hl hg]
  exact h5

/-- The reader, at the i-th number. -/
structure L3 (W0 w : World) (r : Nat) (ls : List Nat) (nn : Nat) (eo : Option Addr) (n ec i : Nat) : Prop where
  rd : RdIs w r ((encs ls).take nn) (endAt ls i)
  le : endAt ls i ≤ nn
  bel : Below W0.heap.size W0 w
  en : RowAt .i64 w (.slice eo n ec) (endsOf ls n)
theorem L3.ends {W0 w : World} {r nn n ec i j : Nat} {ls : List Nat} {eo : Option Addr} (h : L3 W0 w r ls nn eo n ec j) (hl : (endsOf ls n).length = n) (hi : i < n) :
    ∃ g o, eo = some ⟨g, o, none⟩ ∧ n ≤ ec ∧ w.cell? ⟨g, o + i, none⟩ = some (.int .i64 ((endAt ls (i + 1) : Nat) : Int)) := by
  obtain ⟨g, o, c', he, k1, k2, k3⟩ := h.en.spot (by intro e; rw [e] at hl; simp at hl; omega)
  simp only [Value.slice.injEq] at he
  obtain ⟨rfl, _, rfl⟩ := he
  rw [hl] at k1 k3
  exact ⟨g, o, rfl, k1, by rw [k3 i hi, endsOf_at ls n i hi]⟩
theorem L3.next {W0 w w' : World} {r nn n ec i g o : Nat} {ls : List Nat} (h : L3 W0 w r ls nn (some ⟨g, o, none⟩) n ec i) (hb : But r w w') (hr : W0.heap.size ≤ r) (hrd : RdIs w' r ((encs ls).take nn) (endAt ls (i + 1))) (hle : endAt ls (i + 1) ≤ nn) (hg : g ≠ r) :
    L3 W0 w' r ls nn (some ⟨g, o, none⟩) n ec (i + 1) := ⟨hrd, hle, hb.below h.bel hr h.bel.size, h.en.but hb hg⟩

theorem L3.below {W0 w w' : World} {r nn n ec i : Nat} {ls : List Nat} {eo : Option Addr} (h : L3 W0 w r ls nn eo n ec i) (hb : Below w.heap.size w w') : L3 W0 w' r ls nn eo n ec i :=
  ⟨h.rd.below hb, h.le, below_on h.bel hb, h.en.below hb⟩
theorem enc300 : ([] : List Int) ++ enc 300 = [172, 2] := by
  rw [enc_big (by decide), enc_small (by decide)]
  decide

set_option maxRecDepth 100000 in
set_option maxHeartbeats 4000000 in
theorem vars_any (v : Value) (ls : List Nat) (cut : Int) (W0 : World) (hv : RowAt .u64 W0 v (ls.map fun (n : Nat) => (n : Int))) (hls : ∀ x ∈ ls, x < 18446744073709551616) (hbig : ls.length * 8 ≤ 140737488351232) (hc0 : -9223372036854775808 ≤ cut) (hc1 : cut ≤ 9223372036854775807) :
    Calls Try.prog 3 #[v, .int .i64 cut] W0 fun e w' => e = .returned (.bool true) ∧ Below W0.heap.size W0 w' := by
  obtain ⟨i0, hi, hz0, hz1, hz2⟩ := info_parts Try.info3
  have HV := hide hv
  obtain ⟨ao, c, rfl⟩ : ∃ ao c, v = .slice ao ls.length c := by obtain ⟨ao, c, h, _⟩ := hv; exact ⟨ao, c, by simpa using h⟩
  have HLS := hide (fun i (h : i < ls.length) => (show ls[i]?.getD 0 < 18446744073709551616 from by rw [List.getElem?_eq_getElem h]; exact hls _ (List.getElem_mem h)))
  have HEL := hide (encs_le ls hls)
  have HET := hide (fun i => (show endAt ls i ≤ 10 * ls.length from by
    have h1 := encs_le (ls.take i) (fun x hx => hls x (List.mem_of_mem_take hx))
    have h2 : (ls.take i).length ≤ ls.length := by rw [List.length_take]; omega
    unfold endAt
    omega))
  have HCELL : Hid (∀ (w : World), Below W0.heap.size W0 w → ∀ i, i < ls.length → ∃ g o, ao = some ⟨g, o, none⟩ ∧ ls.length ≤ c ∧ w.cell? ⟨g, o + i, none⟩ = some (.int .u64 ((ls[i]?.getD 0 : Nat) : Int))) := fun w hb i h => by
    have hvw := (HV.out.below hb)
    obtain ⟨g, o, c', he, k1, k2, k3⟩ := hvw.spot (by intro e; have := congrArg List.length e; simp at this; rw [this] at h; simp at h)
    simp only [Value.slice.injEq, List.length_map, true_and] at he
    obtain ⟨rfl, rfl⟩ := he
    rw [List.length_map] at k1 k3
    refine ⟨g, o, rfl, k1, ?_⟩
    rw [k3 i h]
    simp [List.getElem?_eq_getElem h]
  clear hv hls
  obtain ⟨n, hn⟩ : ∃ n, n = ls.length := ⟨_, rfl⟩
  rw [← hn] at hbig HLS HEL HET HCELL ⊢
  have HNN := hide hn
  clear hn HV
  go_enter Try.func3, Try.ntmps3
  go_wp2_with fail
  refine (newWriter_any W0).mono ?_
  rintro e w1 ⟨b, rfl, hw1, hb1⟩
  have HW1 := hide hw1; have HB1 := hide hb1
  clear hw1 hb1
  go_wp2_with (at_make; refine wpList_make_full _ rfl _ _ 25 rfl W0.heap.size 3 i0 (.int .i64 0) 1 Try.underlying25 hi hz0 hz1 _ _ _ _ 0 rfl rfl rfl rfl (by rw [hz2]; omega) (by unfold maxLen; omega) (by have := HB1.out.size; omega) ?_; intro w2 hown hgrow)
  have hL0 : L1 W0 w2 b (.slice (some ⟨w1.heap.size, 0, none⟩) 0 0) (.slice none 0 0) ls 0 0 := by
    have hbw : Below w1.heap.size w1 w2 := (Below.refl _ _).grown hgrow (Nat.le_refl _) (by intro k hk; cases hk)
    refine ⟨⟨(hbw.block b (lt_of_heap HW1.out.hb)).trans HW1.out.hb, World.ownsRow_nil _ _ _ _, HW1.out.lo⟩, ?_, below_on HB1.out hbw⟩
    have : (madeCells (Value.int .i64 0).cells (0 * 1)).toList = [] := by simp [madeCells]
    rw [this] at hown
    exact hown
  have HL0 := hide hL0
  clear hL0 hown hgrow HW1 HB1
  go_loopw [7, 6] (fun t ve wr => ∃ (i : Nat) (vv : Value), i ≤ n ∧ t = .int .i64 i ∧ L1 W0 wr b ve vv ls i i) (fun t _ _ => n - (RowKit.intOf t).toNat)
  case atStart => exact ⟨0, _, by omega, rfl, HL0.out⟩
  case round =>
    obtain ⟨i, vv, hin, rfl, h1⟩ := hrel
    clear HL0
    by_cases hlt : i < n
    · have hx := HLS.out i hlt
      have hil : i < ls.length := by rw [← HNN.out]; exact hlt
      obtain ⟨g, o, rfl, hnc, d⟩ := HCELL.out wr h1.bel i hlt
      have hke := HET.out i
      have HVA := hide (var_any wr W0.heap.size b vv _ (ls[i]?.getD 0) h1.wo h1.bel.size hx (by have := HET.out i; unfold endAt at this; omega))
      obtain ⟨x, hxv⟩ : ∃ x, x = ls[i]?.getD 0 := ⟨_, rfl⟩
      rw [← hxv] at d hx HVA
      obtain ⟨eo, ec, rfl⟩ := own_shape h1.en
      have H1 := hide h1
      have HXV := hide hxv
      have hli : (i : Int) < (n : Int) := by omega
      have HIL := hide hil
      clear h1 hxv hil
      go_wp2_with fail
      refine HVA.out.mono ?_
      rintro e w3 ⟨rfl, vv', hw3, ht3⟩
      rw [HXV.out] at hw3
      have h2 := H1.out.var HIL.out ht3 hw3
      have HLN := hide (len_any w3 W0.heap.size b vv' _ h2.wo)
      rw [show (encs (ls.take (i + 1))).length = endAt ls (i + 1) from rfl] at HLN
      have H2 := hide h2
      have hki := HET.out (i + 1)
      obtain ⟨E, hE⟩ : ∃ E, E = endAt ls (i + 1) := ⟨_, rfl⟩
      rw [← hE] at HLN hki
      have HE := hide hE
      clear h2 hw3 ht3 H1 HVA hE
      go_wp2_with fail
      refine HLN.out.mono ?_
      rintro e w4 ⟨rfl, rfl⟩
      clear HLN
      have hlen3 : W0.heap.size ≤ w4.heap.size := H2.out.bel.size
      have HCE := hide (HCELL.out w4 H2.out.bel i hlt)
      go_wp2_with (first
        | (at_builtin; refine wpList_append_own _ rfl (.tmp 32) (.tmp 35) 25 rfl W0.heap.size 3 i0 (.int .i64 0) 1 8 Try.underlying25 hi hz0 hz1 hz2 rfl (by decide) _ _ _ rfl (H2.out.en.alloc _) ⟨w4.heap.size, 0, none⟩ 1 1 [.int .i64 (E : Int)] rfl rfl (one_at w4 _ _) (by simp [Value.oneCell']) (by unfold maxLen; omega) (by omega) (by simp; omega) ?_; intro v5 w5 hown5 hgrow5 hq5; have h5 := L1.app H2.out (by rw [← HE.out]; exact hown5) (by rw [← HE.out]; exact hgrow5); clear hown5 hgrow5 hq5; obtain ⟨g5, o5, hao5, _, d5⟩ := HCELL.out w5 h5.bel i hlt; simp only [Option.some.injEq, Addr.mk.injEq, and_true] at hao5; obtain ⟨rfl, rfl⟩ := hao5; rw [← HXV.out] at d5; obtain ⟨fo, fc, rfl⟩ := own_shape h5.en; have H5 := hide h5; clear h5)
        | fail)
      have hc9 := cnt_le hx
      obtain ⟨C, hC⟩ : ∃ C, C = cnt (x / 128) := ⟨_, rfl⟩
      rw [← hC] at hc9
      have HC := hide hC
      clear hC
      go_loopw [8, 9] (fun t u wr => ∃ (k y : Nat), t = .int .i64 k ∧ u = .int .u64 y ∧ y < 18446744073709551616 ∧ k + cnt y = 1 + C ∧ wr = w5) (fun _ u _ => (RowKit.intOf u).toNat)
      case atStart => exact ⟨1, x / 128, rfl, by simp, by omega, by rw [HC.out], rfl⟩
      case round =>
        obtain ⟨k, y, rfl, rfl, hy, hky, rfl⟩ := hrel
        by_cases hy0 : 0 < y
        · have hk1 := cnt_pos (show y ≠ 0 by omega)
          have hk2 : k ≤ 10 := by omega
          have HK := hide (show k + 1 + cnt (y / 128) = 1 + C by omega)
          clear hky hk1
          go_wp2
          go_roundw
          case rel => exact ⟨k + 1, y / 128, by simp, by simp, by omega, HK.out, by first | rfl | trivial⟩
          case measure => simp [RowKit.intOf]; omega
        · obtain rfl : y = 0 := by omega
          rw [cnt_zero] at hky
          have hk2 : k ≤ 10 := by omega
          have hke : E = endAt ls i + k := by
            have h6 := endAt_succ ls i HIL.out
            have h7 := enc_length x
            have h8 := HE.out
            have h9 := HC.out
            rw [← HXV.out] at h6
            have h10 : E = endAt ls i + (enc x).length := h8.trans h6
            rw [h10, h7, ← h9]
            omega
          have HKE := hide hke
          clear hke
          have HRW := hide (RowAt.of_owns (xs := endsOf ls (i + 1)) (k := .i64) (base := W0.heap.size) (e := 3) (by rw [endsOf_length]; exact H5.out.en))
          have hki0 := HET.out i
          have HAT : Hid (∀ j, j < i + 1 → ∃ q o, fo = some ⟨q, o, none⟩ ∧ i + 1 ≤ fc ∧ wr.cell? ⟨q, o + j, none⟩ = some (.int .i64 ((endAt ls (j + 1) : Nat) : Int))) := fun j hj => by
            obtain ⟨q, o, cc, he, k1, k2, k3⟩ := HRW.out.spot (by intro e; have := congrArg List.length e; rw [endsOf_length] at this; simp at this)
            rw [endsOf_length] at he k1 k3
            simp only [Value.slice.injEq, true_and] at he
            obtain ⟨rfl, rfl⟩ := he
            exact ⟨q, o, rfl, k1, by rw [k3 j hj, endsOf_at ls (i + 1) j hj]⟩
          obtain ⟨q, o', rfl, hfc, p1⟩ := HAT.out i (by omega)
          rw [← HE.out] at p1
          have hfc' : (i : Int) < (i : Int) + 1 := by omega
          have hEk : (E : Int) - ((endAt ls i : Nat) : Int) = (k : Int) := by have h8 := HKE.out; omega
          rcases Nat.eq_zero_or_pos i with hi0 | hi0
          · have he0 : endAt ls i = 0 := by rw [hi0, endAt_zero]
            have hE0 : (E : Int) = (k : Int) := by omega
            have hz : ¬ (0 : Int) < (i : Int) := by omega
            have hsub : (E : Int) - 0 = (k : Int) := by omega
            have HI0 := hide hi0
            clear hi0 he0 hEk
            go_wp2
            go_roundw
            case rel => exact ⟨i + 1, vv', by omega, by simp, H5.out⟩
            case measure => simp [RowKit.intOf]; omega
          · obtain ⟨q2, o2, hq2, _, p0⟩ := HAT.out (i - 1) (by omega)
            simp only [Option.some.injEq, Addr.mk.injEq, and_true] at hq2
            obtain ⟨rfl, rfl⟩ := hq2
            rw [show i - 1 + 1 = i by omega] at p0
            have hip : (0 : Int) < (i : Int) := by omega
            have hi1 : 0 ≤ (i : Int) - 1 := by omega
            have hi2 : (i : Int) - 1 < (i : Int) + 1 := by omega
            obtain ⟨D, hD⟩ : ∃ D, D = endAt ls i := ⟨_, rfl⟩
            rw [← hD] at p0 hEk hki0
            have HD := hide hD
            clear hD
            go_wp2
            go_roundw
            case rel => exact ⟨i + 1, vv', by omega, by simp, H5.out⟩
            case measure => simp [RowKit.intOf]; omega
    · obtain rfl : n = i := by omega
      have hwo := h1.wo
      rw [show ls.take n = ls from by rw [HNN.out, List.take_length]] at hwo
      have HOUT := hide (out_any wr W0.heap.size b vv (encs ls) hwo (by have := HEL.out; omega))
      have HEN := hide (RowAt.of_owns (xs := endsOf ls n) (k := .i64) (base := W0.heap.size) (e := 3) (by rw [endsOf_length]; exact h1.en))
      have HB1 := hide h1.bel
      obtain ⟨eo, ec, rfl⟩ := own_shape h1.en
      have hLb : (encs ls).length ≤ 175921860444160 := by have := HEL.out; omega
      have HAL : Hid (endAt ls n = (encs ls).length) := by rw [HNN.out]; exact endAt_all ls
      obtain ⟨L, hL⟩ : ∃ L, L = (encs ls).length := ⟨_, rfl⟩
      rw [← hL] at HOUT hLb HAL
      have HL := hide hL
      clear h1 hwo hL
      go_wp2_with fail
      refine HOUT.out.mono ?_
      rintro e w2 ⟨oo, oc, rfl, hro, hbo⟩
      have HRO := hide hro
      have HB2 := hide (below_on HB1.out hbo)
      have HEN2 := hide (HEN.out.below hbo)
      have hoc : L ≤ oc := by
        obtain ⟨_, _, he, k1, _⟩ := hro
        simp only [Value.slice.injEq] at he
        rw [← HL.out] at k1
        obtain ⟨_, _, rfl⟩ := he
        exact k1
      have htm := tmod_bounds cut ((L : Int) + 1) (by omega)
      have hne : ¬ (L : Int) + 1 = 0 := by omega
      clear hro hbo HOUT HEN HB1
      by_cases hneg : cut.tmod ((L : Int) + 1) < 0
      · obtain ⟨nn, hN⟩ : ∃ nn : Nat, cut.tmod ((L : Int) + 1) + (L : Int) + 1 = (nn : Int) := ⟨(cut.tmod ((L : Int) + 1) + (L : Int) + 1).toNat, by omega⟩
        have hnn : nn ≤ L := by omega
        have HRT : Hid (RowAt .u8 w2 (.slice oo nn oc) ((encs ls).take nn)) := HRO.out.taken (by rw [← HL.out]; exact hnn)
        have HTL : Hid (((encs ls).take nn).length = nn) := by rw [List.length_take, ← HL.out]; exact Nat.min_eq_left hnn
        have hnc : (nn : Int) ≤ (oc : Int) := by omega
        have hnb : nn ≤ 175921860444160 := by omega
        go_wp2_with fail
        refine (newReader_any w2 _ _ HRT.out (by rw [HTL.out]; exact hnb)).mono ?_
        rintro e w3 ⟨r, rfl, hrs, hrd, hb3⟩
        have HRD := hide hrd
        have HB3 := hide (below_on HB2.out hb3)
        have HEN3 := hide (HEN2.out.below hb3)
        have hrlo : W0.heap.size ≤ r := by have := HB2.out.size; omega
        have HEB : Hid (0 < (endsOf ls n).length → ∀ a, eo = some a → a.block ≠ r) := fun hx => ends_off HEN2.out hrs hx
        clear hrd hb3 HRO HRT HB2 hrs
        go_wp2
        go_loopw [14] (fun t wr => ∃ i : Nat, i ≤ n ∧ t = .int .i64 i ∧ L3 W0 wr r ls nn eo n ec i) (fun t _ => n - (RowKit.intOf t).toNat)
        case atStart => exact ⟨0, by omega, rfl, ⟨by rw [endAt_zero]; exact HRD.out, by rw [endAt_zero]; omega, HB3.out, HEN3.out⟩⟩
        case round =>
          obtain ⟨i, hin, rfl, h3⟩ := hrel
          clear HRD HB3 HEN3
          by_cases hlt : i < n
          · have hil : i < ls.length := by rw [← HNN.out]; exact hlt
            have hx := HLS.out i hlt
            obtain ⟨p1a, p1o, heo, hec, p1⟩ := h3.ends (endsOf_length ls n) hlt
            subst heo
            have hoff : p1a ≠ r := HEB.out (by rw [endsOf_length]; omega) _ rfl
            have HOF := hide hoff
            by_cases hw : endAt ls (i + 1) ≤ nn
            · obtain ⟨post, hpost⟩ := left_whole ls i nn hil hw
              have HRV := hide (rvar_whole wr r (endAt ls i) (ls[i]?.getD 0) _ post h3.rd hx (by rw [HTL.out]; exact h3.le) hpost (by rw [HTL.out]; exact hnb))
              rw [← endAt_succ ls i hil] at HRV
              have H3 := hide h3
              have HIL := hide hil
              clear h3 hil hpost
              obtain ⟨x, hxv⟩ : ∃ x, x = ls[i]?.getD 0 := ⟨_, rfl⟩
              rw [← hxv] at HRV hx
              have HXV := hide hxv
              obtain ⟨E, hE⟩ : ∃ E, E = endAt ls (i + 1) := ⟨_, rfl⟩
              rw [← hE] at HRV hw p1
              have HE := hide hE
              have hEn : ¬ (nn : Int) < (E : Int) := by omega
              have hli : (i : Int) < (n : Int) := by omega
              clear hxv hE p1
              go_wp2_with fail
              refine HRV.out.mono ?_
              rintro e w4 ⟨rfl, hrd4, hbut⟩
              have h4 : L3 W0 w4 r ls nn (some ⟨p1a, p1o, none⟩) n ec (i + 1) := H3.out.next hbut hrlo (by rw [← HE.out]; exact hrd4) (by rw [← HE.out]; exact hw) HOF.out
              obtain ⟨g4, o4, rfl, hnc4, d4⟩ := HCELL.out w4 h4.bel i hlt
              rw [← HXV.out] at d4
              obtain ⟨_, _, he4, _, p4⟩ := h4.ends (endsOf_length ls n) hlt
              simp only [Option.some.injEq, Addr.mk.injEq, and_true] at he4
              obtain ⟨rfl, rfl⟩ := he4
              rw [← HE.out] at p4
              have HATT := hide (fun m => at_any (w4.drewN m) r _ E (hrd4.below (below_drewN (Below.refl _ _) m)))
              have H4 := hide h4
              clear h4 hrd4 hbut H3 HRV
              go_wp2_with fail
              go_quiet (first | (go_at_call 10; exact (HATT.out _).mono fun _ _ h => ⟨h.1, _, h.2⟩))
              go_wp2
              go_roundw
              case rel => exact ⟨i + 1, by omega, by simp, H4.out.below (below_drewN (Below.refl _ _) _)⟩
              case measure => simp [RowKit.intOf]; omega
            · obtain ⟨hd, hq⟩ := left_short ls i nn hil h3.le (by omega)
              have HRS := hide (rvar_short wr r (endAt ls i) (ls[i]?.getD 0) _ _ h3.rd hx (by rw [HTL.out]; exact h3.le) hd hq (by rw [HTL.out]; exact hnb))
              have H3 := hide h3
              obtain ⟨E, hE⟩ : ∃ E, E = endAt ls (i + 1) := ⟨_, rfl⟩
              rw [← hE] at hw p1
              have HE := hide hE
              have hEn : (nn : Int) < (E : Int) := by omega
              have hli : (i : Int) < (n : Int) := by omega
              clear h3 hd hq hE hil
              go_wp2_with fail
              refine HRS.out.mono ?_
              rintro e w4 ⟨rfl, hb4⟩
              have p4 := (below_cell (g := p1a) (o := p1o + i) hb4 (block_of_cell p1)).trans p1
              have HB4 := hide (below_on H3.out.bel hb4)
              clear p1 hb4 HRS H3
              go_wp2
              go_ret
              exact ⟨rfl, HB4.out⟩
          · obtain rfl : n = i := by omega
            have hnL : nn = L := by have h5 := h3.le; rw [HAL.out] at h5; omega
            have hrd := h3.rd
            rw [HAL.out] at hrd
            have HRD3 := hide hrd
            have HB5 := hide h3.bel
            clear h3 hrd
            go_wp2_with fail
            refine (newWriter_any wr).mono ?_
            rintro e w5 ⟨b5, rfl, hw5, hb5⟩
            have HVA := hide (var_any w5 wr.heap.size b5 _ [] 300 hw5 hb5.size (by decide) (by simp))
            have HB6 := hide (below_on HB5.out hb5)
            have HBW5 := hide hb5
            have HRD5 := hide (HRD3.out.below hb5)
            have hbw := hb5.size
            clear hw5 hb5
            go_wp2_with fail
            refine HVA.out.mono ?_
            rintro e w6 ⟨rfl, vv6, hw6, ht6⟩
            have HOU := hide (out_any w6 wr.heap.size b5 vv6 _ hw6 (by rw [enc300]; simp))
            rw [enc300] at HOU
            have HRD6 := hide (HRD3.out.below (HBW5.out.trans ht6.bel))
            have HB7 := hide (HB5.out.trans ((HBW5.out.trans ht6.bel).mono HB5.out.size))
            clear hw6 ht6 HVA
            go_wp2_with fail
            refine HOU.out.mono ?_
            rintro e w7 ⟨ao7, c7, rfl, hr7, hb7⟩
            obtain ⟨g7, o7, c7', he7, k7, _, hcell7⟩ := hr7.spot (by simp)
            simp only [Value.slice.injEq] at he7
            obtain ⟨rfl, _, rfl⟩ := he7
            have hconv : (convert 30 9 (.slice (some ⟨g7, o7, none⟩) 2 c7)).run Try.prog w7 = .ok (.string { data := #[172, 2] }) w7 := by
              have h8 := run_convert_bytes_arg (P := Try.prog) w7 30 5 Try.underlying30 Try.underlying5 g7 o7 2 c7 [172, 2] rfl (fun j hj => by
                have h9 := hcell7 j hj
                rw [h9]
                simp [List.getD]) 9 Try.underlying9
              exact h8
            have HLF := hide (left_any w7 r _ L (HRD6.out.below hb7) (by rw [HTL.out]; omega) (by rw [HTL.out]; exact hnb))
            rw [HTL.out, show ((nn : Int) - (L : Int)) = 0 by omega] at HLF
            have HB8 := hide (below_on HB7.out hb7)
            clear hr7 hb7 hcell7 HOU
            go_wp2_with fail
            refine HLF.out.mono ?_
            rintro e w8 ⟨rfl, hb8⟩
            have HB9 := hide (below_on HB8.out hb8)
            clear hb8
            go_wp2
            go_ret
            exact ⟨rfl, HB9.out⟩
      · obtain ⟨nn, hN⟩ : ∃ nn : Nat, cut.tmod ((L : Int) + 1) = (nn : Int) := ⟨(cut.tmod ((L : Int) + 1)).toNat, by omega⟩
        have hnn : nn ≤ L := by omega
        have HRT : Hid (RowAt .u8 w2 (.slice oo nn oc) ((encs ls).take nn)) := HRO.out.taken (by rw [← HL.out]; exact hnn)
        have HTL : Hid (((encs ls).take nn).length = nn) := by rw [List.length_take, ← HL.out]; exact Nat.min_eq_left hnn
        have hnc : (nn : Int) ≤ (oc : Int) := by omega
        have hnb : nn ≤ 175921860444160 := by omega
        go_wp2_with fail
        refine (newReader_any w2 _ _ HRT.out (by rw [HTL.out]; exact hnb)).mono ?_
        rintro e w3 ⟨r, rfl, hrs, hrd, hb3⟩
        have HRD := hide hrd
        have HB3 := hide (below_on HB2.out hb3)
        have HEN3 := hide (HEN2.out.below hb3)
        have hrlo : W0.heap.size ≤ r := by have := HB2.out.size; omega
        have HEB : Hid (0 < (endsOf ls n).length → ∀ a, eo = some a → a.block ≠ r) := fun hx => ends_off HEN2.out hrs hx
        clear hrd hb3 HRO HRT HB2 hrs
        go_wp2
        go_loopw [14] (fun t wr => ∃ i : Nat, i ≤ n ∧ t = .int .i64 i ∧ L3 W0 wr r ls nn eo n ec i) (fun t _ => n - (RowKit.intOf t).toNat)
        case atStart => exact ⟨0, by omega, rfl, ⟨by rw [endAt_zero]; exact HRD.out, by rw [endAt_zero]; omega, HB3.out, HEN3.out⟩⟩
        case round =>
          obtain ⟨i, hin, rfl, h3⟩ := hrel
          clear HRD HB3 HEN3
          by_cases hlt : i < n
          · have hil : i < ls.length := by rw [← HNN.out]; exact hlt
            have hx := HLS.out i hlt
            obtain ⟨p1a, p1o, heo, hec, p1⟩ := h3.ends (endsOf_length ls n) hlt
            subst heo
            have hoff : p1a ≠ r := HEB.out (by rw [endsOf_length]; omega) _ rfl
            have HOF := hide hoff
            by_cases hw : endAt ls (i + 1) ≤ nn
            · obtain ⟨post, hpost⟩ := left_whole ls i nn hil hw
              have HRV := hide (rvar_whole wr r (endAt ls i) (ls[i]?.getD 0) _ post h3.rd hx (by rw [HTL.out]; exact h3.le) hpost (by rw [HTL.out]; exact hnb))
              rw [← endAt_succ ls i hil] at HRV
              have H3 := hide h3
              have HIL := hide hil
              clear h3 hil hpost
              obtain ⟨x, hxv⟩ : ∃ x, x = ls[i]?.getD 0 := ⟨_, rfl⟩
              rw [← hxv] at HRV hx
              have HXV := hide hxv
              obtain ⟨E, hE⟩ : ∃ E, E = endAt ls (i + 1) := ⟨_, rfl⟩
              rw [← hE] at HRV hw p1
              have HE := hide hE
              have hEn : ¬ (nn : Int) < (E : Int) := by omega
              have hli : (i : Int) < (n : Int) := by omega
              clear hxv hE p1
              go_wp2_with fail
              refine HRV.out.mono ?_
              rintro e w4 ⟨rfl, hrd4, hbut⟩
              have h4 : L3 W0 w4 r ls nn (some ⟨p1a, p1o, none⟩) n ec (i + 1) := H3.out.next hbut hrlo (by rw [← HE.out]; exact hrd4) (by rw [← HE.out]; exact hw) HOF.out
              obtain ⟨g4, o4, rfl, hnc4, d4⟩ := HCELL.out w4 h4.bel i hlt
              rw [← HXV.out] at d4
              obtain ⟨_, _, he4, _, p4⟩ := h4.ends (endsOf_length ls n) hlt
              simp only [Option.some.injEq, Addr.mk.injEq, and_true] at he4
              obtain ⟨rfl, rfl⟩ := he4
              rw [← HE.out] at p4
              have HATT := hide (fun m => at_any (w4.drewN m) r _ E (hrd4.below (below_drewN (Below.refl _ _) m)))
              have H4 := hide h4
              clear h4 hrd4 hbut H3 HRV
              go_wp2_with fail
              go_quiet (first | (go_at_call 10; exact (HATT.out _).mono fun _ _ h => ⟨h.1, _, h.2⟩))
              go_wp2
              go_roundw
              case rel => exact ⟨i + 1, by omega, by simp, H4.out.below (below_drewN (Below.refl _ _) _)⟩
              case measure => simp [RowKit.intOf]; omega
            · obtain ⟨hd, hq⟩ := left_short ls i nn hil h3.le (by omega)
              have HRS := hide (rvar_short wr r (endAt ls i) (ls[i]?.getD 0) _ _ h3.rd hx (by rw [HTL.out]; exact h3.le) hd hq (by rw [HTL.out]; exact hnb))
              have H3 := hide h3
              obtain ⟨E, hE⟩ : ∃ E, E = endAt ls (i + 1) := ⟨_, rfl⟩
              rw [← hE] at hw p1
              have HE := hide hE
              have hEn : (nn : Int) < (E : Int) := by omega
              have hli : (i : Int) < (n : Int) := by omega
              clear h3 hd hq hE hil
              go_wp2_with fail
              refine HRS.out.mono ?_
              rintro e w4 ⟨rfl, hb4⟩
              have p4 := (below_cell (g := p1a) (o := p1o + i) hb4 (block_of_cell p1)).trans p1
              have HB4 := hide (below_on H3.out.bel hb4)
              clear p1 hb4 HRS H3
              go_wp2
              go_ret
              exact ⟨rfl, HB4.out⟩
          · obtain rfl : n = i := by omega
            have hnL : nn = L := by have h5 := h3.le; rw [HAL.out] at h5; omega
            have hrd := h3.rd
            rw [HAL.out] at hrd
            have HRD3 := hide hrd
            have HB5 := hide h3.bel
            clear h3 hrd
            go_wp2_with fail
            refine (newWriter_any wr).mono ?_
            rintro e w5 ⟨b5, rfl, hw5, hb5⟩
            have HVA := hide (var_any w5 wr.heap.size b5 _ [] 300 hw5 hb5.size (by decide) (by simp))
            have HB6 := hide (below_on HB5.out hb5)
            have HBW5 := hide hb5
            have HRD5 := hide (HRD3.out.below hb5)
            have hbw := hb5.size
            clear hw5 hb5
            go_wp2_with fail
            refine HVA.out.mono ?_
            rintro e w6 ⟨rfl, vv6, hw6, ht6⟩
            have HOU := hide (out_any w6 wr.heap.size b5 vv6 _ hw6 (by rw [enc300]; simp))
            rw [enc300] at HOU
            have HRD6 := hide (HRD3.out.below (HBW5.out.trans ht6.bel))
            have HB7 := hide (HB5.out.trans ((HBW5.out.trans ht6.bel).mono HB5.out.size))
            clear hw6 ht6 HVA
            go_wp2_with fail
            refine HOU.out.mono ?_
            rintro e w7 ⟨ao7, c7, rfl, hr7, hb7⟩
            obtain ⟨g7, o7, c7', he7, k7, _, hcell7⟩ := hr7.spot (by simp)
            simp only [Value.slice.injEq] at he7
            obtain ⟨rfl, _, rfl⟩ := he7
            have hconv : (convert 30 9 (.slice (some ⟨g7, o7, none⟩) 2 c7)).run Try.prog w7 = .ok (.string { data := #[172, 2] }) w7 := by
              have h8 := run_convert_bytes_arg (P := Try.prog) w7 30 5 Try.underlying30 Try.underlying5 g7 o7 2 c7 [172, 2] rfl (fun j hj => by
                have h9 := hcell7 j hj
                rw [h9]
                simp [List.getD]) 9 Try.underlying9
              exact h8
            have HLF := hide (left_any w7 r _ L (HRD6.out.below hb7) (by rw [HTL.out]; omega) (by rw [HTL.out]; exact hnb))
            rw [HTL.out, show ((nn : Int) - (L : Int)) = 0 by omega] at HLF
            have HB8 := hide (below_on HB7.out hb7)
            clear hr7 hb7 hcell7 HOU
            go_wp2_with fail
            refine HLF.out.mono ?_
            rintro e w8 ⟨rfl, hb8⟩
            have HB9 := hide (below_on HB8.out hb8)
            clear hb8
            go_wp2
            go_ret
            exact ⟨rfl, HB9.out⟩
end Go.Proofs.Ytlenfiajoeijnaa
