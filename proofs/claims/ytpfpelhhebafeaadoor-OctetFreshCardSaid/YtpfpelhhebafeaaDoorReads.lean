/- The reader's Var. -/
import Derived.Test.YtpfpelhhebafeaaDoorClone
namespace Go.Proofs.YtpfpelhhebafeaaDoor
open Go.RowKit Go.Lib
set_option linter.unusedVariables false

/-- The number that is being read. -/
structure Part (x i rem acc : Nat) : Prop where
  lt : acc < 2 ^ (7 * i)
  sum : acc + rem * 2 ^ (7 * i) = x
  pos : i = 0 ∨ 0 < rem

theorem Part.le {x i rem acc : Nat} (h : Part x i rem acc) (hx : x < 18446744073709551616) : i ≤ 9 ∧ (i = 9 → rem ≤ 1) := by
  have hs := h.sum
  have hp := h.pos
  constructor
  · rcases Nat.lt_or_ge 9 i with hi | hi
    · exfalso
      have h1 : 2 ^ 70 ≤ 2 ^ (7 * i) := Nat.pow_le_pow_right (by decide) (by omega)
      have h2 : 1 * 2 ^ (7 * i) ≤ rem * 2 ^ (7 * i) := Nat.mul_le_mul_right _ (by omega)
      have h3 : (2 : Nat) ^ 70 = 1180591620717411303424 := by decide
      omega
    · exact hi
  · rintro rfl
    have h3 : (2 : Nat) ^ (7 * 9) = 9223372036854775808 := by decide
    rw [h3] at hs
    omega
theorem Part.next {x i rem acc : Nat} (h : Part x i rem acc) (hr : ¬ rem < 128) : Part x (i + 1) (rem / 128) (acc + rem % 128 * 2 ^ (7 * i)) := by
  have e : 2 ^ (7 * (i + 1)) = 128 * 2 ^ (7 * i) := by rw [show 7 * (i + 1) = 7 + 7 * i by omega, Nat.pow_add]
  refine ⟨?_, ?_, .inr (by omega)⟩
  · rw [e]
    have h1 := h.lt
    have h2 : rem % 128 * 2 ^ (7 * i) ≤ 127 * 2 ^ (7 * i) := Nat.mul_le_mul_right _ (by omega)
    omega
  · rw [e, ← h.sum, Nat.add_assoc]
    congr 1
    have h1 : rem = rem % 128 + rem / 128 * 128 := by omega
    have h2 : rem * 2 ^ (7 * i) = (rem % 128 + rem / 128 * 128) * 2 ^ (7 * i) := by rw [← h1]
    rw [h2, Nat.add_mul, Nat.mul_assoc (rem / 128) 128]

theorem Part.len {x i rem acc : Nat} (h : Part x i rem acc) (hs : rem < 128) : (enc x).length = i + 1 := by
  induction i generalizing rem acc x with
  | zero =>
    have h1 := h.lt
    have h2 := h.sum
    simp at h1 h2
    subst h1
    have e : x = rem := by omega
    rw [e, enc_small hs]
    rfl
  | succ i ih =>
    have e : 2 ^ (7 * (i + 1)) = 128 * 2 ^ (7 * i) := by rw [show 7 * (i + 1) = 7 + 7 * i by omega, Nat.pow_add]
    have hp : 0 < rem := by rcases h.pos with h0 | h0 <;> omega
    have hpw : 0 < 2 ^ (7 * i) := Nat.pow_pos (by decide)
    have hsum := h.sum
    have hlt := h.lt
    rw [e] at hsum hlt
    have hx1 : 128 * 1 ≤ 128 * 2 ^ (7 * i) := Nat.mul_le_mul_left _ hpw
    have hx2 : 1 * (128 * 2 ^ (7 * i)) ≤ rem * (128 * 2 ^ (7 * i)) := Nat.mul_le_mul_right _ hp
    have hbig : ¬ x < 128 := by omega
    rw [enc_big hbig, List.length_cons]
    have hq : Part (x / 128) i rem (acc / 128) := by
      refine ⟨Nat.div_lt_of_lt_mul hlt, ?_, .inr hp⟩
      have h3 : x = acc + 128 * (rem * 2 ^ (7 * i)) := by rw [← hsum, Nat.mul_left_comm]
      rw [h3]
      omega
    rw [ih hq hs]

theorem orv (acc b i : Nat) (ha : acc < 2 ^ (7 * i)) (hb : b < 256) (hs : acc + b % 128 * 2 ^ (7 * i) < 18446744073709551616) :
    bits .or .u64 (acc : Int) (IntKind.u64.wrap (IntKind.u64.wrap (bits .and .u8 (b : Int) 127) * 2 ^ (7 * i))) = ((acc + b % 128 * 2 ^ (7 * i) : Nat) : Int) := by
  rw [and127 b hb]
  have e1 : IntKind.u64.wrap ((b % 128 : Nat) : Int) = ((b % 128 : Nat) : Int) := by rw [IntKind.wrap_u64]; omega
  rw [e1]
  have e2 : ((b % 128 : Nat) : Int) * 2 ^ (7 * i) = ((b % 128 * 2 ^ (7 * i) : Nat) : Int) := by push_cast; rfl
  rw [e2]
  have e3 : IntKind.u64.wrap ((b % 128 * 2 ^ (7 * i) : Nat) : Int) = ((b % 128 * 2 ^ (7 * i) : Nat) : Int) := by rw [IntKind.wrap_u64]; omega
  rw [e3, bits_or_u64_nat acc _ (by omega) (by omega), or_add _ _ _ ha]

theorem whole_end {w : World} {r p n : Nat} {bs : List Int} {g c : Nat} (hh : w.heap[r]? = some (.cells #[.slice (some ⟨g, 0, none⟩) bs.length c, .int .i64 p] 71 (0, 0))) (hrow : RowAt .u8 w (.slice (some ⟨g, 0, none⟩) bs.length c) bs) (hgr : g ≠ r) (k : Nat) (z : Int) (hz : z = ((p + n : Nat) : Int)) :
    RdIs ((w.drewN k).setCell ⟨r, 1, none⟩ (.int .i64 z)) r bs (p + n) ∧ But r w ((w.drewN k).setCell ⟨r, 1, none⟩ (.int .i64 z)) := by
  subst hz
  have hb : Below w.heap.size w (w.drewN k) := below_drewN (Below.refl _ _) k
  have hh' : (w.drewN k).heap[r]? = some (.cells #[.slice (some ⟨g, 0, none⟩) bs.length c, .int .i64 p] 71 (0, 0)) := (hb.block r (lt_of_heap hh)).trans hh
  refine ⟨⟨some ⟨g, 0, none⟩, c, ?_, ?_, .inr ⟨g, rfl, hgr⟩⟩, ?_⟩
  · rw [heap_set hh']; simp
  · obtain ⟨ao, c', he, h1, h2, h3, h4⟩ := hrow.below hb
    simp only [Value.slice.injEq] at he
    obtain ⟨rfl, _, rfl⟩ := he
    refine ⟨_, c, rfl, h1, h2, h3, fun a ha j hj => ?_⟩
    rw [← h4 a ha j hj]
    cases ha
    unfold World.cell?
    rw [Below.heap_setCell]
    rw [Addr.add_lit]
    exact hgr
  · exact (But.of_below hb).trans (But.setCell _ ⟨r, 1, none⟩ _)

set_option maxRecDepth 100000 in
set_option maxHeartbeats 2000000 in
theorem rvar_whole (w : World) (r p x : Nat) (bs post : List Int) (h : RdIs w r bs p) (hx : x < 18446744073709551616) (hp : p ≤ bs.length) (hb : bs.drop p = enc x ++ post) (hbig : bs.length ≤ 175921860444160) :
    Calls Tryd.prog 41 #[.pointer (some ⟨r, 0, none⟩)] w fun e w' => e = .returned (.tuple #[.int .u64 x, .int .i64 0]) ∧ RdIs w' r bs (p + (enc x).length) ∧ But r w w' := by
  obtain ⟨ao, c, hh, hrow, hao⟩ := h
  have hne : 0 < (bs.drop p).length := by rw [hb, List.length_append]; have := (enc_ten hx).1; omega
  rw [List.length_drop] at hne
  obtain ⟨g, rfl, hgr⟩ : ∃ g, ao = some ⟨g, 0, none⟩ ∧ g ≠ r := by
    rcases hao with rfl | hg
    · obtain ⟨ao', c', he, h1, _, h3, _⟩ := hrow
      simp only [Value.slice.injEq] at he
      obtain ⟨rfl, _, rfl⟩ := he
      have := h3 rfl
      omega
    · exact hg
  have HH := hide hh
  have HROW := hide hrow
  have c0 := cell_of hh (i := 0) rfl
  have c1 := cell_of hh (i := 1) rfl
  have f1 := free_of hh 1
  have hcl : bs.length ≤ c := by
    obtain ⟨ao', c', he, h1, _⟩ := hrow
    simp only [Value.slice.injEq] at he
    obtain ⟨_, _, rfl⟩ := he
    exact h1
  have HC : Hid (∀ j, j < bs.length → w.cell? ⟨g, j, none⟩ = some (.int .u8 (bs[j]?.getD 0))) := fun j hj => by
    obtain ⟨ao', c', he, _, _, _, h4⟩ := hrow
    simp only [Value.slice.injEq] at he
    obtain ⟨rfl, _, rfl⟩ := he
    have := h4 _ rfl j hj
    rw [Addr.add_lit, Nat.zero_add] at this
    simpa [List.getD] using this
  obtain ⟨L, hL⟩ : ∃ L, L = bs.length := ⟨_, rfl⟩
  rw [← hL] at HC hcl hp hbig c0 hne
  have HBB := hide hb
  have HL := hide hL
  have hpi : (p : Int) ≤ (L : Int) := by omega
  have hpc : (L : Int) ≤ (c : Int) := by omega
  clear hh hrow hao hb hL
  go_enter Tryd.func41, Tryd.ntmps41
  go_wp2
  go_region
  go_wp2
  obtain ⟨m, hm⟩ : ∃ m, m = L - p := ⟨_, rfl⟩
  rw [← hm]
  have hmL : p + m = L := by omega
  have hmb : m ≤ 175921860444160 := by omega
  have HMM := hide hm
  obtain ⟨cp, hcp⟩ : ∃ cp, cp = c - p := ⟨_, rfl⟩
  rw [← hcp]
  have hmc : m ≤ cp := by omega
  clear hm hcp
  go_loopw [17, 4] (fun t a wr => ∃ i rem acc : Nat, t = .int .i64 i ∧ a = .int .u64 acc ∧ Part x i rem acc ∧ bs.drop (p + i) = enc rem ++ post ∧ ∃ k, wr = w.drewN k) (fun t _ _ => 10 - (RowKit.intOf t).toNat)
  case atStart => exact ⟨0, x, 0, rfl, rfl, ⟨by decide, by simp, .inl rfl⟩, HBB.out, 1, rfl⟩
  case round =>
    obtain ⟨i, rem, acc, rfl, rfl, hpt, hdr, k, rfl⟩ := hrel
    have hle := hpt.le hx
    have hlen : p + i + ((enc rem).length + post.length) = L := by
      have h1 := congrArg List.length hdr
      rw [List.length_drop, List.length_append, ← HL.out] at h1
      have h2 := enc_length rem
      omega
    have him : i < m := by have h2 := enc_length rem; omega
    have him' : (i : Int) < (m : Int) := by omega
    obtain ⟨b, hbv⟩ : ∃ b : Nat, bs[p + i]?.getD 0 = (b : Int) ∧ b = (if rem < 128 then rem else rem % 128 + 128) := by
      have h3 : bs[p + i]? = (bs.drop (p + i))[0]? := by rw [List.getElem?_drop]; simp
      rw [h3, hdr]
      by_cases hs : rem < 128
      · rw [enc_small hs, if_pos hs]; exact ⟨rem, by simp, rfl⟩
      · rw [enc_big hs, if_neg hs]; exact ⟨rem % 128 + 128, by simp, rfl⟩
    have d := HC.out (p + i) (by omega)
    rw [hbv.1] at d
    have HPT := hide hpt; have HDR := hide hdr; have HBV := hide hbv.2
    clear hpt hdr hbv hlen
    by_cases hs : rem < 128
    · have hb1 : b = rem := by rw [HBV.out, if_pos hs]
      subst hb1
      have hsum := HPT.out.sum
      have HV := hide (orv acc b i HPT.out.lt (by omega) (by rw [Nat.mod_eq_of_lt hs, hsum]; exact hx))
      have HXX : Hid (acc + b % 128 * 2 ^ (7 * i) = x) := by rw [Nat.mod_eq_of_lt hs]; exact hsum
      have HEN : Hid ((enc x).length = i + 1) := Part.len HPT.out hs
      have hps := HPT.out.pos
      clear hsum
      by_cases h9 : i = 9
      · have hq9 : ((i : Int) == 9) = true := by simp; omega
        have hb9 : decide ((1 : Int) < (b : Int)) = false := decide_eq_false (by have := hle.2 h9; omega)
        have hb0 : ((b : Int) == 0) = false := by simp; omega
        have HI9 := hide h9
        clear h9 hps
        go_wp2
        go_ret2
        rw [HV.out]
        refine ⟨?_, ?_⟩
        · rw [HXX.out]; rfl
        · rw [HEN.out]
          exact whole_end HH.out HROW.out hgr _ _ (by push_cast; omega)
      · have hq9 : ((i : Int) == 9) = false := by simp; omega
        by_cases hb0' : b = 0
        · have hb0 : ((b : Int) == 0) = true := by simp; omega
          have hi0 : i ≤ 0 := by omega
          have HB0 := hide hb0'
          clear hb0' hps
          go_wp2
          all_goals first
            | (exfalso; omega)
            | (go_ret2
               rw [HV.out]
               refine ⟨?_, ?_⟩
               · rw [HXX.out]; rfl
               · rw [HEN.out]
                 exact whole_end HH.out HROW.out hgr _ _ (by push_cast; omega))
        · have hb0 : ((b : Int) == 0) = false := by simp; omega
          have HB0 := hide hb0'
          clear hb0' hps
          go_wp2
          go_ret2
          rw [HV.out]
          refine ⟨?_, ?_⟩
          · rw [HXX.out]; rfl
          · rw [HEN.out]
            exact whole_end HH.out HROW.out hgr _ _ (by push_cast; omega)
    · have hb1 : b = rem % 128 + 128 := by rw [HBV.out, if_neg hs]
      have hbm : b % 128 = rem % 128 := by omega
      have hnx := HPT.out.next hs
      have hsum := hnx.sum
      have HV := hide (orv acc b i HPT.out.lt (by omega) (by rw [hbm]; omega))
      rw [hbm] at HV
      have hq9 : ((i : Int) == 9) = false := by
        have : i ≠ 9 := fun e => by have := hle.2 e; omega
        simp; omega
      have hi9 : i < 9 := by
        rcases Nat.lt_or_ge i 9 with h | h
        · exact h
        · have e : i = 9 := by omega
          have := hle.2 e
          omega
      have hb128 : (128 : Int) ≤ (b : Int) := by omega
      have HNX := hide hnx
      have HD2 : Hid (bs.drop (p + (i + 1)) = enc (rem / 128) ++ post) := by
        have h1 := HDR.out
        rw [enc_big hs] at h1
        have h2 : bs.drop (p + (i + 1)) = (bs.drop (p + i)).drop 1 := by rw [List.drop_drop]; rfl
        rw [h2, h1]
        rfl
      clear hb1 hbm hnx hsum
      go_wp2
      go_roundw
      case rel => exact ⟨i + 1, rem / 128, _, by simp, by rw [HV.out], HNX.out, HD2.out, k, rfl⟩
      case measure => simp [RowKit.intOf]; omega
set_option maxRecDepth 100000 in
set_option maxHeartbeats 2000000 in
theorem rvar_short (w : World) (r p x : Nat) (bs : List Int) (q : Nat) (h : RdIs w r bs p) (hx : x < 18446744073709551616) (hp : p ≤ bs.length) (hb : bs.drop p = (enc x).take q) (hq : q < (enc x).length) (hbig : bs.length ≤ 175921860444160) :
    Calls Tryd.prog 41 #[.pointer (some ⟨r, 0, none⟩)] w fun e w' => e = .returned (.tuple #[.int .u64 0, .int .i64 1]) ∧ Below w.heap.size w w' := by
  obtain ⟨ao, c, hh, hrow, hao⟩ := h
  rcases hao with rfl | ⟨g, rfl, hgr⟩
  · have hbs : bs = [] := by
      obtain ⟨ao', c', he, h1, _, h3, _⟩ := hrow
      simp only [Value.slice.injEq] at he
      obtain ⟨rfl, _, rfl⟩ := he
      have h5 := h3 rfl
      exact List.eq_nil_of_length_eq_zero (by omega)
    subst hbs
    obtain rfl : p = 0 := by simpa using hp
    obtain rfl : c = 0 := by
      obtain ⟨ao', c', he, h1, _, h3, _⟩ := hrow
      simp only [Value.slice.injEq] at he
      obtain ⟨rfl, _, rfl⟩ := he
      exact h3 rfl
    have c0 := cell_of hh (i := 0) rfl
    have c1 := cell_of hh (i := 1) rfl
    clear hh hrow hb hbig hp
    go_enter Tryd.func41, Tryd.ntmps41
    go_wp2
    go_region
    go_wp2
    refine wp_loop_rounds 1 ?_
    rw [rounds_succ]
    go_wp2
    go_ret2
    exact ⟨rfl, (Below.refl _ _).drew⟩
  have HH := hide hh
  have HROW := hide hrow
  have c0 := cell_of hh (i := 0) rfl
  have c1 := cell_of hh (i := 1) rfl
  have f1 := free_of hh 1
  have hcl : bs.length ≤ c := by
    obtain ⟨ao', c', he, h1, _⟩ := hrow
    simp only [Value.slice.injEq] at he
    obtain ⟨_, _, rfl⟩ := he
    exact h1
  have HC : Hid (∀ j, j < bs.length → w.cell? ⟨g, j, none⟩ = some (.int .u8 (bs[j]?.getD 0))) := fun j hj => by
    obtain ⟨ao', c', he, _, _, _, h4⟩ := hrow
    simp only [Value.slice.injEq] at he
    obtain ⟨rfl, _, rfl⟩ := he
    have := h4 _ rfl j hj
    rw [Addr.add_lit, Nat.zero_add] at this
    simpa [List.getD] using this
  obtain ⟨L, hL⟩ : ∃ L, L = bs.length := ⟨_, rfl⟩
  rw [← hL] at HC hcl hp hbig c0
  have HBB := hide hb
  have HL := hide hL
  have hpi : (p : Int) ≤ (L : Int) := by omega
  have hpc : (L : Int) ≤ (c : Int) := by omega
  clear hh hrow hb hL
  by_cases hpL : p = L
  · clear HBB HC
    have hz : L - p = 0 := by omega
    by_cases hpc2 : p = c
    · have hzz : ((L - p : Nat) : Int) = 0 := by omega
      go_enter Tryd.func41, Tryd.ntmps41
      go_wp2
      go_region
      all_goals
        go_wp2
        refine wp_loop_rounds 1 ?_
        rw [rounds_succ]
        go_wp2
        go_ret2
        exact ⟨rfl, (Below.refl _ _).drew⟩
    · have hzz : ((L - p : Nat) : Int) = 0 := by omega
      go_enter Tryd.func41, Tryd.ntmps41
      go_wp2
      go_region
      all_goals
        go_wp2
        refine wp_loop_rounds 1 ?_
        rw [rounds_succ]
        go_wp2
        go_ret2
        exact ⟨rfl, (Below.refl _ _).drew⟩
  have hpl : p < L := by omega
  go_enter Tryd.func41, Tryd.ntmps41
  go_wp2
  go_region
  go_wp2
  obtain ⟨m, hm⟩ : ∃ m, m = L - p := ⟨_, rfl⟩
  rw [← hm]
  have hmL : p + m = L := by omega
  have hmb : m ≤ 175921860444160 := by omega
  have HMM := hide hm
  obtain ⟨cp, hcp⟩ : ∃ cp, cp = c - p := ⟨_, rfl⟩
  rw [← hcp]
  have hmc : m ≤ cp := by omega
  clear hm hcp
  go_loopw [17, 4] (fun t a wr => ∃ i rem acc : Nat, t = .int .i64 i ∧ a = .int .u64 acc ∧ Part x i rem acc ∧ (∃ q, bs.drop (p + i) = (enc rem).take q ∧ q < (enc rem).length) ∧ ∃ k, wr = w.drewN k) (fun t _ _ => 10 - (RowKit.intOf t).toNat)
  case atStart => exact ⟨0, x, 0, rfl, rfl, ⟨by decide, by simp, .inl rfl⟩, ⟨q, HBB.out, hq⟩, 1, rfl⟩
  case round =>
    obtain ⟨i, rem, acc, rfl, rfl, hpt, ⟨q', hdr, hq'⟩, k, rfl⟩ := hrel
    have hle := hpt.le hx
    by_cases him : i < m
    · have him' : (i : Int) < (m : Int) := by omega
      have hq1 : 0 < q' := by
        rcases Nat.eq_zero_or_pos q' with h0 | h0
        · have h1 := congrArg List.length hdr
          rw [h0, List.length_drop, ← HL.out] at h1
          simp at h1
          omega
        · exact h0
      have hs : ¬ rem < 128 := fun h => by rw [enc_small h] at hq'; simp at hq'; omega
      obtain ⟨b, hbv⟩ : ∃ b : Nat, bs[p + i]?.getD 0 = (b : Int) ∧ b = rem % 128 + 128 := by
        have h3 : bs[p + i]? = (bs.drop (p + i))[0]? := by rw [List.getElem?_drop]; simp
        rw [h3, hdr, enc_big hs]
        refine ⟨rem % 128 + 128, ?_, rfl⟩
        obtain ⟨q2, rfl⟩ : ∃ q2, q' = q2 + 1 := ⟨q' - 1, by omega⟩
        simp
      have d := HC.out (p + i) (by omega)
      rw [hbv.1] at d
      have hb1 := hbv.2
      have hbm : b % 128 = rem % 128 := by omega
      have hnx := hpt.next hs
      have hsum := hnx.sum
      have HV := hide (orv acc b i hpt.lt (by omega) (by rw [hbm]; omega))
      rw [hbm] at HV
      have hi9 : i < 9 := by
        rcases Nat.lt_or_ge i 9 with h | h
        · exact h
        · have e : i = 9 := by omega
          have := hle.2 e
          omega
      have hq9 : ((i : Int) == 9) = false := by simp; omega
      have hb128 : (128 : Int) ≤ (b : Int) := by omega
      have HNX := hide hnx
      have HD2 : Hid (∃ q, bs.drop (p + (i + 1)) = (enc (rem / 128)).take q ∧ q < (enc (rem / 128)).length) := by
        have h1 := hdr
        rw [enc_big hs] at h1 hq'
        have h2 : bs.drop (p + (i + 1)) = (bs.drop (p + i)).drop 1 := by rw [List.drop_drop]; rfl
        obtain ⟨q2, rfl⟩ : ∃ q2, q' = q2 + 1 := ⟨q' - 1, by omega⟩
        refine ⟨q2, ?_, by simpa using hq'⟩
        rw [h2, h1]
        rfl
      clear hb1 hbm hnx hsum hdr hpt hbv hq' hq1
      go_wp2
      go_roundw
      case rel => exact ⟨i + 1, rem / 128, _, by simp, by rw [HV.out], HNX.out, HD2.out, k, rfl⟩
      case measure => simp [RowKit.intOf]; omega
    · clear hpt hdr hq'
      go_wp2
      go_ret2
      exact ⟨rfl, below_drewN (Below.refl _ _) _⟩
end Go.Proofs.YtpfpelhhebafeaaDoor
