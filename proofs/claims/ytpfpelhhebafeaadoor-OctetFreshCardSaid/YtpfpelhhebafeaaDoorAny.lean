/- The reader's Var of any bytes. -/
import Derived.Test.YtpfpelhhebafeaaDoorReads
namespace Go.Proofs.YtpfpelhhebafeaaDoor
open Go.RowKit Go.Lib
set_option linter.unusedVariables false

def vals : List Nat → Nat
  | [] => 0
  | b :: r => b % 128 + 128 * vals r
theorem vals_lt (l : List Nat) : vals l < 2 ^ (7 * l.length) := by
  induction l with
  | nil => simp [vals]
  | cons b r ih =>
    rw [List.length_cons, show 7 * (r.length + 1) = 7 + 7 * r.length by omega, Nat.pow_add, show (2 : Nat) ^ 7 = 128 by decide, vals]
    omega
theorem vals_append (l : List Nat) (b : Nat) : vals (l ++ [b]) = vals l + b % 128 * 2 ^ (7 * l.length) := by
  induction l with
  | nil => simp [vals]
  | cons a r ih =>
    rw [List.cons_append, vals, ih, vals, List.length_cons, show 7 * (r.length + 1) = 7 + 7 * r.length by omega, Nat.pow_add, show (2 : Nat) ^ 7 = 128 by decide, Nat.mul_add, Nat.mul_left_comm]
    omega
theorem enc_vals (l : List Nat) (b : Nat) (hl : ∀ x ∈ l, 128 ≤ x ∧ x < 256) (hb : b < 128) (h0 : l ≠ [] → 0 < b) : enc (vals (l ++ [b])) = (l ++ [b]).map (fun (n : Nat) => (n : Int)) := by
  induction l with
  | nil =>
    have e : vals ([] ++ [b]) = b := by simp [vals]; omega
    rw [e, enc_small hb]; rfl
  | cons a r ih =>
    have ha := hl a (by simp)
    have hp : 0 < b := h0 (by simp)
    have ih' := ih (fun x hx => hl x (by simp [hx])) (fun _ => hp)
    have hpos : 0 < vals (r ++ [b]) := by
      rw [vals_append, Nat.mod_eq_of_lt hb]
      have h1 : 0 < 2 ^ (7 * r.length) := Nat.pow_pos (by decide)
      have h2 := Nat.mul_pos hp h1
      omega
    have e : vals (a :: r ++ [b]) = a % 128 + 128 * vals (r ++ [b]) := rfl
    rw [e, enc_big (by omega), show (a % 128 + 128 * vals (r ++ [b])) / 128 = vals (r ++ [b]) by omega, ih', show (a % 128 + 128 * vals (r ++ [b])) % 128 + 128 = a by omega]
    rfl

/-- The bytes that were read so far: all go on. -/
structure Front (bs : List Int) (p : Nat) (l : List Nat) : Prop where
  eq : (bs.drop p).take l.length = l.map (fun (n : Nat) => (n : Int))
  go : ∀ x ∈ l, 128 ≤ x ∧ x < 256
theorem front_snoc {bs : List Int} {p b i : Nat} {l : List Nat} (h : Front bs p l) (hb : bs[p + i]?.getD 0 = (b : Int)) (hi : i = l.length) (hlen : p + i < bs.length) : (bs.drop p).take (l ++ [b]).length = (l ++ [b]).map (fun (n : Nat) => (n : Int)) := by
  rw [List.length_append, List.length_singleton, List.take_add_one, h.eq, ← hi, List.getElem?_drop, List.getElem?_eq_getElem hlen]
  rw [List.getElem?_eq_getElem hlen] at hb
  simp at hb
  simp [hb]

def VarPost (w : World) (r p : Nat) (bs : List Int) (e : Ending) (w' : World) : Prop :=
  (∃ er : Int, (er = 1 ∨ er = 2 ∨ er = 3) ∧ e = .returned (.tuple #[.int .u64 0, .int .i64 er]) ∧ Below w.heap.size w w') ∨
  (∃ v : Nat, e = .returned (.tuple #[.int .u64 v, .int .i64 0]) ∧ v < 18446744073709551616 ∧ (bs.drop p).take (enc v).length = enc v ∧ RdIs w' r bs (p + (enc v).length) ∧ But r w w')

set_option maxRecDepth 100000 in
set_option maxHeartbeats 2000000 in
theorem rvar_any (w : World) (r p : Nat) (bs : List Int) (h : RdIs w r bs p) (hp : p ≤ bs.length) (hby : ∀ y ∈ bs, 0 ≤ y ∧ y < 256) (hbig : bs.length ≤ 175921860444160) :
    Calls Tryd.prog 41 #[.pointer (some ⟨r, 0, none⟩)] w fun e w' => VarPost w r p bs e w' := by
  obtain ⟨ao, c, hh, hrow, hao⟩ := h
  rcases hao with rfl | ⟨g, rfl, hgr⟩
  · have hbs : bs = [] := by
      obtain ⟨ao', c', he, h1, _, h3, _⟩ := hrow
      simp only [Value.slice.injEq] at he
      obtain ⟨rfl, _, rfl⟩ := he
      have h5 := h3 rfl
      exact List.eq_nil_of_length_eq_zero (by omega)
    subst hbs
    obtain rfl : p = 0 := by simpa using hp
    obtain rfl : c = 0 := by
      obtain ⟨ao', c', he, h1, _, h3, _⟩ := hrow
      simp only [Value.slice.injEq] at he
      obtain ⟨rfl, _, rfl⟩ := he
      exact h3 rfl
    have c0 := cell_of hh (i := 0) rfl
    have c1 := cell_of hh (i := 1) rfl
    clear hh hrow hbig hp hby
    go_enter Tryd.func41, Tryd.ntmps41
    go_wp2
    go_region
    go_wp2
    refine wp_loop_rounds 1 ?_
    rw [rounds_succ]
    go_wp2
    go_ret2
    exact .inl ⟨1, .inl rfl, rfl, (Below.refl _ _).drew⟩
  have HH := hide hh
  have HROW := hide hrow
  have c0 := cell_of hh (i := 0) rfl
  have c1 := cell_of hh (i := 1) rfl
  have f1 := free_of hh 1
  have hcl : bs.length ≤ c := by
    obtain ⟨ao', c', he, h1, _⟩ := hrow
    simp only [Value.slice.injEq] at he
    obtain ⟨_, _, rfl⟩ := he
    exact h1
  have HC : Hid (∀ j, j < bs.length → w.cell? ⟨g, j, none⟩ = some (.int .u8 (bs[j]?.getD 0))) := fun j hj => by
    obtain ⟨ao', c', he, _, _, _, h4⟩ := hrow
    simp only [Value.slice.injEq] at he
    obtain ⟨rfl, _, rfl⟩ := he
    have := h4 _ rfl j hj
    rw [Addr.add_lit, Nat.zero_add] at this
    simpa [List.getD] using this
  obtain ⟨L, hL⟩ : ∃ L, L = bs.length := ⟨_, rfl⟩
  rw [← hL] at HC hcl hp hbig c0
  have HBB := hide hby
  have HL := hide hL
  have hpi : (p : Int) ≤ (L : Int) := by omega
  have hpc : (L : Int) ≤ (c : Int) := by omega
  clear hh hrow hby hL
  by_cases hpL : p = L
  · clear HBB HC
    have hz : L - p = 0 := by omega
    by_cases hpc2 : p = c
    · have hzz : ((L - p : Nat) : Int) = 0 := by omega
      go_enter Tryd.func41, Tryd.ntmps41
      go_wp2
      go_region
      all_goals
        go_wp2
        refine wp_loop_rounds 1 ?_
        rw [rounds_succ]
        go_wp2
        go_ret2
        exact .inl ⟨1, .inl rfl, rfl, (Below.refl _ _).drew⟩
    · have hzz : ((L - p : Nat) : Int) = 0 := by omega
      go_enter Tryd.func41, Tryd.ntmps41
      go_wp2
      go_region
      all_goals
        go_wp2
        refine wp_loop_rounds 1 ?_
        rw [rounds_succ]
        go_wp2
        go_ret2
        exact .inl ⟨1, .inl rfl, rfl, (Below.refl _ _).drew⟩
  have hpl : p < L := by omega
  go_enter Tryd.func41, Tryd.ntmps41
  go_wp2
  go_region
  go_wp2
  obtain ⟨m, hm⟩ : ∃ m, m = L - p := ⟨_, rfl⟩
  rw [← hm]
  have hmL : p + m = L := by omega
  have hmb : m ≤ 175921860444160 := by omega
  have HMM := hide hm
  obtain ⟨cp, hcp⟩ : ∃ cp, cp = c - p := ⟨_, rfl⟩
  rw [← hcp]
  have hmc : m ≤ cp := by omega
  clear hm hcp
  go_loopw [17, 4] (fun t a wr => ∃ l : List Nat, t = .int .i64 l.length ∧ a = .int .u64 (vals l) ∧ Front bs p l ∧ l.length ≤ 9 ∧ ∃ k, wr = w.drewN k) (fun t _ _ => 10 - (RowKit.intOf t).toNat)
  case atStart => exact ⟨[], rfl, rfl, ⟨by simp, by simp⟩, by simp, 1, rfl⟩
  case round =>
    obtain ⟨l, rfl, rfl, hfr, hl9, k, rfl⟩ := hrel
    have HFR := hide hfr
    have hvl := vals_lt l
    obtain ⟨acc, hacc⟩ : ∃ acc, acc = vals l := ⟨_, rfl⟩
    rw [← hacc] at hvl ⊢
    obtain ⟨i, hi⟩ : ∃ i, i = l.length := ⟨_, rfl⟩
    rw [← hi] at hl9 hvl ⊢
    have HACC := hide hacc; have HI := hide hi
    clear hfr hacc hi
    by_cases him : i < m
    · have him' : (i : Int) < (m : Int) := by omega
      obtain ⟨b, hbv⟩ : ∃ b : Nat, bs[p + i]?.getD 0 = (b : Int) ∧ b < 256 := by
        have h4 : p + i < bs.length := by rw [← HL.out]; omega
        have h5 := HBB.out (bs[p + i]) (List.getElem_mem h4)
        refine ⟨(bs[p + i]).toNat, ?_, by omega⟩
        rw [List.getElem?_eq_getElem h4]
        simp
        omega
      have d := HC.out (p + i) (by omega)
      rw [hbv.1] at d
      have hb256 := hbv.2
      have HBV := hide hbv.1
      clear hbv
      have HNX : Hid (Front bs p (l ++ [b])) ∨ True := .inr trivial
      by_cases hlong : i = 9 ∧ 1 < b
      · have hq9 : ((i : Int) == 9) = true := by simp; omega
        have hd1 : (1 : Int) < (b : Int) := by omega
        have HLO := hide hlong
        clear hlong
        go_wp2
        go_ret2
        exact .inl ⟨2, .inr (.inl rfl), rfl, below_drewN (Below.refl _ _) _⟩
      · have h18 : acc + b % 128 * 2 ^ (7 * i) < 18446744073709551616 := by
          rcases Nat.lt_or_ge i 9 with h | h
          · have h1 : 2 ^ (7 * i) ≤ 2 ^ 56 := Nat.pow_le_pow_right (by decide) (by omega)
            have h2 : b % 128 * 2 ^ (7 * i) ≤ 127 * 2 ^ 56 := Nat.mul_le_mul (by omega) h1
            have h3 : (2 : Nat) ^ 56 = 72057594037927936 := by decide
            omega
          · have e9 : i = 9 := by omega
            have h3 : (2 : Nat) ^ (7 * 9) = 9223372036854775808 := by decide
            rw [e9] at hvl ⊢
            rw [h3] at hvl ⊢
            have h4 : b % 128 ≤ 1 := by omega
            have h5 : b % 128 * 9223372036854775808 ≤ 1 * 9223372036854775808 := Nat.mul_le_mul_right _ h4
            omega
        have HV := hide (orv acc b i hvl hb256 h18)
        have HVV : Hid (acc + b % 128 * 2 ^ (7 * i) = vals (l ++ [b])) := by rw [vals_append, HACC.out, HI.out]; exact rfl
        have H18 := hide h18
        have HLO := hide hlong
        have HQ : Hid (((i : Int) == 9) = false ∨ ((i : Int) == 9) = true ∧ decide ((1 : Int) < (b : Int)) = false ∧ b < 128) := by
          by_cases e9 : i = 9
          · exact .inr ⟨by simp; omega, decide_eq_false (by omega), by omega⟩
          · exact .inl (by simp; omega)
        clear hlong h18 HNX
        by_cases hbb : 128 ≤ b
        · have hb128 : (128 : Int) ≤ (b : Int) := by omega
          have hi9 : i < 9 := by have h := HLO.out; omega
          have hq9 : ((i : Int) == 9) = false := by simp; omega
          have HFN := hide ((⟨front_snoc HFR.out HBV.out HI.out (by rw [← HL.out]; omega), fun x hx => by rcases List.mem_append.1 hx with h | h; exact HFR.out.go x h; simp at h; omega⟩ : Front bs p (l ++ [b])))
          go_wp2
          go_roundw
          case rel => exact ⟨l ++ [b], by simp [HI.out], by rw [HV.out, HVV.out], HFN.out, by simp [← HI.out]; omega, k, rfl⟩
          case measure => simp [RowKit.intOf]; omega
        · have hblt : ¬ (128 : Int) ≤ (b : Int) := by omega
          have HFS := hide (front_snoc HFR.out HBV.out HI.out (by rw [← HL.out]; omega))
          by_cases hlo : b = 0 ∧ 0 < i
          · have hb0 : ((b : Int) == 0) = true := by simp; omega
            have hip : (0 : Int) < (i : Int) := by omega
            have HLL := hide hlo
            clear hlo
            rcases HQ.out with hq9 | ⟨hq9, hd1, _⟩
            · go_wp2
              all_goals first
                | (exfalso; omega)
                | (go_ret2; exact .inl ⟨3, .inr (.inr rfl), rfl, below_drewN (Below.refl _ _) _⟩)
            · go_wp2
              all_goals first
                | (exfalso; omega)
                | (go_ret2; exact .inl ⟨3, .inr (.inr rfl), rfl, below_drewN (Below.refl _ _) _⟩)
          · have HEV : Hid (enc (vals (l ++ [b])) = (l ++ [b]).map (fun (n : Nat) => (n : Int))) := enc_vals l b HFR.out.go (by omega) (fun h => by
              have h1 : 0 < l.length := List.length_pos_iff.2 h
              rw [← HI.out] at h1
              omega)
            by_cases hbz : b = 0
            · have hb0 : ((b : Int) == 0) = true := by simp; omega
              have hiz : i ≤ 0 := by omega
              have hq9 : ((i : Int) == 9) = false := by simp; omega
              have HBZ := hide hbz
              clear hbz hlo
              go_wp2
              all_goals first
                | (exfalso; omega)
                | (go_ret2
                   rw [HV.out, HVV.out]
                   have hen := HEV.out
                   have hll : (enc (vals (l ++ [b]))).length = i + 1 := by rw [hen]; simp [← HI.out]
                   refine .inr ⟨vals (l ++ [b]), rfl, by rw [← HVV.out]; exact H18.out, ?_, ?_⟩
                   · rw [hll, hen, ← HFS.out]; simp [← HI.out]
                   · rw [hll]
                     exact whole_end HH.out HROW.out hgr _ _ (by push_cast; omega))
            · have hb0 : ((b : Int) == 0) = false := by simp; omega
              have HBZ := hide hbz
              clear hbz hlo
              rcases HQ.out with hq9 | ⟨hq9, hd1, _⟩
              · go_wp2
                all_goals first
                  | (exfalso; omega)
                  | (go_ret2
                     rw [HV.out, HVV.out]
                     have hen := HEV.out
                     have hll : (enc (vals (l ++ [b]))).length = i + 1 := by rw [hen]; simp [← HI.out]
                     refine .inr ⟨vals (l ++ [b]), rfl, by rw [← HVV.out]; exact H18.out, ?_, ?_⟩
                     · rw [hll, hen, ← HFS.out]; simp [← HI.out]
                     · rw [hll]
                       exact whole_end HH.out HROW.out hgr _ _ (by push_cast; omega))
              · go_wp2
                all_goals first
                  | (exfalso; omega)
                  | (go_ret2
                     rw [HV.out, HVV.out]
                     have hen := HEV.out
                     have hll : (enc (vals (l ++ [b]))).length = i + 1 := by rw [hen]; simp [← HI.out]
                     refine .inr ⟨vals (l ++ [b]), rfl, by rw [← HVV.out]; exact H18.out, ?_, ?_⟩
                     · rw [hll, hen, ← HFS.out]; simp [← HI.out]
                     · rw [hll]
                       exact whole_end HH.out HROW.out hgr _ _ (by push_cast; omega))
    · go_wp2
      go_ret2
      exact .inl ⟨1, .inl rfl, rfl, below_drewN (Below.refl _ _) _⟩
end Go.Proofs.YtpfpelhhebafeaaDoor
