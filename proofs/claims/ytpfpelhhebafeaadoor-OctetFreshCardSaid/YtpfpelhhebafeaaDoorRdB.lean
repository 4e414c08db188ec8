/- The reference's reader with all its errors. -/
import Derived.Test.YtpfpelhhebafeaaDoorRdV
import Derived.Test.YtpfpelhhebafeaaDoorRefCrc
import Derived.Deep.DeepAppendWide
namespace Go.Proofs.YtpfpelhhebafeaaDoor
open Go.RowKit Go.Lib
set_option linter.unusedVariables false
set_option linter.unusedSimpArgs false
theorem RRd.shape {w : World} {r p : Nat} {v : Value} {bs : List Int} (h : RRd w r v bs p) : ∃ ao c, v = .slice ao bs.length c := by obtain ⟨ao, c, h, _⟩ := h.row; exact ⟨ao, c, h⟩
theorem RRd.cells {w : World} {r p : Nat} {v : Value} {bs : List Int} (h : RRd w r v bs p) : w.cell? ⟨r, 0, none⟩ = some v ∧ w.cell? ⟨r, 1, none⟩ = some (.int .i64 (p : Int)) ∧ w.frozen? ⟨r, 1, none⟩ = false :=
  ⟨cell_of h.hh rfl, cell_of h.hh rfl, free_of h.hh 1⟩
/-- The place set behind something that only made memory. -/
theorem RRd.on {w w1 : World} {r p q : Nat} {v : Value} {bs : List Int} (h : RRd w r v bs p) (hb : Below w.heap.size w w1) (z : Int) (hz : z = (q : Int)) :
    RRd (w1.setCell ⟨r, 1, none⟩ (.int .i64 z)) r v bs q ∧ But r w (w1.setCell ⟨r, 1, none⟩ (.int .i64 z)) := by
  obtain ⟨h1, h2⟩ := (h.below hb).set z hz
  exact ⟨h1, (But.of_below hb).trans h2⟩
set_option maxRecDepth 100000 in
set_option maxHeartbeats 2000000 in
theorem rr_word (w : World) (r p : Nat) (s : Int) (v : Value) (bs : List Int) (h : RRd w r v bs p) (hp : p ≤ bs.length) (hby : Byt bs) (hbig : bs.length ≤ 175921860444160) :
    Calls Tryd.prog 46 #[.pointer (some ⟨r, 0, none⟩), .int .i64 s] w fun e w' => e = .returned (.tuple #[.int .u64 ((wordA bs p s).1 : Nat), .int .i64 (wordA bs p s).2.1]) ∧ RRd w' r v bs (wordA bs p s).2.2 ∧ But r w w' := by
  by_cases hs : 1 ≤ s ∧ s ≤ 8
  · obtain ⟨k, rfl⟩ : ∃ k : Nat, s = (k : Int) := ⟨s.toNat, by omega⟩
    have hk1 : 1 ≤ k := by omega
    have hk8 : k ≤ 8 := by omega
    have HLF := hide (rleft_any w r p v bs h hp hbig)
    have H := hide h
    by_cases hl : bs.length < p + k
    · have e : wordA bs p (k : Int) = (0, 1, p) := by unfold wordA; rw [if_neg (fun h => h hs), if_pos (by simpa using hl)]
      rw [e]
      obtain ⟨L, hL⟩ : ∃ L, L = bs.length := ⟨_, rfl⟩
      rw [← hL] at HLF hl
      have hlt : (L : Int) - (p : Int) < (k : Int) := by omega
      have g1 : ¬ (k : Int) < 1 := by omega
      have g2 : ¬ (8 : Int) < (k : Int) := by omega
      clear h hs hL e hl hp hbig hby
      go_enter Tryd.func46, Tryd.ntmps46
      go_wp2_with (first
        | (go_at_call 33; refine HLF.out.mono ?_; rintro e w2 ⟨rfl, hb2⟩; have HB := hide hb2; clear hb2)
        | fail)
      go_ret2
      exact ⟨rfl, H.out.below HB.out, But.of_below HB.out⟩
    · have e : wordA bs p (k : Int) = (vals8 (nats ((bs.drop p).take k)), 0, p + k) := by unfold wordA; rw [if_neg (fun h => h hs), if_neg (by simpa using hl)]; simp
      rw [e]
      have HW : Hid (∀ W, RowAt .u8 W v bs → Calls Tryd.prog 57 #[v, .int .i64 (p : Int), .int .i64 (k : Int)] W fun e w' => e = .returned (.int .u64 ((vals8 (nats ((bs.drop p).take k)) : Nat) : Int)) ∧ w' = W) := fun W hW =>
        word57_any W v bs p k (nats ((bs.drop p).take k)) hW (nats_cast (hby.sub p k)) (by simp [nats]; omega) (nats_lt (hby.sub p k)) hk1 hk8 (by omega) hbig
      obtain ⟨ao, c, rfl⟩ := h.shape
      obtain ⟨V, hV⟩ : ∃ V, V = vals8 (nats ((bs.drop p).take k)) := ⟨_, rfl⟩
      rw [← hV] at HW ⊢
      obtain ⟨L, hL⟩ : ∃ L, L = bs.length := ⟨_, rfl⟩
      rw [← hL] at HLF hl HW H hbig ⊢
      have hlt : ¬ (L : Int) - (p : Int) < (k : Int) := by omega
      have g1 : ¬ (k : Int) < 1 := by omega
      have g2 : ¬ (8 : Int) < (k : Int) := by omega
      clear h hs hL e hp hby hV
      go_enter Tryd.func46, Tryd.ntmps46
      go_wp2_with (first
        | (go_at_call 33; refine HLF.out.mono ?_; rintro e w2 ⟨rfl, hb2⟩; have HB := hide hb2; have H2 := hide (H.out.below hb2); obtain ⟨c0, c1, f1⟩ := H2.out.cells; clear hb2)
        | fail)
      go_quiet ((go_at_call 57; refine Calls.quiet_of_same (HW.out _ (by first | exact H2.out.row | exact H2.out.row.below (below_drewN (Below.refl _ _) _)))))
      go_wp2
      go_ret2
      exact ⟨rfl, RRd.on H.out (below_drewN HB.out _) _ (by push_cast; omega)⟩
  · have e : wordA bs p s = (0, 4, p) := by unfold wordA; rw [if_pos hs]
    rw [e]
    have H := hide h
    have hh : s < 1 ∨ 8 < s := by omega
    clear h hs e hp hbig hby
    go_enter Tryd.func46, Tryd.ntmps46
    go_wp2
    all_goals first
      | (exfalso; omega)
      | (go_ret2; exact ⟨rfl, H.out, But.refl _ _⟩)
/-- What the reference's Var has made. -/
def VQ (w : World) (r p : Nat) (v : Value) (bs : List Int) (e : Ending) (w' : World) : Prop :=
  e = .returned (.tuple #[.int .u64 ((varA bs p).1 : Nat), .int .i64 (varA bs p).2.1]) ∧ RRd w' r v bs (varA bs p).2.2 ∧ But r w w'
theorem VQ.bad {w w' : World} {r p : Nat} {v : Value} {bs : List Int} {er : Int} (h : RRd w r v bs p) (hv : vr (bs.drop p) 0 0 = (0, er, 0)) (hb : Below w.heap.size w w') : VQ w r p v bs (.returned (.tuple #[.int .u64 0, .int .i64 er])) w' := by
  unfold VQ
  rw [varA_of hv]
  exact ⟨rfl, h.below hb, But.of_below hb⟩
theorem VQ.good {w w' : World} {r p x n : Nat} {v : Value} {bs : List Int} (hv : vr (bs.drop p) 0 0 = (x, 0, n)) (h : RRd w' r v bs (p + n) ∧ But r w w') : VQ w r p v bs (.returned (.tuple #[.int .u64 (x : Int), .int .i64 0])) w' := by
  unfold VQ
  rw [varA_of hv]
  exact ⟨rfl, h⟩
theorem orm (acc b i : Nat) (ha : acc < 2 ^ (7 * i)) (hs : acc + b % 128 * 2 ^ (7 * i) < 18446744073709551616) :
    bits .or .u64 (acc : Int) (IntKind.u64.wrap ((b : Int) % 128 * 2 ^ (7 * i))) = ((acc + b % 128 * 2 ^ (7 * i) : Nat) : Int) := by
  have e2 : (b : Int) % 128 * 2 ^ (7 * i) = ((b % 128 * 2 ^ (7 * i) : Nat) : Int) := by push_cast; rfl
  rw [e2]
  have e3 : IntKind.u64.wrap ((b % 128 * 2 ^ (7 * i) : Nat) : Int) = ((b % 128 * 2 ^ (7 * i) : Nat) : Int) := by rw [IntKind.wrap_u64]; omega
  rw [e3, bits_or_u64_nat acc _ (by omega) (by omega), or_add _ _ _ ha]
set_option maxRecDepth 100000 in
set_option maxHeartbeats 4000000 in
theorem rr_var (w : World) (r p : Nat) (v : Value) (bs : List Int) (h : RRd w r v bs p) (hp : p ≤ bs.length) (hby : Byt bs) (hbig : bs.length ≤ 175921860444160) :
    Calls Tryd.prog 47 #[.pointer (some ⟨r, 0, none⟩)] w (VQ w r p v bs) := by
  have H := hide h
  have HBB := hide hby
  have HC : Hid (∀ j, j < bs.length → ∃ g o c, v = .slice (some ⟨g, o, none⟩) bs.length c ∧ bs.length ≤ c ∧ w.cell? ⟨g, o + j, none⟩ = some (.int .u8 (bs[j]?.getD 0))) := fun j hj => by
    obtain ⟨g, o, c, h1, h2, h3, h4⟩ := h.row.spot (by intro e; rw [e] at hj; simp at hj)
    exact ⟨g, o, c, h1, h2, h4 j hj⟩
  obtain ⟨c0, c1, f1⟩ := h.cells
  obtain ⟨ao, c, rfl⟩ := h.shape
  obtain ⟨L, hL⟩ : ∃ L, L = bs.length := ⟨_, rfl⟩
  have HL := hide hL
  rw [← hL] at H HC hp hbig c0 ⊢
  clear h hby hL
  go_enter Tryd.func47, Tryd.ntmps47
  go_wp2
  go_loopw [4, 5] (fun a t wr => ∃ i acc : Nat, t = .int .i64 (i : Int) ∧ a = .int .u64 (acc : Int) ∧ acc < 2 ^ (7 * i) ∧ i ≤ 9 ∧ p + i ≤ L ∧ vr (bs.drop p) 0 0 = vr (bs.drop (p + i)) i acc ∧ ∃ k, wr = w.drewN k) (fun _ t _ => 10 - (RowKit.intOf t).toNat)
  case atStart => exact ⟨0, 0, rfl, rfl, by decide, by decide, by omega, rfl, 0, rfl⟩
  case round =>
    obtain ⟨i, acc, rfl, rfl, hvl, hl9, hpL, hvr, k, rfl⟩ := hrel
    have HVR := hide hvr
    clear hvr
    have hwr : IntKind.i64.wrap ((p : Int) + (i : Int)) = (p : Int) + (i : Int) := IntWalk.i64_in _ (by omega)
    by_cases him : p + i < L
    · have him' : ¬ (L : Int) ≤ (p : Int) + (i : Int) := by omega
      obtain ⟨b, hbv⟩ : ∃ b : Nat, bs[p + i]?.getD 0 = (b : Int) ∧ b < 256 := by
        have h4 : p + i < bs.length := by rw [← HL.out]; omega
        have h5 := HBB.out (bs[p + i]) (List.getElem_mem h4)
        refine ⟨(bs[p + i]).toNat, ?_, by omega⟩
        rw [List.getElem?_eq_getElem h4]
        simp
        omega
      obtain ⟨g, o, c', he, hLc, d⟩ := HC.out (p + i) him
      simp only [Value.slice.injEq, true_and] at he
      obtain ⟨rfl, rfl⟩ := he
      rw [hbv.1] at d
      have hb256 := hbv.2
      have HBV := hide (HVR.out.trans (vr_at (by rw [← HL.out]; omega) hbv.1))
      clear hbv HVR
      have hcb : ((p : Int) + (i : Int)) < (L : Int) := by omega
      have hpi0 : (0 : Int) ≤ (p : Int) + (i : Int) := by omega
      have hnat : ((p : Int) + (i : Int)).toNat = p + i := by omega
      by_cases hlong : i = 9 ∧ 1 < b
      · have hq9 : ((i : Int) == 9) = true := by simp; omega
        have hd1 : (1 : Int) < (b : Int) := by omega
        have HE : Hid (vr (bs.drop p) 0 0 = (0, 2, 0)) := hide (by rw [HBV.out, if_pos hlong])
        clear hlong HBV
        go_wp2_with fail
        go_quiet (fail)
        go_wp2_with fail
        go_quiet (fail)
        go_wp2
        go_ret2
        exact VQ.bad H.out HE.out (by first | exact below_drewN (Below.refl _ _) _ | exact below_drewN (below_drewN (Below.refl _ _) _) _)
      · have h18 := var_room hvl hl9 hb256 hlong
        have HV := hide (orm acc b i hvl h18)
        have HPW := hide (var_pow (b := b) hvl)
        have HLO := hide hlong
        have HB2 : Hid (vr (bs.drop p) 0 0 = if b < 128 then (if b = 0 ∧ 0 < i then (0, 3, 0) else (acc + b % 128 * 2 ^ (7 * i), 0, i + 1)) else vr (bs.drop (p + i + 1)) (i + 1) (acc + b % 128 * 2 ^ (7 * i))) := hide (by rw [HBV.out, if_neg hlong])
        have HQ : Hid (((i : Int) == 9) = false ∨ ((i : Int) == 9) = true ∧ decide ((1 : Int) < (b : Int)) = false ∧ b < 128) := by
          by_cases e9 : i = 9
          · exact .inr ⟨by simp; omega, decide_eq_false (by omega), by omega⟩
          · exact .inl (by simp; omega)
        clear hlong h18 HBV
        by_cases hbb : 128 ≤ b
        · have hb128 : ¬ (b : Int) < 128 := by omega
          have hi9 : i < 9 := by have h := HLO.out; omega
          have hq9 : ((i : Int) == 9) = false := by simp; omega
          have HE := hide (HB2.out.trans (if_neg (by omega)))
          go_wp2_with fail
          go_quiet (fail)
          go_wp2_with fail
          go_quiet (fail)
          go_wp2_with fail
          refine ⟨⟨i + 1, _, by simp, by rw [HV.out], HPW.out, by omega, by omega, HE.out, _, rfl⟩, ?_⟩
          simp [RowKit.intOf]; omega
        · have hblt : (b : Int) < 128 := by omega
          have HB3 := hide (HB2.out.trans (if_pos (by omega)))
          clear HB2
          by_cases hlo : b = 0 ∧ 0 < i
          · have hb0 : ((b : Int) == 0) = true := by simp; omega
            have hip : (0 : Int) < (i : Int) := by omega
            have HE := hide (HB3.out.trans (if_pos hlo))
            clear hlo
            rcases HQ.out with hq9 | ⟨hq9, hd1, _⟩
            · go_wp2_with fail
              go_quiet (fail)
              go_wp2_with fail
              go_quiet (fail)
              go_wp2
              all_goals first
                | (exfalso; omega)
                | (go_ret2; exact VQ.bad H.out HE.out (by first | exact below_drewN (Below.refl _ _) _ | exact below_drewN (below_drewN (Below.refl _ _) _) _))
            · go_wp2_with fail
              go_quiet (fail)
              go_wp2_with fail
              go_quiet (fail)
              go_wp2
              all_goals first
                | (exfalso; omega)
                | (go_ret2; exact VQ.bad H.out HE.out (by first | exact below_drewN (Below.refl _ _) _ | exact below_drewN (below_drewN (Below.refl _ _) _) _))
          · have HE := hide (HB3.out.trans (if_neg hlo))
            by_cases hbz : b = 0
            · have hb0 : ((b : Int) == 0) = true := by simp; omega
              have hiz : i ≤ 0 := by omega
              have hizi : ¬ (0 : Int) < (i : Int) := by omega
              have hq9 : ((i : Int) == 9) = false := by simp; omega
              have HBZ := hide hbz
              clear hbz hlo
              go_wp2_with fail
              go_quiet (fail)
              go_wp2_with fail
              go_quiet (fail)
              go_wp2
              all_goals first
                | (exfalso; omega)
                | (go_ret2; rw [HV.out]; exact VQ.good HE.out (RRd.on H.out (below_drewN (Below.refl _ _) _) _ (by push_cast; omega)))
            · have hb0 : ((b : Int) == 0) = false := by simp; omega
              have HBZ := hide hbz
              clear hbz hlo
              rcases HQ.out with hq9 | ⟨hq9, hd1, _⟩
              · go_wp2_with fail
                go_quiet (fail)
                go_wp2_with fail
                go_quiet (fail)
                go_wp2
                all_goals first
                  | (exfalso; omega)
                  | (go_ret2; rw [HV.out]; exact VQ.good HE.out (RRd.on H.out (below_drewN (Below.refl _ _) _) _ (by push_cast; omega)))
              · go_wp2_with fail
                go_quiet (fail)
                go_wp2_with fail
                go_quiet (fail)
                go_wp2
                all_goals first
                  | (exfalso; omega)
                  | (go_ret2; rw [HV.out]; exact VQ.good HE.out (RRd.on H.out (below_drewN (Below.refl _ _) _) _ (by push_cast; omega)))
    · have him' : (L : Int) ≤ (p : Int) + (i : Int) := by omega
      have HE := hide (HVR.out.trans (vr_end (by rw [← HL.out]; omega)))
      go_wp2_with fail
      go_quiet (fail)
      go_wp2
      go_ret2
      exact VQ.bad H.out HE.out (by first | exact below_drewN (Below.refl _ _) _ | exact below_drewN (below_drewN (Below.refl _ _) _) _)
end Go.Proofs.YtpfpelhhebafeaaDoor
