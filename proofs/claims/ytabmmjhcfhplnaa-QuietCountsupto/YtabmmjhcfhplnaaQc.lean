/- QuietCounts: the walk. -/
import Derived.Test.YtabmmjhcfhplnaaQb2
import Derived.Deep.Cut
import Derived.Deep.CutBlock
import Derived.Deep.AppendLies
import Derived.Deep.RegionHeld3
import Derived.Deep.OwnRows
namespace Go.Proofs.Ytabmmjhcfhplnaa
open Go.RowKit Go.Lib
set_option linter.unusedVariables false
set_option linter.unusedSimpArgs false
theorem Try.info30' : (Try.prog.info? 30).map (fun i => (i.zero, i.size, i.bytes)) = some (some (.pointer none), 1, 8) := by kernel_rfl
theorem Try.info3' : (Try.prog.info? 3).map (fun i => (i.zero, i.size, i.bytes)) = some (some (.int .i64 0), 1, 8) := by kernel_rfl
theorem Try.info27' : (Try.prog.info? 27).map (fun i => (i.zero, i.size, i.bytes)) = some (some (.int .u64 0), 1, 8) := by kernel_rfl
theorem Try.info4' : (Try.prog.info? 4).map (fun i => (i.zero, i.size, i.bytes)) = some (some (.bool false), 1, 1) := by kernel_rfl
theorem info_parts3 {o : Option TypeInfo} {a : Option Value} {b c : Nat} (h : o.map (fun i => (i.zero, i.size, i.bytes)) = some (a, b, c)) : ∃ i, o = some i ∧ i.zero = a ∧ i.size = b ∧ i.bytes = c := by
  obtain ⟨i, hi, hz⟩ := Option.map_eq_some_iff.1 h
  simp only [Prod.mk.injEq] at hz
  exact ⟨i, hi, hz⟩
theorem one_cell (w : World) (x : Value) (t : TypeId) : ∀ j u, [x][j]? = some u → (w.alloc (.cells #[x] t)).cell? ((⟨w.heap.size, 0, none⟩ : Addr).add j) = some u := by
  intro j u hj
  have hh : (w.alloc (.cells #[x] t)).heap[w.heap.size]? = some (.cells #[x] t (0, 0)) := heap_new _ _
  rw [Addr.add_lit]
  match j, hj with
  | 0, hj => simp at hj; subst hj; exact cell_of hh rfl
theorem tmod_in (x : Int) (n : Nat) (hn : 0 < n) : -(n : Int) < x.tmod n ∧ x.tmod n < n := by
  have hp : (0 : Int) < n := by omega
  have h2 := Int.tmod_lt_of_pos x hp
  refine ⟨?_, h2⟩
  rcases Int.le_total 0 x with h | h
  · have := Int.tmod_nonneg (n : Int) h; omega
  · have h3 := Int.tmod_lt_of_pos (-x) hp
    rw [Int.neg_tmod] at h3
    omega
theorem LM.below {w5 wr wr' : World} {b gc G : Nat} {s : Ast} {bl : List Nat} {ms : List Mk} {qs : List QOp} {bg : List Bool} (h : LM w5 wr b gc G s bl ms qs bg) (hb : Below wr.heap.size wr wr') : LM w5 wr' b gc G s bl ms qs bg :=
  ⟨h.q.below hb, (hb.block _ (lt_of_heap h.g)).trans h.g, h.chg.trans (Chg.of_below hb), h.ql⟩
theorem three_row {w : World} {B : Nat} {v : Value} {C : List Int} (h : w.ownsRow B 27 1 v C.length (C.map (Value.int .u64))) (h3 : C.length = 3) : ∃ g c, v = .slice (some ⟨g, 0, none⟩) 3 c ∧ 3 ≤ c ∧ w.cell? ⟨g, 0, none⟩ = some (.int .u64 (nth C 0)) ∧ w.cell? ⟨g, 1, none⟩ = some (.int .u64 (nth C 1)) ∧ w.cell? ⟨g, 2, none⟩ = some (.int .u64 (nth C 2)) := by
  have key : ∀ i, i < C.length → ∃ g c, v = .slice (some ⟨g, 0, none⟩) C.length c ∧ C.length ≤ c ∧ w.cell? ⟨g, i, none⟩ = some (.int .u64 (nth C i)) := fun i hi => row_keeps (S := fun _ => False) h (Chg.refl _ _) (fun _ _ _ _ _ _ => id) i hi (by simp [nth, List.getD, hi])
  obtain ⟨g, c, rfl, hc, h0⟩ := key 0 (by omega)
  obtain ⟨g1, c1, e1, _, h1⟩ := key 1 (by omega)
  obtain ⟨g2, c2, e2, _, h2⟩ := key 2 (by omega)
  cases e1
  cases e2
  exact ⟨g, c, by rw [h3], by omega, h0, h1, h2⟩
theorem wrap_less (x : Int) : IntKind.u64.wrap (x - 1) = IntKind.u64.wrap (x + 18446744073709551615) := by
  have h : ∀ y, IntKind.u64.wrap y = y % 18446744073709551616 := fun y => by simp [IntKind.wrap, IntKind.bits, IntKind.signed]
  rw [h, h]
  omega
theorem ptrs_one (bl : List Nat) : (ptrs bl).length = bl.length := by simp [ptrs]
theorem PM.push' {w0 w w3 w4 : World} {Y0 b gc q kk : Nat} {xs : List Int} {ov ov' : Value} {bl : List Nat} {ms : List Mk} {m : Mk} (h : PM w0 w Y0 b gc xs ov bl ms) (hkk : ms.length = kk) (hb : Below w.heap.size w w3) (hq : w3.heap[q]? = some (mkOp m).obj) (hql : w.heap.size ≤ q) (h1 : w4.ownsRow Y0 30 1 ov' (kk + 1) (ptrs bl ++ [.pointer (some ⟨q, 0, none⟩)])) (h2 : w3.grownBy w4 ov.ownBlock) : PM w0 w4 Y0 b gc xs ov' (bl ++ [q]) (ms ++ [m]) := by
  subst hkk; exact h.push hb hq hql h1 h2
theorem KM.pushK' {w3 w x y : World} {kv cv kv' : Value} {ks cs : List Int} {a : Int} {kk : Nat} (h : KM w3 w kv cv ks cs) (hk : ks.length = kk) (hb : Below w.heap.size w x) (h1 : y.ownsRow w3.heap.size 3 1 kv' (kk + 1) (ks.map (Value.int .i64) ++ [.int .i64 a])) (h2 : x.grownBy y kv.ownBlock) : KM w3 y kv' cv (ks ++ [a]) cs := by
  subst hk; exact h.pushK hb h1 h2
theorem KM.pushC' {w3 w x y : World} {kv cv cv' : Value} {ks cs : List Int} {a : Int} {kk : Nat} (h : KM w3 w kv cv ks cs) (hk : cs.length = kk) (hb : Below w.heap.size w x) (h1 : y.ownsRow w3.heap.size 27 1 cv' (kk + 1) (cs.map (Value.int .u64) ++ [.int .u64 a])) (h2 : x.grownBy y cv.ownBlock) : KM w3 y kv cv' ks (cs ++ [a]) := by
  subst hk; exact h.pushC hb h1 h2
theorem pm_start {w w1 : World} {B : Nat} {xs : List Int} (ha : AIs w1 (B + 2) (B + 1) B (.slice none 0 0) (Ast.laid xs)) (hb : Below w.heap.size w w1) (hB : w.heap.size ≤ B) : PM w w1 (B + 2) (B + 1) B xs (.slice none 0 0) [] [] :=
  ⟨ha, World.ownsRow_nil _ _ _ _, rfl, fun k hk => absurd hk (Nat.not_lt_zero _), fun i j _ hj => absurd hj (Nat.not_lt_zero _), fun k hk => absurd hk (Nat.not_lt_zero _), hb, by omega, by omega, hB⟩
theorem mdec {i n : Nat} (h : i < n) : n - (RowKit.intOf (.int .i64 ((i : Int) + 1))).toNat < n - (RowKit.intOf (.int .i64 (i : Int))).toNat := by
  simp [RowKit.intOf]; omega
set_option maxRecDepth 100000 in
set_option maxHeartbeats 16000000 in
theorem counts_law (pend fault : Int) (hp : 0 ≤ pend ∧ pend < 18446744073709551616) (v pv : Value) (l : List Mk) (pl : List Int) (w : World) (hM : MAt w v l) (hI : IAt w pv pl) (hl : l.length ≤ 1048576) (hpl : pl.length ≤ 1048576) :
    Calls Try.prog 4 #[.int .u64 pend, .int .u64 fault, v, pv] w fun e w' => e = .returned (.bool true) ∧ Below w.heap.size w w' := by
  obtain ⟨i30, hi30, hz0, hz1, hz2⟩ := info_parts3 Try.info30'
  obtain ⟨i3, hi3, hy0, hy1, hy2⟩ := info_parts3 Try.info3'
  obtain ⟨i27, hi27, hx0, hx1, hx2⟩ := info_parts3 Try.info27'
  obtain ⟨i4, hi4, hv0, hv1, hv4⟩ := info_parts3 Try.info4'
  obtain ⟨ao, c, rfl, hc1, hc2, hc3⟩ := id hM
  obtain ⟨po, pc, rfl, hd1, hd2, hd3⟩ := id hI
  have HM := hide hM
  have HI := hide hI
  have HPR := hide hp
  obtain ⟨n, hn⟩ : ∃ n, n = l.length := ⟨_, rfl⟩
  obtain ⟨np, hnp⟩ : ∃ n, n = pl.length := ⟨_, rfl⟩
  rw [← hn] at hl hc1 ⊢
  rw [← hnp] at hpl hd1 ⊢
  have HN := hide hn
  have HNP := hide hnp
  have HL := hide hl
  have HPL := hide hpl
  have HTW := hide (fun W => three_words W pend 0 fault)
  clear hM hI hc3 hd3 hn hnp hl hpl hp
  go_enter Try.func4, Try.ntmps4
  go_upto_region 6 with (first
    | (go_at_call 6; refine (live_any _).mono ?_; rintro e w1 ⟨rfl, h1⟩; have HB1 := hide h1; clear h1)
    | (go_at_call 8; (refine (laid_any _ _ [pend, 0, fault] (HTW.out w1) (by simp)).mono ?_; rintro e w2 ⟨rfl, h1, h2⟩; have HPM0 := hide (pm_start (w := w) h1 (below_on HB1.out (below_on (below_alloc (Below.refl _ _) _) h2)) (by have := HB1.out.size; simp; omega)); clear h1 h2))
    | fail)
  rw [World.size_alloc] at HPM0
  obtain ⟨b, hb⟩ : ∃ b, b = w1.heap.size + 1 + 1 := ⟨_, rfl⟩
  obtain ⟨gc, hgc⟩ : ∃ gc, gc = w1.heap.size + 1 := ⟨_, rfl⟩
  obtain ⟨Y0, hY0⟩ : ∃ Y0, Y0 = w1.heap.size + 1 + 2 := ⟨_, rfl⟩
  rw [← hb, ← hY0, ← hgc] at HPM0
  rw [← hb]
  clear hb hgc hY0 HTW
  go_upto_region 8 with fail
  go_loopw [10, 11] (fun ov t wr => ∃ (i : Nat) (bl : List Nat), i ≤ n ∧ t = .int .i64 i ∧ PM w wr Y0 b gc [pend, 0, fault] ov bl (flt l i)) (fun _ t _ => n - (RowKit.intOf t).toNat)
  case atStart => exact ⟨0, [], by omega, rfl, by simpa [flt] using HPM0.out⟩
  case round =>
    obtain ⟨i, bl, hin, rfl, hpm⟩ := hrel
    clear HPM0
    have HP := hide hpm
    clear hpm
    by_cases hlt : i < n
    · have hil : i < l.length := by rw [← HN.out]; exact hlt
      have hmb := HM.out.below HP.out.bel
      obtain ⟨ao2, c2, hv2, _, _, h3⟩ := hmb
      obtain ⟨g, o, he, e0, e1⟩ := h3 i hil
      simp only [Value.slice.injEq] at hv2
      obtain ⟨hv2, hvl, hvc⟩ := hv2
      clear hvl hvc
      subst hv2
      subst he
      have HIL := hide hil
      have HMD := hide (made_any wr 0 (mAt l i).1 (mAt l i).2 ⟨by decide, by decide⟩)
      unfold MadeM at HMD
      obtain ⟨x, hx⟩ : ∃ x, x = (mAt l i).1 := ⟨_, rfl⟩
      obtain ⟨y, hy⟩ : ∃ y, y = (mAt l i).2 := ⟨_, rfl⟩
      rw [← hx] at e0 HMD
      rw [← hy] at e1 HMD
      have HX := hide (And.intro hx hy)
      have hic : i < c := by omega
      have hilt : (i : Int) < (n : Int) := by omega
      have HSZ := hide HL.out
      clear hx hy h3 hil
      by_cases hbad : mkPh x = 4 ∧ y = 0
      · have HMB : Hid (Calls Try.prog 15 #[.agg #[.int .i64 0], .agg #[.int .i64 x, .int .u64 y]] wr fun e w' => e = .returned (.tuple #[.pointer none, .int .i64 60]) ∧ Below wr.heap.size wr w') := HMD.out.mono (fun e w' h => by
          rcases h with ⟨_, _, he, hb⟩ | ⟨hn, _⟩
          · exact ⟨he, hb⟩
          · exact absurd hbad hn)
        have HFL : Hid (flt l (i + 1) = flt l i) := flt_neg HIL.out (by rw [← HX.out.1, ← HX.out.2]; exact hbad)
        clear HMD hbad
        go_wp2_with (first
          | (go_at_call 15; refine HMB.out.mono ?_; rintro e w3 ⟨rfl, h1⟩; have HP2 := hide (HP.out.below h1); clear h1 HMB)
          | fail)
        have hwi : wrap64 ((i : Int) + 1) = (i : Int) + 1 := IntWalk.wrap64_in _ (by have := HSZ.out; omega)
        try rw [hwi]
        go_roundw
        case rel => exact ⟨i + 1, bl, Nat.succ_le_of_lt hlt, rfl, by rw [HFL.out]; exact HP2.out⟩
        case measure => exact mdec hlt
      · have HMB : Hid (Calls Try.prog 15 #[.agg #[.int .i64 0], .agg #[.int .i64 x, .int .u64 y]] wr (Made1 wr 0 (mkCode x y) (mkPh x))) := HMD.out.mono (fun e w' h => by
          rcases h with ⟨a, b, _⟩ | ⟨_, hm⟩
          · exact absurd ⟨a, b⟩ hbad
          · exact hm)
        have HFL : Hid (flt l (i + 1) = flt l i ++ [(x, y)]) := by
          have := flt_pos HIL.out (by rw [← HX.out.1, ← HX.out.2]; exact hbad)
          rw [show mAt l i = (x, y) from by rw [HX.out.1, HX.out.2]] at this
          exact this
        have HFN := hide (flt_len l i)
        obtain ⟨k, hk⟩ : ∃ k, (flt l i).length = k := ⟨_, rfl⟩
        rw [hk] at HFN
        have HK := hide hk
        have HKB : Hid (k ≤ 1048576) := by have := HFN.out; have := HSZ.out; have : k ≤ 1048576 := by omega
                                           exact this
        clear HMD hbad hk
        go_wp2_with (first
          | (go_at_call 15; refine HMB.out.mono ?_; rintro e w3 ⟨q, rfl, h1, h2, h3⟩; have HQ1 := hide h1; have HQ2 := hide h2; have HQ3 := hide h3; have hrw := (HP.out.below h3).row; rw [HK.out] at hrw; have HRW := hide hrw; have HYW : Hid (Y0 ≤ w3.heap.size) := ((HP.out.below h3).ar.yw); clear h1 h2 h3 hrw HMB)
          | (at_builtin; refine wpList_append_lies _ rfl (.tmp 55) (.tmp 57) 46 rfl Y0 30 i30 (.pointer none) 1 8 Try.underlying46 hi30 hz0 hz1 hz2 rfl (by omega) u10 k (ptrs bl) rfl (HRW.out.alloc _) ⟨w3.heap.size, 0, none⟩ 1 1 [.pointer (some ⟨q, 0, none⟩)] rfl rfl (one_cell w3 _ _) (by simp [Value.oneCell']) (by omega) (by have := HKB.out; unfold maxLen; omega) (by have := HKB.out; omega) (by have := HYW.out; simp; omega) (w3.heap.size + 1) (by simp) ?_; intro g5 cap5 w5 hownB hgrowB hatB hltB; have HB5 := hide (HP.out.push' (m := (x, y)) HK.out (below_on HQ3.out (below_alloc (Below.refl _ _) _)) (heap_old HQ1.out _) HQ2.out hownB hgrowB); rw [← HFL.out] at HB5; clear hownB hgrowB hatB hltB)
          | fail)
        have hwi : wrap64 ((i : Int) + 1) = (i : Int) + 1 := IntWalk.wrap64_in _ (by have := HSZ.out; omega)
        try rw [hwi]
        go_roundw
        case rel => exact ⟨i + 1, bl ++ [q], Nat.succ_le_of_lt hlt, rfl, HB5.out⟩
        case measure => exact mdec hlt
    · obtain rfl : i = n := by omega
      have hfin := HP.out
      obtain ⟨ms, hms⟩ : ∃ ms, ms = flt l i := ⟨_, rfl⟩
      rw [← hms] at hfin
      have HPF := hide hfin
      have HMS := hide hms
      clear hfin HP hms
      obtain ⟨w3, rfl⟩ : ∃ w3, w3 = wr := ⟨_, rfl⟩
      have HK0 := hide (KM.start w3)
      have HNB := hide HL.out
      go_upto_region 18 with fail
      go_loopw [14, 15, 16] (fun kv cv t w4 => ∃ j : Nat, j ≤ i ∧ t = .int .i64 j ∧ KM w3 w4 kv cv ((flt l j).map (·.1)) ((flt l j).map (·.2))) (fun _ _ t _ => i - (RowKit.intOf t).toNat)
      case atStart => exact ⟨0, by omega, rfl, by simpa [flt] using HK0.out⟩
      case round =>
        obtain ⟨j, hji, rfl, hkm⟩ := hrel
        clear HK0
        have HK := hide hkm
        clear hkm
        by_cases hlt2 : j < i
        · have hjl : j < l.length := by rw [← HN.out]; exact hlt2
          have hmb := HM.out.below (below_on HPF.out.bel HK.out.bel)
          obtain ⟨ao2, c2, hv2, _, _, h3⟩ := hmb
          obtain ⟨g, o, he, e0, e1⟩ := h3 j hjl
          simp only [Value.slice.injEq] at hv2
          obtain ⟨hv2, hvl, hvc⟩ := hv2
          clear hvl hvc
          subst hv2
          subst he
          have HJL := hide hjl
          obtain ⟨x, hx⟩ : ∃ x, x = (mAt l j).1 := ⟨_, rfl⟩
          obtain ⟨y, hy⟩ : ∃ y, y = (mAt l j).2 := ⟨_, rfl⟩
          rw [← hx] at e0
          rw [← hy] at e1
          have HX := hide (And.intro hx hy)
          have hjc : j < c := by omega
          have hjlt : (j : Int) < (i : Int) := by omega
          have HSZ := hide HL.out
          clear hx hy h3 hjl
          have hg3 : g < w3.heap.size := by
            obtain ⟨ao3, c3, hv3, _, _, h3⟩ := HM.out.below HPF.out.bel
            simp only [Value.slice.injEq] at hv3
            obtain ⟨g', o', he', p0, _⟩ := h3 j HJL.out
            rw [← hv3.1] at he'
            cases he'
            exact block_of_cell p0
          have HCE : Hid (∀ X, Below w3.heap.size w3 X → X.cell? ⟨g, o + j * 2, none⟩ = some (.int .i64 x) ∧ X.cell? ⟨g, o + j * 2 + 1, none⟩ = some (.int .u64 y)) := fun X hX => ⟨((below_cell hX hg3).trans (below_cell HK.out.bel hg3).symm).trans e0, ((below_cell hX hg3).trans (below_cell HK.out.bel hg3).symm).trans e1⟩
          clear hg3
          go_upto_region 20 with fail
          go_cut [86] from 65 to 86 (fun t wx => t = .bool (okM (x, y)) ∧ wr = wx)
          case first =>
            by_cases hx1 : 1 ≤ x
            · by_cases hx3 : x ≤ 3
              · have ho : okM (x, y) = true := by
                  have : mkPh x ≠ 4 := by unfold mkPh; split; decide; split; decide; split; decide; omega
                  simp [okM, this]
                go_wp2_with fail
                go_meet
                case rel => exact ⟨by rw [ho], rfl⟩
              · have hm : mkPh x = 4 := by unfold mkPh; rw [if_neg (by omega), if_neg (by omega), if_neg (by omega)]
                by_cases hy : y = 0
                · have ho : okM (x, y) = false := by simp [okM, hm, hy]
                  have hyb : (y != 0) = false := by simp [hy]
                  clear hy
                  go_wp2_with fail
                  go_meet
                  case rel => exact ⟨by rw [ho], rfl⟩
                · have ho : okM (x, y) = true := by simp [okM, hy]
                  have hyb : (y != 0) = true := by simp [hy]
                  clear hy
                  go_wp2_with fail
                  go_meet
                  case rel => exact ⟨by rw [ho], rfl⟩
            · have hm : mkPh x = 4 := by unfold mkPh; rw [if_neg (by omega), if_neg (by omega), if_neg (by omega)]
              by_cases hy : y = 0
              · have ho : okM (x, y) = false := by simp [okM, hm, hy]
                have hyb : (y != 0) = false := by simp [hy]
                clear hy
                go_wp2_with fail
                go_meet
                case rel => exact ⟨by rw [ho], rfl⟩
              · have ho : okM (x, y) = true := by simp [okM, hy]
                have hyb : (y != 0) = true := by simp [hy]
                clear hy
                go_wp2_with fail
                go_meet
                case rel => exact ⟨by rw [ho], rfl⟩
          case rest =>
            obtain ⟨rfl, rfl⟩ := hcut
            have HWJ : Hid (wrap64 ((j : Int) + 1) = (j : Int) + 1) := IntWalk.wrap64_in _ (by have := HSZ.out; omega)
            have HFN := hide (flt_len l j)
            have HKB : Hid ((flt l j).length ≤ 1048576) := Nat.le_trans HFN.out (Nat.le_trans hji HSZ.out)
            rcases Bool.eq_false_or_eq_true (okM (x, y)) with hok | hok
            rotate_left
            · rw [hok]
              have hbad : mkPh (mAt l j).1 = 4 ∧ (mAt l j).2 = 0 := by
                rw [← HX.out.1, ← HX.out.2]
                simp [okM] at hok
                exact hok
              have HFL : Hid (flt l (j + 1) = flt l j) := flt_neg HJL.out hbad
              clear hok hbad
              go_wp2_with fail
              try rw [HWJ.out]
              go_roundw
              case rel => exact ⟨j + 1, Nat.succ_le_of_lt hlt2, rfl, by rw [HFL.out]; exact HK.out⟩
              case measure => exact mdec hlt2
            · rw [hok]
              have hgood : ¬ (mkPh (mAt l j).1 = 4 ∧ (mAt l j).2 = 0) := by
                rw [← HX.out.1, ← HX.out.2]
                intro h
                simp [okM, h.1, h.2] at hok
              have HFL : Hid (flt l (j + 1) = flt l j ++ [(x, y)]) := by
                have := flt_pos HJL.out hgood
                rw [show mAt l j = (x, y) from by rw [HX.out.1, HX.out.2]] at this
                exact this
              obtain ⟨k, hk⟩ : ∃ k, (flt l j).length = k := ⟨_, rfl⟩
              rw [hk] at HKB
              have HKK : Hid (((flt l j).map (·.1)).length = k ∧ ((flt l j).map (·.2)).length = k) := ⟨by simpa using hk, by simpa using hk⟩
              have hrk := HK.out.k
              have hrc := HK.out.c
              rw [HKK.out.1] at hrk
              rw [HKK.out.2] at hrc
              have HRK := hide hrk
              have HYW : Hid (w3.heap.size ≤ wr.heap.size) := HK.out.bel.size
              clear hok hgood hk hrk hrc
              go_wp2_with (first
                | (at_builtin; refine wpList_append_lies _ rfl (.tmp 87) (.tmp 93) 22 rfl w3.heap.size 3 i3 (.int .i64 0) 1 8 Try.underlying22 hi3 hy0 hy1 hy2 rfl (by omega) u14 k (((flt l j).map (·.1)).map (Value.int .i64)) rfl (HRK.out.alloc _) ⟨wr.heap.size, 0, none⟩ 1 1 [.int .i64 x] rfl rfl (one_cell wr _ _) (by simp [Value.oneCell']) (by omega) (by have := HKB.out; unfold maxLen; omega) (by have := HKB.out; omega) (by have := HYW.out; simp; omega) (wr.heap.size + 1) (by simp) ?_; intro g5 cap5 w5 hownB hgrowB hatB hltB; have HB5 := hide (HK.out.pushK' HKK.out.1 (below_alloc (Below.refl _ _) _) hownB hgrowB); clear e0 e1; obtain ⟨e0, e1⟩ := HCE.out _ HB5.out.bel; have hrc := HB5.out.c; rw [HKK.out.2] at hrc; have HRC := hide hrc; have HYW5 : Hid (w3.heap.size ≤ w5.heap.size) := HB5.out.bel.size; clear hownB hgrowB hatB hltB HRK hrc)
                | (at_builtin; refine wpList_append_lies _ rfl (.tmp 95) (.tmp 101) 28 rfl w3.heap.size 27 i27 (.int .u64 0) 1 8 Try.underlying28 hi27 hx0 hx1 hx2 rfl (by omega) u15 k (((flt l j).map (·.2)).map (Value.int .u64)) rfl (HRC.out.alloc _) ⟨w5.heap.size, 0, none⟩ 1 1 [.int .u64 y] rfl rfl (one_cell w5 _ _) (by simp [Value.oneCell']) (by omega) (by have := HKB.out; unfold maxLen; omega) (by have := HKB.out; omega) (by have := HYW5.out; simp; omega) (w5.heap.size + 1) (by simp) ?_; intro g6 cap6 w6 hownB hgrowB hatB hltB; have HB6 := hide (HB5.out.pushC' HKK.out.2 (below_alloc (Below.refl _ _) _) hownB hgrowB); clear hownB hgrowB hatB hltB HRC HB5)
                | fail)
              try rw [HWJ.out]
              go_roundw
              case rel => exact ⟨j + 1, Nat.succ_le_of_lt hlt2, rfl, by rw [HFL.out, List.map_append, List.map_append]; exact HB6.out⟩
              case measure => exact mdec hlt2
        · obtain rfl : j = i := by omega
          have hkm := HK.out
          rw [← HMS.out] at hkm
          have HLS0 := hide (ls_start (by simp) HPF.out hkm)
          have hml : ms.length ≤ 1048576 := by rw [HMS.out]; exact Nat.le_trans (flt_len l j) HL.out
          have HML := hide hml
          obtain ⟨oo, co, hov⟩ := owns_shape HPF.out.row
          obtain ⟨ok, ck, hkv⟩ := owns_shape hkm.k
          obtain ⟨oc, cc, hcv⟩ := owns_shape hkm.c
          rw [List.length_map] at hkv hcv
          obtain ⟨nm, hnm⟩ : ∃ nm, nm = ms.length := ⟨_, rfl⟩
          rw [← hnm] at hov hkv hcv HML HLS0
          subst hov
          subst hkv
          subst hcv
          have HNM := hide hnm
          have HBW := hide (below_on HPF.out.bel (below_on HK.out.bel (below_alloc (Below.refl wr.heap.size wr) (.cells (madeCells #[.bool false] nm) 4))))
          have HGW : Hid (w.heap.size ≤ wr.heap.size) := Nat.le_trans HPF.out.bel.size HK.out.bel.size
          have HB0 := hide (And.intro HPF.out.b0 (And.intro HPF.out.g0 HPF.out.y0))
          have HLO := hide HPF.out.lo
          clear hkm hnm HK hml
          go_upto_region 30 with (first
            | (at_make; go_loud (refine wpList_make_row _ rfl _ _ 53 rfl 4 i4 (.bool false) Try.underlying53 hi4 hv0 hv1 rfl _ _ nm rfl rfl (by rw [hv4]; have := HML.out; omega) (by have := HML.out; omega) ?_))
            | fail)
          obtain ⟨G, hG⟩ : ∃ G, G = wr.heap.size := ⟨_, rfl⟩
          rw [← hG] at HLS0 HGW
          rw [← hG]
          generalize (wr.alloc (Obj.cells (madeCells #[Value.bool false] nm) 4)) = w5 at HLS0 HBW ⊢
          have HLS := hide HLS0.out
          have HL0 := hide HLS.out.start
          have HI0 := hide (inv_start ms pend fault)
          clear hG HLS0
          go_loopw [18, 19, 20, 21] (fun t18 t19 t20 t wl => ∃ (a : Nat) (s : Ast) (qs : List QOp) (bg : List Bool) (want first : Int) (zero : Bool), a ≤ np ∧ t18 = .int .u64 want ∧ t19 = .int .u64 first ∧ t20 = .bool zero ∧ t = .int .i64 a ∧ LM w5 wl b gc G s bl ms qs bg ∧ Inv ms s qs bg want first zero ∧ s.log.length ≤ a) (fun _ _ _ t _ => np - (RowKit.intOf t).toNat)
          case atStart => exact ⟨0, _, _, _, _, _, _, by omega, rfl, rfl, rfl, rfl, HL0.out, HI0.out, Nat.le_refl _⟩
          case round =>
            obtain ⟨a, s, qs, bg, want, first, zero, han, rfl, rfl, rfl, rfl, hlm, hinv, hlog⟩ := hrel
            clear HL0 HI0
            have HLM := hide hlm
            have HINV := hide hinv
            have HLOG := hide hlog
            clear hlm hinv hlog
            by_cases hgo : a < np ∧ 0 < nm
            · obtain ⟨ha1, hn0⟩ := hgo
              have ha2 : (a : Int) < (np : Int) := by omega
              have hn2 : (0 : Int) < (nm : Int) := by omega
              have hn3 : ¬ nm = 0 := by omega
              have hn4 : ((nm : Int) == 0) = false := by simpa using hn3
              have hn5 : ¬ (nm : Int) = 0 := by omega
              have hal : a < pl.length := by rw [← HNP.out]; exact ha1
              obtain ⟨po2, pc2, hv2, _, _, h3⟩ := HI.out.below (HLM.out.bel HBW.out HB0.out.1 HB0.out.2.1 HGW.out (fun j hj => Nat.le_trans HB0.out.2.2 (HLO.out j hj)))
              obtain ⟨gp, op', he, e0⟩ := h3 a hal
              simp only [Value.slice.injEq] at hv2
              obtain ⟨hv2, hvl, hvc⟩ := hv2
              clear hvl hvc
              subst hv2
              subst he
              obtain ⟨x, hx⟩ : ∃ x, x = nth pl a := ⟨_, rfl⟩
              rw [← hx] at e0
              have hapc : a < pc := by omega
              clear hx h3 hal
              go_upto_if 132 with fail
              have HTM := hide (tmod_in x nm hn0)
              go_cut [22] from 124 to 136 (fun t wx => ∃ k : Nat, k < nm ∧ t = .int .i64 k ∧ wr = wx)
              case first =>
                obtain ⟨t1, t2⟩ := HTM.out
                have HMLB := HML.out
                obtain ⟨y, hy⟩ : ∃ y, y = x.tmod nm := ⟨_, rfl⟩
                rw [← hy] at t1 t2 ⊢
                by_cases hneg : y < 0
                · have hwy : wrap64 (y + nm) = y + nm := IntWalk.wrap64_in _ (by omega)
                  have HWY := hide hwy
                  clear hwy hy
                  go_wp2_with fail
                  try rw [HWY.out]
                  go_meet
                  case rel => exact ⟨(y + nm).toNat, by omega, by rw [Int.toNat_of_nonneg (by omega)], rfl⟩
                · clear hy
                  go_wp2_with fail
                  go_meet
                  case rel => exact ⟨y.toNat, by omega, by rw [Int.toNat_of_nonneg (by omega)], rfl⟩
              case rest =>
                obtain ⟨k, hk, rfl, rfl⟩ := hcut
                have hkm : k < ms.length := by rw [← HNM.out]; exact hk
                have HKM := hide hkm
                have hLM := HLM.out
                obtain ⟨gk, c1, hkv, _, hkc⟩ := HLS.out.kinds (hLM.mark HLS.out k true).chg k hkm
                obtain ⟨gq, c2, hcv, _, hcc⟩ := HLS.out.codes (hLM.mark HLS.out k true).chg k hkm
                obtain ⟨go_, c3, hov, _, hoc⟩ := HLS.out.ops hLM.chg k hkm
                simp only [Value.slice.injEq] at hkv hcv hov
                obtain ⟨hkv, q1, q2⟩ := hkv
                obtain ⟨hcv, q3, q4⟩ := hcv
                obtain ⟨hov, q5, q6⟩ := hov
                clear q1 q2 q3 q4 q5 q6
                subst hkv
                subst hcv
                subst hov
                have hbl : k < bg.length := by rw [HINV.out.bl]; exact hkm
                have hbc := hLM.g.cell k hbl
                have hbf := free_of hLM.g k
                have hklt : (k : Int) < (nm : Int) := by omega
                clear hLM hkm
                go_upto_if 141 with fail
                go_cut [18, 19, 20] from 137 to 169 (fun t18 t19 t20 wx => ∃ (bg' : List Bool) (want' first' : Int) (zero' : Bool), t18 = .int .u64 want' ∧ t19 = .int .u64 first' ∧ t20 = .bool zero' ∧ LM w5 wx b gc G s bl ms qs bg' ∧ ∀ who, Inv ms (stS who 0 s (qd qs k)) (qs.set k (stO 0 s (qd qs k))) bg' want' first' zero')
                case first =>
                  rcases Bool.eq_false_or_eq_true (bgt bg k) with hb | hb
                  · rw [hb]
                    have HE := hide (fun who => HINV.out.again (who := who) HKM.out hb)
                    clear hb hbc hbf hkc hcc hoc
                    go_wp2_with fail
                    go_meet
                    case rel => exact ⟨bg, want, first, zero, rfl, rfl, rfl, HLM.out, HE.out⟩
                  · rw [hb]
                    have HMK := hide (HLM.out.mark HLS.out k true)
                    have HE1 := hide (fun who hm => HINV.out.begin1 (who := who) HKM.out hb hm)
                    have HE2 := hide (fun who hm => HINV.out.begin2 (who := who) HKM.out hb hm)
                    have HE3 := hide (fun who hm => HINV.out.begin3 (who := who) HKM.out hb hm)
                    have HE4 := hide (fun who h1 h2 h3 => HINV.out.begin4 (who := who) HKM.out hb h1 h2 h3)
                    obtain ⟨kx, hkx⟩ : ∃ kx, kx = (mAt ms k).1 := ⟨_, rfl⟩
                    obtain ⟨cx, hcx⟩ : ∃ cx, cx = (mAt ms k).2 := ⟨_, rfl⟩
                    rw [← hkx] at hkc HE1 HE2 HE3 HE4
                    rw [← hcx] at hcc HE4
                    clear hkx hcx hb hoc
                    by_cases k1 : kx = 1
                    · have hb1 : (kx == 1) = true := by simp [k1]
                      have HKX := hide k1
                      clear k1
                      go_wp2_with fail
                      go_meet
                      case rel => exact ⟨bg.set k true, _, first, zero, rfl, rfl, rfl, HMK.out, fun who => HE1.out who HKX.out⟩
                    by_cases k2 : kx = 2
                    · have hb2 : (kx == 2) = true := by simp [k2]
                      have nb1 : (kx == 1) = false := by simp [k2]
                      have HKX := hide k2
                      clear k2 k1
                      have hws : IntKind.u64.wrap (want - 1) = IntKind.u64.wrap (want + 18446744073709551615) := wrap_less want
                      have HWS := hide hws
                      clear hws
                      rcases Bool.eq_false_or_eq_true zero with hz | hz
                      · subst hz
                        go_wp2_with fail
                        go_meet
                        case rel => exact ⟨bg.set k true, IntKind.u64.wrap (want + 18446744073709551615), first, true, by rw [HWS.out], rfl, rfl, HMK.out, fun who => HE2.out who HKX.out⟩
                      · subst hz
                        go_wp2_with fail
                        go_meet
                        case rel => exact ⟨bg.set k true, IntKind.u64.wrap (want + 18446744073709551615), first, (want == 1), by rw [HWS.out], rfl, rfl, HMK.out, fun who => by have := HE2.out who HKX.out; rw [Bool.false_or] at this; exact this⟩
                    by_cases k3 : kx = 3
                    · have hb3 : (kx == 3) = true := by simp [k3]
                      have nb1 : (kx == 1) = false := by simp [k3]
                      have nb2 : (kx == 2) = false := by simp [k3]
                      have HKX := hide k3
                      clear k3 k1 k2
                      go_wp2_with fail
                      go_meet
                      case rel => exact ⟨bg.set k true, want, first, zero, rfl, rfl, rfl, HMK.out, fun who => HE3.out who HKX.out⟩
                    have b1 : (kx == 1) = false := by simp [k1]
                    have b2 : (kx == 2) = false := by simp [k2]
                    have b3 : (kx == 3) = false := by simp [k3]
                    have HE := hide (fun who => HE4.out who k1 k2 k3)
                    clear k1 k2 k3
                    by_cases hf : first = 0
                    · subst hf
                      go_wp2_with fail
                      go_meet
                      case rel => exact ⟨bg.set k true, want, cx, zero, rfl, rfl, rfl, HMK.out, fun who => by have := HE.out who; simpa using this⟩
                    · have hfb : (first == 0) = false := by simp [hf]
                      have HFF := hide hf
                      clear hf
                      go_wp2_with fail
                      go_meet
                      case rel => exact ⟨bg.set k true, want, first, zero, rfl, rfl, rfl, HMK.out, fun who => by have := HE.out who; rw [if_neg HFF.out] at this; exact this⟩
                case rest =>
                  obtain ⟨bg', want', first', zero', rfl, rfl, rfl, hlm2, hin2⟩ := hcut
                  have HL2 := hide (hlm2.below (below_drew (Below.refl _ _)))
                  have HIN2 := hide hin2
                  have hoc2 := (hlm2.chg)
                  have HOC : Hid (∀ X, Chg (SL b gc G w5.heap.size ms.length bl) w5 X → X.cell? ⟨go_, k, none⟩ = some (.pointer (some ⟨gd bl k, 0, none⟩))) := fun X hX => by
                    obtain ⟨g, c9, hv, _, hc⟩ := HLS.out.ops hX k HKM.out
                    simp only [Value.slice.injEq, Option.some.injEq, Addr.mk.injEq] at hv
                    obtain ⟨⟨e1, _⟩, _⟩ := hv
                    rw [e1]; exact hc
                  have oc0 := HOC.out _ hoc2
                  have HQL : Hid (k < qs.length) := by rw [hlm2.ql]; exact HKM.out
                  have HBIG : Hid ((s.log.length + 1) * 64 ≤ 140737488355328) := by
                    have h1 := HLOG.out
                    have h2 := HPL.out
                    show (s.log.length + 1) * 64 ≤ 140737488355328
                    omega
                  clear hlm2 hin2 hoc2 hbc hbf hkc hcc hoc
                  go_upto_region 46 with fail
                  go_region_held3 (fun X => X.cell? ⟨go_, k, none⟩ = some (.pointer (some ⟨gd bl k, 0, none⟩))) (first | go_keep | exact HC8.out | exact HC7.out)
                    (first
                    | (go_at_call 10; refine (qm_granted (who := (k : Int)) HL2.out.q (by omega)).mono ?_; rintro e w7 ⟨p, rfl, h1, h2⟩; have HG7 := hide h1; have HL7 := hide (HL2.out.look HLS.out h1.q h2); have HC7 := hide (HOC.out _ HL7.out.chg); clear h1 h2)
                    | (go_at_call 11; refine (qm_step (k := k) HG7.out HQL.out HBIG.out).mono ?_; rintro e w8 ⟨rfl, h1, h2⟩; have HL8 := hide (HL7.out.step HLS.out HKM.out h1 (by rw [List.length_set]) h2); have HC8 := hide (HOC.out _ HL8.out.chg); clear h1 h2))
                  all_goals
                    have hin3 := HIN2.out (k : Int)
                    have HIN3 := hide hin3
                    have HLG := hide (stS_log (k : Int) 0 s (qd qs k))
                    obtain ⟨s2, hs2⟩ : ∃ s2, s2 = stS (k : Int) 0 s (qd qs k) := ⟨_, rfl⟩
                    rw [← hs2] at HIN3 HL8 HLG
                    obtain ⟨qs2, hq2⟩ : ∃ qs2, qs2 = qs.set k (stO 0 s (qd qs k)) := ⟨_, rfl⟩
                    rw [← hq2] at HIN3 HL8
                    clear hin3 hs2 hq2 HIN2 HG7 HL7 HC7 HC8 HL2 oc0
                    go_upto_region 48 with (first
                      | (go_at_call 16; refine (qm_image HL8.out.q).mono ?_; rintro e w9 ⟨v9, rfl, h0, h1, h2⟩; have HL9 := hide (HL8.out.look HLS.out h1 h2); obtain ⟨gi, ci, rfl, hci, d0, d1, d2⟩ := three_row h0 HIN3.out.clen; rw [HIN3.out.c0] at d0; rw [HIN3.out.c2] at d2; clear h0 h1 h2)
                      | fail)
                    have hbw : (want' != want') = false := by simp
                    have hbf : (first' != first') = false := by simp
                    have HFIN : Hid (LM w5 w9 b gc G s2 bl ms qs2 bg' ∧ Inv ms s2 qs2 bg' want' first' zero' ∧ s2.log.length ≤ a + 1) := ⟨HL9.out, HIN3.out, Nat.le_trans HLG.out (Nat.succ_le_succ HLOG.out)⟩
                    have hc1 := HIN3.out.c1
                    obtain ⟨v1, hv1⟩ : ∃ v1, v1 = nth s2.cells 1 := ⟨_, rfl⟩
                    rw [← hv1] at d1 hc1
                    clear hv1
                    rcases hc1 with hz | hz
                    · subst hz
                      rcases Bool.eq_false_or_eq_true zero' with hzz | hzz <;> subst hzz
                      all_goals
                        go_wp2_with fail
                        try rw [show wrap64 ((a : Int) + 1) = (a : Int) + 1 from IntWalk.wrap64_in _ (by have := HPL.out; omega)]
                        go_roundw
                        case rel => exact ⟨a + 1, s2, qs2, bg', want', first', _, Nat.succ_le_of_lt ha1, rfl, rfl, rfl, rfl, HFIN.out.1, HFIN.out.2.1, HFIN.out.2.2⟩
                        case measure => exact mdec ha1
                    · subst hz
                      rcases Bool.eq_false_or_eq_true (v1 != 0) with hvb | hvb
                      all_goals
                        go_wp2_with fail
                        try rw [show wrap64 ((a : Int) + 1) = (a : Int) + 1 from IntWalk.wrap64_in _ (by have := HPL.out; omega)]
                        go_roundw
                        case rel => exact ⟨a + 1, s2, qs2, bg', want', first', true, Nat.succ_le_of_lt ha1, rfl, rfl, rfl, rfl, HFIN.out.1, HFIN.out.2.1, HFIN.out.2.2⟩
                        case measure => exact mdec ha1
            · have HEND := hide (HLM.out.bel HBW.out HB0.out.1 HB0.out.2.1 HGW.out (fun j hj => Nat.le_trans HB0.out.2.2 (HLO.out j hj)))
              by_cases ha1 : a < np
              · have hn0 : nm = 0 := by omega
                have ha2 : (a : Int) < (np : Int) := by omega
                subst hn0
                go_wp2_with fail
                go_ret
                exact ⟨rfl, HEND.out⟩
              · have ha2 : ¬ (a : Int) < (np : Int) := by omega
                have ha3 : ¬ a < np := ha1
                go_wp2_with fail
                go_ret
                exact ⟨rfl, HEND.out⟩
end Go.Proofs.Ytabmmjhcfhplnaa
