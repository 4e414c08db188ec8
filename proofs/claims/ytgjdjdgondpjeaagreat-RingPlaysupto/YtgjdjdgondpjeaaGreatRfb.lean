import Derived.Test.YtgjdjdgondpjeaaGreatRfa
import Derived.Deep.RegionHeld3
import Derived.BigQuiet
import Derived.Deep.QuietTactic
import Derived.Test.YtgjdjdgondpjeaaGreatRh
import Derived.Test.YtgjdjdgondpjeaaGreatHeB
import Derived.Deep.AppendLies
/- alike 12. -/
namespace Go.Proofs.YtgjdjdgondpjeaaGreat
open Go.RowKit Go.Lib
set_option linter.unusedVariables false
set_option linter.unusedSimpArgs false
section
variable {w wr wr' : World} {X ab gc Y Z n : Nat} {tb : Array Value} {gP cP gH cH : Nat} {qs ps : Nat → Nat} {b C : Nat} {Y2 rb rc gG cG : Nat} {rs : Nat → Nat} {lv : Value} {s : Ast} {vs : Nat → Value} {gs : Nat → Bool} {ds : Nat → Hs} {K : Nat} {lu : Value} {t : Ast} {us : Nat → Value} {es : Nat → Hs} {J : Nat}
set_option maxRecDepth 100000 in
set_option maxHeartbeats 4000000 in
theorem alike_any (h : PB w wr X ab gc Y Z n tb gP cP gH cH qs ps b C Y2 rb rc gG cG rs lv s vs gs ds K lu t us es J) {i : Nat} (hi : i < n) (he : ds i = es i) :
    Calls Tryz.prog 12 #[.pointer (some ⟨X, 0, none⟩), .int .i64 i] wr fun e w' => e = .returned (.bool true) ∧ Below wr.heap.size wr w' := by
  have n64 := h.rm.n64
  have hii : (i : Int) < (n : Int) := by omega
  obtain ⟨pb, hpb⟩ : ∃ pb, pb = decide ((ds i).ph = 0) := ⟨_, rfl⟩
  have HOV := hide (fun V (kb : Below wr.heap.size wr V) => (rm_over (h.rm.below kb) hi).mono fun e w' hh => (⟨by rw [hpb]; exact hh.1, by rw [hh.2]; exact Below.refl _ _⟩ : e = .returned (.bool pb) ∧ Below V.heap.size V w'))
  have HRO := hide (fun V (kb : Below wr.heap.size wr V) => (rs_over (h.rr.below kb) hi).mono fun e w' hh => (⟨by rw [hpb, he]; exact hh.1, by rw [hh.2]; exact Below.refl _ _⟩ : e = .returned (.bool pb) ∧ Below V.heap.size V w'))
  have HRP := hide (fun V (kb : Below wr.heap.size wr V) => rm_reply (h.rm.below kb) hi)
  have HRR := hide (fun V (kb : Below wr.heap.size wr V) => rs_reply (h.rr.below kb) hi)
  have HUS := hide (fun V (kb : Below wr.heap.size wr V) => ((h.rr.below kb).hd i hi).2)
  obtain ⟨st, hst⟩ : ∃ st, st = (ds i).st := ⟨_, rfl⟩
  obtain ⟨out, hout⟩ : ∃ o, o = (ds i).out := ⟨_, rfl⟩
  rw [← he] at HRR HUS
  rw [← hst] at HRR HRP
  rw [← hout] at HRP HUS
  have HCE := hide (fun V (kb : Below wr.heap.size wr V) => (⟨(h.below kb).cells, (h.below kb).at hi⟩ : _ ∧ _))
  obtain ⟨⟨x0, x1, x2, x3, x4, x5, x6⟩, y1, y2, y3⟩ := HCE.out wr (Below.refl _ _)
  obtain ⟨ua, uc, huu⟩ := owns_shape (HUS.out wr (Below.refl _ _))
  rw [huu] at HRR HUS
  clear h hst hout he hpb huu
  go_enter Tryz.func12, Tryz.ntmps12
  go_wp2_with fail
  refine (HRP.out _ (Below.refl _ _)).mono ?_
  rintro e w2 ⟨hb2, u, rfl, hu⟩
  obtain ⟨au, cu, rfl⟩ := owns_shape hu
  have HB2 := hide hb2; have HU2 := hide hu
  clear hb2 hu x0 x1 x2 x3 x4 x5 x6 y1 y2 y3
  obtain ⟨⟨x0, x1, x2, x3, x4, x5, x6⟩, y1, y2, y3⟩ := HCE.out w2 HB2.out
  go_upto_region 2 with fail
  obtain ⟨w3, hw3⟩ : ∃ w3, w3 = w2.alloc (.cells #[.int .i64 st, .slice au out.length cu] 71) := ⟨_, rfl⟩
  have hb3 : Below w2.heap.size w2 w3 := by rw [hw3]; exact below_alloc (Below.refl _ _) _
  have HZ3 := hide (show w3.heap[w2.heap.size]? = some (.cells #[.int .i64 st, .slice au out.length cu] 71 (0, 0)) by rw [hw3]; exact heap_new _ _)
  rw [← hw3]
  have HB3 := hide (below_on HB2.out hb3); have HU3 := hide (HU2.out.below hb3)
  generalize w2.heap.size = b1 at HZ3 ⊢
  clear hw3 hb3 HU2 x0 x1 x2 x3 x4 x5 x6 y1 y2 y3
  obtain ⟨⟨x0, x1, x2, x3, x4, x5, x6⟩, y1, y2, y3⟩ := HCE.out w3 HB3.out
  go_wp2_with fail
  refine (HRR.out _ HB3.out).mono ?_
  rintro e w4 ⟨rfl, hb4⟩
  have HB4 := hide (below_on HB3.out hb4); have HU4 := hide (HU3.out.below hb4)
  have HZ4 := hide ((hb4.block _ (lt_of_heap HZ3.out)).trans HZ3.out)
  clear hb4 HU3 HZ3 x0 x1 x2 x3 x4 x5 x6 y1 y2 y3
  go_upto_region 3 with fail
  obtain ⟨w5, hw5⟩ : ∃ w5, w5 = w4.alloc (.cells #[.int .i64 st, .slice ua out.length uc] 71) := ⟨_, rfl⟩
  have hb5 : Below w4.heap.size w4 w5 := by rw [hw5]; exact below_alloc (Below.refl _ _) _
  have hz5 : w5.heap[w4.heap.size]? = some (.cells #[.int .i64 st, .slice ua out.length uc] 71 (0, 0)) := by rw [hw5]; exact heap_new _ _
  rw [← hw5]
  have HB5 := hide (below_on HB4.out hb5)
  have hz6 := (hb5.block _ (lt_of_heap HZ4.out)).trans HZ4.out
  have HSM := hide (fun V (kb : Below w5.heap.size w5 V) => sameTasks_any _ _ out V ((HU4.out.below hb5).below kb).tat (HUS.out V (below_on HB5.out kb)).tat)
  obtain ⟨⟨x0, x1, x2, x3, x4, x5, x6⟩, y1, y2, y3⟩ := HCE.out w5 HB5.out
  have s0 := cell_of hz6 (i := 0) rfl; have s1 := cell_of hz6 (i := 1) rfl
  have t0 := cell_of hz5 (i := 0) rfl; have t1 := cell_of hz5 (i := 1) rfl
  generalize w4.heap.size = b2 at t0 t1 ⊢
  clear hw5 hb5 hz5 hz6 HB4 HU4 HZ4
  have v0 := gw_cell s0; have v1 := gw_cell s1; have v2 := gw_cell t0; have v3 := gw_cell t1; have v4 := gw_cell x4; have v5 := gw_cell x6; have v6 := gw_cell y2; have v7 := gw_cell y3
  have HO2 := hide (fun V (kb : Below w5.heap.size w5 V) => HOV.out V (below_on HB5.out kb)); have HO3 := hide (fun V (kb : Below w5.heap.size w5 V) => HRO.out V (below_on HB5.out kb))
  cases pb
  all_goals
    refine wp_region_gw (by kernel_rfl) (by kernel_rfl) ?_
    repeat (go_big_quiet_step (first
      | (go_at_call 22; exact gw_of (HO2.out _ (GW.bel _)))
      | (go_at_call 40; exact gw_of (HO3.out _ (GW.bel _)))
      | (go_at_call 21; exact gw_of (HSM.out _ (GW.bel _)))
      | rfl))
    refine wpQuiet_nil ?_
    intro _ hw'
    obtain ⟨x', hw''⟩ := hw'
    subst hw''
    clear v0 v1 v2 v3 v4 v5 v6 v7
    go_wp2_with fail
    go_ret
    exact ⟨rfl, below_on HB5.out x'.bel⟩
end
end Go.Proofs.YtgjdjdgondpjeaaGreat

/- The document's Held with handles. -/
namespace Go.Proofs.YtgjdjdgondpjeaaGreat
open Go.RowKit Go.Lib
set_option linter.unusedVariables false
set_option linter.unusedSimpArgs false
set_option maxRecDepth 100000 in
set_option maxHeartbeats 8000000 in
/-- The document's Held with handles. -/
theorem rheld_any {w0 : World} {Y Z rb rc m J : Nat} {lu : Value} {t : Ast} {gG cG : Nat} {rs : Nat → Nat} {us : Nat → Value} {es : Nat → Hs} (b C : Nat) (xs : List Int) (v : Value) (w : World) (hR : DS w0 w Y Z rb rc m lu t (.slice (some ⟨gG, 0, none⟩) m cG) rs us es b C J) (hm : m ≤ 64) (h : RowAt .u64 w v xs) (hw : Wds xs) (hc1 : 2 ≤ C) (hc2 : C ≤ 65536) (hbm : b + (2 + 3 * C) ≤ 16777216) (hlen : b + 2 + 3 * C ≤ xs.length) :
    Calls Tryz.prog 55 #[qAgg b C, v, .slice (some ⟨gG, 0, none⟩) m cG] w fun e w' => ∃ u, e = .returned u ∧ TOwn w' w.heap.size u (srt (fil b C xs C ++ hands b C xs es m)) ∧ Below w.heap.size w w' := by
  obtain ⟨g, o, c, rfl, hnc, _⟩ := h.cellAt 0 (by omega)
  have HX : Hid (∀ X, Below w.heap.size w X → ∀ i, i < xs.length → X.cell? ⟨g, o + i, none⟩ = some (.int .u64 (at_ xs i))) := fun X hX i hi => by
    obtain ⟨g', o', c', he, _, hcell⟩ := (h.below hX).cellAt i hi
    simp only [Value.slice.injEq, Option.some.injEq, Addr.mk.injEq, and_true, true_and] at he
    obtain ⟨⟨rfl, rfl⟩, rfl⟩ := he
    exact hcell
  obtain ⟨i0, hi, hz0, hz1, hz2⟩ := info_parts Tryz.info42
  have HDS := hide (fun V (kb : Below w.heap.size w V) => hR.below kb)
  have HAT := hide (fun V (kb : Below w.heap.size w V) (i : Nat) (hi : i < m) => own_at (hR.below kb).rg (ptrs_get rs hi) hi)
  clear hR
  have HW := hide hw
  have HQ := hide (qm_one w 23 b C)
  have HSO := hide (fun (d : List Tk) (hd : d.length ≤ 70000) v W h => sorted_any d.length d (Nat.le_refl _) (by omega) v W h)
  obtain ⟨n, hn⟩ : ∃ n, n = xs.length := ⟨_, rfl⟩
  rw [← hn] at hlen hnc HX ⊢
  have HN := hide hn
  clear h hw hn
  obtain ⟨hd, hhd⟩ : ∃ x, x = at_ xs (b + 1) := ⟨_, rfl⟩
  obtain ⟨tl, htl⟩ : ∃ x, x = at_ xs b := ⟨_, rfl⟩
  have HHD := hide hhd
  have HTL := hide htl
  clear hhd htl
  have HHT : Hid (∀ X, Below w.heap.size w X → X.cell? ⟨g, o + (b + 1), none⟩ = some (.int .u64 hd) ∧ X.cell? ⟨g, o + b, none⟩ = some (.int .u64 tl)) := fun X hX => ⟨by rw [HHD.out]; exact HX.out X hX _ (by omega), by rw [HTL.out]; exact HX.out X hX _ (by omega)⟩
  have i1 : (b : Int) + 1 < (n : Int) := by omega
  have i2 : (b : Int) < (n : Int) := by omega
  have hC0 : ¬ (C : Int) = 0 := by omega
  have hCb : ((C : Int) == 0) = false := by simpa using hC0
  have hCw : IntKind.u64.wrap (C : Int) = (C : Int) := IntWalk.u64_in _ (by omega)
  unfold qAgg
  obtain ⟨s0, s1⟩ := HQ.out.two
  obtain ⟨t0, t1⟩ := HHT.out _ HQ.out.bel
  go_enter Tryz.func55, Tryz.ntmps55
  go_wp2_with fail
  generalize (w.alloc (.cells #[.int .i64 (b : Int), .int .i64 (C : Int)] 23)) = w1 at HQ s0 s1 t0 t1 ⊢
  have HF0 : Hid (FR w b C (.slice none 0 0) (fil b C xs 0) w1) := hide ⟨HQ.out, TOwn.nil _ _⟩
  clear s0 s1 t0 t1 HQ
  go_loopw [7, 10] (fun u t wr => ∃ k : Nat, k ≤ C ∧ t = .int .i64 k ∧ FR w b C u (fil b C xs k) wr) (fun _ t _ => C - (RowKit.intOf t).toNat)
  case atStart => exact ⟨0, by omega, rfl, HF0.out⟩
  case round =>
    obtain ⟨k, hk, rfl, hfl⟩ := hrel
    clear HF0
    obtain ⟨s0, s1⟩ := hfl.m.two
    have HFL := hide hfl
    clear hfl
    by_cases hlt : k < C
    · have HFK : Hid (fil b C xs (k + 1) = if fkeep b C xs k then fil b C xs k ++ [(at_ xs (b + 2 + 3 * k + 1), at_ xs (b + 2 + 3 * k + 2))] else fil b C xs k) := hide rfl
      have HLE := hide (fil_length b C xs k)
      obtain ⟨d, hd'⟩ : ∃ d, d = fil b C xs k := ⟨_, rfl⟩
      rw [← hd'] at HFL HFK HLE
      clear hd'
      obtain ⟨I, hI⟩ : ∃ I, I = b + 2 + 3 * k := ⟨_, rfl⟩
      have eI : ((b : Int) + 2 + 3 * (k : Int)) = (I : Int) := by omega
      have hIn : I + 2 < n := by omega
      have HKP : Hid (fkeep b C xs k = decide (at_ xs I ≠ 0 ∧ (at_ xs I - 1) % (C : Int) = (k : Int) ∧ hd ≤ at_ xs I - 1 ∧ at_ xs I - 1 < tl)) := hide (by unfold fkeep; rw [HHD.out, HTL.out, hI])
      rw [← hI] at HFK
      obtain ⟨t, ht⟩ : ∃ t, t = at_ xs I := ⟨_, rfl⟩
      obtain ⟨x, hx⟩ : ∃ t, t = at_ xs (I + 1) := ⟨_, rfl⟩
      obtain ⟨y, hy⟩ : ∃ t, t = at_ xs (I + 2) := ⟨_, rfl⟩
      have hwt : 0 ≤ t ∧ t < 18446744073709551616 := by rw [ht]; exact HW.out I (by have := HN.out; omega)
      have HC3 : Hid (∀ X, Below w.heap.size w X → X.cell? ⟨g, o + I, none⟩ = some (.int .u64 t) ∧ X.cell? ⟨g, o + (I + 1), none⟩ = some (.int .u64 x) ∧ X.cell? ⟨g, o + (I + 2), none⟩ = some (.int .u64 y)) := fun X hX => ⟨by rw [ht]; exact HX.out X hX _ (by omega), by rw [hx]; exact HX.out X hX _ (by omega), by rw [hy]; exact HX.out X hX _ (by omega)⟩
      rw [← ht] at HKP
      rw [← hx, ← hy] at HFK
      have hb2 : b ≤ 16777216 := by omega
      clear hx hy ht hI
      obtain ⟨w1', w2'⟩ := hwt
      have j1 : (I : Int) < (n : Int) := by omega
      have j2 : (I : Int) + 1 < (n : Int) := by omega
      have j3 : (I : Int) + 2 < (n : Int) := by omega
      have hIb : (I : Int) ≤ 16777216 := by omega
      have hwr : IntKind.i64.wrap ((k : Int) + 1) = (k : Int) + 1 := IntWalk.i64_in _ (by omega)
      have hkw : IntKind.u64.wrap (k : Int) = (k : Int) := IntWalk.u64_in _ (by omega)
      obtain ⟨c0, c1, c2⟩ := HC3.out _ HFL.out.m.bel
      by_cases ht0 : t = 0
      · subst ht0
        have HE : Hid (fil b C xs (k + 1) = d) := hide (by rw [HFK.out, HKP.out]; simp)
        clear w1' w2'
        go_wp2_with fail
        go_roundw
        case rel => exact ⟨k + 1, by omega, by simp, by rw [HE.out]; exact HFL.out⟩
        case measure => simp [RowKit.intOf]; omega
      · obtain ⟨p, hp⟩ : ∃ p, p = t - 1 := ⟨_, rfl⟩
        have hwp : IntKind.u64.wrap (t - 1) = p := by rw [IntWalk.u64_in _ (by omega), hp]
        rw [← hp] at HKP
        obtain ⟨r, hr⟩ : ∃ r, r = p % (C : Int) := ⟨_, rfl⟩
        have p1 : 0 ≤ p := by omega
        have p2 : p < 18446744073709551616 := by omega
        rw [← hr] at HKP
        have r1 : 0 ≤ r := by rw [hr]; exact Int.emod_nonneg p hC0
        have r2 : r < C := by rw [hr]; exact Int.emod_lt_of_pos p (by omega)
        have hr' : p % (C : Int) = r := hr.symm
        have hT0 : (t == 0) = false := by simpa using ht0
        have HT0 := hide ht0
        clear hp hr
        by_cases q1 : r = (k : Int)
        · by_cases q2 : hd ≤ p
          · by_cases q3 : p < tl
            · have HE : Hid (fil b C xs (k + 1) = d ++ [(x, y)]) := hide (by rw [HFK.out, HKP.out, if_pos (by simp; exact ⟨HT0.out, q1, q2, q3⟩)])
              subst q1
              go_wp2_with fail
              have g1 : IntKind.i64.wrap ((I : Int) + 1) = (I : Int) + 1 := IntWalk.i64_in _ (by omega)
              have g2 : IntKind.i64.wrap ((I : Int) + 2) = (I : Int) + 2 := IntWalk.i64_in _ (by omega)
              have g3 : (0 : Int) ≤ (I : Int) + 1 := by omega
              have g5 : ((I : Int) + 2).toNat = I + 2 := by omega
              have g4 : (0 : Int) ≤ (I : Int) + 2 := by omega
              have hBZ : w.heap.size + 1 ≤ wr.heap.size := lt_of_heap HFL.out.m.bx
              have HPP : Hid (∀ X, Below wr.heap.size wr X → X.cell? ⟨g, o + (I + 1), none⟩ = some (.int .u64 x) ∧ X.cell? ⟨g, o + (I + 2), none⟩ = some (.int .u64 y)) := fun X hX => ⟨(HC3.out X (below_on HFL.out.m.bel hX)).2.1, (HC3.out X (below_on HFL.out.m.bel hX)).2.2⟩
              have HOS : Hid (wr.ownsRow (w.heap.size + 1) 42 2 u7 d.length (tCells d)) := hide HFL.out.own
              go_region_held3 (fun x' => x'.cell? ⟨g, o + (I + 1), none⟩ = some (.int .u64 x) ∧ x'.cell? ⟨g, o + (I + 2), none⟩ = some (.int .u64 y))
                (first | exact ⟨q0, q1⟩ | exact HPP.out _ (below_alloc (below_drew (Below.refl _ _)) _) | exact HPP.out _ (below_drew (below_alloc (Below.refl _ _) _)) | go_keep)
                ((refine step_append_lies _ (by rfl) _ _ _ (by rfl) (w.heap.size + 1) 42 i0 (.agg #[.int .u64 0, .int .u64 0]) 2 16 Tryz.underlying24 hi hz0 hz1 hz2 rfl (by omega) u7 d.length (tCells d) (by rfl) (by first | exact (HOS.out.alloc _).drew | exact HOS.out.drew.alloc _) ⟨wr.heap.size, 0, none⟩ 1 1 [.int .u64 x, .int .u64 y] (by rfl) (by rfl) (by first | exact two_at' wr _ _ _ | exact two_at wr.drew _ _ _) (by simp [Value.oneCell']) (by omega) (by have := HLE.out; unfold maxLen; omega) (by have := HLE.out; omega) (by simp; omega) (wr.heap.size + 1) (by simp) ?_; intro g6 cap6 w6 hownB hgrowB hatB hltB; have HR6 := hide (HFL.out.step (by first | exact below_drew (below_alloc (Below.refl _ _) _) | exact below_alloc (below_drew (Below.refl _ _)) _) hownB hgrowB); obtain ⟨_, q0, q1⟩ := HC3.out _ HR6.out.m.bel; clear hownB hgrowB hatB hltB))
              all_goals
                go_wp2
                go_roundw
                case rel => exact ⟨k + 1, by omega, by simp, by rw [HE.out]; exact HR6.out⟩
                case measure => simp [RowKit.intOf]; omega
            · have q3' : ¬ p < tl := q3
              have HE : Hid (fil b C xs (k + 1) = d) := hide (by rw [HFK.out, HKP.out, if_neg (by simp; intros; omega)])
              go_wp2_with fail
              go_roundw
              case rel => exact ⟨k + 1, by omega, by simp, by rw [HE.out]; exact HFL.out⟩
              case measure => simp [RowKit.intOf]; omega
          · have q2' : ¬ hd ≤ p := q2
            have HE : Hid (fil b C xs (k + 1) = d) := hide (by rw [HFK.out, HKP.out, if_neg (by simp; intros; omega)])
            go_wp2_with fail
            go_roundw
            case rel => exact ⟨k + 1, by omega, by simp, by rw [HE.out]; exact HFL.out⟩
            case measure => simp [RowKit.intOf]; omega
        · have q1' : (r == (k : Int)) = false := by simpa using q1
          have HE : Hid (fil b C xs (k + 1) = d) := hide (by rw [HFK.out, HKP.out, if_neg (by simp; intros; omega)])
          go_wp2_with fail
          go_roundw
          case rel => exact ⟨k + 1, by omega, by simp, by rw [HE.out]; exact HFL.out⟩
          case measure => simp [RowKit.intOf]; omega
    · obtain rfl : k = C := by omega
      have HLE := hide (fil_length b k xs k)
      have HT := hide HFL.out.own.tat
      obtain ⟨ao, cc, rfl, _, _⟩ := HT.out.shape
      go_wp2_with fail
      have HF1 : Hid (FR w b k (.slice ao (fil b k xs k).length cc) (fil b k xs k ++ hands b k xs es 0) wr) := hide (by show FR w b k _ (fil b k xs k ++ []) wr; rw [List.append_nil]; exact HFL.out)
      clear HT HFL s0 s1
      go_loopw [7, 14] (fun u t wr => ∃ j : Nat, j ≤ m ∧ t = .int .i64 j ∧ FR w b k u (fil b k xs k ++ hands b k xs es j) wr) (fun _ t _ => m - (RowKit.intOf t).toNat)
      case atStart => exact ⟨0, by omega, rfl, HF1.out⟩
      case round =>
        obtain ⟨j, hj, rfl, hfl⟩ := hrel
        clear HF1
        have HFL := hide hfl
        clear hfl
        have HL2 := hide (hands_len b k xs es j)
        by_cases hlt : j < m
        · have hjm : (j : Int) < (m : Int) := by omega
          have HHN : Hid (hands b k xs es (j + 1) = hands b k xs es j ++ hand b k xs (es j)) := hide rfl
          have HNL : Hid (fil b k xs k ++ hands b k xs es (j + 1) = (fil b k xs k ++ hands b k xs es j) ++ hand b k xs (es j)) := hide (by rw [HHN.out, List.append_assoc])
          have HLL : Hid ((fil b k xs k ++ hands b k xs es j).length ≤ 66000) := hide (by rw [List.length_append]; have := HLE.out; have := HL2.out; omega)
          have hh := (HDS.out wr HFL.out.m.bel).hd j hlt
          have hw12 := (HDS.out wr HFL.out.m.bel).hw j hlt
          have hpt := HAT.out wr HFL.out.m.bel j hlt
          have HQJ := hide (fun V (kb : Below w.heap.size w V) => ((HDS.out V kb).hd j hlt).1)
          have hbl := hh.1
          obtain ⟨⟨pl1, pl2⟩, _, _, ph12, _⟩ := hw12.1
          obtain ⟨put1, put2⟩ := hw12.2
          have HHD2 : Hid (hand b k xs (es j) = if 1 ≤ (es j).ph ∧ (es j).ph ≤ 6 then [(es j).t] else if 10 ≤ (es j).ph then [(nth xs (turnN b k (es j).place + 1), nth xs (turnN b k (es j).place + 2))] else []) := hide rfl
          generalize hD : es j = D at HNL HHD2 HQJ hbl pl1 pl2 ph12 put1 put2
          generalize hLs : fil b k xs k ++ hands b k xs es j = Ls at HFL HNL HLL
          unfold RHObj at hbl
          have c0 : wr.cell? ⟨rs j, 0, none⟩ = some (.int .i64 b) := cell_of hbl rfl
          have c1 : wr.cell? ⟨rs j, 1, none⟩ = some (.int .i64 k) := cell_of hbl rfl
          have c2 : wr.cell? ⟨rs j, 2, none⟩ = some (.int .i64 D.nx) := cell_of hbl rfl
          have c3 : wr.cell? ⟨rs j, 3, none⟩ = some (.bool D.put) := cell_of hbl rfl
          have c4 : wr.cell? ⟨rs j, 4, none⟩ = some (.int .u64 D.place) := cell_of hbl rfl
          have c5 : wr.cell? ⟨rs j, 5, none⟩ = some (.int .u64 D.t.1) := cell_of hbl rfl
          have c6 : wr.cell? ⟨rs j, 6, none⟩ = some (.int .u64 D.t.2) := cell_of hbl rfl
          have HTAT := hide HFL.out.own.tat
          obtain ⟨ao2, cc2, hu2, _, _⟩ := HTAT.out.shape
          subst hu2
          have hwr : IntKind.i64.wrap ((j : Int) + 1) = (j : Int) + 1 := IntWalk.i64_in _ (by omega)
          have HLn := hide (show D.ph ≤ 12 from ph12)
          clear hh hw12 hbl hD hLs HHN HL2 HTAT
          by_cases p0 : D.ph = 0
          · have hnx : D.nx = 0 := by unfold Hs.nx; rw [p0]; rfl
            rw [hnx] at c2
            have HE : Hid (hand b k xs D = []) := hide (by rw [HHD2.out, if_neg (by omega), if_neg (by omega)])
            generalize D.put = pt at c3
            clear hnx p0 put1 put2
            cases pt
            all_goals
              go_wp2_with fail
              go_roundw
              case rel => exact ⟨j + 1, by omega, by simp, by rw [HNL.out, HE.out, List.append_nil]; exact HFL.out⟩
              case measure => simp [RowKit.intOf]; omega
          · by_cases p6 : D.ph ≤ 6
            · have hput := put1 (by omega) p6
              rw [hput] at c3
              have HE : Hid (hand b k xs D = [D.t]) := hide (by rw [HHD2.out, if_pos (by omega)])
              obtain ⟨x, hx⟩ : ∃ x, x = D.t.1 := ⟨_, rfl⟩
              obtain ⟨y, hy⟩ : ∃ x, x = D.t.2 := ⟨_, rfl⟩
              have HXY : Hid (D.t = (x, y)) := hide (by rw [hx, hy])
              rw [← hx] at c5; rw [← hy] at c6
              obtain ⟨nn, hnn⟩ : ∃ q : Int, q = (D.nx : Int) := ⟨_, rfl⟩
              rw [← hnn] at c2
              have hn0 : (nn != 0) = true := by
                have : D.nx ≠ 0 := by unfold Hs.nx; split <;> omega
                simp; omega
              have HOS : Hid (wr.ownsRow (w.heap.size + 1) 42 2 (.slice ao2 Ls.length cc2) Ls.length (tCells Ls)) := hide HFL.out.own
              have hBZ : w.heap.size + 1 ≤ wr.heap.size := lt_of_heap HFL.out.m.bx
              have HC2 : Hid (∀ V, Below w.heap.size w V → V.cell? ⟨rs j, 2, none⟩ = some (.int .i64 nn) ∧ V.cell? ⟨rs j, 3, none⟩ = some (.bool true)) := hide (fun V kb => by
                have z := HQJ.out V kb
                unfold RHObj at z
                exact ⟨by rw [hnn]; exact cell_of z rfl, by rw [← hput]; exact cell_of z rfl⟩)
              clear hx hy hnn hput put1 put2 p0 p6
              by_cases n4 : (4 : Int) ≤ nn
              all_goals
                go_wp2_with (at_builtin; refine wpList_append_lies _ rfl (.tmp 100) (.tmp 105) 24 rfl (w.heap.size + 1) 42 i0 (.agg #[.int .u64 0, .int .u64 0]) 2 16 Tryz.underlying24 hi hz0 hz1 hz2 rfl (by omega) _ Ls.length (tCells Ls) rfl (HOS.out.alloc _) ⟨wr.heap.size, 0, none⟩ 1 1 [.int .u64 x, .int .u64 y] rfl rfl (two_at wr _ _ _) (by simp [Value.oneCell']) (by omega) (by have := HLL.out; unfold maxLen; omega) (by have := HLL.out; omega) (by simp; omega) (wr.heap.size + 1) (by simp) ?_; intro g6 cap6 w6 hownB hgrowB hatB hltB; have HR6 := hide (HFL.out.step (below_alloc (Below.refl _ _) _) hownB hgrowB); obtain ⟨z2, z3⟩ := HC2.out w6 HR6.out.m.bel; clear hownB hgrowB hatB hltB)
                go_roundw
                case rel => exact ⟨j + 1, by omega, by simp, by rw [HNL.out, HE.out, HXY.out]; exact HR6.out⟩
                case measure => simp [RowKit.intOf]; omega
            · have hput := put2 (by omega)
              rw [hput] at c3
              obtain ⟨nn, hnn⟩ : ∃ q : Int, q = (D.nx : Int) := ⟨_, rfl⟩
              rw [← hnn] at c2
              have hnx : D.nx = D.ph - 6 := by unfold Hs.nx; rw [if_neg p6]
              have hn0 : (nn != 0) = true := by simp; omega
              by_cases p10 : 10 ≤ D.ph
              · have n4 : (4 : Int) ≤ nn := by omega
                obtain ⟨pl, hpl⟩ : ∃ q, q = D.place := ⟨_, rfl⟩
                have HE : Hid (hand b k xs D = [(nth xs (turnN b k pl + 1), nth xs (turnN b k pl + 2))]) := hide (by rw [HHD2.out, if_neg (by omega), if_pos p10, hpl])
                rw [← hpl] at c4 pl1 pl2
                have htc : ((turnN b k pl : Nat) : Int) = (b : Int) + 2 + 3 * (pl % (k : Int)) := by
                  have := (slotN_lt (C := k) pl hc1).2
                  unfold turnN
                  omega
                have hTl : turnN b k pl + 2 < n := by have := (slotN_lt (C := k) pl hc1).1; unfold turnN; omega
                have hTm : turnN b k pl ≤ 16777216 := by have := (slotN_lt (C := k) pl hc1).1; unfold turnN; omega
                obtain ⟨I, hI⟩ : ∃ I, I = turnN b k pl := ⟨_, rfl⟩
                rw [← hI] at HE htc hTl hTm
                have HQJ2 : Hid (∀ V, Below w.heap.size w V → V.cell? ⟨rs j, 0, none⟩ = some (.int .i64 b) ∧ V.cell? ⟨rs j, 1, none⟩ = some (.int .i64 k) ∧ V.cell? ⟨rs j, 4, none⟩ = some (.int .u64 pl)) := hide (fun V kb => by
                  have z := HQJ.out V kb
                  unfold RHObj at z
                  exact ⟨cell_of z rfl, cell_of z rfl, by rw [hpl]; exact cell_of z rfl⟩)
                have HSL : Hid (∀ V, Below wr.heap.size wr V → Calls Tryz.prog 86 #[.pointer (some ⟨rs j, 0, none⟩)] V fun e w' => e = .returned (.int .i64 I) ∧ Below V.heap.size V w') := hide (fun V kb => by
                  obtain ⟨q0, q1, q4⟩ := HQJ2.out V (below_on HFL.out.m.bel kb)
                  have z := rslot_any (w := V) (q := rs j) (b := b) (C := k) pl (by omega) hc1 hc2 ⟨pl1, pl2⟩ q0 q1 q4
                  rw [← htc] at z
                  exact z)
                obtain ⟨x, hx⟩ : ∃ t, t = nth xs (I + 1) := ⟨_, rfl⟩
                obtain ⟨y, hy⟩ : ∃ t, t = nth xs (I + 2) := ⟨_, rfl⟩
                rw [← hx, ← hy] at HE
                have HC3 : Hid (∀ X, Below w.heap.size w X → X.cell? ⟨g, o + (I + 1), none⟩ = some (.int .u64 x) ∧ X.cell? ⟨g, o + (I + 2), none⟩ = some (.int .u64 y)) := fun X hX => ⟨by rw [hx]; exact HX.out X hX _ (by omega), by rw [hy]; exact HX.out X hX _ (by omega)⟩
                have HOS : Hid (wr.ownsRow (w.heap.size + 1) 42 2 (.slice ao2 Ls.length cc2) Ls.length (tCells Ls)) := hide HFL.out.own
                have hBZ : w.heap.size + 1 ≤ wr.heap.size := lt_of_heap HFL.out.m.bx
                have HS0 : Hid True := hide trivial
                have hIb : (I : Int) ≤ 16777216 := by omega
                have g1 : IntKind.i64.wrap ((I : Int) + 1) = (I : Int) + 1 := IntWalk.i64_in _ (by omega)
                have g2 : IntKind.i64.wrap ((I : Int) + 2) = (I : Int) + 2 := IntWalk.i64_in _ (by omega)
                have g3 : (0 : Int) ≤ (I : Int) + 1 := by omega
                have g4 : (0 : Int) ≤ (I : Int) + 2 := by omega
                have g5 : ((I : Int) + 1).toNat = I + 1 := by omega
                have g6' : ((I : Int) + 2).toNat = I + 2 := by omega
                have j2 : (I : Int) + 1 < (n : Int) := by omega
                have j3 : (I : Int) + 2 < (n : Int) := by omega
                obtain ⟨q0, q1⟩ := HC3.out wr HFL.out.m.bel
                clear hx hy hI hpl hnn hnx hput put1 put2 p0 p6 p10 htc pl1 pl2 hTm
                go_upto_region 20 with fail
                refine wp_region_noPanic ?_
                go_region_held3 (fun x' => x'.cell? ⟨g, o + (I + 1), none⟩ = some (.int .u64 x) ∧ x'.cell? ⟨g, o + (I + 2), none⟩ = some (.int .u64 y))
                  (first | exact ⟨q0, q1⟩ | exact HC3.out _ HFL4.out.m.bel | exact HC3.out _ HFL5.out.m.bel | exact HC3.out _ (below_alloc HFL5.out.m.bel _) | exact HC3.out _ (below_drew (below_alloc HFL5.out.m.bel _)) | exact HC3.out _ HR6.out.m.bel | go_keep)
                  (first
                    | (go_at_call 86; clear HS0; refine (HSL.out _ (below_drew (Below.refl _ _))).mono ?_; rintro e w4 ⟨rfl, hb4⟩; have HB4 := hide (below_on (a := wr) (below_drew (Below.refl _ _)) hb4); have HFL4 := hide (HFL.out.below HB4.out); clear hb4)
                    | (go_at_call 86; refine (HSL.out _ HB4.out).mono ?_; rintro e w5 ⟨rfl, hb5⟩; have HFL5 := hide (HFL4.out.below hb5); have hBZ5 : w.heap.size + 1 ≤ w5.heap.size := lt_of_heap HFL5.out.m.bx; clear hb5)
                    | (refine step_append_lies _ (by rfl) _ _ _ (by rfl) (w.heap.size + 1) 42 i0 (.agg #[.int .u64 0, .int .u64 0]) 2 16 Tryz.underlying24 hi hz0 hz1 hz2 rfl (by omega) (.slice ao2 Ls.length cc2) Ls.length (tCells Ls) (by rfl) (by first | exact World.ownsRow.alloc HFL5.out.own _ | exact (World.ownsRow.alloc HFL5.out.own _).drew) ⟨w5.heap.size, 0, none⟩ 1 1 [.int .u64 x, .int .u64 y] (by rfl) (by rfl) (by first | exact two_at w5 _ _ _ | exact two_at' w5 _ _ _) (by simp [Value.oneCell']) (by omega) (by have := HLL.out; unfold maxLen; omega) (by have := HLL.out; omega) (by simp; omega) (w5.heap.size + 1) (by simp) ?_; intro g6 cap6 w6 hownB hgrowB hatB hltB; have HR6 := hide (HFL5.out.step (by first | exact below_alloc (Below.refl _ _) _ | exact below_drew (below_alloc (Below.refl _ _) _)) hownB hgrowB); clear hownB hgrowB hatB hltB)
                    | fail)
                all_goals
                  refine NoPanic.normal ?_
                  go_wp2_with fail
                  go_roundw
                  case rel => exact ⟨j + 1, by omega, by simp, by rw [HNL.out, HE.out]; exact HR6.out⟩
                  case measure => simp [RowKit.intOf]; omega
              · have n4 : ¬ (4 : Int) ≤ nn := by omega
                have HE : Hid (hand b k xs D = []) := hide (by rw [HHD2.out, if_neg (by omega), if_neg p10])
                clear hnn hnx hput put1 put2 p0 p6 p10
                go_wp2_with fail
                go_roundw
                case rel => exact ⟨j + 1, by omega, by simp, by rw [HNL.out, HE.out, List.append_nil]; exact HFL.out⟩
                case measure => simp [RowKit.intOf]; omega
        · obtain rfl : j = m := by omega
          have HLL : Hid ((fil b k xs k ++ hands b k xs es j).length ≤ 70000) := hide (by rw [List.length_append]; have := HLE.out; have := HL2.out; omega)
          obtain ⟨Ls, hLs⟩ : ∃ Ls, Ls = fil b k xs k ++ hands b k xs es j := ⟨_, rfl⟩
          have HLS := hide hLs
          rw [← hLs] at HFL HLL
          clear hLs
          have HT := hide HFL.out.own.tat
          obtain ⟨ao2, cc2, hu2, _, _⟩ := HT.out.shape
          subst hu2
          have HSR := hide (HSO.out Ls HLL.out _ wr HT.out)
          clear HSO HT
          go_wp2_with fail
          refine HSR.out.mono ?_
          rintro e w3 ⟨u3, rfl, ht3, hb3⟩
          have HT3 := hide ht3; have HB3 := hide hb3
          obtain ⟨a3, c3, rfl, _⟩ := ht3.tat.shape
          clear ht3 hb3
          go_wp2_with fail
          go_ret
          refine ⟨.slice a3 (srt Ls).length c3, rfl, ?_, below_on HFL.out.m.bel HB3.out⟩
          rw [← HLS.out]
          exact own_lower HT3.out HFL.out.m.bel.size
end Go.Proofs.YtgjdjdgondpjeaaGreat

/- held 16. -/
namespace Go.Proofs.YtgjdjdgondpjeaaGreat
open Go.RowKit Go.Lib
set_option linter.unusedVariables false
set_option linter.unusedSimpArgs false
theorem hands_congr (b C : Nat) (xs : List Int) {ds es : Nat → Hs} : ∀ n, (∀ i, i < n → ds i = es i) → hands b C xs ds n = hands b C xs es n
  | 0, _ => rfl
  | n + 1, h => by
    show hands b C xs ds n ++ hand b C xs (ds n) = hands b C xs es n ++ hand b C xs (es n)
    rw [hands_congr b C xs n (fun i hi => h i (by omega)), h n (by omega)]
section
variable {w wr wr' : World} {X ab gc Y Z n : Nat} {tb : Array Value} {gP cP gH cH : Nat} {qs ps : Nat → Nat} {b C : Nat} {Y2 rb rc gG cG : Nat} {rs : Nat → Nat} {lv : Value} {s : Ast} {vs : Nat → Value} {gs : Nat → Bool} {ds : Nat → Hs} {K : Nat} {lu : Value} {t : Ast} {us : Nat → Value} {es : Nat → Hs} {J : Nat}
theorem PB.rcell (h : PB w wr X ab gc Y Z n tb gP cP gH cH qs ps b C Y2 rb rc gG cG rs lv s vs gs ds K lu t us es J) : wr.cell? ⟨rb, 0, none⟩ = some (.slice (some ⟨rc, 0, none⟩) t.cells.length t.cells.length) := cell_of h.rr.ar.hb rfl
theorem words_row {w : World} {g : Nat} {xs : List Int} (h : w.heap[g]? = some (wordsObj xs)) (hl : xs.length ≤ 16777216) : RowAt .u64 w (.slice (some ⟨g, 0, none⟩) xs.length xs.length) xs :=
  ⟨some ⟨g, 0, none⟩, xs.length, rfl, Nat.le_refl _, by omega, (fun e => by cases e), fun a ha i hi => by
    cases ha
    have := words_cell h i hi
    by_cases e : i = 0
    · subst e; simpa [Addr.add, nth] using this
    · simpa [Addr.add, nth, e] using this⟩
theorem wds_of {cs : List Int} (h : ∀ i, i < cs.length → W64 (nth cs i)) : Wds cs := fun i hi => h i hi
set_option maxRecDepth 100000 in
set_option maxHeartbeats 4000000 in
theorem lheld_chg (h : PB w wr X ab gc Y Z n tb gP cP gH cH qs ps b C Y2 rb rc gG cG rs lv s vs gs ds K lu t us es J) (he : ∀ i, i < n → ds i = es i) (hc : t.cells = s.cells) :
    Calls Tryz.prog 16 #[.pointer (some ⟨X, 0, none⟩)] wr fun e w' => e = .returned (.bool true) ∧ PB w w' X ab gc Y Z n tb gP cP gH cH qs ps b C Y2 rb rc gG cG rs lv s vs gs ds K lu t us es J ∧ Chg (PF ab gc qs ps n lv) wr w' := by
  have hcb := h.rr.cb
  rw [hc] at hcb
  have hlen := h.rm.ar.len
  have n64 := h.rm.n64
  have HPB := hide h
  have HWD := hide (wds_of h.rm.wd)
  have HCC := hide hc
  have HIM := hide (fun V (kb : Below wr.heap.size wr V) => rmx_image (h.below kb).rm)
  obtain ⟨x0, x1, x2, x3, x4, x5, x6⟩ := h.cells
  obtain ⟨G, hG⟩ : ∃ G, G = srt (fil b C s.cells C ++ hands b C s.cells ds n) := ⟨_, rfl⟩
  have HG := hide hG
  have HG2 : Hid (G = srt (fil b C s.cells C ++ hands b C s.cells es n)) := hide (by rw [hG, hands_congr b C s.cells n he])
  have HCB := hide hcb; have HLN := hide hlen
  have hb3 : b + (2 + 3 * C) ≤ 16777216 := by omega
  have HHL : Hid (∀ V v, PB w V X ab gc Y Z n tb gP cP gH cH qs ps b C Y2 rb rc gG cG rs lv s vs gs ds K lu t us es J → V.ownsRow wr.heap.size 40 1 v s.cells.length (s.cells.map (Value.int .u64)) → Calls Tryz.prog 20 #[.agg #[.int .i64 (b : Int), .int .i64 (C : Int)], v, .slice (some ⟨gH, 0, none⟩) n cH] V fun e w' => ∃ u, e = .returned (.tuple #[u, .int .i64 0]) ∧ TOwn w' V.heap.size u G ∧ Below V.heap.size V w') := hide (fun V v hB hv => by
    rw [hG]
    exact held_any hB.rm (fun j _ => ⟨rfl, rfl⟩) v s.cells (RowAt.of_owns hv) hcb.2.2 hlen HWD.out hcb.1 hcb.2.1 hb3)
  clear h hc hG he hcb hlen hb3
  go_enter Tryz.func16, Tryz.ntmps16
  go_upto_region 1 with fail
  refine wp_region_noPanic ?_
  go_region_held3 (fun x => x.cell? ⟨X, 0, none⟩ = some (.int .i64 b) ∧ x.cell? ⟨X, 1, none⟩ = some (.int .i64 C) ∧ x.cell? ⟨X, 2, none⟩ = some (.pointer (some ⟨ab, 0, none⟩)) ∧ x.cell? ⟨X, 4, none⟩ = some (.slice (some ⟨gH, 0, none⟩) n cH)) (first | exact ⟨x0, x1, x2, x4⟩ | exact ⟨y0, y1, y2, y4⟩ | exact ⟨z0, z1, z2, z4⟩ | go_keep)
    (first
      | (go_at_call 15; refine (HIM.out _ (below_drew (Below.refl _ _))).mono ?_; rintro e w2 ⟨v', rfl, ho, hrm, hk⟩; have HB2 := hide ((HPB.out.below (below_drew (Below.refl _ _))).pr hrm hk (.inl rfl)); have HQ2 : Hid (Chg (PF ab gc qs ps n lv) wr w2) := hide ((Chg.of_below (below_drew (Below.refl wr.heap.size wr))).trans hk); have HO := hide ho; obtain ⟨y0, y1, y2, y3, y4, y5, y6⟩ := HB2.out.cells; obtain ⟨o2, c2, rfl⟩ := owns_shape ho; clear ho hrm hk)
      | (go_at_call 20; refine (HHL.out _ _ HB2.out HO.out).mono ?_; rintro e w3 ⟨u3, rfl, ht3, hbq⟩; have HT3 := hide ht3; have HQ3 := hide (HQ2.out.trans (Chg.of_below hbq)); have HB3 := hide (HB2.out.below hbq); obtain ⟨z0, z1, z2, z3, z4, z5, z6⟩ := HB3.out.cells; obtain ⟨a3, c3, rfl, _⟩ := ht3.tat.shape; clear ht3 hbq)
      | fail)
  all_goals
    refine NoPanic.normal ?_
    have r0 := HB3.out.rcell
    have hcl : t.cells.length = s.cells.length := by rw [HCC.out]
    rw [hcl] at r0
    have HRH := hide (fun V (kb : Below w3.heap.size w3 V) => rheld_any b C s.cells (.slice (some ⟨rc, 0, none⟩) s.cells.length s.cells.length) V (HB3.out.below kb).rr n64.2 (by
      have z := (HB3.out.below kb).rr.ar.hc
      rw [HCC.out] at z
      exact words_row z HLN.out) HWD.out HCB.out.1 HCB.out.2.1 (by have := HCB.out; have := HLN.out; omega) HCB.out.2.2)
    rw [← HG2.out] at HRH
    unfold qAgg at HRH
    clear x0 x1 x2 x3 x4 x5 x6 y0 y1 y2 y3 y4 y5 y6 hcl HB2 HO HPB HIM
    go_upto_region 2 with fail
    refine wp_region_noPanic ?_
    go_region_held3 (fun x => x.cell? ⟨X, 0, none⟩ = some (.int .i64 b) ∧ x.cell? ⟨X, 1, none⟩ = some (.int .i64 C) ∧ x.cell? ⟨X, 4, none⟩ = some (.slice (some ⟨gH, 0, none⟩) n cH) ∧ x.cell? ⟨X, 5, none⟩ = some (.pointer (some ⟨rb, 0, none⟩)) ∧ x.cell? ⟨X, 6, none⟩ = some (.slice (some ⟨gG, 0, none⟩) n cG) ∧ x.cell? ⟨rb, 0, none⟩ = some (.slice (some ⟨rc, 0, none⟩) s.cells.length s.cells.length)) (first | exact ⟨z0, z1, z4, z5, z6, r0⟩ | exact ⟨y0, y1, y4, y5, y6, r1⟩ | exact ⟨x0, x1, x4, x5, x6, r2⟩ | go_keep)
      (first
        | (go_at_call 55; refine (HRH.out _ (below_drew (Below.refl _ _))).mono ?_; rintro e w4 ⟨u4, rfl, ht4, hb4⟩; have HT4 := hide ht4; have HT3b := hide (HT3.out.below (below_on (a := w3) (below_drew (Below.refl _ _)) hb4)); have HB4 := hide (HB3.out.below (below_on (a := w3) (below_drew (Below.refl _ _)) hb4)); obtain ⟨y0, y1, y2, y3, y4, y5, y6⟩ := HB4.out.cells; have r1 : w4.cell? ⟨rb, 0, none⟩ = some (.slice (some ⟨rc, 0, none⟩) s.cells.length s.cells.length) := (by rw [← show t.cells.length = s.cells.length by rw [HCC.out]]; exact HB4.out.rcell); have HQ4 := hide (HQ3.out.trans (Chg.of_below (below_on (a := w3) (below_drew (Below.refl _ _)) hb4))); obtain ⟨a4, c4, rfl, _⟩ := ht4.tat.shape; clear ht4 hb4)
        | (go_at_call 21; refine (sameTasks_any _ _ G _ HT3b.out.tat HT4.out.tat).mono ?_; rintro e w5 ⟨rfl, hb5⟩; have HQ5 := hide (HQ4.out.trans (Chg.of_below hb5)); have HB5 := hide (HB4.out.below hb5); obtain ⟨x0, x1, x2, x3, x4, x5, x6⟩ := HB5.out.cells; have r2 : w5.cell? ⟨rb, 0, none⟩ = some (.slice (some ⟨rc, 0, none⟩) s.cells.length s.cells.length) := (by rw [← show t.cells.length = s.cells.length by rw [HCC.out]]; exact HB5.out.rcell); clear hb5)
        | fail)
    all_goals
      refine NoPanic.normal ?_
      go_wp2_with fail
      go_ret
      exact ⟨rfl, HB5.out, HQ5.out⟩
theorem lheld_any (h : PB w wr X ab gc Y Z n tb gP cP gH cH qs ps b C Y2 rb rc gG cG rs lv s vs gs ds K lu t us es J) (he : ∀ i, i < n → ds i = es i) (hc : t.cells = s.cells) :
    Calls Tryz.prog 16 #[.pointer (some ⟨X, 0, none⟩)] wr fun e w' => e = .returned (.bool true) ∧ PB w w' X ab gc Y Z n tb gP cP gH cH qs ps b C Y2 rb rc gG cG rs lv s vs gs ds K lu t us es J :=
  (lheld_chg h he hc).mono fun e w' hh => ⟨hh.1, hh.2.1⟩
end
end Go.Proofs.YtgjdjdgondpjeaaGreat
