/- The reference's Held 17 without handles: the sorted tasks of the same slots. -/
import Derived.Test.YtgjdjdgondpjeaaGreatTo
import Derived.Test.YtgjdjdgondpjeaaGreatFi
import Derived.Test.YtgjdjdgondpjeaaGreatSoT
import Derived.Deep.AppendLies
import Derived.Deep.RegionHeld3
namespace Go.Proofs.YtgjdjdgondpjeaaGreat
open Go.RowKit Go.Lib
set_option linter.unusedVariables false
set_option linter.unusedSimpArgs false
structure FR (w : World) (b C : Nat) (u : Value) (d : List Tk) (X : World) : Prop where
  m : QM w w.heap.size 23 b C X
  own : TOwn X (w.heap.size + 1) u d
theorem FR.below {w X Y : World} {b C : Nat} {u : Value} {d : List Tk} (h : FR w b C u d X) (hb : Below X.heap.size X Y) : FR w b C u d Y := ⟨h.m.below hb, h.own.below hb⟩
theorem FR.step {w X Y w' : World} {b C : Nat} {v v' : Value} {d : List Tk} {x y : Int} (h : FR w b C v d X) (hb : Below X.heap.size X Y)
    (hown : w'.ownsRow (w.heap.size + 1) 42 2 v' (d.length + 1) (tCells d ++ [.int .u64 x, .int .u64 y])) (hgrow : Y.grownBy w' v.ownBlock) : FR w b C v' (d ++ [(x, y)]) w' := by
  have hlt := World.ownsRow.lt h.own
  have hm := h.m.below hb
  have hk : ∀ k, v.ownBlock = some k → w.heap.size + 1 ≤ k := fun k e => (hlt k e).1
  refine ⟨⟨(hgrow.block _ (lt_of_heap hm.bx) (fun e => ?_)).trans hm.bx, hm.bel.grown hgrow hm.bel.size (fun j hj => ?_), Nat.le_refl _⟩, ?_⟩
  · have := hk _ e.symm; omega
  · have := hk _ hj; omega
  · unfold TOwn; rw [tCells_snoc]; simpa using hown
theorem two_at' (w : World) (x y : Value) (t : TypeId) : ∀ j u, [x, y][j]? = some u → (w.alloc (.cells #[x, y] t)).drew.cell? ((⟨w.heap.size, 0, none⟩ : Addr).add j) = some u := fun j u h => two_at w x y t j u h
set_option maxRecDepth 100000 in
set_option maxHeartbeats 8000000 in
/-- The reference's Held without handles. -/
theorem refHeld_any (b C : Nat) (xs : List Int) (v : Value) (w : World) (h : RowAt .u64 w v xs) (hw : Wds xs) (hc1 : 2 ≤ C) (hc2 : C ≤ 65536) (hbm : b + (2 + 3 * C) ≤ 16777216) (hlen : b + 2 + 3 * C ≤ xs.length) :
    Calls Tryz.prog 55 #[qAgg b C, v, .slice none 0 0] w fun e w' => ∃ u, e = .returned u ∧ TOwn w' w.heap.size u (srt (fil b C xs C)) ∧ Below w.heap.size w w' := by
  obtain ⟨g, o, c, rfl, hnc, _⟩ := h.cellAt 0 (by omega)
  have HX : Hid (∀ X, Below w.heap.size w X → ∀ i, i < xs.length → X.cell? ⟨g, o + i, none⟩ = some (.int .u64 (at_ xs i))) := fun X hX i hi => by
    obtain ⟨g', o', c', he, _, hcell⟩ := (h.below hX).cellAt i hi
    simp only [Value.slice.injEq, Option.some.injEq, Addr.mk.injEq, and_true, true_and] at he
    obtain ⟨⟨rfl, rfl⟩, rfl⟩ := he
    exact hcell
  obtain ⟨i0, hi, hz0, hz1, hz2⟩ := info_parts Tryz.info42
  have HW := hide hw
  have HQ := hide (qm_one w 23 b C)
  have HSO := hide (fun (d : List Tk) (hd : d.length ≤ 65536) v W h => sorted_any d.length d (Nat.le_refl _) (by omega) v W h)
  obtain ⟨n, hn⟩ : ∃ n, n = xs.length := ⟨_, rfl⟩
  rw [← hn] at hlen hnc HX ⊢
  have HN := hide hn
  clear h hw hn
  obtain ⟨hd, hhd⟩ : ∃ x, x = at_ xs (b + 1) := ⟨_, rfl⟩
  obtain ⟨tl, htl⟩ : ∃ x, x = at_ xs b := ⟨_, rfl⟩
  have HHD := hide hhd
  have HTL := hide htl
  clear hhd htl
  have HHT : Hid (∀ X, Below w.heap.size w X → X.cell? ⟨g, o + (b + 1), none⟩ = some (.int .u64 hd) ∧ X.cell? ⟨g, o + b, none⟩ = some (.int .u64 tl)) := fun X hX => ⟨by rw [HHD.out]; exact HX.out X hX _ (by omega), by rw [HTL.out]; exact HX.out X hX _ (by omega)⟩
  have i1 : (b : Int) + 1 < (n : Int) := by omega
  have i2 : (b : Int) < (n : Int) := by omega
  have hC0 : ¬ (C : Int) = 0 := by omega
  have hCb : ((C : Int) == 0) = false := by simpa using hC0
  have hCw : IntKind.u64.wrap (C : Int) = (C : Int) := IntWalk.u64_in _ (by omega)
  unfold qAgg
  obtain ⟨s0, s1⟩ := HQ.out.two
  obtain ⟨t0, t1⟩ := HHT.out _ HQ.out.bel
  go_enter Tryz.func55, Tryz.ntmps55
  go_wp2_with fail
  generalize (w.alloc (.cells #[.int .i64 (b : Int), .int .i64 (C : Int)] 23)) = w1 at HQ s0 s1 t0 t1 ⊢
  have HF0 : Hid (FR w b C (.slice none 0 0) (fil b C xs 0) w1) := hide ⟨HQ.out, TOwn.nil _ _⟩
  clear s0 s1 t0 t1 HQ
  go_loopw [7, 10] (fun u t wr => ∃ k : Nat, k ≤ C ∧ t = .int .i64 k ∧ FR w b C u (fil b C xs k) wr) (fun _ t _ => C - (RowKit.intOf t).toNat)
  case atStart => exact ⟨0, by omega, rfl, HF0.out⟩
  case round =>
    obtain ⟨k, hk, rfl, hfl⟩ := hrel
    clear HF0
    obtain ⟨s0, s1⟩ := hfl.m.two
    have HFL := hide hfl
    clear hfl
    by_cases hlt : k < C
    · have HFK : Hid (fil b C xs (k + 1) = if fkeep b C xs k then fil b C xs k ++ [(at_ xs (b + 2 + 3 * k + 1), at_ xs (b + 2 + 3 * k + 2))] else fil b C xs k) := hide rfl
      have HLE := hide (fil_length b C xs k)
      obtain ⟨d, hd'⟩ : ∃ d, d = fil b C xs k := ⟨_, rfl⟩
      rw [← hd'] at HFL HFK HLE
      clear hd'
      obtain ⟨I, hI⟩ : ∃ I, I = b + 2 + 3 * k := ⟨_, rfl⟩
      have eI : ((b : Int) + 2 + 3 * (k : Int)) = (I : Int) := by omega
      have hIn : I + 2 < n := by omega
      have HKP : Hid (fkeep b C xs k = decide (at_ xs I ≠ 0 ∧ (at_ xs I - 1) % (C : Int) = (k : Int) ∧ hd ≤ at_ xs I - 1 ∧ at_ xs I - 1 < tl)) := hide (by unfold fkeep; rw [HHD.out, HTL.out, hI])
      rw [← hI] at HFK
      obtain ⟨t, ht⟩ : ∃ t, t = at_ xs I := ⟨_, rfl⟩
      obtain ⟨x, hx⟩ : ∃ t, t = at_ xs (I + 1) := ⟨_, rfl⟩
      obtain ⟨y, hy⟩ : ∃ t, t = at_ xs (I + 2) := ⟨_, rfl⟩
      have hwt : 0 ≤ t ∧ t < 18446744073709551616 := by rw [ht]; exact HW.out I (by have := HN.out; omega)
      have HC3 : Hid (∀ X, Below w.heap.size w X → X.cell? ⟨g, o + I, none⟩ = some (.int .u64 t) ∧ X.cell? ⟨g, o + (I + 1), none⟩ = some (.int .u64 x) ∧ X.cell? ⟨g, o + (I + 2), none⟩ = some (.int .u64 y)) := fun X hX => ⟨by rw [ht]; exact HX.out X hX _ (by omega), by rw [hx]; exact HX.out X hX _ (by omega), by rw [hy]; exact HX.out X hX _ (by omega)⟩
      rw [← ht] at HKP
      rw [← hx, ← hy] at HFK
      have hb2 : b ≤ 16777216 := by omega
      clear hx hy ht hI
      obtain ⟨w1', w2'⟩ := hwt
      have j1 : (I : Int) < (n : Int) := by omega
      have j2 : (I : Int) + 1 < (n : Int) := by omega
      have j3 : (I : Int) + 2 < (n : Int) := by omega
      have hIb : (I : Int) ≤ 16777216 := by omega
      have hwr : IntKind.i64.wrap ((k : Int) + 1) = (k : Int) + 1 := IntWalk.i64_in _ (by omega)
      have hkw : IntKind.u64.wrap (k : Int) = (k : Int) := IntWalk.u64_in _ (by omega)
      obtain ⟨c0, c1, c2⟩ := HC3.out _ HFL.out.m.bel
      by_cases ht0 : t = 0
      · subst ht0
        have HE : Hid (fil b C xs (k + 1) = d) := hide (by rw [HFK.out, HKP.out]; simp)
        clear w1' w2'
        go_wp2_with fail
        go_roundw
        case rel => exact ⟨k + 1, by omega, by simp, by rw [HE.out]; exact HFL.out⟩
        case measure => simp [RowKit.intOf]; omega
      · obtain ⟨p, hp⟩ : ∃ p, p = t - 1 := ⟨_, rfl⟩
        have hwp : IntKind.u64.wrap (t - 1) = p := by rw [IntWalk.u64_in _ (by omega), hp]
        rw [← hp] at HKP
        obtain ⟨r, hr⟩ : ∃ r, r = p % (C : Int) := ⟨_, rfl⟩
        have p1 : 0 ≤ p := by omega
        have p2 : p < 18446744073709551616 := by omega
        rw [← hr] at HKP
        have r1 : 0 ≤ r := by rw [hr]; exact Int.emod_nonneg p hC0
        have r2 : r < C := by rw [hr]; exact Int.emod_lt_of_pos p (by omega)
        have hr' : p % (C : Int) = r := hr.symm
        have hT0 : (t == 0) = false := by simpa using ht0
        have HT0 := hide ht0
        clear hp hr
        by_cases q1 : r = (k : Int)
        · by_cases q2 : hd ≤ p
          · by_cases q3 : p < tl
            · have HE : Hid (fil b C xs (k + 1) = d ++ [(x, y)]) := hide (by rw [HFK.out, HKP.out, if_pos (by simp; exact ⟨HT0.out, q1, q2, q3⟩)])
              subst q1
              go_wp2_with fail
              have g1 : IntKind.i64.wrap ((I : Int) + 1) = (I : Int) + 1 := IntWalk.i64_in _ (by omega)
              have g2 : IntKind.i64.wrap ((I : Int) + 2) = (I : Int) + 2 := IntWalk.i64_in _ (by omega)
              have g3 : (0 : Int) ≤ (I : Int) + 1 := by omega
              have g5 : ((I : Int) + 2).toNat = I + 2 := by omega
              have g4 : (0 : Int) ≤ (I : Int) + 2 := by omega
              have hBZ : w.heap.size + 1 ≤ wr.heap.size := lt_of_heap HFL.out.m.bx
              have HPP : Hid (∀ X, Below wr.heap.size wr X → X.cell? ⟨g, o + (I + 1), none⟩ = some (.int .u64 x) ∧ X.cell? ⟨g, o + (I + 2), none⟩ = some (.int .u64 y)) := fun X hX => ⟨(HC3.out X (below_on HFL.out.m.bel hX)).2.1, (HC3.out X (below_on HFL.out.m.bel hX)).2.2⟩
              have HOS : Hid (wr.ownsRow (w.heap.size + 1) 42 2 u7 d.length (tCells d)) := hide HFL.out.own
              go_region_held3 (fun x' => x'.cell? ⟨g, o + (I + 1), none⟩ = some (.int .u64 x) ∧ x'.cell? ⟨g, o + (I + 2), none⟩ = some (.int .u64 y))
                (first | exact ⟨q0, q1⟩ | exact HPP.out _ (below_alloc (below_drew (Below.refl _ _)) _) | exact HPP.out _ (below_drew (below_alloc (Below.refl _ _) _)) | go_keep)
                ((refine step_append_lies _ (by rfl) _ _ _ (by rfl) (w.heap.size + 1) 42 i0 (.agg #[.int .u64 0, .int .u64 0]) 2 16 Tryz.underlying24 hi hz0 hz1 hz2 rfl (by omega) u7 d.length (tCells d) (by rfl) (by first | exact (HOS.out.alloc _).drew | exact HOS.out.drew.alloc _) ⟨wr.heap.size, 0, none⟩ 1 1 [.int .u64 x, .int .u64 y] (by rfl) (by rfl) (by first | exact two_at' wr _ _ _ | exact two_at wr.drew _ _ _) (by simp [Value.oneCell']) (by omega) (by have := HLE.out; unfold maxLen; omega) (by have := HLE.out; omega) (by simp; omega) (wr.heap.size + 1) (by simp) ?_; intro g6 cap6 w6 hownB hgrowB hatB hltB; have HR6 := hide (HFL.out.step (by first | exact below_drew (below_alloc (Below.refl _ _) _) | exact below_alloc (below_drew (Below.refl _ _)) _) hownB hgrowB); obtain ⟨_, q0, q1⟩ := HC3.out _ HR6.out.m.bel; clear hownB hgrowB hatB hltB))
              all_goals
                go_wp2
                go_roundw
                case rel => exact ⟨k + 1, by omega, by simp, by rw [HE.out]; exact HR6.out⟩
                case measure => simp [RowKit.intOf]; omega
            · have q3' : ¬ p < tl := q3
              have HE : Hid (fil b C xs (k + 1) = d) := hide (by rw [HFK.out, HKP.out, if_neg (by simp; intros; omega)])
              go_wp2_with fail
              go_roundw
              case rel => exact ⟨k + 1, by omega, by simp, by rw [HE.out]; exact HFL.out⟩
              case measure => simp [RowKit.intOf]; omega
          · have q2' : ¬ hd ≤ p := q2
            have HE : Hid (fil b C xs (k + 1) = d) := hide (by rw [HFK.out, HKP.out, if_neg (by simp; intros; omega)])
            go_wp2_with fail
            go_roundw
            case rel => exact ⟨k + 1, by omega, by simp, by rw [HE.out]; exact HFL.out⟩
            case measure => simp [RowKit.intOf]; omega
        · have q1' : (r == (k : Int)) = false := by simpa using q1
          have HE : Hid (fil b C xs (k + 1) = d) := hide (by rw [HFK.out, HKP.out, if_neg (by simp; intros; omega)])
          go_wp2_with fail
          go_roundw
          case rel => exact ⟨k + 1, by omega, by simp, by rw [HE.out]; exact HFL.out⟩
          case measure => simp [RowKit.intOf]; omega
    · obtain rfl : k = C := by omega
      have HLE := hide (fil_length b k xs k)
      have HT := hide HFL.out.own.tat
      obtain ⟨ao, cc, rfl, _, _⟩ := HT.out.shape
      go_wp2_with fail
      refine wp_loop_rounds 1 ?_
      rw [rounds_succ]
      go_wp2_with fail
      refine (HSO.out _ (by have := HLE.out; omega) _ _ HT.out).mono ?_
      rintro e w3 ⟨u3, rfl, ht3, hb3⟩
      go_wp2
      go_ret
      exact ⟨_, rfl, own_lower ht3 HFL.out.m.bel.size, below_on HFL.out.m.bel hb3⟩
end Go.Proofs.YtgjdjdgondpjeaaGreat
