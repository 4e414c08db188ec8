/- ring's filled 42: the tasks of the slots that are filled and not claimed. -/
import Derived.Test.YtgjdjdgondpjeaaGreatTo
import Derived.Test.YtgjdjdgondpjeaaGreatHd
import Derived.Deep.RegionHeld3
namespace Go.Proofs.YtgjdjdgondpjeaaGreat
open Go.RowKit Go.Lib
set_option linter.unusedVariables false
set_option linter.unusedSimpArgs false
/-- Whether slot s is filled and not claimed. -/
def fkeep (b C : Nat) (xs : List Int) (s : Nat) : Bool := decide (at_ xs (b + 2 + 3 * s) ≠ 0 ∧ (at_ xs (b + 2 + 3 * s) - 1) % (C : Int) = (s : Int) ∧ at_ xs (b + 1) ≤ at_ xs (b + 2 + 3 * s) - 1 ∧ at_ xs (b + 2 + 3 * s) - 1 < at_ xs b)
/-- The tasks of the first k slots that are filled and not claimed. -/
def fil (b C : Nat) (xs : List Int) : Nat → List Tk
  | 0 => []
  | k + 1 => if fkeep b C xs k then fil b C xs k ++ [(at_ xs (b + 2 + 3 * k + 1), at_ xs (b + 2 + 3 * k + 2))] else fil b C xs k
theorem fil_length (b C : Nat) (xs : List Int) (k : Nat) : (fil b C xs k).length ≤ k := by
  induction k with
  | zero => simp [fil]
  | succ k ih =>
    unfold fil
    split
    · simp; omega
    · omega
structure FL (w : World) (b C : Nat) (u : Value) (d : List Tk) (X : World) : Prop where
  m : QM w w.heap.size 121 b C X
  own : TOwn X (w.heap.size + 1) u d
theorem FL.below {w X Y : World} {b C : Nat} {u : Value} {d : List Tk} (h : FL w b C u d X) (hb : Below X.heap.size X Y) : FL w b C u d Y := ⟨h.m.below hb, h.own.below hb⟩
theorem FL.step {w X Y w' : World} {b C : Nat} {v v' : Value} {d : List Tk} {x y : Int} (h : FL w b C v d X) (hb : Below X.heap.size X Y)
    (hown : w'.ownsRow (w.heap.size + 1) 42 2 v' (d.length + 1) (tCells d ++ [.int .u64 x, .int .u64 y])) (hgrow : Y.grownBy w' v.ownBlock) : FL w b C v' (d ++ [(x, y)]) w' := by
  have hlt := World.ownsRow.lt h.own
  have hm := h.m.below hb
  have hk : ∀ k, v.ownBlock = some k → w.heap.size + 1 ≤ k := fun k e => (hlt k e).1
  refine ⟨⟨(hgrow.block _ (lt_of_heap hm.bx) (fun e => ?_)).trans hm.bx, hm.bel.grown hgrow hm.bel.size (fun j hj => ?_), Nat.le_refl _⟩, ?_⟩
  · have := hk _ e.symm; omega
  · have := hk _ hj; omega
  · unfold TOwn; rw [tCells_snoc]; simpa using hown
theorem own_lower' {w : World} {a b : Nat} {v : Value} {l : List Tk} (h : TOwn w a v l) (hb : b ≤ a) : TOwn w b v l :=
  ⟨h.1, h.2.imp id fun ⟨g, cap, cur, he, hg, r⟩ => ⟨g, cap, cur, he, Nat.le_trans hb hg, r⟩⟩
def Wds (xs : List Int) : Prop := ∀ i, i < xs.length → 0 ≤ at_ xs i ∧ at_ xs i < 18446744073709551616
set_option maxRecDepth 100000 in
set_option maxHeartbeats 8000000 in
theorem filled_any (b C : Nat) (xs : List Int) (v : Value) (w : World) (h : RowAt .u64 w v xs) (hw : Wds xs) (hc1 : 2 ≤ C) (hc2 : C ≤ 65536) (hbm : b + (2 + 3 * C) ≤ 16777216) (hlen : b + 2 + 3 * C ≤ xs.length) :
    Calls Tryz.prog 60 #[qAgg b C, v] w fun e w' => ∃ u, e = .returned u ∧ TOwn w' w.heap.size u (fil b C xs C) ∧ Below w.heap.size w w' := by
  obtain ⟨g, o, c, rfl, hnc, _⟩ := h.cellAt 0 (by omega)
  have HX : Hid (∀ X, Below w.heap.size w X → ∀ i, i < xs.length → X.cell? ⟨g, o + i, none⟩ = some (.int .u64 (at_ xs i))) := fun X hX i hi => by
    obtain ⟨g', o', c', he, _, hcell⟩ := (h.below hX).cellAt i hi
    simp only [Value.slice.injEq, Option.some.injEq, Addr.mk.injEq, and_true, true_and] at he
    obtain ⟨⟨rfl, rfl⟩, rfl⟩ := he
    exact hcell
  obtain ⟨i0, hi, hz0, hz1, hz2⟩ := info_parts Tryz.info42
  have HH := hide (fun W => headCell_b b C W (by omega) (by omega))
  have HT := hide (fun W => tailCell_b b C W)
  have HTU := hide (fun (s : Nat) W (hs : s ≤ 65536) => turnCell_b b C s W (by omega) (by omega) (by omega) (by omega))
  have HSL := hide (fun p W h1 h2 => slot_b b C p W (by omega) (by omega) h1 h2)
  have HW := hide hw
  have HQ := hide (qm_one w 121 b C)
  obtain ⟨n, hn⟩ : ∃ n, n = xs.length := ⟨_, rfl⟩
  rw [← hn] at hlen hnc HX ⊢
  have HN := hide hn
  clear h hw hn
  obtain ⟨hd, hhd⟩ : ∃ x, x = at_ xs (b + 1) := ⟨_, rfl⟩
  obtain ⟨tl, htl⟩ : ∃ x, x = at_ xs b := ⟨_, rfl⟩
  have HHD := hide hhd
  have HTL := hide htl
  clear hhd htl
  have HHT : Hid (∀ X, Below w.heap.size w X → X.cell? ⟨g, o + (b + 1), none⟩ = some (.int .u64 hd) ∧ X.cell? ⟨g, o + b, none⟩ = some (.int .u64 tl)) := fun X hX => ⟨by rw [HHD.out]; exact HX.out X hX _ (by omega), by rw [HTL.out]; exact HX.out X hX _ (by omega)⟩
  have i1 : (b : Int) + 1 < (n : Int) := by omega
  have i2 : (b : Int) < (n : Int) := by omega
  unfold qAgg at HH HT HTU HSL ⊢
  go_enter Tryz.func60, Tryz.ntmps60
  go_wp2_with fail
  generalize (w.alloc (.cells #[.int .i64 (b : Int), .int .i64 (C : Int)] 121)) = w1 at HQ ⊢
  obtain ⟨s0, s1⟩ := HQ.out.two
  obtain ⟨t0, t1⟩ := HHT.out _ HQ.out.bel
  have x0 := gw_cell s0; have x1 := gw_cell s1; have x2 := gw_cell t0; have x3 := gw_cell t1
  refine wp_region_gw (by kernel_rfl) (by kernel_rfl) ?_
  repeat (go_big_quiet_step (first
    | (go_at_call 83; exact gw_of (HH.out _))
    | (go_at_call 68; exact gw_of (HT.out _))
    | rfl))
  refine wpQuiet_nil ?_
  intro _ hw'
  obtain ⟨x', hw''⟩ := hw'
  subst hw''
  have HF0 : Hid (FL w b C (.slice none 0 0) (fil b C xs 0) x'.world) := hide ⟨HQ.out.below x'.bel, TOwn.nil _ _⟩
  clear x0 x1 x2 x3 s0 s1 t0 t1 HQ HH HT
  generalize x'.world = w2 at HF0 ⊢
  clear x'
  obtain ⟨s0, s1⟩ := HF0.out.m.two
  go_wp2_with fail
  clear s0 s1
  go_loopw [7, 23] (fun u t wr => ∃ k : Nat, k ≤ C ∧ t = .int .i64 k ∧ FL w b C u (fil b C xs k) wr) (fun _ t _ => C - (RowKit.intOf t).toNat)
  case atStart => exact ⟨0, by omega, rfl, HF0.out⟩
  case round =>
    obtain ⟨k, hk, rfl, hfl⟩ := hrel
    clear HF0
    obtain ⟨s0, s1⟩ := hfl.m.two
    have HFL := hide hfl
    clear hfl
    by_cases hlt : k < C
    · have HFK : Hid (fil b C xs (k + 1) = if fkeep b C xs k then fil b C xs k ++ [(at_ xs (b + 2 + 3 * k + 1), at_ xs (b + 2 + 3 * k + 2))] else fil b C xs k) := hide rfl
      have HLE := hide (fil_length b C xs k)
      obtain ⟨d, hd'⟩ : ∃ d, d = fil b C xs k := ⟨_, rfl⟩
      rw [← hd'] at HFL HFK HLE
      clear hd'
      obtain ⟨I, hI⟩ : ∃ I, I = b + 2 + 3 * k := ⟨_, rfl⟩
      have eI : ((b : Int) + 2 + 3 * (k : Int)) = (I : Int) := by omega
      have HTK := hide (fun W => HTU.out k W (by omega))
      rw [eI] at HTK
      have hIn : I + 2 < n := by omega
      have HKP : Hid (fkeep b C xs k = decide (at_ xs I ≠ 0 ∧ (at_ xs I - 1) % (C : Int) = (k : Int) ∧ hd ≤ at_ xs I - 1 ∧ at_ xs I - 1 < tl)) := hide (by unfold fkeep; rw [HHD.out, HTL.out, hI])
      rw [← hI] at HFK
      obtain ⟨t, ht⟩ : ∃ t, t = at_ xs I := ⟨_, rfl⟩
      obtain ⟨x, hx⟩ : ∃ t, t = at_ xs (I + 1) := ⟨_, rfl⟩
      obtain ⟨y, hy⟩ : ∃ t, t = at_ xs (I + 2) := ⟨_, rfl⟩
      have hwt : 0 ≤ t ∧ t < 18446744073709551616 := by rw [ht]; exact HW.out I (by have := HN.out; omega)
      have HC3 : Hid (∀ X, Below w.heap.size w X → X.cell? ⟨g, o + I, none⟩ = some (.int .u64 t) ∧ X.cell? ⟨g, o + (I + 1), none⟩ = some (.int .u64 x) ∧ X.cell? ⟨g, o + (I + 2), none⟩ = some (.int .u64 y)) := fun X hX => ⟨by rw [ht]; exact HX.out X hX _ (by omega), by rw [hx]; exact HX.out X hX _ (by omega), by rw [hy]; exact HX.out X hX _ (by omega)⟩
      rw [← ht] at HKP
      rw [← hx, ← hy] at HFK
      have HTA := hide (fun W (hW : Below w.heap.size w W) => task_b b C k g o n c x y W (by omega) (by omega) (by omega) (by omega) (by omega) hnc (I + 1) (I + 2) (by omega) (by omega) (HC3.out W hW).2.1 (HC3.out W hW).2.2)
      clear hx hy ht hI
      obtain ⟨w1', w2'⟩ := hwt
      have j1 : (I : Int) < (n : Int) := by omega
      have hwr : IntKind.i64.wrap ((k : Int) + 1) = (k : Int) + 1 := IntWalk.i64_in _ (by omega)
      unfold qAgg at HTA
      go_wp2_with fail
      refine (HTK.out _).mono ?_
      rintro e w3 ⟨rfl, hb3⟩
      replace HFL := hide (HFL.out.below hb3)
      clear hb3 s0 s1
      obtain ⟨s0, s1⟩ := HFL.out.m.two
      obtain ⟨c0, c1, c2⟩ := HC3.out _ HFL.out.m.bel
      by_cases ht0 : t = 0
      · subst ht0
        have HE : Hid (fil b C xs (k + 1) = d) := hide (by rw [HFK.out, HKP.out]; simp)
        clear HTA HSL HTK w1' w2'
        go_wp2_with fail
        go_roundw
        case rel => exact ⟨k + 1, by omega, by simp, by rw [HE.out]; exact HFL.out⟩
        case measure => simp [RowKit.intOf]; omega
      · obtain ⟨p, hp⟩ : ∃ p, p = t - 1 := ⟨_, rfl⟩
        have hwp : IntKind.u64.wrap (t - 1) = p := by rw [IntWalk.u64_in _ (by omega), hp]
        have HSK := hide (fun W => HSL.out p W (by omega) (by omega))
        rw [← hp] at HKP
        obtain ⟨r, hr⟩ : ∃ r, r = p % (C : Int) := ⟨_, rfl⟩
        rw [← hr] at HSK HKP
        have hT0 : (t == 0) = false := by simpa using ht0
        have HT0 := hide ht0
        clear hp hr HSL HTK
        go_wp2_with fail
        refine (HSK.out _).mono ?_
        rintro e w4 ⟨rfl, hb4⟩
        replace HFL := hide (HFL.out.below hb4)
        clear hb4 s0 s1 c0 c1 c2
        obtain ⟨s0, s1⟩ := HFL.out.m.two
        by_cases q1 : r = (k : Int)
        · by_cases q2 : hd ≤ p
          · by_cases q3 : p < tl
            · have HE : Hid (fil b C xs (k + 1) = d ++ [(x, y)]) := hide (by rw [HFK.out, HKP.out, if_pos (by simp; exact ⟨HT0.out, q1, q2, q3⟩)])
              subst q1
              go_wp2_with fail
              refine (HTA.out _ HFL.out.m.bel).mono ?_
              rintro e w5 ⟨rfl, hb5⟩
              replace HFL := hide (HFL.out.below hb5)
              clear hb5 s0 s1
              go_wp2_with (at_builtin; refine wpList_append_own _ rfl (.tmp 51) (.tmp 56) 24 rfl _ 42 i0 (.agg #[.int .u64 0, .int .u64 0]) 2 16 Tryz.underlying24 hi hz0 hz1 hz2 rfl (by decide) _ _ _ rfl (World.ownsRow.alloc (show w5.ownsRow (w.heap.size + 1) 42 2 u7 d.length (tCells d) from HFL.out.own) _) ⟨w5.heap.size, 0, none⟩ 1 1 [.int .u64 x, .int .u64 y] rfl rfl (two_at w5 _ _ _) (by simp [Value.oneCell']) (by have := HLE.out; unfold maxLen; omega) (by have := HLE.out; omega) (by have := lt_of_heap HFL.out.m.bx; simp; omega) ?_; intro v6 w6 hownB hgrowB hqB; have HR6 := hide (HFL.out.step (below_alloc (Below.refl _ _) _) hownB hgrowB); clear hownB hgrowB hqB)
              go_roundw
              case rel => exact ⟨k + 1, by omega, by simp, by rw [HE.out]; exact HR6.out⟩
              case measure => simp [RowKit.intOf]; omega
            · have q3' : ¬ p < tl := q3
              have HE : Hid (fil b C xs (k + 1) = d) := hide (by rw [HFK.out, HKP.out, if_neg (by simp; intros; omega)])
              go_wp2_with fail
              go_roundw
              case rel => exact ⟨k + 1, by omega, by simp, by rw [HE.out]; exact HFL.out⟩
              case measure => simp [RowKit.intOf]; omega
          · have q2' : ¬ hd ≤ p := q2
            have HE : Hid (fil b C xs (k + 1) = d) := hide (by rw [HFK.out, HKP.out, if_neg (by simp; intros; omega)])
            go_wp2_with fail
            go_roundw
            case rel => exact ⟨k + 1, by omega, by simp, by rw [HE.out]; exact HFL.out⟩
            case measure => simp [RowKit.intOf]; omega
        · have q1' : (r == (k : Int)) = false := by simpa using q1
          have HE : Hid (fil b C xs (k + 1) = d) := hide (by rw [HFK.out, HKP.out, if_neg (by simp; intros; omega)])
          go_wp2_with fail
          go_roundw
          case rel => exact ⟨k + 1, by omega, by simp, by rw [HE.out]; exact HFL.out⟩
          case measure => simp [RowKit.intOf]; omega
    · obtain rfl : k = C := by omega
      go_wp2
      go_ret
      exact ⟨_, rfl, own_lower' HFL.out.own (by omega), HFL.out.m.bel⟩
end Go.Proofs.YtgjdjdgondpjeaaGreat
