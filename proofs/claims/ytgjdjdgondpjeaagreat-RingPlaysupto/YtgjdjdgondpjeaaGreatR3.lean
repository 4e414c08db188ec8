/- The reference's Fill of a ring. -/
import Derived.Test.YtgjdjdgondpjeaaGreatR2
import Derived.Deep.AppendLies
namespace Go.Proofs.YtgjdjdgondpjeaaGreat
open Go.RowKit Go.Lib
set_option linter.unusedVariables false
set_option maxRecDepth 100000 in
theorem refFillR_shape (b C : Int) (v : Value) (l : List Tk) (w : World) (hl : TAt w v l) (h : ¬ OkR b C) : Calls Tryz.prog 31 #[qAgg b C, v] w (FillPost w 60 []) := by
  obtain ⟨ao, c, rfl, k1, k2⟩ := hl.shape
  have HC := hide (fun w => valid_any b C w)
  rw [decide_eq_false h] at HC
  unfold qAgg at HC ⊢
  clear h hl
  go_enter Tryz.func31, Tryz.ntmps31
  go_wp2_with (go_at_call 73; refine (HC.out _).mono ?_; rintro e w2 ⟨rfl, hb1⟩)
  go_ret2
  exact ⟨_, rfl, RowAt.nil _ _, below_on (below_alloc (Below.refl _ _) _) hb1⟩
set_option maxRecDepth 100000 in
set_option maxHeartbeats 2000000 in
theorem refFillR_never (b C : Int) (v : Value) (l : List Tk) (w : World) (hl : TAt w v l) (h : OkR b C) (hn : hasNev l = true) : Calls Tryz.prog 31 #[qAgg b C, v] w (FillPost w 51 []) := by
  obtain ⟨ao, c, rfl, k1, k2⟩ := hl.shape
  have HC := hide (fun w => valid_any b C w)
  rw [decide_eq_true h] at HC
  have HL := hide hl
  obtain ⟨m, hm⟩ : ∃ m, nevAt l = some m := by unfold hasNev at hn; exact Option.isSome_iff_exists.1 hn
  obtain ⟨hmL, hmN⟩ := first_of_some hm
  have hmN' : (tAt l m).1 = Nev := by simpa using hmN
  have HNO : Hid (∀ j, j < m → (tAt l j).1 ≠ Nev) := fun j hj he => by
    unfold nevAt first at hm
    rw [List.find?_range_eq_some] at hm
    have := hm.2.2 j hj
    simp [he] at this
  have HMN := hide hmN'
  unfold qAgg at HC ⊢
  clear h hl hn hm hmN hmN'
  obtain ⟨M, hM⟩ : ∃ M, M = l.length := ⟨_, rfl⟩
  rw [← hM] at k1 HL hmL ⊢
  have HM := hide hM
  clear hM
  go_enter Tryz.func31, Tryz.ntmps31
  go_wp2_with (go_at_call 73; refine (HC.out _).mono ?_; rintro e w2 ⟨rfl, hb1⟩; have HM1 := hide ((qm_one w 23 b C).below hb1); clear hb1)
  go_loopw [6] (fun t wr => ∃ i : Nat, i ≤ m ∧ t = .int .i64 i ∧ wr = w2) (fun t _ => m - (RowKit.intOf t).toNat)
  case atStart => exact ⟨0, by omega, rfl, rfl⟩
  case round =>
    obtain ⟨i, him, rfl, rfl⟩ := hrel
    obtain ⟨gl, ol, he, p0, p1⟩ := (HL.out.below HM1.out.bel).cellAt i (by have := HM.out; omega)
    subst he
    have hlt : i < M := by omega
    by_cases hi : i < m
    · have hne := HNO.out i hi
      obtain ⟨x, hx⟩ : ∃ x, x = (tAt l i).1 := ⟨_, rfl⟩
      rw [← hx] at p0 hne
      have hne2 : ¬ x = 18446744073709551615 := hne
      clear hx p1 hne
      go_wp2
      go_roundw
      case rel => exact ⟨i + 1, by omega, by simp, by trivial⟩
      case measure => simp [RowKit.intOf]; omega
    · obtain rfl : i = m := by omega
      have e9 : (tAt l i).1 = 18446744073709551615 := HMN.out
      rw [e9] at p0
      clear e9 p1
      go_wp2
      go_ret2
      exact ⟨_, rfl, RowAt.nil _ _, HM1.out.bel⟩
theorem three_at (w : World) (x0 x1 x2 : Value) (t : TypeId) : ∀ j u, [x0, x1, x2][j]? = some u → (w.alloc (.cells #[x0, x1, x2] t)).cell? ((⟨w.heap.size, 0, none⟩ : Addr).add j) = some u := by
  intro j u hj
  have hh : (w.alloc (.cells #[x0, x1, x2] t)).heap[w.heap.size]? = some (.cells #[x0, x1, x2] t (0, 0)) := heap_new _ _
  rw [Addr.add_lit]
  match j, hj with
  | 0, hj => simp at hj; subst hj; exact cell_of hh rfl
  | 1, hj => simp at hj; subst hj; exact cell_of hh rfl
  | 2, hj => simp at hj; subst hj; exact cell_of hh rfl
theorem three_at' (w : World) (x0 x1 x2 : Value) (t : TypeId) : ∀ j u, [x0, x1, x2][j]? = some u → (w.alloc (.cells #[x0, x1, x2] t)).drew.cell? ((⟨w.heap.size, 0, none⟩ : Addr).add j) = some u := fun j u h => three_at w x0 x1 x2 t j u h
/-- A list of words that grows, and the shape's box. -/
structure RS (w : World) (b C : Int) (v : Value) (L : List Int) (X : World) : Prop where
  m : QM w w.heap.size 23 b C X
  own : X.ownsRow (w.heap.size + 1) 40 1 v L.length (L.map (Value.int .u64))
theorem RS.step {w X Y w' : World} {b C : Int} {v v' : Value} {L : List Int} {x y z : Int} {n : Nat} (h : RS w b C v L X) (hn : L.length = n) (hb : Below X.heap.size X Y)
    (hown : w'.ownsRow (w.heap.size + 1) 40 1 v' (n + 3) (L.map (Value.int .u64) ++ [.int .u64 x, .int .u64 y, .int .u64 z])) (hgrow : Y.grownBy w' v.ownBlock) : RS w b C v' (L ++ [x, y, z]) w' := by
  subst hn
  have hlt := h.own.lt
  have hm := h.m.below hb
  have hk : ∀ k, v.ownBlock = some k → w.heap.size + 1 ≤ k := fun k e => (hlt k e).1
  refine ⟨⟨(hgrow.block _ (lt_of_heap hm.bx) (fun e => ?_)).trans hm.bx, hm.bel.grown hgrow hm.bel.size (fun j hj => ?_), Nat.le_refl _⟩, by simpa using hown⟩
  · have := hk _ e.symm; omega
  · have := hk _ hj; omega
theorem own_two (X : World) (B : Nat) (x y : Int) (hB : B ≤ X.heap.size) : (X.alloc (.cells #[.int .u64 x, .int .u64 y] 40)).ownsRow B 40 1 (.slice (some ⟨X.heap.size, 0, none⟩) 2 2) 2 [.int .u64 x, .int .u64 y] :=
  ⟨by simp, .inr ⟨X.heap.size, 2, _, rfl, hB, heap_new _ _, Nat.le_refl _, by decide, rfl, by simp⟩⟩
set_option maxRecDepth 100000 in
set_option maxHeartbeats 8000000 in
theorem refFillR_rest (b : Int) (C : Nat) (v : Value) (l : List Tk) (w : World) (hl : TAt w v l) (h : OkR b C) (hn : hasNev l = false) (E : Int) (A : List Int)
    (hov : (C : Int) < l.length → E = 62 ∧ A = []) (hfi : ¬ (C : Int) < l.length → E = 0 ∧ A = tab (2 + 3 * C) (gR l l.length)) : Calls Tryz.prog 31 #[qAgg b C, v] w (FillPost w E A) := by
  obtain ⟨i0, hi, hz0, hz1, hz2⟩ := info_parts Tryz.info40
  obtain ⟨ao, c, rfl, k1, k2⟩ := hl.shape
  have HC := hide (fun w => valid_any b C w)
  rw [decide_eq_true h] at HC
  have HL := hide hl
  have HNO := hide (nev_no hn)
  have HOV := hide hov
  have HFI := hide hfi
  obtain ⟨⟨a1, a2⟩, a3, a4⟩ := h
  unfold qAgg at HC ⊢
  clear hl hn a4 hov hfi
  obtain ⟨M, hM⟩ : ∃ M, M = l.length := ⟨_, rfl⟩
  have HM := hide hM
  have HGM := hide (gR_more l)
  have HGI := hide (fun j h => @gR_in l j h)
  have HGO := hide (fun j h => @gR_out l j h)
  rw [← hM] at k1 HL HOV HFI HGM HGI HGO ⊢
  clear hM
  go_enter Tryz.func31, Tryz.ntmps31
  go_wp2_with (go_at_call 73; refine (HC.out _).mono ?_; rintro e w2 ⟨rfl, hb1⟩; have HM1 := hide ((qm_one w 23 b C).below hb1); clear hb1)
  go_loopw [6] (fun t wr => ∃ i : Nat, i ≤ M ∧ t = .int .i64 i ∧ wr = w2) (fun t _ => M - (RowKit.intOf t).toNat)
  case atStart => exact ⟨0, by omega, rfl, rfl⟩
  case round =>
    obtain ⟨i, him, rfl, rfl⟩ := hrel
    by_cases hil : i < M
    · obtain ⟨gl, ol, he, p0, p1⟩ := (HL.out.below HM1.out.bel).cellAt i (by have := HM.out; omega)
      subst he
      have hne := HNO.out i (by have := HM.out; omega)
      obtain ⟨x, hx⟩ : ∃ x, x = (tAt l i).1 := ⟨_, rfl⟩
      rw [← hx] at p0 hne
      have hne2 : ¬ x = 18446744073709551615 := hne
      clear hx p1 hne
      go_wp2
      go_roundw
      case rel => exact ⟨i + 1, by omega, by simp, by trivial⟩
      case measure => simp [RowKit.intOf]; omega
    · obtain rfl : i = M := by omega
      obtain ⟨s0, s1⟩ := HM1.out.two
      by_cases hf : (C : Int) < (i : Int)
      · obtain ⟨rfl, rfl⟩ := HOV.out hf
        have HB := hide HM1.out.bel
        go_wp2
        go_ret2
        exact ⟨_, rfl, RowAt.nil _ _, HB.out⟩
      · obtain ⟨rfl, rfl⟩ := HFI.out (by first | exact hf | omega)
        have hz2' : (i : Int) ≤ (C : Int) := by omega
        have hbs : w.heap.size + 1 ≤ wr.heap.size := lt_of_heap HM1.out.bx
        have HT0 : Hid (tab 2 (gR l i) = [(i : Int), 0]) := by
          have := HM.out
          subst this
          rfl
        have HR0 : Hid (RS w b C (.slice (some ⟨wr.heap.size, 0, none⟩) 2 2) (tab 2 (gR l i)) (wr.alloc (.cells #[.int .u64 (i : Int), .int .u64 0] 40))) := ⟨HM1.out.below (below_alloc (Below.refl _ _) _), by rw [HT0.out]; exact own_two wr (w.heap.size + 1) _ _ hbs⟩
        clear HM1
        go_wp2
        clear s0 s1 HOV HFI HC HT0
        generalize (wr.alloc (.cells #[.int .u64 (i : Int), .int .u64 0] 40)) = w3 at HR0 ⊢
        go_loopw [7, 8] (fun v t wr => ∃ j : Nat, j ≤ C ∧ t = .int .i64 j ∧ RS w b C v (tab (2 + 3 * j) (gR l i)) wr) (fun _ t _ => C - (RowKit.intOf t).toNat)
        case atStart => exact ⟨0, by omega, rfl, HR0.out⟩
        case round =>
          obtain ⟨j, hj, rfl, hrs⟩ := hrel
          clear HR0
          obtain ⟨s0, s1⟩ := hrs.m.two
          by_cases hlt : j < C
          · have HRS := hide hrs
            have HLN := hide (tab_length (2 + 3 * j) (gR l i))
            by_cases hin : j < i
            · obtain ⟨gl, ol, he, p0, p1⟩ := (HL.out.below hrs.m.bel).cellAt j (by have := HM.out; omega)
              subst he
              have HPO : Hid (∀ X, Below w.heap.size w X → X.cell? ⟨gl, ol + j * 2, none⟩ = some (.int .u64 (tAt l j).1) ∧ X.cell? ⟨gl, ol + j * 2 + 1, none⟩ = some (.int .u64 (tAt l j).2)) := fun X hX => by
                obtain ⟨_, _, he, p0, p1'⟩ := (HL.out.below hX).cellAt j (by have := HM.out; omega)
                simp only [Option.some.injEq, Addr.mk.injEq, and_true] at he
                obtain ⟨rfl, rfl⟩ := he
                exact ⟨p0, p1'⟩
              have HPP : Hid (∀ X, Below wr.heap.size wr X → X.cell? ⟨gl, ol + j * 2, none⟩ = some (.int .u64 (tAt l j).1) ∧ X.cell? ⟨gl, ol + j * 2 + 1, none⟩ = some (.int .u64 (tAt l j).2)) := fun X hX => HPO.out X (below_on hrs.m.bel hX)
              obtain ⟨g1, g2, g3⟩ := HGI.out j hin
              obtain ⟨x, hx⟩ : ∃ x, x = (tAt l j).1 := ⟨_, rfl⟩
              obtain ⟨y, hy⟩ : ∃ y, y = (tAt l j).2 := ⟨_, rfl⟩
              rw [← hx] at p0 g2
              rw [← hy] at p1 g3
              rw [← hx, ← hy] at HPO HPP
              have HNX : Hid (tab (2 + 3 * (j + 1)) (gR l i) = tab (2 + 3 * j) (gR l i) ++ [(j : Int) + 1, x, y]) := hide (by rw [HGM.out, g1, g2, g3])
              have hos := hrs.own
              rw [HLN.out] at hos
              have HOS := hide hos
              clear hos hrs hx hy g1 g2 g3
              go_wp2_with fail
              have hBZ : w.heap.size + 1 ≤ wr.heap.size := lt_of_heap HRS.out.m.bx
              have hwj : IntKind.u64.wrap (j : Int) = (j : Int) := IntWalk.u64_in _ (by omega)
              have hw64 : IntKind.u64.wrap ((j : Int) + 1) = (j : Int) + 1 := IntWalk.u64_in _ (by omega)
              go_region_held3 (fun x' => x'.cell? ⟨gl, ol + j * 2, none⟩ = some (.int .u64 x) ∧ x'.cell? ⟨gl, ol + j * 2 + 1, none⟩ = some (.int .u64 y))
                (first | go_keep | exact ⟨q0, q1⟩ | exact HPP.out _ (below_alloc (below_drew (Below.refl _ _)) _) | exact HPP.out _ (below_drew (below_alloc (Below.refl _ _) _)))
                ((refine step_append_lies _ (by rfl) _ _ _ (by rfl) (w.heap.size + 1) 40 i0 (.int .u64 0) 1 8 Tryz.underlying47 hi hz0 hz1 hz2 rfl (by omega) u7 (2 + 3 * j) ((tab (2 + 3 * j) (gR l i)).map (Value.int .u64)) (by rfl) (by first | exact (HOS.out.alloc _).drew | exact HOS.out.drew.alloc _) ⟨wr.heap.size, 0, none⟩ 3 3 [.int .u64 ((j : Int) + 1), .int .u64 x, .int .u64 y] (by rfl) (by rfl) (by first | exact three_at' wr _ _ _ _ | exact three_at wr.drew _ _ _ _) (by simp [Value.oneCell']) (by omega) (by unfold maxLen; omega) (by omega) (by simp; omega) (wr.heap.size + 1) (by simp) ?_; intro g cap w5 hownB hgrowB hatB hltB; have HR5 := hide (HRS.out.step HLN.out (by first | exact below_drew (below_alloc (Below.refl _ _) _) | exact below_alloc (below_drew (Below.refl _ _)) _) hownB hgrowB); obtain ⟨q0, q1⟩ := HPO.out _ HR5.out.m.bel; rw [← HNX.out] at HR5; clear hownB hgrowB hatB hltB))
              all_goals
                go_wp2
                go_roundw
                case rel => exact ⟨j + 1, by omega, by simp, HR5.out⟩
                case measure => simp [RowKit.intOf]; omega
            · obtain ⟨g1, g2, g3⟩ := HGO.out j hin
              have HNX : Hid (tab (2 + 3 * (j + 1)) (gR l i) = tab (2 + 3 * j) (gR l i) ++ [(j : Int), 0, 0]) := hide (by rw [HGM.out, g1, g2, g3])
              have hos := hrs.own
              rw [HLN.out] at hos
              have HOS := hide hos
              clear hrs g1 g2 g3 hos
              go_wp2_with (at_builtin; refine wpList_append_own _ rfl (.tmp 59) (.tmp 62) 47 rfl _ 40 i0 (.int .u64 0) 1 8 Tryz.underlying47 hi hz0 hz1 hz2 rfl (by decide) _ _ _ rfl (HOS.out.alloc _) ⟨wr.heap.size, 0, none⟩ 3 3 [.int .u64 (j : Int), .int .u64 0, .int .u64 0] rfl rfl (three_at wr _ _ _ _) (by simp [Value.oneCell']) (by unfold maxLen; omega) (by omega) (by have := HRS.out.m.bel.size; have := lt_of_heap HRS.out.m.bx; simp; omega) ?_; intro v5 w5 hownB hgrowB hqB; have HR5 := hide (HRS.out.step HLN.out (below_alloc (Below.refl _ _) _) hownB hgrowB); rw [← HNX.out] at HR5; clear hownB hgrowB hqB)
              go_roundw
              case rel => exact ⟨j + 1, by omega, by simp, HR5.out⟩
              case measure => simp [RowKit.intOf]; omega
          · obtain rfl : j = C := by omega
            have HA := hide hrs
            clear hrs
            go_wp2
            go_ret2
            exact ⟨_, rfl, RowAt.of_owns HA.out.own, HA.out.m.bel⟩
theorem okR_nat {b C : Int} (h : OkR b C) : ∃ C' : Nat, C = (C' : Int) := ⟨C.toNat, by have := h.1.1; omega⟩
theorem ringFill_any (b C : Int) (v : Value) (l : List Tk) (w : World) (hl : TAt w v l) (htk : Tok l) : Calls Tryz.prog 27 #[qAgg b C, v] w (RingPost w (errR b C l) (ansR b C l)) := by
  by_cases h : OkR b C
  · obtain ⟨C', rfl⟩ := okR_nat h
    unfold ansR
    by_cases hn : hasNev l = true
    · have e : errR b C' l = 51 := by unfold errR; rw [if_pos h, if_pos hn]
      rw [e, if_neg (by decide)]
      exact ringFill_never b C' v l w hl h hn
    · have hn' : hasNev l = false := by simpa using hn
      by_cases hf : (C' : Int) < l.length
      · have e : errR b C' l = 62 := by unfold errR; rw [if_pos h, if_neg hn, if_pos hf]
        rw [e, if_neg (by decide)]
        exact ringFill_full b C' v l w hl h hn' hf
      · have e : errR b C' l = 0 := by unfold errR; rw [if_pos h, if_neg hn, if_neg hf]
        rw [e, if_pos rfl, show (2 + 3 * (C' : Int)).toNat = 2 + 3 * C' by omega]
        exact ringFill_good b C' _ v l w hl htk h hn' hf rfl
  · have e : errR b C l = 60 := by unfold errR; rw [if_neg h]
    unfold ansR
    rw [e, if_neg (by decide)]
    exact ringFill_shape b C v l w hl h
theorem refFillR_any (b C : Int) (v : Value) (l : List Tk) (w : World) (hl : TAt w v l) (htk : Tok l) : Calls Tryz.prog 31 #[qAgg b C, v] w (FillPost w (errR b C l) (ansR b C l)) := by
  by_cases h : OkR b C
  · obtain ⟨C', rfl⟩ := okR_nat h
    by_cases hn : hasNev l = true
    · have e : errR b C' l = 51 := by unfold errR; rw [if_pos h, if_pos hn]
      unfold ansR
      rw [e, if_neg (by decide)]
      exact refFillR_never b C' v l w hl h hn
    · have hn' : hasNev l = false := by simpa using hn
      refine refFillR_rest b C' v l w hl h hn' _ _ (fun hf => ?_) (fun hf => ?_)
      · have e : errR b C' l = 62 := by unfold errR; rw [if_pos h, if_neg hn, if_pos hf]
        unfold ansR
        rw [e]
        exact ⟨rfl, if_neg (by decide)⟩
      · have e : errR b C' l = 0 := by unfold errR; rw [if_pos h, if_neg hn, if_neg hf]
        unfold ansR
        rw [e, if_pos rfl, show (2 + 3 * (C' : Int)).toNat = 2 + 3 * C' by omega]
        exact ⟨rfl, rfl⟩
  · have e : errR b C l = 60 := by unfold errR; rw [if_neg h]
    unfold ansR
    rw [e, if_neg (by decide)]
    exact refFillR_shape b C v l w hl h
end Go.Proofs.YtgjdjdgondpjeaaGreat
