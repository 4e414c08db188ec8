/- ring.Fill. -/
import Derived.Test.YtgjdjdgondpjeaaGreatR1
namespace Go.Proofs.YtgjdjdgondpjeaaGreat
open Go.RowKit Go.Lib
set_option linter.unusedVariables false
/-- The cell i of a ring with tasks, of which the first k stand in their slots. -/
def gR (l : List Tk) (k : Nat) (i : Nat) : Int :=
  if i = 0 then (l.length : Int) else if i = 1 then 0 else if (i - 2) / 3 < k then (if (i - 2) % 3 = 0 then (((i - 2) / 3 : Nat) : Int) + 1 else if (i - 2) % 3 = 1 then (tAt l ((i - 2) / 3)).1 else (tAt l ((i - 2) / 3)).2)
  else (if (i - 2) % 3 = 0 then (((i - 2) / 3 : Nat) : Int) else 0)
/-- The cell i while turns are laid. -/
def hR (l : List Tk) (j : Nat) (i : Nat) : Int := if i = 0 then (l.length : Int) else if i = 1 then 0 else if (i - 2) % 3 = 0 ∧ (i - 2) / 3 < j then (((i - 2) / 3 : Nat) : Int) else 0
theorem hR_zero (l : List Tk) (n : Nat) : (tab n (fun _ => 0)).set 0 (l.length : Int) = tab n (hR l 0) := by
  rw [tab_set]
  refine tab_congr fun v _ => ?_
  unfold hR
  by_cases h0 : v = 0
  · rw [if_pos h0, if_pos h0]
  · rw [if_neg h0, if_neg h0]
    by_cases h1 : v = 1
    · rw [if_pos h1]
    · rw [if_neg h1, if_neg (by omega)]
theorem hR_step (l : List Tk) (n j : Nat) : (tab n (hR l j)).set (2 + 3 * j) (j : Int) = tab n (hR l (j + 1)) := by
  rw [tab_set]
  refine tab_congr fun v _ => ?_
  unfold hR
  by_cases h0 : v = 0
  · rw [if_pos h0, if_pos h0, if_neg (by omega)]
  · rw [if_neg h0, if_neg h0]
    by_cases h1 : v = 1
    · rw [if_pos h1, if_pos h1, if_neg (by omega)]
    · rw [if_neg h1, if_neg h1]
      by_cases h2 : v = 2 + 3 * j
      · rw [if_pos h2, if_pos (by omega)]; omega
      · rw [if_neg h2]
        by_cases h3 : (v - 2) % 3 = 0 ∧ (v - 2) / 3 < j
        · rw [if_pos h3, if_pos (by omega)]
        · rw [if_neg h3, if_neg (by omega)]
theorem hR_last (l : List Tk) (C : Nat) : tab (2 + 3 * C) (hR l C) = tab (2 + 3 * C) (gR l 0) := by
  refine tab_congr fun v hv => ?_
  unfold hR gR
  by_cases h0 : v = 0
  · rw [if_pos h0, if_pos h0]
  · rw [if_neg h0, if_neg h0]
    by_cases h1 : v = 1
    · rw [if_pos h1, if_pos h1]
    · rw [if_neg h1, if_neg h1, if_neg (show ¬ (v - 2) / 3 < 0 by omega)]
      by_cases h3 : (v - 2) % 3 = 0
      · rw [if_pos h3, if_pos ⟨h3, by omega⟩]
      · rw [if_neg h3, if_neg (fun h => h3 h.1)]
theorem gR_step (l : List Tk) (n k : Nat) : (((tab n (gR l k)).set (2 + 3 * k) ((k : Int) + 1)).set (2 + 3 * k + 1) (tAt l k).1).set (2 + 3 * k + 2) (tAt l k).2 = tab n (gR l (k + 1)) := by
  rw [tab_set, tab_set, tab_set]
  refine tab_congr fun v _ => ?_
  unfold gR
  by_cases h0 : v = 0
  · rw [if_pos h0, if_pos h0, if_neg (by omega), if_neg (by omega), if_neg (by omega)]
  · rw [if_neg h0, if_neg h0]
    by_cases h1 : v = 1
    · rw [if_pos h1, if_pos h1, if_neg (by omega), if_neg (by omega), if_neg (by omega)]
    · rw [if_neg h1, if_neg h1]
      by_cases a2 : v = 2 + 3 * k + 2
      · have e : (v - 2) / 3 = k := by omega
        rw [if_pos a2, if_pos (show (v - 2) / 3 < k + 1 by omega), if_neg (show ¬ (v - 2) % 3 = 0 by omega), if_neg (show ¬ (v - 2) % 3 = 1 by omega), e]
      · rw [if_neg a2]
        by_cases a1 : v = 2 + 3 * k + 1
        · have e : (v - 2) / 3 = k := by omega
          rw [if_pos a1, if_pos (show (v - 2) / 3 < k + 1 by omega), if_neg (show ¬ (v - 2) % 3 = 0 by omega), if_pos (show (v - 2) % 3 = 1 by omega), e]
        · rw [if_neg a1]
          by_cases a0 : v = 2 + 3 * k
          · rw [if_pos a0, if_pos (show (v - 2) / 3 < k + 1 by omega), if_pos (show (v - 2) % 3 = 0 by omega)]; omega
          · rw [if_neg a0]
            by_cases hs : (v - 2) / 3 < k
            · rw [if_pos hs, if_pos (show (v - 2) / 3 < k + 1 by omega)]
            · rw [if_neg hs, if_neg (show ¬ (v - 2) / 3 < k + 1 by omega)]
theorem gR_more (l : List Tk) (j : Nat) : tab (2 + 3 * (j + 1)) (gR l l.length) = tab (2 + 3 * j) (gR l l.length) ++ [gR l l.length (2 + 3 * j), gR l l.length (2 + 3 * j + 1), gR l l.length (2 + 3 * j + 2)] := by
  unfold tab
  rw [show 2 + 3 * (j + 1) = 2 + 3 * j + 1 + 1 + 1 by omega, List.range_succ, List.range_succ, List.range_succ]
  simp
theorem gR_in {l : List Tk} {j : Nat} (h : j < l.length) : gR l l.length (2 + 3 * j) = (j : Int) + 1 ∧ gR l l.length (2 + 3 * j + 1) = (tAt l j).1 ∧ gR l l.length (2 + 3 * j + 2) = (tAt l j).2 := by
  unfold gR
  refine ⟨?_, ?_, ?_⟩
  · rw [if_neg (by omega), if_neg (by omega), if_pos (by omega), if_pos (by omega)]; omega
  · rw [if_neg (by omega), if_neg (by omega), if_pos (by omega), if_neg (by omega), if_pos (by omega)]
    rw [show (2 + 3 * j + 1 - 2) / 3 = j by omega]
  · rw [if_neg (by omega), if_neg (by omega), if_pos (by omega), if_neg (by omega), if_neg (by omega)]
    rw [show (2 + 3 * j + 2 - 2) / 3 = j by omega]
theorem gR_out {l : List Tk} {j : Nat} (h : ¬ j < l.length) : gR l l.length (2 + 3 * j) = (j : Int) ∧ gR l l.length (2 + 3 * j + 1) = 0 ∧ gR l l.length (2 + 3 * j + 2) = 0 := by
  unfold gR
  refine ⟨?_, ?_, ?_⟩
  · rw [if_neg (by omega), if_neg (by omega), if_neg (by omega), if_pos (by omega)]; omega
  · rw [if_neg (by omega), if_neg (by omega), if_neg (by omega), if_neg (by omega)]
  · rw [if_neg (by omega), if_neg (by omega), if_neg (by omega), if_neg (by omega)]
def errR (b C : Int) (l : List Tk) : Int := if OkR b C then (if hasNev l = true then 51 else if C < (l.length : Int) then 62 else 0) else 60
def ansR (b C : Int) (l : List Tk) : List Int := if errR b C l = 0 then tab (2 + 3 * C).toNat (gR l l.length) else []
/-- What ring.Fill answers: nothing, or a list in a block of its own, without spare room. -/
def RingPost (w : World) (err : Int) (ans : List Int) (e : Ending) (w' : World) : Prop :=
  Below w.heap.size w w' ∧ ((err ≠ 0 ∧ ans = [] ∧ e = .returned (.tuple #[.slice none 0 0, .int .i64 err])) ∨
    (err = 0 ∧ ∃ g, w.heap.size ≤ g ∧ e = .returned (.tuple #[.slice (some ⟨g, 0, none⟩) ans.length ans.length, .int .i64 err]) ∧ ArrU w' g ans))
set_option maxRecDepth 100000 in
theorem ringFill_shape (b C : Int) (v : Value) (l : List Tk) (w : World) (hl : TAt w v l) (h : ¬ OkR b C) : Calls Tryz.prog 27 #[qAgg b C, v] w (RingPost w 60 []) := by
  obtain ⟨ao, c, rfl, k1, k2⟩ := hl.shape
  have HC := hide (fun w => qCheck_any b C w)
  rw [if_neg h] at HC
  unfold qAgg at HC ⊢
  clear h hl
  go_enter Tryz.func27, Tryz.ntmps27
  go_wp2_with (go_at_call 65; refine (HC.out _).mono ?_; rintro e w2 ⟨rfl, hb1⟩)
  go_ret2
  exact ⟨below_on (below_alloc (below_alloc (Below.refl _ _) _) _) hb1, .inl ⟨by decide, rfl, rfl⟩⟩
set_option maxRecDepth 100000 in
theorem ringFill_never (b C : Int) (v : Value) (l : List Tk) (w : World) (hl : TAt w v l) (h : OkR b C) (hn : hasNev l = true) : Calls Tryz.prog 27 #[qAgg b C, v] w (RingPost w 51 []) := by
  obtain ⟨ao, c, rfl, k1, k2⟩ := hl.shape
  have HC := hide (fun w => qCheck_any b C w)
  rw [if_pos h] at HC
  have HL := hide hl
  have HN := hide (fun w h => anyNever_any (.slice ao l.length c) l w h)
  rw [hn] at HN
  unfold qAgg at HC ⊢
  clear h hl hn
  go_enter Tryz.func27, Tryz.ntmps27
  go_wp2_with (first
    | (go_at_call 65; refine (HC.out _).mono ?_; rintro e w2 ⟨rfl, hb1⟩; have HB1 := hide (below_on (below_alloc (below_alloc (Below.refl _ w) _) _) hb1); clear hb1)
    | (go_at_call 66; refine (HN.out _ (HL.out.below HB1.out)).mono ?_; rintro e w3 ⟨rfl, hb2⟩))
  go_ret2
  exact ⟨below_on HB1.out hb2, .inl ⟨by decide, rfl, rfl⟩⟩
set_option maxRecDepth 100000 in
theorem ringFill_full (b : Int) (C : Int) (v : Value) (l : List Tk) (w : World) (hl : TAt w v l) (h : OkR b C) (hn : hasNev l = false) (hf : C < (l.length : Int)) : Calls Tryz.prog 27 #[qAgg b C, v] w (RingPost w 62 []) := by
  obtain ⟨ao, c, rfl, k1, k2⟩ := hl.shape
  have HC := hide (fun w => qCheck_any b C w)
  rw [if_pos h] at HC
  have HL := hide hl
  have HN := hide (fun w h => anyNever_any (.slice ao l.length c) l w h)
  rw [hn] at HN
  unfold qAgg at HC ⊢
  clear h hl hn
  obtain ⟨M, hM⟩ : ∃ M, M = l.length := ⟨_, rfl⟩
  rw [← hM] at hf k1 HL HN ⊢
  clear hM
  go_enter Tryz.func27, Tryz.ntmps27
  go_wp2_with (first
    | (go_at_call 65; refine (HC.out _).mono ?_; rintro e w2 ⟨rfl, hb1⟩; have HM1 := hide ((qm_two w 121 _ b C).below hb1); clear hb1)
    | (go_at_call 66; refine (HN.out _ (HL.out.below HM1.out.bel)).mono ?_; rintro e w3 ⟨rfl, hb2⟩; have hm2 := HM1.out.below hb2; obtain ⟨s0, s1⟩ := hm2.two; have HM2 := hide hm2; clear hb2 hm2))
  go_ret2
  exact ⟨HM2.out.bel, .inl ⟨by decide, rfl, rfl⟩⟩
/-- A shape of two in its box B, with the cells g. -/
structure QA (w : World) (B g : Nat) (ty : TypeId) (C : Int) (L : List Int) (X : World) : Prop where
  m : QM w B ty 0 C X
  a : ArrU X g L
  ne : B ≠ g
  hg : w.heap.size ≤ g
theorem QA.below {w : World} {B g : Nat} {ty : TypeId} {C : Int} {L : List Int} {X Y : World} (h : QA w B g ty C L X) (hb : Below X.heap.size X Y) : QA w B g ty C L Y :=
  ⟨h.m.below hb, h.a.below hb (lt_of_heap h.a), h.ne, h.hg⟩
theorem QA.drew {w : World} {B g : Nat} {ty : TypeId} {C : Int} {L : List Int} {X : World} (h : QA w B g ty C L X) : QA w B g ty C L X.drew := h.below (Below.refl _ _).drew
theorem QA.put {w : World} {B g : Nat} {ty : TypeId} {C : Int} {L : List Int} {X : World} (h : QA w B g ty C L X) (i : Nat) (x : Int) : QA w B g ty C (L.set i x) (X.setCell ⟨g, i, none⟩ (.int .u64 x)) :=
  ⟨⟨(Below.heap_setCell _ _ _ _ h.ne).trans h.m.bx, h.m.bel.setCell (p := ⟨g, i, none⟩) h.hg _, h.m.hB⟩, h.a.put i x, h.ne, h.hg⟩
theorem qa_made {w : World} {B : Nat} {ty : TypeId} {C : Int} {X : World} (n : Nat) (h : QM w B ty 0 C X) : QA w B X.heap.size ty C (tab n (fun _ => 0)) (X.alloc (.cells (madeCells #[.int .u64 0] n) 40)) :=
  ⟨h.below (below_alloc (Below.refl _ _) _), arru_new (heap_new _ _), Nat.ne_of_lt (lt_of_heap h.bx), h.bel.size⟩
set_option maxRecDepth 100000 in
set_option maxHeartbeats 8000000 in
theorem ringFill_good (b : Int) (C n : Nat) (v : Value) (l : List Tk) (w : World) (hl : TAt w v l) (htk : Tok l) (h : OkR b C) (hn : hasNev l = false) (hf : ¬ (C : Int) < l.length) (hnn : n = 2 + 3 * C) : Calls Tryz.prog 27 #[qAgg b C, v] w (RingPost w 0 (tab n (gR l l.length))) := by
  obtain ⟨i0, hi, hz0, hz1, hz2⟩ := info_parts Tryz.info40
  obtain ⟨ao, c, rfl, k1, k2⟩ := hl.shape
  have HC := hide (fun w => qCheck_any b C w)
  rw [if_pos h] at HC
  have HL := hide hl
  have HN := hide (fun w h => anyNever_any (.slice ao l.length c) l w h)
  rw [hn] at HN
  obtain ⟨⟨a1, a2⟩, a3, a4⟩ := h
  have HS := hide (fun w => qCells_any 0 C w a1 a2)
  have e0 : (2 + 3 * (C : Int)) = (n : Int) := by rw [hnn]; push_cast; rfl
  rw [e0] at HS
  have HTC := hide (fun w => tailCell_any C w)
  have hn8 : n ≤ 196610 := by omega
  have HNN := hide hnn
  have HE0 := hide e0
  unfold qAgg at HC HS HTC ⊢
  have hn0 : (0 : Int) < (n : Int) := by omega
  have hl0 : (0 : Int) ≤ (l.length : Int) := by omega
  clear hl hn htk e0 a4 hnn
  obtain ⟨M, hM⟩ : ∃ M, M = l.length := ⟨_, rfl⟩
  have HM := hide hM
  have HZ := hide (hR_zero l n)
  rw [← hM] at hf k1 HL HN HZ hl0 ⊢
  clear hM
  have hMC : (M : Int) ≤ (C : Int) := by omega
  clear hf
  go_enter Tryz.func27, Tryz.ntmps27
  go_wp2_with (first
    | (go_at_call 65; refine (HC.out _).mono ?_; rintro e w2 ⟨rfl, hb1⟩; have HM1 := hide ((qm_two w 121 _ b C).below hb1); clear hb1)
    | (go_at_call 66; refine (HN.out _ (HL.out.below HM1.out.bel)).mono ?_; rintro e w3 ⟨rfl, hb2⟩; have hm2 := HM1.out.below hb2; obtain ⟨s0, s1⟩ := hm2.two; have f0 := free_of hm2.bx 0; have HM2 := hide hm2.zero; clear hb2 hm2)
    | (go_at_call 67; refine (HS.out _).mono ?_; rintro e w4 ⟨rfl, hb4⟩; have HM4 := hide (HM2.out.below hb4); clear hb4 s0 s1 f0 HM2)
    | (at_make; refine wpList_make_row _ rfl _ _ 47 rfl 40 i0 (.int .u64 0) Tryz.underlying47 hi hz0 hz1 rfl _ _ n rfl rfl (by rw [hz2]; omega) (by omega) ?_; have HA := hide (qa_made n HM4.out); obtain ⟨g, hg⟩ : ∃ g, g = w4.heap.size := ⟨_, rfl⟩; rw [← hg] at HA ⊢; clear hg; obtain ⟨s0, s1⟩ := HA.out.m.two)
    | (go_at_call 68; refine (HTC.out _).mono ?_; rintro e w5 ⟨rfl, hb5⟩; have HA5 := hide (HA.out.below hb5); have k0 := HA5.out.a.cell 0 (by rw [tab_length]; omega); have f0 := HA5.out.a.free 0; clear hb5 s0 s1; obtain ⟨s0, s1⟩ := HA5.out.m.two))
  have HB := hide (HA5.out.put 0 (M : Int))
  rw [HZ.out] at HB
  clear HA HA5 HM4 HM1 HC HN HS HTC HZ k0 f0 s0 s1
  generalize (w5.setCell ⟨g, 0, none⟩ (.int .u64 (M : Int))) = w6 at HB ⊢
  go_loopw [38] (fun t wr => ∃ j : Nat, j ≤ C ∧ t = .int .i64 j ∧ QA w (w.heap.size + 1) g 121 C (tab n (hR l j)) wr) (fun t _ => C - (RowKit.intOf t).toNat)
  case atStart => exact ⟨0, by omega, rfl, HB.out⟩
  case round =>
    obtain ⟨j, hj, rfl, hfa⟩ := hrel
    clear HB
    obtain ⟨s0, s1⟩ := hfa.m.two
    by_cases hlt : j < C
    · have HT := hide (fun w => turnCell_any C j w (by omega) (by omega))
      have hnn := HNN.out
      obtain ⟨P, hP⟩ : ∃ P, P = 2 + 3 * j := ⟨_, rfl⟩
      have e1 : (2 + 3 * (j : Int)) = (P : Int) := by rw [hP]; push_cast; rfl
      rw [e1] at HT
      have i1 : (P : Int) < (n : Int) := by omega
      have HIN : Hid ((tab n (hR l j)).set P (j : Int) = tab n (hR l (j + 1))) := by rw [hP]; exact hR_step l n j
      have HMc := hide hfa
      unfold qAgg at HT
      clear hfa hnn e1 hP
      go_wp2_with fail
      refine (HT.out _).mono ?_
      rintro e w7 ⟨rfl, hb2⟩
      replace HMc := hide (HMc.out.below hb2)
      clear hb2 s0 s1
      have kK := HMc.out.a.cell P (by rw [tab_length]; omega)
      have fK := HMc.out.a.free P
      have hfin := HMc.out.put P (j : Int)
      rw [HIN.out] at hfin
      have HFIN := hide hfin
      clear hfin
      go_wp2
      go_roundw
      case rel => exact ⟨j + 1, by omega, by simp, HFIN.out⟩
      case measure => simp [RowKit.intOf]; omega
    · obtain rfl : j = C := by omega
      have HA := hide hfa
      rw [HNN.out, hR_last, ← HNN.out] at HA
      clear hfa
      go_wp2
      go_loopw [51] (fun t wr => ∃ k : Nat, k ≤ M ∧ t = .int .i64 k ∧ QA w (w.heap.size + 1) g 121 j (tab n (gR l k)) wr) (fun t _ => M - (RowKit.intOf t).toNat)
      case atStart => exact ⟨0, by omega, rfl, HA.out⟩
      case round =>
        obtain ⟨k, hk, rfl, hfa⟩ := hrel
        clear HA s0 s1
        by_cases hlt2 : k < M
        · obtain ⟨gl, ol, he, p0, p1⟩ := (HL.out.below hfa.m.bel).cellAt k (by have := HM.out; omega)
          subst he
          obtain ⟨x, hx⟩ : ∃ x, x = (tAt l k).1 := ⟨_, rfl⟩
          obtain ⟨y, hy⟩ : ∃ y, y = (tAt l k).2 := ⟨_, rfl⟩
          rw [← hx] at p0
          rw [← hy] at p1
          have hnn := HNN.out
          obtain ⟨P, hP⟩ : ∃ P, P = 2 + 3 * k := ⟨_, rfl⟩
          obtain ⟨K, hK⟩ : ∃ K, K = P + 1 := ⟨_, rfl⟩
          have HIN : Hid ((((tab n (gR l k)).set P ((k : Int) + 1)).set K x).set (K + 1) y = tab n (gR l (k + 1))) := by rw [hK, hP, hx, hy]; exact gR_step l n k
          have HT := hide (fun w => turnCell_any j k w (by omega) (by omega))
          have HK := hide (fun w => keyCellR_any j k w (by omega) (by omega))
          have HD := hide (fun w => loadCellR_any j k w (by omega) (by omega))
          have e1 : (2 + 3 * (k : Int)) = (P : Int) := by rw [hP]; push_cast; rfl
          have e2 : (P : Int) + 1 = (K : Int) := by rw [hK]; push_cast; rfl
          have e3 : (P : Int) + 2 = (K : Int) + 1 := by omega
          rw [e1] at HT HK HD
          rw [e2] at HK
          rw [e3] at HD
          unfold qAgg at HT HK HD
          have i1 : (P : Int) < (n : Int) := by omega
          have i2 : (K : Int) < (n : Int) := by omega
          have i3 : (K : Int) + 1 < (n : Int) := by omega
          have i5 : (0 : Int) ≤ (K : Int) + 1 := by omega
          have HF1 := hide (hfa.below (below_alloc (Below.refl _ wr) (.cells #[.int .u64 x, .int .u64 y] 42)))
          obtain ⟨s0, s1⟩ := hfa.m.two
          have hbz : w.heap.size + 1 < wr.heap.size := lt_of_heap hfa.m.bx
          have hDG : wr.heap.size ≠ g := (Nat.ne_of_lt (lt_of_heap hfa.a)).symm
          clear hfa hx hy hnn e1 e2 e3 hP hK
          go_wp2_with fail
          have hnb : (wr.alloc (.cells #[.int .u64 x, .int .u64 y] 42)).heap[wr.heap.size]? = some (.cells #[.int .u64 x, .int .u64 y] 42 (0, 0)) := heap_new _ _
          refine (HT.out _).mono ?_
          rintro e w7 ⟨rfl, hb7⟩
          have HQ := hide ((hb7.block _ (lt_of_heap hnb)).trans hnb)
          replace HF1 := hide (HF1.out.below hb7)
          clear hb7 hnb s0 s1 p0 p1 hbz
          obtain ⟨D, hD⟩ : ∃ D, D = wr.heap.size := ⟨_, rfl⟩
          rw [← hD] at HQ hDG ⊢
          clear hD
          have kK := HF1.out.a.cell P (by rw [tab_length]; omega)
          have fK := HF1.out.a.free P
          replace HF1 := hide (HF1.out.put P ((k : Int) + 1))
          replace HQ := hide ((Below.heap_setCell w7 ⟨g, P, none⟩ (.int .u64 ((k : Int) + 1)) D hDG).trans HQ.out)
          go_wp2_with fail
          clear kK fK
          generalize (w7.setCell ⟨g, P, none⟩ (.int .u64 ((k : Int) + 1))) = w8 at HF1 HQ ⊢
          have HSIX : Hid (∀ L X, QA w (w.heap.size + 1) g 121 j L X → X.heap[D]? = some (.cells #[.int .u64 x, .int .u64 y] 42 (0, 0)) → X.cell? ⟨w.heap.size + 1, 0, none⟩ = some (.int .i64 0) ∧ X.cell? ⟨w.heap.size + 1, 1, none⟩ = some (.int .i64 j) ∧ X.cell? ⟨D, 0, none⟩ = some (.int .u64 x) ∧ X.cell? ⟨D, 1, none⟩ = some (.int .u64 y)) := fun L X h1 h2 =>
            ⟨h1.m.two.1, h1.m.two.2, cell_of h2 rfl, cell_of h2 rfl⟩
          have HDG := hide hDG
          clear hDG
          obtain ⟨s0, s1, s2, s3⟩ := HSIX.out _ _ HF1.out HQ.out
          have HMc := hide HF1.out.drew
          have HQc : Hid (w8.drew.heap[D]? = some (.cells #[.int .u64 x, .int .u64 y] 42 (0, 0))) := HQ.out
          clear HF1 HQ
          go_region_held3 (fun x' => x'.cell? ⟨w.heap.size + 1, 0, none⟩ = some (.int .i64 0) ∧ x'.cell? ⟨w.heap.size + 1, 1, none⟩ = some (.int .i64 j) ∧ x'.cell? ⟨D, 0, none⟩ = some (.int .u64 x) ∧ x'.cell? ⟨D, 1, none⟩ = some (.int .u64 y))
            (first | go_keep | exact HSIX.out _ _ HMc.out HQc.out | exact HSIX.out _ _ (HMc.out.put _ _) ((Below.heap_setCell _ _ _ _ HDG.out).trans HQc.out) | exact HSIX.out _ _ ((HMc.out.put _ _).put _ _) ((Below.heap_setCell _ _ _ _ HDG.out).trans ((Below.heap_setCell _ _ _ _ HDG.out).trans HQc.out)))
            ((first
              | (go_at_call 70; refine (HK.out _).mono ?_; rintro e w9 ⟨rfl, hb2⟩; replace HMc := hide (HMc.out.below hb2); replace HQc := hide ((hb2.block _ (lt_of_heap HQc.out)).trans HQc.out); clear hb2; have kK := HMc.out.a.cell K (by simp [tab_length]; omega); have kK1 := HMc.out.a.cell (K + 1) (by simp [tab_length]; omega); have fK := HMc.out.a.free K; have fK1 := HMc.out.a.free (K + 1))
              | (go_at_call 71; refine (HD.out _).mono ?_; rintro e wa ⟨rfl, hb3⟩; replace HMc := hide (HMc.out.below hb3); replace HQc := hide ((hb3.block _ (lt_of_heap HQc.out)).trans HQc.out); clear hb3; have kK := HMc.out.a.cell K (by simp [tab_length]; omega); have kK1 := HMc.out.a.cell (K + 1) (by simp [tab_length]; omega); have fK := HMc.out.a.free K; have fK1 := HMc.out.a.free (K + 1))))
          have hfin := (HMc.out.put K x).put (K + 1) y
          rw [HIN.out] at hfin
          have HFIN := hide hfin
          rename_i hHeld
          clear hHeld kK kK1 fK fK1 s0 s1 s2 s3 HMc hfin
          go_wp2
          go_roundw
          case rel => exact ⟨k + 1, by omega, by simp, HFIN.out⟩
          case measure => simp [RowKit.intOf]; omega
        · obtain rfl : k = M := by omega
          have HA := hide hfa
          clear hfa
          have HLE := hide (tab_length n (gR l k))
          go_wp2
          go_ret2
          exact ⟨HA.out.m.bel, .inr ⟨rfl, g, HA.out.hg, by rw [HLE.out]; rfl, HA.out.a⟩⟩
end Go.Proofs.YtgjdjdgondpjeaaGreat
