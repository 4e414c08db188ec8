/- steal.Fill. -/
import Derived.Test.YtmnicdankdapgaaS3
namespace Go.Proofs.Ytmnicdankdapgaa
open Go.RowKit Go.Lib
set_option linter.unusedVariables false
theorem Try.info33 : (Try.prog.info? 33).map (fun i => (i.zero, i.size, i.bytes)) = some (some (.int .u64 0), 1, 8) := by kernel_rfl
theorem Try.info35 : (Try.prog.info? 35).map (fun i => (i.zero, i.size, i.bytes)) = some (some (.agg #[.int .u64 0, .int .u64 0]), 2, 16) := by kernel_rfl
def iniS (n C : Nat) : Nat → List Int
  | 0 => tab n (fun _ => 0)
  | j + 1 => ((iniS n C j).set (j * (2 + 2 * C)) 1).set (j * (2 + 2 * C) + 1) 1
theorem iniS_length (n C j : Nat) : (iniS n C j).length = n := by
  induction j with
  | zero => exact tab_length _ _
  | succ j ih => simp [iniS, ih]
theorem iniS_wok (n C j : Nat) : Wok (iniS n C j) := by
  induction j with
  | zero => exact Wok.zeros n
  | succ j ih => exact (ih.set (by omega) (by omega)).set (by omega) (by omega)
def fillS (n W C : Nat) (l : List Tk) : Nat → List Int
  | 0 => iniS n C W
  | k + 1 => layS C (k % W) (fillS n W C l k) (tAt l k)
theorem fillS_length (n W C : Nat) (l : List Tk) (k : Nat) : (fillS n W C l k).length = n := by
  induction k with
  | zero => exact iniS_length _ _ _
  | succ k ih => simp [fillS, layS_length, ih]
theorem fillS_wok {n W C : Nat} {l : List Tk} (h : Tok l) (k : Nat) (hk : k ≤ l.length) : Wok (fillS n W C l k) := by
  induction k with
  | zero => exact iniS_wok _ _ _
  | succ k ih => exact layS_wok (ih (by omega)) (h k (by omega)).1 (h k (by omega)).2
def errS (b W C T : Int) (l : List Tk) : Int := if OkS b W C T then (if hasNev l = true then 51 else if W * C < (l.length : Int) then 62 else 0) else 60
def ansS (b W C T : Int) (l : List Tk) : List Int := if errS b W C T l = 0 then fillS (W * (2 + 2 * C)).toNat W.toNat C.toNat l l.length else []
def FillPost (w : World) (err : Int) (ans : List Int) (e : Ending) (w' : World) : Prop := ∃ rv, e = .returned (.tuple #[rv, .int .i64 err]) ∧ RowAt .u64 w' rv ans ∧ Below w.heap.size w w'
theorem RowAt.nil (k : IntKind) (w : World) : RowAt k w (.slice none 0 0) [] := ⟨none, 0, rfl, by simp, by omega, (fun _ => rfl), (fun a ha => by cases ha)⟩
set_option maxRecDepth 100000 in
theorem stealFill_shape (b W C T : Int) (v : Value) (l : List Tk) (w : World) (hl : TAt w v l) (h : ¬ OkS b W C T) : Calls Try.prog 18 #[sAgg b W C T, v] w (FillPost w 60 []) := by
  obtain ⟨ao, c, rfl, k1, k2⟩ := hl.shape
  have HC := hide (fun w => sCheck_any b W C T w)
  rw [if_neg h] at HC
  unfold sAgg at HC ⊢
  clear h hl
  go_enter Try.func18, Try.ntmps18
  go_wp2_with (go_at_call 49; refine (HC.out _).mono ?_; rintro e w2 ⟨rfl, hb1⟩)
  go_ret2
  exact ⟨_, rfl, RowAt.nil _ _, below_on (below_alloc (below_alloc (Below.refl _ _) _) _) hb1⟩
set_option maxRecDepth 100000 in
theorem stealFill_never (b W C T : Int) (v : Value) (l : List Tk) (w : World) (hl : TAt w v l) (h : OkS b W C T) (hn : hasNev l = true) : Calls Try.prog 18 #[sAgg b W C T, v] w (FillPost w 51 []) := by
  obtain ⟨ao, c, rfl, k1, k2⟩ := hl.shape
  have HC := hide (fun w => sCheck_any b W C T w)
  rw [if_pos h] at HC
  have HL := hide hl
  have HN := hide (fun w h => anyNever_any (.slice ao l.length c) l w h)
  rw [hn] at HN
  unfold sAgg at HC ⊢
  clear h hl hn
  go_enter Try.func18, Try.ntmps18
  go_wp2_with (first
    | (go_at_call 49; refine (HC.out _).mono ?_; rintro e w2 ⟨rfl, hb1⟩; have HB1 := hide (below_on (below_alloc (below_alloc (Below.refl _ w) _) _) hb1); clear hb1)
    | (go_at_call 44; refine (HN.out _ (HL.out.below HB1.out)).mono ?_; rintro e w3 ⟨rfl, hb2⟩))
  go_ret2
  exact ⟨_, rfl, RowAt.nil _ _, below_on HB1.out hb2⟩
theorem ok_nat {b W C T : Int} (h : OkS b W C T) : ∃ W' C' : Nat, W = (W' : Int) ∧ C = (C' : Int) ∧ 1 ≤ W' ∧ W' ≤ 64 ∧ 1 ≤ C' ∧ C' ≤ 65536 := by
  obtain ⟨⟨h1, h2, h3, h4, _⟩, _⟩ := h
  exact ⟨W.toNat, C.toNat, by omega, by omega, by omega, by omega, by omega, by omega⟩
/-- A shape in its box B. -/
structure FM (w : World) (B : Nat) (ty : TypeId) (b W C T : Int) (X : World) : Prop where
  bx : X.heap[B]? = some (.cells #[.int .i64 b, .int .i64 W, .int .i64 C, .int .i64 T] ty (0, 0))
  bel : Below w.heap.size w X
  hB : w.heap.size ≤ B
theorem FM.below {w : World} {B : Nat} {ty : TypeId} {b W C T : Int} {X Y : World} (h : FM w B ty b W C T X) (hb : Below X.heap.size X Y) : FM w B ty b W C T Y :=
  ⟨(hb.block _ (lt_of_heap h.bx)).trans h.bx, below_on h.bel hb, h.hB⟩
theorem FM.four {w : World} {B : Nat} {ty : TypeId} {b W C T : Int} {X : World} (h : FM w B ty b W C T X) :
    X.cell? ⟨B, 0, none⟩ = some (.int .i64 b) ∧ X.cell? ⟨B, 1, none⟩ = some (.int .i64 W) ∧ X.cell? ⟨B, 2, none⟩ = some (.int .i64 C) ∧ X.cell? ⟨B, 3, none⟩ = some (.int .i64 T) :=
  ⟨cell_of h.bx rfl, cell_of h.bx rfl, cell_of h.bx rfl, cell_of h.bx rfl⟩
theorem FM.zero {w : World} {B : Nat} {ty : TypeId} {b W C T : Int} {X : World} (h : FM w B ty b W C T X) : FM w B ty 0 W C T (X.setCell ⟨B, 0, none⟩ (.int .i64 0)) :=
  ⟨by rw [heap_set h.bx]; rfl, h.bel.setCell (p := ⟨B, 0, none⟩) h.hB _, h.hB⟩
theorem fm_one (w : World) (ty : TypeId) (b W C T : Int) : FM w w.heap.size ty b W C T (w.alloc (.cells #[.int .i64 b, .int .i64 W, .int .i64 C, .int .i64 T] ty)) :=
  ⟨heap_new _ _, below_alloc (Below.refl _ _) _, Nat.le_refl _⟩
theorem fm_two (w : World) (ty : TypeId) (o : Obj) (b W C T : Int) : FM w (w.heap.size + 1) ty b W C T ((w.alloc o).alloc (.cells #[.int .i64 b, .int .i64 W, .int .i64 C, .int .i64 T] ty)) := by
  have e := heap_new (w.alloc o) (.cells #[.int .i64 b, .int .i64 W, .int .i64 C, .int .i64 T] ty)
  rw [show (w.alloc o).heap.size = w.heap.size + 1 by simp] at e
  exact ⟨e, below_alloc (below_alloc (Below.refl _ _) _) _, by omega⟩
set_option maxRecDepth 100000 in
theorem stealFill_full (b T : Int) (W C : Nat) (v : Value) (l : List Tk) (w : World) (hl : TAt w v l) (h : OkS b W C T) (hn : hasNev l = false) (hf : (W : Int) * C < l.length) (hb : l.length * 16 ≤ 140737488355328) : Calls Try.prog 18 #[sAgg b W C T, v] w (FillPost w 62 []) := by
  obtain ⟨ao, c, rfl, k1, k2⟩ := hl.shape
  have HC := hide (fun w => sCheck_any b W C T w)
  rw [if_pos h] at HC
  have HL := hide hl
  have HN := hide (fun w h => anyNever_any (.slice ao l.length c) l w h)
  rw [hn] at HN
  have p1 : (W : Int) * C ≤ 4194304 := by
    have := Int.mul_le_mul (show (W : Int) ≤ 64 from h.1.2.1) (show (C : Int) ≤ 65536 from h.1.2.2.2.1) (by omega) (by omega)
    omega
  have p2 : 0 ≤ (W : Int) * C := Int.mul_nonneg (by omega) (by omega)
  unfold sAgg at HC ⊢
  clear h hl hn
  obtain ⟨M, hM⟩ : ∃ M, M = l.length := ⟨_, rfl⟩
  rw [← hM] at hf hb k1 HL HN ⊢
  clear hM
  go_enter Try.func18, Try.ntmps18
  go_wp2_with (first
    | (go_at_call 49; refine (HC.out _).mono ?_; rintro e w2 ⟨rfl, hb1⟩; have HM1 := hide ((fm_two w 92 _ b W C T).below hb1); clear hb1)
    | (go_at_call 44; refine (HN.out _ (HL.out.below HM1.out.bel)).mono ?_; rintro e w3 ⟨rfl, hb2⟩; have hm2 := HM1.out.below hb2; obtain ⟨s0, s1, s2, s3⟩ := hm2.four; have HM2 := hide hm2; clear hb2 hm2))
  go_ret2
  exact ⟨_, rfl, RowAt.nil _ _, HM2.out.bel⟩
theorem arru_new {w : World} {g n : Nat} (h : w.heap[g]? = some (.cells (madeCells #[.int .u64 0] n) 33 (0, 0))) : ArrU w g (tab n (fun _ => 0)) := by
  unfold ArrU
  rw [h]
  have e : madeCells #[Value.int .u64 0] n = uCells (tab n (fun _ => 0)) := by
    apply Array.ext'
    apply List.ext_getElem
    · simp [madeCells, uCells, tab]
    · intro i h1 h2
      simp [madeCells, uCells, tab, Nat.mod_one]
  rw [e]
/-- A shape in its box B, with the cells g. -/
structure FA (w : World) (B g : Nat) (ty : TypeId) (W C T : Int) (L : List Int) (X : World) : Prop where
  m : FM w B ty 0 W C T X
  a : ArrU X g L
  ne : B ≠ g
  hg : w.heap.size ≤ g
theorem FA.below {w : World} {B g : Nat} {ty : TypeId} {W C T : Int} {L : List Int} {X Y : World} (h : FA w B g ty W C T L X) (hb : Below X.heap.size X Y) : FA w B g ty W C T L Y :=
  ⟨h.m.below hb, h.a.below hb (lt_of_heap h.a), h.ne, h.hg⟩
theorem FA.drew {w : World} {B g : Nat} {ty : TypeId} {W C T : Int} {L : List Int} {X : World} (h : FA w B g ty W C T L X) : FA w B g ty W C T L X.drew := h.below (Below.refl _ _).drew
theorem FA.put {w : World} {B g : Nat} {ty : TypeId} {W C T : Int} {L : List Int} {X : World} (h : FA w B g ty W C T L X) (i : Nat) (x : Int) : FA w B g ty W C T (L.set i x) (X.setCell ⟨g, i, none⟩ (.int .u64 x)) :=
  ⟨⟨(Below.heap_setCell _ _ _ _ h.ne).trans h.m.bx, h.m.bel.setCell (p := ⟨g, i, none⟩) h.hg _, h.m.hB⟩, h.a.put i x, h.ne, h.hg⟩
theorem FA.chg {w : World} {B g : Nat} {ty : TypeId} {W C T : Int} {L L' : List Int} {X Y : World} (h : FA w B g ty W C T L X) (k : Chg (fun k => k = g) X Y) (hA : ArrU Y g L') : FA w B g ty W C T L' Y :=
  ⟨⟨k.heap h.m.bx h.ne, Chg.below h.m.bel k (fun i hi => by rw [hi]; exact h.hg) h.m.bel.size, h.m.hB⟩, hA, h.ne, h.hg⟩
theorem fa_made {w : World} {B : Nat} {ty : TypeId} {W C T : Int} {X : World} (n : Nat) (h : FM w B ty 0 W C T X) : FA w B X.heap.size ty W C T (tab n (fun _ => 0)) (X.alloc (.cells (madeCells #[.int .u64 0] n) 33)) :=
  ⟨h.below (below_alloc (Below.refl _ _) _), arru_new (heap_new _ _), Nat.ne_of_lt (lt_of_heap h.bx), h.bel.size⟩
set_option maxRecDepth 100000 in
set_option maxHeartbeats 8000000 in
theorem stealFill_good (b T : Int) (W C n : Nat) (v : Value) (l : List Tk) (w : World) (hl : TAt w v l) (htk : Tok l) (h : OkS b W C T) (hn : hasNev l = false) (hf : ¬ (W : Int) * C < l.length) (hnn : n = W * (2 + 2 * C)) : Calls Try.prog 18 #[sAgg b W C T, v] w (FillPost w 0 (fillS n W C l l.length)) := by
  obtain ⟨i0, hi, hz0, hz1, hz2⟩ := info_parts Try.info33
  obtain ⟨ao, c, rfl, k1, k2⟩ := hl.shape
  have HC := hide (fun w => sCheck_any b W C T w)
  rw [if_pos h] at HC
  have HL := hide hl
  have HTK := hide htk
  have HN := hide (fun w h => anyNever_any (.slice ao l.length c) l w h)
  rw [hn] at HN
  obtain ⟨⟨a1, a2, a3, a4, a5, a6⟩, a7, a8⟩ := h
  have p1 : (W : Int) * C ≤ 4194304 := by
    have := Int.mul_le_mul a2 a4 (by omega) (by omega)
    omega
  have p2 : 0 ≤ (W : Int) * C := Int.mul_nonneg (by omega) (by omega)
  have HS := hide (fun w => sCells_any 0 W C T w a1 a2 a3 a4)
  have e0 : (W : Int) * (2 + 2 * (C : Int)) = (n : Int) := by rw [hnn]; push_cast; rfl
  have hn8 := (prod_le a1 a2 a3 a4).2
  rw [e0] at HS hn8
  have HNN := hide hnn
  unfold sAgg at HC HS ⊢
  clear hl hn htk e0 a8 hnn
  obtain ⟨M, hM⟩ : ∃ M, M = l.length := ⟨_, rfl⟩
  rw [← hM] at hf k1 HL HN ⊢
  have HM := hide hM
  clear hM
  go_enter Try.func18, Try.ntmps18
  go_wp2_with (first
    | (go_at_call 49; refine (HC.out _).mono ?_; rintro e w2 ⟨rfl, hb1⟩; have HM1 := hide ((fm_two w 92 _ b W C T).below hb1); clear hb1)
    | (go_at_call 44; refine (HN.out _ (HL.out.below HM1.out.bel)).mono ?_; rintro e w3 ⟨rfl, hb2⟩; have hm2 := HM1.out.below hb2; obtain ⟨s0, s1, s2, s3⟩ := hm2.four; have f0 := free_of hm2.bx 0; have HM2 := hide hm2.zero; clear hb2 hm2)
    | (go_at_call 50; refine (HS.out _).mono ?_; rintro e w4 ⟨rfl, hb4⟩; have HM4 := hide (HM2.out.below hb4); clear hb4 s0 s1 s2 s3 f0 HM2)
    | (at_make; refine wpList_make_row _ rfl _ _ 30 rfl 33 i0 (.int .u64 0) Try.underlying30 hi hz0 hz1 rfl _ _ n rfl rfl (by rw [hz2]; omega) (by omega) ?_; have HA := hide (fa_made n HM4.out); have sW := cell_of HA.out.m.bx (i := 1) rfl))
  obtain ⟨g, hg⟩ : ∃ g, g = w4.heap.size := ⟨_, rfl⟩
  rw [← hg] at HA ⊢
  clear hg HM4 HM1 HC HN HS sW
  go_loopw [34] (fun t wr => ∃ j : Nat, j ≤ W ∧ t = .int .i64 j ∧ FA w (w.heap.size + 1) g 92 W C T (iniS n C j) wr) (fun t _ => W - (RowKit.intOf t).toNat)
  case atStart => exact ⟨0, by omega, rfl, HA.out⟩
  case round =>
    obtain ⟨j, hj, rfl, hfa⟩ := hrel
    clear HA
    by_cases hlt : j < W
    · have HT := hide (fun w => topCell_any 0 W C T j w (by omega) (by omega) a2 a3 a4 (by omega) (by omega))
      have HB := hide (fun w => bottomCell_any 0 W C T j w (by omega) (by omega) a2 a3 a4 (by omega) (by omega))
      have hix := idx_le (C := C) hlt
      have hnn := HNN.out
      obtain ⟨P, hP⟩ : ∃ P, P = j * (2 + 2 * C) := ⟨_, rfl⟩
      have e1 : (0 + (j : Int) * (2 + 2 * (C : Int))) = (P : Int) := by rw [hP]; push_cast; omega
      rw [e1] at HT HB
      have i1 : (P : Int) < (n : Int) := by omega
      have i2 : (P : Int) + 1 < (n : Int) := by omega
      have i4 : (0 : Int) ≤ (P : Int) + 1 := by omega
      have HIN : Hid (iniS n C (j + 1) = ((iniS n C j).set P 1).set (P + 1) 1) := by rw [hP]; rfl
      have HLN := hide (iniS_length n C j)
      obtain ⟨s0, s1, s2, s3⟩ := hfa.m.four
      have HMc := hide hfa.drew
      unfold sAgg at HT HB
      clear hfa hnn hix e1 hP
      go_wp2_with fail
      go_region_held3 (fun x => x.cell? ⟨w.heap.size + 1, 0, none⟩ = some (.int .i64 0) ∧ x.cell? ⟨w.heap.size + 1, 1, none⟩ = some (.int .i64 W) ∧ x.cell? ⟨w.heap.size + 1, 2, none⟩ = some (.int .i64 C) ∧ x.cell? ⟨w.heap.size + 1, 3, none⟩ = some (.int .i64 T))
        (first | go_keep | exact HMc.out.m.four | exact (HMc.out.put _ _).m.four | exact ((HMc.out.put _ _).put _ _).m.four)
        ((first
          | (go_at_call 52; refine (HT.out _).mono ?_; rintro e w5 ⟨rfl, hb2⟩; replace HMc := hide (HMc.out.below hb2); clear hb2; have kK := HMc.out.a.cell P (by have := HLN.out; omega); have kK1 := HMc.out.a.cell (P + 1) (by have := HLN.out; omega); have fK := HMc.out.a.free P; have fK1 := HMc.out.a.free (P + 1))
          | (go_at_call 53; refine (HB.out _).mono ?_; rintro e w6 ⟨rfl, hb3⟩; replace HMc := hide (HMc.out.below hb3); clear hb3; have kK := HMc.out.a.cell P (by have := HLN.out; omega); have kK1 := HMc.out.a.cell (P + 1) (by have := HLN.out; omega); have fK := HMc.out.a.free P; have fK1 := HMc.out.a.free (P + 1))))
      all_goals
        have hfin := (HMc.out.put P 1).put (P + 1) 1
        rw [← HIN.out] at hfin
        go_wp2
        go_roundw
        case rel => exact ⟨j + 1, by omega, by simp, hfin⟩
        case measure => simp [RowKit.intOf]; omega
    · obtain rfl : j = W := by omega
      have HA := hide hfa
      clear hfa
      go_wp2
      go_loopw [50] (fun t wr => ∃ k : Nat, k ≤ M ∧ t = .int .i64 k ∧ FA w (w.heap.size + 1) g 92 j C T (fillS n j C l k) wr) (fun t _ => M - (RowKit.intOf t).toNat)
      case atStart => exact ⟨0, by omega, rfl, HA.out⟩
      case round =>
        obtain ⟨k, hk, rfl, hfa⟩ := hrel
        clear HA
        by_cases hlt2 : k < M
        · obtain ⟨gl, ol, he, p0, p1'⟩ := (HL.out.below hfa.m.bel).cellAt k (by have := HM.out; omega)
          subst he
          have htk := HTK.out k (by have := HM.out; omega)
          obtain ⟨x, hx⟩ : ∃ x, x = (tAt l k).1 := ⟨_, rfl⟩
          obtain ⟨y, hy⟩ : ∃ y, y = (tAt l k).2 := ⟨_, rfl⟩
          have HFI : Hid (fillS n j C l (k + 1) = layS C (k % j) (fillS n j C l k) (x, y)) := by rw [hx, hy]; rfl
          rw [← hx] at p0
          rw [← hy] at p1'
          have HLY := hide (fun X hA => lay_any j C (k % j) n g T x y (fillS n j C l k) X hA (fillS_length n j C l k) HNN.out (by omega) (by omega) (by omega) (Nat.mod_lt _ (by omega)) (fillS_wok HTK.out k (by have := HM.out; omega)))
          rw [Int.natCast_emod] at HLY
          unfold sAgg at HLY
          have HF1 := hide (hfa.below (below_alloc (Below.refl _ wr) (.cells #[.int .u64 x, .int .u64 y] 35)))
          obtain ⟨s0, s1, s2, s3⟩ := hfa.m.four
          have hj0 : ¬ (j : Int) = 0 := by omega
          have hj1 : (0 : Int) < (j : Int) := by omega
          have hbz : w.heap.size + 1 < wr.heap.size := lt_of_heap hfa.m.bx
          have hDG : wr.heap.size ≠ g := (Nat.ne_of_lt (lt_of_heap hfa.a)).symm
          have hjn : ¬ j = 0 := by omega
          have hjb : ((j : Int) == 0) = false := by simp; omega
          clear hfa hx hy htk
          go_wp2_with fail
          have hnb : (wr.alloc (.cells #[.int .u64 x, .int .u64 y] 35)).heap[wr.heap.size]? = some (.cells #[.int .u64 x, .int .u64 y] 35 (0, 0)) := heap_new _ _
          have q0 := cell_of hnb (i := 0) rfl
          have q1 := cell_of hnb (i := 1) rfl
          obtain ⟨D, hD⟩ : ∃ D, D = wr.heap.size := ⟨_, rfl⟩
          have HDG : Hid (D ≠ g) := by rw [hD]; exact hDG
          rw [← hD] at q0 q1 hnb ⊢
          have HQ := hide hnb
          clear s0 s1 s2 s3 p0 p1' hbz hnb hD hDG
          generalize (wr.alloc (.cells #[.int .u64 x, .int .u64 y] 35)) = w5 at q0 q1 HF1 HQ ⊢
          obtain ⟨s0, s1, s2, s3⟩ := HF1.out.m.four
          have HMc := hide HF1.out.drew
          clear HF1
          go_region_held3 (fun x' => x'.cell? ⟨w.heap.size + 1, 0, none⟩ = some (.int .i64 0) ∧ x'.cell? ⟨w.heap.size + 1, 1, none⟩ = some (.int .i64 j) ∧ x'.cell? ⟨w.heap.size + 1, 2, none⟩ = some (.int .i64 C) ∧ x'.cell? ⟨w.heap.size + 1, 3, none⟩ = some (.int .i64 T) ∧ x'.cell? ⟨D, 0, none⟩ = some (.int .u64 x) ∧ x'.cell? ⟨D, 1, none⟩ = some (.int .u64 y))
            (first | go_keep | exact ⟨r0, r1, r2, r3, t0, t1⟩)
            ((go_at_call 54; refine (HLY.out _ HMc.out.a).mono ?_; rintro e w6 ⟨rfl, hA6, hC6⟩; replace HMc := hide (HMc.out.chg hC6 hA6); have hq := hC6.heap (k := D) HQ.out HDG.out; have t0 := cell_of hq (i := 0) rfl; have t1 := cell_of hq (i := 1) rfl; obtain ⟨r0, r1, r2, r3⟩ := HMc.out.m.four; clear hA6 hC6 hq))
          rw [← HFI.out] at HMc
          rename_i hHeld
          clear hHeld r0 r1 r2 r3 t0 t1
          go_wp2
          go_roundw
          case rel => exact ⟨k + 1, by omega, by simp, HMc.out⟩
          case measure => simp [RowKit.intOf]; omega
        · obtain rfl : k = M := by omega
          have HA := hide hfa
          clear hfa
          go_wp2
          go_ret2
          exact ⟨_, rfl, HA.out.a.row (fillS_length _ _ _ _ _) (by omega), HA.out.m.bel⟩
end Go.Proofs.Ytmnicdankdapgaa
