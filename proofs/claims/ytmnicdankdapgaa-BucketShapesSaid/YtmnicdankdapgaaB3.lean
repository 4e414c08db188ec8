/- bucket: sizes and cells, plain; lay; overfull. -/
import Derived.Test.YtmnicdankdapgaaB2
namespace Go.Proofs.Ytmnicdankdapgaa
open Go.RowKit Go.Lib
set_option linter.unusedVariables false
theorem at_set (L : List Int) (i j : Nat) (x : Int) (hi : i < L.length) : at_ (L.set i x) j = if i = j then x else at_ L j := by
  unfold at_
  rw [List.getElem?_set]
  by_cases e : i = j
  · subst e; simp [hi]
  · rw [if_neg e, if_neg e]
/-- How many of the first k tasks go onto each stack. -/
def szB (S D : Int) (l : List Tk) : Nat → List Int
  | 0 => tab S.toNat (fun _ => 0)
  | k + 1 => (szB S D l k).set (stk S D (tAt l k).1) (at_ (szB S D l k) (stk S D (tAt l k).1) + 1)
theorem szB_length (S D : Int) (l : List Tk) (k : Nat) : (szB S D l k).length = S.toNat := by
  induction k with
  | zero => exact tab_length _ _
  | succ k ih => simp [szB, ih]
/-- The stack of the task k, and how high it is ahead of it. -/
def stB (S D : Int) (l : List Tk) (k : Nat) : Nat := stk S D (tAt l k).1
def hiB (S D : Int) (l : List Tk) (k : Nat) : Int := at_ (szB S D l k) (stB S D l k)
theorem stB_lt {S D : Int} {l : List Tk} {k : Nat} (h : 1 ≤ S) : stB S D l k < S.toNat := by
  have := (stk_is (D := D) (x := (tAt l k).1) h).2
  unfold stB; omega
def ovB (S C D : Int) (l : List Tk) : Option Nat := first (fun k => decide (hiB S D l k = C)) l.length
/-- Up to the task k no stack has run over. -/
def Fit (S C D : Int) (l : List Tk) (k : Nat) : Prop := ∀ j, j < k → hiB S D l j ≠ C
theorem szB_rng {S C D : Int} {l : List Tk} (hS : 1 ≤ S) (hC : 1 ≤ C) (k : Nat) (h : Fit S C D l k) : ∀ s, s < S.toNat → 0 ≤ at_ (szB S D l k) s ∧ at_ (szB S D l k) s ≤ C := by
  induction k with
  | zero =>
    intro s hs
    show 0 ≤ at_ (tab S.toNat (fun _ => 0)) s ∧ at_ (tab S.toNat (fun _ => 0)) s ≤ C
    rw [tab_at _ _ _ hs]; omega
  | succ k ih =>
    intro s hs
    have ihk := ih (fun j hj => h j (by omega))
    have hne := h k (by omega)
    have hst := stB_lt (D := D) (l := l) (k := k) hS
    show 0 ≤ at_ ((szB S D l k).set (stB S D l k) (hiB S D l k + 1)) s ∧ at_ ((szB S D l k).set (stB S D l k) (hiB S D l k + 1)) s ≤ C
    rw [at_set _ _ _ _ (by rw [szB_length]; exact hst)]
    have h1 := ihk _ hst
    by_cases e : stB S D l k = s
    · rw [if_pos e]
      have : hiB S D l k = at_ (szB S D l k) (stB S D l k) := rfl
      omega
    · rw [if_neg e]; exact ihk s hs
/-- The cells behind the first k tasks. -/
def sizeAt (C s : Nat) : Nat := s * (2 + 2 * C) + 1
def keyAt (C s n : Nat) : Nat := s * (2 + 2 * C) + 2 + 2 * n
def layB (C s n : Nat) (L : List Int) (t : Tk) : List Int := ((L.set (keyAt C s n) t.1).set (keyAt C s n + 1) t.2).set (sizeAt C s) ((n : Int) + 1)
def cB (N C : Nat) (S D : Int) (l : List Tk) : Nat → List Int
  | 0 => tab N (fun _ => 0)
  | k + 1 => layB C (stB S D l k) (hiB S D l k).toNat (cB N C S D l k) (tAt l k)
theorem cB_length (N C : Nat) (S D : Int) (l : List Tk) (k : Nat) : (cB N C S D l k).length = N := by
  induction k with
  | zero => exact tab_length _ _
  | succ k ih => simp [cB, layB, ih]
theorem apart {C s s' r : Nat} (h1 : 2 ≤ r) (h2 : r < 2 + 2 * C) : s * (2 + 2 * C) + r ≠ sizeAt C s' := by
  intro h
  unfold sizeAt at h
  have e := congrArg (· % (2 + 2 * C)) h
  simp only [Nat.mul_comm s, Nat.mul_comm s', Nat.mul_add_mod] at e
  rw [Nat.mod_eq_of_lt h2, Nat.mod_eq_of_lt (by omega)] at e
  omega
theorem sizeAt_inj {C s s' : Nat} (h : sizeAt C s = sizeAt C s') : s = s' := by
  unfold sizeAt at h
  exact Nat.eq_of_mul_eq_mul_right (show 0 < 2 + 2 * C by omega) (by omega)
/-- The size cells tell the sizes. -/
theorem cB_size {N C : Nat} {S D : Int} {l : List Tk} (hS : 1 ≤ S) (hC : 1 ≤ C) (hN : N = S.toNat * (2 + 2 * C)) (k : Nat) (h : Fit S C D l k) : ∀ s, s < S.toNat → at_ (cB N C S D l k) (sizeAt C s) = at_ (szB S D l k) s := by
  induction k with
  | zero =>
    intro s hs
    have := idx_le (C := C) hs
    show at_ (tab N (fun _ => 0)) (sizeAt C s) = at_ (tab S.toNat (fun _ => 0)) s
    rw [tab_at _ _ _ (by unfold sizeAt; omega), tab_at _ _ _ hs]
  | succ k ih =>
    intro s hs
    have hk : Fit S C D l k := fun j hj => h j (by omega)
    have ihk := ih hk
    have hne := h k (by omega)
    have hst := stB_lt (D := D) (l := l) (k := k) hS
    have hr := szB_rng hS (show (1 : Int) ≤ (C : Int) by omega) k hk _ hst
    have hix := idx_le (C := C) hst
    have hn : (hiB S D l k).toNat < C := by
      have : hiB S D l k = at_ (szB S D l k) (stB S D l k) := rfl
      omega
    have hne1 : ∀ s', keyAt C (stB S D l k) (hiB S D l k).toNat ≠ sizeAt C s' := fun s' => by
      unfold keyAt; rw [Nat.add_assoc]; exact apart (by omega) (by omega)
    have hne2 : ∀ s', keyAt C (stB S D l k) (hiB S D l k).toNat + 1 ≠ sizeAt C s' := fun s' => by
      unfold keyAt; rw [Nat.add_assoc, Nat.add_assoc]; exact apart (by omega) (by omega)
    show at_ (layB C (stB S D l k) (hiB S D l k).toNat (cB N C S D l k) (tAt l k)) (sizeAt C s) = at_ ((szB S D l k).set (stB S D l k) (hiB S D l k + 1)) s
    unfold layB
    have eR := at_set (szB S D l k) (stB S D l k) s (hiB S D l k + 1) (by rw [szB_length]; exact hst)
    have e1 := at_set (cB N C S D l k) (keyAt C (stB S D l k) (hiB S D l k).toNat) (sizeAt C s) (tAt l k).1 (by rw [cB_length]; unfold keyAt; omega)
    have e2 := at_set ((cB N C S D l k).set (keyAt C (stB S D l k) (hiB S D l k).toNat) (tAt l k).1) (keyAt C (stB S D l k) (hiB S D l k).toNat + 1) (sizeAt C s) (tAt l k).2 (by rw [List.length_set, cB_length]; unfold keyAt; omega)
    have e3 := at_set (((cB N C S D l k).set (keyAt C (stB S D l k) (hiB S D l k).toNat) (tAt l k).1).set (keyAt C (stB S D l k) (hiB S D l k).toNat + 1) (tAt l k).2) (sizeAt C (stB S D l k)) (sizeAt C s) (((hiB S D l k).toNat : Int) + 1) (by rw [List.length_set, List.length_set, cB_length]; unfold sizeAt; omega)
    rw [eR, e3]
    by_cases e : stB S D l k = s
    · rw [if_pos (by rw [e]), if_pos e]
      have : hiB S D l k = at_ (szB S D l k) (stB S D l k) := rfl
      omega
    · rw [if_neg (fun k => e (sizeAt_inj k)), if_neg e, e2, if_neg (hne2 s), e1, if_neg (hne1 s)]
      exact ihk s hs
/-- What bucket's lay has in memory. -/
structure LB (w : World) (B1 B2 g : Nat) (W S C D t0 t1 : Int) (L : List Int) (X : World) : Prop where
  b1 : X.heap[B1]? = some (.cells #[.int .i64 0, .int .i64 W, .int .i64 S, .int .i64 C, .int .u64 D] 108 (0, 0))
  b2 : X.heap[B2]? = some (.cells #[.int .u64 t0, .int .u64 t1] 35 (0, 0))
  a : ArrU X g L
  n1 : B1 ≠ g
  n2 : B2 ≠ g
  chg : Chg (fun k => k = g) w X
theorem LB.below {w : World} {B1 B2 g : Nat} {W S C D t0 t1 : Int} {L : List Int} {X Y : World} (h : LB w B1 B2 g W S C D t0 t1 L X) (hb : Below X.heap.size X Y) : LB w B1 B2 g W S C D t0 t1 L Y :=
  ⟨(hb.block _ (lt_of_heap h.b1)).trans h.b1, (hb.block _ (lt_of_heap h.b2)).trans h.b2, h.a.below hb (lt_of_heap h.a), h.n1, h.n2, h.chg.trans (Chg.of_below hb)⟩
theorem LB.drew {w : World} {B1 B2 g : Nat} {W S C D t0 t1 : Int} {L : List Int} {X : World} (h : LB w B1 B2 g W S C D t0 t1 L X) : LB w B1 B2 g W S C D t0 t1 L X.drew := h.below (Below.refl _ _).drew
theorem LB.put {w : World} {B1 B2 g : Nat} {W S C D t0 t1 : Int} {L : List Int} {X : World} (h : LB w B1 B2 g W S C D t0 t1 L X) (i : Nat) (x : Int) : LB w B1 B2 g W S C D t0 t1 (L.set i x) (X.setCell ⟨g, i, none⟩ (.int .u64 x)) :=
  ⟨(Below.heap_setCell _ _ _ _ h.n1).trans h.b1, (Below.heap_setCell _ _ _ _ h.n2).trans h.b2, h.a.put i x, h.n1, h.n2, h.chg.setCell rfl _⟩
theorem LB.seven {w : World} {B1 B2 g : Nat} {W S C D t0 t1 : Int} {L : List Int} {X : World} (h : LB w B1 B2 g W S C D t0 t1 L X) :
    X.cell? ⟨B1, 0, none⟩ = some (.int .i64 0) ∧ X.cell? ⟨B1, 1, none⟩ = some (.int .i64 W) ∧ X.cell? ⟨B1, 2, none⟩ = some (.int .i64 S) ∧ X.cell? ⟨B1, 3, none⟩ = some (.int .i64 C) ∧ X.cell? ⟨B1, 4, none⟩ = some (.int .u64 D) ∧ X.cell? ⟨B2, 0, none⟩ = some (.int .u64 t0) ∧ X.cell? ⟨B2, 1, none⟩ = some (.int .u64 t1) :=
  ⟨cell_of h.b1 rfl, cell_of h.b1 rfl, cell_of h.b1 rfl, cell_of h.b1 rfl, cell_of h.b1 rfl, cell_of h.b2 rfl, cell_of h.b2 rfl⟩
theorem lb_start {w : World} {g : Nat} (W S C D t0 t1 : Int) {L : List Int} (hA : ArrU w g L) : LB w w.heap.size (w.heap.size + 1) g W S C D t0 t1 L ((w.alloc (.cells #[.int .i64 0, .int .i64 W, .int .i64 S, .int .i64 C, .int .u64 D] 108)).alloc (.cells #[.int .u64 t0, .int .u64 t1] 35)) := by
  have hg : g < w.heap.size := lt_of_heap hA
  obtain ⟨e1, e2⟩ := box52 w (.int .i64 0) (.int .i64 W) (.int .i64 S) (.int .i64 C) (.int .u64 D) (.int .u64 t0) (.int .u64 t1) 108 35
  exact ⟨e1, e2, (Below.heap_alloc _ _ _ (by simp; omega)).trans ((Below.heap_alloc _ _ _ hg).trans hA), by omega, by omega, ((Chg.refl _ _).alloc _).alloc _⟩
set_option maxRecDepth 100000 in
set_option maxHeartbeats 4000000 in
theorem layB_any (S C s n N g : Nat) (W D t0 t1 : Int) (L : List Int) (w : World) (hA : ArrU w g L) (hL : L.length = N) (hN : N = S * (2 + 2 * C)) (hS1 : 1 ≤ S) (hS2 : S ≤ 1024) (hC1 : 1 ≤ C) (hC2 : C ≤ 65536) (hD1 : 1 ≤ D) (hD2 : D < 18446744073709551616) (hst : stk S D t0 = s) (hs : s < S) (hn : at_ L (sizeAt C s) = (n : Int)) (hnC : n < C) (ht1 : 0 ≤ t0) (ht2 : t0 < 18446744073709551616) :
    Calls Try.prog 62 #[bAgg 0 W S C D, .slice (some ⟨g, 0, none⟩) N N, .agg #[.int .u64 t0, .int .u64 t1]] w fun e w' => e = .returned (.tuple #[]) ∧ ArrU w' g (layB C s n L (t0, t1)) ∧ Chg (fun k => k = g) w w' := by
  have hix := idx_le (C := C) hs
  have HSO := hide (fun w => stackOf_any 0 W S C D t0 t1 w (by omega) (by omega) hD1 hD2 ht1 ht2)
  rw [hst] at HSO
  have HSZ := hide (fun w => sizeCell_any 0 W S C D s w (by omega) (by omega) (by omega) (by omega) (by omega) (by omega) (by omega))
  have HCO := hide (fun w => count_any 0 W S C D n w (by omega) (by omega) (by omega))
  have HKC := hide (fun w => keyCellB_any 0 W S C D s n w (by omega) (by omega) (by omega) (by omega) (by omega) (by omega) (by omega) (by omega) (by omega))
  have HLC := hide (fun w => loadCellB_any 0 W S C D s n w (by omega) (by omega) (by omega) (by omega) (by omega) (by omega) (by omega) (by omega) (by omega))
  obtain ⟨B, hB⟩ : ∃ B, B = sizeAt C s := ⟨_, rfl⟩
  obtain ⟨K, hK⟩ : ∃ K, K = keyAt C s n := ⟨_, rfl⟩
  have hBN : B < N := by rw [hB]; unfold sizeAt; omega
  have hKN : K + 1 < N := by rw [hK]; unfold keyAt; omega
  have e1 : (0 + (s : Int) * (2 + 2 * (C : Int)) + 1) = (B : Int) := by rw [hB]; unfold sizeAt; push_cast; omega
  have e2 : (0 + (s : Int) * (2 + 2 * (C : Int)) + 2 + 2 * (n : Int)) = (K : Int) := by rw [hK]; unfold keyAt; push_cast; omega
  rw [e1] at HSZ
  rw [e2] at HKC HLC
  have hlay : layB C s n L (t0, t1) = ((L.set K t0).set (K + 1) t1).set B ((n : Int) + 1) := by unfold layB; rw [← hB, ← hK]
  rw [hlay]
  rw [← hB] at hn
  have HM0 := hide (lb_start W S C D t0 t1 hA)
  have HL := hide hL
  have HN := hide hn
  have hN64 : N ≤ 134219776 := by
    have := Nat.mul_le_mul hS2 (show 2 + 2 * C ≤ 131074 by omega)
    omega
  clear hlay e1 e2 hB hK hix hN hL hn hA hst
  have i1 : (K : Int) < (N : Int) := by omega
  have i2 : (K : Int) + 1 < (N : Int) := by omega
  have i3 : (B : Int) < (N : Int) := by omega
  have i4 : (0 : Int) ≤ (K : Int) + 1 := by omega
  unfold bAgg at HSO HSZ HCO HKC HLC ⊢
  go_enter Try.func62, Try.ntmps62
  go_wp2_with fail
  refine (HSO.out _).mono ?_
  rintro e w1 ⟨rfl, hb1⟩
  have hm1 := HM0.out.below hb1
  obtain ⟨s0, s1, s2, s3, s4, s5, s6⟩ := hm1.seven
  have sB := hm1.a.cell B (by have := HL.out; omega)
  rw [HN.out] at sB
  have HM1 := hide hm1
  have x0 := gw_cell s0; have x1 := gw_cell s1; have x2 := gw_cell s2; have x3 := gw_cell s3; have x4 := gw_cell s4; have xB := gw_cell sB
  clear hb1 hm1 HM0 s0 s1 s2 s3 s4 s5 s6 sB
  go_wp2_with fail
  refine wp_region_gw (by kernel_rfl) (by kernel_rfl) ?_
  repeat (go_big_quiet_step (first
    | (go_at_call 74; exact gw_of (HSZ.out _))
    | (go_at_call 73; exact gw_of (HCO.out _))
    | rfl))
  refine wpQuiet_nil ?_
  intro _ hw'
  obtain ⟨x, hw''⟩ := hw'
  subst hw''
  have hm2 := HM1.out.below x.bel
  generalize x.world = w2 at hm2 ⊢
  clear x0 x1 x2 x3 x4 xB x HM1
  obtain ⟨s0, s1, s2, s3, s4, s5, s6⟩ := hm2.seven
  have HMc := hide hm2.drew
  clear hm2
  go_wp2_with fail
  go_region_held3 (fun x => x.cell? ⟨w.heap.size, 0, none⟩ = some (.int .i64 0) ∧ x.cell? ⟨w.heap.size, 1, none⟩ = some (.int .i64 W) ∧ x.cell? ⟨w.heap.size, 2, none⟩ = some (.int .i64 S) ∧ x.cell? ⟨w.heap.size, 3, none⟩ = some (.int .i64 C) ∧ x.cell? ⟨w.heap.size, 4, none⟩ = some (.int .u64 D) ∧ x.cell? ⟨w.heap.size + 1, 0, none⟩ = some (.int .u64 t0) ∧ x.cell? ⟨w.heap.size + 1, 1, none⟩ = some (.int .u64 t1))
    (first | go_keep | exact HMc.out.seven | exact (HMc.out.put _ _).seven | exact ((HMc.out.put _ _).put _ _).seven)
    ((first
      | (go_at_call 75; refine (HKC.out _).mono ?_; rintro e w3 ⟨rfl, hb2⟩; replace HMc := hide (HMc.out.below hb2); clear hb2; have kK := HMc.out.a.cell K (by have := HL.out; omega); have kK1 := HMc.out.a.cell (K + 1) (by have := HL.out; omega); have fK := HMc.out.a.free K; have fK1 := HMc.out.a.free (K + 1))
      | (go_at_call 76; refine (HLC.out _).mono ?_; rintro e w4 ⟨rfl, hb3⟩; replace HMc := hide (HMc.out.below hb3); clear hb3; have kK := HMc.out.a.cell K (by have := HL.out; omega); have kK1 := HMc.out.a.cell (K + 1) (by have := HL.out; omega); have fK := HMc.out.a.free K; have fK1 := HMc.out.a.free (K + 1))))
  have hm4 := (HMc.out.put K t0).put (K + 1) t1
  rename_i hHeld
  clear hHeld kK kK1 fK fK1 s0 s1 s2 s3 s4 s5 s6 HMc
  generalize ((w4.setCell ⟨g, K, none⟩ (.int .u64 t0)).setCell ⟨g, K + 1, none⟩ (.int .u64 t1)) = w5 at hm4 ⊢
  obtain ⟨s0, s1, s2, s3, s4, s5, s6⟩ := hm4.seven
  have HM4 := hide hm4
  clear hm4
  go_wp2_with (go_at_call 74; refine (HSZ.out _).mono ?_; rintro e w6 ⟨rfl, hb5⟩; have hm5 := HM4.out.below hb5; have HM5 := hide hm5; have sB := hm5.a.cell B (by simp; have := HL.out; omega); have fB := hm5.a.free B; clear hb5 hm5 HM4)
  have hm6 := HM5.out.put B ((n : Int) + 1)
  go_end0
  exact ⟨rfl, hm6.a, hm6.chg⟩
end Go.Proofs.Ytmnicdankdapgaa
