/- steal's lay: what an Insert does that finds room. -/
import Derived.Test.YtmnicdankdapgaaT1
namespace Go.Proofs.Ytmnicdankdapgaa
open Go.RowKit Go.Lib
set_option linter.unusedVariables false
/-- The words are words. -/
def Wok (L : List Int) : Prop := ∀ i, i < L.length → 0 ≤ at_ L i ∧ at_ L i < 18446744073709551616
theorem Wok.set {L : List Int} (h : Wok L) {i : Nat} {x : Int} (h1 : 0 ≤ x) (h2 : x < 18446744073709551616) : Wok (L.set i x) := by
  intro j hj
  have hj' : j < L.length := by simpa using hj
  unfold at_
  rw [List.getElem?_set]
  by_cases e : i = j
  · subst e; simp [hj', h1, h2]
  · rw [if_neg e]; exact h j hj'
theorem Wok.zeros (n : Nat) : Wok (tab n (fun _ => 0)) := by
  intro i hi
  rw [tab_length] at hi
  rw [tab_at n _ i hi]
  omega
/-- Where the bottom of the deque v stands. -/
def bot (C v : Nat) : Nat := v * (2 + 2 * C) + 1
def keyOf (C v : Nat) (x : Int) : Nat := v * (2 + 2 * C) + 2 + 2 * (x % (C : Int)).toNat
def layS (C v : Nat) (L : List Int) (t : Tk) : List Int :=
  ((L.set (keyOf C v (at_ L (bot C v))) t.1).set (keyOf C v (at_ L (bot C v)) + 1) t.2).set (bot C v) (IntKind.u64.wrap (at_ L (bot C v) + 1))
theorem layS_length (C v : Nat) (L : List Int) (t : Tk) : (layS C v L t).length = L.length := by simp [layS]
theorem u64_wrap_rng (x : Int) : 0 ≤ IntKind.u64.wrap x ∧ IntKind.u64.wrap x < 18446744073709551616 := by
  have e : IntKind.u64.wrap x = x % 18446744073709551616 := by simp [IntKind.wrap, IntKind.bits, IntKind.signed]
  rw [e]; omega
theorem layS_wok {C v : Nat} {L : List Int} {t : Tk} (h : Wok L) (h1 : 0 ≤ t.1 ∧ t.1 < 18446744073709551616) (h2 : 0 ≤ t.2 ∧ t.2 < 18446744073709551616) : Wok (layS C v L t) :=
  ((h.set h1.1 h1.2).set h2.1 h2.2).set (u64_wrap_rng _).1 (u64_wrap_rng _).2

theorem ArrU.below {w w' : World} {g B : Nat} {l : List Int} (h : ArrU w g l) (k : Below B w w') (hb : g < B) : ArrU w' g l := (k.block g hb).trans h
/-- What lay has in memory: the shape's box B1, the task's B2, the cells g. -/
structure LM (w : World) (B1 B2 g : Nat) (W C T t0 t1 : Int) (L : List Int) (X : World) : Prop where
  b1 : X.heap[B1]? = some (.cells #[.int .i64 0, .int .i64 W, .int .i64 C, .int .i64 T] 92 (0, 0))
  b2 : X.heap[B2]? = some (.cells #[.int .u64 t0, .int .u64 t1] 35 (0, 0))
  a : ArrU X g L
  n1 : B1 ≠ g
  n2 : B2 ≠ g
  chg : Chg (fun k => k = g) w X
theorem LM.below {w : World} {B1 B2 g : Nat} {W C T t0 t1 : Int} {L : List Int} {X Y : World} (h : LM w B1 B2 g W C T t0 t1 L X) (hb : Below X.heap.size X Y) : LM w B1 B2 g W C T t0 t1 L Y :=
  ⟨(hb.block _ (lt_of_heap h.b1)).trans h.b1, (hb.block _ (lt_of_heap h.b2)).trans h.b2, h.a.below hb (lt_of_heap h.a), h.n1, h.n2, h.chg.trans (Chg.of_below hb)⟩
theorem LM.drew {w : World} {B1 B2 g : Nat} {W C T t0 t1 : Int} {L : List Int} {X : World} (h : LM w B1 B2 g W C T t0 t1 L X) : LM w B1 B2 g W C T t0 t1 L X.drew := h.below (Below.refl _ _).drew
theorem LM.put {w : World} {B1 B2 g : Nat} {W C T t0 t1 : Int} {L : List Int} {X : World} (h : LM w B1 B2 g W C T t0 t1 L X) (i : Nat) (x : Int) : LM w B1 B2 g W C T t0 t1 (L.set i x) (X.setCell ⟨g, i, none⟩ (.int .u64 x)) :=
  ⟨(Below.heap_setCell _ _ _ _ h.n1).trans h.b1, (Below.heap_setCell _ _ _ _ h.n2).trans h.b2, h.a.put i x, h.n1, h.n2, h.chg.setCell rfl _⟩
theorem LM.six {w : World} {B1 B2 g : Nat} {W C T t0 t1 : Int} {L : List Int} {X : World} (h : LM w B1 B2 g W C T t0 t1 L X) :
    X.cell? ⟨B1, 0, none⟩ = some (.int .i64 0) ∧ X.cell? ⟨B1, 1, none⟩ = some (.int .i64 W) ∧ X.cell? ⟨B1, 2, none⟩ = some (.int .i64 C) ∧ X.cell? ⟨B1, 3, none⟩ = some (.int .i64 T) ∧ X.cell? ⟨B2, 0, none⟩ = some (.int .u64 t0) ∧ X.cell? ⟨B2, 1, none⟩ = some (.int .u64 t1) :=
  ⟨cell_of h.b1 rfl, cell_of h.b1 rfl, cell_of h.b1 rfl, cell_of h.b1 rfl, cell_of h.b2 rfl, cell_of h.b2 rfl⟩
theorem lm_start {w : World} {g : Nat} (W C T t0 t1 : Int) {L : List Int} (hA : ArrU w g L) : LM w w.heap.size (w.heap.size + 1) g W C T t0 t1 L ((w.alloc (.cells #[.int .i64 0, .int .i64 W, .int .i64 C, .int .i64 T] 92)).alloc (.cells #[.int .u64 t0, .int .u64 t1] 35)) := by
  have hg : g < w.heap.size := lt_of_heap hA
  have e := heap_new (w.alloc (.cells #[.int .i64 0, .int .i64 W, .int .i64 C, .int .i64 T] 92)) (.cells #[.int .u64 t0, .int .u64 t1] 35)
  rw [show (w.alloc (.cells #[.int .i64 0, .int .i64 W, .int .i64 C, .int .i64 T] 92)).heap.size = w.heap.size + 1 by simp] at e
  exact ⟨(Below.heap_alloc _ _ _ (by simp)).trans (heap_new _ _), e, (Below.heap_alloc _ _ _ (by simp; omega)).trans ((Below.heap_alloc _ _ _ hg).trans hA), by omega, by omega, ((Chg.refl _ _).alloc _).alloc _⟩
theorem idx_le {v W C : Nat} (h : v < W) : v * (2 + 2 * C) + (2 + 2 * C) ≤ W * (2 + 2 * C) := by
  have := Nat.mul_le_mul_right (2 + 2 * C) (show v + 1 ≤ W from h)
  rw [Nat.add_mul, Nat.one_mul] at this
  exact this
theorem rem_toNat {x : Int} {C : Nat} (h : 1 ≤ C) : ((x % (C : Int)).toNat : Int) = x % (C : Int) ∧ (x % (C : Int)).toNat < C := by
  have h1 := Int.emod_nonneg x (show (C : Int) ≠ 0 by omega)
  have h2 := Int.emod_lt_of_pos x (show 0 < (C : Int) by omega)
  omega
set_option maxRecDepth 100000 in
set_option maxHeartbeats 4000000 in
theorem lay_any (W C v n g : Nat) (T t0 t1 : Int) (L : List Int) (w : World) (hA : ArrU w g L) (hL : L.length = n) (hn : n = W * (2 + 2 * C)) (hW : W ≤ 64) (hC1 : 1 ≤ C) (hC2 : C ≤ 65536) (hv : v < W) (hok : Wok L) :
    Calls Try.prog 54 #[sAgg 0 W C T, .slice (some ⟨g, 0, none⟩) n n, .int .i64 v, .agg #[.int .u64 t0, .int .u64 t1]] w fun e w' => e = .returned (.tuple #[]) ∧ ArrU w' g (layS C v L (t0, t1)) ∧ Chg (fun k => k = g) w w' := by
  have hix := idx_le (C := C) hv
  have hb : bot C v < n := by unfold bot; omega
  obtain ⟨x, hx⟩ : ∃ x, x = at_ L (bot C v) := ⟨_, rfl⟩
  have hxr := hok (bot C v) (by omega)
  rw [← hx] at hxr
  obtain ⟨hr1, hr2⟩ := rem_toNat (x := x) hC1
  have hk : keyOf C v x + 1 < n := by unfold keyOf; omega
  have hn64 : n ≤ 8388736 := by
    have := Nat.mul_le_mul hW (show 2 + 2 * C ≤ 131074 by omega)
    omega
  have HBC := hide (fun w => bottomCell_any 0 W C T v w (by omega) (by omega) (by omega) (by omega) (by omega) (by omega) (by omega))
  have HKC := hide (fun w => keyCell_any 0 W C T v x w (by omega) (by omega) (by omega) (by omega) (by omega) (by omega) (by omega) hxr.1 hxr.2)
  have HLC := hide (fun w => loadCell_any 0 W C T v x w (by omega) (by omega) (by omega) (by omega) (by omega) (by omega) (by omega) hxr.1 hxr.2)
  obtain ⟨B, hB⟩ : ∃ B, B = bot C v := ⟨_, rfl⟩
  obtain ⟨K, hK⟩ : ∃ K, K = keyOf C v x := ⟨_, rfl⟩
  have e1 : (0 + (v : Int) * (2 + 2 * (C : Int)) + 1) = (B : Int) := by rw [hB]; unfold bot; push_cast; omega
  have e2 : (0 + (v : Int) * (2 + 2 * (C : Int)) + 2 + 2 * (x % (C : Int))) = (K : Int) := by rw [hK]; unfold keyOf; push_cast; rw [hr1]; omega
  rw [e1] at HBC
  rw [e2] at HKC HLC
  have hlay : layS C v L (t0, t1) = ((L.set K t0).set (K + 1) t1).set B (IntKind.u64.wrap (x + 1)) := by unfold layS; rw [← hx, ← hB, ← hK]
  rw [← hB] at hb hx
  rw [← hK] at hk
  have HM0 := hide (lm_start W C T t0 t1 hA)
  have hLn := hL
  have HX := hide hx
  have HL := hide hL
  rw [hlay]
  clear hlay e1 e2 hB hK hr1 hr2 hix hn hok hLn hL hx hA
  have i1 : (K : Int) < (n : Int) := by omega
  have i2 : (K : Int) + 1 < (n : Int) := by omega
  have i3 : (B : Int) < (n : Int) := by omega
  have i4 : (0 : Int) ≤ (K : Int) + 1 := by omega
  unfold sAgg at HBC HKC HLC ⊢
  go_enter Try.func54, Try.ntmps54
  go_wp2_with fail
  refine (HBC.out _).mono ?_
  rintro e w1 ⟨rfl, hb1⟩
  have hm1 := HM0.out.below hb1
  have HM1 := hide hm1
  obtain ⟨s0, s1, s2, s3, s4, s5⟩ := hm1.six
  have sB := hm1.a.cell B (by have := HL.out; omega)
  rw [← HX.out] at sB
  clear hb1 hm1 HM0
  go_wp2_with fail
  have HMc := hide HM1.out.drew
  go_region_held3 (fun x => x.cell? ⟨w.heap.size, 0, none⟩ = some (.int .i64 0) ∧ x.cell? ⟨w.heap.size, 1, none⟩ = some (.int .i64 W) ∧ x.cell? ⟨w.heap.size, 2, none⟩ = some (.int .i64 C) ∧ x.cell? ⟨w.heap.size, 3, none⟩ = some (.int .i64 T) ∧ x.cell? ⟨w.heap.size + 1, 0, none⟩ = some (.int .u64 t0) ∧ x.cell? ⟨w.heap.size + 1, 1, none⟩ = some (.int .u64 t1))
    (first | go_keep | exact HMc.out.six | exact (HMc.out.put _ _).six | exact ((HMc.out.put _ _).put _ _).six)
    ((first
      | (go_at_call 69; refine (HKC.out _).mono ?_; rintro e w2 ⟨rfl, hb2⟩; replace HMc := hide (HMc.out.below hb2); clear hb2; have kK := HMc.out.a.cell K (by have := HL.out; omega); have kK1 := HMc.out.a.cell (K + 1) (by have := HL.out; omega); have fK := HMc.out.a.free K; have fK1 := HMc.out.a.free (K + 1))
      | (go_at_call 70; refine (HLC.out _).mono ?_; rintro e w3 ⟨rfl, hb3⟩; replace HMc := hide (HMc.out.below hb3); clear hb3; have kK := HMc.out.a.cell K (by have := HL.out; omega); have kK1 := HMc.out.a.cell (K + 1) (by have := HL.out; omega); have fK := HMc.out.a.free K; have fK1 := HMc.out.a.free (K + 1))))
  have hm4 := (HMc.out.put K t0).put (K + 1) t1
  rename_i hHeld
  clear hHeld kK kK1 fK fK1 s0 s1 s2 s3 s4 s5 sB HMc HM1
  generalize ((w3.setCell ⟨g, K, none⟩ (.int .u64 t0)).setCell ⟨g, K + 1, none⟩ (.int .u64 t1)) = w4 at hm4 ⊢
  obtain ⟨s0, s1, s2, s3, s4, s5⟩ := hm4.six
  have HM4 := hide hm4
  clear hm4
  go_wp2_with (go_at_call 53; refine (HBC.out _).mono ?_; rintro e w5 ⟨rfl, hb5⟩; have hm5 := HM4.out.below hb5; have HM5 := hide hm5; have sB := hm5.a.cell B (by simp; have := HL.out; omega); have fB := hm5.a.free B; clear hb5 hm5 HM4)
  have hm6 := HM5.out.put B (IntKind.u64.wrap (x + 1))
  go_end0
  exact ⟨rfl, hm6.a, hm6.chg⟩
end Go.Proofs.Ytmnicdankdapgaa
