import Derived.Test.YtiohimbifjlfdaaWkG
import Derived.Test.YtiohimbifjlfdaaPc
import Derived.Test.YtiohimbifjlfdaaRIter
import Derived.Test.YtiohimbifjlfdaaTrFl
import Derived.Test.YtiohimbifjlfdaaGT
import Derived.Test.YtiohimbifjlfdaaRpR
import Derived.Deep.RegionHeld3
import Derived.Laws.EntriesVeiled
import Derived.Deep.Draws
import Derived.Test.YtiohimbifjlfdaaNb
import Derived.Test.YtiohimbifjlfdaaKw
/- leave, where there is room; what a walk of leaving has in memory. -/
namespace Go.Proofs.Ytiohimbifjlfdaa
open Go.RowKit Go.Lib
set_option linter.unusedVariables false
set_option linter.unusedSimpArgs false
set_option maxRecDepth 100000 in
set_option maxHeartbeats 2000000 in
/-- One more is left, in its place. -/
theorem leave_fits (Lb base A k cap : Nat) (l : List Int) (u : Int) (w : World) (hk : l.length = k) (hb : w.heap[Lb]? = some (.cells #[.slice (some ⟨A, 0, none⟩) k cap] 25 (0, 0))) (ho : w.ownsRow base 3 1 (.slice (some ⟨A, 0, none⟩) k cap) k (ivs l)) (hno : A ≠ Lb) (hl : k + 1 ≤ cap) :
    Calls Try.prog 56 #[.int .i64 u, .pointer (some ⟨Lb, 0, none⟩)] w fun e w' => e = .returned (.tuple #[]) ∧ w'.heap[Lb]? = some (.cells #[.slice (some ⟨A, 0, none⟩) (k + 1) cap] 25 (0, 0)) ∧ w'.ownsRow base 3 1 (.slice (some ⟨A, 0, none⟩) (k + 1) cap) (k + 1) (ivs (l ++ [u])) ∧ Chg (fun k => k = Lb ∨ k = A) w w' := by
  obtain ⟨i3, hi3, hz3, hs3, hy3⟩ := info_parts Try.info3q
  have c0 := cell_of hb (i := 0) rfl
  have HB := hide hb
  have HO := hide (own_chg (S := fun _ => False) ho ((Chg.refl _ w).alloc (.cells #[.int .i64 u] 3)) (fun _ _ h => h))
  have HNO := hide hno; have HL := hide hl
  clear hb ho hno hk hl
  go_enter Try.func56, Try.ntmps56
  go_wp2_with (first
    | (at_builtin; refine wpList_append_fits _ rfl (.tmp 3) (.tmp 5) 25 rfl base 3 i3 1 Try.underlying25 hi3 hs3 A k cap (ivs l) rfl HO.out ⟨w.heap.size, 0, none⟩ 1 1 [.int .i64 u] rfl rfl (one_at w _ _) (by simp [Value.oneCell']) HL.out ?_; intro w8 hown hgrow; have hc8 : Chg (fun k => k = A) w w8 := ((Chg.refl _ w).alloc _).grown hgrow (fun k hk => .inl (by cases hk; rfl)); have hb8 : w8.heap[Lb]? = some (.cells #[.slice (some ⟨A, 0, none⟩) k cap] 25 (0, 0)) := hc8.heap HB.out (fun h => HNO.out h.symm); have z0 := cell_of hb8 (i := 0) rfl; have zf := free_of hb8 0; have HC8 := hide hc8; have HB8 := hide hb8; have HO8 := hide hown; clear hown hgrow hc8 hb8)
    | fail)
  first | go_end0 | refine bodyPost_ret (results_none rfl _ _ _) rfl ?_
  refine ⟨rfl, heap_set HB8.out _, ?_, (HC8.out.mono (fun k hk => .inr hk)).setCell (p := ⟨Lb, 0, none⟩) (.inl rfl) _⟩
  have := own_chg (S := fun k => k = Lb) HO8.out ((Chg.refl (fun k => k = Lb) w8).setCell (p := ⟨Lb, 0, none⟩) rfl (.slice (some ⟨A, 0, none⟩) (k + 1) cap)) (fun k hk => by cases hk; exact HNO.out)
  rw [show ivs (l ++ [u]) = ivs l ++ [.int .i64 u] by simp [ivs]]
  exact this
/-- Numbers as ints. -/
def nts (L : List Nat) : List Int := L.map (fun v : Nat => (v : Int))
theorem nts_snoc (L : List Nat) (u : Nat) : nts (L ++ [u]) = nts L ++ [(u : Int)] := by simp [nts]
theorem nts_length (L : List Nat) : (nts L).length = L.length := by simp [nts]
/-- leaving under way: met, left, and the way. -/
structure LJ (n : Nat) (s t : Nat → Nat) (Mb C Lb A : Nat) (m : Nat) (l : List (Nat × Nat)) (W : World) (K : Nat → Bool) (L : List Nat) : Prop where
  ds : DS n s t L l
  kk : ∀ v, v < n → (K v = true ↔ v ∈ L ++ l.map Prod.fst)
  m : m = unp s K n + wpt s l
  mbx : W.heap[Mb]? = some (.cells #[.slice (some ⟨C, 0, none⟩) n n] 42 (0, 0))
  car : BArr W C (btab n K)
  lbx : W.heap[Lb]? = some (.cells #[.slice (some ⟨A, 0, none⟩) L.length n] 25 (0, 0))
  own : W.ownsRow A 3 1 (.slice (some ⟨A, 0, none⟩) L.length n) L.length (ivs (nts L))
  ne : C ≠ Mb ∧ C ≠ Lb ∧ C ≠ A ∧ A ≠ Mb ∧ A ≠ Lb ∧ Lb ≠ Mb
section
variable {n : Nat} {s t : Nat → Nat} {Mb C Lb A : Nat} {m : Nat} {l : List (Nat × Nat)} {W W' : World} {K : Nat → Bool} {L : List Nat}
/-- What it may turn. -/
def LT (C Lb A : Nat) (k : Nat) : Prop := k = C ∨ k = Lb ∨ k = A
theorem LJ.old (h : LJ n s t Mb C Lb A m l W K L) {B : Nat} (hB : ∀ k, k < B → W'.heap[k]? = W.heap[k]?) (h1 : Mb < B) (h2 : C < B) (h3 : Lb < B) (h4 : A < B) : LJ n s t Mb C Lb A m l W' K L := by
  refine ⟨h.ds, h.kk, h.m, (hB _ h1).trans h.mbx, (hB _ h2).trans h.car, (hB _ h3).trans h.lbx, ?_, h.ne⟩
  obtain ⟨a1, ⟨he, _⟩ | ⟨g, cap, cur, he, b1, b2, b3⟩⟩ := h.own
  · simp at he
  · simp only [Value.slice.injEq, Option.some.injEq, Addr.mk.injEq, and_true, true_and] at he
    obtain ⟨rfl, rfl⟩ := he
    exact ⟨a1, .inr ⟨A, n, cur, rfl, b1, (hB _ h4).trans b2, b3⟩⟩
/-- v is met. -/
theorem LJ.met (h : LJ n s t Mb C Lb A m l W K L) (v : Nat) {l' : List (Nat × Nat)} {m' : Nat} (hv : v < n) (hd : DS n s t L l') (hl : ∀ u, u < n → (u ∈ L ++ l'.map Prod.fst ↔ u ∈ L ++ l.map Prod.fst ∨ u = v)) (hm : m' = unp s (updK K v) n + wpt s l') : LJ n s t Mb C Lb A m' l' (W.setCell ⟨C, v, none⟩ (.bool true)) (updK K v) L ∧ Chg (LT C Lb A) W (W.setCell ⟨C, v, none⟩ (.bool true)) := by
  obtain ⟨e1, e2, e3, e4, e5, e6⟩ := h.ne
  have hc : Chg (fun k => k = C) W (W.setCell ⟨C, v, none⟩ (.bool true)) := (Chg.refl (fun k => k = C) W).setCell (p := ⟨C, v, none⟩) rfl _
  refine ⟨⟨hd, fun u hu => ?_, hm, hc.heap h.mbx (fun e => e1 e.symm), h.car.put v true, hc.heap h.lbx (fun e => e2 e.symm), own_chg h.own hc (fun g hg => by cases hg; exact fun e => e3 e.symm), h.ne⟩, hc.mono fun k hk => .inl hk⟩
  rw [hl u hu]
  unfold updK
  by_cases e : u = v
  · simp [e]
  · rw [if_neg e, h.kk u hu]
    simp [e]
theorem LJ.pass (h : LJ n s t Mb C Lb A m l W K L) {l' : List (Nat × Nat)} {m' : Nat} (hd : DS n s t L l') (hl : l'.map Prod.fst = l.map Prod.fst) (hm : m' = unp s K n + wpt s l') : LJ n s t Mb C Lb A m' l' W K L :=
  ⟨hd, by rw [hl]; exact h.kk, hm, h.mbx, h.car, h.lbx, h.own, h.ne⟩
end
set_option maxRecDepth 100000 in
/-- The first is entered, or was met. -/
theorem lj_first {n : Nat} {s t : Nat → Nat} {Mb C Lb A m : Nat} {W : World} {K : Nat → Bool} {L : List Nat} (h : LJ n s t Mb C Lb A m [] W K L) (v : Nat) (hv : v < n) (hs : s v ≤ s (v + 1)) :
    Calls Try.prog 55 (#[.int .i64 (v : Int)] ++ #[.pointer (some ⟨Mb, 0, none⟩)]) W fun e w' => Chg (LT C Lb A) W w' ∧ ((e = .returned (.bool false) ∧ (∃ m' K' L', LJ n s t Mb C Lb A m' [] w' K' L' ∧ (∀ u, u < n → K u = true → K' u = true) ∧ K' v = true)) ∨ (e = .returned (.bool true) ∧ ∃ m' K' L', LJ n s t Mb C Lb A m' [(v, s v)] w' K' L' ∧ (∀ u, u < n → K u = true → K' u = true) ∧ K' v = true)) := by
  cases hK : K v with
  | true =>
    refine (enter_met n v C Mb K W (cell_of h.mbx rfl) h.car hv hK).mono ?_
    rintro e w' ⟨rfl, rfl⟩
    exact ⟨Chg.refl _ _, .inl ⟨rfl, m, K, L, h, fun u _ hu => hu, hK⟩⟩
  | false =>
    refine (enter_new n v C Mb K W (cell_of h.mbx rfl) h.car hv hK).mono ?_
    rintro e w' ⟨rfl, rfl⟩
    have hm : ¬ v ∈ L ++ ([] : List (Nat × Nat)).map Prod.fst := fun hc => by rw [(h.kk v hv).2 hc] at hK; cases hK
    obtain ⟨h1, h2⟩ := h.met v (l' := [(v, s v)]) hv (by simpa using h.ds.enter hs hv hm (fun l a he => by simp at he)) (fun u _ => by simp) rfl
    exact ⟨h2, .inr ⟨rfl, _, _, _, h1, fun u _ hu => by unfold updK; split <;> simp [hu], by unfold updK; simp⟩⟩
set_option maxRecDepth 100000 in
theorem lj_next {n : Nat} {s t : Nat → Nat} {Mb C Lb A m : Nat} {W : World} {K : Nat → Bool} {L : List Nat} {l : List (Nat × Nat)} {u p : Nat} (h : LJ n s t Mb C Lb A m (l ++ [(u, p)]) W K L) (hp : p < s (u + 1)) (hv : t p < n) (hs : s (t p) ≤ s (t p + 1)) :
    Calls Try.prog 55 (#[.int .i64 ((t p : Nat) : Int)] ++ #[.pointer (some ⟨Mb, 0, none⟩)]) W fun e w' => Chg (LT C Lb A) W w' ∧ ((e = .returned (.bool false) ∧ (∃ m' K' L', m' < m ∧ LJ n s t Mb C Lb A m' (l ++ [(u, p + 1)]) w' K' L' ∧ (∀ u, u < n → K u = true → K' u = true))) ∨ (e = .returned (.bool true) ∧ ∃ m' K' L', m' < m ∧ LJ n s t Mb C Lb A m' (l ++ [(u, p + 1)] ++ [(t p, s (t p))]) w' K' L' ∧ (∀ u, u < n → K u = true → K' u = true))) := by
  have hu : u < n := h.ds.lt u (by simp)
  have hm0 := h.m
  cases hK : K (t p) with
  | true =>
    refine (enter_met n (t p) C Mb K W (cell_of h.mbx rfl) h.car hv hK).mono ?_
    rintro e w' ⟨rfl, rfl⟩
    exact ⟨Chg.refl _ _, .inl ⟨rfl, _, K, L, by rw [hm0]; exact pot_pass s K n u p l hp, h.pass (h.ds.pass hp ((h.kk _ hv).1 hK)) (by simp) rfl, fun u _ hu => hu⟩⟩
  | false =>
    refine (enter_new n (t p) C Mb K W (cell_of h.mbx rfl) h.car hv hK).mono ?_
    rintro e w' ⟨rfl, rfl⟩
    have hm : ¬ t p ∈ L ++ (l ++ [(u, p)]).map Prod.fst := fun hc => by rw [(h.kk _ hv).2 hc] at hK; cases hK
    have hpl := h.ds.pl (u, p) (by simp)
    have hE : EE n s t u (t p) := ⟨hu, p, hpl.1, hp, rfl⟩
    obtain ⟨h1, h2⟩ := h.met (t p) (l' := l ++ [(u, p + 1)] ++ [(t p, s (t p))]) (m' := unp s (updK K (t p)) n + wpt s (l ++ [(u, p + 1)] ++ [(t p, s (t p))])) hv (h.ds.step hp hs hv hm hE) (fun x _ => by simp only [List.map_append, List.mem_append, List.map_cons, List.map_nil, List.mem_singleton, or_assoc]) rfl
    exact ⟨h2, .inr ⟨rfl, _, _, _, by rw [hm0]; exact pot_enter s K n u p (t p) l hp hK hv, h1, fun u _ hu => by unfold updK; split <;> simp [hu]⟩⟩
set_option maxRecDepth 100000 in
theorem lj_leave {n : Nat} {s t : Nat → Nat} {Mb C Lb A m : Nat} {W : World} {K : Nat → Bool} {L : List Nat} {l : List (Nat × Nat)} {u : Nat} (h : LJ n s t Mb C Lb A m (l ++ [(u, s (u + 1))]) W K L) :
    Calls Try.prog 56 (#[.int .i64 (u : Int)] ++ #[.pointer (some ⟨Lb, 0, none⟩)]) W fun e w' => e = .returned (.tuple #[]) ∧ Chg (LT C Lb A) W w' ∧ ∃ m' K' L', m' < m ∧ LJ n s t Mb C Lb A m' l w' K' L' ∧ (∀ u, u < n → K u = true → K' u = true) := by
  have hf := h.ds.few
  have hm0 := h.m
  obtain ⟨e1, e2, e3, e4, e5, e6⟩ := h.ne
  refine (leave_fits Lb A A L.length n (nts L) (u : Int) W (nts_length L) h.lbx h.own e5 (by simp at hf; omega)).mono ?_
  rintro e w' ⟨rfl, h1, h2, h3⟩
  have hl : (L ++ [u]).length = L.length + 1 := by simp
  refine ⟨rfl, h3.mono (fun k hk => by rcases hk with hk | hk; exact .inr (.inl hk); exact .inr (.inr hk)), _, K, L ++ [u], by rw [hm0]; exact pot_leave s K n u (s (u + 1)) l, ⟨h.ds.leave, fun v hv => ?_, rfl, ?_, ?_, by rw [hl]; exact h1, by rw [hl, nts_snoc]; exact h2, h.ne⟩, fun u _ hu => hu⟩
  · rw [h.kk v hv]
    simp
    constructor <;> (intro hx; rcases hx with hx | hx | hx <;> simp [hx])
  · exact h3.heap h.mbx (fun hk => by rcases hk with hk | hk; exact e6 hk.symm; exact e4 hk.symm)
  · exact h3.heap h.car (fun hk => by rcases hk with hk | hk; exact e2 hk; exact e3 hk)
end Go.Proofs.Ytiohimbifjlfdaa

/- leaving. -/
namespace Go.Proofs.Ytiohimbifjlfdaa
open Go.RowKit Go.Lib
set_option linter.unusedVariables false
set_option linter.unusedSimpArgs false
theorem Try.infoBL : (Try.prog.info? 4).map (fun i => (i.zero, i.size, i.bytes)) = some (some (.bool false), 1, 1) := by kernel_rfl
theorem run_makeL (k : Nat) (hk : k ≤ 4194305) (w : World) :
    (Instr.makeSlice 42 (.int .i64 k) (.int .i64 k)).run Try.prog w = .ok (.slice (some ⟨w.heap.size, 0, none⟩) k k) (w.alloc (.cells (madeCells #[.bool false] k) 4)) := by
  obtain ⟨i0, hi, hz0, hz1, hz2⟩ := info_parts Try.infoBL
  have h := run_make (P := Try.prog) w 42 4 i0 (.bool false) Try.underlying42 hi hz0 .i64 .i64 k k (by omega) (Int.le_refl _) (by rw [hz2]; omega) (by omega)
  rw [hz1] at h
  simp only [Int.toNat_natCast, Nat.mul_one] at h
  exact h
theorem four_newL (w : World) (o1 o2 o3 o4 : Obj) : let x := (((w.alloc o1).alloc o2).alloc o3).alloc o4
    x.heap[w.heap.size]? = some o1 ∧ x.heap[w.heap.size + 1]? = some o2 ∧ x.heap[w.heap.size + 1 + 1]? = some o3 ∧ x.heap[w.heap.size + 1 + 1 + 1]? = some o4 ∧ Below w.heap.size w x ∧ x.heap.size = w.heap.size + 4 := by
  refine ⟨?_, ?_, ?_, ?_, below_alloc (below_alloc (below_alloc (below_alloc (Below.refl _ _) _) _) _) _, by simp⟩
  · exact (Below.heap_alloc _ _ _ (by first | (simp; done) | (simp; omega))).trans ((Below.heap_alloc _ _ _ (by first | (simp; done) | (simp; omega))).trans ((Below.heap_alloc _ _ _ (by first | (simp; done) | (simp; omega))).trans (heap_new _ _)))
  · have := heap_new (w.alloc o1) o2
    rw [World.size_alloc] at this
    exact (Below.heap_alloc _ _ _ (by first | (simp; done) | (simp; omega))).trans ((Below.heap_alloc _ _ _ (by first | (simp; done) | (simp; omega))).trans this)
  · have := heap_new ((w.alloc o1).alloc o2) o3
    rw [World.size_alloc, World.size_alloc] at this
    exact (Below.heap_alloc _ _ _ (by first | (simp; done) | (simp; omega))).trans this
  · have := heap_new (((w.alloc o1).alloc o2).alloc o3) o4
    rw [World.size_alloc, World.size_alloc, World.size_alloc] at this
    exact this
theorem run_make0 (k : Nat) (hk : k ≤ 4194305) (w : World) :
    (Instr.makeSlice 25 (.int .i64 0) (.int .i64 k)).run Try.prog w = .ok (.slice (some ⟨w.heap.size, 0, none⟩) 0 k) (w.alloc (.cells (madeCells #[.int .i64 0] k) 3)) := by
  obtain ⟨i0, hi, hz0, hz1, hz2⟩ := info_parts Try.info3q
  have h := run_make (P := Try.prog) w 25 3 i0 (.int .i64 0) Try.underlying25 hi hz0 .i64 .i64 0 k (by omega) (by omega) (by rw [hz2]; omega) (by omega)
  rw [hz1] at h
  simp only [Int.toNat_natCast, Nat.mul_one, Int.toNat_zero] at h
  exact h
theorem made_bar (n : Nat) : madeCells #[.bool false] n = bCells (btab n (fun _ => false)) := by
  apply Array.ext'
  simp [madeCells, bCells, btab]
  intro i hi
  simp [Nat.mod_one]
theorem five_new (w : World) (o1 o2 o3 o4 o5 : Obj) : let x := ((((w.alloc o1).alloc o2).alloc o3).alloc o4).alloc o5
    x.heap[w.heap.size]? = some o1 ∧ x.heap[w.heap.size + 1]? = some o2 ∧ x.heap[w.heap.size + 1 + 1]? = some o3 ∧ x.heap[w.heap.size + 1 + 1 + 1]? = some o4 ∧ x.heap[w.heap.size + 1 + 1 + 1 + 1]? = some o5 ∧ Below w.heap.size w x ∧ x.heap.size = w.heap.size + 5 := by
  obtain ⟨h1, h2, h3, h4, h5, h6⟩ := four_newL w o1 o2 o3 o4
  have hb := below_alloc (Below.refl ((((w.alloc o1).alloc o2).alloc o3).alloc o4).heap.size _) o5
  refine ⟨(hb.block _ (lt_of_heap h1)).trans h1, (hb.block _ (lt_of_heap h2)).trans h2, (hb.block _ (lt_of_heap h3)).trans h3, (hb.block _ (lt_of_heap h4)).trans h4, ?_, h5.trans (hb.mono (by rw [h6]; omega)), by simp⟩
  have := heap_new ((((w.alloc o1).alloc o2).alloc o3).alloc o4) o5
  rw [h6] at this
  exact this
/-- leaving under way. -/
structure LV (w wr : World) (gb : Array Value) (n : Nat) (s t : Nat → Nat) (Mb C Lb A f : Nat) : Prop where
  bel : Below w.heap.size w wr
  box : wr.heap[w.heap.size]? = some (.cells gb 28 (0, 0))
  lj : ∃ m K L, LJ n s t Mb C Lb A m [] wr K L ∧ ∀ u, u < f → u < n → K u = true
  lo : w.heap.size < C ∧ w.heap.size < Lb ∧ w.heap.size < A
set_option maxRecDepth 100000 in
theorem LV.walk {w wr : World} {n : Nat} {va vb vc : Value} {st tl wt : List Int} {Mb C Lb A f : Nat} (h : LV w wr #[.int .i64 n, va, vb, vc] n (sN st) (tN tl) Mb C Lb A f) (hgi : GIs w n va vb vc st tl wt) (hg : Good n st tl wt) (hf : f < n) :
    Calls Try.prog 35 #[gAgg n va vb vc, .int .i64 (f : Int), .func (.func 55) #[] #[.pointer (some ⟨Mb, 0, none⟩)], .func (.func 56) #[] #[.pointer (some ⟨Lb, 0, none⟩)]] wr fun e w' => e = .returned (.tuple #[]) ∧ LV w w' #[.int .i64 n, va, vb, vc] n (sN st) (tN tl) Mb C Lb A (f + 1) := by
  obtain ⟨m0, K0, L0, hlj, hK0⟩ := h.lj
  obtain ⟨lo1, lo2, lo3⟩ := h.lo
  have hl : Mb < wr.heap.size ∧ C < wr.heap.size ∧ Lb < wr.heap.size ∧ A < wr.heap.size := ⟨lt_of_heap hlj.mbx, lt_of_heap hlj.car, lt_of_heap hlj.lbx, (World.ownsRow.lt hlj.own A rfl).2⟩
  have hT : ∀ k, LT C Lb A k → k < wr.heap.size ∧ w.heap.size < k := fun k hk => by rcases hk with rfl | rfl | rfl <;> omega
  have hB : ∀ W, Chg (LT C Lb A) wr W → Below w.heap.size w W := fun W hW => Chg.below h.bel hW (fun k hk => by have := hT k hk; omega) h.bel.size
  have hv : ∀ p, p < tl.length → tN tl p < n := fun p hp => by have := hg.vtx p hp; unfold tN; omega
  have hpm : ∀ u p, u < n → p < sN st (u + 1) → p < tl.length := fun u p hu hp => by have := hg.range (u + 1) (by omega); unfold sN at hp; omega
  refine (walk_any 55 56 #[.pointer (some ⟨Mb, 0, none⟩)] #[.pointer (some ⟨Lb, 0, none⟩)] n f wr va vb vc st tl wt (LT C Lb A)
    (fun W => ∃ m K L, LJ n (sN st) (tN tl) Mb C Lb A m [] W K L ∧ ∀ u, u < f → u < n → K u = true)
    (fun m l W => ∃ K L, LJ n (sN st) (tN tl) Mb C Lb A m l W K L ∧ ∀ u, u < f + 1 → u < n → K u = true)
    (enters_of Try.func55 (by kernel_rfl) rfl) (enters_of Try.func56 (by kernel_rfl) rfl) hg hf (fun k hk => (hT k hk).1) (fun W hW => hgi.below (hB W hW))
    (fun m l W W' h1 h2 => by obtain ⟨K, L, h3, h4⟩ := h1; exact ⟨K, L, h3.old h2 hl.1 hl.2.1 hl.2.2.1 hl.2.2.2, h4⟩)
    (fun W W' h1 h2 => by obtain ⟨m, K, L, h3, h4⟩ := h1; exact ⟨m, K, L, h3.old h2 hl.1 hl.2.1 hl.2.2.1 hl.2.2.2, h4⟩)
    ⟨m0, K0, L0, hlj, hK0⟩
    (fun m l W h1 => by
      obtain ⟨K, L, h3, h4⟩ := h1
      refine ⟨by have := h3.ds.few; omega, fun a ha => ?_⟩
      have := h3.ds.pl a ha
      exact ⟨h3.ds.lt a.1 (by simp; exact .inr ⟨a.2, ha⟩), this.1, this.2.1⟩)
    (fun W h1 => by
      obtain ⟨m, K, L, h3, h4⟩ := h1
      refine (lj_first h3 f hf (sN_le hg hf)).mono ?_
      rintro e w' ⟨h5, ⟨rfl, m', K', L', h6, h7, h8⟩ | ⟨rfl, m', K', L', h6, h7, h8⟩⟩
      · exact ⟨h5, .inl ⟨rfl, m', K', L', h6, fun u hu hun => by rcases Nat.lt_or_ge u f with h9 | h9; exact h7 u hun (h4 u h9 hun); obtain rfl : u = f := by omega
                                                                 exact h8⟩⟩
      · exact ⟨h5, .inr ⟨rfl, m', K', L', h6, fun u hu hun => by rcases Nat.lt_or_ge u f with h9 | h9; exact h7 u hun (h4 u h9 hun); obtain rfl : u = f := by omega
                                                                 exact h8⟩⟩)
    (fun m l u p W h1 hp => by
      obtain ⟨K, L, h3, h4⟩ := h1
      have hu : u < n := h3.ds.lt u (by simp)
      have hpt := hpm u p hu hp
      refine (lj_next h3 hp (hv p hpt) (sN_le hg (hv p hpt))).mono ?_
      rintro e w' ⟨h5, ⟨rfl, m', K', L', h6, h7, h8⟩ | ⟨rfl, m', K', L', h6, h7, h8⟩⟩
      · exact ⟨h5, .inl ⟨rfl, m', h6, K', L', h7, fun u hu hun => h8 u hun (h4 u hu hun)⟩⟩
      · exact ⟨h5, .inr ⟨rfl, m', h6, K', L', h7, fun u hu hun => h8 u hun (h4 u hu hun)⟩⟩)
    (fun m l u W h1 => by
      obtain ⟨K, L, h3, h4⟩ := h1
      refine (lj_leave h3).mono ?_
      rintro e w' ⟨rfl, h5, m', K', L', h6, h7, h8⟩
      exact ⟨rfl, h5, m', h6, K', L', h7, fun u hu hun => h8 u hun (h4 u hu hun)⟩)).mono ?_
  rintro e w' ⟨rfl, hc, m', K', L', h5, h6⟩
  exact ⟨rfl, hB w' hc, hc.heap h.box (fun hk => by have := hT _ hk; omega), ⟨m', K', L', h5, h6⟩, h.lo⟩
set_option maxRecDepth 100000 in
set_option maxHeartbeats 4000000 in
theorem leaving_any (n : Nat) (va vb vc : Value) (st tl wt : List Int) (w : World) (hgi : GIs w n va vb vc st tl wt) (hg : Good n st tl wt) :
    Calls Try.prog 32 #[gAgg n va vb vc] w fun e w' => ∃ (A : Nat) (L : List Nat), e = .returned (.slice (some ⟨A, 0, none⟩) L.length n) ∧ w'.ownsRow A 3 1 (.slice (some ⟨A, 0, none⟩) L.length n) L.length (ivs (nts L)) ∧ w.heap.size ≤ A ∧ Below w.heap.size w w' ∧ Lv (EE n (sN st) (tN tl)) L ∧ L.Nodup ∧ (∀ v, v < n → v ∈ L) ∧ (∀ v, v ∈ L → v < n) := by
  have hnl := hg.n_le
  obtain ⟨ao, ca, rfl⟩ := hgi.s.shape
  obtain ⟨bo, cb, rfl⟩ := hgi.t.shape
  obtain ⟨co, cc, rfl⟩ := hgi.u.shape
  have hmk := run_makeL n (by omega)
  have hmk0 := run_make0 n (by omega)
  obtain ⟨n1, n2, n3, n4, n5, n6, n7⟩ := five_new w (.cells #[.int .i64 n, .slice ao st.length ca, .slice bo tl.length cb, .slice co wt.length cc] 28) (.cells (madeCells #[.bool false] n) 4) (.cells #[.slice (some ⟨w.heap.size + 1, 0, none⟩) n n] 42) (.cells (madeCells #[.int .i64 0] n) 3) (.cells #[.slice (some ⟨w.heap.size + 1 + 1 + 1, 0, none⟩) 0 n] 25)
  obtain ⟨w5, hw5⟩ : ∃ w5, w5 = ((((w.alloc (.cells #[.int .i64 n, .slice ao st.length ca, .slice bo tl.length cb, .slice co wt.length cc] 28)).alloc (.cells (madeCells #[.bool false] n) 4)).alloc (.cells #[.slice (some ⟨w.heap.size + 1, 0, none⟩) n n] 42)).alloc (.cells (madeCells #[.int .i64 0] n) 3)).alloc (.cells #[.slice (some ⟨w.heap.size + 1 + 1 + 1, 0, none⟩) 0 n] 25) := ⟨_, rfl⟩
  rw [← hw5] at n1 n2 n3 n4 n5 n6 n7
  rw [made_bar] at n2
  have HL0 : Hid (LV w w5 #[.int .i64 n, .slice ao st.length ca, .slice bo tl.length cb, .slice co wt.length cc] n (sN st) (tN tl) (w.heap.size + 1 + 1) (w.heap.size + 1) (w.heap.size + 1 + 1 + 1 + 1) (w.heap.size + 1 + 1 + 1) 0) := by
    refine ⟨n6, n1, ⟨_, fun _ => false, [], ⟨DS.start _ _ _, fun v hv => by simp, rfl, n3, n2, n5, ⟨rfl, .inr ⟨_, n, _, rfl, Nat.le_refl _, n4, Nat.zero_le _, by unfold maxLen; omega, by simp [madeCells], by simp [ivs, nts]⟩⟩, by omega, by omega, by omega, by omega, by omega, by omega⟩, fun u hu => by omega⟩, by omega, by omega, by omega⟩
  have HG := hide hgi; have HGD := hide hg
  clear n1 n2 n3 n4 n5 n6 n7 hgi hg
  unfold gAgg
  go_enter Try.func32, Try.ntmps32
  go_upto_region 3 with fail
  rw [← hw5]
  have hlo : w.heap.size < w5.heap.size := lt_of_heap HL0.out.box
  clear hw5 hmk hmk0
  have hp0 := cell_of HL0.out.box (i := 0) rfl
  go_wp2_with fail
  clear hp0
  go_loopw [14] (fun t wr => ∃ f : Nat, t = .int .i64 (f : Int) ∧ f ≤ n ∧ LV w wr #[.int .i64 n, .slice ao st.length ca, .slice bo tl.length cb, .slice co wt.length cc] n (sN st) (tN tl) (w.heap.size + 1 + 1) (w.heap.size + 1) (w.heap.size + 1 + 1 + 1 + 1) (w.heap.size + 1 + 1 + 1) f) (fun t _ => n - (RowKit.intOf t).toNat)
  case atStart => exact ⟨0, rfl, Nat.zero_le _, HL0.out⟩
  case round =>
    obtain ⟨f, rfl, hfn, hv⟩ := hrel
    have HV := hide hv
    clear hv HL0
    by_cases hlt : f < n
    · have HWK := hide (HV.out.walk HG.out HGD.out hlt)
      have hp := HV.out.box
      have z0 := cell_of hp (i := 0) rfl
      have z1 := cell_of hp (i := 1) rfl
      have z2 := cell_of hp (i := 2) rfl
      have z3 := cell_of hp (i := 3) rfl
      have hfi : (f : Int) < (n : Int) := by omega
      unfold gAgg at HWK
      clear hp
      go_wp2_with fail
      refine HWK.out.mono ?_
      rintro e w6 ⟨rfl, hv6⟩
      have HV6 := hide hv6
      clear hv6 HWK HV z0 z1 z2 z3
      go_wp2_with fail
      exact ⟨⟨f + 1, by simp, by omega, HV6.out⟩, by simp [RowKit.intOf]; omega⟩
    · obtain rfl : f = n := by omega
      obtain ⟨m, K, L, hlj, hK⟩ := HV.out.lj
      have HLJ := hide hlj; have HKK := hide hK
      have z0 := cell_of hlj.lbx (i := 0) rfl
      clear hlj hK
      go_wp2_with fail
      go_ret
      obtain ⟨d1, d2, d3, d4⟩ := HLJ.out.ds.done
      exact ⟨_, L, rfl, HLJ.out.own, by omega, HV.out.bel, d1, d2, fun v hv => by have := (HLJ.out.kk v hv).1 (HKK.out v hv hv); simpa using this, d3⟩
end Go.Proofs.Ytiohimbifjlfdaa

/- The walk back: what it has in memory. -/
namespace Go.Proofs.Ytiohimbifjlfdaa
open Go.RowKit Go.Lib
set_option linter.unusedVariables false
set_option linter.unusedSimpArgs false
/-- The groups, in memory. -/
structure TM (n : Nat) (f : Nat) (Gb A Fb : Nat) (W : World) (G : Nat → Int) : Prop where
  gbx : W.heap[Gb]? = some (.cells #[.slice (some ⟨A, 0, none⟩) n n] 25 (0, 0))
  fbx : W.heap[Fb]? = some (.cells #[.int .i64 (f : Int)] 3 (0, 0))
  arr : Arr W A (tab n G)
  ne : A ≠ Gb ∧ A ≠ Fb
/-- Which have a group. -/
def hasG (G : Nat → Int) : Nat → Bool := fun v => decide (G v ≠ -1)
def setG (G : Nat → Int) (v : Nat) (x : Int) : Nat → Int := fun u => if u = v then x else G u
theorem hasG_set (G : Nat → Int) (v f : Nat) : hasG (setG G v (f : Int)) = updK (hasG G) v := by
  funext u
  unfold hasG setG updK
  by_cases e : u = v
  · simp [e]
  · simp [e]
structure TJ (n : Nat) (s t : Nat → Nat) (gr : Nat → Int) (f : Nat) (Gb A Fb : Nat) (m : Nat) (l : List (Nat × Nat)) (W : World) (G : Nat → Int) (V : Nat → Prop) : Prop where
  ws : WS n s t gr f V l
  nod : (l.map Prod.fst).Nodup
  inn : ∀ v, V v → G v = (f : Int)
  out : ∀ v, ¬ V v → G v = gr v
  m : m = unp s (hasG G) n + wpt s l
  tm : TM n f Gb A Fb W G
section
variable {n : Nat} {s t : Nat → Nat} {gr G : Nat → Int} {f Gb A Fb m : Nat} {l : List (Nat × Nat)} {W W' : World} {V : Nat → Prop}
theorem TM.old (h : TM n f Gb A Fb W G) {B : Nat} (hB : ∀ k, k < B → W'.heap[k]? = W.heap[k]?) (h1 : Gb < B) (h2 : A < B) (h3 : Fb < B) : TM n f Gb A Fb W' G :=
  ⟨(hB _ h1).trans h.gbx, (hB _ h3).trans h.fbx, (hB _ h2).trans h.arr, h.ne⟩
theorem TJ.old (h : TJ n s t gr f Gb A Fb m l W G V) {B : Nat} (hB : ∀ k, k < B → W'.heap[k]? = W.heap[k]?) (h1 : Gb < B) (h2 : A < B) (h3 : Fb < B) : TJ n s t gr f Gb A Fb m l W' G V :=
  ⟨h.ws, h.nod, h.inn, h.out, h.m, h.tm.old hB h1 h2 h3⟩
theorem TM.put (h : TM n f Gb A Fb W G) (v : Nat) : TM n f Gb A Fb (W.setCell ⟨A, v, none⟩ (.int .i64 (f : Int))) (setG G v (f : Int)) ∧ Chg (fun k => k = A) W (W.setCell ⟨A, v, none⟩ (.int .i64 (f : Int))) := by
  have hc : Chg (fun k => k = A) W (W.setCell ⟨A, v, none⟩ (.int .i64 (f : Int))) := (Chg.refl (fun k => k = A) W).setCell (p := ⟨A, v, none⟩) rfl _
  refine ⟨⟨hc.heap h.gbx (fun e => h.ne.1 e.symm), hc.heap h.fbx (fun e => h.ne.2 e.symm), ?_, h.ne⟩, hc⟩
  have := h.arr.put v (f : Int)
  rw [tab_set] at this
  exact this
end
set_option maxRecDepth 100000 in
/-- The first one. -/
theorem tj_first {n : Nat} {s t : Nat → Nat} {gr : Nat → Int} {f Gb A Fb : Nat} {W : World} (h : TM n f Gb A Fb W gr) (hf : f < n) (hs : s f ≤ s (f + 1)) :
    Calls Try.prog 36 (#[.int .i64 (f : Int)] ++ #[.pointer (some ⟨Gb, 0, none⟩), .pointer (some ⟨Fb, 0, none⟩)]) W fun e w' => Chg (fun k => k = A) W w' ∧ ((e = .returned (.bool false) ∧ gr f ≠ -1 ∧ TM n f Gb A Fb w' gr) ∨ (e = .returned (.bool true) ∧ ∃ m' G V, TJ n s t gr f Gb A Fb m' [(f, s f)] w' G V)) := by
  have ht := tab_at n gr f hf
  by_cases hK : gr f = -1
  · refine (group_new n f A Gb Fb (f : Int) (tab n gr) W (cell_of h.gbx rfl) (cell_of h.fbx rfl) h.arr (tab_length n gr) hf (by rw [ht]; exact hK)).mono ?_
    rintro e w' ⟨rfl, rfl⟩
    obtain ⟨h1, h2⟩ := h.put f
    refine ⟨h2, .inr ⟨rfl, _, setG gr f (f : Int), _, ⟨WS.start hf hK hs, by simp, fun v hv => by subst hv; unfold setG; rw [if_pos rfl], fun v hv => by unfold setG; rw [if_neg hv], rfl, h1⟩⟩⟩
  · refine (group_old n f A Gb Fb (tab n gr) W (cell_of h.gbx rfl) h.arr (tab_length n gr) hf (by rw [ht]; exact hK)).mono ?_
    rintro e w' ⟨rfl, rfl⟩
    exact ⟨Chg.refl _ _, .inl ⟨rfl, hK, h⟩⟩
set_option maxRecDepth 100000 in
theorem tj_next {n : Nat} {s t : Nat → Nat} {gr G : Nat → Int} {f Gb A Fb m u p : Nat} {l : List (Nat × Nat)} {W : World} {V : Nat → Prop} (h : TJ n s t gr f Gb A Fb m (l ++ [(u, p)]) W G V) (hp : p < s (u + 1)) (hv : t p < n) (hs : s (t p) ≤ s (t p + 1)) :
    Calls Try.prog 36 (#[.int .i64 ((t p : Nat) : Int)] ++ #[.pointer (some ⟨Gb, 0, none⟩), .pointer (some ⟨Fb, 0, none⟩)]) W fun e w' => Chg (fun k => k = A) W w' ∧ ((e = .returned (.bool false) ∧ ∃ m', m' < m ∧ ∃ G V, TJ n s t gr f Gb A Fb m' (l ++ [(u, p + 1)]) w' G V) ∨ (e = .returned (.bool true) ∧ ∃ m', m' < m ∧ ∃ G V, TJ n s t gr f Gb A Fb m' (l ++ [(u, p + 1)] ++ [(t p, s (t p))]) w' G V)) := by
  have ht := tab_at n G (t p) hv
  have hm0 := h.m
  have hu : u < n := (h.ws.new u (h.ws.wv (u, p) (by simp))).1
  by_cases hK : G (t p) = -1
  · refine (group_new n (t p) A Gb Fb (f : Int) (tab n G) W (cell_of h.tm.gbx rfl) (cell_of h.tm.fbx rfl) h.tm.arr (tab_length n G) hv (by rw [ht]; exact hK)).mono ?_
    rintro e w' ⟨rfl, rfl⟩
    obtain ⟨h1, h2⟩ := h.tm.put (t p)
    have hV : ¬ V (t p) := fun hV => by have := h.inn _ hV; omega
    have hg : gr (t p) = -1 := by rw [← h.out _ hV]; exact hK
    refine ⟨h2, .inr ⟨rfl, _, ?_, setG G (t p) (f : Int), _, ⟨h.ws.enter hu hp rfl hv hg hs, ?_, fun v hv => ?_, fun v hv => ?_, rfl, h1⟩⟩⟩
    · rw [hm0, hasG_set]
      exact pot_enter s (hasG G) n u p (t p) l hp (by unfold hasG; simp [hK]) hv
    · rw [List.map_append, List.nodup_append]
      refine ⟨?_, by simp, fun a ha b hb => ?_⟩
      · have := h.nod
        rw [List.map_append] at this ⊢
        exact this
      · simp at hb
        subst hb
        rintro rfl
        apply hV
        rw [List.map_append, List.mem_append] at ha
        rcases ha with ha | ha
        · obtain ⟨c, hc, hc2⟩ := List.mem_map.1 ha
          have := h.ws.wv c (by simp [hc])
          rw [hc2] at this; exact this
        · simp at ha
          rw [ha]
          exact h.ws.wv (u, p) (by simp)
    · unfold setG
      rcases hv with hv | rfl
      · split
        · rfl
        · exact h.inn v hv
      · rw [if_pos rfl]
    · unfold setG
      rw [if_neg (fun e => hv (.inr e))]
      exact h.out v (fun e => hv (.inl e))
  · refine (group_old n (t p) A Gb Fb (tab n G) W (cell_of h.tm.gbx rfl) h.tm.arr (tab_length n G) hv (by rw [ht]; exact hK)).mono ?_
    rintro e w' ⟨rfl, rfl⟩
    refine ⟨Chg.refl _ _, .inl ⟨rfl, _, ?_, G, V, ⟨h.ws.pass hp ?_, ?_, h.inn, h.out, rfl, h.tm⟩⟩⟩
    · rw [hm0]; exact pot_pass s (hasG G) n u p l hp
    · by_cases hV : V (t p)
      · exact .inr hV
      · exact .inl (by rw [← h.out _ hV]; exact hK)
    · have := h.nod
      rw [List.map_append] at this ⊢
      exact this
set_option maxRecDepth 100000 in
theorem tj_leave {n : Nat} {s t : Nat → Nat} {gr G : Nat → Int} {f Gb A Fb m u : Nat} {l : List (Nat × Nat)} {W : World} {V : Nat → Prop} (h : TJ n s t gr f Gb A Fb m (l ++ [(u, s (u + 1))]) W G V) :
    Calls Try.prog 37 (#[.int .i64 (u : Int)] ++ #[]) W fun e w' => e = .returned (.tuple #[]) ∧ Chg (fun k => k = A) W w' ∧ ∃ m', m' < m ∧ ∃ G V, TJ n s t gr f Gb A Fb m' l w' G V := by
  have hm0 := h.m
  refine (nothing_any (u : Int) W).mono ?_
  rintro e w' ⟨rfl, rfl⟩
  refine ⟨rfl, Chg.refl _ _, _, by rw [hm0]; exact pot_leave s (hasG G) n u (s (u + 1)) l, G, V, ⟨h.ws.leave, ?_, h.inn, h.out, rfl, h.tm⟩⟩
  have := h.nod
  rw [List.map_append, List.nodup_append] at this
  exact this.1
/-- What a walk back leaves. -/
def TEnd (n : Nat) (s t : Nat → Nat) (gr : Nat → Int) (f : Nat) (Gb A Fb : Nat) (W : World) : Prop := ∃ G, TM n f Gb A Fb W G ∧ ((gr f ≠ -1 ∧ G = gr) ∨ ∃ V, Wb (fun x y => EE n s t y x) n gr f V ∧ (∀ v, V v → G v = (f : Int)) ∧ ∀ v, ¬ V v → G v = gr v)
set_option maxRecDepth 100000 in
theorem back_walk {wr : World} {n : Nat} {va vb vc : Value} {st tl wt : List Int} {gr : Nat → Int} {f Gb A Fb : Nat} (h : TM n f Gb A Fb wr gr) (hGI : ∀ W, Chg (fun k => k = A) wr W → GIs W n va vb vc st tl wt) (hg : Good n st tl wt) (hf : f < n) :
    Calls Try.prog 35 #[gAgg n va vb vc, .int .i64 (f : Int), .func (.func 36) #[] #[.pointer (some ⟨Gb, 0, none⟩), .pointer (some ⟨Fb, 0, none⟩)], .func (.func 37) #[] #[]] wr fun e w' => e = .returned (.tuple #[]) ∧ Chg (fun k => k = A) wr w' ∧ TEnd n (sN st) (tN tl) gr f Gb A Fb w' := by
  have hl : Gb < wr.heap.size ∧ A < wr.heap.size ∧ Fb < wr.heap.size := ⟨lt_of_heap h.gbx, lt_of_heap h.arr, lt_of_heap h.fbx⟩
  have hv : ∀ p, p < tl.length → tN tl p < n := fun p hp => by have := hg.vtx p hp; unfold tN; omega
  have hpm : ∀ u p, u < n → p < sN st (u + 1) → p < tl.length := fun u p hu hp => by have := hg.range (u + 1) (by omega); unfold sN at hp; omega
  refine (walk_any 36 37 #[.pointer (some ⟨Gb, 0, none⟩), .pointer (some ⟨Fb, 0, none⟩)] #[] n f wr va vb vc st tl wt (fun k => k = A)
    (fun W => TM n f Gb A Fb W gr)
    (fun m l W => (l = [] ∧ gr f ≠ -1 ∧ TM n f Gb A Fb W gr) ∨ ∃ G V, TJ n (sN st) (tN tl) gr f Gb A Fb m l W G V)
    (enters_of Try.func36 (by kernel_rfl) rfl) (enters_of Try.func37 (by kernel_rfl) rfl) hg hf (fun k hk => by rw [hk]; exact hl.2.1) hGI
    (fun m l W W' h1 h2 => by
      rcases h1 with ⟨h3, h4, h5⟩ | ⟨G, V, h3⟩
      · exact .inl ⟨h3, h4, h5.old h2 hl.1 hl.2.1 hl.2.2⟩
      · exact .inr ⟨G, V, h3.old h2 hl.1 hl.2.1 hl.2.2⟩)
    (fun W W' h1 h2 => h1.old h2 hl.1 hl.2.1 hl.2.2)
    h
    (fun m l W h1 => by
      rcases h1 with ⟨rfl, h4, h5⟩ | ⟨G, V, h3⟩
      · exact ⟨Nat.zero_le _, fun a ha => by simp at ha⟩
      · refine ⟨?_, fun a ha => ?_⟩
        · have := nodup_few n (l.map Prod.fst) h3.nod (fun v hv => by
            obtain ⟨a, ha, rfl⟩ := List.mem_map.1 hv
            exact (h3.ws.new _ (h3.ws.wv a ha)).1)
          simpa using this
        · have := h3.ws.pl a ha
          exact ⟨(h3.ws.new _ (h3.ws.wv a ha)).1, this.1, this.2.1⟩)
    (fun W h1 => by
      refine (tj_first (s := sN st) (t := tN tl) h1 hf (sN_le hg hf)).mono ?_
      rintro e w' ⟨h5, ⟨rfl, h6, h7⟩ | ⟨rfl, m', G, V, h6⟩⟩
      · exact ⟨h5, .inl ⟨rfl, 0, .inl ⟨rfl, h6, h7⟩⟩⟩
      · exact ⟨h5, .inr ⟨rfl, m', .inr ⟨G, V, h6⟩⟩⟩)
    (fun m l u p W h1 hp => by
      rcases h1 with ⟨h3, _⟩ | ⟨G, V, h3⟩
      · simp at h3
      · have hu : u < n := (h3.ws.new u (h3.ws.wv (u, p) (by simp))).1
        have hpt := hpm u p hu hp
        refine (tj_next h3 hp (hv p hpt) (sN_le hg (hv p hpt))).mono ?_
        rintro e w' ⟨h5, ⟨rfl, m', h6, G, V, h7⟩ | ⟨rfl, m', h6, G, V, h7⟩⟩
        · exact ⟨h5, .inl ⟨rfl, m', h6, .inr ⟨G, V, h7⟩⟩⟩
        · exact ⟨h5, .inr ⟨rfl, m', h6, .inr ⟨G, V, h7⟩⟩⟩)
    (fun m l u W h1 => by
      rcases h1 with ⟨h3, _⟩ | ⟨G, V, h3⟩
      · simp at h3
      · refine (tj_leave h3).mono ?_
        rintro e w' ⟨rfl, h5, m', h6, G, V, h7⟩
        exact ⟨rfl, h5, m', h6, .inr ⟨G, V, h7⟩⟩)).mono ?_
  rintro e w' ⟨rfl, hc, m', h5⟩
  refine ⟨rfl, hc, ?_⟩
  rcases h5 with ⟨_, h6, h7⟩ | ⟨G, V, h6⟩
  · exact ⟨gr, h7, .inl ⟨h6, rfl⟩⟩
  · exact ⟨G, h6.tm, .inr ⟨V, h6.ws.done, h6.inn, h6.out⟩⟩
end Go.Proofs.Ytiohimbifjlfdaa

/- slices.Backward of numbers. -/
namespace Go.Proofs.Ytiohimbifjlfdaa
open Go.RowKit Go.Lib Go.Shelf
set_option linter.unusedVariables false
set_option linter.unusedSimpArgs false
attribute [local go_sem] Oper.semAt_some
def bwAt (L : List Int) (i : Nat) : Int × Int := (((L.length - 1 - i : Nat) : Int), at_ L (L.length - 1 - i))
def encB (x : Int × Int) : Array Value := #[.int .i64 x.1, .int .i64 x.2]
set_option maxRecDepth 100000 in
set_option maxHeartbeats 4000000 in
theorem back1_gives (T : Nat → Prop) (L : List Int) (m Bs : Nat) (ao : Option Addr) (c : Nat) (w : World) (hm : m = L.length) (hm2 : m ≤ 1048576) (hB : w.heap[Bs]? = some (.cells #[.slice ao m c] 25 (0, 0))) (hTB : ¬ T Bs) (hR : ∀ X, Chg T w X → RowAt .i64 X (.slice ao m c) L) :
    Gv T Try.prog 59 #[.pointer (some ⟨Bs, 0, none⟩)] encB (upto (bwAt L) m) w := by
  intro l J W hW hJ hY h0 n'
  have HB := hide (fun X (h : Chg T w X) => h.heap hB hTB)
  have HR := hide hR
  have HY := hide hY
  have HJ := hide hJ
  refine callsIn_of_wp Try.func59 rfl trivial ?_ rfl
  have hWc : Chg T w W := Chg.of_below hW
  have c1 := cell_of (HB.out W hWc) (i := 0) rfl
  have H0 := hide h0
  have HW := hide hWc
  have HM := hide hm
  clear hY hJ h0 hB hW hWc hR hm
  simp only [Try.ntmps59, List.size_toArray, List.length_cons, List.length_nil, Nat.reduceAdd, Nat.reduceSub, Array.replicate_succ, Array.replicate_zero, List.push_toArray, List.append_toArray, List.nil_append, List.cons_append]
  gi_wp2
  gi_loopw [3] (fun t wr => ∃ i : Nat, t = .int .i64 ((m : Int) - 1 - (i : Int)) ∧ i ≤ m ∧ J (upto (bwAt L) i) wr ∧ Chg T w wr) (fun t _ => (RowKit.intOf t + 1).toNat)
  case atStart => exact ⟨0, by simp, Nat.zero_le _, H0.out, HW.out⟩
  case round =>
    obtain ⟨i, rfl, him, hj, hbr⟩ := hrel
    clear c1
    have c1 := cell_of (HB.out wr hbr) (i := 0) rfl
    by_cases hlt : i < m
    · obtain ⟨j, hj2⟩ : ∃ j : Nat, j = m - 1 - i := ⟨_, rfl⟩
      obtain ⟨ga, oa, ca, he, hca, d2⟩ := (HR.out wr hbr).cellAt j (by have := HM.out; omega)
      simp only [Value.slice.injEq, true_and] at he
      obtain ⟨rfl, hq7, rfl⟩ := he
      have hji : (m : Int) - 1 - (i : Int) = (j : Int) := by omega
      have hjm : j < m := by omega
      rw [hji]
      obtain ⟨fn, tmps, assign, body, hy, hR⟩ := HY.out (upto (bwAt L) i) (bwAt L i) wr hj (by rw [← upto_succ]; exact upto_pre _ hlt)
      rw [← upto_succ] at hR
      simp only [encB, bwAt] at hy
      rw [← HM.out, ← hj2] at hy
      have HR1 := hide hR
      have HBR := hide hbr
      obtain ⟨x, hx⟩ : ∃ x, x = at_ L j := ⟨_, rfl⟩
      rw [← hx] at hy d2
      have HJI := hide hji
      clear hR hj hbr hx hca hq7 hj2 hji
      gi_wp2_with (refine ⟨(fun h => by simp [Fence.wide] at h), (round_any HR1.out _).mono ?_⟩; rintro e W' ⟨rfl, hj', hb'⟩; have HJ' := hide hj'; have HB' := hide hb'; clear hj' hb' hy HR1 d2 c1)
      all_goals exact ⟨⟨i + 1, by have := HJI.out; simp; omega, by omega, HJ'.out, HBR.out.trans HB'.out⟩, by simp [RowKit.intOf]⟩
    · obtain rfl : i = m := by omega
      have HJ2 := hide hj
      clear hj
      gi_wp2
      go_end0
      exact ⟨⟨_, rfl⟩, HJ2.out⟩
set_option maxRecDepth 100000 in
theorem back_any (n' : Nat) (ao : Option Addr) (m c : Nat) (w : World) : CallsIn Fence.wide n' Try.prog 34 #[.slice ao m c] w fun e w' => e = .returned (.func (.func 59) #[] #[.pointer (some ⟨w.heap.size, 0, none⟩)]) ∧ w' = w.alloc (.cells #[.slice ao m c] 25) := by
  refine callsIn_of_wp Try.func34 rfl trivial ?_ rfl
  simp only [Try.ntmps34, List.size_toArray, List.length_cons, List.length_nil, Nat.reduceAdd, Nat.reduceSub, Array.replicate_succ, Array.replicate_zero, List.push_toArray, List.append_toArray, List.nil_append, List.cons_append]
  gi_wp2
  go_ret
  exact ⟨rfl, rfl⟩
end Go.Proofs.Ytiohimbifjlfdaa

/- together. -/
namespace Go.Proofs.Ytiohimbifjlfdaa
open Go.RowKit Go.Lib Go.Shelf
set_option linter.unusedVariables false
set_option linter.unusedSimpArgs false
attribute [local go_sem] Oper.semAt_some
theorem neg_cell (w4 : World) (o : Obj) : ((w4.alloc o).alloc (.cells #[.int .i64 (-1)] 3)).cell? ⟨w4.heap.size + 1, 0, none⟩ = some (.int .i64 (-1)) := by
  have := heap_new (w4.alloc o) (.cells #[.int .i64 (-1)] 3)
  rw [World.size_alloc] at this
  exact cell_of this rfl
/-- What together answers. -/
def TogW (w : World) (n : Nat) (E : Nat → Nat → Prop) (e : Ending) (w' : World) : Prop :=
  ∃ (A : Nat) (G : Nat → Int), e = .returned (.slice (some ⟨A, 0, none⟩) n n) ∧ Arr w' A (tab n G) ∧ w.heap.size ≤ A ∧ Below w.heap.size w w' ∧ (∀ v, v < n → ∃ f : Nat, G v = (f : Int) ∧ f < n) ∧ ∀ u v, u < n → v < n → (G u = G v ↔ Bo E u v)
/-- together under way: the suffix of left of so many is done. -/
structure TI (w4 W : World) (gb : Array Value) (n : Nat) (E : Nat → Nat → Prop) (L : List Nat) (Kb Gb A k : Nat) (G : Nat → Int) : Prop where
  bel : Below w4.heap.size w4 W
  kbx : W.heap[Kb]? = some (.cells gb 28 (0, 0))
  gbx : W.heap[Gb]? = some (.cells #[.slice (some ⟨A, 0, none⟩) n n] 25 (0, 0))
  arr : Arr W A (tab n G)
  gi : GI E n (L.drop (L.length - k)) G
  lo : w4.heap.size ≤ Kb ∧ w4.heap.size ≤ Gb ∧ w4.heap.size ≤ A ∧ A ≠ Kb ∧ A ≠ Gb
theorem TI.grown {w4 X Y : World} {gb : Array Value} {n : Nat} {E : Nat → Nat → Prop} {L : List Nat} {Kb Gb A k B : Nat} {G : Nat → Int} {row : Option Nat} (h : TI w4 X gb n E L Kb Gb A k G) (hg : X.grownBy Y row) (hr : ∀ r, row = some r → B ≤ r ∧ ∃ o : Obj, X.heap[r]? = some o ∧ o.isCells = false) (hB : w4.heap.size ≤ B) : TI w4 Y gb n E L Kb Gb A k G := by
  have k : ∀ r, row = some r → ∃ o : Obj, X.heap[r]? = some o ∧ o.isCells = false := fun r e => (hr r e).2
  exact ⟨h.bel.grown hg h.bel.size (fun j hj => by have := (hr j hj).1; omega), box_kept h.kbx hg k, box_kept h.gbx hg k, box_kept h.arr hg k, h.gi, h.lo⟩
/-- One more of left. -/
theorem TI.step {w4 W W' : World} {gb : Array Value} {n : Nat} {s t s' t' : Nat → Nat} {L : List Nat} {Kb Gb A k Fb f : Nat} {G : Nat → Int} (h : TI w4 W gb n (EE n s t) L Kb Gb A k G) (hc : Chg (fun k => k = A) W W') (he : TEnd n s' t' G f Gb A Fb W') (hfl : ∀ x y, EE n s' t' x y ↔ EE n s t y x) (hE : ∀ x y, EE n s t x y → x < n ∧ y < n)
    (hLv : Lv (EE n s t) L) (hnd : L.Nodup) (hall : ∀ v, v < n → v ∈ L) (hk : k < L.length) (hf : L[L.length - 1 - k]? = some f) : ∃ G', TI w4 W' gb n (EE n s t) L Kb Gb A (k + 1) G' := by
  obtain ⟨l1, l2, l3, l4, l5⟩ := h.lo
  obtain ⟨G', htm, hcase⟩ := he
  have hdrop : L.drop (L.length - (k + 1)) = f :: L.drop (L.length - k) := by
    rw [List.drop_eq_getElem_cons (by omega)]
    have e1 : L.length - (k + 1) + 1 = L.length - k := by omega
    rw [e1]
    congr 1
    have e2 : L.length - 1 - k = L.length - (k + 1) := by omega
    rw [e2, List.getElem?_eq_getElem (by omega)] at hf
    simpa using hf
  have hL : L = L.take (L.length - (k + 1)) ++ f :: L.drop (L.length - k) := by rw [← hdrop, List.take_append_drop]
  refine ⟨G', Chg.below h.bel hc (fun i hi => by omega) h.bel.size, hc.heap h.kbx (fun e => l4 e.symm), hc.heap h.gbx (fun e => l5 e.symm), htm.arr, ?_, h.lo⟩
  rw [hdrop]
  rcases hcase with ⟨h1, rfl⟩ | ⟨V, h1, h2, h3⟩
  · exact h.gi.skip h1
  · have e : (fun x y => EE n s' t' y x) = EE n s t := by funext x y; exact propext (hfl y x)
    rw [e] at h1
    exact GI.walk hE (by rw [← hL]; exact hLv) (by rw [← hL]; exact hnd) (fun v hv => by rw [← hL]; exact hall v hv) h.gi h1 h2 h3
set_option maxRecDepth 100000 in
set_option maxHeartbeats 8000000 in
theorem together_in (n' n : Nat) (va vb vc : Value) (st tl wt : List Int) (w : World) (hgi : GIs w n va vb vc st tl wt) (hg : Good n st tl wt) (hwn : ∀ e, 0 ≤ at_ wt e) :
    CallsIn Fence.wide n' Try.prog 17 #[gAgg n va vb vc] w (TogW w n (EE n (sN st) (tN tl))) := by
  obtain ⟨ao, ca, rfl⟩ := hgi.s.shape
  obtain ⟨bo, cb, rfl⟩ := hgi.t.shape
  obtain ⟨co, cc, rfl⟩ := hgi.u.shape
  have hn := hg.n_le
  obtain ⟨w1, hw1⟩ : ∃ w1, w1 = w.alloc (.cells #[.int .i64 n, .slice ao st.length ca, .slice bo tl.length cb, .slice co wt.length cc] 28) := ⟨_, rfl⟩
  have b1 : Below w.heap.size w w1 := by rw [hw1]; exact below_alloc (Below.refl _ _) _
  have hb1 : w1.heap[w.heap.size]? = some (.cells #[.int .i64 n, .slice ao st.length ca, .slice bo tl.length cb, .slice co wt.length cc] 28 (0, 0)) := by rw [hw1]; exact heap_new _ _
  have c0 := cell_of hb1 (i := 0) rfl
  have c1 := cell_of hb1 (i := 1) rfl
  have c2 := cell_of hb1 (i := 2) rfl
  have c3 := cell_of hb1 (i := 3) rfl
  have HLE := hide (leaving_any n _ _ _ st tl wt w1 (hgi.below b1) hg)
  have HTU := hide (fun W (h : Below w.heap.size w W) => turn_good n _ _ _ st tl wt W (hgi.below h) hg hwn)
  have HB1 := hide b1; have HX1 := hide hb1; have HGD := hide hg
  unfold gAgg at HLE HTU ⊢
  clear hgi hg b1 hb1 hwn
  rw [hw1] at c0 c1 c2 c3
  refine callsIn_of_wp_marks Try.func17 rfl trivial ?_ rfl
  simp only [Try.ntmps17, List.size_toArray, List.length_cons, List.length_nil, Nat.reduceAdd, Nat.reduceSub, Array.replicate_succ, Array.replicate_zero, List.push_toArray, List.append_toArray, List.nil_append, List.cons_append]
  gi_wp2_with (first
    | (refine ⟨trivial, (fun h => by simp [Fence.wide] at h), ?_⟩; rw [← hw1]; refine (callsIn_wide.2 HLE.out).mono ?_; rintro e9 w2 ⟨A1, L, rfl, hown2, hA1, hb2, hLv, hnd, hall, hlt⟩; have HB2 := hide (below_on HB1.out hb2); have HX2 : Hid (w2.heap[w.heap.size]? = _) := (hb2.block _ (lt_of_heap HX1.out)).trans HX1.out; have HL := hide (And.intro hLv (And.intro hnd (And.intro hall hlt))); have HO2 := hide hown2; clear hb2 c0 c1 c2 c3 hLv hnd hall hlt hown2 HLE; have c0 := cell_of HX2.out (i := 0) rfl; have c1 := cell_of HX2.out (i := 1) rfl; have c2 := cell_of HX2.out (i := 2) rfl; have c3 := cell_of HX2.out (i := 3) rfl)
    | (refine ⟨trivial, (fun h => by simp [Fence.wide] at h), ?_⟩; refine (callsIn_wide.2 (HTU.out w2 HB2.out)).mono ?_; rintro e9 w4 ⟨va4, vb4, vc4, st4, tl4, wt4, nx4, rfl, hgi4, hsum4, hlay4, hb4⟩; have HB4 := hide hb4; have HGI4 := hide hgi4; have HSL := hide (And.intro hsum4 hlay4); obtain ⟨ao4, ca4, rfl⟩ := hgi4.s.shape; obtain ⟨bo4, cb4, rfl⟩ := hgi4.t.shape; obtain ⟨co4, cc4, rfl⟩ := hgi4.u.shape; have q0 := cellAl (.cells #[.int .i64 (-1)] 3) (cellAl (.cells #[.int .i64 n, .slice ao4 st4.length ca4, .slice bo4 tl4.length cb4, .slice co4 wt4.length cc4] 28) (cell_of ((hb4.block _ (lt_of_heap HX2.out)).trans HX2.out) (i := 0) rfl)); have q1 := neg_cell w4 (.cells #[.int .i64 n, .slice ao4 st4.length ca4, .slice bo4 tl4.length cb4, .slice co4 wt4.length cc4] 28); clear hb4 hgi4 hsum4 hlay4 c0 c1 c2 c3 HTU; unfold gAgg)
    | (refine ⟨trivial, (fun h => by simp [Fence.wide] at h), ?_⟩; refine (callsIn_wide.2 (repI_all n (w4.heap.size + 1) hn _ q1)).mono ?_; rintro e9 w6 ⟨rfl, harr6, hb6⟩; have HA6 := hide harr6; have HB6 := hide hb6; clear harr6 hb6 q0 q1)
    | (refine ⟨trivial, (fun h => by simp [Fence.wide] at h), ?_⟩; refine (back_any _ (some ⟨A1, 0, none⟩) L.length n _).mono ?_; rintro e9 w7 ⟨rfl, hw7⟩)
    | fail)
  rw [← hw7]
  have hA6 : Arr w6 (w4.heap.size + 1 + 1) (tab n (fun _ => -1)) := by simpa using HA6.out
  have hlA := lt_of_heap hA6
  obtain ⟨o1, ho1⟩ : ∃ o1 : Obj, o1 = .cells #[.int .i64 n, .slice ao4 st4.length ca4, .slice bo4 tl4.length cb4, .slice co4 wt4.length cc4] 28 := ⟨_, rfl⟩
  have hk6 : w6.heap[w4.heap.size]? = some (.cells #[.int .i64 n, .slice ao4 st4.length ca4, .slice bo4 tl4.length cb4, .slice co4 wt4.length cc4] 28 (0, 0)) := (HB6.out.block _ (by simp; omega)).trans ((Below.heap_alloc _ _ _ (by simp)).trans (heap_new _ _))
  have hb46 : Below w4.heap.size w4 w6 := (below_alloc (below_alloc (Below.refl _ _) _) _).trans (HB6.out.mono (by simp; omega))
  have hb67 : Below w6.heap.size w6 w7 := by rw [hw7]; exact below_alloc (below_alloc (Below.refl _ _) _) _
  have hg7 : w7.heap[w6.heap.size]? = some (.cells #[.slice (some ⟨w4.heap.size + 1 + 1, 0, none⟩) n n] 25 (0, 0)) := by rw [hw7]; exact (Below.heap_alloc _ _ _ (by simp)).trans (heap_new _ _)
  have hs7 : w7.heap[w6.heap.size + 1]? = some (.cells #[.slice (some ⟨A1, 0, none⟩) L.length n] 25 (0, 0)) := by
    have := heap_new (w6.alloc (.cells #[.slice (some ⟨w4.heap.size + 1 + 1, 0, none⟩) n n] 25)) (.cells #[.slice (some ⟨A1, 0, none⟩) L.length n] 25)
    rw [World.size_alloc] at this
    rw [hw7]; exact this
  have hsz7 : w7.heap.size = w6.heap.size + 1 + 1 := by rw [hw7]; simp
  have hb47 : Below w4.heap.size w4 w7 := hb46.trans (hb67.mono hb46.size)
  have HTI : Hid (TI w4 w7 #[.int .i64 n, .slice ao4 st4.length ca4, .slice bo4 tl4.length cb4, .slice co4 wt4.length cc4] n (EE n (sN st) (tN tl)) L w4.heap.size w6.heap.size (w4.heap.size + 1 + 1) 0 (fun _ => -1)) :=
    ⟨hb47, (hb67.block _ (by omega)).trans hk6, hg7, (hb67.block _ hlA).trans hA6, by rw [Nat.sub_zero, List.drop_length]; exact GI.start _ _, by omega, by omega, by omega, by omega, by omega⟩
  obtain ⟨hgd4, hflip⟩ := flip_of HGD.out (F := tov tl) (T := src st n) (fun e he => rfl) (fun e he => rfl) HSL.out.1 HSL.out.2
  obtain ⟨hLv, hnd, hall, hlt⟩ := HL.out
  have hLn : L.length ≤ n := nodup_few n L hnd hlt
  have hro : RowAt .i64 w2 (.slice (some ⟨A1, 0, none⟩) L.length n) (nts L) := RowAt.of_owns (by rw [nts_length]; exact HO2.out)
  have hrX : ∀ X, Chg (fun k => k = w4.heap.size + 1 + 1) w7 X → RowAt .i64 X (.slice (some ⟨A1, 0, none⟩) L.length n) (nts L) := fun X hX => (hro.below HB4.out).below (Chg.below hb47 hX (fun i hi => by omega) hb47.size)
  have HGV := hide (back1_gives (fun k => k = w4.heap.size + 1 + 1) (nts L) L.length (w6.heap.size + 1) (some ⟨A1, 0, none⟩) n w7 (nts_length L).symm (by omega) hs7 (by omega) hrX)
  have HE : Hid (∀ x y, EE n (sN st) (tN tl) x y → x < n ∧ y < n) := fun x y h => ee_lt HGD.out h
  have HFL := hide hflip; have HG4 := hide hgd4
  have HB24 := hide (below_on HB2.out HB4.out)
  have HS := hide (And.intro hlA (And.intro hsz7 hb47))
  clear ho1 o1 hA6 hk6 hb46 hb67 hg7 hs7 hb47 hflip hgd4 hLv hnd hall hlt hro hrX hw7 hsz7 hlA HA6 HB6 HSL
  refine rf_law (T := fun k => k = w4.heap.size + 1 + 1) (gf := 59) (lb := #[.pointer (some ⟨w6.heap.size + 1, 0, none⟩)]) rfl (enters_of Try.func59 (by kernel_rfl) rfl) HGV.out (Below.refl _ _) ⟨by have := HS.out; omega, by have := HS.out; omega⟩ (fun _ => rfl)
    (fun pre Z => ∃ G : Nat → Int, Hid (TI w4 Z #[.int .i64 n, .slice ao4 st4.length ca4, .slice bo4 tl4.length cb4, .slice co4 wt4.length cc4] n (EE n (sN st) (tN tl)) L w4.heap.size w6.heap.size (w4.heap.size + 1 + 1) pre.length G) ∧ w7.heap.size ≤ Z.heap.size)
    (fun pre A A' row hs hgr hr => by
      obtain ⟨G, h1, h2⟩ := hs
      exact ⟨G, h1.out.grown hgr hr (by have := HS.out.2.2.size; omega), Nat.le_trans h2 hgr.size⟩)
    ⟨_, HTI, Nat.le_refl _⟩
    (fun x a' Z => ∃ Fb : Nat, a' = { tmps := #[.agg #[.int .i64 n, .slice ao st.length ca, .slice bo tl.length cb, .slice co wt.length cc], .pointer (some ⟨w.heap.size, 0, none⟩), .slice none 0 0, .slice (some ⟨A1, 0, none⟩) L.length n, .pointer (some ⟨w4.heap.size, 0, none⟩), .int .i64 0, .pointer (some ⟨w6.heap.size, 0, none⟩), undef, .pointer (some ⟨Fb, 0, none⟩), .agg #[.int .i64 n, .slice ao st.length ca, .slice bo tl.length cb, .slice co wt.length cc], .slice (some ⟨A1, 0, none⟩) L.length n, .tuple #[.agg #[.int .i64 n, .slice ao4 st4.length ca4, .slice bo4 tl4.length cb4, .slice co4 wt4.length cc4], .int .i64 0], .agg #[.int .i64 n, .slice ao st.length ca, .slice bo tl.length cb, .slice co wt.length cc], .tuple #[.agg #[.int .i64 n, .slice ao4 st4.length ca4, .slice bo4 tl4.length cb4, .slice co4 wt4.length cc4], .int .i64 0], .agg #[.int .i64 n, .slice ao4 st4.length ca4, .slice bo4 tl4.length cb4, .slice co4 wt4.length cc4], .int .i64 0, .slice (some ⟨w4.heap.size + 1, 0, none⟩) 1 1, .pointer (some ⟨w.heap.size, 0, none⟩), .int .i64 n, .slice (some ⟨w4.heap.size + 1 + 1, 0, none⟩) n n, .slice (some ⟨A1, 0, none⟩) L.length n, .func (.func 59) #[] #[.pointer (some ⟨w6.heap.size + 1, 0, none⟩)], .int .i64 x.1, .int .i64 x.2, undef, undef, undef, undef, undef], defers := [] } ∧ Z.heap[Fb]? = some (.cells #[.int .i64 x.2] 3 (0, 0)) ∧ w7.heap.size ≤ Fb)
    (fun x a' _ A A' row hs hgr hr => by
      obtain ⟨Fb, h1, h2, h3⟩ := hs
      exact ⟨Fb, h1, box_kept h2 hgr (fun r e => (hr r e).2), h3⟩) ?assign ?body ?done
  case assign =>
    rintro l2 pre x Z K ⟨G, H1, hZ1⟩ hK
    dsimp only [encB]
    gi_wp2
    have hb : Below Z.heap.size Z (Z.alloc (.cells #[.int .i64 x.2] 3)) := below_alloc (Below.refl _ _) _
    refine hK _ _ (Chg.of_below hb) ⟨G, ?_, Nat.le_trans hZ1 hb.size⟩ ⟨Z.heap.size, rfl, heap_new _ _, hZ1⟩
    have h1 := H1.out
    exact ⟨h1.bel.trans (hb.mono h1.bel.size), (hb.block _ (lt_of_heap h1.kbx)).trans h1.kbx, (hb.block _ (lt_of_heap h1.gbx)).trans h1.gbx, (hb.block _ (lt_of_heap h1.arr)).trans h1.arr, h1.gi, h1.lo⟩
  case body =>
    rintro l2 pre x a' Z hZs ⟨G, H1, hZ1⟩ ⟨Fb, rfl, hFb, hFlo⟩ hp
    obtain ⟨hpl, hpe, hxe⟩ := upto_at hp
    obtain ⟨k, hk⟩ : ∃ k, k = pre.length := ⟨_, rfl⟩
    rw [← hk] at hpl hxe H1
    obtain ⟨f, hf⟩ : ∃ f, L[L.length - 1 - k]? = some f := ⟨L[L.length - 1 - k]'(by omega), List.getElem?_eq_getElem (by omega)⟩
    have hfn : f < n := HL.out.2.2.2 f (List.mem_of_getElem? hf)
    obtain ⟨x1, x2⟩ := x
    have hx2 : x2 = (f : Int) := by
      have := congrArg Prod.snd hxe
      simp only [bwAt] at this
      rw [this, nts_length]
      unfold nts at_
      simp [hf]
    subst hx2
    have htm : TM n f w6.heap.size (w4.heap.size + 1 + 1) Fb Z G := ⟨H1.out.gbx, hFb, H1.out.arr, H1.out.lo.2.2.2.2, by have := HS.out; omega⟩
    have HCL := hide (back_walk (st := st4) (tl := tl4) (wt := wt4) htm (fun W hW => HGI4.out.below (Chg.below H1.out.bel hW (fun i hi => by omega) H1.out.bel.size)) HG4.out hfn)
    have y0 := cell_of H1.out.kbx (i := 0) rfl
    have y1 := cell_of H1.out.kbx (i := 1) rfl
    have y2 := cell_of H1.out.kbx (i := 2) rfl
    have y3 := cell_of H1.out.kbx (i := 3) rfl
    have y4 := cell_of hFb (i := 0) rfl
    have HF := hide hf; have HPL := hide hpl; have HKK := hide hk; have HFN := hide hfn; have HZ1 := hide hZ1
    simp only at y4 ⊢
    clear hxe hpe hp hZs hf hpl hk hfn hFb htm hZ1
    unfold gAgg at HCL
    gi_wp2_with (refine ⟨trivial, rfl, ?_⟩; refine (show CallsIn (Fence.wide.inRound l2) 0 Try.prog 35 _ Z _ from (callsIn_wide (n := 0)).2 HCL.out).mono ?_; rintro e9 w9 ⟨rfl, hc9, he9⟩; have HC9 := hide hc9; have HE9 := hide he9; clear hc9 he9 HCL)
    obtain ⟨G', hTI'⟩ := H1.out.step HC9.out HE9.out HFL.out HE.out HL.out.1 HL.out.2.1 HL.out.2.2.1 HPL.out HF.out
    rw [HKK.out] at hTI'
    exact ⟨HC9.out, ⟨G', hTI'⟩, Nat.le_trans HZ1.out HC9.out.size⟩
  case done =>
    rintro D Z hD ⟨G, H1, hZ1⟩ hK
    rw [upto_len] at H1
    have z0 := cell_of H1.out.gbx (i := 0) rfl
    have hgi := H1.out.gi
    rw [Nat.sub_self, List.drop_zero] at hgi
    obtain ⟨hg1, hg2⟩ := hgi.full HL.out.2.2.1
    have HG1 : Hid (∀ v, v < n → ∃ f : Nat, G v = (f : Int) ∧ f < n) := fun v hv => by obtain ⟨f, h1, h2⟩ := hg1 v hv; exact ⟨f, h1, HL.out.2.2.2 f h2⟩
    have HG2 := hide hg2
    clear hgi hg1 hg2
    gi_wp2
    refine leave_marks2 (B := w7.heap.size) (J := fun (_ : Unit) W => Arr W (w4.heap.size + 1 + 1) (tab n G) ∧ Below w4.heap.size w4 W) (s := ()) (v := .slice (some ⟨w4.heap.size + 1 + 1, 0, none⟩) n n) (fun s X Y row hs gr hr => ⟨box_kept hs.1 gr (fun r h => (hr r h).2), hs.2.grown gr hs.2.size (fun j hj => by have := (hr j hj).1; have := HS.out.2.2.size; omega)⟩) (fun W => ?res) (fun W hW => ⟨w4.heap.size + 1 + 1, G, rfl, hW.1, by have := HB24.out.size; omega, HB24.out.trans (hW.2.mono HB24.out.size), HG1.out, HG2.out⟩) _ Z ⟨⟨D, rfl, hD, hK, fun D' h => by simp at h⟩, trivial⟩ ⟨H1.out.arr, H1.out.bel⟩
    exact results_tmp (show Try.f17.results = #[.tmp 2] by kernel_rfl) _ _ _
theorem together_any (n : Nat) (va vb vc : Value) (st tl wt : List Int) (w : World) (hgi : GIs w n va vb vc st tl wt) (hg : Good n st tl wt) (hwn : ∀ e, 0 ≤ at_ wt e) :
    Calls Try.prog 17 #[gAgg n va vb vc] w (TogW w n (EE n (sN st) (tN tl))) := callsIn_wide.1 (together_in 0 n va vb vc st tl wt w hgi hg hwn)
end Go.Proofs.Ytiohimbifjlfdaa

/- Parts, and its law. -/
namespace Go.Proofs.Ytiohimbifjlfdaa
open Go.RowKit Go.Lib
set_option linter.unusedVariables false
set_option linter.unusedSimpArgs false
set_option maxHeartbeats 4000000 in
set_option maxRecDepth 100000 in
theorem parts_any (N : Int) (va vb vc : Value) (st tl wt : List Int) (w : World) (hg : GIs w N va vb vc st tl wt) (hst : st.length ≤ 17592186044416) (hto : tl.length ≤ 17592186044416) (hwt : wt.length ≤ 17592186044416) (hw : ∀ e, 0 ≤ at_ wt e) :
    Calls Try.prog 6 #[gAgg N va vb vc] w (LN w (prtA N st tl wt)) := by
  obtain ⟨W, hW⟩ : ∃ W, W = w.alloc (.cells #[.int .i64 N, va, vb, vc] 28) := ⟨_, rfl⟩
  have hbW : Below w.heap.size w W := by rw [hW]; exact below_alloc (Below.refl _ _) _
  have hA : W.heap[w.heap.size]? = some (.cells #[.int .i64 N, va, vb, vc] 28 (0, 0)) := by rw [hW]; exact heap_new _ _
  have HA := hide hA; have HBW := hide hbW; have HG := hide hg; have HW := hide hw
  have HCk := hide (check_all N va vb vc st tl wt W (hg.below hbW) hst hto hwt)
  have HK : Hid (∀ X, Below W.heap.size W X → X.cell? ⟨w.heap.size, 0, none⟩ = some (.int .i64 N) ∧ X.cell? ⟨w.heap.size, 1, none⟩ = some va ∧ X.cell? ⟨w.heap.size, 2, none⟩ = some vb ∧ X.cell? ⟨w.heap.size, 3, none⟩ = some vc) := fun X hX => ⟨box_keep hA hX rfl, box_keep hA hX rfl, box_keep hA hX rfl, box_keep hA hX rfl⟩
  obtain ⟨r1, r2, hr⟩ : ∃ r1 r2, (r1, r2) = chk N st tl wt := ⟨_, _, rfl⟩
  have HR := hide hr
  unfold ChkPost at HCk
  rw [← hr] at HCk
  clear hg hA hbW hr hw
  unfold gAgg at *
  go_enter Try.func6, Try.ntmps6
  go_upto_region 1 with fail
  rw [← hW]
  clear hW
  obtain ⟨p0, p1, p2, p3⟩ := HK.out _ (Below.refl _ _)
  go_wp2_with fail
  refine HCk.out.mono ?_
  rintro e w1 ⟨rfl, hb1⟩
  have HB1 := hide hb1
  clear p0 p1 p2 p3
  obtain ⟨p0, p1, p2, p3⟩ := HK.out _ hb1
  clear hb1
  by_cases hz : r1 = 0
  · subst hz
    have hc0 : (chk N st tl wt).1 = 0 := by rw [← HR.out]
    obtain ⟨n, rfl, hgood⟩ := chk_good hc0
    have HTo := hide (together_any n va vb vc st tl wt w1 ((HG.out.below HBW.out).below HB1.out) hgood HW.out)
    have hnl := hgood.n_le
    unfold gAgg at HTo
    have HC0 := hide hc0
    clear hc0
    go_wp2_with fail
    refine HTo.out.mono ?_
    rintro e w2 ⟨A, G, rfl, harr, hA2, hb2, hg1, hg2⟩
    have HB2 := hide (below_on HB1.out hb2)
    have HNu := hide (numbered_any n (.slice (some ⟨A, 0, none⟩) n n) (tab n G) (BG n st tl) w2 hnl (tab_length n G) (harr.row (tab_length n G) (by omega)) (Bo.eqv _) (fun v hv => by rw [tab_at n G v hv]; exact hg1 v hv) (fun u v hu hv => by rw [tab_at n G u hu, tab_at n G v hv]; exact hg2 u v hu hv))
    clear p0 p1 p2 p3 hb2 harr hg1 hg2 HTo
    go_wp2_with fail
    refine HNu.out.mono ?_
    rintro e w3 ⟨pv, rfl, hrow, hb3⟩
    have HB3 := hide (below_on HB2.out hb3); have HRow := hide hrow
    obtain ⟨po, pc, rfl⟩ := hrow.shape
    clear hb3 hrow HNu
    go_wp2_with fail
    go_ret2
    rw [show prtA n st tl wt = (tab n (fun v => (numb (BG n st tl) v : Int)), 0) by unfold prtA; rw [if_pos HC0.out, Int.toNat_natCast]]
    exact ⟨_, rfl, HRow.out, below_on HBW.out HB3.out⟩
  · have hzb : (r1 != 0) = true := by simpa using hz
    have HAns : Hid (prtA N st tl wt = ([], r1)) := by unfold prtA; rw [if_neg (by rw [← HR.out]; exact hz), ← HR.out]; exact hide rfl
    clear hz
    go_wp2_with fail
    go_ret2
    rw [HAns.out]
    exact ⟨_, rfl, RowAt.nil _ _, below_on HBW.out HB1.out⟩
end Go.Proofs.Ytiohimbifjlfdaa
