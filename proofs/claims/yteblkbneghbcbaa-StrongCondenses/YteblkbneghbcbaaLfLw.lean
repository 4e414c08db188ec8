import Derived.Test.YteblkbneghbcbaaWkG
import Derived.Test.YteblkbneghbcbaaPc
/- leave, where there is room; what a walk of leaving has in memory. -/
namespace Go.Proofs.Yteblkbneghbcbaa
open Go.RowKit Go.Lib
set_option linter.unusedVariables false
set_option linter.unusedSimpArgs false
set_option maxRecDepth 100000 in
set_option maxHeartbeats 2000000 in
/-- One more is left, in its place. -/
theorem leave_fits (Lb base A k cap : Nat) (l : List Int) (u : Int) (w : World) (hk : l.length = k) (hb : w.heap[Lb]? = some (.cells #[.slice (some ⟨A, 0, none⟩) k cap] 22 (0, 0))) (ho : w.ownsRow base 3 1 (.slice (some ⟨A, 0, none⟩) k cap) k (ivs l)) (hno : A ≠ Lb) (hl : k + 1 ≤ cap) :
    Calls Try.prog 93 #[.int .i64 u, .pointer (some ⟨Lb, 0, none⟩)] w fun e w' => e = .returned (.tuple #[]) ∧ w'.heap[Lb]? = some (.cells #[.slice (some ⟨A, 0, none⟩) (k + 1) cap] 22 (0, 0)) ∧ w'.ownsRow base 3 1 (.slice (some ⟨A, 0, none⟩) (k + 1) cap) (k + 1) (ivs (l ++ [u])) ∧ Chg (fun k => k = Lb ∨ k = A) w w' := by
  obtain ⟨i3, hi3, hz3, hs3, hy3⟩ := info_parts Try.info3q
  have c0 := cell_of hb (i := 0) rfl
  have HB := hide hb
  have HO := hide (own_chg (S := fun _ => False) ho ((Chg.refl _ w).alloc (.cells #[.int .i64 u] 3)) (fun _ _ h => h))
  have HNO := hide hno; have HL := hide hl
  clear hb ho hno hk hl
  go_enter Try.func93, Try.ntmps93
  go_wp2_with (first
    | (at_builtin; refine wpList_append_fits _ rfl (.tmp 3) (.tmp 5) 22 rfl base 3 i3 1 Try.underlying22 hi3 hs3 A k cap (ivs l) rfl HO.out ⟨w.heap.size, 0, none⟩ 1 1 [.int .i64 u] rfl rfl (one_at w _ _) (by simp [Value.oneCell']) HL.out ?_; intro w8 hown hgrow; have hc8 : Chg (fun k => k = A) w w8 := ((Chg.refl _ w).alloc _).grown hgrow (fun k hk => .inl (by cases hk; rfl)); have hb8 : w8.heap[Lb]? = some (.cells #[.slice (some ⟨A, 0, none⟩) k cap] 22 (0, 0)) := hc8.heap HB.out (fun h => HNO.out h.symm); have z0 := cell_of hb8 (i := 0) rfl; have zf := free_of hb8 0; have HC8 := hide hc8; have HB8 := hide hb8; have HO8 := hide hown; clear hown hgrow hc8 hb8)
    | fail)
  first | go_end0 | refine bodyPost_ret (results_none rfl _ _ _) rfl ?_
  refine ⟨rfl, heap_set HB8.out _, ?_, (HC8.out.mono (fun k hk => .inr hk)).setCell (p := ⟨Lb, 0, none⟩) (.inl rfl) _⟩
  have := own_chg (S := fun k => k = Lb) HO8.out ((Chg.refl (fun k => k = Lb) w8).setCell (p := ⟨Lb, 0, none⟩) rfl (.slice (some ⟨A, 0, none⟩) (k + 1) cap)) (fun k hk => by cases hk; exact HNO.out)
  rw [show ivs (l ++ [u]) = ivs l ++ [.int .i64 u] by simp [ivs]]
  exact this
/-- Numbers as ints. -/
def nts (L : List Nat) : List Int := L.map (fun v : Nat => (v : Int))
theorem nts_snoc (L : List Nat) (u : Nat) : nts (L ++ [u]) = nts L ++ [(u : Int)] := by simp [nts]
theorem nts_length (L : List Nat) : (nts L).length = L.length := by simp [nts]
/-- leaving under way: met, left, and the way. -/
structure LJ (n : Nat) (s t : Nat → Nat) (Mb C Lb A : Nat) (m : Nat) (l : List (Nat × Nat)) (W : World) (K : Nat → Bool) (L : List Nat) : Prop where
  ds : DS n s t L l
  kk : ∀ v, v < n → (K v = true ↔ v ∈ L ++ l.map Prod.fst)
  m : m = unp s K n + wpt s l
  mbx : W.heap[Mb]? = some (.cells #[.slice (some ⟨C, 0, none⟩) n n] 51 (0, 0))
  car : BArr W C (btab n K)
  lbx : W.heap[Lb]? = some (.cells #[.slice (some ⟨A, 0, none⟩) L.length n] 22 (0, 0))
  own : W.ownsRow A 3 1 (.slice (some ⟨A, 0, none⟩) L.length n) L.length (ivs (nts L))
  ne : C ≠ Mb ∧ C ≠ Lb ∧ C ≠ A ∧ A ≠ Mb ∧ A ≠ Lb ∧ Lb ≠ Mb
section
variable {n : Nat} {s t : Nat → Nat} {Mb C Lb A : Nat} {m : Nat} {l : List (Nat × Nat)} {W W' : World} {K : Nat → Bool} {L : List Nat}
/-- What it may turn. -/
def LT (C Lb A : Nat) (k : Nat) : Prop := k = C ∨ k = Lb ∨ k = A
theorem LJ.old (h : LJ n s t Mb C Lb A m l W K L) {B : Nat} (hB : ∀ k, k < B → W'.heap[k]? = W.heap[k]?) (h1 : Mb < B) (h2 : C < B) (h3 : Lb < B) (h4 : A < B) : LJ n s t Mb C Lb A m l W' K L := by
  refine ⟨h.ds, h.kk, h.m, (hB _ h1).trans h.mbx, (hB _ h2).trans h.car, (hB _ h3).trans h.lbx, ?_, h.ne⟩
  obtain ⟨a1, ⟨he, _⟩ | ⟨g, cap, cur, he, b1, b2, b3⟩⟩ := h.own
  · simp at he
  · simp only [Value.slice.injEq, Option.some.injEq, Addr.mk.injEq, and_true, true_and] at he
    obtain ⟨rfl, rfl⟩ := he
    exact ⟨a1, .inr ⟨A, n, cur, rfl, b1, (hB _ h4).trans b2, b3⟩⟩
/-- v is met. -/
theorem LJ.met (h : LJ n s t Mb C Lb A m l W K L) (v : Nat) {l' : List (Nat × Nat)} {m' : Nat} (hv : v < n) (hd : DS n s t L l') (hl : ∀ u, u < n → (u ∈ L ++ l'.map Prod.fst ↔ u ∈ L ++ l.map Prod.fst ∨ u = v)) (hm : m' = unp s (updK K v) n + wpt s l') : LJ n s t Mb C Lb A m' l' (W.setCell ⟨C, v, none⟩ (.bool true)) (updK K v) L ∧ Chg (LT C Lb A) W (W.setCell ⟨C, v, none⟩ (.bool true)) := by
  obtain ⟨e1, e2, e3, e4, e5, e6⟩ := h.ne
  have hc : Chg (fun k => k = C) W (W.setCell ⟨C, v, none⟩ (.bool true)) := (Chg.refl (fun k => k = C) W).setCell (p := ⟨C, v, none⟩) rfl _
  refine ⟨⟨hd, fun u hu => ?_, hm, hc.heap h.mbx (fun e => e1 e.symm), h.car.put v true, hc.heap h.lbx (fun e => e2 e.symm), own_chg h.own hc (fun g hg => by cases hg; exact fun e => e3 e.symm), h.ne⟩, hc.mono fun k hk => .inl hk⟩
  rw [hl u hu]
  unfold updK
  by_cases e : u = v
  · simp [e]
  · rw [if_neg e, h.kk u hu]
    simp [e]
theorem LJ.pass (h : LJ n s t Mb C Lb A m l W K L) {l' : List (Nat × Nat)} {m' : Nat} (hd : DS n s t L l') (hl : l'.map Prod.fst = l.map Prod.fst) (hm : m' = unp s K n + wpt s l') : LJ n s t Mb C Lb A m' l' W K L :=
  ⟨hd, by rw [hl]; exact h.kk, hm, h.mbx, h.car, h.lbx, h.own, h.ne⟩
end
set_option maxRecDepth 100000 in
/-- The first is entered, or was met. -/
theorem lj_first {n : Nat} {s t : Nat → Nat} {Mb C Lb A m : Nat} {W : World} {K : Nat → Bool} {L : List Nat} (h : LJ n s t Mb C Lb A m [] W K L) (v : Nat) (hv : v < n) (hs : s v ≤ s (v + 1)) :
    Calls Try.prog 92 (#[.int .i64 (v : Int)] ++ #[.pointer (some ⟨Mb, 0, none⟩)]) W fun e w' => Chg (LT C Lb A) W w' ∧ ((e = .returned (.bool false) ∧ (∃ m' K' L', LJ n s t Mb C Lb A m' [] w' K' L' ∧ (∀ u, u < n → K u = true → K' u = true) ∧ K' v = true)) ∨ (e = .returned (.bool true) ∧ ∃ m' K' L', LJ n s t Mb C Lb A m' [(v, s v)] w' K' L' ∧ (∀ u, u < n → K u = true → K' u = true) ∧ K' v = true)) := by
  cases hK : K v with
  | true =>
    refine (enter_met n v C Mb K W (cell_of h.mbx rfl) h.car hv hK).mono ?_
    rintro e w' ⟨rfl, rfl⟩
    exact ⟨Chg.refl _ _, .inl ⟨rfl, m, K, L, h, fun u _ hu => hu, hK⟩⟩
  | false =>
    refine (enter_new n v C Mb K W (cell_of h.mbx rfl) h.car hv hK).mono ?_
    rintro e w' ⟨rfl, rfl⟩
    have hm : ¬ v ∈ L ++ ([] : List (Nat × Nat)).map Prod.fst := fun hc => by rw [(h.kk v hv).2 hc] at hK; cases hK
    obtain ⟨h1, h2⟩ := h.met v (l' := [(v, s v)]) hv (by simpa using h.ds.enter hs hv hm (fun l a he => by simp at he)) (fun u _ => by simp) rfl
    exact ⟨h2, .inr ⟨rfl, _, _, _, h1, fun u _ hu => by unfold updK; split <;> simp [hu], by unfold updK; simp⟩⟩
set_option maxRecDepth 100000 in
theorem lj_next {n : Nat} {s t : Nat → Nat} {Mb C Lb A m : Nat} {W : World} {K : Nat → Bool} {L : List Nat} {l : List (Nat × Nat)} {u p : Nat} (h : LJ n s t Mb C Lb A m (l ++ [(u, p)]) W K L) (hp : p < s (u + 1)) (hv : t p < n) (hs : s (t p) ≤ s (t p + 1)) :
    Calls Try.prog 92 (#[.int .i64 ((t p : Nat) : Int)] ++ #[.pointer (some ⟨Mb, 0, none⟩)]) W fun e w' => Chg (LT C Lb A) W w' ∧ ((e = .returned (.bool false) ∧ (∃ m' K' L', m' < m ∧ LJ n s t Mb C Lb A m' (l ++ [(u, p + 1)]) w' K' L' ∧ (∀ u, u < n → K u = true → K' u = true))) ∨ (e = .returned (.bool true) ∧ ∃ m' K' L', m' < m ∧ LJ n s t Mb C Lb A m' (l ++ [(u, p + 1)] ++ [(t p, s (t p))]) w' K' L' ∧ (∀ u, u < n → K u = true → K' u = true))) := by
  have hu : u < n := h.ds.lt u (by simp)
  have hm0 := h.m
  cases hK : K (t p) with
  | true =>
    refine (enter_met n (t p) C Mb K W (cell_of h.mbx rfl) h.car hv hK).mono ?_
    rintro e w' ⟨rfl, rfl⟩
    exact ⟨Chg.refl _ _, .inl ⟨rfl, _, K, L, by rw [hm0]; exact pot_pass s K n u p l hp, h.pass (h.ds.pass hp ((h.kk _ hv).1 hK)) (by simp) rfl, fun u _ hu => hu⟩⟩
  | false =>
    refine (enter_new n (t p) C Mb K W (cell_of h.mbx rfl) h.car hv hK).mono ?_
    rintro e w' ⟨rfl, rfl⟩
    have hm : ¬ t p ∈ L ++ (l ++ [(u, p)]).map Prod.fst := fun hc => by rw [(h.kk _ hv).2 hc] at hK; cases hK
    have hpl := h.ds.pl (u, p) (by simp)
    have hE : EE n s t u (t p) := ⟨hu, p, hpl.1, hp, rfl⟩
    obtain ⟨h1, h2⟩ := h.met (t p) (l' := l ++ [(u, p + 1)] ++ [(t p, s (t p))]) (m' := unp s (updK K (t p)) n + wpt s (l ++ [(u, p + 1)] ++ [(t p, s (t p))])) hv (h.ds.step hp hs hv hm hE) (fun x _ => by simp only [List.map_append, List.mem_append, List.map_cons, List.map_nil, List.mem_singleton, or_assoc]) rfl
    exact ⟨h2, .inr ⟨rfl, _, _, _, by rw [hm0]; exact pot_enter s K n u p (t p) l hp hK hv, h1, fun u _ hu => by unfold updK; split <;> simp [hu]⟩⟩
set_option maxRecDepth 100000 in
theorem lj_leave {n : Nat} {s t : Nat → Nat} {Mb C Lb A m : Nat} {W : World} {K : Nat → Bool} {L : List Nat} {l : List (Nat × Nat)} {u : Nat} (h : LJ n s t Mb C Lb A m (l ++ [(u, s (u + 1))]) W K L) :
    Calls Try.prog 93 (#[.int .i64 (u : Int)] ++ #[.pointer (some ⟨Lb, 0, none⟩)]) W fun e w' => e = .returned (.tuple #[]) ∧ Chg (LT C Lb A) W w' ∧ ∃ m' K' L', m' < m ∧ LJ n s t Mb C Lb A m' l w' K' L' ∧ (∀ u, u < n → K u = true → K' u = true) := by
  have hf := h.ds.few
  have hm0 := h.m
  obtain ⟨e1, e2, e3, e4, e5, e6⟩ := h.ne
  refine (leave_fits Lb A A L.length n (nts L) (u : Int) W (nts_length L) h.lbx h.own e5 (by simp at hf; omega)).mono ?_
  rintro e w' ⟨rfl, h1, h2, h3⟩
  have hl : (L ++ [u]).length = L.length + 1 := by simp
  refine ⟨rfl, h3.mono (fun k hk => by rcases hk with hk | hk; exact .inr (.inl hk); exact .inr (.inr hk)), _, K, L ++ [u], by rw [hm0]; exact pot_leave s K n u (s (u + 1)) l, ⟨h.ds.leave, fun v hv => ?_, rfl, ?_, ?_, by rw [hl]; exact h1, by rw [hl, nts_snoc]; exact h2, h.ne⟩, fun u _ hu => hu⟩
  · rw [h.kk v hv]
    simp
    constructor <;> (intro hx; rcases hx with hx | hx | hx <;> simp [hx])
  · exact h3.heap h.mbx (fun hk => by rcases hk with hk | hk; exact e6 hk.symm; exact e4 hk.symm)
  · exact h3.heap h.car (fun hk => by rcases hk with hk | hk; exact e2 hk; exact e3 hk)
end Go.Proofs.Yteblkbneghbcbaa

/- leaving. -/
namespace Go.Proofs.Yteblkbneghbcbaa
open Go.RowKit Go.Lib
set_option linter.unusedVariables false
set_option linter.unusedSimpArgs false
theorem Try.infoBL : (Try.prog.info? 4).map (fun i => (i.zero, i.size, i.bytes)) = some (some (.bool false), 1, 1) := by kernel_rfl
theorem run_makeL (k : Nat) (hk : k ≤ 4194305) (w : World) :
    (Instr.makeSlice 51 (.int .i64 k) (.int .i64 k)).run Try.prog w = .ok (.slice (some ⟨w.heap.size, 0, none⟩) k k) (w.alloc (.cells (madeCells #[.bool false] k) 4)) := by
  obtain ⟨i0, hi, hz0, hz1, hz2⟩ := info_parts Try.infoBL
  have h := run_make (P := Try.prog) w 51 4 i0 (.bool false) Try.underlying51 hi hz0 .i64 .i64 k k (by omega) (Int.le_refl _) (by rw [hz2]; omega) (by omega)
  rw [hz1] at h
  simp only [Int.toNat_natCast, Nat.mul_one] at h
  exact h
theorem four_newL (w : World) (o1 o2 o3 o4 : Obj) : let x := (((w.alloc o1).alloc o2).alloc o3).alloc o4
    x.heap[w.heap.size]? = some o1 ∧ x.heap[w.heap.size + 1]? = some o2 ∧ x.heap[w.heap.size + 1 + 1]? = some o3 ∧ x.heap[w.heap.size + 1 + 1 + 1]? = some o4 ∧ Below w.heap.size w x ∧ x.heap.size = w.heap.size + 4 := by
  refine ⟨?_, ?_, ?_, ?_, below_alloc (below_alloc (below_alloc (below_alloc (Below.refl _ _) _) _) _) _, by simp⟩
  · exact (Below.heap_alloc _ _ _ (by first | (simp; done) | (simp; omega))).trans ((Below.heap_alloc _ _ _ (by first | (simp; done) | (simp; omega))).trans ((Below.heap_alloc _ _ _ (by first | (simp; done) | (simp; omega))).trans (heap_new _ _)))
  · have := heap_new (w.alloc o1) o2
    rw [World.size_alloc] at this
    exact (Below.heap_alloc _ _ _ (by first | (simp; done) | (simp; omega))).trans ((Below.heap_alloc _ _ _ (by first | (simp; done) | (simp; omega))).trans this)
  · have := heap_new ((w.alloc o1).alloc o2) o3
    rw [World.size_alloc, World.size_alloc] at this
    exact (Below.heap_alloc _ _ _ (by first | (simp; done) | (simp; omega))).trans this
  · have := heap_new (((w.alloc o1).alloc o2).alloc o3) o4
    rw [World.size_alloc, World.size_alloc, World.size_alloc] at this
    exact this
theorem run_make0 (k : Nat) (hk : k ≤ 4194305) (w : World) :
    (Instr.makeSlice 22 (.int .i64 0) (.int .i64 k)).run Try.prog w = .ok (.slice (some ⟨w.heap.size, 0, none⟩) 0 k) (w.alloc (.cells (madeCells #[.int .i64 0] k) 3)) := by
  obtain ⟨i0, hi, hz0, hz1, hz2⟩ := info_parts Try.info3q
  have h := run_make (P := Try.prog) w 22 3 i0 (.int .i64 0) Try.underlying22 hi hz0 .i64 .i64 0 k (by omega) (by omega) (by rw [hz2]; omega) (by omega)
  rw [hz1] at h
  simp only [Int.toNat_natCast, Nat.mul_one, Int.toNat_zero] at h
  exact h
theorem made_bar (n : Nat) : madeCells #[.bool false] n = bCells (btab n (fun _ => false)) := by
  apply Array.ext'
  simp [madeCells, bCells, btab]
  intro i hi
  simp [Nat.mod_one]
theorem five_new (w : World) (o1 o2 o3 o4 o5 : Obj) : let x := ((((w.alloc o1).alloc o2).alloc o3).alloc o4).alloc o5
    x.heap[w.heap.size]? = some o1 ∧ x.heap[w.heap.size + 1]? = some o2 ∧ x.heap[w.heap.size + 1 + 1]? = some o3 ∧ x.heap[w.heap.size + 1 + 1 + 1]? = some o4 ∧ x.heap[w.heap.size + 1 + 1 + 1 + 1]? = some o5 ∧ Below w.heap.size w x ∧ x.heap.size = w.heap.size + 5 := by
  obtain ⟨h1, h2, h3, h4, h5, h6⟩ := four_newL w o1 o2 o3 o4
  have hb := below_alloc (Below.refl ((((w.alloc o1).alloc o2).alloc o3).alloc o4).heap.size _) o5
  refine ⟨(hb.block _ (lt_of_heap h1)).trans h1, (hb.block _ (lt_of_heap h2)).trans h2, (hb.block _ (lt_of_heap h3)).trans h3, (hb.block _ (lt_of_heap h4)).trans h4, ?_, h5.trans (hb.mono (by rw [h6]; omega)), by simp⟩
  have := heap_new ((((w.alloc o1).alloc o2).alloc o3).alloc o4) o5
  rw [h6] at this
  exact this
/-- leaving under way. -/
structure LV (w wr : World) (gb : Array Value) (n : Nat) (s t : Nat → Nat) (Mb C Lb A f : Nat) : Prop where
  bel : Below w.heap.size w wr
  box : wr.heap[w.heap.size]? = some (.cells gb 25 (0, 0))
  lj : ∃ m K L, LJ n s t Mb C Lb A m [] wr K L ∧ ∀ u, u < f → u < n → K u = true
  lo : w.heap.size < C ∧ w.heap.size < Lb ∧ w.heap.size < A
set_option maxRecDepth 100000 in
theorem LV.walk {w wr : World} {n : Nat} {va vb vc : Value} {st tl wt : List Int} {Mb C Lb A f : Nat} (h : LV w wr #[.int .i64 n, va, vb, vc] n (sN st) (tN tl) Mb C Lb A f) (hgi : GIs w n va vb vc st tl wt) (hg : Good n st tl wt) (hf : f < n) :
    Calls Try.prog 64 #[gAgg n va vb vc, .int .i64 (f : Int), .func (.func 92) #[] #[.pointer (some ⟨Mb, 0, none⟩)], .func (.func 93) #[] #[.pointer (some ⟨Lb, 0, none⟩)]] wr fun e w' => e = .returned (.tuple #[]) ∧ LV w w' #[.int .i64 n, va, vb, vc] n (sN st) (tN tl) Mb C Lb A (f + 1) := by
  obtain ⟨m0, K0, L0, hlj, hK0⟩ := h.lj
  obtain ⟨lo1, lo2, lo3⟩ := h.lo
  have hl : Mb < wr.heap.size ∧ C < wr.heap.size ∧ Lb < wr.heap.size ∧ A < wr.heap.size := ⟨lt_of_heap hlj.mbx, lt_of_heap hlj.car, lt_of_heap hlj.lbx, (World.ownsRow.lt hlj.own A rfl).2⟩
  have hT : ∀ k, LT C Lb A k → k < wr.heap.size ∧ w.heap.size < k := fun k hk => by rcases hk with rfl | rfl | rfl <;> omega
  have hB : ∀ W, Chg (LT C Lb A) wr W → Below w.heap.size w W := fun W hW => Chg.below h.bel hW (fun k hk => by have := hT k hk; omega) h.bel.size
  have hv : ∀ p, p < tl.length → tN tl p < n := fun p hp => by have := hg.vtx p hp; unfold tN; omega
  have hpm : ∀ u p, u < n → p < sN st (u + 1) → p < tl.length := fun u p hu hp => by have := hg.range (u + 1) (by omega); unfold sN at hp; omega
  refine (walk_any 92 93 #[.pointer (some ⟨Mb, 0, none⟩)] #[.pointer (some ⟨Lb, 0, none⟩)] n f wr va vb vc st tl wt (LT C Lb A)
    (fun W => ∃ m K L, LJ n (sN st) (tN tl) Mb C Lb A m [] W K L ∧ ∀ u, u < f → u < n → K u = true)
    (fun m l W => ∃ K L, LJ n (sN st) (tN tl) Mb C Lb A m l W K L ∧ ∀ u, u < f + 1 → u < n → K u = true)
    (enters_of Try.func92 (by kernel_rfl) rfl) (enters_of Try.func93 (by kernel_rfl) rfl) hg hf (fun k hk => (hT k hk).1) (fun W hW => hgi.below (hB W hW))
    (fun m l W W' h1 h2 => by obtain ⟨K, L, h3, h4⟩ := h1; exact ⟨K, L, h3.old h2 hl.1 hl.2.1 hl.2.2.1 hl.2.2.2, h4⟩)
    (fun W W' h1 h2 => by obtain ⟨m, K, L, h3, h4⟩ := h1; exact ⟨m, K, L, h3.old h2 hl.1 hl.2.1 hl.2.2.1 hl.2.2.2, h4⟩)
    ⟨m0, K0, L0, hlj, hK0⟩
    (fun m l W h1 => by
      obtain ⟨K, L, h3, h4⟩ := h1
      refine ⟨by have := h3.ds.few; omega, fun a ha => ?_⟩
      have := h3.ds.pl a ha
      exact ⟨h3.ds.lt a.1 (by simp; exact .inr ⟨a.2, ha⟩), this.1, this.2.1⟩)
    (fun W h1 => by
      obtain ⟨m, K, L, h3, h4⟩ := h1
      refine (lj_first h3 f hf (sN_le hg hf)).mono ?_
      rintro e w' ⟨h5, ⟨rfl, m', K', L', h6, h7, h8⟩ | ⟨rfl, m', K', L', h6, h7, h8⟩⟩
      · exact ⟨h5, .inl ⟨rfl, m', K', L', h6, fun u hu hun => by rcases Nat.lt_or_ge u f with h9 | h9; exact h7 u hun (h4 u h9 hun); obtain rfl : u = f := by omega
                                                                 exact h8⟩⟩
      · exact ⟨h5, .inr ⟨rfl, m', K', L', h6, fun u hu hun => by rcases Nat.lt_or_ge u f with h9 | h9; exact h7 u hun (h4 u h9 hun); obtain rfl : u = f := by omega
                                                                 exact h8⟩⟩)
    (fun m l u p W h1 hp => by
      obtain ⟨K, L, h3, h4⟩ := h1
      have hu : u < n := h3.ds.lt u (by simp)
      have hpt := hpm u p hu hp
      refine (lj_next h3 hp (hv p hpt) (sN_le hg (hv p hpt))).mono ?_
      rintro e w' ⟨h5, ⟨rfl, m', K', L', h6, h7, h8⟩ | ⟨rfl, m', K', L', h6, h7, h8⟩⟩
      · exact ⟨h5, .inl ⟨rfl, m', h6, K', L', h7, fun u hu hun => h8 u hun (h4 u hu hun)⟩⟩
      · exact ⟨h5, .inr ⟨rfl, m', h6, K', L', h7, fun u hu hun => h8 u hun (h4 u hu hun)⟩⟩)
    (fun m l u W h1 => by
      obtain ⟨K, L, h3, h4⟩ := h1
      refine (lj_leave h3).mono ?_
      rintro e w' ⟨rfl, h5, m', K', L', h6, h7, h8⟩
      exact ⟨rfl, h5, m', h6, K', L', h7, fun u hu hun => h8 u hun (h4 u hu hun)⟩)).mono ?_
  rintro e w' ⟨rfl, hc, m', K', L', h5, h6⟩
  exact ⟨rfl, hB w' hc, hc.heap h.box (fun hk => by have := hT _ hk; omega), ⟨m', K', L', h5, h6⟩, h.lo⟩
set_option maxRecDepth 100000 in
set_option maxHeartbeats 4000000 in
theorem leaving_any (n : Nat) (va vb vc : Value) (st tl wt : List Int) (w : World) (hgi : GIs w n va vb vc st tl wt) (hg : Good n st tl wt) :
    Calls Try.prog 62 #[gAgg n va vb vc] w fun e w' => ∃ (A : Nat) (L : List Nat), e = .returned (.slice (some ⟨A, 0, none⟩) L.length n) ∧ w'.ownsRow A 3 1 (.slice (some ⟨A, 0, none⟩) L.length n) L.length (ivs (nts L)) ∧ w.heap.size ≤ A ∧ Below w.heap.size w w' ∧ Lv (EE n (sN st) (tN tl)) L ∧ L.Nodup ∧ (∀ v, v < n → v ∈ L) ∧ (∀ v, v ∈ L → v < n) := by
  have hnl := hg.n_le
  obtain ⟨ao, ca, rfl⟩ := hgi.s.shape
  obtain ⟨bo, cb, rfl⟩ := hgi.t.shape
  obtain ⟨co, cc, rfl⟩ := hgi.u.shape
  have hmk := run_makeL n (by omega)
  have hmk0 := run_make0 n (by omega)
  obtain ⟨n1, n2, n3, n4, n5, n6, n7⟩ := five_new w (.cells #[.int .i64 n, .slice ao st.length ca, .slice bo tl.length cb, .slice co wt.length cc] 25) (.cells (madeCells #[.bool false] n) 4) (.cells #[.slice (some ⟨w.heap.size + 1, 0, none⟩) n n] 51) (.cells (madeCells #[.int .i64 0] n) 3) (.cells #[.slice (some ⟨w.heap.size + 1 + 1 + 1, 0, none⟩) 0 n] 22)
  obtain ⟨w5, hw5⟩ : ∃ w5, w5 = ((((w.alloc (.cells #[.int .i64 n, .slice ao st.length ca, .slice bo tl.length cb, .slice co wt.length cc] 25)).alloc (.cells (madeCells #[.bool false] n) 4)).alloc (.cells #[.slice (some ⟨w.heap.size + 1, 0, none⟩) n n] 51)).alloc (.cells (madeCells #[.int .i64 0] n) 3)).alloc (.cells #[.slice (some ⟨w.heap.size + 1 + 1 + 1, 0, none⟩) 0 n] 22) := ⟨_, rfl⟩
  rw [← hw5] at n1 n2 n3 n4 n5 n6 n7
  rw [made_bar] at n2
  have HL0 : Hid (LV w w5 #[.int .i64 n, .slice ao st.length ca, .slice bo tl.length cb, .slice co wt.length cc] n (sN st) (tN tl) (w.heap.size + 1 + 1) (w.heap.size + 1) (w.heap.size + 1 + 1 + 1 + 1) (w.heap.size + 1 + 1 + 1) 0) := by
    refine ⟨n6, n1, ⟨_, fun _ => false, [], ⟨DS.start _ _ _, fun v hv => by simp, rfl, n3, n2, n5, ⟨rfl, .inr ⟨_, n, _, rfl, Nat.le_refl _, n4, Nat.zero_le _, by unfold maxLen; omega, by simp [madeCells], by simp [ivs, nts]⟩⟩, by omega, by omega, by omega, by omega, by omega, by omega⟩, fun u hu => by omega⟩, by omega, by omega, by omega⟩
  have HG := hide hgi; have HGD := hide hg
  clear n1 n2 n3 n4 n5 n6 n7 hgi hg
  unfold gAgg
  go_enter Try.func62, Try.ntmps62
  go_upto_region 3 with fail
  rw [← hw5]
  have hlo : w.heap.size < w5.heap.size := lt_of_heap HL0.out.box
  clear hw5 hmk hmk0
  have hp0 := cell_of HL0.out.box (i := 0) rfl
  go_wp2_with fail
  clear hp0
  go_loopw [14] (fun t wr => ∃ f : Nat, t = .int .i64 (f : Int) ∧ f ≤ n ∧ LV w wr #[.int .i64 n, .slice ao st.length ca, .slice bo tl.length cb, .slice co wt.length cc] n (sN st) (tN tl) (w.heap.size + 1 + 1) (w.heap.size + 1) (w.heap.size + 1 + 1 + 1 + 1) (w.heap.size + 1 + 1 + 1) f) (fun t _ => n - (RowKit.intOf t).toNat)
  case atStart => exact ⟨0, rfl, Nat.zero_le _, HL0.out⟩
  case round =>
    obtain ⟨f, rfl, hfn, hv⟩ := hrel
    have HV := hide hv
    clear hv HL0
    by_cases hlt : f < n
    · have HWK := hide (HV.out.walk HG.out HGD.out hlt)
      have hp := HV.out.box
      have z0 := cell_of hp (i := 0) rfl
      have z1 := cell_of hp (i := 1) rfl
      have z2 := cell_of hp (i := 2) rfl
      have z3 := cell_of hp (i := 3) rfl
      have hfi : (f : Int) < (n : Int) := by omega
      unfold gAgg at HWK
      clear hp
      go_wp2_with fail
      refine HWK.out.mono ?_
      rintro e w6 ⟨rfl, hv6⟩
      have HV6 := hide hv6
      clear hv6 HWK HV z0 z1 z2 z3
      go_wp2_with fail
      exact ⟨⟨f + 1, by simp, by omega, HV6.out⟩, by simp [RowKit.intOf]; omega⟩
    · obtain rfl : f = n := by omega
      obtain ⟨m, K, L, hlj, hK⟩ := HV.out.lj
      have HLJ := hide hlj; have HKK := hide hK
      have z0 := cell_of hlj.lbx (i := 0) rfl
      clear hlj hK
      go_wp2_with fail
      go_ret
      obtain ⟨d1, d2, d3, d4⟩ := HLJ.out.ds.done
      exact ⟨_, L, rfl, HLJ.out.own, by omega, HV.out.bel, d1, d2, fun v hv => by have := (HLJ.out.kk v hv).1 (HKK.out v hv hv); simpa using this, d3⟩
end Go.Proofs.Yteblkbneghbcbaa
