/- GraphOrders: the walk. -/
import Derived.Test.YtmagigmcbegmiaaOe
import Derived.BigQuiet
import Derived.Deep.Cut
import Derived.Deep.CutRange
namespace Go.Proofs.Ytmagigmcbegmiaa
open Go.RowKit Go.Lib
set_option linter.unusedVariables false
set_option linter.unusedSimpArgs false
theorem one_cellsO (w : World) (x0 : Value) (t : TypeId) : ∀ j u, [x0][j]? = some u → (w.alloc (.cells #[x0] t)).cell? ((⟨w.heap.size, 0, none⟩ : Addr).add j) = some u := by
  intro j u hj
  have hh : (w.alloc (.cells #[x0] t)).heap[w.heap.size]? = some (.cells #[x0] t (0, 0)) := heap_new _ _
  match j, hj with
  | 0, hj =>
    simp at hj
    subst hj
    rw [Addr.add_lit]
    exact cell_of hh rfl
/-- The list [1, 0] in a block. -/
def LT (y : World) (n : Nat) : Prop := y.heap[n]? = some (.cells #[.int .i64 1, .int .i64 0] 3 (0, 0))
theorem LT.new {y : World} {n : Nat} (hn : n = y.heap.size) : LT (y.alloc (.cells #[.int .i64 1, .int .i64 0] 3)) n := by subst hn; exact heap_new _ _
theorem LT.below {y y' : World} {n : Nat} (h : LT y n) (hb : Below y.heap.size y y') : LT y' n := (hb.block _ (lt_of_heap h)).trans h
theorem LT.row {y : World} {n : Nat} (h : LT y n) : RowAt .i64 y (.slice (some ⟨n, 0, none⟩) 2 2) [1, 0] := Arr.row (l := [1, 0]) (by unfold Arr; exact h) rfl (by omega)
theorem two_gis {w : World} {G1 G2 G3 : Nat} (h1 : Arr w G1 [0, 2, 2]) (h2 : Arr w G2 [1, 0]) (h3 : ArrU w G3 [3, 4]) : GIs w 2 (.slice (some ⟨G1, 0, none⟩) 3 3) (.slice (some ⟨G2, 0, none⟩) 2 2) (.slice (some ⟨G3, 0, none⟩) 2 2) [0, 2, 2] [1, 0] [3, 4] :=
  ⟨h1.row rfl (by omega), h2.row rfl (by omega), h3.row rfl (by omega)⟩
theorem two_nn : ∀ e, 0 ≤ at_ [3, 4] e := fun e => match e with
  | 0 => by decide
  | 1 => by decide
  | e + 2 => by simp [at_]
/-- Backwards, so far. -/
def rvL (o : List Int) (m : Nat) : List Int := o.reverse.take (o.length - m)
theorem rvL_start (o : List Int) : rvL o o.length = [] := by simp [rvL]
theorem rvL_end (o : List Int) : rvL o 0 = o.reverse := List.take_of_length_le (by simp)
theorem rvL_len (o : List Int) (m : Nat) : (rvL o m).length = o.length - m := by simp [rvL]
theorem rvL_step (o : List Int) (i : Nat) (hi : i < o.length) : (rvL o i).map (Value.int .i64) = (rvL o (i + 1)).map (Value.int .i64) ++ [.int .i64 (at_ o i)] := by
  have e : o.length - i = (o.length - (i + 1)) + 1 := by omega
  have hl : o.length - (i + 1) < o.reverse.length := by simp; omega
  unfold rvL
  rw [e, List.take_add_one, List.map_append, List.getElem?_eq_getElem hl]
  have : o.reverse[o.length - (i + 1)] = at_ o i := by
    rw [List.getElem_reverse]
    have e2 : o.length - 1 - (o.length - (i + 1)) = i := by omega
    simp only [e2]
    simp [at_, List.getElem?_eq_getElem hi]
  simp [this]
theorem FI.chg {k : IntKind} {e : TypeId} {P : Nat → Prop} {w w' : World} {g : Nat} {xs : List Int} (h : FI k e w g xs) (hc : Chg P w w') (hn : ¬ P g) : FI k e w' g xs := by
  obtain ⟨T, h⟩ := h
  exact ⟨T, hc.heap h hn⟩
theorem FI.keep {k : IntKind} {e : TypeId} {w w' : World} {g : Nat} {xs : List Int} (h : FI k e w g xs) {T : Nat} (hk : KeepT T w w') (hT : T ≤ g) (h1 : e ≠ 22) (h2 : e ≠ 23) (h3 : e ≠ 56) : FI k e w' g xs := by
  obtain ⟨T, h⟩ := h
  exact ⟨T, (hk _ _ _ hT h h1 h2 h3).trans h⟩
/-- The last list under way. -/
structure RV (V wr : World) (v : Value) (o : List Int) (m : Nat) : Prop where
  bel : Below V.heap.size V wr
  own : wr.ownsRow V.heap.size 3 1 v (o.length - m) ((rvL o m).map (Value.int .i64))
theorem RV.step {V wr w5 : World} {u v' : Value} {o : List Int} {i : Nat} {ob : Obj} (h : RV V wr u o (i + 1)) (hi : i < o.length) (hg : (wr.alloc ob).grownBy w5 u.ownBlock) (hown : w5.ownsRow V.heap.size 3 1 v' (o.length - (i + 1) + 1) ((rvL o (i + 1)).map (Value.int .i64) ++ [.int .i64 (at_ o i)])) : RV V w5 v' o i := by
  have hb := below_alloc h.bel ob
  refine ⟨hb.grown hg hb.size (fun j hj => (World.ownsRow.lt h.own j hj).1), ?_⟩
  rw [rvL_step o i hi, show o.length - i = o.length - (i + 1) + 1 by omega]
  exact hown
theorem RV.start {V : World} {o : List Int} {m : Nat} (hm : m = o.length) : RV V V (.slice none 0 0) o m := by
  subst hm
  refine ⟨Below.refl _ _, ?_⟩
  rw [rvL_start, Nat.sub_self]
  exact World.ownsRow_nil _ _ _ _
/-- Blocks that are no rows of lists and no book stay. -/
def KeepA (w w' : World) : Prop := ∀ (b : Nat) (cur : Array Value) (t : TypeId), w.heap[b]? = some (.cells cur t (0, 0)) → t ≠ 22 → t ≠ 23 → t ≠ 56 → w'.heap[b]? = w.heap[b]?
theorem keep_all {T g : Nat} {V wr wy y : World} (h1 : Below V.heap.size V wr) (h2 : Chg (fun k => k = g) wr wy) (hg : g < T) (h3 : KeepA wy y) : KeepT T V y := fun b cur t hb hc a1 a2 a3 => by
  have e1 := (h1.block _ (lt_of_heap hc)).trans hc
  have e2 := h2.heap e1 (by show ¬ b = g; omega)
  exact ((h3 b cur t e2 a1 a2 a3).trans e2).trans hc.symm
theorem RV.row {V wr : World} {v : Value} {o : List Int} (h : RV V wr v o 0) : RowAt .i64 wr v o.reverse := by
  have := h.own
  rw [rvL_end, Nat.sub_zero] at this
  exact RowAt.of_owns (by simpa using this)
theorem RV.rowK {V wr wy y : World} {v : Value} {o : List Int} {g : Nat} (h : RV V wr v o 0) (h2 : Chg (fun k => k = g) wr wy) (hg : g < V.heap.size) (h3 : KeepA wy y) : RowAt .i64 y v o.reverse := by
  have hw := h.own
  rw [rvL_end, Nat.sub_zero] at hw
  have h4 := ownA_stay (Y := wy) hw (fun k hk => h2.block k (hw.lt k hk).2 (by show ¬ k = g; have := (hw.lt k hk).1; omega))
  have h5 := ownA_stay (Y := y) h4 (fun k hk => let ⟨cur, hc⟩ := ownA_type h4 hk; h3 k cur _ hc (by decide) (by decide) (by decide))
  exact RowAt.of_owns (by simpa using h5)
theorem two_step {B k : Nat} {X0 y : World} (h : BO B X0 y k) : Calls Try.prog 39 #[] y fun e y' => ∃ G1 G2 G3, e = .returned (.agg #[.int .i64 2, .slice (some ⟨G1, 0, none⟩) 3 3, .slice (some ⟨G2, 0, none⟩) 2 2, .slice (some ⟨G3, 0, none⟩) 2 2]) ∧ BO B X0 y' k ∧ GIs y' 2 (.slice (some ⟨G1, 0, none⟩) 3 3) (.slice (some ⟨G2, 0, none⟩) 2 2) (.slice (some ⟨G3, 0, none⟩) 2 2) [0, 2, 2] [1, 0] [3, 4] ∧ Below y.heap.size y y' := by
  refine (two_any y).mono ?_
  rintro e y' ⟨G1, G2, G3, rfl, t1, t2, t3, _, _, _, _, hb⟩
  exact ⟨G1, G2, G3, rfl, h.on hb, two_gis t1 t2 t3, hb⟩
/-- The other graph, as it was answered. -/
def TW (y : World) (v : Value) : Prop := ∃ G1 G2 G3, v = .agg #[.int .i64 2, .slice (some ⟨G1, 0, none⟩) 3 3, .slice (some ⟨G2, 0, none⟩) 2 2, .slice (some ⟨G3, 0, none⟩) 2 2] ∧ GIs y 2 (.slice (some ⟨G1, 0, none⟩) 3 3) (.slice (some ⟨G2, 0, none⟩) 2 2) (.slice (some ⟨G3, 0, none⟩) 2 2) [0, 2, 2] [1, 0] [3, 4]
theorem TW.below {y y' : World} {v : Value} (h : TW y v) (hb : Below y.heap.size y y') : TW y' v := by
  obtain ⟨G1, G2, G3, e, hg⟩ := h
  exact ⟨G1, G2, G3, e, hg.below hb⟩
theorem two_stepV {B k : Nat} {X0 y : World} (h : BO B X0 y k) : Calls Try.prog 39 #[] y fun e y' => ∃ v, e = .returned v ∧ BO B X0 y' k ∧ TW y' v ∧ Below y.heap.size y y' := by
  refine (two_any y).mono ?_
  rintro e y' ⟨G1, G2, G3, rfl, t1, t2, t3, _, _, _, _, hb⟩
  exact ⟨_, rfl, h.on hb, ⟨G1, G2, G3, rfl, two_gis t1 t2 t3⟩, hb⟩
theorem lit_ex {B k : Nat} {X0 y : World} (h : BO B X0 y k) : ∃ y' v, BO B X0 y' k ∧ RowAt .i64 y' v [1, 0] ∧ Below y.heap.size y y' ∧ y.alloc (.cells #[.int .i64 1, .int .i64 0] 3) = y' ∧ .slice (some ⟨y.heap.size, 0, none⟩) 2 2 = v :=
  ⟨_, _, h.on (below_alloc (Below.refl _ _) _), (LT.new rfl).row, below_alloc (Below.refl _ _) _, rfl, rfl⟩
theorem three_step {B k : Nat} {X0 y : World} {va vb r1 r2 : Value} {c : Int} (h : BO B X0 y k) (hk : k ≤ 100) (ha : TW y va) (hb : TW y vb) (h1 : RowAt .i64 y r1 [1, 0]) (h2 : RowAt .i64 y r2 [1, 0]) :
    Calls Try.prog 38 #[.pointer (some ⟨B, 0, none⟩), va, vb, r1, r2, .int .i64 c] y fun e y' => e = .returned (.bool true) ∧ BO B X0 y' (k + 1) := by
  obtain ⟨G1, G2, G3, rfl, hg⟩ := ha
  obtain ⟨K1, K2, K3, rfl, hg'⟩ := hb
  -- the two graphs lie elsewhere, their numbers are the same
  exact h.step hk hg hg' (by decide) (by decide) (by decide) two_nn h1 h2
theorem wpAnyH_cast {P : Program} {md : Region.Mode} {ops : Array Oper} {Q : Exit → Act → World → Prop} {S : World → Prop} {n : Nat} {listed listed' : Array Bool} {a : Act} {w : World} (h : listed = listed') (k : wpAnyH P md ops Q S n listed' a w) : wpAnyH P md ops Q S n listed a w := h ▸ k
/-- What follows is shown once. -/
theorem cut_via {B : Nat} {X0 : World} {S : World → Prop} {G : Prop} {T : Value → Value → Value → Value → World → Prop} (main : (∀ v1 v2 v3 v4 Y, BO B X0 Y 3 → S Y → T v1 v2 v3 v4 Y) → G) (rest : ∀ v1 v2 v3 v4 Y, BO B X0 Y 3 → S Y → T v1 v2 v3 v4 Y) : G := main rest
set_option maxRecDepth 100000 in
set_option maxHeartbeats 16000000 in
theorem orders_law (N : Int) (va vb vc ov : Value) (st tl wt o : List Int) (c : Int) (w : World) (hg : GIs w N va vb vc st tl wt) (hN : N ≤ 9223372036854775807) (hst : st.length * 8 ≤ 140737488351232) (hto : tl.length * 8 ≤ 140737488351232) (hwt : wt.length * 8 ≤ 140737488351232) (hw : ∀ e, 0 ≤ at_ wt e) (hf : RowAt .i64 w ov o) (hfl : o.length * 8 ≤ 140737488351232) :
    Calls Try.prog 11 #[gAgg N va vb vc, ov, .int .i64 c] w fun e w' => e = .returned (.bool true) ∧ Below w.heap.size w w' := by
  obtain ⟨i0, hi, hz0, hz1, hz2⟩ := info_parts Try.info3
  obtain ⟨ao, ca, rfl⟩ := hg.s.shape
  obtain ⟨bo, cb, rfl⟩ := hg.t.shape
  obtain ⟨co, cc, rfl⟩ := hg.u.shape
  obtain ⟨fo, fc, rfl⟩ := hf.shape
  have HG := hide hg; have HWN := hide hw; have HF0 := hide hf
  obtain ⟨c0, c1, c2, c3, hb1, hs1⟩ := boxed w (.int .i64 N) (.slice ao st.length ca) (.slice bo tl.length cb) (.slice co wt.length cc)
  have HA1 := hide (heap_new w (.cells #[.int .i64 N, .slice ao st.length ca, .slice bo tl.length cb, .slice co wt.length cc] 25))
  have HRM := hide (room_anyX N _ _ _ st tl wt _ (HG.out.below hb1) hst hto hwt)
  have HG1 := hide (HG.out.below hb1)
  have HF1 := hide (hf.below hb1)
  unfold gAgg at HRM ⊢
  have HB1 := hide hb1
  clear hb1 hg hf hw
  go_enter Try.func11, Try.ntmps11
  go_wp2_with fail
  generalize (w.alloc (.cells #[.int .i64 N, .slice ao st.length ca, .slice bo tl.length cb, .slice co wt.length cc] 25)) = w1 at c0 c1 c2 c3 hs1 HB1 HRM HG1 HF1 HA1 ⊢
  refine HRM.out.mono ?_
  rintro e w2 ⟨R, rfl, hR, hroom, hb2⟩
  have HA2 := hide ((hb2.block _ (lt_of_heap HA1.out)).trans HA1.out)
  have HG2 := hide (HG1.out.below hb2)
  have HF2 := hide (HF1.out.below hb2)
  have HB2 := hide (below_on HB1.out hb2)
  have HRO := hide hroom
  have hs2 : w.heap.size < w1.heap.size := hs1
  have hs3 : w1.heap.size ≤ w2.heap.size := hb2.size
  clear hroom hb2 HB1 HG1 HF1 HRM c0 c1 c2 c3 hs1 HA1 hR
  go_wp2_with (first
    | (at_builtin; refine wpList_fresh rfl (.tmp 15) (.tmp 16) 22 rfl .i64 3 i0 (.int .i64 0) 8 Try.underlying22 hi hz0 hz1 hz2 rfl w2.heap.size _ (own_new _ 3 w2.heap.size (by simp)) (by simp) _ o rfl rfl (HF2.out.below (below_alloc (Below.refl _ _) _)) (by omega) (by unfold maxLen; omega) ?_; intro v1 w1a hownA1 hbelA1)
    | (at_builtin; refine wpList_append_own _ rfl (.tmp 17) (.tmp 18) 22 rfl _ 3 i0 (.int .i64 0) 1 8 Try.underlying22 hi hz0 hz1 hz2 rfl (by decide) _ _ _ rfl (hownA1.alloc _) ⟨w1a.heap.size, 0, none⟩ 2 2 [.int .i64 (-77), .int .i64 (-78)] rfl rfl (two_at w1a _ _ _) (by simp [Value.oneCell']) (by unfold maxLen; omega) (by omega) (by have hq := hbelA1.size; simp at hq; simp; omega) ?_; intro u1 X0 hownB1 hgrowB1 hqB1; obtain ⟨g1, e1, rfl, ka1, kb1, kc1, hrow1, hbel1⟩ := marks_made hownA1 (below_on (below_alloc (Below.refl _ _) _) hbelA1) hownB1 hgrowB1; have HFI := hide (FI.of_owns (k := .i64) (xs := o ++ [-77, -78]) (by simpa using hownB1)).1; have HBEL1 := hide hbel1; clear hownA1 hbelA1 hownB1 hgrowB1 hqB1 hrow1 hbel1)
    | fail)
  obtain ⟨L, hL⟩ : ∃ L, L = o.length := ⟨_, rfl⟩
  have HLL := hide hL
  have HRX := hide (HRO.out.below HBEL1.out)
  have HAX := hide ((HBEL1.out.block _ (lt_of_heap HA2.out)).trans HA2.out)
  have HB3 := hide (below_on HB2.out HBEL1.out)
  have HG3 := hide (HG2.out.below HBEL1.out)
  have HF3 := hide (HF2.out.below HBEL1.out)
  rw [← hL] at ka1 HF3 HF0 hfl ⊢
  have hs4 : w2.heap.size ≤ X0.heap.size := HBEL1.out.size
  have hgX : g1 < X0.heap.size := HFI.out.lt
  have HFL : Hid (RowAt .i64 X0 (.slice (some ⟨g1, 0, none⟩) L e1) o) := by
    have := (HFI.out.row (n := L + 2) (c := e1) (by rw [hL]; simp) ka1 kb1).front
    rw [← hL] at this
    exact this
  obtain ⟨xo, xa, yo, yb, zo, zc, h1, f1, h2, f2, h3, f3, hh, hg, r1, r2, r3, hx12, kHR, kRS, kS1, kS2, kS3, kS4⟩ := HRX.out
  have q1 := row_marks r1 rfl; have q2 := row_marks r2 rfl; have q3 := row_marks r3 rfl
  have HGI : Hid (GIs X0 N (.slice (some ⟨h1, 0, none⟩) st.length f1) (.slice (some ⟨h2, 0, none⟩) tl.length f2) (.slice (some ⟨h3, 0, none⟩) wt.length f3) st tl wt) := ⟨q1.front, q2.front, q3.front⟩
  have HCE : Hid (∀ x, Below X0.heap.size X0 x → (fun x => x.cell? ⟨w.heap.size, 0, none⟩ = some (.int .i64 N) ∧ x.cell? ⟨w.heap.size, 1, none⟩ = some (.slice ao st.length ca) ∧ x.cell? ⟨w.heap.size, 2, none⟩ = some (.slice bo tl.length cb) ∧ x.cell? ⟨w.heap.size, 3, none⟩ = some (.slice co wt.length cc) ∧ x.cell? ⟨R, 7, none⟩ = some (.int .i64 N) ∧ x.cell? ⟨R, 8, none⟩ = some (.slice (some ⟨h1, 0, none⟩) st.length f1) ∧ x.cell? ⟨R, 9, none⟩ = some (.slice (some ⟨h2, 0, none⟩) tl.length f2) ∧ x.cell? ⟨R, 10, none⟩ = some (.slice (some ⟨h3, 0, none⟩) wt.length f3)) x) := fun x hx => by
    have ha := (hx.block _ (lt_of_heap HAX.out)).trans HAX.out
    have hb := (hx.block _ (lt_of_heap hh)).trans hh
    exact ⟨cell_of ha rfl, cell_of ha rfl, cell_of ha rfl, cell_of ha rfl, cell_of hb rfl, cell_of hb rfl, cell_of hb rfl, cell_of hb rfl⟩
  have HSTEP : Hid (∀ y k, BO X0.heap.size X0 y k → k ≤ 100 → Calls Try.prog 38 #[.pointer (some ⟨X0.heap.size, 0, none⟩), .agg #[.int .i64 N, .slice (some ⟨h1, 0, none⟩) st.length f1, .slice (some ⟨h2, 0, none⟩) tl.length f2, .slice (some ⟨h3, 0, none⟩) wt.length f3], .agg #[.int .i64 N, .slice ao st.length ca, .slice bo tl.length cb, .slice co wt.length cc], .slice (some ⟨g1, 0, none⟩) L e1, .slice fo L fc, .int .i64 c] y fun e y' => e = .returned (.bool true) ∧ BO X0.heap.size X0 y' (k + 1)) := fun y k hy hk =>
    hy.step hk (HGI.out.below hy.bel) (HG3.out.below hy.bel) (by omega) (by omega) (by omega) HWN.out (HFL.out.below hy.bel) (HF3.out.below hy.bel)
  have HRK : Hid (w1.heap.size ≤ R ∧ R < w2.heap.size ∧ w2.heap.size ≤ g1) := ⟨kHR, kRS, kc1⟩
  clear hh hg r1 r2 r3 q1 q2 q3 HRO HB2 HG2 HF2 HBEL1 hL HA2 kc1 kHR kRS kS1 kS2 kS3 kS4 hx12
  have HS := hide ((BO.start X0).on (below_drew (Below.refl _ _)))
  have HTWO : Hid (∀ y, BO X0.heap.size X0 y 2 → Calls Try.prog 39 #[] y fun e y' => ∃ v, e = .returned v ∧ BO X0.heap.size X0 y' 2 ∧ TW y' v ∧ Below y.heap.size y y') := fun y h => two_stepV h
  have HC58 : Hid (∀ y va vb r1 r2, BO X0.heap.size X0 y 2 → TW y va → TW y vb → RowAt .i64 y r1 [1, 0] → RowAt .i64 y r2 [1, 0] → Calls Try.prog 38 #[.pointer (some ⟨X0.heap.size, 0, none⟩), va, vb, r1, r2, .int .i64 2] y fun e y' => e = .returned (.bool true) ∧ BO X0.heap.size X0 y' 3) := fun y va vb r1 r2 h ha hb h1 h2 => three_step h (by decide) ha hb h1 h2
  go_wp2_with fail
  have hLc : (L : Int) ≤ (e1 : Int) := by omega
  go_cut [80] from 24 to 80 (fun t wx => t = .bool false ∧ BOT X0.heap.size X0 wx 4)
  case first =>
    refine wp_region_held_drew (S := (fun x => x.cell? ⟨w.heap.size, 0, none⟩ = some (.int .i64 N) ∧ x.cell? ⟨w.heap.size, 1, none⟩ = some (.slice ao st.length ca) ∧ x.cell? ⟨w.heap.size, 2, none⟩ = some (.slice bo tl.length cb) ∧ x.cell? ⟨w.heap.size, 3, none⟩ = some (.slice co wt.length cc) ∧ x.cell? ⟨R, 7, none⟩ = some (.int .i64 N) ∧ x.cell? ⟨R, 8, none⟩ = some (.slice (some ⟨h1, 0, none⟩) st.length f1) ∧ x.cell? ⟨R, 9, none⟩ = some (.slice (some ⟨h2, 0, none⟩) tl.length f2) ∧ x.cell? ⟨R, 10, none⟩ = some (.slice (some ⟨h3, 0, none⟩) wt.length f3))) (by kernel_rfl) (HCE.out _ HS.out.bel) (fun hHeld => ?_)
    refine wpAnyH_take (i := 0) (oi := { dst := some 24, op := Op.move (Operand.tmp 10), type := 51, pos := "law.go:185", after := #[], guard := none }) (v := ?_) rfl (by kernel_rfl) (by kernel_rfl) (by kernel_rfl) (fun _ _ _ h => h) (Or.inl ⟨by rfl, ?_⟩) (by assumption) ?_
    rotate_left
    · intro w hSw
      try dsimp only at hSw
      go_simp
      all_goals try with_reducible rfl
    try simp only [Act.put, List.setIfInBounds_toArray, List.set_cons_zero, List.set_cons_succ]
    refine wpAnyH_take (i := 1) (oi := { dst := some 25, op := Op.move (Operand.tmp 7), type := 26, pos := "law.go:185", after := #[], guard := none }) (v := ?_) rfl (by kernel_rfl) (by kernel_rfl) (by kernel_rfl) (fun _ _ _ h => h) (Or.inl ⟨by rfl, ?_⟩) (by assumption) ?_
    rotate_left
    · intro w hSw
      try dsimp only at hSw
      go_simp
      all_goals try with_reducible rfl
    try simp only [Act.put, List.setIfInBounds_toArray, List.set_cons_zero, List.set_cons_succ]
    refine wpAnyH_take (i := 2) (oi := { dst := some 26, op := Op.nilCheck (Operand.tmp 25), type := 0, pos := "law.go:185", after := #[{ on := 1, ground := Ground.data }], guard := none }) (v := ?_) rfl (by kernel_rfl) (by kernel_rfl) (by kernel_rfl) (fun _ _ _ h => h) (Or.inl ⟨by rfl, ?_⟩) (by assumption) ?_
    rotate_left
    · intro w hSw
      try dsimp only at hSw
      go_simp
      all_goals try with_reducible rfl
    try simp only [Act.put, List.setIfInBounds_toArray, List.set_cons_zero, List.set_cons_succ]
    refine wpAnyH_take (i := 3) (oi := { dst := some 27, op := Op.fieldAddr 32 (Operand.tmp 26) 4, type := 0, pos := "law.go:185", after := #[{ on := 2, ground := Ground.data }], guard := none }) (v := ?_) rfl (by kernel_rfl) (by kernel_rfl) (by kernel_rfl) (fun _ _ _ h => h) (Or.inl ⟨by rfl, ?_⟩) (by assumption) ?_
    rotate_left
    · intro w hSw
      try dsimp only at hSw
      go_simp
      all_goals try with_reducible rfl
    try simp only [Act.put, List.setIfInBounds_toArray, List.set_cons_zero, List.set_cons_succ]
    refine wpAnyH_take (i := 4) (oi := { dst := some 28, op := Op.load 25 (Operand.tmp 27), type := 25, pos := "law.go:185", after := #[{ on := 3, ground := Ground.data }], guard := none }) (v := ?_) rfl (by kernel_rfl) (by kernel_rfl) (by kernel_rfl) (fun _ _ _ h => h) (Or.inl ⟨by rfl, ?_⟩) (by assumption) ?_
    rotate_left
    · intro w hSw
      try dsimp only at hSw
      go_simp
      all_goals try with_reducible rfl
    try simp only [Act.put, List.setIfInBounds_toArray, List.set_cons_zero, List.set_cons_succ]
    refine wpAnyH_take (i := 5) (oi := { dst := some 29, op := Op.load 25 (Operand.tmp 3), type := 25, pos := "law.go:185", after := #[], guard := none }) (v := ?_) rfl (by kernel_rfl) (by kernel_rfl) (by kernel_rfl) (fun _ _ _ h => h) (Or.inl ⟨by rfl, ?_⟩) (by assumption) ?_
    rotate_left
    · intro w hSw
      try dsimp only at hSw
      go_simp
      all_goals try with_reducible rfl
    try simp only [Act.put, List.setIfInBounds_toArray, List.set_cons_zero, List.set_cons_succ]
    refine wpAnyH_take (i := 6) (oi := { dst := some 30, op := Op.move (Operand.tmp 8), type := 22, pos := "law.go:185", after := #[], guard := none }) (v := ?_) rfl (by kernel_rfl) (by kernel_rfl) (by kernel_rfl) (fun _ _ _ h => h) (Or.inl ⟨by rfl, ?_⟩) (by assumption) ?_
    rotate_left
    · intro w hSw
      try dsimp only at hSw
      go_simp
      all_goals try with_reducible rfl
    try simp only [Act.put, List.setIfInBounds_toArray, List.set_cons_zero, List.set_cons_succ]
    refine wpAnyH_take (i := 7) (oi := { dst := some 31, op := Op.move (Operand.tmp 9), type := 3, pos := "law.go:185", after := #[], guard := none }) (v := ?_) rfl (by kernel_rfl) (by kernel_rfl) (by kernel_rfl) (fun _ _ _ h => h) (Or.inl ⟨by rfl, ?_⟩) (by assumption) ?_
    rotate_left
    · intro w hSw
      try dsimp only at hSw
      go_simp
      all_goals try with_reducible rfl
    try simp only [Act.put, List.setIfInBounds_toArray, List.set_cons_zero, List.set_cons_succ]
    refine wpAnyH_take (i := 8) (oi := { dst := some 32, op := Op.slice 22 (Operand.tmp 30) none (some (Operand.tmp 31)) none, type := 22, pos := "law.go:185", after := #[{ on := 6, ground := Ground.data }, { on := 7, ground := Ground.data }], guard := none }) (v := ?_) rfl (by kernel_rfl) (by kernel_rfl) (by kernel_rfl) (fun _ _ _ h => h) (Or.inl ⟨by rfl, ?_⟩) (by assumption) ?_
    rotate_left
    · intro w hSw
      try dsimp only at hSw
      go_simp
      all_goals try with_reducible rfl
    try simp only [Act.put, List.setIfInBounds_toArray, List.set_cons_zero, List.set_cons_succ]
    refine wpAnyH_take (i := 9) (oi := { dst := some 33, op := Op.move (Operand.tmp 1), type := 22, pos := "law.go:185", after := #[], guard := none }) (v := ?_) rfl (by kernel_rfl) (by kernel_rfl) (by kernel_rfl) (fun _ _ _ h => h) (Or.inl ⟨by rfl, ?_⟩) (by assumption) ?_
    rotate_left
    · intro w hSw
      try dsimp only at hSw
      go_simp
      all_goals try with_reducible rfl
    try simp only [Act.put, List.setIfInBounds_toArray, List.set_cons_zero, List.set_cons_succ]
    refine wpAnyH_take (i := 10) (oi := { dst := some 34, op := Op.move (Operand.tmp 2), type := 3, pos := "law.go:185", after := #[], guard := none }) (v := ?_) rfl (by kernel_rfl) (by kernel_rfl) (by kernel_rfl) (fun _ _ _ h => h) (Or.inl ⟨by rfl, ?_⟩) (by assumption) ?_
    rotate_left
    · intro w hSw
      try dsimp only at hSw
      go_simp
      all_goals try with_reducible rfl
    try simp only [Act.put, List.setIfInBounds_toArray, List.set_cons_zero, List.set_cons_succ]
    refine wpAnyH_ready (rs := [11]) (by kernel_rfl) (by simp) ?_
    refine AllReadyH.cons (o := { dst := some 35, op := Op.call { callee := Callee.value (Operand.func 38), args := #[Operand.tmp 24, Operand.tmp 28, Operand.tmp 29, Operand.tmp 32, Operand.tmp 33, Operand.tmp 34], argTypes := #[51, 25, 25, 22, 22, 3] }, type := 4, pos := "law.go:185", after := #[{ on := 0, ground := Ground.data }, { on := 4, ground := Ground.data }, { on := 5, ground := Ground.data }, { on := 8, ground := Ground.data }, { on := 9, ground := Ground.data }, { on := 10, ground := Ground.data }], guard := none }) rfl (fun K hK => ?_) AllReadyH.nil
    go_simp
    refine (HSTEP.out _ _ HS.out (by decide)).mono ?_
    clear HS
    rintro e Y ⟨rfl, hs⟩
    have HS := hide hs
    clear hs hHeld
    refine hK.out _ _ (HCE.out _ HS.out.bel) (fun hHeld => ?_)
    clear hK K
    try simp only [Act.put, List.setIfInBounds_toArray, List.set_cons_zero, List.set_cons_succ]
    refine wpAnyH_take (i := 12) (oi := { dst := some 36, op := Op.unOp UnOp.not 4 (Operand.tmp 35), type := 4, pos := "law.go:185", after := #[{ on := 11, ground := Ground.data }], guard := none }) (v := ?_) rfl (by kernel_rfl) (by kernel_rfl) (by kernel_rfl) (fun _ _ _ h => h) (Or.inl ⟨by rfl, ?_⟩) (by assumption) ?_
    rotate_left
    · intro w hSw
      try dsimp only at hSw
      go_simp
      all_goals try with_reducible rfl
    try simp only [Act.put, List.setIfInBounds_toArray, List.set_cons_zero, List.set_cons_succ]
    refine wpAnyH_take (i := 13) (oi := { dst := some 37, op := Op.move (Operand.tmp 36), type := 4, pos := "law.go:185", after := #[{ on := 12, ground := Ground.data }, { on := 11, ground := Ground.chain }], guard := none }) (v := ?_) rfl (by kernel_rfl) (by kernel_rfl) (by kernel_rfl) (fun _ _ _ h => h) (Or.inl ⟨by rfl, ?_⟩) (by assumption) ?_
    rotate_left
    · intro w hSw
      try dsimp only at hSw
      go_simp
      all_goals try with_reducible rfl
    try simp only [Act.put, List.setIfInBounds_toArray, List.set_cons_zero, List.set_cons_succ]
    refine wpAnyH_take (i := 14) (oi := { dst := some 38, op := Op.move (Operand.tmp 10), type := 51, pos := "law.go:185", after := #[{ on := 13, ground := Ground.guard }], guard := some (13, false) }) (v := ?_) rfl (by kernel_rfl) (by kernel_rfl) (by kernel_rfl) (fun _ _ _ h => h) (Or.inl ⟨by rfl, ?_⟩) (by assumption) ?_
    rotate_left
    · intro w hSw
      try dsimp only at hSw
      go_simp
      all_goals try with_reducible rfl
    try simp only [Act.put, List.setIfInBounds_toArray, List.set_cons_zero, List.set_cons_succ]
    refine wpAnyH_take (i := 15) (oi := { dst := some 39, op := Op.move (Operand.tmp 7), type := 26, pos := "law.go:185", after := #[{ on := 13, ground := Ground.guard }], guard := some (13, false) }) (v := ?_) rfl (by kernel_rfl) (by kernel_rfl) (by kernel_rfl) (fun _ _ _ h => h) (Or.inl ⟨by rfl, ?_⟩) (by assumption) ?_
    rotate_left
    · intro w hSw
      try dsimp only at hSw
      go_simp
      all_goals try with_reducible rfl
    try simp only [Act.put, List.setIfInBounds_toArray, List.set_cons_zero, List.set_cons_succ]
    refine wpAnyH_take (i := 16) (oi := { dst := some 40, op := Op.nilCheck (Operand.tmp 39), type := 0, pos := "law.go:185", after := #[{ on := 15, ground := Ground.data }, { on := 13, ground := Ground.guard }], guard := some (13, false) }) (v := ?_) rfl (by kernel_rfl) (by kernel_rfl) (by kernel_rfl) (fun _ _ _ h => h) (Or.inl ⟨by rfl, ?_⟩) (by assumption) ?_
    rotate_left
    · intro w hSw
      try dsimp only at hSw
      go_simp
      all_goals try with_reducible rfl
    try simp only [Act.put, List.setIfInBounds_toArray, List.set_cons_zero, List.set_cons_succ]
    refine wpAnyH_take (i := 17) (oi := { dst := some 41, op := Op.fieldAddr 32 (Operand.tmp 40) 4, type := 0, pos := "law.go:185", after := #[{ on := 16, ground := Ground.data }, { on := 13, ground := Ground.guard }], guard := some (13, false) }) (v := ?_) rfl (by kernel_rfl) (by kernel_rfl) (by kernel_rfl) (fun _ _ _ h => h) (Or.inl ⟨by rfl, ?_⟩) (by assumption) ?_
    rotate_left
    · intro w hSw
      try dsimp only at hSw
      go_simp
      all_goals try with_reducible rfl
    try simp only [Act.put, List.setIfInBounds_toArray, List.set_cons_zero, List.set_cons_succ]
    refine wpAnyH_take (i := 18) (oi := { dst := some 42, op := Op.load 25 (Operand.tmp 41), type := 25, pos := "law.go:185", after := #[{ on := 17, ground := Ground.data }, { on := 13, ground := Ground.guard }], guard := some (13, false) }) (v := ?_) rfl (by kernel_rfl) (by kernel_rfl) (by kernel_rfl) (fun _ _ _ h => h) (Or.inl ⟨by rfl, ?_⟩) (by assumption) ?_
    rotate_left
    · intro w hSw
      try dsimp only at hSw
      go_simp
      all_goals try with_reducible rfl
    try simp only [Act.put, List.setIfInBounds_toArray, List.set_cons_zero, List.set_cons_succ]
    refine wpAnyH_take (i := 19) (oi := { dst := some 43, op := Op.load 25 (Operand.tmp 3), type := 25, pos := "law.go:185", after := #[{ on := 13, ground := Ground.guard }], guard := some (13, false) }) (v := ?_) rfl (by kernel_rfl) (by kernel_rfl) (by kernel_rfl) (fun _ _ _ h => h) (Or.inl ⟨by rfl, ?_⟩) (by assumption) ?_
    rotate_left
    · intro w hSw
      try dsimp only at hSw
      go_simp
      all_goals try with_reducible rfl
    try simp only [Act.put, List.setIfInBounds_toArray, List.set_cons_zero, List.set_cons_succ]
    refine wpAnyH_take (i := 20) (oi := { dst := some 44, op := Op.move (Operand.tmp 8), type := 22, pos := "law.go:185", after := #[{ on := 13, ground := Ground.guard }], guard := some (13, false) }) (v := ?_) rfl (by kernel_rfl) (by kernel_rfl) (by kernel_rfl) (fun _ _ _ h => h) (Or.inl ⟨by rfl, ?_⟩) (by assumption) ?_
    rotate_left
    · intro w hSw
      try dsimp only at hSw
      go_simp
      all_goals try with_reducible rfl
    try simp only [Act.put, List.setIfInBounds_toArray, List.set_cons_zero, List.set_cons_succ]
    refine wpAnyH_take (i := 21) (oi := { dst := some 45, op := Op.move (Operand.tmp 9), type := 3, pos := "law.go:185", after := #[{ on := 13, ground := Ground.guard }], guard := some (13, false) }) (v := ?_) rfl (by kernel_rfl) (by kernel_rfl) (by kernel_rfl) (fun _ _ _ h => h) (Or.inl ⟨by rfl, ?_⟩) (by assumption) ?_
    rotate_left
    · intro w hSw
      try dsimp only at hSw
      go_simp
      all_goals try with_reducible rfl
    try simp only [Act.put, List.setIfInBounds_toArray, List.set_cons_zero, List.set_cons_succ]
    refine wpAnyH_take (i := 22) (oi := { dst := some 46, op := Op.slice 22 (Operand.tmp 44) none (some (Operand.tmp 45)) none, type := 22, pos := "law.go:185", after := #[{ on := 20, ground := Ground.data }, { on := 21, ground := Ground.data }, { on := 13, ground := Ground.guard }], guard := some (13, false) }) (v := ?_) rfl (by kernel_rfl) (by kernel_rfl) (by kernel_rfl) (fun _ _ _ h => h) (Or.inl ⟨by rfl, ?_⟩) (by assumption) ?_
    rotate_left
    · intro w hSw
      try dsimp only at hSw
      go_simp
      all_goals try with_reducible rfl
    try simp only [Act.put, List.setIfInBounds_toArray, List.set_cons_zero, List.set_cons_succ]
    refine wpAnyH_take (i := 23) (oi := { dst := some 47, op := Op.move (Operand.tmp 1), type := 22, pos := "law.go:185", after := #[{ on := 13, ground := Ground.guard }], guard := some (13, false) }) (v := ?_) rfl (by kernel_rfl) (by kernel_rfl) (by kernel_rfl) (fun _ _ _ h => h) (Or.inl ⟨by rfl, ?_⟩) (by assumption) ?_
    rotate_left
    · intro w hSw
      try dsimp only at hSw
      go_simp
      all_goals try with_reducible rfl
    try simp only [Act.put, List.setIfInBounds_toArray, List.set_cons_zero, List.set_cons_succ]
    refine wpAnyH_take (i := 24) (oi := { dst := some 48, op := Op.move (Operand.tmp 2), type := 3, pos := "law.go:185", after := #[{ on := 13, ground := Ground.guard }], guard := some (13, false) }) (v := ?_) rfl (by kernel_rfl) (by kernel_rfl) (by kernel_rfl) (fun _ _ _ h => h) (Or.inl ⟨by rfl, ?_⟩) (by assumption) ?_
    rotate_left
    · intro w hSw
      try dsimp only at hSw
      go_simp
      all_goals try with_reducible rfl
    try simp only [Act.put, List.setIfInBounds_toArray, List.set_cons_zero, List.set_cons_succ]
    refine wpAnyH_ready (rs := [25]) (by kernel_rfl) (by simp) ?_
    refine AllReadyH.cons (o := { dst := some 49, op := Op.call { callee := Callee.value (Operand.func 38), args := #[Operand.tmp 38, Operand.tmp 42, Operand.tmp 43, Operand.tmp 46, Operand.tmp 47, Operand.tmp 48], argTypes := #[51, 25, 25, 22, 22, 3] }, type := 4, pos := "law.go:185", after := #[{ on := 14, ground := Ground.data }, { on := 18, ground := Ground.data }, { on := 19, ground := Ground.data }, { on := 22, ground := Ground.data }, { on := 23, ground := Ground.data }, { on := 24, ground := Ground.data }, { on := 13, ground := Ground.chain }, { on := 13, ground := Ground.guard }], guard := some (13, false) }) rfl (fun K hK => ?_) AllReadyH.nil
    go_simp
    refine (HSTEP.out _ _ HS.out (by decide)).mono ?_
    clear HS
    rintro e Y ⟨rfl, hs⟩
    have HS := hide hs
    clear hs hHeld
    refine hK.out _ _ (HCE.out _ HS.out.bel) (fun hHeld => ?_)
    clear hK K
    try simp only [Act.put, List.setIfInBounds_toArray, List.set_cons_zero, List.set_cons_succ]
    refine wpAnyH_take (i := 26) (oi := { dst := some 50, op := Op.unOp UnOp.not 4 (Operand.tmp 49), type := 4, pos := "law.go:185", after := #[{ on := 25, ground := Ground.data }, { on := 13, ground := Ground.guard }], guard := some (13, false) }) (v := ?_) rfl (by kernel_rfl) (by kernel_rfl) (by kernel_rfl) (fun _ _ _ h => h) (Or.inl ⟨by rfl, ?_⟩) (by assumption) ?_
    rotate_left
    · intro w hSw
      try dsimp only at hSw
      go_simp
      all_goals try with_reducible rfl
    try simp only [Act.put, List.setIfInBounds_toArray, List.set_cons_zero, List.set_cons_succ]
    refine wpAnyH_take (i := 27) (oi := { dst := some 51, op := Op.pick (Operand.tmp 37) (Operand.const (Value.bool true)) (Operand.tmp 50), type := 4, pos := "law.go:185", after := #[{ on := 13, ground := Ground.data }, { on := 26, ground := Ground.data }], guard := none }) (v := ?_) rfl (by kernel_rfl) (by kernel_rfl) (by kernel_rfl) (fun _ _ _ h => h) (Or.inl ⟨by rfl, ?_⟩) (by assumption) ?_
    rotate_left
    · intro w hSw
      try dsimp only at hSw
      go_simp
      all_goals try with_reducible rfl
    try simp only [Act.put, List.setIfInBounds_toArray, List.set_cons_zero, List.set_cons_succ]
    refine wpAnyH_take (i := 28) (oi := { dst := some 52, op := Op.move (Operand.tmp 51), type := 4, pos := "law.go:185", after := #[{ on := 27, ground := Ground.data }, { on := 25, ground := Ground.chain }], guard := none }) (v := ?_) rfl (by kernel_rfl) (by kernel_rfl) (by kernel_rfl) (fun _ _ _ h => h) (Or.inl ⟨by rfl, ?_⟩) (by assumption) ?_
    rotate_left
    · intro w hSw
      try dsimp only at hSw
      go_simp
      all_goals try with_reducible rfl
    try simp only [Act.put, List.setIfInBounds_toArray, List.set_cons_zero, List.set_cons_succ]
    refine wpAnyH_take (i := 29) (oi := { dst := some 53, op := Op.move (Operand.tmp 10), type := 51, pos := "law.go:185", after := #[{ on := 28, ground := Ground.guard }], guard := some (28, false) }) (v := ?_) rfl (by kernel_rfl) (by kernel_rfl) (by kernel_rfl) (fun _ _ _ h => h) (Or.inl ⟨by rfl, ?_⟩) (by assumption) ?_
    rotate_left
    · intro w hSw
      try dsimp only at hSw
      go_simp
      all_goals try with_reducible rfl
    try simp only [Act.put, List.setIfInBounds_toArray, List.set_cons_zero, List.set_cons_succ]
    apply cut_via (B := X0.heap.size) (X0 := X0) (S := (fun x => x.cell? ⟨w.heap.size, 0, none⟩ = some (.int .i64 N) ∧ x.cell? ⟨w.heap.size, 1, none⟩ = some (.slice ao st.length ca) ∧ x.cell? ⟨w.heap.size, 2, none⟩ = some (.slice bo tl.length cb) ∧ x.cell? ⟨w.heap.size, 3, none⟩ = some (.slice co wt.length cc) ∧ x.cell? ⟨R, 7, none⟩ = some (.int .i64 N) ∧ x.cell? ⟨R, 8, none⟩ = some (.slice (some ⟨h1, 0, none⟩) st.length f1) ∧ x.cell? ⟨R, 9, none⟩ = some (.slice (some ⟨h2, 0, none⟩) tl.length f2) ∧ x.cell? ⟨R, 10, none⟩ = some (.slice (some ⟨h3, 0, none⟩) wt.length f3)))
    case main =>
      intro HREST
      have HQ := HS
      refine wpAnyH_ready (rs := [30, 32, 33]) (by kernel_rfl) (by simp) ?_
      refine AllReadyH.cons (o := { dst := some 54, op := Op.call { callee := Callee.value (Operand.func 39), args := #[], argTypes := #[] }, type := 25, pos := "law.go:185", after := #[{ on := 28, ground := Ground.chain }, { on := 28, ground := Ground.guard }], guard := some (28, false) }) rfl (fun K hK => ?_) (AllReadyH.cons (o := { dst := some 56, op := Op.buildSlice 22 2 #[(0, Operand.const (Value.int IntKind.i64 1)), (1, Operand.const (Value.int IntKind.i64 0))], type := 22, pos := "law.go:185", after := #[{ on := 28, ground := Ground.guard }], guard := some (28, false) }) rfl (fun K hK => ?_) (AllReadyH.cons (o := { dst := some 57, op := Op.buildSlice 22 2 #[(0, Operand.const (Value.int IntKind.i64 1)), (1, Operand.const (Value.int IntKind.i64 0))], type := 22, pos := "law.go:185", after := #[{ on := 28, ground := Ground.guard }], guard := some (28, false) }) rfl (fun K hK => ?_) AllReadyH.nil))
      · go_simp
        refine (HTWO.out _ HQ.out).mono ?_
        rintro e Yn ⟨v54, rfl, hs, htw, hb⟩
        have H54 := hide htw
        clear HQ
        have HQ := hide hs
        clear hs hb htw
        refine hK.out _ _ (HCE.out _ HQ.out.bel) (fun hHeld => ?_)
        clear hK K
        try simp only [Act.put, List.setIfInBounds_toArray, List.set_cons_zero, List.set_cons_succ]
        refine wpAnyH_ready (rs := [31, 32, 33]) (by kernel_rfl) (by simp) ?_
        refine AllReadyH.cons (o := { dst := some 55, op := Op.call { callee := Callee.value (Operand.func 39), args := #[], argTypes := #[] }, type := 25, pos := "law.go:185", after := #[{ on := 30, ground := Ground.chain }, { on := 28, ground := Ground.guard }], guard := some (28, false) }) rfl (fun K hK => ?_) (AllReadyH.cons (o := { dst := some 56, op := Op.buildSlice 22 2 #[(0, Operand.const (Value.int IntKind.i64 1)), (1, Operand.const (Value.int IntKind.i64 0))], type := 22, pos := "law.go:185", after := #[{ on := 28, ground := Ground.guard }], guard := some (28, false) }) rfl (fun K hK => ?_) (AllReadyH.cons (o := { dst := some 57, op := Op.buildSlice 22 2 #[(0, Operand.const (Value.int IntKind.i64 1)), (1, Operand.const (Value.int IntKind.i64 0))], type := 22, pos := "law.go:185", after := #[{ on := 28, ground := Ground.guard }], guard := some (28, false) }) rfl (fun K hK => ?_) AllReadyH.nil))
        · go_simp
          refine (HTWO.out _ HQ.out).mono ?_
          rintro e Yn ⟨v55, rfl, hs, htw, hb⟩
          have H55 := hide htw
          have H54n := hide (H54.out.below hb)
          clear H54
          have H54 := H54n
          clear H54n
          clear HQ
          have HQ := hide hs
          clear hs hb htw
          refine hK.out _ _ (HCE.out _ HQ.out.bel) (fun hHeld => ?_)
          clear hK K
          try simp only [Act.put, List.setIfInBounds_toArray, List.set_cons_zero, List.set_cons_succ]
          refine wpAnyH_ready (rs := [32, 33]) (by kernel_rfl) (by simp) ?_
          refine AllReadyH.cons (o := { dst := some 56, op := Op.buildSlice 22 2 #[(0, Operand.const (Value.int IntKind.i64 1)), (1, Operand.const (Value.int IntKind.i64 0))], type := 22, pos := "law.go:185", after := #[{ on := 28, ground := Ground.guard }], guard := some (28, false) }) rfl (fun K hK => ?_) (AllReadyH.cons (o := { dst := some 57, op := Op.buildSlice 22 2 #[(0, Operand.const (Value.int IntKind.i64 1)), (1, Operand.const (Value.int IntKind.i64 0))], type := 22, pos := "law.go:185", after := #[{ on := 28, ground := Ground.guard }], guard := some (28, false) }) rfl (fun K hK => ?_) AllReadyH.nil)
          · go_simp
            obtain ⟨Yn, v56, hs, hr, hb, hYn, hvn⟩ := lit_ex HQ.out
            rw [hYn, hvn]
            have H56 := hide hr
            have H54n := hide (H54.out.below hb)
            clear H54
            have H54 := H54n
            clear H54n
            have H55n := hide (H55.out.below hb)
            clear H55
            have H55 := H55n
            clear H55n
            clear HQ
            have HQ := hide hs
            clear hs hb hr hYn hvn
            refine hK.out _ _ (HCE.out _ HQ.out.bel) (fun hHeld => ?_)
            clear hK K
            try simp only [Act.put, List.setIfInBounds_toArray, List.set_cons_zero, List.set_cons_succ]
            refine wpAnyH_ready (rs := [33]) (by kernel_rfl) (by simp) ?_
            refine AllReadyH.cons (o := { dst := some 57, op := Op.buildSlice 22 2 #[(0, Operand.const (Value.int IntKind.i64 1)), (1, Operand.const (Value.int IntKind.i64 0))], type := 22, pos := "law.go:185", after := #[{ on := 28, ground := Ground.guard }], guard := some (28, false) }) rfl (fun K hK => ?_) AllReadyH.nil
            · go_simp
              obtain ⟨Yn, v57, hs, hr, hb, hYn, hvn⟩ := lit_ex HQ.out
              rw [hYn, hvn]
              have H57 := hide hr
              have H54n := hide (H54.out.below hb)
              clear H54
              have H54 := H54n
              clear H54n
              have H55n := hide (H55.out.below hb)
              clear H55
              have H55 := H55n
              clear H55n
              have H56n := hide (H56.out.below hb)
              clear H56
              have H56 := H56n
              clear H56n
              clear HQ
              have HQ := hide hs
              clear hs hb hr hYn hvn
              refine hK.out _ _ (HCE.out _ HQ.out.bel) (fun hHeld => ?_)
              clear hK K
              try simp only [Act.put, List.setIfInBounds_toArray, List.set_cons_zero, List.set_cons_succ]
              refine wpAnyH_ready (rs := [34]) (by kernel_rfl) (by simp) ?_
              refine AllReadyH.cons (o := { dst := some 58, op := Op.call { callee := Callee.value (Operand.func 38), args := #[Operand.tmp 53, Operand.tmp 54, Operand.tmp 55, Operand.tmp 56, Operand.tmp 57, Operand.const (Value.int IntKind.i64 2)], argTypes := #[51, 25, 25, 22, 22, 3] }, type := 4, pos := "law.go:185", after := #[{ on := 29, ground := Ground.data }, { on := 30, ground := Ground.data }, { on := 31, ground := Ground.data }, { on := 32, ground := Ground.data }, { on := 33, ground := Ground.data }, { on := 31, ground := Ground.chain }, { on := 28, ground := Ground.guard }], guard := some (28, false) }) rfl (fun K hK => ?_) AllReadyH.nil
              go_simp
              refine (HC58.out _ _ _ _ _ HQ.out H54.out H55.out H56.out H57.out).mono ?_
              clear HQ H54 H55 H56 H57
              rintro e Y ⟨rfl, hs⟩
              have HQ := hide hs
              clear hs
              refine hK.out _ _ (HCE.out _ HQ.out.bel) (fun hHeld => ?_)
              clear hK K
              try simp only [Act.put, List.setIfInBounds_toArray, List.set_cons_zero, List.set_cons_succ]
              refine wpAnyH_cast (listed' := #[true, true, true, true, true, true, true, true, true, true, true, true, true, true, true, true, true, true, true, true, true, true, true, true, true, true, true, true, true, true, true, true, true, true, true, false, false, false, false, false, false, false, false, false, false, false, false, false, false, false, false, false, false, false, false, false, false]) (by kernel_rfl) ?_
              exact HREST v54 v55 v56 v57 Y HQ.out hHeld
          · go_simp
            obtain ⟨Yn, v57, hs, hr, hb, hYn, hvn⟩ := lit_ex HQ.out
            rw [hYn, hvn]
            have H57 := hide hr
            have H54n := hide (H54.out.below hb)
            clear H54
            have H54 := H54n
            clear H54n
            have H55n := hide (H55.out.below hb)
            clear H55
            have H55 := H55n
            clear H55n
            clear HQ
            have HQ := hide hs
            clear hs hb hr hYn hvn
            refine hK.out _ _ (HCE.out _ HQ.out.bel) (fun hHeld => ?_)
            clear hK K
            try simp only [Act.put, List.setIfInBounds_toArray, List.set_cons_zero, List.set_cons_succ]
            refine wpAnyH_ready (rs := [32]) (by kernel_rfl) (by simp) ?_
            refine AllReadyH.cons (o := { dst := some 56, op := Op.buildSlice 22 2 #[(0, Operand.const (Value.int IntKind.i64 1)), (1, Operand.const (Value.int IntKind.i64 0))], type := 22, pos := "law.go:185", after := #[{ on := 28, ground := Ground.guard }], guard := some (28, false) }) rfl (fun K hK => ?_) AllReadyH.nil
            · go_simp
              obtain ⟨Yn, v56, hs, hr, hb, hYn, hvn⟩ := lit_ex HQ.out
              rw [hYn, hvn]
              have H56 := hide hr
              have H54n := hide (H54.out.below hb)
              clear H54
              have H54 := H54n
              clear H54n
              have H55n := hide (H55.out.below hb)
              clear H55
              have H55 := H55n
              clear H55n
              have H57n := hide (H57.out.below hb)
              clear H57
              have H57 := H57n
              clear H57n
              clear HQ
              have HQ := hide hs
              clear hs hb hr hYn hvn
              refine hK.out _ _ (HCE.out _ HQ.out.bel) (fun hHeld => ?_)
              clear hK K
              try simp only [Act.put, List.setIfInBounds_toArray, List.set_cons_zero, List.set_cons_succ]
              refine wpAnyH_ready (rs := [34]) (by kernel_rfl) (by simp) ?_
              refine AllReadyH.cons (o := { dst := some 58, op := Op.call { callee := Callee.value (Operand.func 38), args := #[Operand.tmp 53, Operand.tmp 54, Operand.tmp 55, Operand.tmp 56, Operand.tmp 57, Operand.const (Value.int IntKind.i64 2)], argTypes := #[51, 25, 25, 22, 22, 3] }, type := 4, pos := "law.go:185", after := #[{ on := 29, ground := Ground.data }, { on := 30, ground := Ground.data }, { on := 31, ground := Ground.data }, { on := 32, ground := Ground.data }, { on := 33, ground := Ground.data }, { on := 31, ground := Ground.chain }, { on := 28, ground := Ground.guard }], guard := some (28, false) }) rfl (fun K hK => ?_) AllReadyH.nil
              go_simp
              refine (HC58.out _ _ _ _ _ HQ.out H54.out H55.out H56.out H57.out).mono ?_
              clear HQ H54 H55 H56 H57
              rintro e Y ⟨rfl, hs⟩
              have HQ := hide hs
              clear hs
              refine hK.out _ _ (HCE.out _ HQ.out.bel) (fun hHeld => ?_)
              clear hK K
              try simp only [Act.put, List.setIfInBounds_toArray, List.set_cons_zero, List.set_cons_succ]
              refine wpAnyH_cast (listed' := #[true, true, true, true, true, true, true, true, true, true, true, true, true, true, true, true, true, true, true, true, true, true, true, true, true, true, true, true, true, true, true, true, true, true, true, false, false, false, false, false, false, false, false, false, false, false, false, false, false, false, false, false, false, false, false, false, false]) (by kernel_rfl) ?_
              exact HREST v54 v55 v56 v57 Y HQ.out hHeld
        · go_simp
          obtain ⟨Yn, v56, hs, hr, hb, hYn, hvn⟩ := lit_ex HQ.out
          rw [hYn, hvn]
          have H56 := hide hr
          have H54n := hide (H54.out.below hb)
          clear H54
          have H54 := H54n
          clear H54n
          clear HQ
          have HQ := hide hs
          clear hs hb hr hYn hvn
          refine hK.out _ _ (HCE.out _ HQ.out.bel) (fun hHeld => ?_)
          clear hK K
          try simp only [Act.put, List.setIfInBounds_toArray, List.set_cons_zero, List.set_cons_succ]
          refine wpAnyH_ready (rs := [31, 33]) (by kernel_rfl) (by simp) ?_
          refine AllReadyH.cons (o := { dst := some 55, op := Op.call { callee := Callee.value (Operand.func 39), args := #[], argTypes := #[] }, type := 25, pos := "law.go:185", after := #[{ on := 30, ground := Ground.chain }, { on := 28, ground := Ground.guard }], guard := some (28, false) }) rfl (fun K hK => ?_) (AllReadyH.cons (o := { dst := some 57, op := Op.buildSlice 22 2 #[(0, Operand.const (Value.int IntKind.i64 1)), (1, Operand.const (Value.int IntKind.i64 0))], type := 22, pos := "law.go:185", after := #[{ on := 28, ground := Ground.guard }], guard := some (28, false) }) rfl (fun K hK => ?_) AllReadyH.nil)
          · go_simp
            refine (HTWO.out _ HQ.out).mono ?_
            rintro e Yn ⟨v55, rfl, hs, htw, hb⟩
            have H55 := hide htw
            have H54n := hide (H54.out.below hb)
            clear H54
            have H54 := H54n
            clear H54n
            have H56n := hide (H56.out.below hb)
            clear H56
            have H56 := H56n
            clear H56n
            clear HQ
            have HQ := hide hs
            clear hs hb htw
            refine hK.out _ _ (HCE.out _ HQ.out.bel) (fun hHeld => ?_)
            clear hK K
            try simp only [Act.put, List.setIfInBounds_toArray, List.set_cons_zero, List.set_cons_succ]
            refine wpAnyH_ready (rs := [33]) (by kernel_rfl) (by simp) ?_
            refine AllReadyH.cons (o := { dst := some 57, op := Op.buildSlice 22 2 #[(0, Operand.const (Value.int IntKind.i64 1)), (1, Operand.const (Value.int IntKind.i64 0))], type := 22, pos := "law.go:185", after := #[{ on := 28, ground := Ground.guard }], guard := some (28, false) }) rfl (fun K hK => ?_) AllReadyH.nil
            · go_simp
              obtain ⟨Yn, v57, hs, hr, hb, hYn, hvn⟩ := lit_ex HQ.out
              rw [hYn, hvn]
              have H57 := hide hr
              have H54n := hide (H54.out.below hb)
              clear H54
              have H54 := H54n
              clear H54n
              have H56n := hide (H56.out.below hb)
              clear H56
              have H56 := H56n
              clear H56n
              have H55n := hide (H55.out.below hb)
              clear H55
              have H55 := H55n
              clear H55n
              clear HQ
              have HQ := hide hs
              clear hs hb hr hYn hvn
              refine hK.out _ _ (HCE.out _ HQ.out.bel) (fun hHeld => ?_)
              clear hK K
              try simp only [Act.put, List.setIfInBounds_toArray, List.set_cons_zero, List.set_cons_succ]
              refine wpAnyH_ready (rs := [34]) (by kernel_rfl) (by simp) ?_
              refine AllReadyH.cons (o := { dst := some 58, op := Op.call { callee := Callee.value (Operand.func 38), args := #[Operand.tmp 53, Operand.tmp 54, Operand.tmp 55, Operand.tmp 56, Operand.tmp 57, Operand.const (Value.int IntKind.i64 2)], argTypes := #[51, 25, 25, 22, 22, 3] }, type := 4, pos := "law.go:185", after := #[{ on := 29, ground := Ground.data }, { on := 30, ground := Ground.data }, { on := 31, ground := Ground.data }, { on := 32, ground := Ground.data }, { on := 33, ground := Ground.data }, { on := 31, ground := Ground.chain }, { on := 28, ground := Ground.guard }], guard := some (28, false) }) rfl (fun K hK => ?_) AllReadyH.nil
              go_simp
              refine (HC58.out _ _ _ _ _ HQ.out H54.out H55.out H56.out H57.out).mono ?_
              clear HQ H54 H55 H56 H57
              rintro e Y ⟨rfl, hs⟩
              have HQ := hide hs
              clear hs
              refine hK.out _ _ (HCE.out _ HQ.out.bel) (fun hHeld => ?_)
              clear hK K
              try simp only [Act.put, List.setIfInBounds_toArray, List.set_cons_zero, List.set_cons_succ]
              refine wpAnyH_cast (listed' := #[true, true, true, true, true, true, true, true, true, true, true, true, true, true, true, true, true, true, true, true, true, true, true, true, true, true, true, true, true, true, true, true, true, true, true, false, false, false, false, false, false, false, false, false, false, false, false, false, false, false, false, false, false, false, false, false, false]) (by kernel_rfl) ?_
              exact HREST v54 v55 v56 v57 Y HQ.out hHeld
          · go_simp
            obtain ⟨Yn, v57, hs, hr, hb, hYn, hvn⟩ := lit_ex HQ.out
            rw [hYn, hvn]
            have H57 := hide hr
            have H54n := hide (H54.out.below hb)
            clear H54
            have H54 := H54n
            clear H54n
            have H56n := hide (H56.out.below hb)
            clear H56
            have H56 := H56n
            clear H56n
            clear HQ
            have HQ := hide hs
            clear hs hb hr hYn hvn
            refine hK.out _ _ (HCE.out _ HQ.out.bel) (fun hHeld => ?_)
            clear hK K
            try simp only [Act.put, List.setIfInBounds_toArray, List.set_cons_zero, List.set_cons_succ]
            refine wpAnyH_ready (rs := [31]) (by kernel_rfl) (by simp) ?_
            refine AllReadyH.cons (o := { dst := some 55, op := Op.call { callee := Callee.value (Operand.func 39), args := #[], argTypes := #[] }, type := 25, pos := "law.go:185", after := #[{ on := 30, ground := Ground.chain }, { on := 28, ground := Ground.guard }], guard := some (28, false) }) rfl (fun K hK => ?_) AllReadyH.nil
            · go_simp
              refine (HTWO.out _ HQ.out).mono ?_
              rintro e Yn ⟨v55, rfl, hs, htw, hb⟩
              have H55 := hide htw
              have H54n := hide (H54.out.below hb)
              clear H54
              have H54 := H54n
              clear H54n
              have H56n := hide (H56.out.below hb)
              clear H56
              have H56 := H56n
              clear H56n
              have H57n := hide (H57.out.below hb)
              clear H57
              have H57 := H57n
              clear H57n
              clear HQ
              have HQ := hide hs
              clear hs hb htw
              refine hK.out _ _ (HCE.out _ HQ.out.bel) (fun hHeld => ?_)
              clear hK K
              try simp only [Act.put, List.setIfInBounds_toArray, List.set_cons_zero, List.set_cons_succ]
              refine wpAnyH_ready (rs := [34]) (by kernel_rfl) (by simp) ?_
              refine AllReadyH.cons (o := { dst := some 58, op := Op.call { callee := Callee.value (Operand.func 38), args := #[Operand.tmp 53, Operand.tmp 54, Operand.tmp 55, Operand.tmp 56, Operand.tmp 57, Operand.const (Value.int IntKind.i64 2)], argTypes := #[51, 25, 25, 22, 22, 3] }, type := 4, pos := "law.go:185", after := #[{ on := 29, ground := Ground.data }, { on := 30, ground := Ground.data }, { on := 31, ground := Ground.data }, { on := 32, ground := Ground.data }, { on := 33, ground := Ground.data }, { on := 31, ground := Ground.chain }, { on := 28, ground := Ground.guard }], guard := some (28, false) }) rfl (fun K hK => ?_) AllReadyH.nil
              go_simp
              refine (HC58.out _ _ _ _ _ HQ.out H54.out H55.out H56.out H57.out).mono ?_
              clear HQ H54 H55 H56 H57
              rintro e Y ⟨rfl, hs⟩
              have HQ := hide hs
              clear hs
              refine hK.out _ _ (HCE.out _ HQ.out.bel) (fun hHeld => ?_)
              clear hK K
              try simp only [Act.put, List.setIfInBounds_toArray, List.set_cons_zero, List.set_cons_succ]
              refine wpAnyH_cast (listed' := #[true, true, true, true, true, true, true, true, true, true, true, true, true, true, true, true, true, true, true, true, true, true, true, true, true, true, true, true, true, true, true, true, true, true, true, false, false, false, false, false, false, false, false, false, false, false, false, false, false, false, false, false, false, false, false, false, false]) (by kernel_rfl) ?_
              exact HREST v54 v55 v56 v57 Y HQ.out hHeld
        · go_simp
          obtain ⟨Yn, v57, hs, hr, hb, hYn, hvn⟩ := lit_ex HQ.out
          rw [hYn, hvn]
          have H57 := hide hr
          have H54n := hide (H54.out.below hb)
          clear H54
          have H54 := H54n
          clear H54n
          clear HQ
          have HQ := hide hs
          clear hs hb hr hYn hvn
          refine hK.out _ _ (HCE.out _ HQ.out.bel) (fun hHeld => ?_)
          clear hK K
          try simp only [Act.put, List.setIfInBounds_toArray, List.set_cons_zero, List.set_cons_succ]
          refine wpAnyH_ready (rs := [31, 32]) (by kernel_rfl) (by simp) ?_
          refine AllReadyH.cons (o := { dst := some 55, op := Op.call { callee := Callee.value (Operand.func 39), args := #[], argTypes := #[] }, type := 25, pos := "law.go:185", after := #[{ on := 30, ground := Ground.chain }, { on := 28, ground := Ground.guard }], guard := some (28, false) }) rfl (fun K hK => ?_) (AllReadyH.cons (o := { dst := some 56, op := Op.buildSlice 22 2 #[(0, Operand.const (Value.int IntKind.i64 1)), (1, Operand.const (Value.int IntKind.i64 0))], type := 22, pos := "law.go:185", after := #[{ on := 28, ground := Ground.guard }], guard := some (28, false) }) rfl (fun K hK => ?_) AllReadyH.nil)
          · go_simp
            refine (HTWO.out _ HQ.out).mono ?_
            rintro e Yn ⟨v55, rfl, hs, htw, hb⟩
            have H55 := hide htw
            have H54n := hide (H54.out.below hb)
            clear H54
            have H54 := H54n
            clear H54n
            have H57n := hide (H57.out.below hb)
            clear H57
            have H57 := H57n
            clear H57n
            clear HQ
            have HQ := hide hs
            clear hs hb htw
            refine hK.out _ _ (HCE.out _ HQ.out.bel) (fun hHeld => ?_)
            clear hK K
            try simp only [Act.put, List.setIfInBounds_toArray, List.set_cons_zero, List.set_cons_succ]
            refine wpAnyH_ready (rs := [32]) (by kernel_rfl) (by simp) ?_
            refine AllReadyH.cons (o := { dst := some 56, op := Op.buildSlice 22 2 #[(0, Operand.const (Value.int IntKind.i64 1)), (1, Operand.const (Value.int IntKind.i64 0))], type := 22, pos := "law.go:185", after := #[{ on := 28, ground := Ground.guard }], guard := some (28, false) }) rfl (fun K hK => ?_) AllReadyH.nil
            · go_simp
              obtain ⟨Yn, v56, hs, hr, hb, hYn, hvn⟩ := lit_ex HQ.out
              rw [hYn, hvn]
              have H56 := hide hr
              have H54n := hide (H54.out.below hb)
              clear H54
              have H54 := H54n
              clear H54n
              have H57n := hide (H57.out.below hb)
              clear H57
              have H57 := H57n
              clear H57n
              have H55n := hide (H55.out.below hb)
              clear H55
              have H55 := H55n
              clear H55n
              clear HQ
              have HQ := hide hs
              clear hs hb hr hYn hvn
              refine hK.out _ _ (HCE.out _ HQ.out.bel) (fun hHeld => ?_)
              clear hK K
              try simp only [Act.put, List.setIfInBounds_toArray, List.set_cons_zero, List.set_cons_succ]
              refine wpAnyH_ready (rs := [34]) (by kernel_rfl) (by simp) ?_
              refine AllReadyH.cons (o := { dst := some 58, op := Op.call { callee := Callee.value (Operand.func 38), args := #[Operand.tmp 53, Operand.tmp 54, Operand.tmp 55, Operand.tmp 56, Operand.tmp 57, Operand.const (Value.int IntKind.i64 2)], argTypes := #[51, 25, 25, 22, 22, 3] }, type := 4, pos := "law.go:185", after := #[{ on := 29, ground := Ground.data }, { on := 30, ground := Ground.data }, { on := 31, ground := Ground.data }, { on := 32, ground := Ground.data }, { on := 33, ground := Ground.data }, { on := 31, ground := Ground.chain }, { on := 28, ground := Ground.guard }], guard := some (28, false) }) rfl (fun K hK => ?_) AllReadyH.nil
              go_simp
              refine (HC58.out _ _ _ _ _ HQ.out H54.out H55.out H56.out H57.out).mono ?_
              clear HQ H54 H55 H56 H57
              rintro e Y ⟨rfl, hs⟩
              have HQ := hide hs
              clear hs
              refine hK.out _ _ (HCE.out _ HQ.out.bel) (fun hHeld => ?_)
              clear hK K
              try simp only [Act.put, List.setIfInBounds_toArray, List.set_cons_zero, List.set_cons_succ]
              refine wpAnyH_cast (listed' := #[true, true, true, true, true, true, true, true, true, true, true, true, true, true, true, true, true, true, true, true, true, true, true, true, true, true, true, true, true, true, true, true, true, true, true, false, false, false, false, false, false, false, false, false, false, false, false, false, false, false, false, false, false, false, false, false, false]) (by kernel_rfl) ?_
              exact HREST v54 v55 v56 v57 Y HQ.out hHeld
          · go_simp
            obtain ⟨Yn, v56, hs, hr, hb, hYn, hvn⟩ := lit_ex HQ.out
            rw [hYn, hvn]
            have H56 := hide hr
            have H54n := hide (H54.out.below hb)
            clear H54
            have H54 := H54n
            clear H54n
            have H57n := hide (H57.out.below hb)
            clear H57
            have H57 := H57n
            clear H57n
            clear HQ
            have HQ := hide hs
            clear hs hb hr hYn hvn
            refine hK.out _ _ (HCE.out _ HQ.out.bel) (fun hHeld => ?_)
            clear hK K
            try simp only [Act.put, List.setIfInBounds_toArray, List.set_cons_zero, List.set_cons_succ]
            refine wpAnyH_ready (rs := [31]) (by kernel_rfl) (by simp) ?_
            refine AllReadyH.cons (o := { dst := some 55, op := Op.call { callee := Callee.value (Operand.func 39), args := #[], argTypes := #[] }, type := 25, pos := "law.go:185", after := #[{ on := 30, ground := Ground.chain }, { on := 28, ground := Ground.guard }], guard := some (28, false) }) rfl (fun K hK => ?_) AllReadyH.nil
            · go_simp
              refine (HTWO.out _ HQ.out).mono ?_
              rintro e Yn ⟨v55, rfl, hs, htw, hb⟩
              have H55 := hide htw
              have H54n := hide (H54.out.below hb)
              clear H54
              have H54 := H54n
              clear H54n
              have H57n := hide (H57.out.below hb)
              clear H57
              have H57 := H57n
              clear H57n
              have H56n := hide (H56.out.below hb)
              clear H56
              have H56 := H56n
              clear H56n
              clear HQ
              have HQ := hide hs
              clear hs hb htw
              refine hK.out _ _ (HCE.out _ HQ.out.bel) (fun hHeld => ?_)
              clear hK K
              try simp only [Act.put, List.setIfInBounds_toArray, List.set_cons_zero, List.set_cons_succ]
              refine wpAnyH_ready (rs := [34]) (by kernel_rfl) (by simp) ?_
              refine AllReadyH.cons (o := { dst := some 58, op := Op.call { callee := Callee.value (Operand.func 38), args := #[Operand.tmp 53, Operand.tmp 54, Operand.tmp 55, Operand.tmp 56, Operand.tmp 57, Operand.const (Value.int IntKind.i64 2)], argTypes := #[51, 25, 25, 22, 22, 3] }, type := 4, pos := "law.go:185", after := #[{ on := 29, ground := Ground.data }, { on := 30, ground := Ground.data }, { on := 31, ground := Ground.data }, { on := 32, ground := Ground.data }, { on := 33, ground := Ground.data }, { on := 31, ground := Ground.chain }, { on := 28, ground := Ground.guard }], guard := some (28, false) }) rfl (fun K hK => ?_) AllReadyH.nil
              go_simp
              refine (HC58.out _ _ _ _ _ HQ.out H54.out H55.out H56.out H57.out).mono ?_
              clear HQ H54 H55 H56 H57
              rintro e Y ⟨rfl, hs⟩
              have HQ := hide hs
              clear hs
              refine hK.out _ _ (HCE.out _ HQ.out.bel) (fun hHeld => ?_)
              clear hK K
              try simp only [Act.put, List.setIfInBounds_toArray, List.set_cons_zero, List.set_cons_succ]
              refine wpAnyH_cast (listed' := #[true, true, true, true, true, true, true, true, true, true, true, true, true, true, true, true, true, true, true, true, true, true, true, true, true, true, true, true, true, true, true, true, true, true, true, false, false, false, false, false, false, false, false, false, false, false, false, false, false, false, false, false, false, false, false, false, false]) (by kernel_rfl) ?_
              exact HREST v54 v55 v56 v57 Y HQ.out hHeld
      · go_simp
        obtain ⟨Yn, v56, hs, hr, hb, hYn, hvn⟩ := lit_ex HQ.out
        rw [hYn, hvn]
        have H56 := hide hr
        clear HQ
        have HQ := hide hs
        clear hs hb hr hYn hvn
        refine hK.out _ _ (HCE.out _ HQ.out.bel) (fun hHeld => ?_)
        clear hK K
        try simp only [Act.put, List.setIfInBounds_toArray, List.set_cons_zero, List.set_cons_succ]
        refine wpAnyH_ready (rs := [30, 33]) (by kernel_rfl) (by simp) ?_
        refine AllReadyH.cons (o := { dst := some 54, op := Op.call { callee := Callee.value (Operand.func 39), args := #[], argTypes := #[] }, type := 25, pos := "law.go:185", after := #[{ on := 28, ground := Ground.chain }, { on := 28, ground := Ground.guard }], guard := some (28, false) }) rfl (fun K hK => ?_) (AllReadyH.cons (o := { dst := some 57, op := Op.buildSlice 22 2 #[(0, Operand.const (Value.int IntKind.i64 1)), (1, Operand.const (Value.int IntKind.i64 0))], type := 22, pos := "law.go:185", after := #[{ on := 28, ground := Ground.guard }], guard := some (28, false) }) rfl (fun K hK => ?_) AllReadyH.nil)
        · go_simp
          refine (HTWO.out _ HQ.out).mono ?_
          rintro e Yn ⟨v54, rfl, hs, htw, hb⟩
          have H54 := hide htw
          have H56n := hide (H56.out.below hb)
          clear H56
          have H56 := H56n
          clear H56n
          clear HQ
          have HQ := hide hs
          clear hs hb htw
          refine hK.out _ _ (HCE.out _ HQ.out.bel) (fun hHeld => ?_)
          clear hK K
          try simp only [Act.put, List.setIfInBounds_toArray, List.set_cons_zero, List.set_cons_succ]
          refine wpAnyH_ready (rs := [31, 33]) (by kernel_rfl) (by simp) ?_
          refine AllReadyH.cons (o := { dst := some 55, op := Op.call { callee := Callee.value (Operand.func 39), args := #[], argTypes := #[] }, type := 25, pos := "law.go:185", after := #[{ on := 30, ground := Ground.chain }, { on := 28, ground := Ground.guard }], guard := some (28, false) }) rfl (fun K hK => ?_) (AllReadyH.cons (o := { dst := some 57, op := Op.buildSlice 22 2 #[(0, Operand.const (Value.int IntKind.i64 1)), (1, Operand.const (Value.int IntKind.i64 0))], type := 22, pos := "law.go:185", after := #[{ on := 28, ground := Ground.guard }], guard := some (28, false) }) rfl (fun K hK => ?_) AllReadyH.nil)
          · go_simp
            refine (HTWO.out _ HQ.out).mono ?_
            rintro e Yn ⟨v55, rfl, hs, htw, hb⟩
            have H55 := hide htw
            have H56n := hide (H56.out.below hb)
            clear H56
            have H56 := H56n
            clear H56n
            have H54n := hide (H54.out.below hb)
            clear H54
            have H54 := H54n
            clear H54n
            clear HQ
            have HQ := hide hs
            clear hs hb htw
            refine hK.out _ _ (HCE.out _ HQ.out.bel) (fun hHeld => ?_)
            clear hK K
            try simp only [Act.put, List.setIfInBounds_toArray, List.set_cons_zero, List.set_cons_succ]
            refine wpAnyH_ready (rs := [33]) (by kernel_rfl) (by simp) ?_
            refine AllReadyH.cons (o := { dst := some 57, op := Op.buildSlice 22 2 #[(0, Operand.const (Value.int IntKind.i64 1)), (1, Operand.const (Value.int IntKind.i64 0))], type := 22, pos := "law.go:185", after := #[{ on := 28, ground := Ground.guard }], guard := some (28, false) }) rfl (fun K hK => ?_) AllReadyH.nil
            · go_simp
              obtain ⟨Yn, v57, hs, hr, hb, hYn, hvn⟩ := lit_ex HQ.out
              rw [hYn, hvn]
              have H57 := hide hr
              have H56n := hide (H56.out.below hb)
              clear H56
              have H56 := H56n
              clear H56n
              have H54n := hide (H54.out.below hb)
              clear H54
              have H54 := H54n
              clear H54n
              have H55n := hide (H55.out.below hb)
              clear H55
              have H55 := H55n
              clear H55n
              clear HQ
              have HQ := hide hs
              clear hs hb hr hYn hvn
              refine hK.out _ _ (HCE.out _ HQ.out.bel) (fun hHeld => ?_)
              clear hK K
              try simp only [Act.put, List.setIfInBounds_toArray, List.set_cons_zero, List.set_cons_succ]
              refine wpAnyH_ready (rs := [34]) (by kernel_rfl) (by simp) ?_
              refine AllReadyH.cons (o := { dst := some 58, op := Op.call { callee := Callee.value (Operand.func 38), args := #[Operand.tmp 53, Operand.tmp 54, Operand.tmp 55, Operand.tmp 56, Operand.tmp 57, Operand.const (Value.int IntKind.i64 2)], argTypes := #[51, 25, 25, 22, 22, 3] }, type := 4, pos := "law.go:185", after := #[{ on := 29, ground := Ground.data }, { on := 30, ground := Ground.data }, { on := 31, ground := Ground.data }, { on := 32, ground := Ground.data }, { on := 33, ground := Ground.data }, { on := 31, ground := Ground.chain }, { on := 28, ground := Ground.guard }], guard := some (28, false) }) rfl (fun K hK => ?_) AllReadyH.nil
              go_simp
              refine (HC58.out _ _ _ _ _ HQ.out H54.out H55.out H56.out H57.out).mono ?_
              clear HQ H54 H55 H56 H57
              rintro e Y ⟨rfl, hs⟩
              have HQ := hide hs
              clear hs
              refine hK.out _ _ (HCE.out _ HQ.out.bel) (fun hHeld => ?_)
              clear hK K
              try simp only [Act.put, List.setIfInBounds_toArray, List.set_cons_zero, List.set_cons_succ]
              refine wpAnyH_cast (listed' := #[true, true, true, true, true, true, true, true, true, true, true, true, true, true, true, true, true, true, true, true, true, true, true, true, true, true, true, true, true, true, true, true, true, true, true, false, false, false, false, false, false, false, false, false, false, false, false, false, false, false, false, false, false, false, false, false, false]) (by kernel_rfl) ?_
              exact HREST v54 v55 v56 v57 Y HQ.out hHeld
          · go_simp
            obtain ⟨Yn, v57, hs, hr, hb, hYn, hvn⟩ := lit_ex HQ.out
            rw [hYn, hvn]
            have H57 := hide hr
            have H56n := hide (H56.out.below hb)
            clear H56
            have H56 := H56n
            clear H56n
            have H54n := hide (H54.out.below hb)
            clear H54
            have H54 := H54n
            clear H54n
            clear HQ
            have HQ := hide hs
            clear hs hb hr hYn hvn
            refine hK.out _ _ (HCE.out _ HQ.out.bel) (fun hHeld => ?_)
            clear hK K
            try simp only [Act.put, List.setIfInBounds_toArray, List.set_cons_zero, List.set_cons_succ]
            refine wpAnyH_ready (rs := [31]) (by kernel_rfl) (by simp) ?_
            refine AllReadyH.cons (o := { dst := some 55, op := Op.call { callee := Callee.value (Operand.func 39), args := #[], argTypes := #[] }, type := 25, pos := "law.go:185", after := #[{ on := 30, ground := Ground.chain }, { on := 28, ground := Ground.guard }], guard := some (28, false) }) rfl (fun K hK => ?_) AllReadyH.nil
            · go_simp
              refine (HTWO.out _ HQ.out).mono ?_
              rintro e Yn ⟨v55, rfl, hs, htw, hb⟩
              have H55 := hide htw
              have H56n := hide (H56.out.below hb)
              clear H56
              have H56 := H56n
              clear H56n
              have H54n := hide (H54.out.below hb)
              clear H54
              have H54 := H54n
              clear H54n
              have H57n := hide (H57.out.below hb)
              clear H57
              have H57 := H57n
              clear H57n
              clear HQ
              have HQ := hide hs
              clear hs hb htw
              refine hK.out _ _ (HCE.out _ HQ.out.bel) (fun hHeld => ?_)
              clear hK K
              try simp only [Act.put, List.setIfInBounds_toArray, List.set_cons_zero, List.set_cons_succ]
              refine wpAnyH_ready (rs := [34]) (by kernel_rfl) (by simp) ?_
              refine AllReadyH.cons (o := { dst := some 58, op := Op.call { callee := Callee.value (Operand.func 38), args := #[Operand.tmp 53, Operand.tmp 54, Operand.tmp 55, Operand.tmp 56, Operand.tmp 57, Operand.const (Value.int IntKind.i64 2)], argTypes := #[51, 25, 25, 22, 22, 3] }, type := 4, pos := "law.go:185", after := #[{ on := 29, ground := Ground.data }, { on := 30, ground := Ground.data }, { on := 31, ground := Ground.data }, { on := 32, ground := Ground.data }, { on := 33, ground := Ground.data }, { on := 31, ground := Ground.chain }, { on := 28, ground := Ground.guard }], guard := some (28, false) }) rfl (fun K hK => ?_) AllReadyH.nil
              go_simp
              refine (HC58.out _ _ _ _ _ HQ.out H54.out H55.out H56.out H57.out).mono ?_
              clear HQ H54 H55 H56 H57
              rintro e Y ⟨rfl, hs⟩
              have HQ := hide hs
              clear hs
              refine hK.out _ _ (HCE.out _ HQ.out.bel) (fun hHeld => ?_)
              clear hK K
              try simp only [Act.put, List.setIfInBounds_toArray, List.set_cons_zero, List.set_cons_succ]
              refine wpAnyH_cast (listed' := #[true, true, true, true, true, true, true, true, true, true, true, true, true, true, true, true, true, true, true, true, true, true, true, true, true, true, true, true, true, true, true, true, true, true, true, false, false, false, false, false, false, false, false, false, false, false, false, false, false, false, false, false, false, false, false, false, false]) (by kernel_rfl) ?_
              exact HREST v54 v55 v56 v57 Y HQ.out hHeld
        · go_simp
          obtain ⟨Yn, v57, hs, hr, hb, hYn, hvn⟩ := lit_ex HQ.out
          rw [hYn, hvn]
          have H57 := hide hr
          have H56n := hide (H56.out.below hb)
          clear H56
          have H56 := H56n
          clear H56n
          clear HQ
          have HQ := hide hs
          clear hs hb hr hYn hvn
          refine hK.out _ _ (HCE.out _ HQ.out.bel) (fun hHeld => ?_)
          clear hK K
          try simp only [Act.put, List.setIfInBounds_toArray, List.set_cons_zero, List.set_cons_succ]
          refine wpAnyH_ready (rs := [30]) (by kernel_rfl) (by simp) ?_
          refine AllReadyH.cons (o := { dst := some 54, op := Op.call { callee := Callee.value (Operand.func 39), args := #[], argTypes := #[] }, type := 25, pos := "law.go:185", after := #[{ on := 28, ground := Ground.chain }, { on := 28, ground := Ground.guard }], guard := some (28, false) }) rfl (fun K hK => ?_) AllReadyH.nil
          · go_simp
            refine (HTWO.out _ HQ.out).mono ?_
            rintro e Yn ⟨v54, rfl, hs, htw, hb⟩
            have H54 := hide htw
            have H56n := hide (H56.out.below hb)
            clear H56
            have H56 := H56n
            clear H56n
            have H57n := hide (H57.out.below hb)
            clear H57
            have H57 := H57n
            clear H57n
            clear HQ
            have HQ := hide hs
            clear hs hb htw
            refine hK.out _ _ (HCE.out _ HQ.out.bel) (fun hHeld => ?_)
            clear hK K
            try simp only [Act.put, List.setIfInBounds_toArray, List.set_cons_zero, List.set_cons_succ]
            refine wpAnyH_ready (rs := [31]) (by kernel_rfl) (by simp) ?_
            refine AllReadyH.cons (o := { dst := some 55, op := Op.call { callee := Callee.value (Operand.func 39), args := #[], argTypes := #[] }, type := 25, pos := "law.go:185", after := #[{ on := 30, ground := Ground.chain }, { on := 28, ground := Ground.guard }], guard := some (28, false) }) rfl (fun K hK => ?_) AllReadyH.nil
            · go_simp
              refine (HTWO.out _ HQ.out).mono ?_
              rintro e Yn ⟨v55, rfl, hs, htw, hb⟩
              have H55 := hide htw
              have H56n := hide (H56.out.below hb)
              clear H56
              have H56 := H56n
              clear H56n
              have H57n := hide (H57.out.below hb)
              clear H57
              have H57 := H57n
              clear H57n
              have H54n := hide (H54.out.below hb)
              clear H54
              have H54 := H54n
              clear H54n
              clear HQ
              have HQ := hide hs
              clear hs hb htw
              refine hK.out _ _ (HCE.out _ HQ.out.bel) (fun hHeld => ?_)
              clear hK K
              try simp only [Act.put, List.setIfInBounds_toArray, List.set_cons_zero, List.set_cons_succ]
              refine wpAnyH_ready (rs := [34]) (by kernel_rfl) (by simp) ?_
              refine AllReadyH.cons (o := { dst := some 58, op := Op.call { callee := Callee.value (Operand.func 38), args := #[Operand.tmp 53, Operand.tmp 54, Operand.tmp 55, Operand.tmp 56, Operand.tmp 57, Operand.const (Value.int IntKind.i64 2)], argTypes := #[51, 25, 25, 22, 22, 3] }, type := 4, pos := "law.go:185", after := #[{ on := 29, ground := Ground.data }, { on := 30, ground := Ground.data }, { on := 31, ground := Ground.data }, { on := 32, ground := Ground.data }, { on := 33, ground := Ground.data }, { on := 31, ground := Ground.chain }, { on := 28, ground := Ground.guard }], guard := some (28, false) }) rfl (fun K hK => ?_) AllReadyH.nil
              go_simp
              refine (HC58.out _ _ _ _ _ HQ.out H54.out H55.out H56.out H57.out).mono ?_
              clear HQ H54 H55 H56 H57
              rintro e Y ⟨rfl, hs⟩
              have HQ := hide hs
              clear hs
              refine hK.out _ _ (HCE.out _ HQ.out.bel) (fun hHeld => ?_)
              clear hK K
              try simp only [Act.put, List.setIfInBounds_toArray, List.set_cons_zero, List.set_cons_succ]
              refine wpAnyH_cast (listed' := #[true, true, true, true, true, true, true, true, true, true, true, true, true, true, true, true, true, true, true, true, true, true, true, true, true, true, true, true, true, true, true, true, true, true, true, false, false, false, false, false, false, false, false, false, false, false, false, false, false, false, false, false, false, false, false, false, false]) (by kernel_rfl) ?_
              exact HREST v54 v55 v56 v57 Y HQ.out hHeld
      · go_simp
        obtain ⟨Yn, v57, hs, hr, hb, hYn, hvn⟩ := lit_ex HQ.out
        rw [hYn, hvn]
        have H57 := hide hr
        clear HQ
        have HQ := hide hs
        clear hs hb hr hYn hvn
        refine hK.out _ _ (HCE.out _ HQ.out.bel) (fun hHeld => ?_)
        clear hK K
        try simp only [Act.put, List.setIfInBounds_toArray, List.set_cons_zero, List.set_cons_succ]
        refine wpAnyH_ready (rs := [30, 32]) (by kernel_rfl) (by simp) ?_
        refine AllReadyH.cons (o := { dst := some 54, op := Op.call { callee := Callee.value (Operand.func 39), args := #[], argTypes := #[] }, type := 25, pos := "law.go:185", after := #[{ on := 28, ground := Ground.chain }, { on := 28, ground := Ground.guard }], guard := some (28, false) }) rfl (fun K hK => ?_) (AllReadyH.cons (o := { dst := some 56, op := Op.buildSlice 22 2 #[(0, Operand.const (Value.int IntKind.i64 1)), (1, Operand.const (Value.int IntKind.i64 0))], type := 22, pos := "law.go:185", after := #[{ on := 28, ground := Ground.guard }], guard := some (28, false) }) rfl (fun K hK => ?_) AllReadyH.nil)
        · go_simp
          refine (HTWO.out _ HQ.out).mono ?_
          rintro e Yn ⟨v54, rfl, hs, htw, hb⟩
          have H54 := hide htw
          have H57n := hide (H57.out.below hb)
          clear H57
          have H57 := H57n
          clear H57n
          clear HQ
          have HQ := hide hs
          clear hs hb htw
          refine hK.out _ _ (HCE.out _ HQ.out.bel) (fun hHeld => ?_)
          clear hK K
          try simp only [Act.put, List.setIfInBounds_toArray, List.set_cons_zero, List.set_cons_succ]
          refine wpAnyH_ready (rs := [31, 32]) (by kernel_rfl) (by simp) ?_
          refine AllReadyH.cons (o := { dst := some 55, op := Op.call { callee := Callee.value (Operand.func 39), args := #[], argTypes := #[] }, type := 25, pos := "law.go:185", after := #[{ on := 30, ground := Ground.chain }, { on := 28, ground := Ground.guard }], guard := some (28, false) }) rfl (fun K hK => ?_) (AllReadyH.cons (o := { dst := some 56, op := Op.buildSlice 22 2 #[(0, Operand.const (Value.int IntKind.i64 1)), (1, Operand.const (Value.int IntKind.i64 0))], type := 22, pos := "law.go:185", after := #[{ on := 28, ground := Ground.guard }], guard := some (28, false) }) rfl (fun K hK => ?_) AllReadyH.nil)
          · go_simp
            refine (HTWO.out _ HQ.out).mono ?_
            rintro e Yn ⟨v55, rfl, hs, htw, hb⟩
            have H55 := hide htw
            have H57n := hide (H57.out.below hb)
            clear H57
            have H57 := H57n
            clear H57n
            have H54n := hide (H54.out.below hb)
            clear H54
            have H54 := H54n
            clear H54n
            clear HQ
            have HQ := hide hs
            clear hs hb htw
            refine hK.out _ _ (HCE.out _ HQ.out.bel) (fun hHeld => ?_)
            clear hK K
            try simp only [Act.put, List.setIfInBounds_toArray, List.set_cons_zero, List.set_cons_succ]
            refine wpAnyH_ready (rs := [32]) (by kernel_rfl) (by simp) ?_
            refine AllReadyH.cons (o := { dst := some 56, op := Op.buildSlice 22 2 #[(0, Operand.const (Value.int IntKind.i64 1)), (1, Operand.const (Value.int IntKind.i64 0))], type := 22, pos := "law.go:185", after := #[{ on := 28, ground := Ground.guard }], guard := some (28, false) }) rfl (fun K hK => ?_) AllReadyH.nil
            · go_simp
              obtain ⟨Yn, v56, hs, hr, hb, hYn, hvn⟩ := lit_ex HQ.out
              rw [hYn, hvn]
              have H56 := hide hr
              have H57n := hide (H57.out.below hb)
              clear H57
              have H57 := H57n
              clear H57n
              have H54n := hide (H54.out.below hb)
              clear H54
              have H54 := H54n
              clear H54n
              have H55n := hide (H55.out.below hb)
              clear H55
              have H55 := H55n
              clear H55n
              clear HQ
              have HQ := hide hs
              clear hs hb hr hYn hvn
              refine hK.out _ _ (HCE.out _ HQ.out.bel) (fun hHeld => ?_)
              clear hK K
              try simp only [Act.put, List.setIfInBounds_toArray, List.set_cons_zero, List.set_cons_succ]
              refine wpAnyH_ready (rs := [34]) (by kernel_rfl) (by simp) ?_
              refine AllReadyH.cons (o := { dst := some 58, op := Op.call { callee := Callee.value (Operand.func 38), args := #[Operand.tmp 53, Operand.tmp 54, Operand.tmp 55, Operand.tmp 56, Operand.tmp 57, Operand.const (Value.int IntKind.i64 2)], argTypes := #[51, 25, 25, 22, 22, 3] }, type := 4, pos := "law.go:185", after := #[{ on := 29, ground := Ground.data }, { on := 30, ground := Ground.data }, { on := 31, ground := Ground.data }, { on := 32, ground := Ground.data }, { on := 33, ground := Ground.data }, { on := 31, ground := Ground.chain }, { on := 28, ground := Ground.guard }], guard := some (28, false) }) rfl (fun K hK => ?_) AllReadyH.nil
              go_simp
              refine (HC58.out _ _ _ _ _ HQ.out H54.out H55.out H56.out H57.out).mono ?_
              clear HQ H54 H55 H56 H57
              rintro e Y ⟨rfl, hs⟩
              have HQ := hide hs
              clear hs
              refine hK.out _ _ (HCE.out _ HQ.out.bel) (fun hHeld => ?_)
              clear hK K
              try simp only [Act.put, List.setIfInBounds_toArray, List.set_cons_zero, List.set_cons_succ]
              refine wpAnyH_cast (listed' := #[true, true, true, true, true, true, true, true, true, true, true, true, true, true, true, true, true, true, true, true, true, true, true, true, true, true, true, true, true, true, true, true, true, true, true, false, false, false, false, false, false, false, false, false, false, false, false, false, false, false, false, false, false, false, false, false, false]) (by kernel_rfl) ?_
              exact HREST v54 v55 v56 v57 Y HQ.out hHeld
          · go_simp
            obtain ⟨Yn, v56, hs, hr, hb, hYn, hvn⟩ := lit_ex HQ.out
            rw [hYn, hvn]
            have H56 := hide hr
            have H57n := hide (H57.out.below hb)
            clear H57
            have H57 := H57n
            clear H57n
            have H54n := hide (H54.out.below hb)
            clear H54
            have H54 := H54n
            clear H54n
            clear HQ
            have HQ := hide hs
            clear hs hb hr hYn hvn
            refine hK.out _ _ (HCE.out _ HQ.out.bel) (fun hHeld => ?_)
            clear hK K
            try simp only [Act.put, List.setIfInBounds_toArray, List.set_cons_zero, List.set_cons_succ]
            refine wpAnyH_ready (rs := [31]) (by kernel_rfl) (by simp) ?_
            refine AllReadyH.cons (o := { dst := some 55, op := Op.call { callee := Callee.value (Operand.func 39), args := #[], argTypes := #[] }, type := 25, pos := "law.go:185", after := #[{ on := 30, ground := Ground.chain }, { on := 28, ground := Ground.guard }], guard := some (28, false) }) rfl (fun K hK => ?_) AllReadyH.nil
            · go_simp
              refine (HTWO.out _ HQ.out).mono ?_
              rintro e Yn ⟨v55, rfl, hs, htw, hb⟩
              have H55 := hide htw
              have H57n := hide (H57.out.below hb)
              clear H57
              have H57 := H57n
              clear H57n
              have H54n := hide (H54.out.below hb)
              clear H54
              have H54 := H54n
              clear H54n
              have H56n := hide (H56.out.below hb)
              clear H56
              have H56 := H56n
              clear H56n
              clear HQ
              have HQ := hide hs
              clear hs hb htw
              refine hK.out _ _ (HCE.out _ HQ.out.bel) (fun hHeld => ?_)
              clear hK K
              try simp only [Act.put, List.setIfInBounds_toArray, List.set_cons_zero, List.set_cons_succ]
              refine wpAnyH_ready (rs := [34]) (by kernel_rfl) (by simp) ?_
              refine AllReadyH.cons (o := { dst := some 58, op := Op.call { callee := Callee.value (Operand.func 38), args := #[Operand.tmp 53, Operand.tmp 54, Operand.tmp 55, Operand.tmp 56, Operand.tmp 57, Operand.const (Value.int IntKind.i64 2)], argTypes := #[51, 25, 25, 22, 22, 3] }, type := 4, pos := "law.go:185", after := #[{ on := 29, ground := Ground.data }, { on := 30, ground := Ground.data }, { on := 31, ground := Ground.data }, { on := 32, ground := Ground.data }, { on := 33, ground := Ground.data }, { on := 31, ground := Ground.chain }, { on := 28, ground := Ground.guard }], guard := some (28, false) }) rfl (fun K hK => ?_) AllReadyH.nil
              go_simp
              refine (HC58.out _ _ _ _ _ HQ.out H54.out H55.out H56.out H57.out).mono ?_
              clear HQ H54 H55 H56 H57
              rintro e Y ⟨rfl, hs⟩
              have HQ := hide hs
              clear hs
              refine hK.out _ _ (HCE.out _ HQ.out.bel) (fun hHeld => ?_)
              clear hK K
              try simp only [Act.put, List.setIfInBounds_toArray, List.set_cons_zero, List.set_cons_succ]
              refine wpAnyH_cast (listed' := #[true, true, true, true, true, true, true, true, true, true, true, true, true, true, true, true, true, true, true, true, true, true, true, true, true, true, true, true, true, true, true, true, true, true, true, false, false, false, false, false, false, false, false, false, false, false, false, false, false, false, false, false, false, false, false, false, false]) (by kernel_rfl) ?_
              exact HREST v54 v55 v56 v57 Y HQ.out hHeld
        · go_simp
          obtain ⟨Yn, v56, hs, hr, hb, hYn, hvn⟩ := lit_ex HQ.out
          rw [hYn, hvn]
          have H56 := hide hr
          have H57n := hide (H57.out.below hb)
          clear H57
          have H57 := H57n
          clear H57n
          clear HQ
          have HQ := hide hs
          clear hs hb hr hYn hvn
          refine hK.out _ _ (HCE.out _ HQ.out.bel) (fun hHeld => ?_)
          clear hK K
          try simp only [Act.put, List.setIfInBounds_toArray, List.set_cons_zero, List.set_cons_succ]
          refine wpAnyH_ready (rs := [30]) (by kernel_rfl) (by simp) ?_
          refine AllReadyH.cons (o := { dst := some 54, op := Op.call { callee := Callee.value (Operand.func 39), args := #[], argTypes := #[] }, type := 25, pos := "law.go:185", after := #[{ on := 28, ground := Ground.chain }, { on := 28, ground := Ground.guard }], guard := some (28, false) }) rfl (fun K hK => ?_) AllReadyH.nil
          · go_simp
            refine (HTWO.out _ HQ.out).mono ?_
            rintro e Yn ⟨v54, rfl, hs, htw, hb⟩
            have H54 := hide htw
            have H57n := hide (H57.out.below hb)
            clear H57
            have H57 := H57n
            clear H57n
            have H56n := hide (H56.out.below hb)
            clear H56
            have H56 := H56n
            clear H56n
            clear HQ
            have HQ := hide hs
            clear hs hb htw
            refine hK.out _ _ (HCE.out _ HQ.out.bel) (fun hHeld => ?_)
            clear hK K
            try simp only [Act.put, List.setIfInBounds_toArray, List.set_cons_zero, List.set_cons_succ]
            refine wpAnyH_ready (rs := [31]) (by kernel_rfl) (by simp) ?_
            refine AllReadyH.cons (o := { dst := some 55, op := Op.call { callee := Callee.value (Operand.func 39), args := #[], argTypes := #[] }, type := 25, pos := "law.go:185", after := #[{ on := 30, ground := Ground.chain }, { on := 28, ground := Ground.guard }], guard := some (28, false) }) rfl (fun K hK => ?_) AllReadyH.nil
            · go_simp
              refine (HTWO.out _ HQ.out).mono ?_
              rintro e Yn ⟨v55, rfl, hs, htw, hb⟩
              have H55 := hide htw
              have H57n := hide (H57.out.below hb)
              clear H57
              have H57 := H57n
              clear H57n
              have H56n := hide (H56.out.below hb)
              clear H56
              have H56 := H56n
              clear H56n
              have H54n := hide (H54.out.below hb)
              clear H54
              have H54 := H54n
              clear H54n
              clear HQ
              have HQ := hide hs
              clear hs hb htw
              refine hK.out _ _ (HCE.out _ HQ.out.bel) (fun hHeld => ?_)
              clear hK K
              try simp only [Act.put, List.setIfInBounds_toArray, List.set_cons_zero, List.set_cons_succ]
              refine wpAnyH_ready (rs := [34]) (by kernel_rfl) (by simp) ?_
              refine AllReadyH.cons (o := { dst := some 58, op := Op.call { callee := Callee.value (Operand.func 38), args := #[Operand.tmp 53, Operand.tmp 54, Operand.tmp 55, Operand.tmp 56, Operand.tmp 57, Operand.const (Value.int IntKind.i64 2)], argTypes := #[51, 25, 25, 22, 22, 3] }, type := 4, pos := "law.go:185", after := #[{ on := 29, ground := Ground.data }, { on := 30, ground := Ground.data }, { on := 31, ground := Ground.data }, { on := 32, ground := Ground.data }, { on := 33, ground := Ground.data }, { on := 31, ground := Ground.chain }, { on := 28, ground := Ground.guard }], guard := some (28, false) }) rfl (fun K hK => ?_) AllReadyH.nil
              go_simp
              refine (HC58.out _ _ _ _ _ HQ.out H54.out H55.out H56.out H57.out).mono ?_
              clear HQ H54 H55 H56 H57
              rintro e Y ⟨rfl, hs⟩
              have HQ := hide hs
              clear hs
              refine hK.out _ _ (HCE.out _ HQ.out.bel) (fun hHeld => ?_)
              clear hK K
              try simp only [Act.put, List.setIfInBounds_toArray, List.set_cons_zero, List.set_cons_succ]
              refine wpAnyH_cast (listed' := #[true, true, true, true, true, true, true, true, true, true, true, true, true, true, true, true, true, true, true, true, true, true, true, true, true, true, true, true, true, true, true, true, true, true, true, false, false, false, false, false, false, false, false, false, false, false, false, false, false, false, false, false, false, false, false, false, false]) (by kernel_rfl) ?_
              exact HREST v54 v55 v56 v57 Y HQ.out hHeld
    case rest =>
      clear HS hHeld
      intro v54 v55 v56 v57 Y hs hHeld
      have HS := hide hs
      clear hs
      refine wpAnyH_take (i := 35) (oi := { dst := some 59, op := Op.unOp UnOp.not 4 (Operand.tmp 58), type := 4, pos := "law.go:185", after := #[{ on := 34, ground := Ground.data }, { on := 28, ground := Ground.guard }], guard := some (28, false) }) (v := ?_) rfl (by kernel_rfl) (by kernel_rfl) (by kernel_rfl) (fun _ _ _ h => h) (Or.inl ⟨by rfl, ?_⟩) (by assumption) ?_
      rotate_left
      · intro w hSw
        try dsimp only at hSw
        go_simp
        all_goals try with_reducible rfl
      try simp only [Act.put, List.setIfInBounds_toArray, List.set_cons_zero, List.set_cons_succ]
      refine wpAnyH_take (i := 36) (oi := { dst := some 60, op := Op.pick (Operand.tmp 52) (Operand.const (Value.bool true)) (Operand.tmp 59), type := 4, pos := "law.go:185", after := #[{ on := 28, ground := Ground.data }, { on := 35, ground := Ground.data }], guard := none }) (v := ?_) rfl (by kernel_rfl) (by kernel_rfl) (by kernel_rfl) (fun _ _ _ h => h) (Or.inl ⟨by rfl, ?_⟩) (by assumption) ?_
      rotate_left
      · intro w hSw
        try dsimp only at hSw
        go_simp
        all_goals try with_reducible rfl
      try simp only [Act.put, List.setIfInBounds_toArray, List.set_cons_zero, List.set_cons_succ]
      refine wpAnyH_take (i := 37) (oi := { dst := some 61, op := Op.move (Operand.tmp 60), type := 4, pos := "law.go:185", after := #[{ on := 36, ground := Ground.data }, { on := 34, ground := Ground.chain }], guard := none }) (v := ?_) rfl (by kernel_rfl) (by kernel_rfl) (by kernel_rfl) (fun _ _ _ h => h) (Or.inl ⟨by rfl, ?_⟩) (by assumption) ?_
      rotate_left
      · intro w hSw
        try dsimp only at hSw
        go_simp
        all_goals try with_reducible rfl
      try simp only [Act.put, List.setIfInBounds_toArray, List.set_cons_zero, List.set_cons_succ]
      refine wpAnyH_take (i := 38) (oi := { dst := some 62, op := Op.move (Operand.tmp 10), type := 51, pos := "law.go:185", after := #[{ on := 37, ground := Ground.guard }], guard := some (37, false) }) (v := ?_) rfl (by kernel_rfl) (by kernel_rfl) (by kernel_rfl) (fun _ _ _ h => h) (Or.inl ⟨by rfl, ?_⟩) (by assumption) ?_
      rotate_left
      · intro w hSw
        try dsimp only at hSw
        go_simp
        all_goals try with_reducible rfl
      try simp only [Act.put, List.setIfInBounds_toArray, List.set_cons_zero, List.set_cons_succ]
      refine wpAnyH_take (i := 39) (oi := { dst := some 63, op := Op.move (Operand.tmp 7), type := 26, pos := "law.go:185", after := #[{ on := 37, ground := Ground.guard }], guard := some (37, false) }) (v := ?_) rfl (by kernel_rfl) (by kernel_rfl) (by kernel_rfl) (fun _ _ _ h => h) (Or.inl ⟨by rfl, ?_⟩) (by assumption) ?_
      rotate_left
      · intro w hSw
        try dsimp only at hSw
        go_simp
        all_goals try with_reducible rfl
      try simp only [Act.put, List.setIfInBounds_toArray, List.set_cons_zero, List.set_cons_succ]
      refine wpAnyH_take (i := 40) (oi := { dst := some 64, op := Op.nilCheck (Operand.tmp 63), type := 0, pos := "law.go:185", after := #[{ on := 39, ground := Ground.data }, { on := 37, ground := Ground.guard }], guard := some (37, false) }) (v := ?_) rfl (by kernel_rfl) (by kernel_rfl) (by kernel_rfl) (fun _ _ _ h => h) (Or.inl ⟨by rfl, ?_⟩) (by assumption) ?_
      rotate_left
      · intro w hSw
        try dsimp only at hSw
        go_simp
        all_goals try with_reducible rfl
      try simp only [Act.put, List.setIfInBounds_toArray, List.set_cons_zero, List.set_cons_succ]
      refine wpAnyH_take (i := 41) (oi := { dst := some 65, op := Op.fieldAddr 32 (Operand.tmp 64) 4, type := 0, pos := "law.go:185", after := #[{ on := 40, ground := Ground.data }, { on := 37, ground := Ground.guard }], guard := some (37, false) }) (v := ?_) rfl (by kernel_rfl) (by kernel_rfl) (by kernel_rfl) (fun _ _ _ h => h) (Or.inl ⟨by rfl, ?_⟩) (by assumption) ?_
      rotate_left
      · intro w hSw
        try dsimp only at hSw
        go_simp
        all_goals try with_reducible rfl
      try simp only [Act.put, List.setIfInBounds_toArray, List.set_cons_zero, List.set_cons_succ]
      refine wpAnyH_take (i := 42) (oi := { dst := some 66, op := Op.load 25 (Operand.tmp 65), type := 25, pos := "law.go:185", after := #[{ on := 41, ground := Ground.data }, { on := 37, ground := Ground.guard }], guard := some (37, false) }) (v := ?_) rfl (by kernel_rfl) (by kernel_rfl) (by kernel_rfl) (fun _ _ _ h => h) (Or.inl ⟨by rfl, ?_⟩) (by assumption) ?_
      rotate_left
      · intro w hSw
        try dsimp only at hSw
        go_simp
        all_goals try with_reducible rfl
      try simp only [Act.put, List.setIfInBounds_toArray, List.set_cons_zero, List.set_cons_succ]
      refine wpAnyH_take (i := 43) (oi := { dst := some 67, op := Op.load 25 (Operand.tmp 3), type := 25, pos := "law.go:185", after := #[{ on := 37, ground := Ground.guard }], guard := some (37, false) }) (v := ?_) rfl (by kernel_rfl) (by kernel_rfl) (by kernel_rfl) (fun _ _ _ h => h) (Or.inl ⟨by rfl, ?_⟩) (by assumption) ?_
      rotate_left
      · intro w hSw
        try dsimp only at hSw
        go_simp
        all_goals try with_reducible rfl
      try simp only [Act.put, List.setIfInBounds_toArray, List.set_cons_zero, List.set_cons_succ]
      refine wpAnyH_take (i := 44) (oi := { dst := some 68, op := Op.move (Operand.tmp 8), type := 22, pos := "law.go:185", after := #[{ on := 37, ground := Ground.guard }], guard := some (37, false) }) (v := ?_) rfl (by kernel_rfl) (by kernel_rfl) (by kernel_rfl) (fun _ _ _ h => h) (Or.inl ⟨by rfl, ?_⟩) (by assumption) ?_
      rotate_left
      · intro w hSw
        try dsimp only at hSw
        go_simp
        all_goals try with_reducible rfl
      try simp only [Act.put, List.setIfInBounds_toArray, List.set_cons_zero, List.set_cons_succ]
      refine wpAnyH_take (i := 45) (oi := { dst := some 69, op := Op.move (Operand.tmp 9), type := 3, pos := "law.go:185", after := #[{ on := 37, ground := Ground.guard }], guard := some (37, false) }) (v := ?_) rfl (by kernel_rfl) (by kernel_rfl) (by kernel_rfl) (fun _ _ _ h => h) (Or.inl ⟨by rfl, ?_⟩) (by assumption) ?_
      rotate_left
      · intro w hSw
        try dsimp only at hSw
        go_simp
        all_goals try with_reducible rfl
      try simp only [Act.put, List.setIfInBounds_toArray, List.set_cons_zero, List.set_cons_succ]
      refine wpAnyH_take (i := 46) (oi := { dst := some 70, op := Op.slice 22 (Operand.tmp 68) none (some (Operand.tmp 69)) none, type := 22, pos := "law.go:185", after := #[{ on := 44, ground := Ground.data }, { on := 45, ground := Ground.data }, { on := 37, ground := Ground.guard }], guard := some (37, false) }) (v := ?_) rfl (by kernel_rfl) (by kernel_rfl) (by kernel_rfl) (fun _ _ _ h => h) (Or.inl ⟨by rfl, ?_⟩) (by assumption) ?_
      rotate_left
      · intro w hSw
        try dsimp only at hSw
        go_simp
        all_goals try with_reducible rfl
      try simp only [Act.put, List.setIfInBounds_toArray, List.set_cons_zero, List.set_cons_succ]
      refine wpAnyH_take (i := 47) (oi := { dst := some 71, op := Op.move (Operand.tmp 1), type := 22, pos := "law.go:185", after := #[{ on := 37, ground := Ground.guard }], guard := some (37, false) }) (v := ?_) rfl (by kernel_rfl) (by kernel_rfl) (by kernel_rfl) (fun _ _ _ h => h) (Or.inl ⟨by rfl, ?_⟩) (by assumption) ?_
      rotate_left
      · intro w hSw
        try dsimp only at hSw
        go_simp
        all_goals try with_reducible rfl
      try simp only [Act.put, List.setIfInBounds_toArray, List.set_cons_zero, List.set_cons_succ]
      refine wpAnyH_take (i := 48) (oi := { dst := some 72, op := Op.move (Operand.tmp 2), type := 3, pos := "law.go:185", after := #[{ on := 37, ground := Ground.guard }], guard := some (37, false) }) (v := ?_) rfl (by kernel_rfl) (by kernel_rfl) (by kernel_rfl) (fun _ _ _ h => h) (Or.inl ⟨by rfl, ?_⟩) (by assumption) ?_
      rotate_left
      · intro w hSw
        try dsimp only at hSw
        go_simp
        all_goals try with_reducible rfl
      try simp only [Act.put, List.setIfInBounds_toArray, List.set_cons_zero, List.set_cons_succ]
      refine wpAnyH_ready (rs := [49]) (by kernel_rfl) (by simp) ?_
      refine AllReadyH.cons (o := { dst := some 73, op := Op.call { callee := Callee.value (Operand.func 38), args := #[Operand.tmp 62, Operand.tmp 66, Operand.tmp 67, Operand.tmp 70, Operand.tmp 71, Operand.tmp 72], argTypes := #[51, 25, 25, 22, 22, 3] }, type := 4, pos := "law.go:185", after := #[{ on := 38, ground := Ground.data }, { on := 42, ground := Ground.data }, { on := 43, ground := Ground.data }, { on := 46, ground := Ground.data }, { on := 47, ground := Ground.data }, { on := 48, ground := Ground.data }, { on := 37, ground := Ground.chain }, { on := 37, ground := Ground.guard }], guard := some (37, false) }) rfl (fun K hK => ?_) AllReadyH.nil
      go_simp
      refine (HSTEP.out _ _ HS.out (by decide)).mono ?_
      clear HS
      rintro e Y ⟨rfl, hs⟩
      have HS := hide hs
      clear hs hHeld
      refine hK.out _ _ (HCE.out _ HS.out.bel) (fun hHeld => ?_)
      clear hK K
      try simp only [Act.put, List.setIfInBounds_toArray, List.set_cons_zero, List.set_cons_succ]
      refine wpAnyH_take (i := 50) (oi := { dst := some 74, op := Op.unOp UnOp.not 4 (Operand.tmp 73), type := 4, pos := "law.go:185", after := #[{ on := 49, ground := Ground.data }, { on := 37, ground := Ground.guard }], guard := some (37, false) }) (v := ?_) rfl (by kernel_rfl) (by kernel_rfl) (by kernel_rfl) (fun _ _ _ h => h) (Or.inl ⟨by rfl, ?_⟩) (by assumption) ?_
      rotate_left
      · intro w hSw
        try dsimp only at hSw
        go_simp
        all_goals try with_reducible rfl
      try simp only [Act.put, List.setIfInBounds_toArray, List.set_cons_zero, List.set_cons_succ]
      refine wpAnyH_take (i := 51) (oi := { dst := some 75, op := Op.pick (Operand.tmp 61) (Operand.const (Value.bool true)) (Operand.tmp 74), type := 4, pos := "law.go:185", after := #[{ on := 37, ground := Ground.data }, { on := 50, ground := Ground.data }], guard := none }) (v := ?_) rfl (by kernel_rfl) (by kernel_rfl) (by kernel_rfl) (fun _ _ _ h => h) (Or.inl ⟨by rfl, ?_⟩) (by assumption) ?_
      rotate_left
      · intro w hSw
        try dsimp only at hSw
        go_simp
        all_goals try with_reducible rfl
      try simp only [Act.put, List.setIfInBounds_toArray, List.set_cons_zero, List.set_cons_succ]
      refine wpAnyH_take (i := 52) (oi := { dst := some 76, op := Op.move (Operand.tmp 75), type := 4, pos := "law.go:185", after := #[{ on := 51, ground := Ground.data }, { on := 49, ground := Ground.chain }], guard := none }) (v := ?_) rfl (by kernel_rfl) (by kernel_rfl) (by kernel_rfl) (fun _ _ _ h => h) (Or.inl ⟨by rfl, ?_⟩) (by assumption) ?_
      rotate_left
      · intro w hSw
        try dsimp only at hSw
        go_simp
        all_goals try with_reducible rfl
      try simp only [Act.put, List.setIfInBounds_toArray, List.set_cons_zero, List.set_cons_succ]
      refine wpAnyH_take (i := 53) (oi := { dst := some 77, op := Op.move (Operand.tmp 10), type := 51, pos := "law.go:185", after := #[{ on := 52, ground := Ground.guard }], guard := some (52, false) }) (v := ?_) rfl (by kernel_rfl) (by kernel_rfl) (by kernel_rfl) (fun _ _ _ h => h) (Or.inl ⟨by rfl, ?_⟩) (by assumption) ?_
      rotate_left
      · intro w hSw
        try dsimp only at hSw
        go_simp
        all_goals try with_reducible rfl
      try simp only [Act.put, List.setIfInBounds_toArray, List.set_cons_zero, List.set_cons_succ]
      refine wpAnyH_ready (rs := [54]) (by kernel_rfl) (by simp) ?_
      refine AllReadyH.cons (o := { dst := some 78, op := Op.call { callee := Callee.value (Operand.func 22), args := #[Operand.tmp 77], argTypes := #[51] }, type := 4, pos := "law.go:185", after := #[{ on := 53, ground := Ground.data }, { on := 52, ground := Ground.chain }, { on := 52, ground := Ground.guard }], guard := some (52, false) }) rfl (fun K hK => ?_) AllReadyH.nil
      go_simp
      refine (HS.out.apart (by decide)).mono ?_
      clear HS
      rintro e Y ⟨rfl, hs⟩
      have HT5 := hide hs
      clear hs hHeld
      refine hK.out _ _ (HCE.out _ HT5.out.bel) (fun hHeld => ?_)
      clear hK K
      try simp only [Act.put, List.setIfInBounds_toArray, List.set_cons_zero, List.set_cons_succ]
      refine wpAnyH_take (i := 55) (oi := { dst := some 79, op := Op.unOp UnOp.not 4 (Operand.tmp 78), type := 4, pos := "law.go:185", after := #[{ on := 54, ground := Ground.data }, { on := 52, ground := Ground.guard }], guard := some (52, false) }) (v := ?_) rfl (by kernel_rfl) (by kernel_rfl) (by kernel_rfl) (fun _ _ _ h => h) (Or.inl ⟨by rfl, ?_⟩) (by assumption) ?_
      rotate_left
      · intro w hSw
        try dsimp only at hSw
        go_simp
        all_goals try with_reducible rfl
      try simp only [Act.put, List.setIfInBounds_toArray, List.set_cons_zero, List.set_cons_succ]
      refine wpAnyH_take (i := 56) (oi := { dst := some 80, op := Op.pick (Operand.tmp 76) (Operand.const (Value.bool true)) (Operand.tmp 79), type := 4, pos := "law.go:185", after := #[{ on := 52, ground := Ground.data }, { on := 55, ground := Ground.data }], guard := none }) (v := ?_) rfl (by kernel_rfl) (by kernel_rfl) (by kernel_rfl) (fun _ _ _ h => h) (Or.inl ⟨by rfl, ?_⟩) (by assumption) ?_
      rotate_left
      · intro w hSw
        try dsimp only at hSw
        go_simp
        all_goals try with_reducible rfl
      try simp only [Act.put, List.setIfInBounds_toArray, List.set_cons_zero, List.set_cons_succ]
      refine wpAnyH_done (by kernel_rfl) ?_ _
      go_wp2_with fail
      go_meet
      case rel => exact ⟨rfl, HT5.out⟩
  case rest =>
    obtain ⟨rfl, ht⟩ := hcut
    have HT := hide ht
    have HKE := hide (kept_any R N st tl wt wc (HRX.out.is.below ht.bel) (by omega) (by omega) (by omega))
    clear ht HS HSTEP HGI HCE
    go_wp2_with fail
    refine HKE.out.mono ?_
    rintro e y1 ⟨rfl, hb⟩
    have HY1 := hide hb
    clear HKE hb
    have HSA := hide (same_any (.slice (some ⟨g1, 0, none⟩) L e1) (.slice fo L fc) o y1 ((HFL.out.below HT.out.bel).below HY1.out) ((HF3.out.below HT.out.bel).below HY1.out))
    go_wp2_with fail
    refine HSA.out.mono ?_
    rintro e y2 ⟨rfl, hb⟩
    have HY2 := hide (below_on HY1.out hb)
    clear HSA hb HY1
    have HXY : Hid (Below X0.heap.size X0 y2) := HT.out.bel.trans (HY2.out.mono (by have h9 := HT.out.ex; obtain ⟨_, _, h9, _⟩ := h9; have := h9.lt; omega))
    have HSH := hide (shift_any w1.heap.size w2.heap.size R N st tl wt y2 (HRX.out.below HXY.out) hN hst hto hwt HWN.out)
    go_wp2_with fail
    refine HSH.out.mono ?_
    clear HSH
    rintro e V ⟨rfl, st', tl', wt', hl1, hl2, hl3, hnn, hrt, hch⟩
    have HRK2 := HRK.out
    have hy2s := HXY.out.size
    have HVB : Hid (Below w.heap.size w V) := Chg.below (below_on HB3.out HXY.out) hch (fun i hi => by have := hi.1; omega) (by omega)
    have HVF : Hid (FI .i64 3 V g1 (o ++ [-77, -78])) := (HFI.out.below HXY.out).chg hch (fun h => by have := h.2; have := HRK2.2.2; omega)
    have HVK : Hid (∃ L1 L2, BkH X0.heap.size V.heap.size X0.heap.size V L1 L2 ∧ L1.length ≤ 900 ∧ L2.length ≤ 900) := by
      obtain ⟨L1, L2, hk, e1, e2⟩ := HT.out.ex
      exact ⟨L1, L2, ((hk.below HY2.out).up HY2.out.size).high hch.size (fun k h1 h2 => hch.block k h2 (fun h => by have := h.2; omega)), by omega, by omega⟩
    have HVO := hide (HF0.out.below HVB.out)
    have HRT := hide hrt; have HNN := hide hnn; have HLE := hide (And.intro hl1 (And.intro hl2 hl3))
    have HVS : Hid (X0.heap.size ≤ y2.heap.size ∧ y2.heap.size ≤ V.heap.size) := ⟨hy2s, hch.size⟩
    clear hl1 hl2 hl3 hnn hrt hch hy2s HRK2 HT HY2 HXY HRX HAX HB3 HG3 HF3 HFL HG HWN HFI
    go_wp2_with fail
    go_loopw [11, 12] (fun a t wr => ∃ m : Nat, m ≤ L ∧ t = .int .i64 ((m : Int) - 1) ∧ RV V wr a o m) (fun _ t _ => (RowKit.intOf t + 1).toNat)
    case atStart => exact ⟨L, Nat.le_refl _, rfl, RV.start HLL.out⟩
    case round =>
      obtain ⟨m, hm, rfl, hrv⟩ := hrel
      have HRV := hide hrv
      clear hrv
      cases m with
      | succ i =>
        rw [show (((i + 1 : Nat) : Int) - 1) = (i : Int) by omega]
        have hio : i < o.length := by rw [← HLL.out]; exact hm
        obtain ⟨gb, ob, cb', hov, _, hcell⟩ := (HVO.out.below HRV.out.bel).cellAt i hio
        simp only [Value.slice.injEq] at hov
        obtain ⟨rfl, hov2, hov3⟩ := hov
        have hil : (i : Int) < (L : Int) := by omega
        obtain ⟨x, hx⟩ : ∃ x, x = at_ o i := ⟨_, rfl⟩
        rw [← hx] at hcell
        have HXX := hide hx
        have HIO := hide hio
        have HOL : Hid (o.length - (i + 1) + 1 ≤ 17592186044416) := by have := HLL.out; show _ ≤ _; omega
        have HSZ : Hid (V.heap.size ≤ wr.heap.size) := HRV.out.bel.size
        clear hov2 hov3 hx hio hm
        go_wp2_with (at_builtin; refine wpList_append_lies _ rfl (.tmp 100) (.tmp 105) 22 rfl V.heap.size 3 i0 (.int .i64 0) 1 8 Try.underlying22 hi hz0 hz1 hz2 rfl (by omega) _ (o.length - (i + 1)) ((rvL o (i + 1)).map (Value.int .i64)) rfl (HRV.out.own.alloc _) ⟨wr.heap.size, 0, none⟩ 1 1 [.int .i64 x] rfl rfl (one_cellsO wr _ _) (by simp [Value.oneCell']) (by omega) (by have := HOL.out; unfold maxLen; omega) (by have := HOL.out; omega) (by have := HSZ.out; simp; omega) (wr.heap.size + 1) (by simp) ?_; intro g5 cap5 w5 hownB hgrowB hatB hltB; have HST := hide (HRV.out.step HIO.out hgrowB (by rw [← HXX.out]; exact hownB)); clear hownB hgrowB hatB hltB)
        exact ⟨⟨i, Nat.le_of_lt (by have := HIO.out; rw [← HLL.out] at this; exact this), rfl, HST.out⟩, by simp [RowKit.intOf]⟩
      | zero =>
        rw [show (((0 : Nat) : Int) - 1) = -1 from rfl]
        obtain ⟨vo, vc', hvv⟩ := HRV.out.row.shape
        rw [List.length_reverse, ← HLL.out] at hvv
        subst hvv
        have hgV : g1 < V.heap.size := HVF.out.lt
        have HWF := hide (HVF.out.below HRV.out.bel)
        obtain ⟨wy, hcp, hfy, hsy, hcy⟩ := copy_full (n := L) (cap := e1) (bc := vc') (bo := vo) (ys := o.reverse) HWF.out HLL.out.symm (by have := HRV.out.row; exact this) (by rw [List.length_reverse, ← HLL.out])
        have HCY := hide hcy; have HFY := hide hfy
        have HSY : Hid (wy.heap.size = wr.heap.size) := hsy
        have HVW : Hid (Below w.heap.size w wy) := Chg.below (below_on HVB.out HRV.out.bel) hcy (fun i hi => by rw [hi]; have := HRK.out; omega) (by have := HVB.out.size; have := HRV.out.bel.size; omega)
        have HVX : Hid (∀ y, KeepA wy y → Below X0.heap.size wy y → RoomIs y R N st' tl' wt' ∧ RowAt .i64 y (.slice vo L vc') o.reverse ∧ RowAt .i64 y (.slice (some ⟨g1, 0, none⟩) L e1) o.reverse) := fun y hk hb => by
          have hs := HVS.out; have hrk := HRK.out
          have hbV : Below w2.heap.size V y := (Chg.below (HRV.out.bel.mono (by omega)) HCY.out (fun i hi => by rw [hi]; omega) (by have := HRV.out.bel.size; omega)).trans (hb.mono (by omega))
          have hF := HFY.out.low hb hgX
          refine ⟨HRT.out.2 y hbV (keep_all HRV.out.bel HCY.out (by omega) hk), HRV.out.rowK HCY.out hgV hk, ?_⟩
          have := (hF.row (n := L + 2) (c := e1) (by simp [HLL.out]) ka1 kb1).front
          rw [List.length_reverse, ← HLL.out] at this
          exact this
        obtain ⟨hrm, hrb, hrf⟩ := HVX.out wy.drew (fun b cur t h _ _ _ => rfl) (Below.refl _ _).drew
        obtain ⟨po, pa, qo, qa, ro, ra, k1, d1, k2, d2, k3, d3, hh, hg, r1, r2, r3⟩ := hrm
        obtain ⟨L1, L2, hbk, hn1, hn2⟩ := HVK.out
        have hbk1 := ((hbk.below HRV.out.bel).up HRV.out.bel.size).high (w' := wy.drew) (by show wr.heap.size ≤ wy.heap.size; rw [hsy]; exact Nat.le_refl _) (fun k h1 h2 => HCY.out.block k h2 (by show ¬ k = g1; omega))
        have hlen := HLE.out
        have HL38 := hide (hbk1.last (c := c) hn1 hn2 (⟨r1.front, r2.front, r3.front⟩ : GIs wy.drew N _ _ _ st' tl' wt') hg (by omega) (by omega) (by omega) HNN.out hrf hrb)
        unfold gAgg at HL38
        obtain ⟨M, hM⟩ : ∃ M, M = L + 1 := ⟨_, rfl⟩
        have HC16 : Hid (∀ x, Below X0.heap.size wy x → (fun x => x.cell? ⟨R, 0, none⟩ = some (.int .i64 N) ∧ x.cell? ⟨R, 1, none⟩ = some (.slice po st'.length pa) ∧ x.cell? ⟨R, 2, none⟩ = some (.slice qo tl'.length qa) ∧ x.cell? ⟨R, 3, none⟩ = some (.slice ro wt'.length ra) ∧ x.cell? ⟨R, 7, none⟩ = some (.int .i64 N) ∧ x.cell? ⟨R, 8, none⟩ = some (.slice (some ⟨k1, 0, none⟩) st'.length d1) ∧ x.cell? ⟨R, 9, none⟩ = some (.slice (some ⟨k2, 0, none⟩) tl'.length d2) ∧ x.cell? ⟨R, 10, none⟩ = some (.slice (some ⟨k3, 0, none⟩) wt'.length d3) ∧ x.cell? ⟨g1, L, none⟩ = some (.int .i64 (-77)) ∧ x.cell? ⟨g1, M, none⟩ = some (.int .i64 (-78))) x) := fun x hx => by
          have hb := (hx.block R (by have := HRK.out; have := HVS.out; omega)).trans hh
          have hF := HFY.out.low hx hgX
          have z1 := hF.cell L (by simp [HLL.out]); have z2 := hF.cell M (by simp [HLL.out, hM])
          have y1 : at_ (o.reverse ++ [-77, -78]) L = -77 := by simp [at_, HLL.out]
          have y2 : at_ (o.reverse ++ [-77, -78]) M = -78 := by simp [at_, HLL.out, hM]
          rw [y1] at z1; rw [y2] at z2
          exact ⟨cell_of hb rfl, cell_of hb rfl, cell_of hb rfl, cell_of hb rfl, cell_of hb rfl, cell_of hb rfl, cell_of hb rfl, cell_of hb rfl, z1, z2⟩
        have hL2 : (L : Int) < (L : Int) + 2 := by omega
        have hL3 : (M : Int) < (L : Int) + 2 := by omega
        have hLw : IntKind.i64.wrap ((L : Int) + 1) = (M : Int) := by rw [IntWalk.i64_in _ (by omega)]; omega
        clear hM
        clear hrb hrf hh hg r1 r2 r3 hbk hn1 hn2 hbk1 hlen hcy hfy hsy
        go_wp2_with fail
        go_region_held3 (fun x => x.cell? ⟨R, 0, none⟩ = some (.int .i64 N) ∧ x.cell? ⟨R, 1, none⟩ = some (.slice po st'.length pa) ∧ x.cell? ⟨R, 2, none⟩ = some (.slice qo tl'.length qa) ∧ x.cell? ⟨R, 3, none⟩ = some (.slice ro wt'.length ra) ∧ x.cell? ⟨R, 7, none⟩ = some (.int .i64 N) ∧ x.cell? ⟨R, 8, none⟩ = some (.slice (some ⟨k1, 0, none⟩) st'.length d1) ∧ x.cell? ⟨R, 9, none⟩ = some (.slice (some ⟨k2, 0, none⟩) tl'.length d2) ∧ x.cell? ⟨R, 10, none⟩ = some (.slice (some ⟨k3, 0, none⟩) wt'.length d3) ∧ x.cell? ⟨g1, L, none⟩ = some (.int .i64 (-77)) ∧ x.cell? ⟨g1, M, none⟩ = some (.int .i64 (-78))) (first | with_reducible exact HC16.out _ (Below.refl _ _).drew | with_reducible exact HC16.out _ HY.out.2)
          (first
          | (go_at_call 17; refine (kept_any R N st' tl' wt' _ (HVX.out _ HY.out.1 HY.out.2).1 (by have := HLE.out; omega) (by have := HLE.out; omega) (by have := HLE.out; omega)).mono ?_; rintro e z ⟨rfl, hb⟩; have HZ : Hid (KeepA wy z ∧ Below X0.heap.size wy z) := ⟨fun b cur t h a1 a2 a3 => ((hb.block b (lt_of_heap ((HY.out.1 b cur t h a1 a2 a3).trans h))).trans (HY.out.1 b cur t h a1 a2 a3)), HY.out.2.trans (hb.mono (by have := HY.out.2.size; have := HVS.out; have := HRV.out.bel.size; have := HSY.out; omega))⟩; clear hb HY; have HY := HZ; clear HZ)
          | (go_at_call 20; refine (same_any _ _ o.reverse _ (HVX.out _ HY.out.1 HY.out.2).2.2 (HVX.out _ HY.out.1 HY.out.2).2.1).mono ?_; rintro e z ⟨rfl, hb⟩; have HZ : Hid (KeepA wy z ∧ Below X0.heap.size wy z) := ⟨fun b cur t h a1 a2 a3 => ((hb.block b (lt_of_heap ((HY.out.1 b cur t h a1 a2 a3).trans h))).trans (HY.out.1 b cur t h a1 a2 a3)), HY.out.2.trans (hb.mono (by have := HY.out.2.size; have := HVS.out; have := HRV.out.bel.size; have := HSY.out; omega))⟩; clear hb HY; have HY := HZ; clear HZ)
          | (go_at_call 38; refine HL38.out.mono ?_; clear HL38; rintro e y ⟨rfl, hb, hk⟩; have HY : Hid (KeepA wy y ∧ Below X0.heap.size wy y) := ⟨hk, Below.trans (Below.drew (Below.refl _ _)) hb⟩; clear hb hk))
        go_wp2_with fail
        go_ret
        exact ⟨rfl, HVW.out.trans (HY.out.2.mono (by have := HVB.out.size; have := HRK.out; omega))⟩
end Go.Proofs.Ytmagigmcbegmiaa
