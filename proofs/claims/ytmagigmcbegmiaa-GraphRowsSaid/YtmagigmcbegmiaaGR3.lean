/- graph.Row. -/
import Derived.Test.YtmagigmcbegmiaaGR2
namespace Go.Proofs.Ytmagigmcbegmiaa
open Go Go.RowKit Go.Lib
set_option linter.unusedVariables false
set_option linter.unusedSimpArgs false
/-- What Row has laid: its copy's struct, its rows. -/
structure RF (w Z : World) (b9 Bs m : Nat) (v1 v2 : Value) (ts us : List Int) : Prop where
  z : Z.heap[b9]? = some (.cells #[.int .i64 1, .slice (some ⟨Bs, 0, none⟩) 2 2, v1, v2] 25 (0, 0))
  s : Z.heap[Bs]? = some (.cells #[.int .i64 0, .int .i64 m] 3 (0, 0))
  t : Z.ownsRow w.heap.size 3 1 v1 m (ts.map (Value.int .i64))
  u : Z.ownsRow w.heap.size 48 1 v2 m (us.map (Value.int .u64))
  bel : Below w.heap.size w Z
  bs : w.heap.size ≤ Bs
theorem rf_set {w V : World} {b9 Bs m : Nat} {q0 q1 q2 q3 v1 v2 : Value} {ts us : List Int} (hz : V.heap[b9]? = some (.cells #[q0, q1, q2, q3] 25 (0, 0))) (hs : V.heap[Bs]? = some (.cells #[.int .i64 0, .int .i64 m] 3 (0, 0)))
    (ht : V.ownsRow w.heap.size 3 1 v1 m (ts.map (Value.int .i64))) (hu : V.ownsRow w.heap.size 48 1 v2 m (us.map (Value.int .u64))) (hb : Below w.heap.size w V) (h9 : w.heap.size ≤ b9) (hB : w.heap.size ≤ Bs) :
    RF w ((((V.setCell ⟨b9, 0, none⟩ (.int .i64 1)).setCell ⟨b9, 1, none⟩ (.slice (some ⟨Bs, 0, none⟩) 2 2)).setCell ⟨b9, 2, none⟩ v1).setCell ⟨b9, 3, none⟩ v2) b9 Bs m v1 v2 ts us := by
  obtain ⟨a, b, c, d, e⟩ := rowZ_end hz hs ht hu hb h9 _ rfl
  exact ⟨a, b, c, d, e, hB⟩
theorem up_al {X : World} {B e n : Nat} {v : Value} {cs : List Value} (o : Obj) (h : X.ownsRow B e 1 v n cs) : (X.alloc o).ownsRow B e 1 v n cs := up_owns (below_alloc (Below.refl _ _) _) h
theorem tgeW {wZ : World} {T m : Nat} (hz : wZ.heap[T]? = some (.cells #[.int .i64 0, .slice none 0 0, .slice none 0 0, .slice none 0 0] 25 (0, 0))) (h : m ≤ T) : m ≤ T := h
theorem keep4 {W x : World} {A T : Nat} {p0 p1 p2 p3 : Value} (hA : W.heap[A]? = some (.cells #[p0, p1, p2, p3] 25 (0, 0))) (h : Below W.heap.size W x) (hT : W.heap.size ≤ T) (v0 v1 v2 v3 : Value) :
    ((((x.setCell ⟨T, 0, none⟩ v0).setCell ⟨T, 1, none⟩ v1).setCell ⟨T, 2, none⟩ v2).setCell ⟨T, 3, none⟩ v3).cell? ⟨A, 2, none⟩ = some p2 ∧ ((((x.setCell ⟨T, 0, none⟩ v0).setCell ⟨T, 1, none⟩ v1).setCell ⟨T, 2, none⟩ v2).setCell ⟨T, 3, none⟩ v3).cell? ⟨A, 3, none⟩ = some p3 :=
  keep23 hA ((((h.setCell (p := ⟨T, 0, none⟩) hT _).setCell (p := ⟨T, 1, none⟩) hT _).setCell (p := ⟨T, 2, none⟩) hT _).setCell (p := ⟨T, 3, none⟩) hT _)
theorem heap_n0 (X : World) (o : Obj) : (X.alloc o).heap[X.heap.size]? = some o := World.alloc_heap_new X o
theorem heap_n1 (X : World) (o' o : Obj) : ((X.alloc o').alloc o).heap[X.heap.size + 1]? = some o := by
  have := World.alloc_heap_new (X.alloc o') o
  rwa [World.size_alloc] at this
theorem rf_a0 {w V : World} {b9 Bs m : Nat} {v1 v2 : Value} {ts us : List Int} (h9 : b9 = V.heap.size) (hs : V.heap[Bs]? = some (.cells #[.int .i64 0, .int .i64 m] 3 (0, 0)))
    (ht : V.ownsRow w.heap.size 3 1 v1 m (ts.map (Value.int .i64))) (hu : V.ownsRow w.heap.size 48 1 v2 m (us.map (Value.int .u64))) (hb : Below w.heap.size w V) (hB : w.heap.size ≤ Bs) :
    RF w (V.alloc (.cells #[.int .i64 1, .slice (some ⟨Bs, 0, none⟩) 2 2, v1, v2] 25)) b9 Bs m v1 v2 ts us := by
  subst h9
  exact ⟨heap_n0 _ _, up_alloc _ hs, up_al _ ht, up_al _ hu, below_alloc hb _, hB⟩
theorem rf_a1 {w V : World} {b9 Bs m : Nat} {v1 v2 : Value} {ts us : List Int} (h9 : b9 = V.heap.size) (hs : Bs = V.heap.size + 1)
    (ht : V.ownsRow w.heap.size 3 1 v1 m (ts.map (Value.int .i64))) (hu : V.ownsRow w.heap.size 48 1 v2 m (us.map (Value.int .u64))) (hb : Below w.heap.size w V) (hB : w.heap.size ≤ Bs) :
    RF w ((V.alloc (.cells #[.int .i64 1, .slice (some ⟨Bs, 0, none⟩) 2 2, v1, v2] 25)).alloc (.cells #[.int .i64 0, .int .i64 m] 3)) b9 Bs m v1 v2 ts us := by
  subst h9 hs
  exact ⟨up_alloc _ (heap_n0 _ _), heap_n1 _ _ _, up_al _ (up_al _ ht), up_al _ (up_al _ hu), below_alloc (below_alloc hb _) _, hB⟩
set_option maxRecDepth 100000 in
set_option maxHeartbeats 4000000 in
theorem Row_good (n M : Nat) (ao bo co : Option Addr) (ca cb cc : Nat) (st tl wt : List Int) (v e1 m : Nat) (w : World) (hg : GIs w n (.slice ao (n + 1) ca) (.slice bo M cb) (.slice co M cc) st tl wt) (hgd : Good n st tl wt) (hchk : (chk n st tl wt).1 = 0) (hM : M = tl.length) (hv : v < n) (h1 : at_ st v = (e1 : Int)) (h2 : at_ st (v + 1) = ((e1 + m : Nat) : Int)) (hm : e1 + m ≤ M) :
    Calls Try.prog 28 #[.agg #[.int .i64 n, .slice ao (n + 1) ca, .slice bo M cb, .slice co M cc], .int .i64 v] w fun e w' => ∃ Bg Bv Bs lo lc mo mc, e = .returned (.func (.func 84) #[] #[.pointer (some ⟨Bg, 0, none⟩), .pointer (some ⟨Bv, 0, none⟩)]) ∧ Alone w.heap.size Bg Bv Bs m (.slice lo m lc) (.slice mo m mc) ((tl.drop e1).take m) ((wt.drop e1).take m) w' ∧ Below w.heap.size w w' := by
  have hn := hgd.n_le
  have hml := hgd.m_le
  rw [← hM] at hml
  have hsl := hgd.s_len
  have hwl := hgd.w_len
  obtain ⟨ga, oa, ca', hsa, hca, hcm, hcell⟩ := hg.s.spot (by intro e; rw [e] at hsl; simp at hsl)
  simp only [Value.slice.injEq] at hsa
  obtain ⟨rfl, hsa2, rfl⟩ := hsa
  have hcan : n + 1 ≤ ca := by omega
  obtain ⟨⟨r1, r2⟩, hrr⟩ : ∃ r, chk n st tl wt = r := ⟨_, rfl⟩
  rw [hrr] at hchk
  simp only at hchk
  subst hchk
  have hck := (fun W h => check_all n (.slice (some ⟨ga, oa, none⟩) (n + 1) ca) (.slice bo M cb) (.slice co M cc) st tl wt W h (by omega) (by omega) (by omega))
  rw [hrr] at hck
  unfold gAgg at hck
  have HCK := hide hck
  have HG := hide hg
  have HIV := hide (fun W => isV_any n v W)
  rw [decide_eq_true (show IsV n v by unfold IsV; omega)] at HIV
  have hb0 : Below w.heap.size w (w.alloc (.cells #[.int .i64 n, .slice (some ⟨ga, oa, none⟩) (n + 1) ca, .slice bo M cb, .slice co M cc] 25)) := below_alloc (Below.refl _ _) _
  have hx0 := heap_new w (.cells #[.int .i64 n, .slice (some ⟨ga, oa, none⟩) (n + 1) ca, .slice bo M cb, .slice co M cc] 25)
  have HX0 := hide hx0
  have HB0 := hide hb0
  have c0 := cell_of hx0 (i := 0) rfl
  have c1 := cell_of hx0 (i := 1) rfl
  have c2 := cell_of hx0 (i := 2) rfl
  have c3 := cell_of hx0 (i := 3) rfl
  have hga : ga < w.heap.size := block_of_cell (hcell 0 (by omega))
  have HCE := hide (fun X (hX : Below w.heap.size w X) => (⟨by rw [← h1]; exact (below_cell hX hga).trans (hcell v (by omega)), by rw [← h2]; exact (below_cell hX hga).trans (hcell (v + 1) (by omega))⟩ : X.cell? ⟨ga, oa + v, none⟩ = some (.int .i64 (e1 : Int)) ∧ X.cell? ⟨ga, oa + (v + 1), none⟩ = some (.int .i64 ((e1 + m : Nat) : Int))))
  have hwk : IntKind.i64.wrap ((v : Int) + 1) = (v : Int) + 1 := IntWalk.i64_in _ (by omega)
  have HM := hide hM
  have HSL := hide hsl
  have HWL := hide hwl
  clear hg hck hrr hx0 hb0 hgd hcell h1 h2 hM hsl hwl hsa2 hca
  go_enter Try.func28, Try.ntmps28
  go_wp2_with fail
  generalize (w.alloc (.cells #[.int .i64 n, .slice (some ⟨ga, oa, none⟩) (n + 1) ca, .slice bo M cb, .slice co M cc] 25)) = w1 at c0 c1 c2 c3 HX0 HB0 ⊢
  refine (HCK.out w1 (HG.out.below HB0.out)).mono ?_
  rintro e w2 ⟨rfl, hb2⟩
  have HX2 := hide ((hb2.block _ (lt_of_heap HX0.out)).trans HX0.out)
  have HB2 := hide (below_on HB0.out hb2)
  clear c0 c1 c2 c3 HX0 HB0 hb2 HCK
  have c0 := cell_of HX2.out (i := 0) rfl
  have c1 := cell_of HX2.out (i := 1) rfl
  have c2 := cell_of HX2.out (i := 2) rfl
  have c3 := cell_of HX2.out (i := 3) rfl
  obtain ⟨d1, d2⟩ := HCE.out w2 HB2.out
  have hvn : (v : Int) < (n : Int) + 1 := by omega
  have hvn1 : (v : Int) + 1 < (n : Int) + 1 := by omega
  have hvN : v < n + 1 := by omega
  have hvN1 : v + 1 < n + 1 := by omega
  go_upto_region 4 with (go_at_call 49; refine (HIV.out _).mono ?_; rintro e w3 ⟨rfl, rfl⟩)
  go_quiet (fail)
  go_upto_region 5 with fail
  obtain ⟨W, hW⟩ : ∃ W, W = w3.drewN nq := ⟨_, rfl⟩
  have hBW : Below w.heap.size w W := by rw [hW]; exact below_drewN HB2.out _
  have hXW : W.heap[w.heap.size]? = some (.cells #[.int .i64 n, .slice (some ⟨ga, oa, none⟩) (n + 1) ca, .slice bo M cb, .slice co M cc] 25 (0, 0)) := by rw [hW]; exact HX2.out
  rw [← hW]
  clear hW HX2 HB2 c0 c1 c2 c3 d1 d2 HCE HIV hwk
  have HBW := hide hBW
  have HXW := hide hXW
  have c2 := cell_of hXW (i := 2) rfl
  have c3 := cell_of hXW (i := 3) rfl
  have hlt : w.heap.size < W.heap.size := lt_of_heap hXW
  have hmb : e1 + m ≤ cb := by
    obtain ⟨_, c', he, h1, _⟩ := HG.out.t
    simp only [Value.slice.injEq] at he
    omega
  have hmc : e1 + m ≤ cc := by
    obtain ⟨_, c', he, h1, _⟩ := HG.out.u
    simp only [Value.slice.injEq] at he
    omega
  have hs1 := part_run 22 Try.underlying22 (fun w => Try.sizeOf3 w) bo M cb e1 m hmb
  have hs2 := part_run 23 Try.underlying23 (fun w => Try.sizeOf48 w) co M cc e1 m hmc
  have hp1 := (HG.out.below hBW).t.part e1 m hm
  have hp2 := (HG.out.below hBW).u.part e1 m hm
  have hl1 : ((tl.drop e1).take m).length = m := by have := HM.out; simp; omega
  have hl2 : ((wt.drop e1).take m).length = m := by have := HM.out; have := HWL.out; simp; omega
  obtain ⟨lo1, hlo1⟩ : ∃ x, x = (if cb = e1 then bo else bo.map (·.add (e1 * 1))) := ⟨_, rfl⟩
  obtain ⟨lo2, hlo2⟩ : ∃ x, x = (if cc = e1 then co else co.map (·.add (e1 * 1))) := ⟨_, rfl⟩
  obtain ⟨k1, hk1⟩ : ∃ x, x = cb - e1 := ⟨_, rfl⟩
  obtain ⟨k2, hk2⟩ : ∃ x, x = cc - e1 := ⟨_, rfl⟩
  rw [← hlo1, ← hk1] at hs1 hp1
  rw [← hlo2, ← hk2] at hs2 hp2
  obtain ⟨ts, hts⟩ : ∃ x, x = (tl.drop e1).take m := ⟨_, rfl⟩
  obtain ⟨us, hus⟩ : ∃ x, x = (wt.drop e1).take m := ⟨_, rfl⟩
  rw [← hts] at hl1 hp1
  rw [← hus] at hl2 hp2
  have HTS := hide hts
  have HUS := hide hus
  have HC1 : Hid (∀ X, Below W.heap.size W X → Calls Try.prog 58 #[.slice lo1 m k1] X fun e w' => ∃ lo lc, e = .returned (.slice lo m lc) ∧ w'.ownsRow X.heap.size 3 1 (.slice lo m lc) m (ts.map (Value.int .i64)) ∧ Below X.heap.size X w') := fun X hX => by
    have := cloneIn_any lo1 k1 ts X (by rw [hl1]; exact hp1.below hX) (by omega)
    rw [hl1] at this
    exact this
  have HC2 : Hid (∀ X, Below W.heap.size W X → Calls Try.prog 59 #[.slice lo2 m k2] X fun e w' => ∃ lo lc, e = .returned (.slice lo m lc) ∧ w'.ownsRow X.heap.size 48 1 (.slice lo m lc) m (us.map (Value.int .u64)) ∧ Below X.heap.size X w') := fun X hX => by
    have := cloneUn_any lo2 k2 us X (by rw [hl2]; exact hp2.below hX) (by omega)
    rw [hl2] at this
    exact this
  have HL1 := hide hl1
  have HL2 := hide hl2
  have hwm : IntKind.i64.wrap ((e1 : Int) + (m : Int) - (e1 : Int)) = (m : Int) := by rw [show (e1 : Int) + (m : Int) - (e1 : Int) = (m : Int) by omega]; exact IntWalk.i64_in _ (by omega)
  clear hXW hBW hlo1 hlo2 hk1 hk2 hts hus hl1 hl2 hp1 hp2 HG hmb hmc
  have HR := hide (Below.refl W.heap.size W)
  go_cut [9] from 35 to 51 (fun s wx => ∃ b9 Bs lo3 lc3 lo4 lc4, s = .pointer (some ⟨b9, 0, none⟩) ∧ RF w wx b9 Bs m (.slice lo3 m lc3) (.slice lo4 m lc4) ts us)
  case first =>
    refine wp_region_noPanic ?_
    go_region_held3 (fun x => x.cell? ⟨w.heap.size, 2, none⟩ = some (.slice bo M cb) ∧ x.cell? ⟨w.heap.size, 3, none⟩ = some (.slice co M cc)) (first | (with_reducible exact k4 _ _ _ _) | (with_reducible exact k4a _ _ _ _ _) | go_keep | exact keep23 HXW.out (by repeat (first | exact HR.out | exact HB4.out | exact HB5.out | (with_reducible apply below_drew) | (with_reducible apply below_alloc))))
      (first
        | (go_at_call 58; refine (HC1.out _ (by repeat (first | exact HR.out | exact HB4.out | exact HB5.out | (with_reducible apply below_drew) | (with_reducible apply below_alloc)))).mono ?_; rintro e w4 ⟨lo3, lc3, rfl, ho3, hb4⟩; have HB4 := hide (below_on (show Below W.heap.size W _ from (by repeat (first | exact HR.out | exact HB4.out | exact HB5.out | (with_reducible apply below_drew) | (with_reducible apply below_alloc)))) hb4); have HS4 := hide hb4; have HO3 := hide (owns_low (show w.heap.size ≤ _ from Nat.le_trans (Nat.le_of_lt hlt) (Below.size (by repeat (first | exact HR.out | exact HB4.out | exact HB5.out | (with_reducible apply below_drew) | (with_reducible apply below_alloc))))) ho3); clear ho3 hb4; (try (have zB4 : w4.heap[W.heap.size]? = some (.cells #[.int .i64 0, .slice none 0 0, .slice none 0 0, .slice none 0 0] 25 (0, 0)) := up_bel HS4.out (by first | with_reducible exact HZ4.out | with_reducible exact up_drew (HZ4.out) | with_reducible exact up_alloc _ (HZ4.out) | with_reducible exact up_drew (up_alloc _ (HZ4.out)) | with_reducible exact heap_n0 _ _ | with_reducible exact up_drew (heap_n0 _ _) | with_reducible exact up_alloc _ (heap_n0 _ _) | with_reducible exact up_drew (up_alloc _ (heap_n0 _ _)) | with_reducible exact heap_n1 _ _ _ | with_reducible exact up_drew (heap_n1 _ _ _) | with_reducible exact up_alloc _ (heap_n1 _ _ _) | with_reducible exact up_drew (up_alloc _ (heap_n1 _ _ _))); have HZ4 := hide zB4; clear zB4)); (try (have zB4 : w4.heap[W.heap.size + 1]? = some (.cells #[.int .i64 0, .slice none 0 0, .slice none 0 0, .slice none 0 0] 25 (0, 0)) := up_bel HS4.out (by first | with_reducible exact HZ4.out | with_reducible exact up_drew (HZ4.out) | with_reducible exact up_alloc _ (HZ4.out) | with_reducible exact up_drew (up_alloc _ (HZ4.out)) | with_reducible exact heap_n0 _ _ | with_reducible exact up_drew (heap_n0 _ _) | with_reducible exact up_alloc _ (heap_n0 _ _) | with_reducible exact up_drew (up_alloc _ (heap_n0 _ _)) | with_reducible exact heap_n1 _ _ _ | with_reducible exact up_drew (heap_n1 _ _ _) | with_reducible exact up_alloc _ (heap_n1 _ _ _) | with_reducible exact up_drew (up_alloc _ (heap_n1 _ _ _))); have HZ4 := hide zB4; clear zB4)))
        | (go_at_call 59; refine (HC2.out _ (by repeat (first | exact HR.out | exact HB4.out | exact HB5.out | (with_reducible apply below_drew) | (with_reducible apply below_alloc)))).mono ?_; rintro e w5 ⟨lo4, lc4, rfl, ho4, hb5⟩; have HB5 := hide (below_on (show Below W.heap.size W _ from (by repeat (first | exact HR.out | exact HB4.out | exact HB5.out | (with_reducible apply below_drew) | (with_reducible apply below_alloc)))) hb5); have HS5 := hide hb5; have HO4 := hide (owns_low (show w.heap.size ≤ _ from Nat.le_trans (Nat.le_of_lt hlt) (Below.size (by repeat (first | exact HR.out | exact HB4.out | exact HB5.out | (with_reducible apply below_drew) | (with_reducible apply below_alloc))))) ho4); clear ho4 hb5; (try (have zB5 : w5.heap[W.heap.size]? = some (.cells #[.int .i64 0, .slice none 0 0, .slice none 0 0, .slice none 0 0] 25 (0, 0)) := up_bel HS5.out (by first | with_reducible exact HZ4.out | with_reducible exact up_drew (HZ4.out) | with_reducible exact up_alloc _ (HZ4.out) | with_reducible exact up_drew (up_alloc _ (HZ4.out)) | with_reducible exact heap_n0 _ _ | with_reducible exact up_drew (heap_n0 _ _) | with_reducible exact up_alloc _ (heap_n0 _ _) | with_reducible exact up_drew (up_alloc _ (heap_n0 _ _)) | with_reducible exact heap_n1 _ _ _ | with_reducible exact up_drew (heap_n1 _ _ _) | with_reducible exact up_alloc _ (heap_n1 _ _ _) | with_reducible exact up_drew (up_alloc _ (heap_n1 _ _ _))); have HZ5 := hide zB5; clear zB5)); (try (have zB5 : w5.heap[W.heap.size + 1]? = some (.cells #[.int .i64 0, .slice none 0 0, .slice none 0 0, .slice none 0 0] 25 (0, 0)) := up_bel HS5.out (by first | with_reducible exact HZ4.out | with_reducible exact up_drew (HZ4.out) | with_reducible exact up_alloc _ (HZ4.out) | with_reducible exact up_drew (up_alloc _ (HZ4.out)) | with_reducible exact heap_n0 _ _ | with_reducible exact up_drew (heap_n0 _ _) | with_reducible exact up_alloc _ (heap_n0 _ _) | with_reducible exact up_drew (up_alloc _ (heap_n0 _ _)) | with_reducible exact heap_n1 _ _ _ | with_reducible exact up_drew (heap_n1 _ _ _) | with_reducible exact up_alloc _ (heap_n1 _ _ _) | with_reducible exact up_drew (up_alloc _ (heap_n1 _ _ _))); have HZ5 := hide zB5; clear zB5)); (try (have zB5 : w5.heap[w4.heap.size]? = some (.cells #[.int .i64 0, .slice none 0 0, .slice none 0 0, .slice none 0 0] 25 (0, 0)) := up_bel HS5.out (by first | with_reducible exact HZ4.out | with_reducible exact up_drew (HZ4.out) | with_reducible exact up_alloc _ (HZ4.out) | with_reducible exact up_drew (up_alloc _ (HZ4.out)) | with_reducible exact heap_n0 _ _ | with_reducible exact up_drew (heap_n0 _ _) | with_reducible exact up_alloc _ (heap_n0 _ _) | with_reducible exact up_drew (up_alloc _ (heap_n0 _ _)) | with_reducible exact heap_n1 _ _ _ | with_reducible exact up_drew (heap_n1 _ _ _) | with_reducible exact up_alloc _ (heap_n1 _ _ _) | with_reducible exact up_drew (up_alloc _ (heap_n1 _ _ _))); have HZ5 := hide zB5; clear zB5)); (try (have zB5 : w5.heap[w4.heap.size + 1]? = some (.cells #[.int .i64 0, .slice none 0 0, .slice none 0 0, .slice none 0 0] 25 (0, 0)) := up_bel HS5.out (by first | with_reducible exact HZ4.out | with_reducible exact up_drew (HZ4.out) | with_reducible exact up_alloc _ (HZ4.out) | with_reducible exact up_drew (up_alloc _ (HZ4.out)) | with_reducible exact heap_n0 _ _ | with_reducible exact up_drew (heap_n0 _ _) | with_reducible exact up_alloc _ (heap_n0 _ _) | with_reducible exact up_drew (up_alloc _ (heap_n0 _ _)) | with_reducible exact heap_n1 _ _ _ | with_reducible exact up_drew (heap_n1 _ _ _) | with_reducible exact up_alloc _ (heap_n1 _ _ _) | with_reducible exact up_drew (up_alloc _ (heap_n1 _ _ _))); have HZ5 := hide zB5; clear zB5)); (first | (have hTG := tgeW (m := W.heap.size) HZ5.out (by first | exact Nat.le_refl _ | exact Nat.le_add_right _ _ | exact HB4.out.size | exact Nat.le_trans HB4.out.size (Nat.le_add_right _ _)); have HTG := hide hTG; have k4 := keep4 HXW.out HB5.out hTG; have k4a := fun o => keep4 HXW.out (below_alloc HB5.out o) hTG; have e0 := cell_of HZ5.out (i := 0) rfl; have q0 := free_of HZ5.out 0; have ea0 := fun o => cellAl o e0; have fa0 := fun o => free_of (up_alloc o HZ5.out) 0; have e1 := cell_of HZ5.out (i := 1) rfl; have q1 := free_of HZ5.out 1; have ea1 := fun o => cellAl o e1; have fa1 := fun o => free_of (up_alloc o HZ5.out) 1; have e2 := cell_of HZ5.out (i := 2) rfl; have q2 := free_of HZ5.out 2; have ea2 := fun o => cellAl o e2; have fa2 := fun o => free_of (up_alloc o HZ5.out) 2; have e3 := cell_of HZ5.out (i := 3) rfl; have q3 := free_of HZ5.out 3; have ea3 := fun o => cellAl o e3; have fa3 := fun o => free_of (up_alloc o HZ5.out) 3; clear hTG) | skip))
        | fail)
    all_goals
      refine NoPanic.normal ?_
      go_wp2
      go_meet
      case rel =>
        have hs4 := HB4.out.size
        have hs5 := HB5.out.size
        have h45 : Below w4.heap.size w4 w5 := below_on (show Below w4.heap.size w4 _ from (by repeat (first | exact Below.refl _ _ | (with_reducible apply below_alloc)))) HS5.out
        have ht5 := up_owns h45 HO3.out
        have hb5 := below_on HBW.out HB5.out
        first
          | (with_reducible exact ⟨_, _, _, _, _, _, rfl, rf_set HZ5.out (by first | (with_reducible exact up_bel HS5.out (up_bel HS4.out (up_drew (heap_n0 _ _)))) | (with_reducible exact up_bel HS5.out (up_alloc _ (up_bel HS4.out (up_drew (heap_n0 _ _))))) | (with_reducible exact up_bel HS5.out (up_bel HS4.out (up_drew (up_alloc _ (heap_n0 _ _))))) | (with_reducible exact up_bel HS5.out (up_alloc _ (up_bel HS4.out (up_drew (up_alloc _ (heap_n0 _ _)))))) | (with_reducible exact up_bel HS5.out (up_bel HS4.out (up_drew (heap_n1 _ _ _)))) | (with_reducible exact up_bel HS5.out (up_alloc _ (up_bel HS4.out (up_drew (heap_n1 _ _ _))))) | (with_reducible exact up_bel HS5.out (heap_n0 _ _)) | (with_reducible exact up_bel HS5.out (up_alloc _ (heap_n0 _ _))) | (with_reducible exact up_bel HS5.out (heap_n1 _ _ _))) ht5 HO4.out hb5 (by omega) (by omega)⟩)
          | (with_reducible exact ⟨_, _, _, _, _, _, rfl, rf_set (up_alloc _ HZ5.out) (by first | (with_reducible exact heap_n0 _ _) | (with_reducible exact up_alloc _ (up_bel HS5.out (up_bel HS4.out (up_drew (heap_n0 _ _))))) | (with_reducible exact up_alloc _ (up_bel HS5.out (up_alloc _ (up_bel HS4.out (up_drew (heap_n0 _ _)))))) | (with_reducible exact up_alloc _ (up_bel HS5.out (up_bel HS4.out (up_drew (up_alloc _ (heap_n0 _ _)))))) | (with_reducible exact up_alloc _ (up_bel HS5.out (up_alloc _ (up_bel HS4.out (up_drew (up_alloc _ (heap_n0 _ _))))))) | (with_reducible exact up_alloc _ (up_bel HS5.out (up_bel HS4.out (up_drew (heap_n1 _ _ _))))) | (with_reducible exact up_alloc _ (up_bel HS5.out (up_alloc _ (up_bel HS4.out (up_drew (heap_n1 _ _ _)))))) | (with_reducible exact up_alloc _ (up_bel HS5.out (heap_n0 _ _))) | (with_reducible exact up_alloc _ (up_bel HS5.out (up_alloc _ (heap_n0 _ _)))) | (with_reducible exact up_alloc _ (up_bel HS5.out (heap_n1 _ _ _)))) (up_al _ ht5) (up_al _ HO4.out) (below_alloc hb5 _) (by omega) (by omega)⟩)
          | (with_reducible exact ⟨_, _, _, _, _, _, rfl, rf_a0 rfl (by first | (with_reducible exact up_bel HS5.out (up_bel HS4.out (up_drew (heap_n0 _ _)))) | (with_reducible exact up_bel HS5.out (up_alloc _ (up_bel HS4.out (up_drew (heap_n0 _ _))))) | (with_reducible exact up_bel HS5.out (up_bel HS4.out (up_drew (up_alloc _ (heap_n0 _ _))))) | (with_reducible exact up_bel HS5.out (up_alloc _ (up_bel HS4.out (up_drew (up_alloc _ (heap_n0 _ _)))))) | (with_reducible exact up_bel HS5.out (up_bel HS4.out (up_drew (heap_n1 _ _ _)))) | (with_reducible exact up_bel HS5.out (up_alloc _ (up_bel HS4.out (up_drew (heap_n1 _ _ _))))) | (with_reducible exact up_bel HS5.out (heap_n0 _ _)) | (with_reducible exact up_bel HS5.out (up_alloc _ (heap_n0 _ _))) | (with_reducible exact up_bel HS5.out (heap_n1 _ _ _))) ht5 HO4.out hb5 (by omega)⟩)
          | (with_reducible exact ⟨_, _, _, _, _, _, rfl, rf_a0 (by simp) (by first | (with_reducible exact heap_n0 _ _) | (with_reducible exact up_alloc _ (up_bel HS5.out (up_bel HS4.out (up_drew (heap_n0 _ _))))) | (with_reducible exact up_alloc _ (up_bel HS5.out (up_alloc _ (up_bel HS4.out (up_drew (heap_n0 _ _)))))) | (with_reducible exact up_alloc _ (up_bel HS5.out (up_bel HS4.out (up_drew (up_alloc _ (heap_n0 _ _)))))) | (with_reducible exact up_alloc _ (up_bel HS5.out (up_alloc _ (up_bel HS4.out (up_drew (up_alloc _ (heap_n0 _ _))))))) | (with_reducible exact up_alloc _ (up_bel HS5.out (up_bel HS4.out (up_drew (heap_n1 _ _ _))))) | (with_reducible exact up_alloc _ (up_bel HS5.out (up_alloc _ (up_bel HS4.out (up_drew (heap_n1 _ _ _)))))) | (with_reducible exact up_alloc _ (up_bel HS5.out (heap_n0 _ _))) | (with_reducible exact up_alloc _ (up_bel HS5.out (up_alloc _ (heap_n0 _ _)))) | (with_reducible exact up_alloc _ (up_bel HS5.out (heap_n1 _ _ _)))) (up_al _ ht5) (up_al _ HO4.out) (below_alloc hb5 _) (by omega)⟩)
          | (with_reducible exact ⟨_, _, _, _, _, _, rfl, rf_a1 rfl rfl ht5 HO4.out hb5 (by omega)⟩)
  case rest =>
    obtain ⟨b9, Bs, lo3, lc3, lo4, lc4, rfl, hrf⟩ := hcut
    have HRF := hide hrf
    have z0 := cell_of hrf.z (i := 0) rfl
    have z1 := cell_of hrf.z (i := 1) rfl
    have z2 := cell_of hrf.z (i := 2) rfl
    have z3 := cell_of hrf.z (i := 3) rfl
    clear hrf c2 c3 hs1 hs2 hwm
    have HRW := hide (fun X => callsIn_wide.1 (row_any 0 1 (.slice (some ⟨Bs, 0, none⟩) 2 2) (.slice lo3 m lc3) (.slice lo4 m lc4) 0 X))
    unfold gAgg at HRW
    go_wp2_with (go_at_call 51; refine (HRW.out _).mono ?_; rintro e w6 ⟨rfl, hw6⟩; have HW6 := hide hw6; clear hw6)
    go_ret
    refine ⟨_, _, Bs, lo3, lc3, lo4, lc4, rfl, ?_, ?_⟩
    · rw [HW6.out, ← HTS.out, ← HUS.out]
      exact ⟨up_alloc _ (heap_n0 _ _), heap_n1 _ _ _, up_alloc _ (up_alloc _ HRF.out.s), up_al _ (up_al _ HRF.out.t), up_al _ (up_al _ HRF.out.u), HL1.out, HL2.out, HRF.out.bel.size, by have := HRF.out.bel.size; omega, HRF.out.bs⟩
    · rw [HW6.out]
      exact below_alloc (below_alloc HRF.out.bel _) _
end Go.Proofs.Ytmagigmcbegmiaa
