/- together. -/
import Derived.Test.YteblkbneghbcbaaTj
import Derived.Test.YteblkbneghbcbaaLfLw
import Derived.Test.YteblkbneghbcbaaBw
import Derived.Test.YteblkbneghbcbaaTrFl
import Derived.Test.YteblkbneghbcbaaGT2
import Derived.Test.YteblkbneghbcbaaRpR
import Derived.Deep.RegionHeld3
import Derived.Laws.EntriesVeiled
import Derived.Deep.Draws
namespace Go.Proofs.Yteblkbneghbcbaa
open Go.RowKit Go.Lib Go.Shelf
set_option linter.unusedVariables false
set_option linter.unusedSimpArgs false
attribute [local go_sem] Oper.semAt_some
theorem neg_cell (w4 : World) (o : Obj) : ((w4.alloc o).alloc (.cells #[.int .i64 (-1)] 3)).cell? ⟨w4.heap.size + 1, 0, none⟩ = some (.int .i64 (-1)) := by
  have := heap_new (w4.alloc o) (.cells #[.int .i64 (-1)] 3)
  rw [World.size_alloc] at this
  exact cell_of this rfl
/-- What together answers. -/
def TogW (w : World) (n : Nat) (E : Nat → Nat → Prop) (e : Ending) (w' : World) : Prop :=
  ∃ (A : Nat) (G : Nat → Int), e = .returned (.slice (some ⟨A, 0, none⟩) n n) ∧ Arr w' A (tab n G) ∧ w.heap.size ≤ A ∧ Below w.heap.size w w' ∧ (∀ v, v < n → ∃ f : Nat, G v = (f : Int) ∧ f < n) ∧ ∀ u v, u < n → v < n → (G u = G v ↔ Bo E u v)
/-- together under way: the suffix of left of so many is done. -/
structure TI (w4 W : World) (gb : Array Value) (n : Nat) (E : Nat → Nat → Prop) (L : List Nat) (Kb Gb A k : Nat) (G : Nat → Int) : Prop where
  bel : Below w4.heap.size w4 W
  kbx : W.heap[Kb]? = some (.cells gb 25 (0, 0))
  gbx : W.heap[Gb]? = some (.cells #[.slice (some ⟨A, 0, none⟩) n n] 22 (0, 0))
  arr : Arr W A (tab n G)
  gi : GI E n (L.drop (L.length - k)) G
  lo : w4.heap.size ≤ Kb ∧ w4.heap.size ≤ Gb ∧ w4.heap.size ≤ A ∧ A ≠ Kb ∧ A ≠ Gb
theorem TI.grown {w4 X Y : World} {gb : Array Value} {n : Nat} {E : Nat → Nat → Prop} {L : List Nat} {Kb Gb A k B : Nat} {G : Nat → Int} {row : Option Nat} (h : TI w4 X gb n E L Kb Gb A k G) (hg : X.grownBy Y row) (hr : ∀ r, row = some r → B ≤ r ∧ ∃ o : Obj, X.heap[r]? = some o ∧ o.isCells = false) (hB : w4.heap.size ≤ B) : TI w4 Y gb n E L Kb Gb A k G := by
  have k : ∀ r, row = some r → ∃ o : Obj, X.heap[r]? = some o ∧ o.isCells = false := fun r e => (hr r e).2
  exact ⟨h.bel.grown hg h.bel.size (fun j hj => by have := (hr j hj).1; omega), box_kept h.kbx hg k, box_kept h.gbx hg k, box_kept h.arr hg k, h.gi, h.lo⟩
/-- One more of left. -/
theorem TI.step {w4 W W' : World} {gb : Array Value} {n : Nat} {s t s' t' : Nat → Nat} {L : List Nat} {Kb Gb A k Fb f : Nat} {G : Nat → Int} (h : TI w4 W gb n (EE n s t) L Kb Gb A k G) (hc : Chg (fun k => k = A) W W') (he : TEnd n s' t' G f Gb A Fb W') (hfl : ∀ x y, EE n s' t' x y ↔ EE n s t y x) (hE : ∀ x y, EE n s t x y → x < n ∧ y < n)
    (hLv : Lv (EE n s t) L) (hnd : L.Nodup) (hall : ∀ v, v < n → v ∈ L) (hk : k < L.length) (hf : L[L.length - 1 - k]? = some f) : ∃ G', TI w4 W' gb n (EE n s t) L Kb Gb A (k + 1) G' := by
  obtain ⟨l1, l2, l3, l4, l5⟩ := h.lo
  obtain ⟨G', htm, hcase⟩ := he
  have hdrop : L.drop (L.length - (k + 1)) = f :: L.drop (L.length - k) := by
    rw [List.drop_eq_getElem_cons (by omega)]
    have e1 : L.length - (k + 1) + 1 = L.length - k := by omega
    rw [e1]
    congr 1
    have e2 : L.length - 1 - k = L.length - (k + 1) := by omega
    rw [e2, List.getElem?_eq_getElem (by omega)] at hf
    simpa using hf
  have hL : L = L.take (L.length - (k + 1)) ++ f :: L.drop (L.length - k) := by rw [← hdrop, List.take_append_drop]
  refine ⟨G', Chg.below h.bel hc (fun i hi => by omega) h.bel.size, hc.heap h.kbx (fun e => l4 e.symm), hc.heap h.gbx (fun e => l5 e.symm), htm.arr, ?_, h.lo⟩
  rw [hdrop]
  rcases hcase with ⟨h1, rfl⟩ | ⟨V, h1, h2, h3⟩
  · exact h.gi.skip h1
  · have e : (fun x y => EE n s' t' y x) = EE n s t := by funext x y; exact propext (hfl y x)
    rw [e] at h1
    exact GI.walk hE (by rw [← hL]; exact hLv) (by rw [← hL]; exact hnd) (fun v hv => by rw [← hL]; exact hall v hv) h.gi h1 h2 h3
set_option maxRecDepth 100000 in
set_option maxHeartbeats 8000000 in
theorem together_in (n' n : Nat) (va vb vc : Value) (st tl wt : List Int) (w : World) (hgi : GIs w n va vb vc st tl wt) (hg : Good n st tl wt) (hwn : ∀ e, 0 ≤ at_ wt e) :
    CallsIn Fence.wide n' Try.prog 40 #[gAgg n va vb vc] w (TogW w n (EE n (sN st) (tN tl))) := by
  obtain ⟨ao, ca, rfl⟩ := hgi.s.shape
  obtain ⟨bo, cb, rfl⟩ := hgi.t.shape
  obtain ⟨co, cc, rfl⟩ := hgi.u.shape
  have hn := hg.n_le
  obtain ⟨w1, hw1⟩ : ∃ w1, w1 = w.alloc (.cells #[.int .i64 n, .slice ao st.length ca, .slice bo tl.length cb, .slice co wt.length cc] 25) := ⟨_, rfl⟩
  have b1 : Below w.heap.size w w1 := by rw [hw1]; exact below_alloc (Below.refl _ _) _
  have hb1 : w1.heap[w.heap.size]? = some (.cells #[.int .i64 n, .slice ao st.length ca, .slice bo tl.length cb, .slice co wt.length cc] 25 (0, 0)) := by rw [hw1]; exact heap_new _ _
  have c0 := cell_of hb1 (i := 0) rfl
  have c1 := cell_of hb1 (i := 1) rfl
  have c2 := cell_of hb1 (i := 2) rfl
  have c3 := cell_of hb1 (i := 3) rfl
  have HLE := hide (leaving_any n _ _ _ st tl wt w1 (hgi.below b1) hg)
  have HTU := hide (fun W (h : Below w.heap.size w W) => turn_good n _ _ _ st tl wt W (hgi.below h) hg hwn)
  have HB1 := hide b1; have HX1 := hide hb1; have HGD := hide hg
  unfold gAgg at HLE HTU ⊢
  clear hgi hg b1 hb1 hwn
  rw [hw1] at c0 c1 c2 c3
  refine callsIn_of_wp_marks Try.func40 rfl trivial ?_ rfl
  simp only [Try.ntmps40, List.size_toArray, List.length_cons, List.length_nil, Nat.reduceAdd, Nat.reduceSub, Array.replicate_succ, Array.replicate_zero, List.push_toArray, List.append_toArray, List.nil_append, List.cons_append]
  gi_wp2_with (first
    | (refine ⟨trivial, (fun h => by simp [Fence.wide] at h), ?_⟩; rw [← hw1]; refine (callsIn_wide.2 HLE.out).mono ?_; rintro e9 w2 ⟨A1, L, rfl, hown2, hA1, hb2, hLv, hnd, hall, hlt⟩; have HB2 := hide (below_on HB1.out hb2); have HX2 : Hid (w2.heap[w.heap.size]? = _) := (hb2.block _ (lt_of_heap HX1.out)).trans HX1.out; have HL := hide (And.intro hLv (And.intro hnd (And.intro hall hlt))); have HO2 := hide hown2; clear hb2 c0 c1 c2 c3 hLv hnd hall hlt hown2 HLE; have c0 := cell_of HX2.out (i := 0) rfl; have c1 := cell_of HX2.out (i := 1) rfl; have c2 := cell_of HX2.out (i := 2) rfl; have c3 := cell_of HX2.out (i := 3) rfl)
    | (refine ⟨trivial, (fun h => by simp [Fence.wide] at h), ?_⟩; refine (callsIn_wide.2 (HTU.out w2 HB2.out)).mono ?_; rintro e9 w4 ⟨va4, vb4, vc4, st4, tl4, wt4, nx4, rfl, hgi4, hsum4, hlay4, hb4⟩; have HB4 := hide hb4; have HGI4 := hide hgi4; have HSL := hide (And.intro hsum4 hlay4); obtain ⟨ao4, ca4, rfl⟩ := hgi4.s.shape; obtain ⟨bo4, cb4, rfl⟩ := hgi4.t.shape; obtain ⟨co4, cc4, rfl⟩ := hgi4.u.shape; have q0 := cellAl (.cells #[.int .i64 (-1)] 3) (cellAl (.cells #[.int .i64 n, .slice ao4 st4.length ca4, .slice bo4 tl4.length cb4, .slice co4 wt4.length cc4] 25) (cell_of ((hb4.block _ (lt_of_heap HX2.out)).trans HX2.out) (i := 0) rfl)); have q1 := neg_cell w4 (.cells #[.int .i64 n, .slice ao4 st4.length ca4, .slice bo4 tl4.length cb4, .slice co4 wt4.length cc4] 25); clear hb4 hgi4 hsum4 hlay4 c0 c1 c2 c3 HTU; unfold gAgg)
    | (refine ⟨trivial, (fun h => by simp [Fence.wide] at h), ?_⟩; refine (callsIn_wide.2 (repI_all n (w4.heap.size + 1) hn _ q1)).mono ?_; rintro e9 w6 ⟨rfl, harr6, hb6⟩; have HA6 := hide harr6; have HB6 := hide hb6; clear harr6 hb6 q0 q1)
    | (refine ⟨trivial, (fun h => by simp [Fence.wide] at h), ?_⟩; refine (back_any _ (some ⟨A1, 0, none⟩) L.length n _).mono ?_; rintro e9 w7 ⟨rfl, hw7⟩)
    | fail)
  rw [← hw7]
  have hA6 : Arr w6 (w4.heap.size + 1 + 1) (tab n (fun _ => -1)) := by simpa using HA6.out
  have hlA := lt_of_heap hA6
  obtain ⟨o1, ho1⟩ : ∃ o1 : Obj, o1 = .cells #[.int .i64 n, .slice ao4 st4.length ca4, .slice bo4 tl4.length cb4, .slice co4 wt4.length cc4] 25 := ⟨_, rfl⟩
  have hk6 : w6.heap[w4.heap.size]? = some (.cells #[.int .i64 n, .slice ao4 st4.length ca4, .slice bo4 tl4.length cb4, .slice co4 wt4.length cc4] 25 (0, 0)) := (HB6.out.block _ (by simp; omega)).trans ((Below.heap_alloc _ _ _ (by simp)).trans (heap_new _ _))
  have hb46 : Below w4.heap.size w4 w6 := (below_alloc (below_alloc (Below.refl _ _) _) _).trans (HB6.out.mono (by simp; omega))
  have hb67 : Below w6.heap.size w6 w7 := by rw [hw7]; exact below_alloc (below_alloc (Below.refl _ _) _) _
  have hg7 : w7.heap[w6.heap.size]? = some (.cells #[.slice (some ⟨w4.heap.size + 1 + 1, 0, none⟩) n n] 22 (0, 0)) := by rw [hw7]; exact (Below.heap_alloc _ _ _ (by simp)).trans (heap_new _ _)
  have hs7 : w7.heap[w6.heap.size + 1]? = some (.cells #[.slice (some ⟨A1, 0, none⟩) L.length n] 22 (0, 0)) := by
    have := heap_new (w6.alloc (.cells #[.slice (some ⟨w4.heap.size + 1 + 1, 0, none⟩) n n] 22)) (.cells #[.slice (some ⟨A1, 0, none⟩) L.length n] 22)
    rw [World.size_alloc] at this
    rw [hw7]; exact this
  have hsz7 : w7.heap.size = w6.heap.size + 1 + 1 := by rw [hw7]; simp
  have hb47 : Below w4.heap.size w4 w7 := hb46.trans (hb67.mono hb46.size)
  have HTI : Hid (TI w4 w7 #[.int .i64 n, .slice ao4 st4.length ca4, .slice bo4 tl4.length cb4, .slice co4 wt4.length cc4] n (EE n (sN st) (tN tl)) L w4.heap.size w6.heap.size (w4.heap.size + 1 + 1) 0 (fun _ => -1)) :=
    ⟨hb47, (hb67.block _ (by omega)).trans hk6, hg7, (hb67.block _ hlA).trans hA6, by rw [Nat.sub_zero, List.drop_length]; exact GI.start _ _, by omega, by omega, by omega, by omega, by omega⟩
  obtain ⟨hgd4, hflip⟩ := flip_of HGD.out (F := tov tl) (T := src st n) (fun e he => rfl) (fun e he => rfl) HSL.out.1 HSL.out.2
  obtain ⟨hLv, hnd, hall, hlt⟩ := HL.out
  have hLn : L.length ≤ n := nodup_few n L hnd hlt
  have hro : RowAt .i64 w2 (.slice (some ⟨A1, 0, none⟩) L.length n) (nts L) := RowAt.of_owns (by rw [nts_length]; exact HO2.out)
  have hrX : ∀ X, Chg (fun k => k = w4.heap.size + 1 + 1) w7 X → RowAt .i64 X (.slice (some ⟨A1, 0, none⟩) L.length n) (nts L) := fun X hX => (hro.below HB4.out).below (Chg.below hb47 hX (fun i hi => by omega) hb47.size)
  have HGV := hide (back1_gives (fun k => k = w4.heap.size + 1 + 1) (nts L) L.length (w6.heap.size + 1) (some ⟨A1, 0, none⟩) n w7 (nts_length L).symm (by omega) hs7 (by omega) hrX)
  have HE : Hid (∀ x y, EE n (sN st) (tN tl) x y → x < n ∧ y < n) := fun x y h => ee_lt HGD.out h
  have HFL := hide hflip; have HG4 := hide hgd4
  have HB24 := hide (below_on HB2.out HB4.out)
  have HS := hide (And.intro hlA (And.intro hsz7 hb47))
  clear ho1 o1 hA6 hk6 hb46 hb67 hg7 hs7 hb47 hflip hgd4 hLv hnd hall hlt hro hrX hw7 hsz7 hlA HA6 HB6 HSL
  refine rf_law (T := fun k => k = w4.heap.size + 1 + 1) (gf := 94) (lb := #[.pointer (some ⟨w6.heap.size + 1, 0, none⟩)]) rfl (enters_of Try.func94 (by kernel_rfl) rfl) HGV.out (Below.refl _ _) ⟨by have := HS.out; omega, by have := HS.out; omega⟩ (fun _ => rfl)
    (fun pre Z => ∃ G : Nat → Int, Hid (TI w4 Z #[.int .i64 n, .slice ao4 st4.length ca4, .slice bo4 tl4.length cb4, .slice co4 wt4.length cc4] n (EE n (sN st) (tN tl)) L w4.heap.size w6.heap.size (w4.heap.size + 1 + 1) pre.length G) ∧ w7.heap.size ≤ Z.heap.size)
    (fun pre A A' row hs hgr hr => by
      obtain ⟨G, h1, h2⟩ := hs
      exact ⟨G, h1.out.grown hgr hr (by have := HS.out.2.2.size; omega), Nat.le_trans h2 hgr.size⟩)
    ⟨_, HTI, Nat.le_refl _⟩
    (fun x a' Z => ∃ Fb : Nat, a' = { tmps := #[.agg #[.int .i64 n, .slice ao st.length ca, .slice bo tl.length cb, .slice co wt.length cc], .pointer (some ⟨w.heap.size, 0, none⟩), .slice none 0 0, .slice (some ⟨A1, 0, none⟩) L.length n, .pointer (some ⟨w4.heap.size, 0, none⟩), .int .i64 0, .pointer (some ⟨w6.heap.size, 0, none⟩), undef, .pointer (some ⟨Fb, 0, none⟩), .agg #[.int .i64 n, .slice ao st.length ca, .slice bo tl.length cb, .slice co wt.length cc], .slice (some ⟨A1, 0, none⟩) L.length n, .tuple #[.agg #[.int .i64 n, .slice ao4 st4.length ca4, .slice bo4 tl4.length cb4, .slice co4 wt4.length cc4], .int .i64 0], .agg #[.int .i64 n, .slice ao st.length ca, .slice bo tl.length cb, .slice co wt.length cc], .tuple #[.agg #[.int .i64 n, .slice ao4 st4.length ca4, .slice bo4 tl4.length cb4, .slice co4 wt4.length cc4], .int .i64 0], .agg #[.int .i64 n, .slice ao4 st4.length ca4, .slice bo4 tl4.length cb4, .slice co4 wt4.length cc4], .int .i64 0, .slice (some ⟨w4.heap.size + 1, 0, none⟩) 1 1, .pointer (some ⟨w.heap.size, 0, none⟩), .int .i64 n, .slice (some ⟨w4.heap.size + 1 + 1, 0, none⟩) n n, .slice (some ⟨A1, 0, none⟩) L.length n, .func (.func 94) #[] #[.pointer (some ⟨w6.heap.size + 1, 0, none⟩)], .int .i64 x.1, .int .i64 x.2, undef, undef, undef, undef, undef], defers := [] } ∧ Z.heap[Fb]? = some (.cells #[.int .i64 x.2] 3 (0, 0)) ∧ w7.heap.size ≤ Fb)
    (fun x a' _ A A' row hs hgr hr => by
      obtain ⟨Fb, h1, h2, h3⟩ := hs
      exact ⟨Fb, h1, box_kept h2 hgr (fun r e => (hr r e).2), h3⟩) ?assign ?body ?done
  case assign =>
    rintro l2 pre x Z K ⟨G, H1, hZ1⟩ hK
    dsimp only [encB]
    gi_wp2
    have hb : Below Z.heap.size Z (Z.alloc (.cells #[.int .i64 x.2] 3)) := below_alloc (Below.refl _ _) _
    refine hK _ _ (Chg.of_below hb) ⟨G, ?_, Nat.le_trans hZ1 hb.size⟩ ⟨Z.heap.size, rfl, heap_new _ _, hZ1⟩
    have h1 := H1.out
    exact ⟨h1.bel.trans (hb.mono h1.bel.size), (hb.block _ (lt_of_heap h1.kbx)).trans h1.kbx, (hb.block _ (lt_of_heap h1.gbx)).trans h1.gbx, (hb.block _ (lt_of_heap h1.arr)).trans h1.arr, h1.gi, h1.lo⟩
  case body =>
    rintro l2 pre x a' Z hZs ⟨G, H1, hZ1⟩ ⟨Fb, rfl, hFb, hFlo⟩ hp
    obtain ⟨hpl, hpe, hxe⟩ := upto_at hp
    obtain ⟨k, hk⟩ : ∃ k, k = pre.length := ⟨_, rfl⟩
    rw [← hk] at hpl hxe H1
    obtain ⟨f, hf⟩ : ∃ f, L[L.length - 1 - k]? = some f := ⟨L[L.length - 1 - k]'(by omega), List.getElem?_eq_getElem (by omega)⟩
    have hfn : f < n := HL.out.2.2.2 f (List.mem_of_getElem? hf)
    obtain ⟨x1, x2⟩ := x
    have hx2 : x2 = (f : Int) := by
      have := congrArg Prod.snd hxe
      simp only [bwAt] at this
      rw [this, nts_length]
      unfold nts at_
      simp [hf]
    subst hx2
    have htm : TM n f w6.heap.size (w4.heap.size + 1 + 1) Fb Z G := ⟨H1.out.gbx, hFb, H1.out.arr, H1.out.lo.2.2.2.2, by have := HS.out; omega⟩
    have HCL := hide (back_walk (st := st4) (tl := tl4) (wt := wt4) htm (fun W hW => HGI4.out.below (Chg.below H1.out.bel hW (fun i hi => by omega) H1.out.bel.size)) HG4.out hfn)
    have y0 := cell_of H1.out.kbx (i := 0) rfl
    have y1 := cell_of H1.out.kbx (i := 1) rfl
    have y2 := cell_of H1.out.kbx (i := 2) rfl
    have y3 := cell_of H1.out.kbx (i := 3) rfl
    have y4 := cell_of hFb (i := 0) rfl
    have HF := hide hf; have HPL := hide hpl; have HKK := hide hk; have HFN := hide hfn; have HZ1 := hide hZ1
    simp only at y4 ⊢
    clear hxe hpe hp hZs hf hpl hk hfn hFb htm hZ1
    unfold gAgg at HCL
    gi_wp2_with (refine ⟨trivial, rfl, ?_⟩; refine (show CallsIn (Fence.wide.inRound l2) 0 Try.prog 64 _ Z _ from (callsIn_wide (n := 0)).2 HCL.out).mono ?_; rintro e9 w9 ⟨rfl, hc9, he9⟩; have HC9 := hide hc9; have HE9 := hide he9; clear hc9 he9 HCL)
    obtain ⟨G', hTI'⟩ := H1.out.step HC9.out HE9.out HFL.out HE.out HL.out.1 HL.out.2.1 HL.out.2.2.1 HPL.out HF.out
    rw [HKK.out] at hTI'
    exact ⟨HC9.out, ⟨G', hTI'⟩, Nat.le_trans HZ1.out HC9.out.size⟩
  case done =>
    rintro D Z hD ⟨G, H1, hZ1⟩ hK
    rw [upto_len] at H1
    have z0 := cell_of H1.out.gbx (i := 0) rfl
    have hgi := H1.out.gi
    rw [Nat.sub_self, List.drop_zero] at hgi
    obtain ⟨hg1, hg2⟩ := hgi.full HL.out.2.2.1
    have HG1 : Hid (∀ v, v < n → ∃ f : Nat, G v = (f : Int) ∧ f < n) := fun v hv => by obtain ⟨f, h1, h2⟩ := hg1 v hv; exact ⟨f, h1, HL.out.2.2.2 f h2⟩
    have HG2 := hide hg2
    clear hgi hg1 hg2
    gi_wp2
    refine leave_marks2 (B := w7.heap.size) (J := fun (_ : Unit) W => Arr W (w4.heap.size + 1 + 1) (tab n G) ∧ Below w4.heap.size w4 W) (s := ()) (v := .slice (some ⟨w4.heap.size + 1 + 1, 0, none⟩) n n) (fun s X Y row hs gr hr => ⟨box_kept hs.1 gr (fun r h => (hr r h).2), hs.2.grown gr hs.2.size (fun j hj => by have := (hr j hj).1; have := HS.out.2.2.size; omega)⟩) (fun W => ?res) (fun W hW => ⟨w4.heap.size + 1 + 1, G, rfl, hW.1, by have := HB24.out.size; omega, HB24.out.trans (hW.2.mono HB24.out.size), HG1.out, HG2.out⟩) _ Z ⟨⟨D, rfl, hD, hK, fun D' h => by simp at h⟩, trivial⟩ ⟨H1.out.arr, H1.out.bel⟩
    exact results_tmp (show Try.f40.results = #[.tmp 2] by kernel_rfl) _ _ _
theorem together_any (n : Nat) (va vb vc : Value) (st tl wt : List Int) (w : World) (hgi : GIs w n va vb vc st tl wt) (hg : Good n st tl wt) (hwn : ∀ e, 0 ≤ at_ wt e) :
    Calls Try.prog 40 #[gAgg n va vb vc] w (TogW w n (EE n (sN st) (tN tl))) := callsIn_wide.1 (together_in 0 n va vb vc st tl wt w hgi hg hwn)
end Go.Proofs.Yteblkbneghbcbaa
