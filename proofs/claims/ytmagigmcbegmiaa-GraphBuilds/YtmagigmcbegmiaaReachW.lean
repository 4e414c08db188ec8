/- graph.Reach: the walk. -/
import Derived.Test.YtmagigmcbegmiaaRIter
import Derived.Test.YtmagigmcbegmiaaCont
import Derived.Test.YtmagigmcbegmiaaReachO
import Derived.Test.YtmagigmcbegmiaaChecksWalk
import Derived.Deep.RegionHeld3
import Derived.Laws.EntriesVeiled
import Derived.Deep.Draws
namespace Go.Proofs.Ytmagigmcbegmiaa
open Go.RowKit Go.Lib Go.Shelf
set_option linter.unusedVariables false
attribute [local go_sem] Oper.semAt_some
theorem Try.infoB : (Try.prog.info? 4).map (fun i => (i.zero, i.size, i.bytes)) = some (some (.bool false), 1, 1) := by kernel_rfl
theorem run_makeB (k : Nat) (hk : k ≤ 4194305) (w : World) :
    (Instr.makeSlice 38 (.int .i64 k) (.int .i64 k)).run Try.prog w = .ok (.slice (some ⟨w.heap.size, 0, none⟩) k k) (w.alloc (.cells (madeCells #[.bool false] k) 4)) := by
  obtain ⟨i0, hi, hz0, hz1, hz2⟩ := info_parts Try.infoB
  have h := run_make (P := Try.prog) w 38 4 i0 (.bool false) Try.underlying38 hi hz0 .i64 .i64 k k (by omega) (Int.le_refl _) (by rw [hz2]; omega) (by omega)
  rw [hz1] at h
  simp only [Int.toNat_natCast, Nat.mul_one] at h
  exact h
theorem made_bools (n : Nat) : madeCells #[.bool false] n = bCells (fls n) := by
  apply Array.ext'
  simp [madeCells, bCells, fls]
  apply List.ext_getElem
  · simp
  · intro i h1 h2
    simp [Nat.mod_one]
theorem fn_cell (w : World) (o1 o2 o3 : Obj) : ((((w.alloc o1).alloc o2).alloc o3).alloc (.cells #[.nilFunc] 92)).cell? ⟨w.heap.size + 1 + 1 + 1, 0, none⟩ = some .nilFunc ∧ ((((w.alloc o1).alloc o2).alloc o3).alloc (.cells #[.nilFunc] 92)).frozen? ⟨w.heap.size + 1 + 1 + 1, 0, none⟩ = false := by
  have h := heap_new (((w.alloc o1).alloc o2).alloc o3) (.cells #[.nilFunc] 92)
  rw [World.size_alloc, World.size_alloc, World.size_alloc] at h
  exact ⟨cell_of h rfl, free_of h 0⟩
def ReachW (w : World) (n : Nat) (st tl fr : List Int) (e : Ending) (w' : World) : Prop :=
  ∃ (R : Nat) (B : List Bool), e = .returned (.tuple #[.slice (some ⟨R, 0, none⟩) n n, .int .i64 0]) ∧ ArrB w' R B ∧ B.length = n ∧ (∀ u, u < n → (bAt B u = true ↔ Rch n st tl fr u)) ∧ Below w.heap.size w w'
theorem four_newR (w : World) (o1 o2 o3 o4 : Obj) : let x := (((w.alloc o1).alloc o2).alloc o3).alloc o4
    x.heap[w.heap.size]? = some o1 ∧ x.heap[w.heap.size + 1]? = some o2 ∧ x.heap[w.heap.size + 1 + 1]? = some o3 ∧ x.heap[w.heap.size + 1 + 1 + 1]? = some o4 ∧ Below w.heap.size w x ∧ x.heap.size = w.heap.size + 4 := by
  refine ⟨?_, ?_, ?_, ?_, below_alloc (below_alloc (below_alloc (below_alloc (Below.refl _ _) _) _) _) _, by simp⟩
  · exact (Below.heap_alloc _ _ _ (by first | (simp; done) | (simp; omega))).trans ((Below.heap_alloc _ _ _ (by first | (simp; done) | (simp; omega))).trans ((Below.heap_alloc _ _ _ (by first | (simp; done) | (simp; omega))).trans (heap_new _ _)))
  · have := heap_new (w.alloc o1) o2
    rw [World.size_alloc] at this
    exact (Below.heap_alloc _ _ _ (by first | (simp; done) | (simp; omega))).trans ((Below.heap_alloc _ _ _ (by first | (simp; done) | (simp; omega))).trans this)
  · have := heap_new ((w.alloc o1).alloc o2) o3
    rw [World.size_alloc, World.size_alloc] at this
    exact (Below.heap_alloc _ _ _ (by first | (simp; done) | (simp; omega))).trans this
  · have := heap_new (((w.alloc o1).alloc o2).alloc o3) o4
    rw [World.size_alloc, World.size_alloc, World.size_alloc] at this
    exact this
/-- Reach under way. -/
structure RL (w wr : World) (lo n : Nat) (ban : Nat → Prop) (va vb vc : Value) (st tl fr : List Int) (B : List Bool) (O : List Nat) (ov : Value) (v p i : Nat) : Prop where
  rm : RM wr lo lo (lo + 1) (lo + 1 + 1) ban n B O ov
  rx : RX w wr w.heap.size (lo + 1 + 1 + 1) (lo + 1) (lo + 1 + 1) n va vb vc
  rs : RS n st tl fr B O v p
  sum : O.length + unm B ≤ n
  frm : ∀ j u, j < i → at_ fr j = ((u : Nat) : Int) → bAt B u = true
  sz : lo + 4 ≤ wr.heap.size
  hlo : w.heap.size < lo
theorem RL.reach {w wr w' : World} {lo n : Nat} {ban : Nat → Prop} {va vb vc : Value} {st tl fr : List Int} {B : List Bool} {O : List Nat} {ov : Value} {v p i x : Nat} (h : RL w wr lo n ban va vb vc st tl fr B O ov v p i) (hx : x < n) (hr : Rch n st tl fr x)
    (h1 : ∃ ov, RM w' lo lo (lo + 1) (lo + 1 + 1) ban n (mkB B x) (mkO B O x) ov) (h2 : Chg (Tn wr lo ban) wr w') : ∃ ov', RL w w' lo n ban va vb vc st tl fr (mkB B x) (mkO B O x) ov' v p i := by
  obtain ⟨ov', h1⟩ := h1
  have hB : x < B.length := by rw [h.rs.len]; exact hx
  exact ⟨ov', h1, h.rx.chg h2 (Nat.le_of_lt h.hlo) (by have := h.sz; omega), h.rs.reach hx hr, by rw [mk_sum hB]; exact h.sum, fun j u hj hu => mkB_mono hB (h.frm j u hj hu), by have := h2.size; have := h.sz; omega, h.hlo⟩
theorem RL.call {w wr : World} {lo n : Nat} {ban : Nat → Prop} {va vb vc : Value} {st tl fr : List Int} {B : List Bool} {O : List Nat} {ov : Value} {v p i : Nat} (h : RL w wr lo n ban va vb vc st tl fr B O ov v p i) (hn : n ≤ 1048576) (x : Nat) (hx : x < n) (hb1 : ¬ ban lo) (hb2 : ¬ ban (lo + 1 + 1)) (hbl : ∀ k, ban k → k < wr.heap.size) :
    Calls Try.prog 50 #[.int .i64 x, .pointer (some ⟨lo + 1, 0, none⟩), .pointer (some ⟨lo + 1 + 1, 0, none⟩)] wr (RPost wr lo lo (lo + 1) (lo + 1 + 1) ban n (mkB B x) (mkO B O x)) :=
  reach_any n x lo lo (lo + 1) (lo + 1 + 1) ban B O ov wr h.rm hx h.rs.len hn h.sum (Nat.le_refl _) (by omega) hb1 hb2 hbl (by have := h.sz; omega)
theorem nil_or_last (O : List Nat) : O = [] ∨ ∃ O' v, O = O' ++ [v] := by
  rcases List.eq_nil_or_concat O with h | ⟨O', v, h⟩
  · exact .inl h
  · exact .inr ⟨O', v, by rw [h, List.concat_eq_append]⟩
theorem own_lt {w : World} {lo m : Nat} {v : Value} {xs : List Value} (h : w.ownsRow lo 3 1 v m xs) {g : Nat} (hg : v.ownBlock = some g) : g < w.heap.size := by
  obtain ⟨_, c, f, h2⟩ := own_type h hg
  exact lt_of_heap h2
theorem RL.pop {w wr : World} {lo n : Nat} {va vb vc : Value} {st tl wt fr : List Int} {B : List Bool} {O : List Nat} {v e1 i g c : Nat} (h : RL w wr lo n (fun _ => False) va vb vc st tl fr B (O ++ [v]) (.slice (some ⟨g, 0, none⟩) (O.length + 1) c) n 0 i) (hg : Good n st tl wt) (he : at_ st v = (e1 : Int))
    (ho : wr.ownsRow lo 3 1 (.slice (some ⟨g, 0, none⟩) O.length c) O.length (oCells O)) :
    RL w (wr.setCell ⟨lo + 1 + 1, 0, none⟩ (.slice (some ⟨g, 0, none⟩) O.length c)) lo n (fun _ => False) va vb vc st tl fr B O (.slice (some ⟨g, 0, none⟩) O.length c) v e1 i ∧ (wr.setCell ⟨lo + 1 + 1, 0, none⟩ (.slice (some ⟨g, 0, none⟩) O.length c)).heap.size = wr.heap.size ∧ Chg (Tn wr lo fun _ => False) wr (wr.setCell ⟨lo + 1 + 1, 0, none⟩ (.slice (some ⟨g, 0, none⟩) O.length c)) := by
  have hc : Chg (Tn wr lo fun _ => False) wr (wr.setCell ⟨lo + 1 + 1, 0, none⟩ (.slice (some ⟨g, 0, none⟩) O.length c)) := (Chg.refl _ _).setCell (p := ⟨lo + 1 + 1, 0, none⟩) ⟨fun h => h, by show lo ≤ lo + 1 + 1; omega, _, _, _, h.rm.bo, .inr (.inl rfl)⟩ _
  have hne : ∀ k, k ≠ lo + 1 + 1 → (wr.setCell ⟨lo + 1 + 1, 0, none⟩ (.slice (some ⟨g, 0, none⟩) O.length c)).heap[k]? = wr.heap[k]? := fun k hk => Below.heap_setCell _ _ _ _ (by exact hk)
  have hgo : g ≠ lo + 1 + 1 := by
    rintro rfl
    obtain ⟨_, c', f', h2⟩ := own_type ho (g := lo + 1 + 1) rfl
    rw [h.rm.bo] at h2
    simp at h2
  refine ⟨⟨⟨(hne _ (by omega)).trans h.rm.br, (hne _ (by omega)).trans h.rm.ab, by rw [heap_set h.rm.bo]; rfl, own_keepB ho (fun k hk => hne k (by simp [Value.ownBlock] at hk; omega)), fun g _ h => h⟩, h.rx.chg hc (Nat.le_of_lt h.hlo) (by have := h.sz; omega), h.rs.popLast hg he, by have := h.sum; simp at this; omega, h.frm, by simpa [World.setCell] using h.sz, h.hlo⟩, by simp [World.setCell], hc⟩
theorem MarksAt.chg {lo B : Nat} {w w' : World} {ban : Nat → Prop} {ds : List Deferred} (h : MarksAt B w ds) (hc : Chg (Tn w lo ban) w w') : MarksAt B w' ds :=
  h.kept fun D _ _ hD => hc.heap hD (fun ⟨_, _, c, t, f, he, _⟩ => by rw [hD] at he; cases he)
theorem RL.grown {w A A' : World} {lo n : Nat} {ban : Nat → Prop} {va vb vc : Value} {st tl fr : List Int} {B : List Bool} {O : List Nat} {ov : Value} {v p i : Nat} {row : Option Nat} (h : RL w A lo n ban va vb vc st tl fr B O ov v p i) (hg : A.grownBy A' row) (hr : ∀ r, row = some r → lo ≤ r ∧ ∃ o : Obj, A.heap[r]? = some o ∧ o.isCells = false) : RL w A' lo n ban va vb vc st tl fr B O ov v p i := by
  have k : ∀ r, row = some r → ∃ o : Obj, A.heap[r]? = some o ∧ o.isCells = false := fun r e => (hr r e).2
  refine ⟨⟨box_kept h.rm.br hg k, box_kept h.rm.ab hg k, box_kept h.rm.bo hg k, own_keepB h.rm.ow (fun g hgg => ?_), h.rm.bn⟩, ⟨box_kept h.rx.bg hg k, box_kept h.rx.bc hg k, h.rx.bel.grown hg h.rx.bel.size (fun j hj => by have := (hr j hj).1; have := h.hlo; omega)⟩, h.rs, h.sum, h.frm, by have := hg.size; have := h.sz; omega, h.hlo⟩
  obtain ⟨_, c, f, h2⟩ := own_type h.rm.ow hgg
  rw [box_kept h2 hg k, h2]
theorem RL.at_ {w A : World} {lo n : Nat} {ban : Nat → Prop} {va vb vc : Value} {st tl fr : List Int} {B : List Bool} {O : List Nat} {ov : Value} {v p p' i : Nat} (h : RL w A lo n ban va vb vc st tl fr B O ov v p i) (hp : RS n st tl fr B O v p') : RL w A lo n ban va vb vc st tl fr B O ov v p' i := ⟨h.rm, h.rx, hp, h.sum, h.frm, h.sz, h.hlo⟩
theorem MarksAt.grown {lo X : Nat} {A A' : World} {ds : List Deferred} {row : Option Nat} (h : MarksAt lo A ds) (hX : ∀ D, ({ target := .collected D, args := #[] } : Deferred) ∈ ds → D < X) (hg : A.grownBy A' row) (hr : ∀ r, row = some r → X ≤ r) : MarksAt lo A' ds :=
  h.kept fun D _ hm hD => (hg.block D (lt_of_heap hD) (fun e => by have := hr D e.symm; have := hX D hm; omega)).trans hD
set_option maxRecDepth 100000 in
set_option maxHeartbeats 8000000 in
theorem reach_good (n' n : Nat) (va vb vc : Value) (st tl wt : List Int) (fv : Value) (fr : List Int) (w : World) (hg : GIs w n va vb vc st tl wt) (hgd : Good n st tl wt) (hchk : (chk n st tl wt).1 = 0) (hf : RowAt .i64 w fv fr) (hfl : fr.length * 8 ≤ 140737488351232) (hall : ∀ i, i < fr.length → IsV n (at_ fr i)) :
    CallsIn Fence.wide n' Try.prog 18 #[gAgg n va vb vc, fv] w (ReachW w n st tl fr) := by
  obtain ⟨ao, ca, rfl⟩ := hg.s.shape
  obtain ⟨bo, cb, rfl⟩ := hg.t.shape
  obtain ⟨co, cc, rfl⟩ := hg.u.shape
  obtain ⟨fo, fc, rfl⟩ := hf.shape
  have hn := hgd.n_le
  have hml := hgd.m_le
  obtain ⟨⟨r1, r2⟩, hrr⟩ : ∃ r, chk n st tl wt = r := ⟨_, rfl⟩
  rw [hrr] at hchk
  simp only at hchk
  subst hchk
  have hck := (fun W h => check_all n (.slice ao st.length ca) (.slice bo tl.length cb) (.slice co wt.length cc) st tl wt W h (by have := hgd.s_len; omega) (by omega) (by have := hgd.w_len; omega))
  rw [hrr] at hck
  have HCK := hide hck
  obtain ⟨w1, hw1⟩ : ∃ w1, w1 = w.alloc (.cells #[.int .i64 n, .slice ao st.length ca, .slice bo tl.length cb, .slice co wt.length cc] 25) := ⟨_, rfl⟩
  have b1 : Below w.heap.size w w1 := by rw [hw1]; exact below_alloc (Below.refl _ _) _
  have hb1 : w1.heap[w.heap.size]? = some (.cells #[.int .i64 n, .slice ao st.length ca, .slice bo tl.length cb, .slice co wt.length cc] 25 (0, 0)) := by rw [hw1]; exact heap_new _ _
  have c0 := cell_of hb1 (i := 0) rfl
  have c1 := cell_of hb1 (i := 1) rfl
  have c2 := cell_of hb1 (i := 2) rfl
  have c3 := cell_of hb1 (i := 3) rfl
  have HB1 := hide b1
  have HX1 := hide hb1
  have HG := hide hg; have HF := hide hf; have HGD := hide hgd; have HALL := hide hall
  have hmk := run_makeB n (by omega)
  have HCT := hide (fun W (hX : W.heap[w.heap.size]? = some (.cells #[.int .i64 n, .slice ao st.length ca, .slice bo tl.length cb, .slice co wt.length cc] 25 (0, 0))) (hb : Below w.heap.size w W) => contains_any n _ _ _ w.heap.size (.slice fo fr.length fc) fr W hX (hf.below hb) hfl)
  rw [decide_eq_false (show ¬ 0 ≤ badIx n fr by have := badIx_neg.2 hall; omega)] at HCT
  unfold gAgg at HCK ⊢
  clear hg hf hgd hall hck hrr b1 hb1
  rw [hw1] at c0 c1 c2 c3
  refine callsIn_of_wp_marks Try.func18 rfl trivial ?_ rfl
  simp only [Try.ntmps18, List.size_toArray, List.length_cons, List.length_nil, Nat.reduceAdd, Nat.reduceSub, Array.replicate_succ, Array.replicate_zero, List.push_toArray, List.append_toArray, List.nil_append, List.cons_append]
  gi_wp2_with (first
    | (refine ⟨trivial, (fun h => by simp [Fence.wide] at h), ?_⟩; rw [← hw1]; refine (callsIn_wide.2 (HCK.out w1 (HG.out.below HB1.out))).mono ?_; rintro e9 w2 ⟨rfl, hb2⟩; have HB2 := hide (below_on HB1.out hb2); have HX2 : Hid (w2.heap[w.heap.size]? = _) := (hb2.block _ (lt_of_heap HX1.out)).trans HX1.out; clear hb2 c0 c1 c2 c3)
    | (refine ⟨trivial, (fun h => by simp [Fence.wide] at h), ?_⟩; refine (callsIn_wide.2 (HCT.out w2 HX2.out HB2.out)).mono ?_; rintro e9 w3 ⟨rfl, hb3⟩; have HB3 := hide (below_on HB2.out hb3); have HX3 : Hid (w3.heap[w.heap.size]? = _) := (hb3.block _ (lt_of_heap HX2.out)).trans HX2.out; have c0 := cell_of HX3.out (i := 0) rfl; obtain ⟨q0, q1⟩ := fn_cell w3 (.cells (madeCells #[.bool false] n) 4) (.cells #[.slice (some ⟨w3.heap.size, 0, none⟩) n n] 38) (.cells #[.slice none 0 0] 22); clear hb3))
  clear hw1 HCK HCT hmk
  obtain ⟨wA, hwA⟩ : ∃ wA, wA = (((w3.alloc (.cells (madeCells #[.bool false] n) 4)).alloc (.cells #[.slice (some ⟨w3.heap.size, 0, none⟩) n n] 38)).alloc (.cells #[.slice none 0 0] 22)).alloc (.cells #[.func (.func 50) #[] #[.pointer (some ⟨w3.heap.size + 1, 0, none⟩), .pointer (some ⟨w3.heap.size + 1 + 1, 0, none⟩)]] 92) := ⟨_, rfl⟩
  have hlo : w.heap.size < w3.heap.size := lt_of_heap HX3.out
  obtain ⟨n1, n2, n3, n4, n5, n6⟩ := four_newR w3 (.cells (madeCells #[.bool false] n) 4) (.cells #[.slice (some ⟨w3.heap.size, 0, none⟩) n n] 38) (.cells #[.slice none 0 0] 22) (.cells #[.func (.func 50) #[] #[.pointer (some ⟨w3.heap.size + 1, 0, none⟩), .pointer (some ⟨w3.heap.size + 1 + 1, 0, none⟩)]] 92)
  rw [← hwA] at n1 n2 n3 n4 n5 n6
  rw [made_bools] at n1
  have HRL : Hid (RL w wA w3.heap.size n (fun _ => False) (.slice ao st.length ca) (.slice bo tl.length cb) (.slice co wt.length cc) st tl fr (fls n) [] (.slice none 0 0) n 0 0) :=
    ⟨⟨n2, n1, n3, ⟨rfl, .inl ⟨rfl, rfl⟩⟩, fun g hg => by simp [Value.ownBlock] at hg⟩, ⟨(n5.block _ hlo).trans HX3.out, n4, below_on HB3.out n5⟩, RS.zero, by rw [unm_fls]; simp, fun j u hj => by omega, by omega, hlo⟩
  rw [← hwA]
  clear n1 n2 n3 n4 n5 n6 hwA q0 q1 c0 HX3 HB3 HX2 HB2 HX1 HB1
  generalize w3.heap.size = lo at hlo HRL ⊢
  have HFC := hide (fun W (h : Below w.heap.size w W) i (hi : i < fr.length) => (HF.out.below h).cellAt i hi)
  obtain ⟨L, hL⟩ : ∃ L, L = fr.length := ⟨_, rfl⟩
  have HAL : Hid (∀ i, i < L → ∃ u : Nat, at_ fr i = (u : Int) ∧ u < n ∧ Rch n st tl fr u) := fun i hi => by
    have h1 := HALL.out i (by omega)
    unfold IsV at h1
    exact ⟨(at_ fr i).toNat, by omega, by omega, Rch.start i _ (by omega) (by omega)⟩
  rw [← hL] at HFC hfl ⊢
  have HLL := hide hL
  clear HALL HF hL
  gi_loopw [32] (fun t wr => ∃ (i : Nat) (B : List Bool) (O : List Nat) (ov : Value), t = .int .i64 i ∧ i ≤ L ∧ Hid (RL w wr lo n (fun _ => False) (.slice ao st.length ca) (.slice bo tl.length cb) (.slice co wt.length cc) st tl fr B O ov n 0 i)) (fun t _ => L - (RowKit.intOf t).toNat)
  case atStart => exact ⟨0, _, _, _, rfl, Nat.zero_le _, HRL⟩
  case round =>
    obtain ⟨i, B, O, ov, rfl, hiL, HR⟩ := hrel
    clear HRL
    by_cases hlt : i < L
    · obtain ⟨g, o, c, hs, hc, d⟩ := HFC.out wr HR.out.rx.bel i hlt
      simp only [Value.slice.injEq, true_and] at hs
      obtain ⟨rfl, rfl⟩ := hs
      obtain ⟨u, hu, hun, hur⟩ := HAL.out i hlt
      rw [hu] at d
      have HU := hide hu; have HUR := hide hur
      have e0 := cell_of HR.out.rx.bc (i := 0) rfl
      have hli : (i : Int) < (L : Int) := by omega
      have HCL := hide (HR.out.call hn u hun (fun h => h) (fun h => h) (fun _ h => h.elim))
      clear hu hur hc
      gi_wp2_with (refine ⟨trivial, (fun h => by simp [Fence.wide] at h), ?_⟩; refine (callsIn_wide.2 HCL.out).mono ?_; rintro e9 w9 ⟨⟨v9, rfl⟩, hm9, hc9⟩; have HN := hide (HR.out.reach hun HUR.out hm9 hc9); clear hm9 hc9 HCL)
      obtain ⟨ov9, hR9⟩ := HN.out
      refine ⟨⟨i + 1, mkB B u, mkO B O u, ov9, by simp, by omega, ?_⟩, by simp [RowKit.intOf]; omega⟩
      refine ⟨hR9.rm, hR9.rx, hR9.rs, hR9.sum, fun j q hj hq => ?_, hR9.sz, hR9.hlo⟩
      rcases Nat.lt_or_ge j i with h | h
      · exact hR9.frm j q h hq
      · obtain rfl : j = i := by omega
        rw [HU.out] at hq
        obtain rfl : u = q := by omega
        exact mkB_at (by rw [HR.out.rs.len]; exact hun)
    · obtain rfl : L = i := by omega
      gi_wp2
      have HGS := hide (fun W (h : Below w.heap.size w W) i (hi : i < st.length) => (HG.out.s.below h).cellAt i hi)
      clear HFC HAL
      refine wpIn_loop (fun a' wr => ∃ (ds : List Deferred) (B : List Bool) (O : List Nat) (ov u13 u14 u40 u41 u42 u43 u44 u45 u46 u47 u48 u49 u50 u51 u52 u53 u54 u55 u56 u57 u58 u59 u60 u61 : Value), a' = { tmps := #[.agg #[.int .i64 n, .slice ao st.length ca, .slice bo tl.length cb, .slice co wt.length cc], .slice fo L fc, .pointer (some ⟨w.heap.size, 0, none⟩), undef, .slice none 0 0, .int .i64 0, .int .i64 0, .int .i64 r2, .pointer (some ⟨lo + 1, 0, none⟩), .pointer (some ⟨lo + 1 + 1, 0, none⟩), .pointer (some ⟨lo + 1 + 1 + 1, 0, none⟩), undef, u12, u13, u14, .tuple #[.int .i64 0, .int .i64 r2], .agg #[.int .i64 n, .slice ao st.length ca, .slice bo tl.length cb, .slice co wt.length cc], .tuple #[.int .i64 0, .int .i64 r2], .int .i64 0, .int .i64 r2, .int .i64 0, .bool false, undef, .slice fo L fc, .func (.func 48) #[] #[.pointer (some ⟨w.heap.size, 0, none⟩)], .bool false, .pointer (some ⟨w.heap.size, 0, none⟩), .int .i64 n, .slice (some ⟨lo, 0, none⟩) n n, .func (.func 50) #[] #[.pointer (some ⟨lo + 1, 0, none⟩), .pointer (some ⟨lo + 1 + 1, 0, none⟩)], .slice fo L fc, .int .i64 L, .int .i64 L, .bool false, u34, u35, u36, u37, u38, u39, u40, u41, u42, u43, u44, u45, u46, u47, u48, u49, u50, u51, u52, u53, u54, u55, u56, u57, u58, u59, u60, u61, undef], defers := ds } ∧ Hid (RL w wr lo n (fun _ => False) (.slice ao st.length ca) (.slice bo tl.length cb) (.slice co wt.length cc) st tl fr B O ov n 0 L ∧ MarksAt lo wr ds)) (fun _ wr => 2 * unmW wr lo + lenW wr (lo + 1 + 1)) ?start ?round
      case start => exact ⟨[], B, O, ov, _, _, _, _, _, _, _, _, _, _, _, _, _, _, _, _, _, _, _, _, _, _, _, _, rfl, HR.out, trivial⟩
      case round =>
        clear HR
        rintro _ wr ⟨ds, B, O, ov, u13, u14, u40, u41, u42, u43, u44, u45, u46, u47, u48, u49, u50, u51, u52, u53, u54, u55, u56, u57, u58, u59, u60, u61, rfl, HH⟩
        have HMU : Hid (2 * unmW wr lo + lenW wr (lo + 1 + 1) = 2 * unm B + O.length) := by unfold Hid; rw [unmW_eq HH.out.1.rm, lenW_eq HH.out.1.rm]
        rw [HMU.out]
        obtain ⟨ov1, ov2, hov⟩ := own_slice HH.out.1.rm.ow
        have f0 := free_of HH.out.1.rm.bo 0
        rcases nil_or_last O with rfl | ⟨O', v, rfl⟩
        · obtain rfl : ov = .slice ov1 0 ov2 := hov
          have e0 : wr.cell? ⟨lo + 1 + 1, 0, none⟩ = some (.slice ov1 0 ov2) := cell_of HH.out.1.rm.bo (i := 0) rfl
          have e1 := cell_of HH.out.1.rm.br (i := 0) rfl
          gi_wp2
          have hwh := HH.out.1.rs.whole HGD.out (fun j q hj hq => HH.out.1.frm j q (by rw [HLL.out]; exact hj) hq)
          refine leave_marks2 (B := lo) (J := fun (_ : Unit) W => ArrB W lo B ∧ Below w.heap.size w W) (s := ()) (v := .tuple #[.slice (some ⟨lo, 0, none⟩) n n, .int .i64 0]) (fun s X Y row hs gr hr => ⟨box_kept hs.1 gr (fun r h => (hr r h).2), hs.2.grown gr hs.2.size (fun j hj => by have := (hr j hj).1; omega)⟩) (fun W => ?res) (fun W hW => ⟨lo, B, rfl, hW.1, HH.out.1.rs.len, hwh, hW.2⟩) ds wr HH.out.2 ⟨HH.out.1.rm.ab, HH.out.1.rx.bel⟩
          exact results_tmp2 (show Try.f18.results = #[.tmp 4, .tmp 5] by kernel_rfl) _ _ _
        · have hOl : (O' ++ [v]).length = O'.length + 1 := by simp
          rw [hOl] at hov HMU ⊢
          subst hov
          have e0 : wr.cell? ⟨lo + 1 + 1, 0, none⟩ = some (.slice ov1 (O'.length + 1) ov2) := cell_of HH.out.1.rm.bo (i := 0) rfl
          obtain ⟨hvn, hvm⟩ := HH.out.1.rs.opn v (by simp)
          have hown := HH.out.1.rm.ow
          rw [hOl, show oCells (O' ++ [v]) = oCells O' ++ [.int .i64 (v : Int)] by simp [oCells]] at hown
          obtain ⟨g, rfl, hcap, ecell, hown'⟩ := own_last hown (by simp [oCells])
          obtain ⟨e1, he1⟩ : ∃ e1 : Nat, at_ st v = (e1 : Int) := ⟨(at_ st v).toNat, by have := (HGD.out.range v (by omega)).1; omega⟩
          obtain ⟨hP, hPs, hPc⟩ := HH.out.1.pop HGD.out he1 hown'
          obtain ⟨w1, hw1⟩ : ∃ w1, w1 = wr.setCell ⟨lo + 1 + 1, 0, none⟩ (.slice (some ⟨g, 0, none⟩) O'.length ov2) := ⟨_, rfl⟩
          have HMK := hide (HH.out.2.chg hPc)
          rw [← hw1] at hP hPs HMK
          have x0 := cell_of hP.rx.bg (i := 0) rfl
          have x1 := cell_of hP.rx.bg (i := 1) rfl
          have x2 := cell_of hP.rx.bg (i := 2) rfl
          have x3 := cell_of hP.rx.bg (i := 3) rfl
          have HP := hide hP; have HPS := hide hPs; have HVM := hide hvm; have HE1 := hide he1
          have hOi : (0 : Int) < (O'.length : Int) + 1 := by omega
          have hOb : O'.length < 10000000 := by have := HH.out.1.sum; rw [hOl] at this; omega
          rw [hw1] at x0 x1 x2 x3
          clear hP hPs hPc hvm hown hown' he1 HH hOl
          gi_wp2_with (refine ⟨trivial, (fun h => by simp [Fence.wide] at h), ?_⟩; rw [← hw1]; refine (row_any _ n _ _ _ v w1).mono ?_; rintro e9 w9 ⟨rfl, rfl⟩)
          obtain ⟨X, hX⟩ : ∃ X, X = (w1.alloc (.cells #[.int .i64 n, .slice ao st.length ca, .slice bo tl.length cb, .slice co wt.length cc] 25)).alloc (.cells #[.int .i64 (v : Int)] 3) := ⟨_, rfl⟩
          have bX : Below w1.heap.size w1 X := by rw [hX]; exact below_alloc (below_alloc (Below.refl _ _) _) _
          have sX : X.heap.size = wr.heap.size + 2 := by rw [hX]; have := HPS.out; simp; omega
          have y0 : X.heap[wr.heap.size]? = some (.cells #[.int .i64 n, .slice ao st.length ca, .slice bo tl.length cb, .slice co wt.length cc] 25 (0, 0)) := by
            rw [hX, ← HPS.out]; exact (Below.heap_alloc _ _ _ (by simp)).trans (heap_new _ _)
          have y1 : X.heap[wr.heap.size + 1]? = some (.cells #[.int .i64 (v : Int)] 3 (0, 0)) := by
            have := heap_new (w1.alloc (.cells #[.int .i64 n, .slice ao st.length ca, .slice bo tl.length cb, .slice co wt.length cc] 25)) (.cells #[.int .i64 (v : Int)] 3)
            rw [World.size_alloc, HPS.out] at this
            rw [hX]; exact this
          obtain ⟨m, hm⟩ : ∃ m : Nat, at_ st (v + 1) = ((e1 + m : Nat) : Int) := ⟨(at_ st (v + 1) - e1).toNat, by have := HGD.out.step v hvn; have := HE1.out; omega⟩
          have hme : e1 + m ≤ tl.length := by have := (HGD.out.range (v + 1) (by omega)).2; omega
          have hmk := HMK.out.kept (w' := X) fun D _ _ h => (bX.block _ (lt_of_heap h)).trans h
          have hwr4 : lo + 4 ≤ wr.heap.size := by have := HP.out.sz; have := HPS.out; omega
          have hlw : w.heap.size < lo := hlo
          have hRX : RL w X lo n (fun k => wr.heap.size ≤ k ∧ k < wr.heap.size + 4) (.slice ao st.length ca) (.slice bo tl.length cb) (.slice co wt.length cc) st tl fr B O' (.slice (some ⟨g, 0, none⟩) O'.length ov2) v e1 L := by
            have h := HP.out
            have hr := h.rm.reban (ban' := (fun k => wr.heap.size ≤ k ∧ k < wr.heap.size + 4)) (fun k hk => by have := HPS.out; omega)
            exact ⟨hr.below bX, h.rx.below bX, h.rs, h.sum, h.frm, by omega, h.hlo⟩
          have hgiv := row1_gives (fun k => w.heap.size ≤ k ∧ ¬ (wr.heap.size ≤ k ∧ k < wr.heap.size + 4)) n _ _ _ st tl wt v e1 m wr.heap.size (wr.heap.size + 1) w X HG.out HGD.out hvn HE1.out hm hme (below_on HP.out.rx.bel bX) (fun k hk => ⟨hk.1, fun e => hk.2 (by omega), fun e => hk.2 (by omega)⟩) y0 y1
          have HGV := hide hgiv
          have HRX := hide hRX
          have HMX := hide hmk
          have HSX := hide sX
          have HM := hide hm
          have HML : Hid (∀ D, ({ target := .collected D, args := #[] } : Deferred) ∈ ds → D < X.heap.size) := fun D hD => HMX.out.lt D hD
          rw [← hw1, ← hX]
          clear hgiv hRX hmk sX hm bX y0 y1 hX hw1 x0 x1 x2 x3 e0 f0 ecell
          refine rf_law (T := fun k => w.heap.size ≤ k ∧ ¬ (wr.heap.size ≤ k ∧ k < wr.heap.size + 4)) (gf := 84) (lb := #[.pointer (some ⟨wr.heap.size, 0, none⟩), .pointer (some ⟨wr.heap.size + 1, 0, none⟩)]) rfl (enters_of Try.func84 (by kernel_rfl) rfl) HGV.out (Below.refl _ _) ⟨fun h => h.2 (by have := HSX.out; omega), fun h => h.2 (by have := HSX.out; omega)⟩ (fun _ => rfl)
            (fun pre Z => ∃ (B1 : List Bool) (O1 : List Nat) (ov1 : Value), Hid (RL w Z lo n (fun k => wr.heap.size ≤ k ∧ k < wr.heap.size + 4) (.slice ao st.length ca) (.slice bo tl.length cb) (.slice co wt.length cc) st tl fr B1 O1 ov1 v (e1 + pre.length) L) ∧ Hid (MarksAt lo Z ds) ∧ bAt B1 v = true ∧ O1.length + unm B1 = O'.length + unm B ∧ unm B1 ≤ unm B)
            (fun pre A A' row hs hgr hr => by
              obtain ⟨B1, O1, ov1, h1, h2, h3, h4, h5⟩ := hs
              exact ⟨B1, O1, ov1, h1.out.grown hgr (fun r e => ⟨by have := (hr r e).1; have := HSX.out; omega, (hr r e).2⟩), h2.out.grown HML.out hgr (fun r e => (hr r e).1), h3, h4, h5⟩)
            ⟨B, O', _, HRX, HMX, HVM.out, rfl, Nat.le_refl _⟩
            (fun x a' _ => a' = { tmps := #[.agg #[.int .i64 n, .slice ao st.length ca, .slice bo tl.length cb, .slice co wt.length cc], .slice fo L fc, .pointer (some ⟨w.heap.size, 0, none⟩), undef, .slice none 0 0, .int .i64 0, .int .i64 0, .int .i64 r2, .pointer (some ⟨lo + 1, 0, none⟩), .pointer (some ⟨lo + 1 + 1, 0, none⟩), .pointer (some ⟨lo + 1 + 1 + 1, 0, none⟩), undef, u12, .int .i64 (v : Int), .int .i64 x.1, .tuple #[.int .i64 0, .int .i64 r2], .agg #[.int .i64 n, .slice ao st.length ca, .slice bo tl.length cb, .slice co wt.length cc], .tuple #[.int .i64 0, .int .i64 r2], .int .i64 0, .int .i64 r2, .int .i64 0, .bool false, undef, .slice fo L fc, .func (.func 48) #[] #[.pointer (some ⟨w.heap.size, 0, none⟩)], .bool false, .pointer (some ⟨w.heap.size, 0, none⟩), .int .i64 n, .slice (some ⟨lo, 0, none⟩) n n, .func (.func 50) #[] #[.pointer (some ⟨lo + 1, 0, none⟩), .pointer (some ⟨lo + 1 + 1, 0, none⟩)], .slice fo L fc, .int .i64 L, .int .i64 L, .bool false, u34, u35, u36, u37, u38, u39, .slice (some ⟨g, 0, none⟩) (O'.length + 1) ov2, .int .i64 ((O'.length : Int) + 1), .bool true, .slice (some ⟨g, 0, none⟩) (O'.length + 1) ov2, .slice (some ⟨g, 0, none⟩) (O'.length + 1) ov2, .int .i64 ((O'.length : Int) + 1), .int .i64 (O'.length : Int), .pointer (some ⟨g, O'.length, none⟩), .int .i64 (v : Int), .slice (some ⟨g, 0, none⟩) (O'.length + 1) ov2, .slice (some ⟨g, 0, none⟩) (O'.length + 1) ov2, .int .i64 ((O'.length : Int) + 1), .int .i64 (O'.length : Int), .slice (some ⟨g, 0, none⟩) O'.length ov2, .agg #[.int .i64 n, .slice ao st.length ca, .slice bo tl.length cb, .slice co wt.length cc], .int .i64 (v : Int), .func (.func 84) #[] #[.pointer (some ⟨wr.heap.size, 0, none⟩), .pointer (some ⟨wr.heap.size + 1, 0, none⟩)], .int .i64 x.1, .int .u64 x.2, u59, u60, u61, undef], defers := [] })
            (fun x a' _ A A' row hs hgr hr => hs) ?assign ?body ?done
          case assign =>
            rintro l2 pre x Z K hi hK
            dsimp only [encR]
            gi_wp2
            exact hK _ _ (Chg.refl _ _) hi rfl
          case body =>
            rintro l2 pre x a' Z hZs ⟨B1, O1, ov1, H1, H2, h3, h4, h5⟩ rfl hp
            obtain ⟨hpl, hpe, hxe⟩ := upto_at hp
            have hel : e1 + pre.length < tl.length := by omega
            obtain ⟨u, hu⟩ : ∃ u, u = tov tl (e1 + pre.length) := ⟨_, rfl⟩
            have hun : u < n := by rw [hu]; exact (tov_lt HGD.out hel).1
            obtain ⟨x1, x2⟩ := x
            have hx1 : x1 = (u : Int) := by have := congrArg Prod.fst hxe; simp only [rowAt] at this; rw [this, hu]; exact (tov_lt HGD.out hel).2
            subst hx1
            have e0 := cell_of H1.out.rx.bc (i := 0) rfl
            have HCL := hide (H1.out.call hn u hun (fun h => by omega) (fun h => by omega) (fun k hk => by have := HSX.out; omega))
            have HU := hide hu
            have HEL := hide hel
            simp only at e0 ⊢
            clear hxe hpe hp hu hel hZs
            gi_wp2_with (refine ⟨trivial, rfl, ?_⟩; refine (show CallsIn (Fence.wide.inRound l2) 0 Try.prog 50 _ Z _ from (callsIn_wide (n := 0)).2 HCL.out).mono ?_; rintro e9 w9 ⟨⟨v9, rfl⟩, hm9, hc9⟩; have HN := hide (H1.out.reach hun (by rw [HU.out]; exact H1.out.rs.goes hvn h3 HGD.out HEL.out (src_eq HGD.out hvn (by have := HE1.out; omega) (by have := HM.out; omega))) hm9 hc9); have HMK9 := hide (H2.out.chg hc9); have HC9 := hide hc9; clear hm9 hc9 HCL)
            obtain ⟨ov9, hR9⟩ := HN.out
            have hB1 : u < B1.length := by rw [H1.out.rs.len]; exact hun
            refine ⟨HC9.out.mono (fun k hk => ⟨by have := hk.2.1; omega, fun h => by have := hk.1; omega⟩), mkB B1 u, mkO B1 O1 u, ⟨ov9, ?_⟩, mkB_mono hB1 h3, by rw [mk_sum hB1]; exact h4, Nat.le_trans (mk_less hB1) h5⟩
            exact hR9.at_ (hR9.rs.next (by rw [← HU.out]; exact mkB_at hB1))
          case done =>
            rintro D Z hD ⟨B1, O1, ov1, H1, H2, h3, h4, h5⟩ hK
            rw [upto_len] at H1
            have hRS := H1.out.rs.rowEnd HGD.out HM.out
            have hm2 : MarksAt lo Z ({ target := .collected D, args := #[] } :: ds) := ⟨⟨D, rfl, by have := HSX.out; omega, hK, fun D' hD' => by have := HML.out D' hD'; omega⟩, H2.out⟩
            have hRL : RL w Z lo n (fun _ => False) (.slice ao st.length ca) (.slice bo tl.length cb) (.slice co wt.length cc) st tl fr B1 O1 ov1 n 0 L := ⟨⟨H1.out.rm.br, H1.out.rm.ab, H1.out.rm.bo, H1.out.rm.ow, fun _ _ h => h⟩, H1.out.rx, hRS, H1.out.sum, H1.out.frm, H1.out.sz, H1.out.hlo⟩
            have HF9 : Hid (RL w Z lo n (fun _ => False) (.slice ao st.length ca) (.slice bo tl.length cb) (.slice co wt.length cc) st tl fr B1 O1 ov1 n 0 L ∧ MarksAt lo Z ({ target := .collected D, args := #[] } :: ds)) := ⟨hRL, hm2⟩
            have HME : Hid (2 * unmW Z lo + lenW Z (lo + 1 + 1) < 2 * unm B + (O'.length + 1)) := by
              unfold Hid
              rw [unmW_eq hRL.rm, lenW_eq hRL.rm]
              omega
            clear hRL hm2 hRS H1 H2 hK
            gi_wp2
            exact ⟨⟨_, B1, O1, ov1, _, _, _, _, _, _, _, _, _, _, _, _, _, _, _, _, _, _, _, _, _, _, _, _, rfl, HF9⟩, HME.out⟩
end Go.Proofs.Ytmagigmcbegmiaa
