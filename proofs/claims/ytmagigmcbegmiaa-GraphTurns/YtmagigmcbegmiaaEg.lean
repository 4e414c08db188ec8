/- The document's edges and Turn. -/
import Derived.Test.YtmagigmcbegmiaaLa
import Derived.Test.YtmagigmcbegmiaaGT2
import Derived.Test.YtmagigmcbegmiaaChecksWalk
import Derived.Deep.AppendLies
import Derived.Deep.RegionHeld3
import Derived.Deep.Draws
import Derived.Deep.Cut
import Derived.BigRegion
import Derived.BigQuiet
namespace Go.Proofs.Ytmagigmcbegmiaa
open Go.RowKit Go.Lib
set_option linter.unusedVariables false
set_option linter.unusedSimpArgs false
theorem three_at (w : World) (x y z : Value) (t : TypeId) : ∀ j u, [x, y, z][j]? = some u → (w.alloc (.cells #[x, y, z] t)).cell? ((⟨w.heap.size, 0, none⟩ : Addr).add j) = some u := by
  intro j u hj
  have hh : (w.alloc (.cells #[x, y, z] t)).heap[w.heap.size]? = some (.cells #[x, y, z] t (0, 0)) := heap_new _ _
  rw [Addr.add_lit]
  match j, hj with
  | 0, hj => simp at hj; subst hj; exact cell_of hh rfl
  | 1, hj => simp at hj; subst hj; exact cell_of hh rfl
  | 2, hj => simp at hj; subst hj; exact cell_of hh rfl

theorem mdec {i n : Nat} (h : i < n) : n - (RowKit.intOf (.int .i64 ((i : Int) + 1))).toNat < n - (RowKit.intOf (.int .i64 (i : Int))).toNat := by simp [RowKit.intOf]; omega
theorem Try.info50 : (Try.prog.info? 50).map (fun i => (i.zero, i.size, i.bytes)) = some (some (.agg #[.int .i64 0, .int .i64 0, .int .u64 0]), 3, 24) := by kernel_rfl
theorem three_at' (w : World) (x y z : Value) (t : TypeId) : ∀ j u, [x, y, z][j]? = some u → (w.alloc (.cells #[x, y, z] t)).drew.cell? ((⟨w.heap.size, 0, none⟩ : Addr).add j) = some u := fun j u h => three_at w x y z t j u h
structure EG (w wr : World) (gb : Array Value) (cv : Value) (l : List Ed3) : Prop where
  bel : Below w.heap.size w wr
  box : wr.heap[w.heap.size]? = some (.cells gb 25 (0, 0))
  own : wr.ownsRow (w.heap.size + 1) 50 3 cv l.length (eCells l)
section
variable {w wr : World} {gb : Array Value} {cv : Value} {l : List Ed3}
theorem EG.own_lt (h : EG w wr gb cv l) : ∀ k, cv.ownBlock = some k → w.heap.size + 1 ≤ k ∧ k < wr.heap.size := fun k hk => World.ownsRow.lt h.own k hk
theorem EG.came (h : EG w wr gb cv l) {w1 : World} (h1 : Chg (fun _ => False) wr w1) {x : Ed3} {g cap : Nat} {w2 : World} (hown : w2.ownsRow (w.heap.size + 1) 50 3 (.slice (some ⟨g, 0, none⟩) (l.length + 1) cap) (l.length + 1) (eCells l ++ [.int .i64 x.1, .int .i64 x.2.1, .int .u64 x.2.2])) (hgrow : w1.grownBy w2 cv.ownBlock) :
    EG w w2 gb (.slice (some ⟨g, 0, none⟩) (l ++ [x]).length cap) (l ++ [x]) := by
  have hc : Chg (fun k => cv.ownBlock = some k) wr w2 := (h1.mono (fun _ h => h.elim)).grown hgrow (fun k hk => .inl hk)
  refine ⟨Chg.below h.bel hc (fun k hk => by have := h.own_lt k hk; omega) h.bel.size, hc.heap h.box (fun h3 => by have := h.own_lt _ h3; omega), ?_⟩
  rw [List.length_append, List.length_singleton, eCells_snoc]
  exact hown
end
set_option maxRecDepth 100000 in
set_option maxHeartbeats 8000000 in
theorem edges_any (n : Nat) (va vb vc : Value) (st tl wt : List Int) (w : World) (hgi : GIs w n va vb vc st tl wt) (hg : Good n st tl wt) :
    Calls Try.prog 97 #[gAgg n va vb vc] w fun e w' => ∃ cv, e = .returned cv ∧ w'.ownsRow (w.heap.size + 1) 50 3 cv tl.length (eCells (gEdges n st tl wt tl.length)) ∧ Below w.heap.size w w' := by
  obtain ⟨i0, hi, hz0, hz1, hz2⟩ := info_parts Try.info50
  have hnl := hg.n_le
  have hml := hg.m_le
  obtain ⟨ga, oa, ca, rfl, hca, _⟩ := hgi.s.cellAt 0 (by rw [hg.s_len]; omega)
  obtain ⟨bo, cb_, rfl⟩ := hgi.t.shape
  obtain ⟨co, cc_, rfl⟩ := hgi.u.shape
  have HG := hide hg; have HS := hide hgi.s; have HT := hide hgi.t; have HU := hide hgi.u
  obtain ⟨m, hm⟩ : ∃ m, m = tl.length := ⟨_, rfl⟩
  have HM := hide hm
  have hsl := hg.s_len
  have hwl := hg.w_len
  have hcb : m ≤ cb_ := by
    obtain ⟨_, _, he, h1, _⟩ := hgi.t
    simp only [Value.slice.injEq] at he
    obtain ⟨_, _, rfl⟩ := he
    omega
  have hcc : m ≤ cc_ := by
    obtain ⟨_, _, he, h1, _⟩ := hgi.u
    simp only [Value.slice.injEq] at he
    obtain ⟨_, _, rfl⟩ := he
    omega
  rw [hsl] at hca HS ⊢
  rw [hwl, ← hm] at HU ⊢
  rw [← hm] at hml HT
  have HCB := hide hcb; have HCA := hide hca; have HNL := hide hnl; have HML := hide hml; have HCC := hide hcc; have HWL := hide hwl
  clear hgi hg hm hsl hwl
  unfold gAgg
  have hbox := heap_new w (.cells #[.int .i64 n, .slice (some ⟨ga, oa, none⟩) (n + 1) ca, .slice bo m cb_, .slice co m cc_] 25)
  have c0 := cell_of hbox (i := 0) rfl
  have HB0 : Hid (Below w.heap.size w (w.alloc (.cells #[.int .i64 n, .slice (some ⟨ga, oa, none⟩) (n + 1) ca, .slice bo m cb_, .slice co m cc_] 25))) := below_alloc (Below.refl _ _) _
  have HBX := hide hbox
  clear hbox
  go_enter Try.func97, Try.ntmps97
  go_upto_region 1 with fail
  have HEG : Hid (EG w (w.alloc (.cells #[.int .i64 n, .slice (some ⟨ga, oa, none⟩) (n + 1) ca, .slice bo m cb_, .slice co m cc_] 25)) #[.int .i64 n, .slice (some ⟨ga, oa, none⟩) (n + 1) ca, .slice bo m cb_, .slice co m cc_] (.slice none 0 0) (gEdges n st tl wt 0)) := ⟨HB0.out, HBX.out, ⟨by simp [gEdges, eCells], .inl ⟨rfl, by simp [gEdges]⟩⟩⟩
  generalize (w.alloc (.cells #[.int .i64 n, .slice (some ⟨ga, oa, none⟩) (n + 1) ca, .slice bo m cb_, .slice co m cc_] 25)) = w1 at c0 HB0 HBX HEG ⊢
  go_wp2_with fail
  clear c0 HB0 HBX
  go_loopw [3, 4] (fun cv t wr => ∃ u : Nat, u ≤ n ∧ t = .int .i64 u ∧ ∃ q : Nat, at_ st u = (q : Int) ∧ EG w wr #[.int .i64 n, .slice (some ⟨ga, oa, none⟩) (n + 1) ca, .slice bo m cb_, .slice co m cc_] cv (gEdges n st tl wt q)) (fun _ t _ => n - (RowKit.intOf t).toNat)
  case atStart => exact ⟨0, Nat.zero_le _, rfl, 0, HG.out.zero, HEG.out⟩
  case round =>
    obtain ⟨u, hu, rfl, p, hp, hf⟩ := hrel
    have HFR := hide hf
    have c0 := cell_of hf.box (i := 0) rfl
    have c1 := cell_of hf.box (i := 1) rfl
    clear hf HEG
    by_cases hlt : u < n
    · obtain ⟨r, hr⟩ : ∃ r : Nat, at_ st (u + 1) = ((p + r : Nat) : Int) := ⟨(at_ st (u + 1)).toNat - p, by have := HG.out.step u hlt; have := HG.out.range (u + 1) (by omega); omega⟩
      have hpr : p + r ≤ m := by have := HG.out.range (u + 1) (by omega); have := HM.out; omega
      have HSRC : Hid (∀ j, j < r → src st n (p + j) = u) := fun j hj => src_eq HG.out hlt (by rw [hp]; omega) (by rw [hr]; omega)
      have HR_ := hide hr
      obtain ⟨ga2, oa2, ca2, he1, hca1, hx1⟩ := HS.out.cellAt u (by rw [HG.out.s_len]; omega)
      obtain ⟨ga3, oa3, ca3, he2, _, hx2⟩ := HS.out.cellAt (u + 1) (by rw [HG.out.s_len]; omega)
      simp only [Value.slice.injEq, Option.some.injEq, Addr.mk.injEq, and_true] at he1 he2
      obtain ⟨⟨rfl, rfl⟩, hq7, rfl⟩ := he1
      obtain ⟨⟨rfl, rfl⟩, hq8, rfl⟩ := he2
      rw [hp] at hx1
      rw [hr] at hx2
      have HX2 := hide hx2
      have s1 : wr.cell? ⟨ga, oa + u, none⟩ = some (.int .i64 (p : Int)) := (below_cell HFR.out.bel (block_of_cell hx1)).trans hx1
      have hua : (u : Int) < ca := by have := HCA.out; omega
      have hua1 : (u : Int) + 1 < ca := by have := HCA.out; omega
      have hu1 : (u : Int) + 1 ≤ 9223372036854775807 := by have := HNL.out; omega
      have HF2 : Hid (EG w wr #[.int .i64 n, .slice (some ⟨ga, oa, none⟩) (n + 1) ca, .slice bo m cb_, .slice co m cc_] u3 (gEdges n st tl wt (p + 0))) := HFR.out
      clear hq7 hq8 hca1 hp hr hx1 hx2 HFR
      go_wp2_with fail
      clear s1 c0 c1
      go_loopw [3, 5] (fun cv t wr => ∃ j : Nat, j ≤ r ∧ t = .int .i64 ((p + j : Nat) : Int) ∧ EG w wr #[.int .i64 n, .slice (some ⟨ga, oa, none⟩) (n + 1) ca, .slice bo m cb_, .slice co m cc_] cv (gEdges n st tl wt (p + j))) (fun _ t _ => p + r - (RowKit.intOf t).toNat)
      case atStart => exact ⟨0, Nat.zero_le _, rfl, HF2.out⟩
      case round =>
        obtain ⟨j, hj, rfl, hf⟩ := hrel
        have HFJ := hide hf
        have c1 := cell_of hf.box (i := 1) rfl
        have c2 := cell_of hf.box (i := 2) rfl
        have c3 := cell_of hf.box (i := 3) rfl
        clear hf HF2
        have s2 : wr.cell? ⟨ga, oa + (u + 1), none⟩ = some (.int .i64 ((p + r : Nat) : Int)) := (below_cell HFJ.out.bel (block_of_cell HX2.out)).trans HX2.out
        obtain ⟨e0, he0⟩ : ∃ e0 : Nat, e0 = p + j := ⟨_, rfl⟩
        obtain ⟨pr, hpr2⟩ : ∃ pr : Nat, pr = p + r := ⟨_, rfl⟩
        rw [← hpr2] at s2
        rw [← he0]
        by_cases hjr : j < r
        · have hpm : p + j < tl.length := by have := HM.out; omega
          obtain ⟨gs, os_, cs, he, _, hxw⟩ := HT.out.cellAt (p + j) hpm
          simp only [Value.slice.injEq] at he
          obtain ⟨rfl, hlen9, hcc2⟩ := he
          subst hcc2
          obtain ⟨gz, oz_, cz, he, _, hzw⟩ := HU.out.cellAt (p + j) (by rw [HWL.out]; exact hpm)
          simp only [Value.slice.injEq] at he
          obtain ⟨rfl, hlen8, hcc3⟩ := he
          subst hcc3
          rw [← he0] at hxw hzw
          obtain ⟨x2, hx2⟩ : ∃ x2, x2 = at_ tl e0 := ⟨_, rfl⟩
          obtain ⟨x3, hx3⟩ : ∃ x3, x3 = at_ wt e0 := ⟨_, rfl⟩
          rw [← hx2] at hxw
          rw [← hx3] at hzw
          have HKP : Hid (∀ W cv l, EG w W #[.int .i64 n, .slice (some ⟨ga, oa, none⟩) (n + 1) ca, .slice (some ⟨gs, os_, none⟩) m cb_, .slice (some ⟨gz, oz_, none⟩) m cc_] cv l → W.cell? ⟨w.heap.size, 2, none⟩ = some (.slice (some ⟨gs, os_, none⟩) m cb_) ∧ W.cell? ⟨w.heap.size, 3, none⟩ = some (.slice (some ⟨gz, oz_, none⟩) m cc_) ∧ W.cell? ⟨gs, os_ + e0, none⟩ = some (.int .i64 x2) ∧ W.cell? ⟨gz, oz_ + e0, none⟩ = some (.int .u64 x3)) := fun W cv l h => ⟨cell_of h.box rfl, cell_of h.box rfl, (below_cell h.bel (block_of_cell hxw)).trans hxw, (below_cell h.bel (block_of_cell hzw)).trans hzw⟩
          clear hxw hzw
          have HOWN : Hid (wr.ownsRow (w.heap.size + 1) 50 3 u3 e0 (eCells (gEdges n st tl wt e0))) := by have := HFJ.out.own; rw [gEdges_length, ← he0] at this; exact this
          have hsz : w.heap.size + 1 ≤ wr.heap.size := Nat.succ_le_of_lt (lt_of_heap HFJ.out.box)
          have HSTEP : Hid (gEdges n st tl wt (p + (j + 1)) = gEdges n st tl wt e0 ++ [((u : Int), x2, x3)]) := by
            rw [show p + (j + 1) = e0 + 1 by omega, gEdges_succ, ← hx2, ← hx3, he0, HSRC.out j hjr]; exact hide rfl
          have hem : (e0 : Int) + 1 ≤ 9223372036854775807 := by have := HML.out; omega
          have hec : (e0 : Int) < cb_ := by have := HCB.out; omega
          have hez : (e0 : Int) < cc_ := by have := HCC.out; omega
          have helt : (e0 : Int) < (pr : Int) := by omega
          have helt2 : e0 < pr := by omega
          have hem2 : e0 < m := by omega
          have HMS : Hid (p + r - (e0 + 1) < p + r - e0) := by show _ < _; omega
          have HE0 := hide he0
          have hfk := HFJ.out
          rw [← he0] at hfk
          have HFK := hide hfk
          clear hfk
          clear hlen9 hlen8 hpm he0 hpr2 hx2 hx3 HFJ
          go_upto_region 8 with fail
          have HEM := hide hem; have HSZ := hide hsz; have HEM2 := hide hem2
          have hS0 := HKP.out _ _ _ HFK.out
          clear c1 c2 c3 s2 hml hnl hca hcb hcc hem helt helt2 hec hez hua hua1 hu1 hpr hj hsz
          refine wp_region_noPanic ?_
          go_region_held3 (fun x => x.cell? ⟨w.heap.size, 2, none⟩ = some (.slice (some ⟨gs, os_, none⟩) m cb_) ∧ x.cell? ⟨w.heap.size, 3, none⟩ = some (.slice (some ⟨gz, oz_, none⟩) m cc_) ∧ x.cell? ⟨gs, os_ + e0, none⟩ = some (.int .i64 x2) ∧ x.cell? ⟨gz, oz_ + e0, none⟩ = some (.int .u64 x3)) (first | exact hS0 | exact hSn | go_keep) (first
            | (refine step_append_lies _ (by rfl) _ _ _ (by rfl) (w.heap.size + 1) 50 i0 (.agg #[.int .i64 0, .int .i64 0, .int .u64 0]) 3 24 Try.underlying45 hi hz0 hz1 hz2 rfl (by omega) u3 e0 (eCells (gEdges n st tl wt e0)) (by rfl) ((HOWN.out.alloc _).drew) ⟨wr.heap.size, 0, none⟩ 1 1 [.int .i64 (u : Int), .int .i64 x2, .int .u64 x3] (by rfl) (by rfl) (three_at' wr _ _ _ _) (by simp [Value.oneCell']) (by omega) (by unfold maxLen; have := HML.out; have := HEM2.out; omega) (by have := HML.out; have := HEM2.out; omega) (by have := HSZ.out; simp; omega) (wr.heap.size + 1) (by simp) ?_; intro g cap w2 hown hgrow hat hlt2; have HF8 := hide (HFK.out.came (x := ((u : Int), x2, x3)) (((Chg.refl _ wr).alloc (.cells #[.int .i64 (u : Int), .int .i64 x2, .int .u64 x3] 50)).drew) (by rw [gEdges_length]; exact hown) hgrow); have hSn := HKP.out _ _ _ HF8.out; clear hown hgrow hat hlt2)
            | fail)
          all_goals
            refine NoPanic.normal ?_
            have hem := HEM.out
            go_wp2_with fail
            refine ⟨⟨j + 1, Nat.succ_le_of_lt hjr, by have := HE0.out; go_num, ?_⟩, ?_⟩
            · rw [HSTEP.out]
              have := HF8.out
              rw [List.length_append, List.length_singleton, gEdges_length] at this
              exact this
            · have := HMS.out
              simp [RowKit.intOf]
              omega
        · have hjj : j = r := by omega
          have HFE : Hid (EG w wr #[.int .i64 n, .slice (some ⟨ga, oa, none⟩) (n + 1) ca, .slice bo m cb_, .slice co m cc_] u3 (gEdges n st tl wt (p + r))) := by have := HFJ.out; rw [hjj] at this; exact this
          have hd : decide ((e0 : Int) < (pr : Int)) = false := decide_eq_false (by omega)
          have hd2 : ¬ (e0 : Int) < (pr : Int) := by omega
          clear he0 hpr2 hjr hjj hj hpr
          go_wp2_with fail
          exact ⟨⟨u + 1, Nat.succ_le_of_lt hlt, by go_num, p + r, HR_.out, HFE.out⟩, mdec hlt⟩
    · have hun : n = u := by omega
      have hpm : p = m := by have := HG.out.last; rw [hun] at this; have := HM.out; omega
      rw [hpm] at HFR
      clear hun hp hu hpm
      go_wp2_with fail
      go_ret
      exact ⟨u3, rfl, by have := HFR.out.own; rw [gEdges_length] at this; exact this, HFR.out.bel⟩
def swE (x : Ed3) : Ed3 := (x.2.1, x.1, x.2.2)
/-- The first k are turned. -/
def swL (l : List Ed3) (k : Nat) : List Ed3 := (List.range l.length).map (fun i => if i < k then swE (eAt l i) else eAt l i)
theorem swL_length (l : List Ed3) (k : Nat) : (swL l k).length = l.length := by simp [swL]
theorem swL_at {l : List Ed3} {k i : Nat} (h : i < l.length) : eAt (swL l k) i = if i < k then swE (eAt l i) else eAt l i := by simp [swL, eAt, h]
theorem swL_zero (l : List Ed3) : swL l 0 = l := by
  apply List.ext_getElem
  · simp [swL]
  · intro i h1 h2; simp [swL, eAt, h2]
theorem swL_next {l : List Ed3} {k : Nat} (h : k < l.length) : (swL l k).set k (swE (eAt l k)) = swL l (k + 1) := by
  apply List.ext_getElem
  · simp [swL]
  · intro i h1 h2
    have hi : i < l.length := by simpa [swL] using h2
    rw [List.getElem_set]
    simp only [swL, List.getElem_map, List.getElem_range]
    by_cases e : k = i
    · subst e; rw [if_pos rfl, if_pos (by omega)]
    · rw [if_neg e]
      by_cases h3 : i < k
      · rw [if_pos h3, if_pos (by omega)]
      · rw [if_neg h3, if_neg (by omega)]
/-- A row of edges of one's own. -/
def EW (w : World) (g : Nat) (l : List Ed3) : Prop := ∃ cs, w.heap[g]? = some (.cells cs 50 (0, 0)) ∧ ∀ i, i < l.length → cs[i * 3]? = some (.int .i64 (eAt l i).1) ∧ cs[i * 3 + 1]? = some (.int .i64 (eAt l i).2.1) ∧ cs[i * 3 + 2]? = some (.int .u64 (eAt l i).2.2)
theorem EW.cells {w : World} {g : Nat} {l : List Ed3} (h : EW w g l) {i : Nat} (hi : i < l.length) : w.cell? ⟨g, i * 3, none⟩ = some (.int .i64 (eAt l i).1) ∧ w.cell? ⟨g, i * 3 + 1, none⟩ = some (.int .i64 (eAt l i).2.1) ∧ w.cell? ⟨g, i * 3 + 2, none⟩ = some (.int .u64 (eAt l i).2.2) := by
  obtain ⟨cs, h1, h2⟩ := h
  obtain ⟨a, b, c⟩ := h2 i hi
  exact ⟨cell_of h1 a, cell_of h1 b, cell_of h1 c⟩
theorem EW.free {w : World} {g : Nat} {l : List Ed3} (h : EW w g l) (i : Nat) : w.frozen? ⟨g, i, none⟩ = false := by
  obtain ⟨cs, h1, _⟩ := h
  exact free_of h1 i
theorem EW.put {w : World} {g : Nat} {l : List Ed3} (h : EW w g l) {i : Nat} (hi : i < l.length) (a b : Int) : EW ((w.setCell ⟨g, i * 3, none⟩ (.int .i64 a)).setCell ⟨g, i * 3 + 1, none⟩ (.int .i64 b)) g (l.set i (a, b, (eAt l i).2.2)) := by
  obtain ⟨cs, h1, h2⟩ := h
  refine ⟨_, heap_set (heap_set h1 _) _, fun j hj => ?_⟩
  rw [List.length_set] at hj
  have hsz : i * 3 + 2 < cs.size := by
    have := (h2 i hi).2.2
    exact (Array.getElem?_eq_some_iff.1 this).1
  by_cases e : j = i
  · subst e
    have ea : eAt (l.set j (a, b, (eAt l j).2.2)) j = (a, b, (eAt l j).2.2) := by simp [eAt, hj]
    rw [ea]
    refine ⟨?_, ?_, ?_⟩
    · rw [Array.getElem?_setIfInBounds_ne (by omega), Array.getElem?_setIfInBounds_self_of_lt (by omega)]
    · rw [Array.getElem?_setIfInBounds_self_of_lt (by simp; omega)]
    · rw [Array.getElem?_setIfInBounds_ne (by omega), Array.getElem?_setIfInBounds_ne (by omega)]
      exact (h2 j hj).2.2
  · have ea : eAt (l.set i (a, b, (eAt l i).2.2)) j = eAt l j := by
      unfold eAt; rw [List.getElem?_set_ne (fun h => e h.symm)]
    rw [ea]
    obtain ⟨p, q, r⟩ := h2 j hj
    refine ⟨?_, ?_, ?_⟩
    · rw [Array.getElem?_setIfInBounds_ne (by omega), Array.getElem?_setIfInBounds_ne (by omega)]; exact p
    · rw [Array.getElem?_setIfInBounds_ne (by omega), Array.getElem?_setIfInBounds_ne (by omega)]; exact q
    · rw [Array.getElem?_setIfInBounds_ne (by omega), Array.getElem?_setIfInBounds_ne (by omega)]; exact r
theorem EW.of_owns {w : World} {base g n c : Nat} {l : List Ed3} (h : w.ownsRow base 50 3 (.slice (some ⟨g, 0, none⟩) n c) l.length (eCells l)) : EW w g l ∧ l.length ≤ c ∧ c ≤ 9223372036854775807 ∧ base ≤ g ∧ n = l.length := by
  obtain ⟨h1, ⟨he, _⟩ | ⟨g', cap, cur, he, hg, hh, hnc, hcm, hcur, htake⟩⟩ := h
  · simp at he
  · simp only [Value.slice.injEq, Option.some.injEq, Addr.mk.injEq, and_true] at he
    obtain ⟨rfl, rfl, rfl⟩ := he
    refine ⟨⟨cur, hh, fun k hk => ?_⟩, hnc, hcm, hg, rfl⟩
    obtain ⟨p, q, r⟩ := eCells_at l k hk
    have hx : ∀ j, j < l.length * 3 → cur[j]? = (eCells l)[j]? := fun j hj => by
      have : (cur.toList.take (l.length * 3))[j]? = (eCells l)[j]? := by rw [htake]
      rw [List.getElem?_take_of_lt hj] at this
      rw [← this]; simp
    exact ⟨(hx _ (by omega)).trans p, (hx _ (by omega)).trans q, (hx _ (by omega)).trans r⟩
theorem EW.eat {w : World} {g c : Nat} {l : List Ed3} (h : EW w g l) (hc : l.length ≤ c) (hc2 : c ≤ 9223372036854775807) : EAt w (.slice (some ⟨g, 0, none⟩) l.length c) l := by
  refine ⟨_, c, rfl, hc, hc2, fun i hi => ⟨g, 0, rfl, ?_⟩⟩
  obtain ⟨p, q, r⟩ := h.cells hi
  rw [Nat.zero_add]
  exact ⟨p, q, r⟩

/-- A row of edges, none or of one's own from B on. -/
def ER (w : World) (v : Value) (l : List Ed3) (B : Nat) : Prop := (v = .slice none 0 0 ∧ l = []) ∨ ∃ g c, v = .slice (some ⟨g, 0, none⟩) l.length c ∧ l.length ≤ c ∧ c ≤ 9223372036854775807 ∧ B ≤ g ∧ EW w g l
theorem ER.of_owns {w : World} {B : Nat} {v : Value} {l : List Ed3} (h : w.ownsRow B 50 3 v l.length (eCells l)) : ER w v l B := by
  have h0 := h
  obtain ⟨h1, ⟨rfl, hl⟩ | ⟨g, cap, cur, rfl, _⟩⟩ := h
  · exact .inl ⟨rfl, List.length_eq_zero_iff.1 hl⟩
  · obtain ⟨a, b, c, d, _⟩ := EW.of_owns h0
    exact .inr ⟨g, cap, rfl, b, c, d, a⟩
theorem ER.eat {w : World} {B : Nat} {v : Value} {l : List Ed3} (h : ER w v l B) : EAt w v l := by
  rcases h with ⟨rfl, rfl⟩ | ⟨g, c, rfl, h1, h2, _, h3⟩
  · exact ⟨none, 0, rfl, Nat.le_refl _, by omega, fun i hi => by simp at hi⟩
  · exact h3.eat h1 h2
theorem MT.far {w x : World} {N : Int} {va vb vc : Value} (h : MT w x N va vb vc) {g i : Nat} (hg : w.heap.size + 1 < g) (v : Value) : MT w (x.setCell ⟨g, i, none⟩ v) N va vb vc :=
  ⟨(Below.heap_setCell _ _ _ _ (by show _ ≠ g; omega)).trans h.bg, (Below.heap_setCell _ _ _ _ (by show _ ≠ g; omega)).trans h.rs, h.bel.setCell (p := ⟨g, i, none⟩) (by show _ ≤ g; omega) v⟩
theorem EW.drew {w : World} {g : Nat} {l : List Ed3} (h : EW w g l) : EW w.drew g l := h

theorem Try.results79 : Try.f79.results = #[.cell 2 25, .tmp 3] := by kernel_rfl
def TurnR (w : World) (n : Nat) (st tl wt : List Int) (e : Ending) (w' : World) : Prop :=
  ∃ va vb vc st' tl' wt' nx L, e = .returned (.tuple #[gAgg n va vb vc, .int .i64 0]) ∧ GIs w' n va vb vc st' tl' wt' ∧ L = swL (gEdges n st tl wt tl.length) tl.length ∧ Summed n tl.length (eFrom L) n st' ∧ Laying n tl.length (eFrom L) (eTo L) (eWt L) tl.length nx tl' wt' ∧ Below w.heap.size w w'
theorem sw_takes {n : Nat} {st tl wt : List Int} (hg : Good n st tl wt) (hw : ∀ e, 0 ≤ at_ wt e) : Takes n (swL (gEdges n st tl wt tl.length) tl.length) := by
  have hl : (swL (gEdges n st tl wt tl.length) tl.length).length = tl.length := by rw [swL_length, gEdges_length]
  have ha : ∀ i, i < tl.length → eAt (swL (gEdges n st tl wt tl.length) tl.length) i = (at_ tl i, (src st n i : Int), at_ wt i) := fun i hi => by
    rw [swL_at (by rw [gEdges_length]; exact hi), if_pos hi, gEdges_at hi]; rfl
  refine ⟨hg.n_le, by rw [hl]; exact hg.m_le, fun i hi => ?_, fun i hi => ?_, fun i hi => ?_⟩
  · rw [hl] at hi; rw [ha i hi]; have := hg.vtx i hi; exact ⟨this.1, this.2.1⟩
  · rw [hl] at hi; rw [ha i hi]; have := src_lt hg hi; exact ⟨by simp, by simp; omega⟩
  · rw [hl] at hi; rw [ha i hi]; have := hg.vtx i hi; exact ⟨hw i, this.2.2⟩
set_option maxRecDepth 100000 in
set_option maxHeartbeats 8000000 in
theorem turnR_any (n : Nat) (va vb vc : Value) (st tl wt : List Int) (w : World) (hgi : GIs w n va vb vc st tl wt) (hg : Good n st tl wt) (hw : ∀ e, 0 ≤ at_ wt e) :
    Calls Try.prog 79 #[gAgg n va vb vc] w (TurnR w n st tl wt) := by
  have hml := hg.m_le
  have hchk := good_chk' hg
  obtain ⟨⟨r1, r2⟩, hrr⟩ : ∃ r, chk n st tl wt = r := ⟨_, rfl⟩
  rw [hrr] at hchk
  simp only at hchk
  subst hchk
  have hck := (fun W h => refCheck_all n va vb vc st tl wt W h (by have := hg.s_len; have := hg.n_le; omega) (by omega) (by have := hg.w_len; omega))
  unfold ChkPost at hck
  rw [hrr] at hck
  have HCK := hide hck
  have HGI := hide hgi; have HG := hide hg; have HW := hide hw
  have hmt := MT.start w n va vb vc
  have HMT := hide hmt
  have c0 := cell_of hmt.bg (i := 0) rfl
  have c1 := cell_of hmt.bg (i := 1) rfl
  have c2 := cell_of hmt.bg (i := 2) rfl
  have c3 := cell_of hmt.bg (i := 3) rfl
  have HTK := hide (sw_takes hg hw)
  unfold gAgg at HCK ⊢
  clear hgi hg hw hck hrr hmt
  go_enter Try.func79, Try.ntmps79
  go_upto_region 1 with fail
  generalize (w.alloc (.cells #[.int .i64 n, va, vb, vc] 25)).alloc (.cells #[.int .i64 0, .slice none 0 0, .slice none 0 0, .slice none 0 0] 25) = w1 at HMT c0 c1 c2 c3 ⊢
  go_wp2_with fail
  refine (HCK.out w1 (HGI.out.below HMT.out.bel)).mono ?_
  rintro e w2 ⟨rfl, hb2⟩
  have HM2 := hide (HMT.out.below hb2)
  clear hb2 HMT c0 c1 c2 c3 HCK
  have c0 := cell_of HM2.out.bg (i := 0) rfl
  have c1 := cell_of HM2.out.bg (i := 1) rfl
  have c2 := cell_of HM2.out.bg (i := 2) rfl
  have c3 := cell_of HM2.out.bg (i := 3) rfl
  have HED := hide (edges_any n va vb vc st tl wt w2 (HGI.out.below HM2.out.bel) HG.out)
  unfold gAgg at HED
  go_wp2_with fail
  refine HED.out.mono ?_
  rintro e w3 ⟨cv, rfl, hown, hb3⟩
  have HM3 := hide (HM2.out.below hb3)
  have HOW := hide hown
  have HLT : Hid (w.heap.size + 1 < w2.heap.size) := lt_of_heap HM2.out.rs
  obtain ⟨m, hm⟩ : ∃ m, m = tl.length := ⟨_, rfl⟩
  have HM := hide hm
  rw [← hm] at hml HOW HTK
  clear hown hb3 HM2 HED c0 c1 c2 c3 hm
  obtain ⟨L, hL⟩ : ∃ L, L = gEdges n st tl wt m := ⟨_, rfl⟩
  have hLl : L.length = m := by rw [hL, gEdges_length]
  have HL := hide hL; have HLL := hide hLl
  rw [← hL] at HOW HTK
  rw [show m = L.length from hLl.symm] at HOW
  have HER : Hid (ER w3 cv (swL L 0) (w2.heap.size + 1)) := by rw [swL_zero]; exact hide (ER.of_owns HOW.out)
  obtain ⟨ao, c, rfl⟩ : ∃ ao c, cv = .slice ao m c := by
    rcases HER.out with ⟨rfl, h⟩ | ⟨g, c, rfl, _⟩
    · have : (swL L 0).length = 0 := by rw [h]; rfl
      rw [swL_length, hLl] at this
      rw [this]; exact ⟨_, _, rfl⟩
    · rw [swL_length, hLl]; exact ⟨_, _, rfl⟩
  generalize w2.heap.size = B at HLT HER
  clear HOW hL hLl
  go_wp2_with fail
  go_loopw [7] (fun t wr => ∃ i : Nat, i ≤ m ∧ t = .int .i64 i ∧ MT w wr n va vb vc ∧ ER wr (.slice ao m c) (swL L i) (B + 1)) (fun t _ => m - (RowKit.intOf t).toNat)
  case atStart => exact ⟨0, Nat.zero_le _, rfl, HM3.out, HER.out⟩
  case round =>
    obtain ⟨i, hi, rfl, hmt, her⟩ := hrel
    have HMR := hide hmt; have HERR := hide her
    clear hmt her HER HM3
    by_cases him : i < m
    · obtain ⟨g, rfl, hmc, hBg, hew⟩ : ∃ g, ao = some ⟨g, 0, none⟩ ∧ m ≤ c ∧ B + 1 ≤ g ∧ EW wr g (swL L i) := by
        rcases HERR.out with ⟨h1, h2⟩ | ⟨g, c', h1, h2, _, h3, h4⟩
        · have : (swL L i).length = 0 := by rw [h2]; rfl
          rw [swL_length, HLL.out] at this; omega
        · simp only [Value.slice.injEq] at h1
          obtain ⟨rfl, _, rfl⟩ := h1
          rw [swL_length, HLL.out] at h2
          exact ⟨g, rfl, h2, h3, h4⟩
      have hil : i < (swL L i).length := by rw [swL_length, HLL.out]; exact him
      have hea : eAt (swL L i) i = eAt L i := by rw [swL_at (by rw [HLL.out]; exact him), if_neg (by omega)]
      obtain ⟨d0, d1, d2⟩ := hew.cells hil
      rw [hea] at d0 d1 d2
      have f0 := hew.free (i * 3)
      have f1 := hew.free (i * 3 + 1)
      obtain ⟨x, hx⟩ : ∃ x, x = (eAt L i).1 := ⟨_, rfl⟩
      obtain ⟨y, hy⟩ : ∃ y, y = (eAt L i).2.1 := ⟨_, rfl⟩
      have HEW : Hid (EW ((wr.setCell ⟨g, i * 3, none⟩ (.int .i64 y)).setCell ⟨g, i * 3 + 1, none⟩ (.int .i64 x)) g (swL L (i + 1))) := by
        have := hew.put hil y x
        rw [hea, show ((y, x, (eAt L i).2.2) : Ed3) = swE (eAt L i) by rw [hx, hy]; rfl, swL_next (by rw [HLL.out]; exact him)] at this
        exact this
      have HMW : Hid (MT w ((wr.setCell ⟨g, i * 3, none⟩ (.int .i64 y)).setCell ⟨g, i * 3 + 1, none⟩ (.int .i64 x)) n va vb vc) := (HMR.out.far (by have := HLT.out; omega) _).far (by have := HLT.out; omega) _
      rw [← hx] at d0
      rw [← hy] at d1
      have hic : (i : Int) < c := by omega
      have hmm := hml
      have him2 : (i : Int) + 1 ≤ 9223372036854775807 := by omega
      have HBG := hide hBg; have HMC := hide hmc
      have HCM : Hid (c ≤ 9223372036854775807) := by
        rcases HERR.out with ⟨h1, h2⟩ | ⟨g, c', h1, h2, h5, h3, h4⟩
        · simp at h1
        · simp only [Value.slice.injEq] at h1
          obtain ⟨_, _, rfl⟩ := h1
          exact h5
      clear hew hea hil hx hy d2 HERR HMR hBg hmc hmm hml hi
      go_wp2
      go_region
      all_goals
        go_wp2
        refine ⟨⟨i + 1, Nat.succ_le_of_lt him, by simp, HMW.out.drew, .inr ⟨g, c, by rw [swL_length, HLL.out], by rw [swL_length, HLL.out]; exact HMC.out, HCM.out, HBG.out, HEW.out.drew⟩⟩, by simp [RowKit.intOf]; omega⟩
    · have hie : i = m := by omega
      have HER2 : Hid (ER wr (.slice ao m c) (swL L m) (B + 1)) := by have := HERR.out; rw [hie] at this; exact this
      have heat := HER2.out.eat
      have hlc : (swL L m).length ≤ c := by
        obtain ⟨_, _, he, h1, _⟩ := heat
        simp only [Value.slice.injEq] at he
        obtain ⟨_, _, rfl⟩ := he
        exact h1
      have hsl : (swL L m).length = m := by rw [swL_length, HLL.out]
      rw [show (Value.slice ao m c) = Value.slice ao (swL L m).length c by rw [hsl]] at heat
      have HLA := hide (laidO_any n ao c (swL L m) wr hlc heat HTK.out)
      rw [hsl] at HLA
      unfold LaidPost at HLA
      rw [hsl] at HLA
      have c0 := cell_of HMR.out.bg (i := 0) rfl
      clear heat hlc hsl hie hi hml HERR HER2
      go_wp2_with fail
      refine HLA.out.mono ?_
      rintro e w5 ⟨va', vb', vc', st', tl', wt', nx, rfl, hgi', hs, hly, hb5, ⟨g1, n1, k1, rfl, hn1⟩, ⟨g2, n2, k2, rfl, hn2⟩, ⟨g3, n3, k3, rfl, hn3⟩⟩
      unfold gAgg
      have HM5 := hide (HMR.out.below hb5)
      have hlt5 : w.heap.size + 1 < wr.heap.size := lt_of_heap HMR.out.rs
      have HPU := hide (HM5.out.put (.int .i64 n) (.slice (some ⟨g1, 0, none⟩) n1 k1) (.slice (some ⟨g2, 0, none⟩) n2 k2) (.slice (some ⟨g3, 0, none⟩) n3 k3))
      have HGI5 : Hid (GIs ((((w5.setCell ⟨w.heap.size + 1, 0, none⟩ (.int .i64 n)).setCell ⟨w.heap.size + 1, 1, none⟩ (.slice (some ⟨g1, 0, none⟩) n1 k1)).setCell ⟨w.heap.size + 1, 2, none⟩ (.slice (some ⟨g2, 0, none⟩) n2 k2)).setCell ⟨w.heap.size + 1, 3, none⟩ (.slice (some ⟨g3, 0, none⟩) n3 k3)) n (.slice (some ⟨g1, 0, none⟩) n1 k1) (.slice (some ⟨g2, 0, none⟩) n2 k2) (.slice (some ⟨g3, 0, none⟩) n3 k3) st' tl' wt') := by
        have q : ∀ (k : IntKind) (g nn c : Nat) (xs : List Int), wr.heap.size ≤ g → RowAt k w5 (.slice (some ⟨g, 0, none⟩) nn c) xs → RowAt k ((((w5.setCell ⟨w.heap.size + 1, 0, none⟩ (.int .i64 n)).setCell ⟨w.heap.size + 1, 1, none⟩ (.slice (some ⟨g1, 0, none⟩) n1 k1)).setCell ⟨w.heap.size + 1, 2, none⟩ (.slice (some ⟨g2, 0, none⟩) n2 k2)).setCell ⟨w.heap.size + 1, 3, none⟩ (.slice (some ⟨g3, 0, none⟩) n3 k3)) (.slice (some ⟨g, 0, none⟩) nn c) xs := fun k g nn c xs hg h => by
          have hne : ∀ a, some (⟨g, 0, none⟩ : Addr) = some a → ¬ a.block = w.heap.size + 1 := fun a ha => by cases ha; show ¬ g = _; omega
          exact (((h.setOther _ _ _ hne).setOther _ _ _ hne).setOther _ _ _ hne).setOther _ _ _ hne
        exact ⟨q _ _ _ _ _ hn1 hgi'.s, q _ _ _ _ _ hn2 hgi'.t, q _ _ _ _ _ hn3 hgi'.u⟩
      have q0 := cell_of HM5.out.rs (i := 0) rfl
      have q1 := cell_of HM5.out.rs (i := 1) rfl
      have q2 := cell_of HM5.out.rs (i := 2) rfl
      have q3 := cell_of HM5.out.rs (i := 3) rfl
      have z0 := free_of HM5.out.rs 0
      have z1 := free_of HM5.out.rs 1
      have z2 := free_of HM5.out.rs 2
      have z3 := free_of HM5.out.rs 3
      have HSM := hide hs; have HLY := hide hly
      clear hgi' hs hly hb5 hn1 hn2 hn3 HM5 c0 hlt5
      go_wp2_with fail
      rw [HL.out] at HSM HLY
      rw [HM.out] at HSM HLY
      exact bodyPost_ret (results_cell2 Try.results79 _ _ (w.heap.size + 1) 25 _ (0, 0) _ rfl HPU.out.1 Try.underlying25 rfl (by kernel_rfl) (.int .i64 0) rfl) rfl ⟨_, _, _, _, _, _, _, _, rfl, HGI5.out, rfl, HSM.out, HLY.out, HPU.out.2.1⟩
theorem inj_surj : ∀ (m : Nat) (f : Nat → Nat), (∀ i, i < m → f i < m) → (∀ i j, i < m → j < m → f i = f j → i = j) → ∀ y, y < m → ∃ i, i < m ∧ f i = y := by
  intro m
  induction m with
  | zero => intro f _ _ y hy; omega
  | succ m ih =>
    intro f hlt hinj y hy
    have hg : ∀ y, y < m → ∃ i, i < m ∧ (if f i = m then f m else f i) = y := by
      refine ih (fun i => if f i = m then f m else f i) (fun i hi => ?_) (fun i j hi hj he => ?_)
      · show (if f i = m then f m else f i) < m
        have h1 := hlt i (by omega)
        have h2 := hlt m (by omega)
        split
        · rename_i e
          have : f m ≠ m := fun h => by have := hinj i m (by omega) (by omega) (by omega); omega
          omega
        · omega
      · split at he <;> split at he
        · exact hinj i j (by omega) (by omega) (by omega)
        · have := hinj m j (by omega) (by omega) he; omega
        · have := hinj i m (by omega) (by omega) he; omega
        · exact hinj i j (by omega) (by omega) he
    by_cases hm : y = m
    · by_cases h : f m = m
      · exact ⟨m, by omega, by omega⟩
      · obtain ⟨i, hi, he⟩ := hg (f m) (by have := hlt m (by omega); omega)
        split at he
        · rename_i e; exact ⟨i, by omega, by omega⟩
        · have := hinj i m (by omega) (by omega) he; omega
    · obtain ⟨i, hi, he⟩ := hg y (by omega)
      split at he
      · exact ⟨m, by omega, he⟩
      · exact ⟨i, by omega, he⟩
theorem sw_from {n : Nat} {st tl wt : List Int} {e : Nat} (he : e < tl.length) : eFrom (swL (gEdges n st tl wt tl.length) tl.length) e = tov tl e ∧ eTo (swL (gEdges n st tl wt tl.length) tl.length) e = src st n e := by
  have ha : eAt (swL (gEdges n st tl wt tl.length) tl.length) e = (at_ tl e, (src st n e : Int), at_ wt e) := by
    rw [swL_at (by rw [gEdges_length]; exact he), if_pos he, gEdges_at he]; rfl
  unfold eFrom eTo
  rw [ha]
  exact ⟨rfl, by simp⟩
end Go.Proofs.Ytmagigmcbegmiaa
