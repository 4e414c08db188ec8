/- The document's edges. -/
import Derived.Test.YteblkbneghbcbaaLaiO
import Derived.Test.YteblkbneghbcbaaFmFw
import Derived.Deep.AppendLies
namespace Go.Proofs.Yteblkbneghbcbaa
open Go.RowKit Go.Lib
set_option linter.unusedVariables false
set_option linter.unusedSimpArgs false
theorem Try.info60 : (Try.prog.info? 60).map (fun i => (i.zero, i.size, i.bytes)) = some (some (.agg #[.int .i64 0, .int .i64 0, .int .u64 0]), 3, 24) := by kernel_rfl
theorem three_at' (w : World) (x y z : Value) (t : TypeId) : ∀ j u, [x, y, z][j]? = some u → (w.alloc (.cells #[x, y, z] t)).drew.cell? ((⟨w.heap.size, 0, none⟩ : Addr).add j) = some u := fun j u h => three_at w x y z t j u h
structure EG (w wr : World) (gb : Array Value) (cv : Value) (l : List Ed3) : Prop where
  bel : Below w.heap.size w wr
  box : wr.heap[w.heap.size]? = some (.cells gb 25 (0, 0))
  own : wr.ownsRow (w.heap.size + 1) 60 3 cv l.length (eCells l)
section
variable {w wr : World} {gb : Array Value} {cv : Value} {l : List Ed3}
theorem EG.own_lt (h : EG w wr gb cv l) : ∀ k, cv.ownBlock = some k → w.heap.size + 1 ≤ k ∧ k < wr.heap.size := fun k hk => World.ownsRow.lt h.own k hk
theorem EG.came (h : EG w wr gb cv l) {w1 : World} (h1 : Chg (fun _ => False) wr w1) {x : Ed3} {g cap : Nat} {w2 : World} (hown : w2.ownsRow (w.heap.size + 1) 60 3 (.slice (some ⟨g, 0, none⟩) (l.length + 1) cap) (l.length + 1) (eCells l ++ [.int .i64 x.1, .int .i64 x.2.1, .int .u64 x.2.2])) (hgrow : w1.grownBy w2 cv.ownBlock) :
    EG w w2 gb (.slice (some ⟨g, 0, none⟩) (l ++ [x]).length cap) (l ++ [x]) := by
  have hc : Chg (fun k => cv.ownBlock = some k) wr w2 := (h1.mono (fun _ h => h.elim)).grown hgrow (fun k hk => .inl hk)
  refine ⟨Chg.below h.bel hc (fun k hk => by have := h.own_lt k hk; omega) h.bel.size, hc.heap h.box (fun h3 => by have := h.own_lt _ h3; omega), ?_⟩
  rw [List.length_append, List.length_singleton, eCells_snoc]
  exact hown
end
set_option maxRecDepth 100000 in
set_option maxHeartbeats 8000000 in
theorem edges_any (n : Nat) (va vb vc : Value) (st tl wt : List Int) (w : World) (hgi : GIs w n va vb vc st tl wt) (hg : Good n st tl wt) :
    Calls Try.prog 67 #[gAgg n va vb vc] w fun e w' => ∃ cv, e = .returned cv ∧ w'.ownsRow (w.heap.size + 1) 60 3 cv tl.length (eCells (gEdges n st tl wt tl.length)) ∧ Below w.heap.size w w' := by
  obtain ⟨i0, hi, hz0, hz1, hz2⟩ := info_parts Try.info60
  have hnl := hg.n_le
  have hml := hg.m_le
  obtain ⟨ga, oa, ca, rfl, hca, _⟩ := hgi.s.cellAt 0 (by rw [hg.s_len]; omega)
  obtain ⟨bo, cb_, rfl⟩ := hgi.t.shape
  obtain ⟨co, cc_, rfl⟩ := hgi.u.shape
  have HG := hide hg; have HS := hide hgi.s; have HT := hide hgi.t; have HU := hide hgi.u
  obtain ⟨m, hm⟩ : ∃ m, m = tl.length := ⟨_, rfl⟩
  have HM := hide hm
  have hsl := hg.s_len
  have hwl := hg.w_len
  have hcb : m ≤ cb_ := by
    obtain ⟨_, _, he, h1, _⟩ := hgi.t
    simp only [Value.slice.injEq] at he
    obtain ⟨_, _, rfl⟩ := he
    omega
  have hcc : m ≤ cc_ := by
    obtain ⟨_, _, he, h1, _⟩ := hgi.u
    simp only [Value.slice.injEq] at he
    obtain ⟨_, _, rfl⟩ := he
    omega
  rw [hsl] at hca HS ⊢
  rw [hwl, ← hm] at HU ⊢
  rw [← hm] at hml HT
  have HCB := hide hcb; have HCA := hide hca; have HNL := hide hnl; have HML := hide hml; have HCC := hide hcc; have HWL := hide hwl
  clear hgi hg hm hsl hwl
  unfold gAgg
  have hbox := heap_new w (.cells #[.int .i64 n, .slice (some ⟨ga, oa, none⟩) (n + 1) ca, .slice bo m cb_, .slice co m cc_] 25)
  have c0 := cell_of hbox (i := 0) rfl
  have HB0 : Hid (Below w.heap.size w (w.alloc (.cells #[.int .i64 n, .slice (some ⟨ga, oa, none⟩) (n + 1) ca, .slice bo m cb_, .slice co m cc_] 25))) := below_alloc (Below.refl _ _) _
  have HBX := hide hbox
  clear hbox
  go_enter Try.func67, Try.ntmps67
  go_upto_region 1 with fail
  have HEG : Hid (EG w (w.alloc (.cells #[.int .i64 n, .slice (some ⟨ga, oa, none⟩) (n + 1) ca, .slice bo m cb_, .slice co m cc_] 25)) #[.int .i64 n, .slice (some ⟨ga, oa, none⟩) (n + 1) ca, .slice bo m cb_, .slice co m cc_] (.slice none 0 0) (gEdges n st tl wt 0)) := ⟨HB0.out, HBX.out, ⟨by simp [gEdges, eCells], .inl ⟨rfl, by simp [gEdges]⟩⟩⟩
  generalize (w.alloc (.cells #[.int .i64 n, .slice (some ⟨ga, oa, none⟩) (n + 1) ca, .slice bo m cb_, .slice co m cc_] 25)) = w1 at c0 HB0 HBX HEG ⊢
  go_wp2_with fail
  clear c0 HB0 HBX
  go_loopw [3, 4] (fun cv t wr => ∃ u : Nat, u ≤ n ∧ t = .int .i64 u ∧ ∃ q : Nat, at_ st u = (q : Int) ∧ EG w wr #[.int .i64 n, .slice (some ⟨ga, oa, none⟩) (n + 1) ca, .slice bo m cb_, .slice co m cc_] cv (gEdges n st tl wt q)) (fun _ t _ => n - (RowKit.intOf t).toNat)
  case atStart => exact ⟨0, Nat.zero_le _, rfl, 0, HG.out.zero, HEG.out⟩
  case round =>
    obtain ⟨u, hu, rfl, p, hp, hf⟩ := hrel
    have HFR := hide hf
    have c0 := cell_of hf.box (i := 0) rfl
    have c1 := cell_of hf.box (i := 1) rfl
    clear hf HEG
    by_cases hlt : u < n
    · obtain ⟨r, hr⟩ : ∃ r : Nat, at_ st (u + 1) = ((p + r : Nat) : Int) := ⟨(at_ st (u + 1)).toNat - p, by have := HG.out.step u hlt; have := HG.out.range (u + 1) (by omega); omega⟩
      have hpr : p + r ≤ m := by have := HG.out.range (u + 1) (by omega); have := HM.out; omega
      have HSRC : Hid (∀ j, j < r → src st n (p + j) = u) := fun j hj => src_eq HG.out hlt (by rw [hp]; omega) (by rw [hr]; omega)
      have HR_ := hide hr
      obtain ⟨ga2, oa2, ca2, he1, hca1, hx1⟩ := HS.out.cellAt u (by rw [HG.out.s_len]; omega)
      obtain ⟨ga3, oa3, ca3, he2, _, hx2⟩ := HS.out.cellAt (u + 1) (by rw [HG.out.s_len]; omega)
      simp only [Value.slice.injEq, Option.some.injEq, Addr.mk.injEq, and_true] at he1 he2
      obtain ⟨⟨rfl, rfl⟩, hq7, rfl⟩ := he1
      obtain ⟨⟨rfl, rfl⟩, hq8, rfl⟩ := he2
      rw [hp] at hx1
      rw [hr] at hx2
      have HX2 := hide hx2
      have s1 : wr.cell? ⟨ga, oa + u, none⟩ = some (.int .i64 (p : Int)) := (below_cell HFR.out.bel (block_of_cell hx1)).trans hx1
      have hua : (u : Int) < ca := by have := HCA.out; omega
      have hua1 : (u : Int) + 1 < ca := by have := HCA.out; omega
      have hu1 : (u : Int) + 1 ≤ 9223372036854775807 := by have := HNL.out; omega
      have HF2 : Hid (EG w wr #[.int .i64 n, .slice (some ⟨ga, oa, none⟩) (n + 1) ca, .slice bo m cb_, .slice co m cc_] u3 (gEdges n st tl wt (p + 0))) := HFR.out
      clear hq7 hq8 hca1 hp hr hx1 hx2 HFR
      go_wp2_with fail
      clear s1 c0 c1
      go_loopw [3, 5] (fun cv t wr => ∃ j : Nat, j ≤ r ∧ t = .int .i64 ((p + j : Nat) : Int) ∧ EG w wr #[.int .i64 n, .slice (some ⟨ga, oa, none⟩) (n + 1) ca, .slice bo m cb_, .slice co m cc_] cv (gEdges n st tl wt (p + j))) (fun _ t _ => p + r - (RowKit.intOf t).toNat)
      case atStart => exact ⟨0, Nat.zero_le _, rfl, HF2.out⟩
      case round =>
        obtain ⟨j, hj, rfl, hf⟩ := hrel
        have HFJ := hide hf
        have c1 := cell_of hf.box (i := 1) rfl
        have c2 := cell_of hf.box (i := 2) rfl
        have c3 := cell_of hf.box (i := 3) rfl
        clear hf HF2
        have s2 : wr.cell? ⟨ga, oa + (u + 1), none⟩ = some (.int .i64 ((p + r : Nat) : Int)) := (below_cell HFJ.out.bel (block_of_cell HX2.out)).trans HX2.out
        obtain ⟨e0, he0⟩ : ∃ e0 : Nat, e0 = p + j := ⟨_, rfl⟩
        obtain ⟨pr, hpr2⟩ : ∃ pr : Nat, pr = p + r := ⟨_, rfl⟩
        rw [← hpr2] at s2
        rw [← he0]
        by_cases hjr : j < r
        · have hpm : p + j < tl.length := by have := HM.out; omega
          obtain ⟨gs, os_, cs, he, _, hxw⟩ := HT.out.cellAt (p + j) hpm
          simp only [Value.slice.injEq] at he
          obtain ⟨rfl, hlen9, hcc2⟩ := he
          subst hcc2
          obtain ⟨gz, oz_, cz, he, _, hzw⟩ := HU.out.cellAt (p + j) (by rw [HWL.out]; exact hpm)
          simp only [Value.slice.injEq] at he
          obtain ⟨rfl, hlen8, hcc3⟩ := he
          subst hcc3
          rw [← he0] at hxw hzw
          obtain ⟨x2, hx2⟩ : ∃ x2, x2 = at_ tl e0 := ⟨_, rfl⟩
          obtain ⟨x3, hx3⟩ : ∃ x3, x3 = at_ wt e0 := ⟨_, rfl⟩
          rw [← hx2] at hxw
          rw [← hx3] at hzw
          have HKP : Hid (∀ W cv l, EG w W #[.int .i64 n, .slice (some ⟨ga, oa, none⟩) (n + 1) ca, .slice (some ⟨gs, os_, none⟩) m cb_, .slice (some ⟨gz, oz_, none⟩) m cc_] cv l → W.cell? ⟨w.heap.size, 2, none⟩ = some (.slice (some ⟨gs, os_, none⟩) m cb_) ∧ W.cell? ⟨w.heap.size, 3, none⟩ = some (.slice (some ⟨gz, oz_, none⟩) m cc_) ∧ W.cell? ⟨gs, os_ + e0, none⟩ = some (.int .i64 x2) ∧ W.cell? ⟨gz, oz_ + e0, none⟩ = some (.int .u64 x3)) := fun W cv l h => ⟨cell_of h.box rfl, cell_of h.box rfl, (below_cell h.bel (block_of_cell hxw)).trans hxw, (below_cell h.bel (block_of_cell hzw)).trans hzw⟩
          clear hxw hzw
          have HOWN : Hid (wr.ownsRow (w.heap.size + 1) 60 3 u3 e0 (eCells (gEdges n st tl wt e0))) := by have := HFJ.out.own; rw [gEdges_length, ← he0] at this; exact this
          have hsz : w.heap.size + 1 ≤ wr.heap.size := Nat.succ_le_of_lt (lt_of_heap HFJ.out.box)
          have HSTEP : Hid (gEdges n st tl wt (p + (j + 1)) = gEdges n st tl wt e0 ++ [((u : Int), x2, x3)]) := by
            rw [show p + (j + 1) = e0 + 1 by omega, gEdges_succ, ← hx2, ← hx3, he0, HSRC.out j hjr]; exact hide rfl
          have hem : (e0 : Int) + 1 ≤ 9223372036854775807 := by have := HML.out; omega
          have hec : (e0 : Int) < cb_ := by have := HCB.out; omega
          have hez : (e0 : Int) < cc_ := by have := HCC.out; omega
          have helt : (e0 : Int) < (pr : Int) := by omega
          have helt2 : e0 < pr := by omega
          have hem2 : e0 < m := by omega
          have HMS : Hid (p + r - (e0 + 1) < p + r - e0) := by show _ < _; omega
          have HE0 := hide he0
          have hfk := HFJ.out
          rw [← he0] at hfk
          have HFK := hide hfk
          clear hfk
          clear hlen9 hlen8 hpm he0 hpr2 hx2 hx3 HFJ
          go_upto_region 8 with fail
          have HEM := hide hem; have HSZ := hide hsz; have HEM2 := hide hem2
          have hS0 := HKP.out _ _ _ HFK.out
          clear c1 c2 c3 s2 hml hnl hca hcb hcc hem helt helt2 hec hez hua hua1 hu1 hpr hj hsz
          refine wp_region_noPanic ?_
          go_region_held3 (fun x => x.cell? ⟨w.heap.size, 2, none⟩ = some (.slice (some ⟨gs, os_, none⟩) m cb_) ∧ x.cell? ⟨w.heap.size, 3, none⟩ = some (.slice (some ⟨gz, oz_, none⟩) m cc_) ∧ x.cell? ⟨gs, os_ + e0, none⟩ = some (.int .i64 x2) ∧ x.cell? ⟨gz, oz_ + e0, none⟩ = some (.int .u64 x3)) (first | exact hS0 | exact hSn | go_keep) (first
            | (refine step_append_lies _ (by rfl) _ _ _ (by rfl) (w.heap.size + 1) 60 i0 (.agg #[.int .i64 0, .int .i64 0, .int .u64 0]) 3 24 Try.underlying53 hi hz0 hz1 hz2 rfl (by omega) u3 e0 (eCells (gEdges n st tl wt e0)) (by rfl) ((HOWN.out.alloc _).drew) ⟨wr.heap.size, 0, none⟩ 1 1 [.int .i64 (u : Int), .int .i64 x2, .int .u64 x3] (by rfl) (by rfl) (three_at' wr _ _ _ _) (by simp [Value.oneCell']) (by omega) (by unfold maxLen; have := HML.out; have := HEM2.out; omega) (by have := HML.out; have := HEM2.out; omega) (by have := HSZ.out; simp; omega) (wr.heap.size + 1) (by simp) ?_; intro g cap w2 hown hgrow hat hlt2; have HF8 := hide (HFK.out.came (x := ((u : Int), x2, x3)) (((Chg.refl _ wr).alloc (.cells #[.int .i64 (u : Int), .int .i64 x2, .int .u64 x3] 60)).drew) (by rw [gEdges_length]; exact hown) hgrow); have hSn := HKP.out _ _ _ HF8.out; clear hown hgrow hat hlt2)
            | fail)
          all_goals
            refine NoPanic.normal ?_
            have hem := HEM.out
            go_wp2_with fail
            refine ⟨⟨j + 1, Nat.succ_le_of_lt hjr, by have := HE0.out; go_num, ?_⟩, ?_⟩
            · rw [HSTEP.out]
              have := HF8.out
              rw [List.length_append, List.length_singleton, gEdges_length] at this
              exact this
            · have := HMS.out
              simp [RowKit.intOf]
              omega
        · have hjj : j = r := by omega
          have HFE : Hid (EG w wr #[.int .i64 n, .slice (some ⟨ga, oa, none⟩) (n + 1) ca, .slice bo m cb_, .slice co m cc_] u3 (gEdges n st tl wt (p + r))) := by have := HFJ.out; rw [hjj] at this; exact this
          have hd : decide ((e0 : Int) < (pr : Int)) = false := decide_eq_false (by omega)
          have hd2 : ¬ (e0 : Int) < (pr : Int) := by omega
          clear he0 hpr2 hjr hjj hj hpr
          go_wp2_with fail
          exact ⟨⟨u + 1, Nat.succ_le_of_lt hlt, by go_num, p + r, HR_.out, HFE.out⟩, mdec hlt⟩
    · have hun : n = u := by omega
      have hpm : p = m := by have := HG.out.last; rw [hun] at this; have := HM.out; omega
      rw [hpm] at HFR
      clear hun hp hu hpm
      go_wp2_with fail
      go_ret
      exact ⟨u3, rfl, by have := HFR.out.own; rw [gEdges_length] at this; exact this, HFR.out.bel⟩
end Go.Proofs.Yteblkbneghbcbaa
