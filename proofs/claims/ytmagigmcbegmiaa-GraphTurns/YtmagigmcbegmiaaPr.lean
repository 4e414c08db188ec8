import Derived.Test.YtmagigmcbegmiaaGP
import Derived.Test.YtmagigmcbegmiaaEg
import Derived.Test.YtmagigmcbegmiaaAqR
/- graph.Parts, for any k, with its block. -/
namespace Go.Proofs.Ytmagigmcbegmiaa
open Go.RowKit Go.Lib
set_option linter.unusedVariables false
set_option linter.unusedSimpArgs false
set_option maxRecDepth 100000 in
set_option maxHeartbeats 8000000 in
theorem partsX_good (n k : Nat) (ao bo co : Option Addr) (ca cb cc m : Nat) (st tl wt : List Int) (w : World) (hg : GIs w n (.slice ao (n + 1) ca) (.slice bo m cb) (.slice co m cc) st tl wt) (hgd : Good n st tl wt) (hm : m = tl.length) (hk1 : 1 ≤ k) (hk : k ≤ 1048576) :
    Calls Try.prog 31 #[.agg #[.int .i64 n, .slice ao (n + 1) ca, .slice bo m cb, .slice co m cc], .int .i64 k] w fun e w' => ∃ G cs, e = .returned (.tuple #[.slice (some ⟨G, 0, none⟩) (k + 1) (k + 1), .int .i64 0]) ∧ Arr w' G cs ∧ Cuts n k st m cs ∧ w.heap.size < G ∧ Below w.heap.size w w' := by
  have hml := hgd.m_le
  rw [← hm] at hml
  have hn := hgd.n_le
  have hchk := good_chk' hgd
  obtain ⟨⟨r1, r2⟩, hrr⟩ : ∃ r, chk n st tl wt = r := ⟨_, rfl⟩
  rw [hrr] at hchk
  simp only at hchk
  subst hchk
  have hck := (fun W h => check_all n (.slice ao (n + 1) ca) (.slice bo m cb) (.slice co m cc) st tl wt W h (by have := hgd.s_len; omega) (by omega) (by have := hgd.w_len; omega))
  rw [hrr] at hck
  unfold gAgg at hck
  have HCK := hide hck
  have HG := hide hg
  have HGD := hide hgd
  have HM := hide hm
  have hb0 : Below w.heap.size w (w.alloc (.cells #[.int .i64 n, .slice ao (n + 1) ca, .slice bo m cb, .slice co m cc] 25)) := below_alloc (Below.refl _ _) _
  have hx0 := heap_new w (.cells #[.int .i64 n, .slice ao (n + 1) ca, .slice bo m cb, .slice co m cc] 25)
  have HX0 := hide hx0
  have HB0 := hide hb0
  have c0 := cell_of hx0 (i := 0) rfl
  have c1 := cell_of hx0 (i := 1) rfl
  have c2 := cell_of hx0 (i := 2) rfl
  have c3 := cell_of hx0 (i := 3) rfl
  have hmk := fun W => run_make_row' (P := Try.prog) 22 3 (.int .i64 0) 8 Try.underlying22 Try.info3' rfl .i64 .i64 (k + 1) (by omega) (by omega) W
  have hwk : IntKind.i64.wrap ((k : Int) + 1) = (k : Int) + 1 := IntWalk.i64_in _ (by omega)
  have e1 : ((k + 1 : Nat) : Int) = (k : Int) + 1 := by omega
  rw [e1] at hmk
  clear hg hck hrr hx0 hb0 hgd hm
  go_enter Try.func31, Try.ntmps31
  go_wp2_with fail
  generalize (w.alloc (.cells #[.int .i64 n, .slice ao (n + 1) ca, .slice bo m cb, .slice co m cc] 25)) = w1 at c0 c1 c2 c3 HX0 HB0 ⊢
  refine (HCK.out w1 (HG.out.below HB0.out)).mono ?_
  rintro e w2 ⟨rfl, hb2⟩
  have HX2 := hide ((hb2.block _ (lt_of_heap HX0.out)).trans HX0.out)
  have HB2 := hide (below_on HB0.out hb2)
  clear c0 c1 c2 c3 HX0 HB0 hb2 HCK
  go_wp2_with fail
  have HP0 := hide (show PMm w (w2.alloc (.cells (madeCells #[.int .i64 0] (k + 1)) 3)) n (.slice ao (n + 1) ca) (.slice bo m cb) (.slice co m cc) w2.heap.size (tab (k + 1) (fun _ => 0)) from
    ⟨(Below.heap_alloc _ _ _ (lt_of_heap HX2.out)).trans HX2.out, arr_new (heap_new _ _), by have := lt_of_heap HX2.out; omega, below_alloc HB2.out _⟩)
  generalize (w2.alloc (Obj.cells (madeCells #[Value.int IntKind.i64 0] (k + 1)) 3)) = w3 at HP0 ⊢
  generalize w2.heap.size = G at HP0 ⊢
  clear HX2 HB2 hmk
  have HK1 := hide hk1
  have HK2 := hide hk
  have HML := hide hml
  have HNL := hide hn
  have hk2 : (k : Int) ≤ 1048576 := by omega
  clear hk1 hk hml hn
  go_loopw [9, 10] (fun t9 t wr => ∃ (j v : Nat) (cs : List Int), 1 ≤ j ∧ j ≤ k ∧ t = .int .i64 j ∧ t9 = .int .i64 v ∧ v ≤ n ∧ (∀ u, u < v → at_ st u * k < (j : Int) * m) ∧ CutsTo n k st m j cs ∧ PMm w wr n (.slice ao (n + 1) ca) (.slice bo m cb) (.slice co m cc) G cs) (fun _ t _ => k - (RowKit.intOf t).toNat)
  case atStart => exact ⟨1, 0, _, by omega, by have := HK1.out; omega, rfl, rfl, by omega, fun u hu => by omega, CutsTo.start _ _ _ _, HP0.out⟩
  case round =>
    obtain ⟨j, v, cs, hj1, hjk, rfl, rfl, hvn, hlow, hct, hpm⟩ := hrel
    clear HP0
    by_cases hlt : j < k
    · have HCT := hide hct
      have HPM := hide hpm
      have HLOW := hide hlow
      clear hct hpm hlow
      have hji : (j : Int) < (k : Int) := by omega
      go_wp2_with fail
      go_loopw [9] (fun t9 wr' => ∃ v : Nat, t9 = .int .i64 v ∧ v ≤ n ∧ (∀ u, u < v → at_ st u * k < (j : Int) * m) ∧ PMm w wr' n (.slice ao (n + 1) ca) (.slice bo m cb) (.slice co m cc) G cs) (fun t _ => n - (RowKit.intOf t).toNat)
      case atStart => exact ⟨v, rfl, hvn, HLOW.out, HPM.out⟩
      case round =>
        obtain ⟨v, rfl, hvn, hlow, hpm⟩ := hrel
        clear HPM HLOW
        have HPM := hide hpm
        have HLOW := hide hlow
        have b1 := gw_cell (cell_of hpm.bg (i := 1) rfl)
        have b2 := gw_cell (cell_of hpm.bg (i := 2) rfl)
        obtain ⟨gs, os, cs', hes, _, p⟩ := (HG.out.below hpm.bel).s.cellAt v (by rw [HGD.out.s_len]; omega)
        simp only [Value.slice.injEq] at hes
        obtain ⟨rfl, hl9, rfl⟩ := hes
        clear hl9
        have b3 := gw_cell p
        have hrg := HGD.out.range v hvn
        rw [← HM.out] at hrg
        clear hpm hlow p
        obtain ⟨x, hx⟩ : ∃ x, x = at_ st v := ⟨_, rfl⟩
        rw [← hx] at b3 hrg
        have HXV := hide hx
        clear hx
        have hv1 : v < n + 1 := by omega
        have hx0 : 0 ≤ x * (k : Int) := Int.mul_nonneg hrg.1 (by omega)
        have hx1 : x * (k : Int) ≤ 4194304 * 1048576 := Int.mul_le_mul (by have := HML.out; omega) hk2 (by omega) (by omega)
        have hq0 : 0 ≤ (j : Int) * (m : Int) := Int.mul_nonneg (by omega) (by omega)
        have hq1 : (j : Int) * (m : Int) ≤ 1048576 * 4194304 := Int.mul_le_mul (by omega) (by have := HML.out; omega) (by omega) (by omega)
        have hwx : IntKind.i64.wrap (x * (k : Int)) = x * (k : Int) := IntWalk.i64_in _ (by omega)
        have hwq : IntKind.i64.wrap ((j : Int) * (m : Int)) = (j : Int) * (m : Int) := IntWalk.i64_in _ (by omega)
        have hwv : IntKind.i64.wrap ((v : Int) + 1) = (v : Int) + 1 := IntWalk.i64_in _ (by have := HNL.out; omega)
        have HLAST : Hid (x * (k : Int) < (j : Int) * (m : Int) → v < n) := fun hc => by
          rcases Nat.lt_or_ge v n with h | h
          · exact h
          · exfalso
            obtain rfl : v = n := by omega
            have e : x = (m : Int) := by rw [HXV.out, HGD.out.last, HM.out]
            rw [e, Int.mul_comm] at hc
            have := Int.mul_le_mul_of_nonneg_right (show (j : Int) ≤ (k : Int) by omega) (show (0 : Int) ≤ (m : Int) by omega)
            omega
        clear hx0 hx1 hq0 hq1
        by_cases hc : x * (k : Int) < (j : Int) * (m : Int)
        · have HC := hide hc
          go_wp2_with fail
          refine wp_region_gw (by kernel_rfl) (by kernel_rfl) ?_
          repeat (go_big_quiet_step (rfl))
          refine wpQuiet_nil ?_
          intro _ hw'
          obtain ⟨x', hw''⟩ := hw'
          subst hw''
          have HPM2 := hide (HPM.out.below x'.bel)
          clear b1 b2 b3
          generalize x'.world = w4 at HPM2 ⊢
          clear x'
          go_wp2
          go_roundw
          case rel =>
            refine ⟨v + 1, by simp, HLAST.out HC.out, fun u hu => ?_, HPM2.out⟩
            rcases Nat.lt_or_ge u v with h | h
            · exact HLOW.out u h
            · obtain rfl : u = v := by omega
              rw [← HXV.out]; exact HC.out
          case measure => have := HLAST.out HC.out; simp [RowKit.intOf]; omega
        · have HC := hide hc
          go_wp2_with fail
          refine wp_region_gw (by kernel_rfl) (by kernel_rfl) ?_
          repeat (go_big_quiet_step (rfl))
          refine wpQuiet_nil ?_
          intro _ hw'
          obtain ⟨x', hw''⟩ := hw'
          subst hw''
          have HPM2 := hide (HPM.out.below x'.bel)
          clear b1 b2 b3
          generalize x'.world = w4 at HPM2 ⊢
          clear x'
          have a1 := HPM2.out.ar.cell j (by rw [HCT.out.len]; omega)
          have a2 := HPM2.out.ar.free j
          have hjk1 : (j : Int) < (k : Int) + 1 := by omega
          have hjk2 : j < k + 1 := by omega
          have HP4 := hide (HPM2.out.put j (v : Int))
          have HC4 := hide (HCT.out.put hj1 hlt ⟨v, rfl, hvn, by rw [← HXV.out]; have := HC.out; omega, HLOW.out⟩)
          have hwj : IntKind.i64.wrap ((j : Int) + 1) = (j : Int) + 1 := IntWalk.i64_in _ (by omega)
          go_wp2_with fail
          go_roundw
          case rel =>
            refine ⟨j + 1, v, _, by omega, by omega, by simp, rfl, hvn, fun u hu => ?_, HC4.out, HP4.out⟩
            have h1 := HLOW.out u hu
            have e : ((j + 1 : Nat) : Int) * (m : Int) = (j : Int) * m + m := by rw [Int.natCast_add, Int.add_mul]; simp
            rw [e]
            omega
          case measure => simp [RowKit.intOf]; omega
    · obtain rfl : j = k := by omega
      have b0 := cell_of hpm.bg (i := 0) rfl
      have a1 := hpm.ar.cell j (by rw [hct.len]; omega)
      have a2 := hpm.ar.free j
      have HP4 := hide (hpm.put j (n : Int))
      have HC4 := hide (hct.done (by omega))
      have hjk1 : (j : Int) < (j : Int) + 1 := by omega
      have hjk2 : j < j + 1 := by omega
      clear hct hpm hlow
      go_wp2_with fail
      go_ret2
      exact ⟨G, _, rfl, HP4.out.ar, HC4.out, HP4.out.gl, HP4.out.bel⟩
end Go.Proofs.Ytmagigmcbegmiaa

/- The document's Parts. -/
namespace Go.Proofs.Ytmagigmcbegmiaa
open Go.RowKit Go.Lib
set_option linter.unusedVariables false
set_option linter.unusedSimpArgs false
structure CutsL (n k : Nat) (st : List Int) (m j : Nat) (cs : List Int) : Prop where
  len : cs.length = j
  zero : at_ cs 0 = 0
  cut : ∀ i, 1 ≤ i → i < j → CutAt n k st m i (at_ cs i)
theorem at_end (cs : List Int) (x : Int) (i : Nat) : at_ (cs ++ [x]) i = if i = cs.length then x else at_ cs i := by
  unfold at_
  by_cases h : i < cs.length
  · rw [List.getElem?_append_left h, if_neg (by omega)]
  · by_cases e : i = cs.length
    · subst e; simp
    · rw [if_neg e, List.getElem?_append_right (by omega), List.getElem?_eq_none (by simp; omega), List.getElem?_eq_none (by omega)]
theorem CutsL.start (n k : Nat) (st : List Int) (m : Nat) : CutsL n k st m 1 [0] := ⟨rfl, rfl, fun i h1 h2 => by omega⟩
theorem CutsL.put {n k : Nat} {st : List Int} {m j : Nat} {cs : List Int} (h : CutsL n k st m j cs) (h1 : 1 ≤ j) {x : Int} (hx : CutAt n k st m j x) : CutsL n k st m (j + 1) (cs ++ [x]) := by
  refine ⟨by simp [h.len], ?_, fun i h2 h3 => ?_⟩
  · rw [at_end, if_neg (by rw [h.len]; omega)]; exact h.zero
  · rw [at_end, h.len]
    by_cases e : i = j
    · rw [if_pos e, e]; exact hx
    · rw [if_neg e]; exact h.cut i h2 (by omega)
theorem CutsL.done {n k : Nat} {st : List Int} {m : Nat} {cs : List Int} (h : CutsL n k st m k cs) (hk : 1 ≤ k) : Cuts n k st m (cs ++ [(n : Int)]) := by
  refine ⟨⟨by simp [h.len], ?_, fun i h2 h3 => ?_⟩, ?_⟩
  · rw [at_end, if_neg (by rw [h.len]; omega)]; exact h.zero
  · rw [at_end, if_neg (by rw [h.len]; omega)]; exact h.cut i h2 h3
  · rw [at_end, if_pos h.len.symm]
/-- Two lists of cuts are one. -/
theorem Cuts.one {n k : Nat} {st : List Int} {m : Nat} {cs cs' : List Int} (h : Cuts n k st m cs) (h' : Cuts n k st m cs') : cs = cs' := by
  have e : ∀ i, i ≤ k → at_ cs i = at_ cs' i := fun i hi => by
    by_cases h0 : i = 0
    · rw [h0, h.upT.zero, h'.upT.zero]
    · by_cases hk : i = k
      · rw [hk, h.last, h'.last]
      · obtain ⟨c, e1, _, p1, q1⟩ := h.upT.cut i (by omega) (by omega)
        obtain ⟨d, e2, _, p2, q2⟩ := h'.upT.cut i (by omega) (by omega)
        have : c = d := by
          rcases Nat.lt_trichotomy c d with hh | hh | hh
          · have := q2 c hh; omega
          · exact hh
          · have := q1 d hh; omega
        rw [e1, e2, this]
  apply List.ext_getElem
  · rw [h.upT.len, h'.upT.len]
  · intro i h1 h2
    have := e i (by have := h.upT.len; omega)
    simpa [at_, h1, h2] using this
structure PG (w wr : World) (n : Nat) (va vb vc cv : Value) (cs : List Int) : Prop where
  bg : wr.heap[w.heap.size]? = some (.cells #[.int .i64 n, va, vb, vc] 25 (0, 0))
  own : wr.ownsRow (w.heap.size + 1) 3 1 cv cs.length (cs.map (Value.int .i64))
  bel : Below w.heap.size w wr
theorem PG.below {w x y : World} {n : Nat} {va vb vc cv : Value} {cs : List Int} (h : PG w x n va vb vc cv cs) (hb : Below x.heap.size x y) : PG w y n va vb vc cv cs :=
  ⟨(hb.block _ (lt_of_heap h.bg)).trans h.bg, ownA_stay h.own (fun g hg => hb.block g (World.ownsRow.lt h.own g hg).2), below_on h.bel hb⟩
theorem PG.came {w X w' : World} {n : Nat} {va vb vc v v' : Value} {cs : List Int} {x : Int} {o : Obj} (h : PG w X n va vb vc v cs) (hown : w'.ownsRow (w.heap.size + 1) 3 1 v' (cs.length + 1) (cs.map (Value.int .i64) ++ [.int .i64 x])) (hgrow : (X.alloc o).grownBy w' v.ownBlock) : PG w w' n va vb vc v' (cs ++ [x]) := by
  have hc : Chg (fun k => v.ownBlock = some k) X w' := ((Chg.refl _ X).alloc o).grown hgrow (fun k hk => .inl hk)
  refine ⟨hc.heap h.bg (fun h3 => by have := World.ownsRow.lt h.own _ h3; omega), ?_, Chg.below h.bel hc (fun k hk => by have := World.ownsRow.lt h.own k hk; omega) h.bel.size⟩
  simpa using hown
theorem one_at (w : World) (x : Value) (t : TypeId) : ∀ j u, [x][j]? = some u → (w.alloc (.cells #[x] t)).cell? ((⟨w.heap.size, 0, none⟩ : Addr).add j) = some u := by
  intro j u hj
  have hh : (w.alloc (.cells #[x] t)).heap[w.heap.size]? = some (.cells #[x] t (0, 0)) := heap_new _ _
  rw [Addr.add_lit]
  match j, hj with
  | 0, hj => simp at hj; subst hj; exact cell_of hh rfl
set_option maxRecDepth 100000 in
set_option maxHeartbeats 8000000 in
theorem partsR_good (n k : Nat) (ao bo co : Option Addr) (ca cb cc m : Nat) (st tl wt : List Int) (w : World) (hg : GIs w n (.slice ao (n + 1) ca) (.slice bo m cb) (.slice co m cc) st tl wt) (hgd : Good n st tl wt) (hm : m = tl.length) (hk1 : 1 ≤ k) (hk : k ≤ 1048576) :
    Calls Try.prog 77 #[.agg #[.int .i64 n, .slice ao (n + 1) ca, .slice bo m cb, .slice co m cc], .int .i64 k] w fun e w' => ∃ v cs, e = .returned (.tuple #[v, .int .i64 0]) ∧ RowAt .i64 w' v cs ∧ Cuts n k st m cs ∧ Below w.heap.size w w' := by
  obtain ⟨i0, hi, hz0, hz1, hz2⟩ := info_parts Try.info3'
  have hml := hgd.m_le
  rw [← hm] at hml
  have hn := hgd.n_le
  have hchk := good_chk' hgd
  obtain ⟨⟨r1, r2⟩, hrr⟩ : ∃ r, chk n st tl wt = r := ⟨_, rfl⟩
  rw [hrr] at hchk
  simp only at hchk
  subst hchk
  have hck := (fun W h => refCheck_all n (.slice ao (n + 1) ca) (.slice bo m cb) (.slice co m cc) st tl wt W h (by have := hgd.s_len; omega) (by omega) (by have := hgd.w_len; omega))
  unfold ChkPost at hck
  rw [hrr] at hck
  unfold gAgg at hck
  have HCK := hide hck
  have HG := hide hg
  have HGD := hide hgd
  have HM := hide hm
  have hb0 : Below w.heap.size w (w.alloc (.cells #[.int .i64 n, .slice ao (n + 1) ca, .slice bo m cb, .slice co m cc] 25)) := below_alloc (Below.refl _ _) _
  have hx0 := heap_new w (.cells #[.int .i64 n, .slice ao (n + 1) ca, .slice bo m cb, .slice co m cc] 25)
  have HX0 := hide hx0
  have HB0 := hide hb0
  have c0 := cell_of hx0 (i := 0) rfl
  have c1 := cell_of hx0 (i := 1) rfl
  have c2 := cell_of hx0 (i := 2) rfl
  have c3 := cell_of hx0 (i := 3) rfl
  clear hg hck hrr hx0 hb0 hgd hm
  go_enter Try.func77, Try.ntmps77
  go_upto_region 1 with fail
  generalize (w.alloc (.cells #[.int .i64 n, .slice ao (n + 1) ca, .slice bo m cb, .slice co m cc] 25)) = w1 at c0 c1 c2 c3 HX0 HB0 ⊢
  go_wp2_with fail
  refine (HCK.out w1 (HG.out.below HB0.out)).mono ?_
  rintro e w2 ⟨rfl, hb2⟩
  have HX2 := hide ((hb2.block _ (lt_of_heap HX0.out)).trans HX0.out)
  have HB2 := hide (below_on HB0.out hb2)
  clear c0 c1 c2 c3 HX0 HB0 hb2 HCK
  have hkb : (k : Int) ≤ 1048576 := by omega
  have hka : ¬ (k : Int) < 1 := by omega
  have hkc : ¬ (1048576 : Int) < (k : Int) := by omega
  go_wp2_with fail
  have HP0 := hide (show PG w (w2.alloc (.cells #[.int .i64 0] 3)) n (.slice ao (n + 1) ca) (.slice bo m cb) (.slice co m cc) (.slice (some ⟨w2.heap.size, 0, none⟩) 1 1) [0] from
    ⟨(Below.heap_alloc _ _ _ (lt_of_heap HX2.out)).trans HX2.out, ⟨rfl, .inr ⟨w2.heap.size, 1, #[.int .i64 0], rfl, lt_of_heap HX2.out, heap_new _ _, Nat.le_refl _, by unfold maxLen; omega, rfl, by simp⟩⟩, below_alloc HB2.out _⟩)
  generalize (w2.alloc (Obj.cells #[Value.int IntKind.i64 0] 3)) = w3 at HP0 ⊢
  generalize w2.heap.size = G at HP0 ⊢
  clear HX2 HB2 hka hkc
  rename_i hx9 _ _
  clear hx9
  have HK1 := hide hk1
  have HK2 := hide hk
  have HML := hide hml
  have HNL := hide hn
  clear hk1 hk hml hn
  go_loopw [8, 9, 10] (fun cv t9 t wr => ∃ (j v : Nat) (cs : List Int), 1 ≤ j ∧ j ≤ k ∧ t = .int .i64 j ∧ t9 = .int .i64 v ∧ v ≤ n ∧ (∀ u, u < v → at_ st u * k < (j : Int) * m) ∧ CutsL n k st m j cs ∧ PG w wr n (.slice ao (n + 1) ca) (.slice bo m cb) (.slice co m cc) cv cs) (fun _ _ t _ => k - (RowKit.intOf t).toNat)
  case atStart => exact ⟨1, 0, _, by omega, by have := HK1.out; omega, rfl, rfl, by omega, fun u hu => by omega, CutsL.start _ _ _ _, HP0.out⟩
  case round =>
    obtain ⟨j, v, cs, hj1, hjk, rfl, rfl, hvn, hlow, hct, hpm⟩ := hrel
    clear HP0
    have HLE : Hid (cs.length ≤ 1048576) := by have := hct.len; have := HK2.out; exact hide (by omega)
    by_cases hlt : j < k
    · have HCT := hide hct
      have HPM := hide hpm
      have HLOW := hide hlow
      clear hct hpm hlow
      have hji : (j : Int) < (k : Int) := by omega
      go_wp2_with fail
      go_loopw [9] (fun t9 wr' => ∃ v : Nat, t9 = .int .i64 v ∧ v ≤ n ∧ (∀ u, u < v → at_ st u * k < (j : Int) * m) ∧ PG w wr' n (.slice ao (n + 1) ca) (.slice bo m cb) (.slice co m cc) u8 cs) (fun t _ => n - (RowKit.intOf t).toNat)
      case atStart => exact ⟨v, rfl, hvn, HLOW.out, HPM.out⟩
      case round =>
        obtain ⟨v, rfl, hvn, hlow, hpm⟩ := hrel
        clear HPM HLOW
        have HPM := hide hpm
        have HLOW := hide hlow
        have b0 := gw_cell (cell_of hpm.bg (i := 0) rfl)
        have b1 := gw_cell (cell_of hpm.bg (i := 1) rfl)
        have b2 := gw_cell (cell_of hpm.bg (i := 2) rfl)
        obtain ⟨gs, os, cs', hes, _, p⟩ := (HG.out.below hpm.bel).s.cellAt v (by rw [HGD.out.s_len]; omega)
        simp only [Value.slice.injEq] at hes
        obtain ⟨rfl, hl9, rfl⟩ := hes
        clear hl9
        have b3 := gw_cell p
        have hrg := HGD.out.range v hvn
        rw [← HM.out] at hrg
        clear hpm hlow p
        obtain ⟨x, hx⟩ : ∃ x, x = at_ st v := ⟨_, rfl⟩
        rw [← hx] at b3 hrg
        have HXV := hide hx
        clear hx
        have hv1 : v < n + 1 := by omega
        have hx0 : 0 ≤ x * (k : Int) := Int.mul_nonneg hrg.1 (by omega)
        have hx1 : x * (k : Int) ≤ 4194304 * 1048576 := Int.mul_le_mul (by have := HML.out; omega) hkb (by omega) (by omega)
        have hq0 : 0 ≤ (j : Int) * (m : Int) := Int.mul_nonneg (by omega) (by omega)
        have hq1 : (j : Int) * (m : Int) ≤ 1048576 * 4194304 := Int.mul_le_mul (by omega) (by have := HML.out; omega) (by omega) (by omega)
        have hwx : IntKind.i64.wrap (x * (k : Int)) = x * (k : Int) := IntWalk.i64_in _ (by omega)
        have hwq : IntKind.i64.wrap ((j : Int) * (m : Int)) = (j : Int) * (m : Int) := IntWalk.i64_in _ (by omega)
        have hwv : IntKind.i64.wrap ((v : Int) + 1) = (v : Int) + 1 := IntWalk.i64_in _ (by have := HNL.out; omega)
        have HLAST : Hid (x * (k : Int) < (j : Int) * (m : Int) → v < n) := fun hc => by
          rcases Nat.lt_or_ge v n with h | h
          · exact h
          · exfalso
            obtain rfl : v = n := by omega
            have e : x = (m : Int) := by rw [HXV.out, HGD.out.last, HM.out]
            rw [e, Int.mul_comm] at hc
            have := Int.mul_le_mul_of_nonneg_right (show (j : Int) ≤ (k : Int) by omega) (show (0 : Int) ≤ (m : Int) by omega)
            omega
        clear hx0 hx1 hq0 hq1
        by_cases hc : x * (k : Int) < (j : Int) * (m : Int)
        · have HC := hide hc
          have hvv : (v : Int) < (n : Int) := by have := HLAST.out hc; omega
          have hvv2 : v < n := by omega
          go_wp2_with fail
          refine wp_region_gw (by kernel_rfl) (by kernel_rfl) ?_
          repeat (go_big_quiet_step (rfl))
          refine wpQuiet_nil ?_
          intro _ hw'
          obtain ⟨x', hw''⟩ := hw'
          subst hw''
          have HPM2 := hide (HPM.out.below x'.bel)
          clear b0 b1 b2 b3
          generalize x'.world = w4 at HPM2 ⊢
          clear x'
          go_wp2
          go_roundw
          case rel =>
            refine ⟨v + 1, by simp, HLAST.out HC.out, fun u hu => ?_, HPM2.out⟩
            rcases Nat.lt_or_ge u v with h | h
            · exact HLOW.out u h
            · obtain rfl : u = v := by omega
              rw [← HXV.out]; exact HC.out
          case measure => have := HLAST.out HC.out; simp [RowKit.intOf]; omega
        · have HC := hide hc
          have HNX : Hid (∀ u, u < v → at_ st u * k < ((j + 1 : Nat) : Int) * m) := fun u hu => by
            have h1 := HLOW.out u hu
            have e : ((j + 1 : Nat) : Int) * (m : Int) = (j : Int) * m + m := by rw [Int.natCast_add, Int.add_mul]; simp
            rw [e]
            omega
          have HC4 := hide (HCT.out.put hj1 ⟨v, rfl, hvn, by rw [← HXV.out]; have := HC.out; omega, HLOW.out⟩)
          have hwj : IntKind.i64.wrap ((j : Int) + 1) = (j : Int) + 1 := IntWalk.i64_in _ (by omega)
          by_cases hvv2 : v < n
          · have hvv : (v : Int) < (n : Int) := by omega
            go_wp2_with fail
            refine wp_region_gw (by kernel_rfl) (by kernel_rfl) ?_
            repeat (go_big_quiet_step (rfl))
            refine wpQuiet_nil ?_
            intro _ hw'
            obtain ⟨x', hw''⟩ := hw'
            subst hw''
            have HPM2 := hide (HPM.out.below x'.bel)
            clear b0 b1 b2 b3
            generalize x'.world = w4 at HPM2 ⊢
            clear x'
            go_wp2_with (at_builtin; refine wpList_append_own _ rfl (.tmp 52) (.tmp 54) 22 rfl _ 3 i0 (.int .i64 0) 1 8 Try.underlying22 hi hz0 hz1 hz2 rfl (by decide) _ _ _ rfl (World.ownsRow.alloc (show w4.ownsRow (w.heap.size + 1) 3 1 u8 cs.length (cs.map (Value.int .i64)) from HPM2.out.own) _) ⟨w4.heap.size, 0, none⟩ 1 1 [.int .i64 (v : Int)] rfl rfl (one_at w4 _ _) (by simp [Value.oneCell']) (by unfold maxLen; have := HLE.out; omega) (by have := HLE.out; omega) (by have := lt_of_heap HPM2.out.bg; simp; omega) ?_; intro v5 w5 hownB hgrowB hqB; have HR5 := hide (HPM2.out.came hownB hgrowB); clear hownB hgrowB hqB)
            go_roundw
            case rel => exact ⟨j + 1, v, _, by omega, by omega, by simp, rfl, hvn, HNX.out, HC4.out, HR5.out⟩
            case measure => simp [RowKit.intOf]; omega
          · have hvv : ¬ (v : Int) < (n : Int) := by omega
            have hvv3 : (n : Int) ≤ (v : Int) := by omega
            have hvv4 : n ≤ v := by omega
            go_wp2_with fail
            refine wp_region_gw (by kernel_rfl) (by kernel_rfl) ?_
            repeat (go_big_quiet_step (rfl))
            refine wpQuiet_nil ?_
            intro _ hw'
            obtain ⟨x', hw''⟩ := hw'
            subst hw''
            have HPM2 := hide (HPM.out.below x'.bel)
            clear b0 b1 b2 b3
            generalize x'.world = w4 at HPM2 ⊢
            clear x'
            go_wp2_with (at_builtin; refine wpList_append_own _ rfl (.tmp 52) (.tmp 54) 22 rfl _ 3 i0 (.int .i64 0) 1 8 Try.underlying22 hi hz0 hz1 hz2 rfl (by decide) _ _ _ rfl (World.ownsRow.alloc (show w4.ownsRow (w.heap.size + 1) 3 1 u8 cs.length (cs.map (Value.int .i64)) from HPM2.out.own) _) ⟨w4.heap.size, 0, none⟩ 1 1 [.int .i64 (v : Int)] rfl rfl (one_at w4 _ _) (by simp [Value.oneCell']) (by unfold maxLen; have := HLE.out; omega) (by have := HLE.out; omega) (by have := lt_of_heap HPM2.out.bg; simp; omega) ?_; intro v5 w5 hownB hgrowB hqB; have HR5 := hide (HPM2.out.came hownB hgrowB); clear hownB hgrowB hqB)
            go_roundw
            case rel => exact ⟨j + 1, v, _, by omega, by omega, by simp, rfl, hvn, HNX.out, HC4.out, HR5.out⟩
            case measure => simp [RowKit.intOf]; omega
    · obtain rfl : j = k := by omega
      have HPM2 := hide hpm
      have b0 := cell_of hpm.bg (i := 0) rfl
      have HC4 := hide (hct.done (by omega))
      clear hct hpm hlow
      go_wp2_with (at_builtin; refine wpList_append_own _ rfl (.tmp 56) (.tmp 59) 22 rfl _ 3 i0 (.int .i64 0) 1 8 Try.underlying22 hi hz0 hz1 hz2 rfl (by decide) _ _ _ rfl (World.ownsRow.alloc (show wr.ownsRow (w.heap.size + 1) 3 1 u8 cs.length (cs.map (Value.int .i64)) from HPM2.out.own) _) ⟨wr.heap.size, 0, none⟩ 1 1 [.int .i64 (n : Int)] rfl rfl (one_at wr _ _) (by simp [Value.oneCell']) (by unfold maxLen; have := HLE.out; omega) (by have := HLE.out; omega) (by have := lt_of_heap HPM2.out.bg; simp; omega) ?_; intro v5 w5 hownB hgrowB hqB; have HR5 := hide (HPM2.out.came hownB hgrowB); clear hownB hgrowB hqB)
      go_ret2
      exact ⟨_, _, rfl, RowAt.of_owns HR5.out.own, HC4.out, HR5.out.bel⟩
end Go.Proofs.Ytmagigmcbegmiaa
