/- graph.Parts of a graph. -/
import Derived.Test.YtmagigmcbegmiaaGT2
import Derived.Test.YtmagigmcbegmiaaKept
import Derived.BigQuiet
import Derived.Deep.OwnRows
import Derived.Deep.Cut
namespace Go.Proofs.Ytmagigmcbegmiaa
open Go.RowKit Go.Lib
set_option linter.unusedVariables false
set_option linter.unusedSimpArgs false
theorem gw_cell {w : World} {b i : Nat} {v : Value} (h : w.cell? ⟨b, i, none⟩ = some v) (x : GW w) : x.world.cell? ⟨b, i, none⟩ = some v := (below_cell x.bel (block_of_cell h)).trans h
/-- The j-th cut: the first vertex at whose row's beginning j of k shares lie ahead. -/
def CutAt (n k : Nat) (st : List Int) (m j : Nat) (x : Int) : Prop := ∃ c : Nat, x = c ∧ c ≤ n ∧ (j : Int) * m ≤ at_ st c * k ∧ ∀ u, u < c → at_ st u * k < (j : Int) * m
structure CutsTo (n k : Nat) (st : List Int) (m j : Nat) (cs : List Int) : Prop where
  len : cs.length = k + 1
  zero : at_ cs 0 = 0
  cut : ∀ i, 1 ≤ i → i < j → CutAt n k st m i (at_ cs i)
theorem CutsTo.start (n k : Nat) (st : List Int) (m : Nat) : CutsTo n k st m 1 (tab (k + 1) (fun _ => 0)) :=
  ⟨tab_length _ _, tab_at _ _ _ (by omega), fun i h1 h2 => by omega⟩
theorem CutsTo.put {n k : Nat} {st : List Int} {m j : Nat} {cs : List Int} (h : CutsTo n k st m j cs) (h1 : 1 ≤ j) (hj : j < k) {x : Int} (hx : CutAt n k st m j x) : CutsTo n k st m (j + 1) (cs.set j x) := by
  refine ⟨by simp [h.len], ?_, fun i h2 h3 => ?_⟩
  · rw [at_put (by rw [h.len]; omega), if_neg (by omega)]; exact h.zero
  · rw [at_put (by rw [h.len]; omega)]
    by_cases e : i = j
    · rw [if_pos e, e]; exact hx
    · rw [if_neg e]; exact h.cut i h2 (by omega)
/-- What Parts answers. -/
structure Cuts (n k : Nat) (st : List Int) (m : Nat) (cs : List Int) : Prop where
  upT : CutsTo n k st m k cs
  last : at_ cs k = n
theorem CutsTo.done {n k : Nat} {st : List Int} {m : Nat} {cs : List Int} (h : CutsTo n k st m k cs) (hk : 1 ≤ k) : Cuts n k st m (cs.set k n) := by
  refine ⟨⟨by simp [h.len], ?_, fun i h2 h3 => ?_⟩, ?_⟩
  · rw [at_put (by rw [h.len]; omega), if_neg (by omega)]; exact h.zero
  · rw [at_put (by rw [h.len]; omega), if_neg (by omega)]; exact h.cut i h2 h3
  · rw [at_put (by rw [h.len]; omega), if_pos rfl]
/-- Parts' memory: the graph's box, the cuts. -/
structure PMm (w x : World) (n : Nat) (va vb vc : Value) (G : Nat) (cs : List Int) : Prop where
  bg : x.heap[w.heap.size]? = some (.cells #[.int .i64 n, va, vb, vc] 25 (0, 0))
  ar : Arr x G cs
  gl : w.heap.size < G
  bel : Below w.heap.size w x
theorem PMm.below {w x y : World} {n : Nat} {va vb vc : Value} {G : Nat} {cs : List Int} (h : PMm w x n va vb vc G cs) (hb : Below x.heap.size x y) : PMm w y n va vb vc G cs :=
  ⟨(hb.block _ (lt_of_heap h.bg)).trans h.bg, h.ar.below hb (lt_of_heap h.ar), h.gl, below_on h.bel hb⟩
theorem PMm.put {w x : World} {n : Nat} {va vb vc : Value} {G : Nat} {cs : List Int} (h : PMm w x n va vb vc G cs) (i : Nat) (z : Int) : PMm w (x.setCell ⟨G, i, none⟩ (.int .i64 z)) n va vb vc G (cs.set i z) :=
  ⟨(Below.heap_setCell _ _ _ _ (by show w.heap.size ≠ G; have := h.gl; omega)).trans h.bg, h.ar.put i z, h.gl, h.bel.setCell (p := ⟨G, i, none⟩) (by show w.heap.size ≤ G; have := h.gl; omega) _⟩
theorem Try.info3' : (Try.prog.info? 3).map (fun i => (i.zero, i.size, i.bytes)) = some (some (.int .i64 0), 1, 8) := by kernel_rfl
set_option maxRecDepth 100000 in
set_option maxHeartbeats 8000000 in
theorem parts_good (n k : Nat) (ao bo co : Option Addr) (ca cb cc m : Nat) (st tl wt : List Int) (w : World) (hg : GIs w n (.slice ao (n + 1) ca) (.slice bo m cb) (.slice co m cc) st tl wt) (hgd : Good n st tl wt) (hm : m = tl.length) (hk1 : 1 ≤ k) (hk : k ≤ 60) :
    Calls Try.prog 31 #[.agg #[.int .i64 n, .slice ao (n + 1) ca, .slice bo m cb, .slice co m cc], .int .i64 k] w fun e w' => ∃ G cs, e = .returned (.tuple #[.slice (some ⟨G, 0, none⟩) (k + 1) (k + 1), .int .i64 0]) ∧ Arr w' G cs ∧ Cuts n k st m cs ∧ Below w.heap.size w w' := by
  have hml := hgd.m_le
  rw [← hm] at hml
  have hn := hgd.n_le
  have hchk := good_chk' hgd
  obtain ⟨⟨r1, r2⟩, hrr⟩ : ∃ r, chk n st tl wt = r := ⟨_, rfl⟩
  rw [hrr] at hchk
  simp only at hchk
  subst hchk
  have hck := (fun W h => check_all n (.slice ao (n + 1) ca) (.slice bo m cb) (.slice co m cc) st tl wt W h (by have := hgd.s_len; omega) (by omega) (by have := hgd.w_len; omega))
  rw [hrr] at hck
  unfold gAgg at hck
  have HCK := hide hck
  have HG := hide hg
  have HGD := hide hgd
  have HM := hide hm
  have hb0 : Below w.heap.size w (w.alloc (.cells #[.int .i64 n, .slice ao (n + 1) ca, .slice bo m cb, .slice co m cc] 25)) := below_alloc (Below.refl _ _) _
  have hx0 := heap_new w (.cells #[.int .i64 n, .slice ao (n + 1) ca, .slice bo m cb, .slice co m cc] 25)
  have HX0 := hide hx0
  have HB0 := hide hb0
  have c0 := cell_of hx0 (i := 0) rfl
  have c1 := cell_of hx0 (i := 1) rfl
  have c2 := cell_of hx0 (i := 2) rfl
  have c3 := cell_of hx0 (i := 3) rfl
  have hmk := fun W => run_make_row' (P := Try.prog) 22 3 (.int .i64 0) 8 Try.underlying22 Try.info3' rfl .i64 .i64 (k + 1) (by omega) (by omega) W
  have hwk : IntKind.i64.wrap ((k : Int) + 1) = (k : Int) + 1 := IntWalk.i64_in _ (by omega)
  have e1 : ((k + 1 : Nat) : Int) = (k : Int) + 1 := by omega
  rw [e1] at hmk
  clear hg hck hrr hx0 hb0 hgd hm
  go_enter Try.func31, Try.ntmps31
  go_wp2_with fail
  generalize (w.alloc (.cells #[.int .i64 n, .slice ao (n + 1) ca, .slice bo m cb, .slice co m cc] 25)) = w1 at c0 c1 c2 c3 HX0 HB0 ⊢
  refine (HCK.out w1 (HG.out.below HB0.out)).mono ?_
  rintro e w2 ⟨rfl, hb2⟩
  have HX2 := hide ((hb2.block _ (lt_of_heap HX0.out)).trans HX0.out)
  have HB2 := hide (below_on HB0.out hb2)
  clear c0 c1 c2 c3 HX0 HB0 hb2 HCK
  go_wp2_with fail
  have HP0 := hide (show PMm w (w2.alloc (.cells (madeCells #[.int .i64 0] (k + 1)) 3)) n (.slice ao (n + 1) ca) (.slice bo m cb) (.slice co m cc) w2.heap.size (tab (k + 1) (fun _ => 0)) from
    ⟨(Below.heap_alloc _ _ _ (lt_of_heap HX2.out)).trans HX2.out, arr_new (heap_new _ _), by have := lt_of_heap HX2.out; omega, below_alloc HB2.out _⟩)
  generalize (w2.alloc (Obj.cells (madeCells #[Value.int IntKind.i64 0] (k + 1)) 3)) = w3 at HP0 ⊢
  generalize w2.heap.size = G at HP0 ⊢
  clear HX2 HB2 hmk
  have HK1 := hide hk1
  have HK2 := hide hk
  have HML := hide hml
  have HNL := hide hn
  have hk2 : (k : Int) ≤ 60 := by omega
  clear hk1 hk hml hn
  go_loopw [9, 10] (fun t9 t wr => ∃ (j v : Nat) (cs : List Int), 1 ≤ j ∧ j ≤ k ∧ t = .int .i64 j ∧ t9 = .int .i64 v ∧ v ≤ n ∧ (∀ u, u < v → at_ st u * k < (j : Int) * m) ∧ CutsTo n k st m j cs ∧ PMm w wr n (.slice ao (n + 1) ca) (.slice bo m cb) (.slice co m cc) G cs) (fun _ t _ => k - (RowKit.intOf t).toNat)
  case atStart => exact ⟨1, 0, _, by omega, by have := HK1.out; omega, rfl, rfl, by omega, fun u hu => by omega, CutsTo.start _ _ _ _, HP0.out⟩
  case round =>
    obtain ⟨j, v, cs, hj1, hjk, rfl, rfl, hvn, hlow, hct, hpm⟩ := hrel
    clear HP0
    by_cases hlt : j < k
    · have HCT := hide hct
      have HPM := hide hpm
      have HLOW := hide hlow
      clear hct hpm hlow
      have hji : (j : Int) < (k : Int) := by omega
      go_wp2_with fail
      go_loopw [9] (fun t9 wr' => ∃ v : Nat, t9 = .int .i64 v ∧ v ≤ n ∧ (∀ u, u < v → at_ st u * k < (j : Int) * m) ∧ PMm w wr' n (.slice ao (n + 1) ca) (.slice bo m cb) (.slice co m cc) G cs) (fun t _ => n - (RowKit.intOf t).toNat)
      case atStart => exact ⟨v, rfl, hvn, HLOW.out, HPM.out⟩
      case round =>
        obtain ⟨v, rfl, hvn, hlow, hpm⟩ := hrel
        clear HPM HLOW
        have HPM := hide hpm
        have HLOW := hide hlow
        have b1 := gw_cell (cell_of hpm.bg (i := 1) rfl)
        have b2 := gw_cell (cell_of hpm.bg (i := 2) rfl)
        obtain ⟨gs, os, cs', hes, _, p⟩ := (HG.out.below hpm.bel).s.cellAt v (by rw [HGD.out.s_len]; omega)
        simp only [Value.slice.injEq] at hes
        obtain ⟨rfl, hl9, rfl⟩ := hes
        clear hl9
        have b3 := gw_cell p
        have hrg := HGD.out.range v hvn
        rw [← HM.out] at hrg
        clear hpm hlow p
        obtain ⟨x, hx⟩ : ∃ x, x = at_ st v := ⟨_, rfl⟩
        rw [← hx] at b3 hrg
        have HXV := hide hx
        clear hx
        have hv1 : v < n + 1 := by omega
        have hx0 : 0 ≤ x * (k : Int) := Int.mul_nonneg hrg.1 (by omega)
        have hx1 : x * (k : Int) ≤ 4194304 * 60 := Int.mul_le_mul (by have := HML.out; omega) hk2 (by omega) (by omega)
        have hq0 : 0 ≤ (j : Int) * (m : Int) := Int.mul_nonneg (by omega) (by omega)
        have hq1 : (j : Int) * (m : Int) ≤ 60 * 4194304 := Int.mul_le_mul (by omega) (by have := HML.out; omega) (by omega) (by omega)
        have hwx : IntKind.i64.wrap (x * (k : Int)) = x * (k : Int) := IntWalk.i64_in _ (by omega)
        have hwq : IntKind.i64.wrap ((j : Int) * (m : Int)) = (j : Int) * (m : Int) := IntWalk.i64_in _ (by omega)
        have hwv : IntKind.i64.wrap ((v : Int) + 1) = (v : Int) + 1 := IntWalk.i64_in _ (by have := HNL.out; omega)
        have HLAST : Hid (x * (k : Int) < (j : Int) * (m : Int) → v < n) := fun hc => by
          rcases Nat.lt_or_ge v n with h | h
          · exact h
          · exfalso
            obtain rfl : v = n := by omega
            have e : x = (m : Int) := by rw [HXV.out, HGD.out.last, HM.out]
            rw [e, Int.mul_comm] at hc
            have := Int.mul_le_mul_of_nonneg_right (show (j : Int) ≤ (k : Int) by omega) (show (0 : Int) ≤ (m : Int) by omega)
            omega
        clear hx0 hx1 hq0 hq1
        by_cases hc : x * (k : Int) < (j : Int) * (m : Int)
        · have HC := hide hc
          go_wp2_with fail
          refine wp_region_gw (by kernel_rfl) (by kernel_rfl) ?_
          repeat (go_big_quiet_step (rfl))
          refine wpQuiet_nil ?_
          intro _ hw'
          obtain ⟨x', hw''⟩ := hw'
          subst hw''
          have HPM2 := hide (HPM.out.below x'.bel)
          clear b1 b2 b3
          generalize x'.world = w4 at HPM2 ⊢
          clear x'
          go_wp2
          go_roundw
          case rel =>
            refine ⟨v + 1, by simp, HLAST.out HC.out, fun u hu => ?_, HPM2.out⟩
            rcases Nat.lt_or_ge u v with h | h
            · exact HLOW.out u h
            · obtain rfl : u = v := by omega
              rw [← HXV.out]; exact HC.out
          case measure => have := HLAST.out HC.out; simp [RowKit.intOf]; omega
        · have HC := hide hc
          go_wp2_with fail
          refine wp_region_gw (by kernel_rfl) (by kernel_rfl) ?_
          repeat (go_big_quiet_step (rfl))
          refine wpQuiet_nil ?_
          intro _ hw'
          obtain ⟨x', hw''⟩ := hw'
          subst hw''
          have HPM2 := hide (HPM.out.below x'.bel)
          clear b1 b2 b3
          generalize x'.world = w4 at HPM2 ⊢
          clear x'
          have a1 := HPM2.out.ar.cell j (by rw [HCT.out.len]; omega)
          have a2 := HPM2.out.ar.free j
          have hjk1 : (j : Int) < (k : Int) + 1 := by omega
          have hjk2 : j < k + 1 := by omega
          have HP4 := hide (HPM2.out.put j (v : Int))
          have HC4 := hide (HCT.out.put hj1 hlt ⟨v, rfl, hvn, by rw [← HXV.out]; have := HC.out; omega, HLOW.out⟩)
          have hwj : IntKind.i64.wrap ((j : Int) + 1) = (j : Int) + 1 := IntWalk.i64_in _ (by omega)
          go_wp2_with fail
          go_roundw
          case rel =>
            refine ⟨j + 1, v, _, by omega, by omega, by simp, rfl, hvn, fun u hu => ?_, HC4.out, HP4.out⟩
            have h1 := HLOW.out u hu
            have e : ((j + 1 : Nat) : Int) * (m : Int) = (j : Int) * m + m := by rw [Int.natCast_add, Int.add_mul]; simp
            rw [e]
            omega
          case measure => simp [RowKit.intOf]; omega
    · obtain rfl : j = k := by omega
      have b0 := cell_of hpm.bg (i := 0) rfl
      have a1 := hpm.ar.cell j (by rw [hct.len]; omega)
      have a2 := hpm.ar.free j
      have HP4 := hide (hpm.put j (n : Int))
      have HC4 := hide (hct.done (by omega))
      have hjk1 : (j : Int) < (j : Int) + 1 := by omega
      have hjk2 : j < j + 1 := by omega
      clear hct hpm hlow
      go_wp2_with fail
      go_ret2
      exact ⟨G, _, rfl, HP4.out.ar, HC4.out, HP4.out.bel⟩
end Go.Proofs.Ytmagigmcbegmiaa
