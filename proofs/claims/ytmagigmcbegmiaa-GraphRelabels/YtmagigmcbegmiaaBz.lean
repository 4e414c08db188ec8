/- graph.ByDegree. -/
import Derived.Test.YtmagigmcbegmiaaBy
namespace Go.Proofs.Ytmagigmcbegmiaa
open Go.RowKit Go.Lib
set_option linter.unusedVariables false
set_option linter.unusedSimpArgs false
theorem sort_belowF {α : Type} [Inhabited α] {enc : α → Value} {w : World} {fr g : Nat} {d : Array α} (hg : fr ≤ g) (hs : fr ≤ w.heap.size) (q : Nat) (os : Array Obj) : Below fr w (sortWorld enc w g 0 q d os) := by
  refine ⟨rfl, rfl, rfl, ?_, fun k hk => sort_other (by omega) (by omega)⟩
  unfold sortWorld
  rw [Go.Sort.size_grow, Go.Sort.size_putRow, Go.Sort.heap_ahead]
  omega
/-- The first i places filled. -/
def fiL (n i : Nat) : List Int := tab n (fun v => if v < i then (v : Int) else 0)
theorem fiL_zero (n : Nat) : fiL n 0 = tab n (fun _ => 0) := tab_congr fun v _ => if_neg (by omega)
theorem fiL_all (n : Nat) : fiL n n = valL (List.finRange n) := by
  apply List.ext_getElem
  · simp [fiL, valL, tab]
  · intro i h1 h2
    have : i < n := by simpa [fiL, tab] using h1
    simp [fiL, valL, tab, this]
theorem fiL_set (n i : Nat) (hi : i < n) : (fiL n i).set i (i : Int) = fiL n (i + 1) := by
  unfold fiL
  rw [tab_set]
  refine tab_congr fun v hv => ?_
  by_cases h : v = i
  · subst h; rw [if_pos rfl, if_pos (by omega)]
  · rw [if_neg h]
    by_cases h2 : v < i
    · rw [if_pos h2, if_pos (by omega)]
    · rw [if_neg h2, if_neg (by omega)]
def ByW (w : World) (n : Nat) (st : List Int) (e : Ending) (w' : World) : Prop :=
  ∃ A L, e = .returned (.tuple #[.slice (some ⟨A, 0, none⟩) n n, .int .i64 0]) ∧ Arr w' A (valL L) ∧ L.Perm (List.finRange n) ∧ L.Pairwise (fun a b => dg st b.val ≤ dg st a.val) ∧ Below w.heap.size w w'
/-- The box, and the list behind Z. -/
structure BY (w Z wr : World) (gb : Array Value) (L : List Int) : Prop where
  bel : Below w.heap.size w wr
  box : wr.heap[w.heap.size]? = some (.cells gb 25 (0, 0))
  arr : Arr wr Z.heap.size L
  lt : w.heap.size < Z.heap.size
theorem BY.put {w Z wr : World} {gb : Array Value} {L : List Int} (h : BY w Z wr gb L) (i : Nat) (x : Int) : BY w Z (wr.setCell ⟨Z.heap.size, i, none⟩ (.int .i64 x)) gb (L.set i x) := by
  have hl := h.lt
  have hc : Chg (fun k => k = Z.heap.size) wr (wr.setCell ⟨Z.heap.size, i, none⟩ (.int .i64 x)) := (Chg.refl (fun k => k = Z.heap.size) wr).setCell (p := ⟨Z.heap.size, i, none⟩) rfl _
  exact ⟨Chg.below h.bel hc (fun k hk => by omega) h.bel.size, hc.heap h.box (by omega), h.arr.put i x, hl⟩
set_option maxRecDepth 100000 in
set_option maxHeartbeats 4000000 in
theorem bydeg_good (n : Nat) (hn0 : 0 < n) (va vb vc : Value) (st tl wt : List Int) (w : World) (hg : GIs w n va vb vc st tl wt) (hgd : Good n st tl wt) :
    Calls Try.prog 34 #[gAgg n va vb vc] w (ByW w n st) := by
  haveI : Inhabited (Fin n) := ⟨⟨0, hn0⟩⟩
  obtain ⟨ao, ca, rfl⟩ := hg.s.shape
  obtain ⟨bo, cb, rfl⟩ := hg.t.shape
  obtain ⟨co, cc, rfl⟩ := hg.u.shape
  have hml := hgd.m_le
  have hn := hgd.n_le
  have hchk := good_chk' hgd
  obtain ⟨⟨r1, r2⟩, hrr⟩ : ∃ r, chk n st tl wt = r := ⟨_, rfl⟩
  rw [hrr] at hchk
  simp only at hchk
  subst hchk
  have hck := (fun W h => check_all n (.slice ao st.length ca) (.slice bo tl.length cb) (.slice co wt.length cc) st tl wt W h (by have := hgd.s_len; omega) (by omega) (by have := hgd.w_len; omega))
  rw [hrr] at hck
  have HCK := hide hck
  have HSR : Hid (st.length = n + 1 ∧ ∀ i, i ≤ n → 0 ≤ at_ st i ∧ at_ st i ≤ 4194304) := ⟨hgd.s_len, fun i hi => by have := hgd.range i hi; omega⟩
  obtain ⟨W, hW⟩ : ∃ W, W = w.alloc (.cells #[.int .i64 n, .slice ao st.length ca, .slice bo tl.length cb, .slice co wt.length cc] 25) := ⟨_, rfl⟩
  have hbW : Below w.heap.size w W := by rw [hW]; exact below_alloc (Below.refl _ _) _
  have hA : W.heap[w.heap.size]? = some (.cells #[.int .i64 n, .slice ao st.length ca, .slice bo tl.length cb, .slice co wt.length cc] 25 (0, 0)) := by rw [hW]; exact heap_new _ _
  have HG := hide hg
  have HBW := hide hbW
  have HA := hide hA
  have c0 := cell_of hA (i := 0) rfl
  have c1 := cell_of hA (i := 1) rfl
  have c2 := cell_of hA (i := 2) rfl
  have c3 := cell_of hA (i := 3) rfl
  have hmi := run_makeI n (by omega)
  unfold gAgg at HCK ⊢
  clear hg hck hrr hgd hbW hA
  go_enter Try.func34, Try.ntmps34
  go_upto_region 1 with fail
  rw [← hW]
  clear hW
  go_wp2_with fail
  refine (HCK.out W (HG.out.below HBW.out)).mono ?_
  rintro e w2 ⟨rfl, hb2⟩
  have hA2 : w2.heap[w.heap.size]? = some (.cells #[.int .i64 n, .slice ao st.length ca, .slice bo tl.length cb, .slice co wt.length cc] 25 (0, 0)) := (hb2.block _ (lt_of_heap HA.out)).trans HA.out
  have d0 := cell_of hA2 (i := 0) rfl
  obtain ⟨V, hV⟩ : ∃ V, V = w2.alloc (.cells (madeCells #[.int .i64 0] n) 3) := ⟨_, rfl⟩
  have HBY : Hid (BY w w2 V #[.int .i64 n, .slice ao st.length ca, .slice bo tl.length cb, .slice co wt.length cc] (fiL n 0)) := by
    have hbV : Below w2.heap.size w2 V := by rw [hV]; exact below_alloc (Below.refl _ _) _
    refine ⟨below_on HBW.out (below_on hb2 hbV), (hbV.block _ (lt_of_heap hA2)).trans hA2, ?_, lt_of_heap hA2⟩
    rw [fiL_zero]
    refine arr_new ?_
    rw [hV]; exact heap_new _ _
  have e0 : V.cell? ⟨w.heap.size, 0, none⟩ = some (.int .i64 n) := cell_of HBY.out.box (i := 0) rfl
  clear c0 c1 c2 c3 hb2 HCK HA hA2 HBW
  go_upto_region 5 with fail
  rw [← hV]
  clear hV hmi d0
  go_wp2_with fail
  clear e0
  go_loopw [22, 7] (fun t _ wr => ∃ i : Nat, t = .int .i64 (i : Int) ∧ i ≤ n ∧ BY w w2 wr #[.int .i64 n, .slice ao st.length ca, .slice bo tl.length cb, .slice co wt.length cc] (fiL n i)) (fun t _ _ => n - (RowKit.intOf t).toNat)
  case atStart => exact ⟨0, rfl, Nat.zero_le _, HBY.out⟩
  case round =>
    obtain ⟨i, rfl, hi, hby⟩ := hrel
    have HN := hide hby
    clear hby HBY
    by_cases hlt : i < n
    · have yc := HN.out.arr.cell i (by unfold fiL; rw [tab_length]; exact hlt)
      have yf := HN.out.arr.free i
      have hii : (i : Int) < (n : Int) := by omega
      go_wp2_with fail
      refine ⟨⟨i + 1, by simp, by omega, ?_⟩, by simp [RowKit.intOf]; omega⟩
      rw [← fiL_set n i hlt]
      exact HN.out.put _ _
    · obtain rfl : n = i := by omega
      clear hi hlt
      go_upto_region 11 with fail
      obtain ⟨U, hU⟩ : ∃ U, U = wr.alloc (.cells #[.func (.func 67) #[] #[.pointer (some ⟨w.heap.size, 0, none⟩)]] 111) := ⟨_, rfl⟩
      have hbU : Below wr.heap.size wr U := by rw [hU]; exact below_alloc (Below.refl _ _) _
      have hUA : U.heap[wr.heap.size]? = some (.cells #[.func (.func 67) #[] #[.pointer (some ⟨w.heap.size, 0, none⟩)]] 111 (0, 0)) := by rw [hU]; exact heap_new _ _
      rw [← hU]
      obtain ⟨Bd, hBd⟩ : ∃ Bd, Bd = wr.heap.size := ⟨_, rfl⟩
      have hAl : w2.heap.size < wr.heap.size := lt_of_heap HN.out.arr
      rw [← hBd] at hUA hAl ⊢
      have hbox : U.heap[w.heap.size]? = some (.cells #[.int .i64 n, .slice ao st.length ca, .slice bo tl.length cb, .slice co wt.length cc] 25 (0, 0)) := (hbU.block _ (lt_of_heap HN.out.box)).trans HN.out.box
      have hArr : Arr U w2.heap.size (valL (List.finRange n)) := by
        rw [← fiL_all]
        exact (hbU.block _ (lt_of_heap HN.out.arr)).trans HN.out.arr
      have hbel : Below w.heap.size w U := below_on HN.out.bel hbU
      have hlw := HN.out.lt
      have eg : ∀ args w, (callFunc 69 args).run Try.prog w = .ok (.enter 69 args) w := enters_of Try.func69 (by kernel_rfl) rfl
      have hcmp : CmpLays1 Try.prog 69 #[.pointer (some ⟨Bd, 0, none⟩)] (encF n) (dcF n st) w2.heap.size 0 (List.finRange n).toArray.size U := fun m os dk hs x y => by
        have hS : Below w.heap.size w (sortWorld (encF n) U w2.heap.size 0 m dk os) := hbel.trans (sort_belowF (by omega) hbel.size m os)
        refine dclos_any n x.val y.val w.heap.size Bd (.slice ao st.length ca) st _ hn x.isLt y.isLt HSR.out.1 HSR.out.2 (cell_of ((sort_other (by omega) (lt_of_heap hbox)).trans hbox) (i := 1) rfl) (HG.out.s.below hS) (cell_of ((sort_other (by omega) (lt_of_heap hUA)).trans hUA) (i := 0) rfl)
      have hcon := Any.slices_SortFunc_total Try.sortIn (encF n) (fun x => rfl) (dcF n st) (swo_dcF n st) 69 #[.pointer (some ⟨Bd, 0, none⟩)] w2.heap.size 0 n (List.finRange n).toArray U eg hcmp (holdsF hArr) (lt_of_heap hArr) (by simp; omega) (tot_dcF n st)
      change Calls Try.prog 68 _ _ _ at hcon
      rw [show (List.finRange n).toArray.size = n by simp] at hcon
      have HCO := hide hcon
      have HAR := hide hArr
      have HBE := hide hbel
      clear hcon hArr hbel hbox hUA hbU hU hBd hcmp eg
      go_wp2_with fail
      refine HCO.out.mono ?_
      rintro e w9 ⟨rfl, q, os, rfl⟩
      have hlen : (dsL n st (List.finRange n)).length = (List.finRange n).length := (dsL_perm n st _).length_eq
      have hfin := sort_arr (m := q) (os := os) HAR.out hlen
      have hb9 : Below w.heap.size w (sortWorld (encF n) U w2.heap.size 0 q (dsL n st (List.finRange n)).toArray os) := HBE.out.trans (sort_belowF (by omega) HBE.out.size q os)
      have HF := hide hfin
      have HB9 := hide hb9
      clear hfin hb9 hlen
      go_wp2_with fail
      go_ret2
      exact ⟨w2.heap.size, dsL n st (List.finRange n), rfl, HF.out, dsL_perm n st _, dsL_pair n st _, HB9.out⟩
end Go.Proofs.Ytmagigmcbegmiaa
