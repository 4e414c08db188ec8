import Derived.Laws.EntriesVeiled
import Derived.Test.YtmagigmcbegmiaaSoE
import Derived.Test.YtmagigmcbegmiaaRl
import Derived.Deep.RegionHeld3
import Derived.BigRegion
import Derived.BigQuiet
import Derived.Test.YtmagigmcbegmiaaRr
import Derived.Shelf.SlSortCmp.NoneTotal
/- graph.ByDegree: the comparison. -/
namespace Go.Proofs.Ytmagigmcbegmiaa
open Go.RowKit Go.Lib
set_option linter.unusedVariables false
/-- How many edges a vertex has. -/
def dg (st : List Int) (v : Nat) : Int := at_ st (v + 1) - at_ st v
set_option maxRecDepth 100000 in
theorem deg_any (n v Bg : Nat) (va : Value) (st : List Int) (w : World) (hn : n ≤ 1048576) (hv : v < n) (hl : st.length = n + 1) (hr : ∀ i, i ≤ n → 0 ≤ at_ st i ∧ at_ st i ≤ 4194304) (hc : w.cell? ⟨Bg, 1, none⟩ = some va) (hs : RowAt .i64 w va st) :
    Calls Try.prog 67 #[.int .i64 (v : Int), .pointer (some ⟨Bg, 0, none⟩)] w fun e w' => e = .returned (.int .i64 (dg st v)) ∧ ∃ q, w' = w.drewN q := by
  obtain ⟨g, o, c, he, _, s0⟩ := hs.cellAt v (by omega)
  subst he
  obtain ⟨g1, o1, c1, he, _, s1⟩ := hs.cellAt (v + 1) (by omega)
  simp only [Value.slice.injEq, Option.some.injEq, Addr.mk.injEq, and_true, true_and] at he
  obtain ⟨⟨rfl, rfl⟩, rfl⟩ := he
  have r0 := hr v (by omega)
  have r1 := hr (v + 1) (by omega)
  unfold dg
  obtain ⟨a, ha⟩ : ∃ a, a = at_ st v := ⟨_, rfl⟩
  obtain ⟨b, hb⟩ : ∃ b, b = at_ st (v + 1) := ⟨_, rfl⟩
  rw [← ha] at s0 r0 ⊢
  rw [← hb] at s1 r1 ⊢
  have h1 : (v : Int) + 1 < (st.length : Int) := by omega
  have h2 : (v : Int) < (st.length : Int) := by omega
  clear ha hb hs hr
  go_enter Try.func67, Try.ntmps67
  go_upto_region 1 with fail
  go_quiet (fail)
  go_wp2_with fail
  go_ret
  exact ⟨rfl, _, rfl⟩
/-- Those with the most edges first, then by number. -/
def dcf (st : List Int) (x y : Nat) : Int := or2 (cmpI (dg st y) (dg st x)) (cmpI (x : Int) (y : Int))
set_option maxRecDepth 100000 in
set_option maxHeartbeats 4000000 in
theorem dclos_any (n x y Bg Bd : Nat) (va : Value) (st : List Int) (w : World) (hn : n ≤ 1048576) (hx : x < n) (hy : y < n) (hl : st.length = n + 1) (hr : ∀ i, i ≤ n → 0 ≤ at_ st i ∧ at_ st i ≤ 4194304) (hc : w.cell? ⟨Bg, 1, none⟩ = some va) (hs : RowAt .i64 w va st) (hd : w.cell? ⟨Bd, 0, none⟩ = some (.func (.func 67) #[] #[.pointer (some ⟨Bg, 0, none⟩)])) :
    Calls Try.prog 69 #[.int .i64 (x : Int), .int .i64 (y : Int), .pointer (some ⟨Bd, 0, none⟩)] w fun e w' => e = .returned (.int .i64 (dcf st x y)) ∧ ∃ q os', w' = Go.Sort.grow (w.drewN q) os' := by
  have HD : Hid (∀ (v : Nat) X, v < n → Below w.heap.size w X → Calls Try.prog 67 #[.int .i64 (v : Int), .pointer (some ⟨Bg, 0, none⟩)] X fun e w' => e = .returned (.int .i64 (dg st v)) ∧ ∃ q', w' = X.drewN q') := fun v X hv hX => deg_any n v Bg va st X hn hv hl hr ((below_cell hX (block_of_cell hc)).trans hc) (hs.below hX)
  have HC := hide (fun a b W => cmpI_any a b W)
  have HO : Hid (∀ k a b, Calls Try.prog 70 #[.slice (some ⟨w.heap.size, 0, none⟩) 2 2] ((w.drewN k).alloc (.cells #[.int .i64 a, .int .i64 b] 3)) fun e w' => e = .returned (.int .i64 (or2 a b)) ∧ w' = (w.drewN k).alloc (.cells #[.int .i64 a, .int .i64 b] 3)) := fun k a b => or_any a b w.heap.size _ (cell_of (i := 0) (heap_new (w.drewN k) (.cells #[.int .i64 a, .int .i64 b] 3)) rfl) (cell_of (i := 1) (heap_new (w.drewN k) (.cells #[.int .i64 a, .int .i64 b] 3)) rfl)
  unfold dcf
  clear hs hr hc
  go_enter Try.func69, Try.ntmps69
  go_upto_region 1 with fail
  refine wp_region_noPanic ?_
  go_region_held3 (fun z => z.cell? ⟨Bd, 0, none⟩ = some (.func (.func 67) #[] #[.pointer (some ⟨Bg, 0, none⟩)])) (first | exact hd | exact cellAl _ hd)
    (first
      | (go_at_call 71; refine (HC.out _ _ _).mono ?_; rintro e w' ⟨rfl, rfl⟩)
      | (go_at_call 67; refine (HD.out _ _ (by assumption) (by first | exact below_drew (Below.refl _ _) | exact ⟨rfl, rfl, rfl, Nat.le_refl _, fun _ _ => rfl⟩)).mono ?_; rintro e8 w8 ⟨rfl, q8, rfl⟩)
      | (go_at_call 70; refine (HO.out _ _ _).mono ?_; rintro e w' ⟨rfl, rfl⟩))
  refine NoPanic.normal ?_
  go_wp2_with fail
  go_ret
  exact ⟨rfl, _, #[.cells #[.int .i64 (cmpI (dg st y) (dg st x)), .int .i64 (cmpI (x : Int) (y : Int))] 3], Go.Sort.alloc_eq_grow _ _⟩
end Go.Proofs.Ytmagigmcbegmiaa

/- graph.ByDegree: the sorted vertices, plainly. -/
namespace Go.Proofs.Ytmagigmcbegmiaa
open Go.RowKit Go.Lib
set_option linter.unusedVariables false
set_option linter.unusedSimpArgs false
/-- Ahead: more edges, or as many and the lesser number. -/
def dlt (st : List Int) (x y : Nat) : Bool := decide (dg st y < dg st x ∨ (dg st x = dg st y ∧ x < y))
theorem dlt_iff (st : List Int) (x y : Nat) : dlt st x y = true ↔ (dg st y < dg st x ∨ (dg st x = dg st y ∧ x < y)) := by simp [dlt]
theorem dlt_niff (st : List Int) (x y : Nat) : dlt st x y = false ↔ ¬ (dg st y < dg st x ∨ (dg st x = dg st y ∧ x < y)) := by simp [dlt]
def dcF (n : Nat) (st : List Int) (x y : Fin n) : Int := dcf st x.val y.val
theorem ltOf_dcF (n : Nat) (st : List Int) : ltOf (dcF n st) = fun x y => dlt st x.val y.val := by
  funext a b
  simp only [ltOf, dlt, dcF, dcf, or2, cmpI]
  congr 1
  apply propext
  constructor
  · intro h; repeat' split at h
    all_goals first | omega | (exfalso; omega)
  · intro h; repeat' split
    all_goals first | omega | (exfalso; omega)
theorem swo_dcF (n : Nat) (st : List Int) : Go.Sort.SWO (ltOf (dcF n st)) where
  irrefl x := by rw [ltOf_dcF]; show dlt st _ _ = false; rw [dlt_niff]; omega
  trans x y z h1 h2 := by rw [ltOf_dcF] at *; simp only [dlt_iff] at *; omega
  ntrans x y z h1 h2 := by rw [ltOf_dcF] at *; simp only [dlt_niff] at *; omega
theorem tot_dcF (n : Nat) (st : List Int) (x y : Fin n) (h1 : (ltOf (dcF n st)) x y = false) (h2 : (ltOf (dcF n st)) y x = false) : x = y := by
  rw [ltOf_dcF] at *
  simp only [dlt_niff] at *
  exact Fin.ext (by omega)
/-- The vertices in their order. -/
def dsL (n : Nat) (st : List Int) (l : List (Fin n)) : List (Fin n) := l.mergeSort fun x y => !(ltOf (dcF n st)) y x
theorem dsL_perm (n : Nat) (st : List Int) (l : List (Fin n)) : (dsL n st l).Perm l := List.mergeSort_perm _ _
theorem dsL_pair (n : Nat) (st : List Int) (l : List (Fin n)) : (dsL n st l).Pairwise (fun a b => dg st b.val ≤ dg st a.val) := by
  have h := List.pairwise_mergeSort (le := fun x y => !(ltOf (dcF n st)) y x) (fun a b c h1 h2 => by
    rw [ltOf_dcF] at *
    simp only [Bool.not_eq_true', dlt_niff] at *
    omega) (fun a b => by
    rw [ltOf_dcF]
    simp only [Bool.or_eq_true, Bool.not_eq_true', dlt_niff]
    omega) l
  refine h.imp ?_
  intro a b hab
  rw [ltOf_dcF] at hab
  simp only [Bool.not_eq_true', dlt_niff] at hab
  omega
/-- As numbers. -/
def valL {n : Nat} (l : List (Fin n)) : List Int := l.map (fun v => (v.val : Int))
theorem valL_at {n : Nat} (l : List (Fin n)) (i : Nat) (hi : i < l.length) : at_ (valL l) i = (l[i].val : Int) := by simp [at_, valL, hi]
/-- All vertices, each once: an order. -/
theorem prm_of {n : Nat} {l : List (Fin n)} (h : l.Perm (List.finRange n)) : Prm n (valL l) (fun v => l.findIdx (fun x => decide (x.val = v))) := by
  have hl : l.length = n := by rw [h.length_eq]; simp
  have hnd : l.Nodup := h.nodup_iff.2 (List.nodup_finRange n)
  refine ⟨by simp [valL, hl], fun i hi => ?_, fun v hv => ?_⟩
  · have hil : i < l.length := by omega
    refine ⟨l[i].val, valL_at l i hil, l[i].isLt, ?_⟩
    rw [List.findIdx_eq hil]
    refine ⟨by simp, fun j hj => ?_⟩
    simp only [decide_eq_false_iff_not]
    intro he
    have he2 : l[j] = l[i] := Fin.ext he
    exact (List.pairwise_iff_getElem.1 hnd) j i (by omega) hil hj he2
  · have hm : (⟨v, hv⟩ : Fin n) ∈ l := h.mem_iff.2 (List.mem_finRange _)
    have hlt : l.findIdx (fun x => decide (x.val = v)) < l.length := List.findIdx_lt_length_of_exists ⟨_, hm, by simp⟩
    refine ⟨by omega, ?_⟩
    rw [valL_at _ _ hlt]
    have := List.findIdx_getElem (w := hlt)
    simp only [decide_eq_true_eq] at this
    rw [this]
/-- What lies elsewhere stays while it is sorted. -/
theorem sort_other {α : Type} [Inhabited α] {enc : α → Value} {w : World} {blk off m k : Nat} {dk : Array α} {os : Array Obj} (hk : k ≠ blk) (hl : k < w.heap.size) : (sortWorld enc w blk off m dk os).heap[k]? = w.heap[k]? := by
  unfold sortWorld
  rw [Go.Sort.heap_grow_old _ _ (by rw [Go.Sort.size_putRow]; exact hl)]
  show (Go.Sort.mapBlock (Go.Sort.ahead w m) blk _).heap[k]? = _
  simp only [Go.Sort.mapBlock, Go.Sort.heap_ahead, Array.getElem?_modify]
  rw [if_neg (fun h => hk h.symm)]
def encF (n : Nat) (v : Fin n) : Value := .int .i64 (v.val : Int)
theorem holdsF {n : Nat} {w : World} {blk : Nat} {l : List (Fin n)} [Inhabited (Fin n)] (h : Arr w blk (valL l)) : Go.Sort.Holds (encF n) w blk 0 l.toArray := by
  intro j hj
  have hjl : j < l.length := by simpa using hj
  have hjv : j < (valL l).length := by simpa [valL] using hjl
  refine ⟨?_, ?_⟩
  · rw [Nat.zero_add, h.cell j hjv, valL_at l j hjl]
    unfold encF
    rw [getElem!_pos _ j hj]
    rfl
  · rw [Nat.zero_add]; exact h.free j
theorem sort_arr {n : Nat} {w : World} {blk m : Nat} {l l' : List (Fin n)} {os : Array Obj} [Inhabited (Fin n)] (h : Arr w blk (valL l)) (hl : l'.length = l.length) : Arr (sortWorld (encF n) w blk 0 m l'.toArray os) blk (valL l') := by
  have hb : blk < w.heap.size := lt_of_heap h
  unfold Arr sortWorld
  rw [Go.Sort.heap_grow_old _ _ (by rw [Go.Sort.size_putRow]; exact hb)]
  show (Go.Sort.mapBlock (Go.Sort.ahead w m) blk _).heap[blk]? = _
  unfold Arr at h
  simp only [Go.Sort.mapBlock, Go.Sort.heap_ahead, Array.getElem?_modify, if_true, h, Option.map_some, Go.Sort.onCells]
  congr 2
  apply Array.ext_getElem?
  intro j
  simp only [Go.Sort.putCells, iCells, valL, Array.getElem?_mapIdx]
  rcases Nat.lt_or_ge j l.length with hj | hj
  · have hj' : j < l'.length := by omega
    simp [hj, hj', encF]
  · have hj' : ¬ j < l'.length := by omega
    have hj2 : ¬ j < l.length := by omega
    simp [hj', hj2]
end Go.Proofs.Ytmagigmcbegmiaa

/- graph.ByDegree. -/
namespace Go.Proofs.Ytmagigmcbegmiaa
open Go.RowKit Go.Lib
set_option linter.unusedVariables false
set_option linter.unusedSimpArgs false
theorem sort_belowF {α : Type} [Inhabited α] {enc : α → Value} {w : World} {fr g : Nat} {d : Array α} (hg : fr ≤ g) (hs : fr ≤ w.heap.size) (q : Nat) (os : Array Obj) : Below fr w (sortWorld enc w g 0 q d os) := by
  refine ⟨rfl, rfl, rfl, ?_, fun k hk => sort_other (by omega) (by omega)⟩
  unfold sortWorld
  rw [Go.Sort.size_grow, Go.Sort.size_putRow, Go.Sort.heap_ahead]
  omega
/-- The first i places filled. -/
def fiL (n i : Nat) : List Int := tab n (fun v => if v < i then (v : Int) else 0)
theorem fiL_zero (n : Nat) : fiL n 0 = tab n (fun _ => 0) := tab_congr fun v _ => if_neg (by omega)
theorem fiL_all (n : Nat) : fiL n n = valL (List.finRange n) := by
  apply List.ext_getElem
  · simp [fiL, valL, tab]
  · intro i h1 h2
    have : i < n := by simpa [fiL, tab] using h1
    simp [fiL, valL, tab, this]
theorem fiL_set (n i : Nat) (hi : i < n) : (fiL n i).set i (i : Int) = fiL n (i + 1) := by
  unfold fiL
  rw [tab_set]
  refine tab_congr fun v hv => ?_
  by_cases h : v = i
  · subst h; rw [if_pos rfl, if_pos (by omega)]
  · rw [if_neg h]
    by_cases h2 : v < i
    · rw [if_pos h2, if_pos (by omega)]
    · rw [if_neg h2, if_neg (by omega)]
def ByW (w : World) (n : Nat) (st : List Int) (e : Ending) (w' : World) : Prop :=
  ∃ A L, e = .returned (.tuple #[.slice (some ⟨A, 0, none⟩) n n, .int .i64 0]) ∧ Arr w' A (valL L) ∧ L.Perm (List.finRange n) ∧ L.Pairwise (fun a b => dg st b.val ≤ dg st a.val) ∧ Below w.heap.size w w'
/-- The box, and the list behind Z. -/
structure BY (w Z wr : World) (gb : Array Value) (L : List Int) : Prop where
  bel : Below w.heap.size w wr
  box : wr.heap[w.heap.size]? = some (.cells gb 25 (0, 0))
  arr : Arr wr Z.heap.size L
  lt : w.heap.size < Z.heap.size
theorem BY.put {w Z wr : World} {gb : Array Value} {L : List Int} (h : BY w Z wr gb L) (i : Nat) (x : Int) : BY w Z (wr.setCell ⟨Z.heap.size, i, none⟩ (.int .i64 x)) gb (L.set i x) := by
  have hl := h.lt
  have hc : Chg (fun k => k = Z.heap.size) wr (wr.setCell ⟨Z.heap.size, i, none⟩ (.int .i64 x)) := (Chg.refl (fun k => k = Z.heap.size) wr).setCell (p := ⟨Z.heap.size, i, none⟩) rfl _
  exact ⟨Chg.below h.bel hc (fun k hk => by omega) h.bel.size, hc.heap h.box (by omega), h.arr.put i x, hl⟩
set_option maxRecDepth 100000 in
set_option maxHeartbeats 4000000 in
theorem bydeg_good (n : Nat) (hn0 : 0 < n) (va vb vc : Value) (st tl wt : List Int) (w : World) (hg : GIs w n va vb vc st tl wt) (hgd : Good n st tl wt) :
    Calls Try.prog 34 #[gAgg n va vb vc] w (ByW w n st) := by
  haveI : Inhabited (Fin n) := ⟨⟨0, hn0⟩⟩
  obtain ⟨ao, ca, rfl⟩ := hg.s.shape
  obtain ⟨bo, cb, rfl⟩ := hg.t.shape
  obtain ⟨co, cc, rfl⟩ := hg.u.shape
  have hml := hgd.m_le
  have hn := hgd.n_le
  have hchk := good_chk' hgd
  obtain ⟨⟨r1, r2⟩, hrr⟩ : ∃ r, chk n st tl wt = r := ⟨_, rfl⟩
  rw [hrr] at hchk
  simp only at hchk
  subst hchk
  have hck := (fun W h => check_all n (.slice ao st.length ca) (.slice bo tl.length cb) (.slice co wt.length cc) st tl wt W h (by have := hgd.s_len; omega) (by omega) (by have := hgd.w_len; omega))
  rw [hrr] at hck
  have HCK := hide hck
  have HSR : Hid (st.length = n + 1 ∧ ∀ i, i ≤ n → 0 ≤ at_ st i ∧ at_ st i ≤ 4194304) := ⟨hgd.s_len, fun i hi => by have := hgd.range i hi; omega⟩
  obtain ⟨W, hW⟩ : ∃ W, W = w.alloc (.cells #[.int .i64 n, .slice ao st.length ca, .slice bo tl.length cb, .slice co wt.length cc] 25) := ⟨_, rfl⟩
  have hbW : Below w.heap.size w W := by rw [hW]; exact below_alloc (Below.refl _ _) _
  have hA : W.heap[w.heap.size]? = some (.cells #[.int .i64 n, .slice ao st.length ca, .slice bo tl.length cb, .slice co wt.length cc] 25 (0, 0)) := by rw [hW]; exact heap_new _ _
  have HG := hide hg
  have HBW := hide hbW
  have HA := hide hA
  have c0 := cell_of hA (i := 0) rfl
  have c1 := cell_of hA (i := 1) rfl
  have c2 := cell_of hA (i := 2) rfl
  have c3 := cell_of hA (i := 3) rfl
  have hmi := run_makeI n (by omega)
  unfold gAgg at HCK ⊢
  clear hg hck hrr hgd hbW hA
  go_enter Try.func34, Try.ntmps34
  go_upto_region 1 with fail
  rw [← hW]
  clear hW
  go_wp2_with fail
  refine (HCK.out W (HG.out.below HBW.out)).mono ?_
  rintro e w2 ⟨rfl, hb2⟩
  have hA2 : w2.heap[w.heap.size]? = some (.cells #[.int .i64 n, .slice ao st.length ca, .slice bo tl.length cb, .slice co wt.length cc] 25 (0, 0)) := (hb2.block _ (lt_of_heap HA.out)).trans HA.out
  have d0 := cell_of hA2 (i := 0) rfl
  obtain ⟨V, hV⟩ : ∃ V, V = w2.alloc (.cells (madeCells #[.int .i64 0] n) 3) := ⟨_, rfl⟩
  have HBY : Hid (BY w w2 V #[.int .i64 n, .slice ao st.length ca, .slice bo tl.length cb, .slice co wt.length cc] (fiL n 0)) := by
    have hbV : Below w2.heap.size w2 V := by rw [hV]; exact below_alloc (Below.refl _ _) _
    refine ⟨below_on HBW.out (below_on hb2 hbV), (hbV.block _ (lt_of_heap hA2)).trans hA2, ?_, lt_of_heap hA2⟩
    rw [fiL_zero]
    refine arr_new ?_
    rw [hV]; exact heap_new _ _
  have e0 : V.cell? ⟨w.heap.size, 0, none⟩ = some (.int .i64 n) := cell_of HBY.out.box (i := 0) rfl
  clear c0 c1 c2 c3 hb2 HCK HA hA2 HBW
  go_upto_region 5 with fail
  rw [← hV]
  clear hV hmi d0
  go_wp2_with fail
  clear e0
  go_loopw [22, 7] (fun t _ wr => ∃ i : Nat, t = .int .i64 (i : Int) ∧ i ≤ n ∧ BY w w2 wr #[.int .i64 n, .slice ao st.length ca, .slice bo tl.length cb, .slice co wt.length cc] (fiL n i)) (fun t _ _ => n - (RowKit.intOf t).toNat)
  case atStart => exact ⟨0, rfl, Nat.zero_le _, HBY.out⟩
  case round =>
    obtain ⟨i, rfl, hi, hby⟩ := hrel
    have HN := hide hby
    clear hby HBY
    by_cases hlt : i < n
    · have yc := HN.out.arr.cell i (by unfold fiL; rw [tab_length]; exact hlt)
      have yf := HN.out.arr.free i
      have hii : (i : Int) < (n : Int) := by omega
      go_wp2_with fail
      refine ⟨⟨i + 1, by simp, by omega, ?_⟩, by simp [RowKit.intOf]; omega⟩
      rw [← fiL_set n i hlt]
      exact HN.out.put _ _
    · obtain rfl : n = i := by omega
      clear hi hlt
      go_upto_region 11 with fail
      obtain ⟨U, hU⟩ : ∃ U, U = wr.alloc (.cells #[.func (.func 67) #[] #[.pointer (some ⟨w.heap.size, 0, none⟩)]] 111) := ⟨_, rfl⟩
      have hbU : Below wr.heap.size wr U := by rw [hU]; exact below_alloc (Below.refl _ _) _
      have hUA : U.heap[wr.heap.size]? = some (.cells #[.func (.func 67) #[] #[.pointer (some ⟨w.heap.size, 0, none⟩)]] 111 (0, 0)) := by rw [hU]; exact heap_new _ _
      rw [← hU]
      obtain ⟨Bd, hBd⟩ : ∃ Bd, Bd = wr.heap.size := ⟨_, rfl⟩
      have hAl : w2.heap.size < wr.heap.size := lt_of_heap HN.out.arr
      rw [← hBd] at hUA hAl ⊢
      have hbox : U.heap[w.heap.size]? = some (.cells #[.int .i64 n, .slice ao st.length ca, .slice bo tl.length cb, .slice co wt.length cc] 25 (0, 0)) := (hbU.block _ (lt_of_heap HN.out.box)).trans HN.out.box
      have hArr : Arr U w2.heap.size (valL (List.finRange n)) := by
        rw [← fiL_all]
        exact (hbU.block _ (lt_of_heap HN.out.arr)).trans HN.out.arr
      have hbel : Below w.heap.size w U := below_on HN.out.bel hbU
      have hlw := HN.out.lt
      have eg : ∀ args w, (callFunc 69 args).run Try.prog w = .ok (.enter 69 args) w := enters_of Try.func69 (by kernel_rfl) rfl
      have hcmp : CmpLays1 Try.prog 69 #[.pointer (some ⟨Bd, 0, none⟩)] (encF n) (dcF n st) w2.heap.size 0 (List.finRange n).toArray.size U := fun m os dk hs x y => by
        have hS : Below w.heap.size w (sortWorld (encF n) U w2.heap.size 0 m dk os) := hbel.trans (sort_belowF (by omega) hbel.size m os)
        refine dclos_any n x.val y.val w.heap.size Bd (.slice ao st.length ca) st _ hn x.isLt y.isLt HSR.out.1 HSR.out.2 (cell_of ((sort_other (by omega) (lt_of_heap hbox)).trans hbox) (i := 1) rfl) (HG.out.s.below hS) (cell_of ((sort_other (by omega) (lt_of_heap hUA)).trans hUA) (i := 0) rfl)
      have hcon := Any.slices_SortFunc_total Try.sortIn (encF n) (fun x => rfl) (dcF n st) (swo_dcF n st) 69 #[.pointer (some ⟨Bd, 0, none⟩)] w2.heap.size 0 n (List.finRange n).toArray U eg hcmp (holdsF hArr) (lt_of_heap hArr) (by simp; omega) (tot_dcF n st)
      change Calls Try.prog 68 _ _ _ at hcon
      rw [show (List.finRange n).toArray.size = n by simp] at hcon
      have HCO := hide hcon
      have HAR := hide hArr
      have HBE := hide hbel
      clear hcon hArr hbel hbox hUA hbU hU hBd hcmp eg
      go_wp2_with fail
      refine HCO.out.mono ?_
      rintro e w9 ⟨rfl, q, os, rfl⟩
      have hlen : (dsL n st (List.finRange n)).length = (List.finRange n).length := (dsL_perm n st _).length_eq
      have hfin := sort_arr (m := q) (os := os) HAR.out hlen
      have hb9 : Below w.heap.size w (sortWorld (encF n) U w2.heap.size 0 q (dsL n st (List.finRange n)).toArray os) := HBE.out.trans (sort_belowF (by omega) HBE.out.size q os)
      have HF := hide hfin
      have HB9 := hide hb9
      clear hfin hb9 hlen
      go_wp2_with fail
      go_ret2
      exact ⟨w2.heap.size, dsL n st (List.finRange n), rfl, HF.out, dsL_perm n st _, dsL_pair n st _, HB9.out⟩
end Go.Proofs.Ytmagigmcbegmiaa

/- graph.ByDegree: its answer as it is, in a block of its own. -/
namespace Go.Proofs.Ytmagigmcbegmiaa
open Go.RowKit Go.Lib Go.Shelf
set_option linter.unusedVariables false
set_option linter.unusedSimpArgs false
def ByX (w : World) (n : Nat) (st : List Int) (e : Ending) (w' : World) : Prop :=
  ∃ A, e = .returned (.tuple #[.slice (some ⟨A, 0, none⟩) n n, .int .i64 0]) ∧ Arr w' A (valL (dsL n st (List.finRange n))) ∧ w.heap.size < A ∧ Below w.heap.size w w'
set_option maxRecDepth 100000 in
set_option maxHeartbeats 4000000 in
theorem bydegX_good (n : Nat) (hn0 : 0 < n) (va vb vc : Value) (st tl wt : List Int) (w : World) (hg : GIs w n va vb vc st tl wt) (hgd : Good n st tl wt) :
    Calls Try.prog 34 #[gAgg n va vb vc] w (ByX w n st) := by
  haveI : Inhabited (Fin n) := ⟨⟨0, hn0⟩⟩
  obtain ⟨ao, ca, rfl⟩ := hg.s.shape
  obtain ⟨bo, cb, rfl⟩ := hg.t.shape
  obtain ⟨co, cc, rfl⟩ := hg.u.shape
  have hml := hgd.m_le
  have hn := hgd.n_le
  have hchk := good_chk' hgd
  obtain ⟨⟨r1, r2⟩, hrr⟩ : ∃ r, chk n st tl wt = r := ⟨_, rfl⟩
  rw [hrr] at hchk
  simp only at hchk
  subst hchk
  have hck := (fun W h => check_all n (.slice ao st.length ca) (.slice bo tl.length cb) (.slice co wt.length cc) st tl wt W h (by have := hgd.s_len; omega) (by omega) (by have := hgd.w_len; omega))
  rw [hrr] at hck
  have HCK := hide hck
  have HSR : Hid (st.length = n + 1 ∧ ∀ i, i ≤ n → 0 ≤ at_ st i ∧ at_ st i ≤ 4194304) := ⟨hgd.s_len, fun i hi => by have := hgd.range i hi; omega⟩
  obtain ⟨W, hW⟩ : ∃ W, W = w.alloc (.cells #[.int .i64 n, .slice ao st.length ca, .slice bo tl.length cb, .slice co wt.length cc] 25) := ⟨_, rfl⟩
  have hbW : Below w.heap.size w W := by rw [hW]; exact below_alloc (Below.refl _ _) _
  have hA : W.heap[w.heap.size]? = some (.cells #[.int .i64 n, .slice ao st.length ca, .slice bo tl.length cb, .slice co wt.length cc] 25 (0, 0)) := by rw [hW]; exact heap_new _ _
  have HG := hide hg
  have HBW := hide hbW
  have HA := hide hA
  have c0 := cell_of hA (i := 0) rfl
  have c1 := cell_of hA (i := 1) rfl
  have c2 := cell_of hA (i := 2) rfl
  have c3 := cell_of hA (i := 3) rfl
  have hmi := run_makeI n (by omega)
  unfold gAgg at HCK ⊢
  clear hg hck hrr hgd hbW hA
  go_enter Try.func34, Try.ntmps34
  go_upto_region 1 with fail
  rw [← hW]
  clear hW
  go_wp2_with fail
  refine (HCK.out W (HG.out.below HBW.out)).mono ?_
  rintro e w2 ⟨rfl, hb2⟩
  have hA2 : w2.heap[w.heap.size]? = some (.cells #[.int .i64 n, .slice ao st.length ca, .slice bo tl.length cb, .slice co wt.length cc] 25 (0, 0)) := (hb2.block _ (lt_of_heap HA.out)).trans HA.out
  have d0 := cell_of hA2 (i := 0) rfl
  obtain ⟨V, hV⟩ : ∃ V, V = w2.alloc (.cells (madeCells #[.int .i64 0] n) 3) := ⟨_, rfl⟩
  have HBY : Hid (BY w w2 V #[.int .i64 n, .slice ao st.length ca, .slice bo tl.length cb, .slice co wt.length cc] (fiL n 0)) := by
    have hbV : Below w2.heap.size w2 V := by rw [hV]; exact below_alloc (Below.refl _ _) _
    refine ⟨below_on HBW.out (below_on hb2 hbV), (hbV.block _ (lt_of_heap hA2)).trans hA2, ?_, lt_of_heap hA2⟩
    rw [fiL_zero]
    refine arr_new ?_
    rw [hV]; exact heap_new _ _
  have e0 : V.cell? ⟨w.heap.size, 0, none⟩ = some (.int .i64 n) := cell_of HBY.out.box (i := 0) rfl
  clear c0 c1 c2 c3 hb2 HCK HA hA2 HBW
  go_upto_region 5 with fail
  rw [← hV]
  clear hV hmi d0
  go_wp2_with fail
  clear e0
  go_loopw [22, 7] (fun t _ wr => ∃ i : Nat, t = .int .i64 (i : Int) ∧ i ≤ n ∧ BY w w2 wr #[.int .i64 n, .slice ao st.length ca, .slice bo tl.length cb, .slice co wt.length cc] (fiL n i)) (fun t _ _ => n - (RowKit.intOf t).toNat)
  case atStart => exact ⟨0, rfl, Nat.zero_le _, HBY.out⟩
  case round =>
    obtain ⟨i, rfl, hi, hby⟩ := hrel
    have HN := hide hby
    clear hby HBY
    by_cases hlt : i < n
    · have yc := HN.out.arr.cell i (by unfold fiL; rw [tab_length]; exact hlt)
      have yf := HN.out.arr.free i
      have hii : (i : Int) < (n : Int) := by omega
      go_wp2_with fail
      refine ⟨⟨i + 1, by simp, by omega, ?_⟩, by simp [RowKit.intOf]; omega⟩
      rw [← fiL_set n i hlt]
      exact HN.out.put _ _
    · obtain rfl : n = i := by omega
      clear hi hlt
      go_upto_region 11 with fail
      obtain ⟨U, hU⟩ : ∃ U, U = wr.alloc (.cells #[.func (.func 67) #[] #[.pointer (some ⟨w.heap.size, 0, none⟩)]] 111) := ⟨_, rfl⟩
      have hbU : Below wr.heap.size wr U := by rw [hU]; exact below_alloc (Below.refl _ _) _
      have hUA : U.heap[wr.heap.size]? = some (.cells #[.func (.func 67) #[] #[.pointer (some ⟨w.heap.size, 0, none⟩)]] 111 (0, 0)) := by rw [hU]; exact heap_new _ _
      rw [← hU]
      obtain ⟨Bd, hBd⟩ : ∃ Bd, Bd = wr.heap.size := ⟨_, rfl⟩
      have hAl : w2.heap.size < wr.heap.size := lt_of_heap HN.out.arr
      rw [← hBd] at hUA hAl ⊢
      have hbox : U.heap[w.heap.size]? = some (.cells #[.int .i64 n, .slice ao st.length ca, .slice bo tl.length cb, .slice co wt.length cc] 25 (0, 0)) := (hbU.block _ (lt_of_heap HN.out.box)).trans HN.out.box
      have hArr : Arr U w2.heap.size (valL (List.finRange n)) := by
        rw [← fiL_all]
        exact (hbU.block _ (lt_of_heap HN.out.arr)).trans HN.out.arr
      have hbel : Below w.heap.size w U := below_on HN.out.bel hbU
      have hlw := HN.out.lt
      have eg : ∀ args w, (callFunc 69 args).run Try.prog w = .ok (.enter 69 args) w := enters_of Try.func69 (by kernel_rfl) rfl
      have hcmp : CmpLays1 Try.prog 69 #[.pointer (some ⟨Bd, 0, none⟩)] (encF n) (dcF n st) w2.heap.size 0 (List.finRange n).toArray.size U := fun m os dk hs x y => by
        have hS : Below w.heap.size w (sortWorld (encF n) U w2.heap.size 0 m dk os) := hbel.trans (sort_belowF (by omega) hbel.size m os)
        refine dclos_any n x.val y.val w.heap.size Bd (.slice ao st.length ca) st _ hn x.isLt y.isLt HSR.out.1 HSR.out.2 (cell_of ((sort_other (by omega) (lt_of_heap hbox)).trans hbox) (i := 1) rfl) (HG.out.s.below hS) (cell_of ((sort_other (by omega) (lt_of_heap hUA)).trans hUA) (i := 0) rfl)
      have hcon := Any.slices_SortFunc_total Try.sortIn (encF n) (fun x => rfl) (dcF n st) (swo_dcF n st) 69 #[.pointer (some ⟨Bd, 0, none⟩)] w2.heap.size 0 n (List.finRange n).toArray U eg hcmp (holdsF hArr) (lt_of_heap hArr) (by simp; omega) (tot_dcF n st)
      change Calls Try.prog 68 _ _ _ at hcon
      rw [show (List.finRange n).toArray.size = n by simp] at hcon
      have HCO := hide hcon
      have HAR := hide hArr
      have HBE := hide hbel
      clear hcon hArr hbel hbox hUA hbU hU hBd hcmp eg
      go_wp2_with fail
      refine HCO.out.mono ?_
      rintro e w9 ⟨rfl, q, os, rfl⟩
      have hlen : (dsL n st (List.finRange n)).length = (List.finRange n).length := (dsL_perm n st _).length_eq
      have hfin := sort_arr (m := q) (os := os) HAR.out hlen
      have hb9 : Below w.heap.size w (sortWorld (encF n) U w2.heap.size 0 q (dsL n st (List.finRange n)).toArray os) := HBE.out.trans (sort_belowF (by omega) HBE.out.size q os)
      have HF := hide hfin
      have HB9 := hide hb9
      clear hfin hb9 hlen
      go_wp2_with fail
      go_ret2
      exact ⟨w2.heap.size, rfl, HF.out, hlw, HB9.out⟩
end Go.Proofs.Ytmagigmcbegmiaa

/- graph.ByDegree of no vertices. -/
namespace Go.Proofs.Ytmagigmcbegmiaa
open Go.RowKit Go.Lib Go.Shelf
set_option linter.unusedVariables false
set_option linter.unusedSimpArgs false
theorem sortI_none (so : Option Addr) (c : Nat) (f : Value) (w : World) : Calls Try.prog 68 #[.slice so 0 c, f] w fun e w' => e = .returned (.tuple #[]) ∧ w' = w := by
  have hc := AnyF.slices_SortFunc_none (P := Try.prog) (ρ := Try.sortIn_ren) { Try.sortIn with } so c f w
  change Calls Try.prog 68 _ _ _ at hc
  exact hc
set_option maxRecDepth 100000 in
set_option maxHeartbeats 4000000 in
theorem bydegX_none (va vb vc : Value) (st tl wt : List Int) (w : World) (hg : GIs w 0 va vb vc st tl wt) (hgd : Good 0 st tl wt) :
    Calls Try.prog 34 #[gAgg 0 va vb vc] w fun e w' => ∃ A, e = .returned (.tuple #[.slice (some ⟨A, 0, none⟩) 0 0, .int .i64 0]) ∧ Arr w' A [] ∧ w.heap.size < A ∧ Below w.heap.size w w' := by
  obtain ⟨ao, ca, rfl⟩ := hg.s.shape
  obtain ⟨bo, cb, rfl⟩ := hg.t.shape
  obtain ⟨co, cc, rfl⟩ := hg.u.shape
  have hml := hgd.m_le
  have hchk := good_chk' hgd
  obtain ⟨⟨r1, r2⟩, hrr⟩ : ∃ r, chk (0 : Nat) st tl wt = r := ⟨_, rfl⟩
  rw [hrr] at hchk
  simp only at hchk
  subst hchk
  have hck := (fun W h => check_all (0 : Nat) (.slice ao st.length ca) (.slice bo tl.length cb) (.slice co wt.length cc) st tl wt W h (by have := hgd.s_len; omega) (by omega) (by have := hgd.w_len; omega))
  rw [hrr] at hck
  have HCK := hide hck
  obtain ⟨W, hW⟩ : ∃ W, W = w.alloc (.cells #[.int .i64 0, .slice ao st.length ca, .slice bo tl.length cb, .slice co wt.length cc] 25) := ⟨_, rfl⟩
  have hbW : Below w.heap.size w W := by rw [hW]; exact below_alloc (Below.refl _ _) _
  have hA : W.heap[w.heap.size]? = some (.cells #[.int .i64 0, .slice ao st.length ca, .slice bo tl.length cb, .slice co wt.length cc] 25 (0, 0)) := by rw [hW]; exact heap_new _ _
  have HG := hide hg
  have HBW := hide hbW
  have HA := hide hA
  have c0 := cell_of hA (i := 0) rfl
  have c1 := cell_of hA (i := 1) rfl
  have c2 := cell_of hA (i := 2) rfl
  have c3 := cell_of hA (i := 3) rfl
  have hmi := run_makeI 0 (by omega)
  rw [show (((0 : Nat) : Int)) = 0 from rfl] at hmi
  unfold gAgg at HCK ⊢
  clear hg hck hrr hgd hbW hA
  go_enter Try.func34, Try.ntmps34
  go_upto_region 1 with fail
  rw [← hW]
  clear hW
  go_wp2_with fail
  refine (HCK.out W (HG.out.below HBW.out)).mono ?_
  rintro e w2 ⟨rfl, hb2⟩
  have hA2 : w2.heap[w.heap.size]? = some (.cells #[.int .i64 0, .slice ao st.length ca, .slice bo tl.length cb, .slice co wt.length cc] 25 (0, 0)) := (hb2.block _ (lt_of_heap HA.out)).trans HA.out
  have d0 := cell_of hA2 (i := 0) rfl
  obtain ⟨V, hV⟩ : ∃ V, V = w2.alloc (.cells (madeCells #[.int .i64 0] 0) 3) := ⟨_, rfl⟩
  have HV : Hid (Arr V w2.heap.size [] ∧ Below w.heap.size w V ∧ w.heap.size < w2.heap.size) := by
    have hbV : Below w2.heap.size w2 V := by rw [hV]; exact below_alloc (Below.refl _ _) _
    refine ⟨?_, below_on HBW.out (below_on hb2 hbV), lt_of_heap hA2⟩
    have : Arr V w2.heap.size (tab 0 (fun _ => 0)) := by
      refine arr_new ?_
      rw [hV]; exact heap_new _ _
    exact this
  have e0 : V.cell? ⟨w.heap.size, 0, none⟩ = some (.int .i64 0) := by
    have hbV : Below w2.heap.size w2 V := by rw [hV]; exact below_alloc (Below.refl _ _) _
    exact cell_of ((hbV.block _ (lt_of_heap hA2)).trans hA2) (i := 0) rfl
  clear c0 c1 c2 c3 hb2 HCK HA hA2 HBW
  go_upto_region 5 with fail
  rw [← hV]
  clear hV hmi d0
  go_wp2_with fail
  clear e0
  go_loopw [22, 7] (fun t _ wr => t = .int .i64 0 ∧ Arr wr w2.heap.size [] ∧ Below w.heap.size w wr ∧ w.heap.size < w2.heap.size) (fun t _ _ => 0)
  case atStart => exact ⟨rfl, HV.out⟩
  case round =>
    obtain ⟨rfl, hv⟩ := hrel
    have HVR := hide hv
    clear hv HV
    have HSN := hide (fun c f W => sortI_none (some ⟨w2.heap.size, 0, none⟩) c f W)
    go_wp2_with fail
    refine (HSN.out _ _ _).mono ?_
    rintro e w9 ⟨rfl, rfl⟩
    go_wp2_with fail
    go_ret2
    exact ⟨_, rfl, (Below.heap_alloc _ _ _ (lt_of_heap HVR.out.1)).trans HVR.out.1, HVR.out.2.2, below_alloc HVR.out.2.1 _⟩
end Go.Proofs.Ytmagigmcbegmiaa

/- two: another graph. -/
namespace Go.Proofs.Ytmagigmcbegmiaa
open Go.RowKit Go.Lib Go.Shelf
set_option linter.unusedVariables false
set_option linter.unusedSimpArgs false
theorem Try.results39 : Try.f39.results = #[.cell 0 25] := by kernel_rfl
set_option maxRecDepth 100000 in
set_option maxHeartbeats 4000000 in
theorem two_any (w : World) :
    Calls Try.prog 39 #[] w fun e w' => ∃ G1 G2 G3, e = .returned (gAgg 2 (.slice (some ⟨G1, 0, none⟩) 3 3) (.slice (some ⟨G2, 0, none⟩) 2 2) (.slice (some ⟨G3, 0, none⟩) 2 2)) ∧ Arr w' G1 [0, 2, 2] ∧ Arr w' G2 [1, 0] ∧ ArrU w' G3 [3, 4] ∧ w.heap.size ≤ G1 ∧ w.heap.size ≤ G2 ∧ w.heap.size ≤ G3 ∧ G1 ≠ G2 ∧ Below w.heap.size w w' := by
  go_enter Try.func39, Try.ntmps39
  go_wp2_with fail
  have h0 : ((((w.alloc (.cells #[.int .i64 2, .slice (some ⟨w.heap.size + 1, 0, none⟩) 3 3, .slice (some ⟨w.heap.size + 1 + 1, 0, none⟩) 2 2, .slice (some ⟨w.heap.size + 1 + 1 + 1, 0, none⟩) 2 2] 25)).alloc (.cells #[.int .i64 0, .int .i64 2, .int .i64 2] 3)).alloc (.cells #[.int .i64 1, .int .i64 0] 3)).alloc (.cells #[.int .u64 3, .int .u64 4] 48)).heap[w.heap.size]? = some (.cells #[.int .i64 2, .slice (some ⟨w.heap.size + 1, 0, none⟩) 3 3, .slice (some ⟨w.heap.size + 1 + 1, 0, none⟩) 2 2, .slice (some ⟨w.heap.size + 1 + 1 + 1, 0, none⟩) 2 2] 25 (0, 0)) :=
    (Below.heap_alloc _ _ _ (by simp; omega)).trans ((Below.heap_alloc _ _ _ (by simp; omega)).trans ((Below.heap_alloc _ _ _ (by simp)).trans (heap_new _ _)))
  have hn : ∀ (x : World) (o : Obj) (k : Nat), k = x.heap.size → (x.alloc o).heap[k]? = some o := fun x o k hk => by subst hk; exact heap_new _ _
  refine bodyPost_ret (results_cell_row Try.results39 _ _ w.heap.size 25 _ (0, 0) _ rfl h0 Try.underlying25 rfl (by kernel_rfl)) rfl ⟨w.heap.size + 1, w.heap.size + 1 + 1, w.heap.size + 1 + 1 + 1, rfl, ?_, ?_, ?_, by omega, by omega, by omega, by omega, below_alloc (below_alloc (below_alloc (below_alloc (Below.refl _ _) _) _) _) _⟩
  · exact (Below.heap_alloc _ _ _ (by simp)).trans ((Below.heap_alloc _ _ _ (by simp)).trans (hn _ _ _ (by simp)))
  · exact (Below.heap_alloc _ _ _ (by simp)).trans (hn _ _ _ (by simp))
  · exact hn _ _ _ (by simp)
end Go.Proofs.Ytmagigmcbegmiaa
