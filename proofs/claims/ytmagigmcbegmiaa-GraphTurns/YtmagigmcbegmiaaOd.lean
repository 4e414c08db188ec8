import Derived.Test.YtmagigmcbegmiaaMr
import Derived.Test.YtmagigmcbegmiaaPr
import Derived.Test.YtmagigmcbegmiaaTn
import Derived.Test.YtmagigmcbegmiaaRq
import Derived.Test.YtmagigmcbegmiaaBjM
/- The document's ByDegree. -/
namespace Go.Proofs.Ytmagigmcbegmiaa
open Go.RowKit Go.Lib
set_option linter.unusedVariables false
set_option linter.unusedSimpArgs false
/-- An edge for each of the first v: from the most less the degree to the vertex. -/
def dE (m : Nat) (st : List Int) (v : Nat) : List Ed3 := (List.range v).map (fun u => ((m : Int) - (at_ st (u + 1) - at_ st u), (u : Int), 0))
theorem dE_succ (m : Nat) (st : List Int) (v : Nat) : dE m st (v + 1) = dE m st v ++ [((m : Int) - (at_ st (v + 1) - at_ st v), (v : Int), 0)] := by simp [dE, List.range_succ]
theorem dE_len (m : Nat) (st : List Int) (v : Nat) : (dE m st v).length = v := by simp [dE]
set_option maxRecDepth 100000 in
set_option maxHeartbeats 8000000 in
theorem byDegR_good (n : Nat) (va vb vc : Value) (st tl wt : List Int) (w : World) (hgi : GIs w n va vb vc st tl wt) (hg : Good n st tl wt) :
    Calls Try.prog 75 #[gAgg n va vb vc] w fun e w' => ∃ v, e = .returned (.tuple #[v, .int .i64 0]) ∧ RowAt .i64 w' v ((e3s (dE tl.length st n)).map (fun x => x.2.1)) ∧ Below w.heap.size w w' := by
  obtain ⟨i0, hi, hz0, hz1, hz2⟩ := info_parts3 Try.info50'
  obtain ⟨ao, ca, rfl⟩ := hgi.s.shape
  obtain ⟨bo, cb, rfl⟩ := hgi.t.shape
  obtain ⟨co, cc, rfl⟩ := hgi.u.shape
  have hml := hg.m_le
  have hnl := hg.n_le
  have hchk := good_chk' hg
  obtain ⟨⟨r1, r2⟩, hrr⟩ : ∃ r, chk n st tl wt = r := ⟨_, rfl⟩
  rw [hrr] at hchk
  simp only at hchk
  subst hchk
  have hck := (fun W h => refCheck_all n (.slice ao st.length ca) (.slice bo tl.length cb) (.slice co wt.length cc) st tl wt W h (by have := hg.s_len; have := hg.n_le; omega) (by omega) (by have := hg.w_len; omega))
  unfold ChkPost at hck
  rw [hrr] at hck
  have HCK := hide hck
  have HGI := hide hgi; have HG := hide hg
  have hb0 : Below w.heap.size w (w.alloc (.cells #[.int .i64 n, .slice ao st.length ca, .slice bo tl.length cb, .slice co wt.length cc] 25)) := below_alloc (Below.refl _ _) _
  have hx0 := heap_new w (.cells #[.int .i64 n, .slice ao st.length ca, .slice bo tl.length cb, .slice co wt.length cc] 25)
  have HX0 := hide hx0
  have HB0 := hide hb0
  have c0 := cell_of hx0 (i := 0) rfl
  have c1 := cell_of hx0 (i := 1) rfl
  have c2 := cell_of hx0 (i := 2) rfl
  have c3 := cell_of hx0 (i := 3) rfl
  unfold gAgg at HCK ⊢
  clear hgi hg hck hrr hx0 hb0
  go_enter Try.func75, Try.ntmps75
  go_upto_region 1 with fail
  generalize (w.alloc (.cells #[.int .i64 n, .slice ao st.length ca, .slice bo tl.length cb, .slice co wt.length cc] 25)) = w1 at c0 c1 c2 c3 HX0 HB0 ⊢
  go_wp2_with fail
  refine (HCK.out w1 (HGI.out.below HB0.out)).mono ?_
  rintro e w2 ⟨rfl, hb2⟩
  have HX2 := hide ((hb2.block _ (lt_of_heap HX0.out)).trans HX0.out)
  have HB2 := hide (below_on HB0.out hb2)
  clear c0 c1 c2 c3 HX0 HB0 hb2 HCK
  obtain ⟨m, hm⟩ : ∃ m, m = tl.length := ⟨_, rfl⟩
  have HM := hide hm
  rw [← hm] at hml HX2 HGI ⊢
  have hsl := HG.out.s_len
  rw [hsl] at HX2 HGI ⊢
  obtain ⟨gb, hgb⟩ : ∃ gb : Array Value, gb = #[.int .i64 n, .slice ao (n + 1) ca, .slice bo m cb, .slice co wt.length cc] := ⟨_, rfl⟩
  have HEG : Hid (EG w w2 #[.int .i64 n, .slice ao (n + 1) ca, .slice bo m cb, .slice co wt.length cc] (.slice none 0 0) (dE m st 0)) := ⟨HB2.out, HX2.out, ⟨by simp [dE, eCells], .inl ⟨rfl, by simp [dE]⟩⟩⟩
  clear hm hsl HX2 HB2 hgb
  have HML := hide hml; have HNL := hide hnl
  go_wp2_with fail
  go_loopw [6, 7] (fun cv t wr => ∃ u : Nat, u ≤ n ∧ t = .int .i64 u ∧ EG w wr #[.int .i64 n, .slice ao (n + 1) ca, .slice bo m cb, .slice co wt.length cc] cv (dE m st u)) (fun _ t _ => n - (RowKit.intOf t).toNat)
  case atStart => exact ⟨0, Nat.zero_le _, rfl, HEG.out⟩
  case round =>
    obtain ⟨u, hu, rfl, hf⟩ := hrel
    have HFR := hide hf
    have c0 := cell_of hf.box (i := 0) rfl
    clear hf HEG
    by_cases hlt : u < n
    · obtain ⟨ga, oa, ca2, he1, hca, hx1⟩ := (HGI.out.below HFR.out.bel).s.cellAt u (by rw [HG.out.s_len]; omega)
      obtain ⟨ga3, oa3, ca3, he2, _, hx2⟩ := (HGI.out.below HFR.out.bel).s.cellAt (u + 1) (by rw [HG.out.s_len]; omega)
      simp only [Value.slice.injEq] at he1
      obtain ⟨rfl, hq7, rfl⟩ := he1
      simp only [Value.slice.injEq, Option.some.injEq, Addr.mk.injEq, and_true] at he2
      obtain ⟨⟨rfl, rfl⟩, hq8, rfl⟩ := he2
      obtain ⟨a, ha⟩ : ∃ a, a = at_ st u := ⟨_, rfl⟩
      obtain ⟨b, hb⟩ : ∃ b, b = at_ st (u + 1) := ⟨_, rfl⟩
      have hra := HG.out.range u (by omega)
      have hrb := HG.out.range (u + 1) (by omega)
      have hab := HG.out.step u hlt
      rw [← ha] at hx1 hra hab
      rw [← hb] at hx2 hrb hab
      rw [← HM.out] at hra hrb
      have hlw := lt_of_heap HFR.out.box
      have HKP : Hid (∀ W cv l, EG w W #[.int .i64 n, .slice (some ⟨ga, oa, none⟩) (n + 1) ca, .slice bo m cb, .slice co wt.length cc] cv l → W.cell? ⟨w.heap.size, 1, none⟩ = some (.slice (some ⟨ga, oa, none⟩) (n + 1) ca) ∧ W.cell? ⟨w.heap.size, 2, none⟩ = some (.slice bo m cb) ∧ W.cell? ⟨ga, oa + u, none⟩ = some (.int .i64 a) ∧ W.cell? ⟨ga, oa + (u + 1), none⟩ = some (.int .i64 b)) := fun W cv l h => by
        obtain ⟨ga', oa', ca', he, _, k1⟩ := (HGI.out.below h.bel).s.cellAt u (by rw [HG.out.s_len]; omega)
        simp only [Value.slice.injEq, Option.some.injEq, Addr.mk.injEq, and_true] at he
        obtain ⟨⟨rfl, rfl⟩, _, rfl⟩ := he
        obtain ⟨ga', oa', ca', he, _, k2⟩ := (HGI.out.below h.bel).s.cellAt (u + 1) (by rw [HG.out.s_len]; omega)
        simp only [Value.slice.injEq, Option.some.injEq, Addr.mk.injEq, and_true] at he
        obtain ⟨⟨rfl, rfl⟩, _, rfl⟩ := he
        exact ⟨cell_of h.box rfl, cell_of h.box rfl, by rw [ha]; exact k1, by rw [hb]; exact k2⟩
      have HOWN : Hid (wr.ownsRow (w.heap.size + 1) 50 3 u6 u (eCells (dE m st u))) := by have := HFR.out.own; rw [dE_len] at this; exact this
      have hsz : w.heap.size + 1 ≤ wr.heap.size := Nat.succ_le_of_lt hlw
      have HSTEP : Hid (dE m st (u + 1) = dE m st u ++ [((m : Int) - (b - a), (u : Int), 0)]) := hide (by rw [dE_succ, ← ha, ← hb])
      have hw1 : IntKind.i64.wrap ((u : Int) + 1) = (u : Int) + 1 := IntWalk.i64_in _ (by omega)
      have hw2 : IntKind.i64.wrap (b - a) = b - a := IntWalk.i64_in _ (by omega)
      have hw3 : IntKind.i64.wrap ((m : Int) - (b - a)) = (m : Int) - (b - a) := IntWalk.i64_in _ (by omega)
      have hua : (u : Int) + 1 < ((n + 1 : Nat) : Int) := by omega
      have hub : (u : Int) < (n : Int) + 1 := by omega
      have hlc : n + 1 ≤ ca := by have := HG.out.s_len; omega
      have huc : (u : Int) < ca := by omega
      have huc1 : (u : Int) + 1 < ca := by omega
      have hu0 : 0 ≤ (u : Int) + 1 := by omega
      have htn : ((u : Int) + 1).toNat = u + 1 := by omega
      have hu1 : (u : Int) + 1 ≤ 9223372036854775807 := by omega
      have hui : (u : Int) < (n : Int) := by omega
      clear hx1 hx2 hq7 hq8 ha hb hra hrb hab
      go_upto_region 8 with fail
      have HSZ := hide hsz; have HU := hide hlt
      have hS0 := HKP.out _ _ _ HFR.out
      clear c0 hsz
      refine wp_region_noPanic ?_
      go_region_held3 (fun x => x.cell? ⟨w.heap.size, 1, none⟩ = some (.slice (some ⟨ga, oa, none⟩) (n + 1) ca) ∧ x.cell? ⟨w.heap.size, 2, none⟩ = some (.slice bo m cb) ∧ x.cell? ⟨ga, oa + u, none⟩ = some (.int .i64 a) ∧ x.cell? ⟨ga, oa + (u + 1), none⟩ = some (.int .i64 b)) (first | exact hS0 | exact hSn | go_keep) (first
        | (refine step_append_lies _ (by rfl) _ _ _ (by rfl) (w.heap.size + 1) 50 i0 (.agg #[.int .i64 0, .int .i64 0, .int .u64 0]) 3 24 Try.underlying45 hi hz0 hz1 hz2 rfl (by omega) u6 u (eCells (dE m st u)) (by rfl) ((HOWN.out.alloc _).drew) ⟨wr.heap.size, 0, none⟩ 1 1 [.int .i64 ((m : Int) - (b - a)), .int .i64 (u : Int), .int .u64 0] (by rfl) (by rfl) (three_at' wr _ _ _ _) (by simp [Value.oneCell']) (by omega) (by unfold maxLen; have := HNL.out; have := HU.out; omega) (by have := HNL.out; have := HU.out; omega) (by have := HSZ.out; simp; omega) (wr.heap.size + 1) (by simp) ?_; intro g cap w2 hown hgrow hat hlt2; have HF8 := hide (HFR.out.came (x := ((m : Int) - (b - a), (u : Int), 0)) (((Chg.refl _ wr).alloc (.cells #[.int .i64 ((m : Int) - (b - a)), .int .i64 (u : Int), .int .u64 0] 50)).drew) (by rw [dE_len]; exact hown) hgrow); have hSn := HKP.out _ _ _ HF8.out; clear hown hgrow hat hlt2)
        | fail)
      all_goals
        refine NoPanic.normal ?_
        go_wp2_with fail
        refine ⟨⟨u + 1, Nat.succ_le_of_lt HU.out, by simp, ?_⟩, ?_⟩
        · rw [HSTEP.out]
          have := HF8.out
          rw [List.length_append, List.length_singleton, dE_len] at this
          exact this
        · have := HU.out
          simp [RowKit.intOf]
          omega
    · have hun : u = n := by omega
      have HFN : Hid (EG w wr #[.int .i64 n, .slice ao (n + 1) ca, .slice bo m cb, .slice co wt.length cc] u6 (dE m st n)) := by have := HFR.out; rw [hun] at this; exact this
      have HSO := hide (sortedE_any n (dE m st n) (by rw [dE_len]; exact Nat.le_refl _) (by rw [dE_len]; omega) u6 wr (EAt.of_owns HFN.out.own))
      have hLl : (e3s (dE m st n)).length = n := by rw [e3s_length, dE_len]
      go_wp2_with fail
      refine HSO.out.mono ?_
      rintro e w5 ⟨v5, rfl, hown5, hb5⟩
      obtain ⟨ao5, c5, rfl, hc5, hc56⟩ := EAt.shp hown5.eat'
      have HEA := hide hown5.eat'
      have HB5 := hide (below_on HFN.out.bel hb5)
      obtain ⟨L, hL⟩ : ∃ L, L = e3s (dE m st n) := ⟨_, rfl⟩
      have HL := hide hL
      rw [← hL] at hLl hc5 HEA ⊢
      rw [hLl] at hc5 HEA ⊢
      have HLL := hide hLl
      have HI0 : Hid (w5.ownsRow w5.heap.size 3 1 (.slice none 0 0) (((L.take 0).map (fun x => x.2.1)).length) (((L.take 0).map (fun x => x.2.1)).map (Value.int .i64)) ∧ Below w5.heap.size w5 w5) := hide ⟨⟨by simp, .inl ⟨rfl, by simp⟩⟩, Below.refl _ _⟩
      clear hown5 hb5 hL hLl HFN HFR HSO c0 hun
      obtain ⟨j0, hj, hy0, hy1, hy2⟩ := info_parts Try.info3'
      go_wp2_with fail
      go_loopw [8, 9] (fun cv t wr => ∃ i : Nat, i ≤ n ∧ t = .int .i64 i ∧ wr.ownsRow w5.heap.size 3 1 cv (((L.take i).map (fun x => x.2.1)).length) (((L.take i).map (fun x => x.2.1)).map (Value.int .i64)) ∧ Below w5.heap.size w5 wr) (fun _ t _ => n - (RowKit.intOf t).toNat)
      case atStart => exact ⟨0, Nat.zero_le _, rfl, HI0.out⟩
      case round =>
        obtain ⟨i, hin, rfl, how, hbw⟩ := hrel
        have HOW := hide how; have HBW := hide hbw
        clear how hbw HI0
        by_cases him : i < n
        · obtain ⟨g, o, rfl, p0, p1, p2⟩ := EAt.cl (HEA.out.below HBW.out) (i := i) (by rw [HLL.out]; exact him)
          obtain ⟨x, hx⟩ : ∃ x, x = (eAt L i).2.1 := ⟨_, rfl⟩
          rw [← hx] at p1
          have HTK : Hid ((L.take (i + 1)).map (fun x => x.2.1) = (L.take i).map (fun x => x.2.1) ++ [x]) := hide (by
            have hil : i < L.length := by rw [HLL.out]; exact him
            have e : L.take (i + 1) = L.take i ++ [eAt L i] := by
              rw [List.take_add_one]
              unfold eAt
              rw [List.getElem?_eq_getElem hil]
              rfl
            rw [e, List.map_append, hx]
            rfl)
          obtain ⟨cs, hcs⟩ : ∃ cs, cs = (L.take i).map (fun x => x.2.1) := ⟨_, rfl⟩
          have HLE : Hid (cs.length ≤ 1048576) := hide (by rw [hcs, List.length_map, List.length_take]; have := HNL.out; omega)
          rw [← hcs] at HOW HTK
          have hin2 : (i : Int) < (n : Int) := by omega
          have hic : (i : Int) < c5 := by omega
          clear hx hcs p0 p2
          go_wp2_with (at_builtin; refine wpList_append_own _ rfl (.tmp 53) (.tmp 59) 22 rfl _ 3 j0 (.int .i64 0) 1 8 Try.underlying22 hj hy0 hy1 hy2 rfl (by decide) _ _ _ rfl (World.ownsRow.alloc (show wr.ownsRow w5.heap.size 3 1 u8 cs.length (cs.map (Value.int .i64)) from HOW.out) _) ⟨wr.heap.size, 0, none⟩ 1 1 [.int .i64 x] rfl rfl (one_at wr _ _) (by simp [Value.oneCell']) (by unfold maxLen; have := HLE.out; omega) (by have := HLE.out; omega) (by have := HBW.out.size; simp; omega) ?_; intro v9 w9 hownB hgrowB hqB; have HR9 : Hid (w9.ownsRow w5.heap.size 3 1 v9 (cs ++ [x]).length ((cs ++ [x]).map (Value.int .i64)) ∧ Below w5.heap.size w5 w9) := hide ⟨by simpa using hownB, (below_alloc HBW.out _).grown hgrowB (by have := HBW.out.size; simp; omega) (fun k e => (World.ownsRow.lt HOW.out k e).1)⟩; clear hownB hgrowB hqB)
          go_roundw
          case rel => exact ⟨i + 1, by omega, by simp, by rw [HTK.out]; exact HR9.out⟩
          case measure => simp [RowKit.intOf]; omega
        · have hie : i = n := by omega
          have HFE : Hid (wr.ownsRow w5.heap.size 3 1 u8 (L.map (fun x => x.2.1)).length ((L.map (fun x => x.2.1)).map (Value.int .i64))) := by
            have := HOW.out
            rw [hie, ← HLL.out, List.take_length] at this
            exact this
          clear HOW hie
          go_wp2_with fail
          go_ret2
          refine ⟨_, rfl, ?_, HB5.out.trans (HBW.out.mono HB5.out.size)⟩
          rw [← HM.out, ← HL.out]
          exact RowAt.of_owns HFE.out
end Go.Proofs.Ytmagigmcbegmiaa

/- Both ByDegrees answer one list. -/
namespace Go.Proofs.Ytmagigmcbegmiaa
open Go.RowKit Go.Lib Go.Shelf
set_option linter.unusedVariables false
theorem dsL_le (n : Nat) (st : List Int) (l : List (Fin n)) : (dsL n st l).Pairwise (fun a b => dg st b.val < dg st a.val ∨ (dg st b.val = dg st a.val ∧ a.val ≤ b.val)) := by
  have h := List.pairwise_mergeSort (le := fun x y => !(ltOf (dcF n st)) y x) (fun a b c h1 h2 => by
    rw [ltOf_dcF] at *
    simp only [Bool.not_eq_true', dlt_niff] at *
    omega) (fun a b => by
    rw [ltOf_dcF]
    simp only [Bool.or_eq_true, Bool.not_eq_true', dlt_niff]
    omega) l
  refine h.imp ?_
  intro a b hab
  rw [ltOf_dcF] at hab
  simp only [Bool.not_eq_true', dlt_niff] at hab
  omega
theorem byDeg_same (n m : Nat) (st : List Int) : (e3s (dE m st n)).map (fun x => x.2.1) = valL (dsL n st (List.finRange n)) := by
  have e : (dsL n st (List.finRange n)).map (fun v => (((m : Int) - dg st v.val, (v.val : Int), 0) : Ed3)) = e3s (dE m st n) := by
    refine e3s_unique ?_ ?_
    · have h1 := (dsL_perm n st (List.finRange n)).map (fun v => (((m : Int) - dg st v.val, (v.val : Int), 0) : Ed3))
      have h2 : (List.finRange n).map (fun v => (((m : Int) - dg st v.val, (v.val : Int), 0) : Ed3)) = dE m st n := by
        unfold dE dg
        apply List.ext_getElem
        · simp
        · intro i h1 h2; simp
      rw [h2] at h1
      exact h1
    · rw [List.pairwise_map]
      refine (dsL_le n st _).imp ?_
      intro a b h
      rw [e3le_iff]
      simp only
      omega
  rw [← e, List.map_map]
  rfl
end Go.Proofs.Ytmagigmcbegmiaa

/- ByDegree, Relabel, Parts: one answer of the program and of the document. -/
namespace Go.Proofs.Ytmagigmcbegmiaa
open Go.RowKit Go.Lib
set_option linter.unusedVariables false
set_option linter.unusedSimpArgs false
/-- A list in a new block, and a number. -/
def LAns (w : World) (A : List Int → Int → Prop) (e : Ending) (w' : World) : Prop :=
  ∃ v l r, e = .returned (.tuple #[v, .int .i64 r]) ∧ A l r ∧ w'.ownsRow w.heap.size 3 1 v l.length (l.map (Value.int .i64)) ∧ l.length ≤ 1099511627776 ∧ Below w.heap.size w w'
/-- A list, and a number. -/
def LAnR (w : World) (A : List Int → Int → Prop) (e : Ending) (w' : World) : Prop :=
  ∃ v l r, e = .returned (.tuple #[v, .int .i64 r]) ∧ A l r ∧ RowAt .i64 w' v l ∧ Below w.heap.size w w'
/-- A graph in new blocks, and a number. -/
def GAns (w : World) (A : Int → List Int → List Int → List Int → Int → Prop) (e : Ending) (w' : World) : Prop :=
  ∃ N va vb vc st tl wt r, e = .returned (.tuple #[gAgg N va vb vc, .int .i64 r]) ∧ A N st tl wt r ∧ OwG w' w.heap.size va vb vc st tl wt ∧ Below w.heap.size w w'
/-- A graph, and a number. -/
def GAnR (w : World) (A : Int → List Int → List Int → List Int → Int → Prop) (e : Ending) (w' : World) : Prop :=
  ∃ N va vb vc st tl wt r, e = .returned (.tuple #[gAgg N va vb vc, .int .i64 r]) ∧ A N st tl wt r ∧ GIs w' N va vb vc st tl wt ∧ Below w.heap.size w w'
theorem NoneL.ans {w w' : World} {r : Int} {e : Ending} {A : List Int → Int → Prop} (h : NoneL w r e w') (ha : A [] r) : LAns w A e w' := ⟨_, [], r, h.1, ha, World.ownsRow_nil _ _ _ _, by simp, h.2⟩
theorem NoneL.anR {w w' : World} {r : Int} {e : Ending} {A : List Int → Int → Prop} (h : NoneL w r e w') (ha : A [] r) : LAnR w A e w' := ⟨_, [], r, h.1, ha, row_nil _ _, h.2⟩
theorem NoneG.ans {w w' : World} {r : Int} {e : Ending} {A : Int → List Int → List Int → List Int → Int → Prop} (h : NoneG w r e w') (ha : A 0 [] [] [] r) : GAns w A e w' := ⟨0, _, _, _, [], [], [], r, h.1, ha, ⟨World.ownsRow_nil _ _ _ _, World.ownsRow_nil _ _ _ _, World.ownsRow_nil _ _ _ _, fun g q => (by cases q), (by simp)⟩, h.2⟩
theorem NoneG.anR {w w' : World} {r : Int} {e : Ending} {A : Int → List Int → List Int → List Int → Int → Prop} (h : NoneG w r e w') (ha : A 0 [] [] [] r) : GAnR w A e w' := ⟨0, _, _, _, [], [], [], r, h.1, ha, ⟨row_nil _ _, row_nil _ _, row_nil _ _⟩, h.2⟩
/-- ByDegree's answer. -/
def ByA (N : Int) (st tl wt : List Int) (l : List Int) (r : Int) : Prop :=
  ((chk N st tl wt).1 ≠ 0 ∧ r = (chk N st tl wt).1 ∧ l = []) ∨ ((chk N st tl wt).1 = 0 ∧ r = 0 ∧ ∃ n : Nat, N = n ∧ l = valL (dsL n st (List.finRange n)))
theorem ByA.one {N : Int} {st tl wt l l' : List Int} {r r' : Int} (h : ByA N st tl wt l r) (k : ByA N st tl wt l' r') : l = l' ∧ r = r' := by
  rcases h with ⟨h1, rfl, rfl⟩ | ⟨h1, rfl, n, rfl, rfl⟩ <;> rcases k with ⟨k1, rfl, rfl⟩ | ⟨k1, rfl, m, km, rfl⟩
  · exact ⟨rfl, rfl⟩
  · exact (h1 k1).elim
  · exact (k1 h1).elim
  · obtain rfl : n = m := by omega
    exact ⟨rfl, rfl⟩
/-- Parts' answer. -/
def PtA (N : Int) (st tl wt : List Int) (k : Int) (l : List Int) (r : Int) : Prop :=
  ((chk N st tl wt).1 ≠ 0 ∧ r = (chk N st tl wt).1 ∧ l = []) ∨ ((chk N st tl wt).1 = 0 ∧ (k < 1 ∨ 1048576 < k) ∧ r = 60 ∧ l = []) ∨ ((chk N st tl wt).1 = 0 ∧ r = 0 ∧ ∃ n c : Nat, N = n ∧ k = c ∧ 1 ≤ c ∧ c ≤ 1048576 ∧ Cuts n c st tl.length l)
theorem PtA.one {N : Int} {st tl wt l l' : List Int} {c r r' : Int} (h : PtA N st tl wt c l r) (k : PtA N st tl wt c l' r') : l = l' ∧ r = r' := by
  rcases h with ⟨h1, rfl, rfl⟩ | ⟨h1, h2, rfl, rfl⟩ | ⟨h1, rfl, n, d, rfl, rfl, h3, h4, h5⟩ <;> rcases k with ⟨k1, rfl, rfl⟩ | ⟨k1, k2, rfl, rfl⟩ | ⟨k1, rfl, m, d', km, kd, k3, k4, k5⟩ <;> first | exact ⟨rfl, rfl⟩ | exact (h1 k1).elim | exact (k1 h1).elim | (exfalso; omega) | skip
  obtain rfl : n = m := by omega
  obtain rfl : d = d' := by omega
  exact ⟨h5.one k5, rfl⟩
/-- Relabel's answer. -/
def ReA (N : Int) (st tl wt o : List Int) (N' : Int) (st' tl' wt' : List Int) (r : Int) : Prop :=
  ((chk N st tl wt).1 ≠ 0 ∧ r = (chk N st tl wt).1 ∧ N' = 0 ∧ st' = [] ∧ tl' = [] ∧ wt' = []) ∨ (∃ n : Nat, N = n ∧ Good n st tl wt ∧ ¬ okO n o ∧ r = 34 ∧ N' = 0 ∧ st' = [] ∧ tl' = [] ∧ wt' = []) ∨
  (∃ (n : Nat) (nx : List Int), N = n ∧ Good n st tl wt ∧ okO n o ∧ r = 0 ∧ N' = n ∧ Summed n tl.length (rF (plc o) n st) n st' ∧ Laying n tl.length (rF (plc o) n st) (rT (plc o) tl) (fun e => at_ wt e) tl.length nx tl' wt')
theorem ReA.one {N : Int} {st tl wt o : List Int} {N1 N2 r1 r2 : Int} {a b c a' b' c' : List Int} (h : ReA N st tl wt o N1 a b c r1) (k : ReA N st tl wt o N2 a' b' c' r2) : N1 = N2 ∧ a = a' ∧ b = b' ∧ c = c' ∧ r1 = r2 := by
  rcases h with ⟨h1, rfl, rfl, rfl, rfl, rfl⟩ | ⟨n, rfl, h1, h2, rfl, rfl, rfl, rfl, rfl⟩ | ⟨n, nx, rfl, h1, h2, rfl, rfl, h3, h4⟩ <;> rcases k with ⟨k1, rfl, rfl, rfl, rfl, rfl⟩ | ⟨m, km, k1, k2, rfl, rfl, rfl, rfl, rfl⟩ | ⟨m, mx, km, k1, k2, rfl, rfl, k3, k4⟩ <;> first | exact ⟨rfl, rfl, rfl, rfl, rfl⟩ | (subst km; exact (h1 (good_chk' k1)).elim) | exact (k1 (good_chk' h1)).elim | skip
  all_goals obtain rfl : n = m := by omega
  · exact (h2 k2).elim
  · exact (k2 h2).elim
  · obtain ⟨q1, q2⟩ := layingA_one h4 k4
    exact ⟨rfl, summedA_one h3 k3, q1, q2, rfl⟩
theorem byDeg_ans (N : Int) (va vb vc : Value) (st tl wt : List Int) (w : World) (hg : GIs w N va vb vc st tl wt) (hst : st.length ≤ 17592186044416) (hto : tl.length ≤ 17592186044416) (hwt : wt.length ≤ 17592186044416) :
    Calls Try.prog 34 #[gAgg N va vb vc] w (LAns w (ByA N st tl wt)) := by
  by_cases hc : (chk N st tl wt).1 = 0
  · obtain ⟨n, rfl, hgd⟩ := chk_good hc
    have hn := hgd.n_le
    have hl : (valL (dsL n st (List.finRange n))).length = n := by
      have := (dsL_perm n st (List.finRange n)).length_eq
      simp [valL, this]
    rcases Nat.eq_zero_or_pos n with h0 | h0
    · subst h0
      refine (bydegX_none va vb vc st tl wt w hg hgd).mono ?_
      rintro e w' ⟨A, rfl, hA, hlt, hb⟩
      have hv : valL (dsL 0 st (List.finRange 0)) = [] := List.eq_nil_of_length_eq_zero hl
      exact ⟨_, [], 0, rfl, .inr ⟨hc, rfl, 0, rfl, hv.symm⟩, own_arr hA (by omega) (by simp), by simp, hb⟩
    · refine (bydegX_good n h0 va vb vc st tl wt w hg hgd).mono ?_
      rintro e w' ⟨A, rfl, hA, hlt, hb⟩
      have := own_arr hA (H := w.heap.size) (by omega) (by rw [hl]; omega)
      refine ⟨_, _, 0, rfl, .inr ⟨hc, rfl, n, rfl, rfl⟩, ?_, by rw [hl]; omega, hb⟩
      rw [hl] at this ⊢
      exact this
  · exact (byDeg_bad N va vb vc st tl wt w hg hst hto hwt hc).mono fun e w' h => h.ans (.inl ⟨hc, rfl, rfl⟩)
theorem byDegR_ans (N : Int) (va vb vc : Value) (st tl wt : List Int) (w : World) (hg : GIs w N va vb vc st tl wt) (hst : st.length ≤ 17592186044416) (hto : tl.length ≤ 17592186044416) (hwt : wt.length ≤ 17592186044416) :
    Calls Try.prog 75 #[gAgg N va vb vc] w (LAnR w (ByA N st tl wt)) := by
  by_cases hc : (chk N st tl wt).1 = 0
  · obtain ⟨n, rfl, hgd⟩ := chk_good hc
    refine (byDegR_good n va vb vc st tl wt w hg hgd).mono ?_
    rintro e w' ⟨v, rfl, hr, hb⟩
    rw [byDeg_same] at hr
    exact ⟨v, _, 0, rfl, .inr ⟨hc, rfl, n, rfl, rfl⟩, hr, hb⟩
  · exact (byDegR_bad N va vb vc st tl wt w hg hst hto hwt hc).mono fun e w' h => h.anR (.inl ⟨hc, rfl, rfl⟩)
theorem parts_ans (N : Int) (va vb vc : Value) (st tl wt : List Int) (k : Int) (w : World) (hg : GIs w N va vb vc st tl wt) (hst : st.length ≤ 17592186044416) (hto : tl.length ≤ 17592186044416) (hwt : wt.length ≤ 17592186044416) :
    Calls Try.prog 31 #[gAgg N va vb vc, .int .i64 k] w (LAns w (PtA N st tl wt k)) := by
  by_cases hc : (chk N st tl wt).1 = 0
  · by_cases hk : k < 1 ∨ 1048576 < k
    · exact (parts_k N k va vb vc st tl wt w hg hst hto hwt hc hk).mono fun e w' h => h.ans (.inr (.inl ⟨hc, hk, rfl, rfl⟩))
    · obtain ⟨n, rfl, hgd⟩ := chk_good hc
      obtain ⟨c, rfl⟩ : ∃ c : Nat, k = c := ⟨k.toNat, by omega⟩
      obtain ⟨ao, ca, rfl⟩ := hg.s.shape
      obtain ⟨bo, cb, rfl⟩ := hg.t.shape
      obtain ⟨co, cc, rfl⟩ := hg.u.shape
      have e1 := hgd.s_len; have e2 := hgd.w_len
      have hg' := hg
      rw [e1, e2] at hg'
      refine Calls.mono (by rw [e1, e2]; exact partsX_good n c ao bo co ca cb cc tl.length st tl wt w hg' hgd rfl (by omega) (by omega)) ?_
      rintro e w' ⟨G, cs, rfl, hG, hcs, hlt, hb⟩
      have hl := hcs.upT.len
      refine ⟨_, cs, 0, rfl, .inr (.inr ⟨hc, rfl, n, c, rfl, rfl, by omega, by omega, hcs⟩), ?_, by omega, hb⟩
      have := own_arr hG (H := w.heap.size) (by omega) (by omega)
      rw [hl] at this ⊢
      exact this
  · exact (parts_bad N k va vb vc st tl wt w hg hst hto hwt hc).mono fun e w' h => h.ans (.inl ⟨hc, rfl, rfl⟩)
theorem partsR_ans (N : Int) (va vb vc : Value) (st tl wt : List Int) (k : Int) (w : World) (hg : GIs w N va vb vc st tl wt) (hst : st.length ≤ 17592186044416) (hto : tl.length ≤ 17592186044416) (hwt : wt.length ≤ 17592186044416) :
    Calls Try.prog 77 #[gAgg N va vb vc, .int .i64 k] w (LAnR w (PtA N st tl wt k)) := by
  by_cases hc : (chk N st tl wt).1 = 0
  · by_cases hk : k < 1 ∨ 1048576 < k
    · exact (partsR_k N k va vb vc st tl wt w hg hst hto hwt hc hk).mono fun e w' h => h.anR (.inr (.inl ⟨hc, hk, rfl, rfl⟩))
    · obtain ⟨n, rfl, hgd⟩ := chk_good hc
      obtain ⟨c, rfl⟩ : ∃ c : Nat, k = c := ⟨k.toNat, by omega⟩
      obtain ⟨ao, ca, rfl⟩ := hg.s.shape
      obtain ⟨bo, cb, rfl⟩ := hg.t.shape
      obtain ⟨co, cc, rfl⟩ := hg.u.shape
      have e1 := hgd.s_len; have e2 := hgd.w_len
      have hg' := hg
      rw [e1, e2] at hg'
      refine Calls.mono (by rw [e1, e2]; exact partsR_good n c ao bo co ca cb cc tl.length st tl wt w hg' hgd rfl (by omega) (by omega)) ?_
      rintro e w' ⟨v, cs, rfl, hG, hcs, hb⟩
      exact ⟨_, cs, 0, rfl, .inr (.inr ⟨hc, rfl, n, c, rfl, rfl, by omega, by omega, hcs⟩), hG, hb⟩
  · exact (partsR_bad N k va vb vc st tl wt w hg hst hto hwt hc).mono fun e w' h => h.anR (.inl ⟨hc, rfl, rfl⟩)
theorem LdX.ans {w w' : World} {n m : Nat} {F T : Nat → Nat} {W : Nat → Int} {e : Ending} {A : Int → List Int → List Int → List Int → Int → Prop} (h : LdX w n m F T W e w') (hn : n ≤ 1048576) (hm : m ≤ 4194304) (ha : ∀ st tl wt nx, Summed n m F n st → Laying n m F T W m nx tl wt → A n st tl wt 0) : GAns w A e w' := by
  obtain ⟨G1, G2, G3, st, tl, wt, nx, rfl, a1, a2, a3, g1, g2, g3, g12, hs, hy, hb⟩ := h
  have l1 := hs.1
  have l2 := hy.tlen
  have l3 := hy.wlen
  refine ⟨n, _, _, _, st, tl, wt, 0, rfl, ha st tl wt nx hs hy, ⟨?_, ?_, ?_, fun g q r => ?_, by omega, by omega, by omega⟩, hb⟩
  · have := own_arr a1 g1 (by omega); rw [l1] at this ⊢; exact this
  · have := own_arr a2 g2 (by omega); rw [l2] at this ⊢; exact this
  · have := own_arru a3 g3 (by omega); rw [l3] at this ⊢; exact this
  · cases q; cases r; exact g12 rfl
theorem relabel_ans (N : Int) (va vb vc ov : Value) (st tl wt o : List Int) (w : World) (hg : GIs w N va vb vc st tl wt) (hst : st.length ≤ 17592186044416) (hto : tl.length ≤ 17592186044416) (hwt : wt.length ≤ 17592186044416) (hw : ∀ e, 0 ≤ at_ wt e) (ho : RowAt .i64 w ov o) :
    Calls Try.prog 32 #[gAgg N va vb vc, ov] w (GAns w (ReA N st tl wt o)) := by
  by_cases hc : (chk N st tl wt).1 = 0
  · obtain ⟨n, rfl, hgd⟩ := chk_good hc
    by_cases hok : okO n o
    · exact (relabelX_good n va vb vc st tl wt ov o (plc o) w hg hgd hw hok.prm ho).mono fun e w' h => h.ans hgd.n_le hgd.m_le fun st' tl' wt' nx hs hy => .inr (.inr ⟨n, nx, rfl, hgd, hok, rfl, rfl, hs, hy⟩)
    · exact (relabel_list n va vb vc ov st tl wt o w hg hgd ho hok).mono fun e w' h => h.ans (.inr (.inl ⟨n, rfl, hgd, hok, rfl, rfl, rfl, rfl, rfl⟩))
  · exact (relabel_bad N ov va vb vc st tl wt w hg hst hto hwt hc).mono fun e w' h => h.ans (.inl ⟨hc, rfl, rfl, rfl, rfl, rfl⟩)
theorem relabelR_ans (N : Int) (va vb vc ov : Value) (st tl wt o : List Int) (w : World) (hg : GIs w N va vb vc st tl wt) (hst : st.length ≤ 17592186044416) (hto : tl.length ≤ 17592186044416) (hwt : wt.length ≤ 17592186044416) (hw : ∀ e, 0 ≤ at_ wt e) (ho : RowAt .i64 w ov o) :
    Calls Try.prog 76 #[gAgg N va vb vc, ov] w (GAnR w (ReA N st tl wt o)) := by
  by_cases hc : (chk N st tl wt).1 = 0
  · obtain ⟨n, rfl, hgd⟩ := chk_good hc
    refine (relabelR_any n va vb vc ov st tl wt o w hg hgd hw ho).mono fun e w' h => ?_
    rcases h with ⟨hok, va', vb', vc', st', tl', wt', nx, rfl, hgi, hs, hy, hb⟩ | ⟨hok, h⟩
    · exact ⟨n, _, _, _, st', tl', wt', 0, rfl, .inr (.inr ⟨n, nx, rfl, hgd, hok, rfl, rfl, hs, hy⟩), hgi, hb⟩
    · exact h.anR (.inr (.inl ⟨n, rfl, hgd, hok, rfl, rfl, rfl, rfl, rfl⟩))
  · exact (relabelR_bad N ov va vb vc st tl wt w hg hst hto hwt hc).mono fun e w' h => h.anR (.inl ⟨hc, rfl, rfl, rfl, rfl, rfl⟩)
end Go.Proofs.Ytmagigmcbegmiaa

/- book.orders. -/
namespace Go.Proofs.Ytmagigmcbegmiaa
open Go.RowKit Go.Lib
set_option linter.unusedVariables false
set_option linter.unusedSimpArgs false
/-- What orders puts into the book. -/
structure OD (H : Nat) (x : World) (lv xv va vb vc : Value) (l y st tl wt : List Int) : Prop where
  ol : x.ownsRow H 3 1 lv l.length (l.map (Value.int .i64))
  ox : x.ownsRow H 3 1 xv y.length (y.map (Value.int .i64))
  og : OwG x H va vb vc st tl wt
  n1 : ∀ g, lv.ownBlock = some g → xv.ownBlock ≠ some g ∧ va.ownBlock ≠ some g ∧ vb.ownBlock ≠ some g
  n2 : ∀ g, xv.ownBlock = some g → va.ownBlock ≠ some g ∧ vb.ownBlock ≠ some g
  len : l.length ≤ 1099511627776 ∧ y.length ≤ 1099511627776
theorem OD.stay {w w' : World} {H : Nat} {lv xv va vb vc : Value} {l y st tl wt : List Int} (h : OD H w lv xv va vb vc l y st tl wt) (hs : ∀ (b : Nat) (cur : Array Value) (t : TypeId), w.heap[b]? = some (.cells cur t (0, 0)) → t ≠ 22 → t ≠ 23 → t ≠ 56 → w'.heap[b]? = w.heap[b]?) : OD H w' lv xv va vb vc l y st tl wt :=
  ⟨ownA_stay h.ol (fun g hg => let ⟨c, hc⟩ := ownA_type h.ol hg; hs g c _ hc (by decide) (by decide) (by decide)), ownA_stay h.ox (fun g hg => let ⟨c, hc⟩ := ownA_type h.ox hg; hs g c _ hc (by decide) (by decide) (by decide)), h.og.stay hs, h.n1, h.n2, h.len⟩
theorem Bk.moreO {base B H : Nat} {w x : World} {L1 L2 : List Value} {ls1 ls2 : List (List Int)} {lv xv va vb vc : Value} {l y st tl wt : List Int} (hk : Bk base B w L1 L2 ls1 ls2) (ho : OD H x lv xv va vb vc l y st tl wt) (hH : w.heap.size ≤ H) (hb : BkH base x.heap.size B x (L1 ++ [lv, xv, va, vb]) (L2 ++ [vc]))
    (hs : ∀ (b : Nat) (cur : Array Value) (t : TypeId), w.heap[b]? = some (.cells cur t (0, 0)) → t ≠ 22 → t ≠ 23 → t ≠ 56 → x.heap[b]? = w.heap[b]?) : Bk base B x (L1 ++ [lv, xv, va, vb]) (L2 ++ [vc]) (ls1 ++ [l, y, st, tl]) (ls2 ++ [wt]) := by
  have hle : base ≤ H := by have := hk.h.le; have := hk.h.lt; omega
  have k1 := hk.l1.stay (w' := x) (fun b cur hc => hs b cur _ hc (by decide) (by decide) (by decide))
  have k2 := hk.l2.stay (w' := x) (fun b cur hc => hs b cur _ hc (by decide) (by decide) (by decide))
  have old : ∀ u ∈ L1, ∀ g, u.ownBlock = some g → g < H := fun u hu g hg => by have := hk.l1.lt hu hg; omega
  have s1 := k1.snoc (v := lv) (l := l) (ownA_base ho.ol hle) (fun u hu g hg q => by have := old u hu g hg; have := (ho.ol.lt g q).1; omega)
  have s2 := s1.snoc (v := xv) (l := y) (ownA_base ho.ox hle) (fun u hu g hg q => by
    rcases List.mem_append.mp hu with hu | hu
    · have := old u hu g hg; have := (ho.ox.lt g q).1; omega
    · simp at hu; subst hu; exact (ho.n1 g hg).1 q)
  have s3 := s2.snoc (v := va) (l := st) (ownA_base ho.og.s hle) (fun u hu g hg q => by
    rcases List.mem_append.mp hu with hu | hu
    · rcases List.mem_append.mp hu with hu | hu
      · have := old u hu g hg; have := (ho.og.s.lt g q).1; omega
      · simp at hu; subst hu; exact (ho.n1 g hg).2.1 q
    · simp at hu; subst hu; exact (ho.n2 g hg).1 q)
  have s4 := s3.snoc (v := vb) (l := tl) (ownA_base ho.og.t hle) (fun u hu g hg q => by
    rcases List.mem_append.mp hu with hu | hu
    · rcases List.mem_append.mp hu with hu | hu
      · rcases List.mem_append.mp hu with hu | hu
        · have := old u hu g hg; have := (ho.og.t.lt g q).1; omega
        · simp at hu; subst hu; exact (ho.n1 g hg).2.2 q
      · simp at hu; subst hu; exact (ho.n2 g hg).2 q
    · simp at hu; subst hu; exact ho.og.ne g hg q)
  have s5 := k2.snoc (v := vc) (l := wt) (ownA_base ho.og.u hle) (fun u hu g hg q => by have := hk.l2.lt hu hg; have := (ho.og.u.lt g q).1; omega)
  exact ⟨hb, by simpa using s4, s5⟩
set_option maxRecDepth 100000 in
set_option maxHeartbeats 8000000 in
theorem orders_any (base B : Nat) (N : Int) (va vb vc va' vb' vc' ow ov : Value) (st tl wt o : List Int) (k : Int) (L1 L2 : List Value) (w : World) (hk : BkH base w.heap.size B w L1 L2) (hg : GIs w N va vb vc st tl wt) (hg' : GIs w N va' vb' vc' st tl wt) (hst : st.length ≤ 17592186044416) (hto : tl.length ≤ 17592186044416) (hwt : wt.length ≤ 17592186044416) (hw : ∀ e, 0 ≤ at_ wt e) (ho : RowAt .i64 w ow o) (ho' : RowAt .i64 w ov o) (hl1 : L1.length ≤ 900) (hl2 : L2.length ≤ 900) :
    Calls Try.prog 38 #[.pointer (some ⟨B, 0, none⟩), gAgg N va vb vc, gAgg N va' vb' vc', ow, ov, .int .i64 k] w fun e w' => e = .returned (.bool true) ∧ Hd base w.heap.size w w' ∧ ∃ lv xv ga gb gc l y a b c, BkH base w'.heap.size B w' (L1 ++ [lv, xv, ga, gb]) (L2 ++ [gc]) ∧ OD w.heap.size w' lv xv ga gb gc l y a b c := by
  obtain ⟨i0, ti, tz0, tz1, tz2⟩ := info_parts3 Try.info22A
  obtain ⟨W, hW⟩ : ∃ W, W = (w.alloc (.cells #[.int .i64 N, va, vb, vc] 25)).alloc (.cells #[.int .i64 N, va', vb', vc'] 25) := ⟨_, rfl⟩
  have hb1 : Below w.heap.size w (w.alloc (.cells #[.int .i64 N, va, vb, vc] 25)) := below_alloc (Below.refl _ _) _
  have hbW : Below w.heap.size w W := by rw [hW]; exact below_alloc hb1 _
  have hA : W.heap[w.heap.size]? = some (.cells #[.int .i64 N, va, vb, vc] 25 (0, 0)) := by
    rw [hW]; exact (Below.heap_alloc _ _ _ (by simp)).trans (heap_new w _)
  have hB : W.heap[w.heap.size + 1]? = some (.cells #[.int .i64 N, va', vb', vc'] 25 (0, 0)) := by
    have := heap_new (w.alloc (.cells #[.int .i64 N, va, vb, vc] 25)) (.cells #[.int .i64 N, va', vb', vc'] 25)
    rw [hW]; simpa using this
  -- all that is asked, in every later world
  have HCA : Hid (∀ X, Below W.heap.size W X → X.heap[w.heap.size]? = some (.cells #[.int .i64 N, va, vb, vc] 25 (0, 0))) := fun X hX => (hX.block _ (lt_of_heap hA)).trans hA
  have HCB : Hid (∀ X, Below W.heap.size W X → X.heap[w.heap.size + 1]? = some (.cells #[.int .i64 N, va', vb', vc'] 25 (0, 0))) := fun X hX => (hX.block _ (lt_of_heap hB)).trans hB
  have HBX : Hid (∀ X, Below W.heap.size W X → Below w.heap.size w X) := fun X hX => below_on hbW hX
  have HC1 : Hid (∀ X, Below W.heap.size W X → Calls Try.prog 34 #[gAgg N va vb vc] X (LAns X (ByA N st tl wt))) := fun X hX => byDeg_ans N va vb vc st tl wt X (hg.below (HBX.out X hX)) hst hto hwt
  have HC2 : Hid (∀ X, Below W.heap.size W X → Calls Try.prog 75 #[gAgg N va' vb' vc'] X (LAnR X (ByA N st tl wt))) := fun X hX => byDegR_ans N va' vb' vc' st tl wt X (hg'.below (HBX.out X hX)) hst hto hwt
  have HC3 : Hid (∀ X, Below W.heap.size W X → Calls Try.prog 32 #[gAgg N va vb vc, ow] X (GAns X (ReA N st tl wt o))) := fun X hX => relabel_ans N va vb vc ow st tl wt o X (hg.below (HBX.out X hX)) hst hto hwt hw (ho.below (HBX.out X hX))
  have HC4 : Hid (∀ X, Below W.heap.size W X → Calls Try.prog 76 #[gAgg N va' vb' vc', ov] X (GAnR X (ReA N st tl wt o))) := fun X hX => relabelR_ans N va' vb' vc' ov st tl wt o X (hg'.below (HBX.out X hX)) hst hto hwt hw (ho'.below (HBX.out X hX))
  have HC5 : Hid (∀ X, Below W.heap.size W X → Calls Try.prog 31 #[gAgg N va vb vc, .int .i64 k] X (LAns X (PtA N st tl wt k))) := fun X hX => parts_ans N va vb vc st tl wt k X (hg.below (HBX.out X hX)) hst hto hwt
  have HC6 : Hid (∀ X, Below W.heap.size W X → Calls Try.prog 77 #[gAgg N va' vb' vc', .int .i64 k] X (LAnR X (PtA N st tl wt k))) := fun X hX => partsR_ans N va' vb' vc' st tl wt k X (hg'.below (HBX.out X hX)) hst hto hwt
  have HSW : Hid (w.heap.size + 1 < W.heap.size) := lt_of_heap hB
  have HK := hide hk
  have HW : Hid (Below W.heap.size W W) := Below.refl _ _
  have hqa := HCA.out W HW.out
  have a0 := cell_of hqa (i := 0) rfl; have a1 := cell_of hqa (i := 1) rfl; have a2 := cell_of hqa (i := 2) rfl; have a3 := cell_of hqa (i := 3) rfl
  unfold gAgg at HC1 HC2 HC3 HC4 HC5 HC6 ⊢
  clear hk hg hg' hst hto hwt hw ho ho' hA hB hb1 hqa hbW
  go_enter Try.func38, Try.ntmps38
  rw [hW] at a0 a1 a2 a3
  go_wp2_with fail
  rw [← hW]
  clear hW a0 a1 a2 a3
  refine (HC1.out W HW.out).mono ?_
  clear HC1
  rintro e w1 ⟨lv, l, r1, rfl, hR1, hO1, hL1, hb1⟩
  have HB1 := hide hb1; have HR1 := hide hR1; have HO1 := hide hO1; have HL1 := hide hL1
  clear hb1 hR1 hO1 hL1
  have hqa := HCB.out w1 HB1.out
  have a0 := cell_of hqa (i := 0) rfl; have a1 := cell_of hqa (i := 1) rfl; have a2 := cell_of hqa (i := 2) rfl; have a3 := cell_of hqa (i := 3) rfl
  clear hqa
  go_wp2_with fail
  clear a0 a1 a2 a3
  refine (HC2.out w1 HB1.out).mono ?_
  clear HC2
  rintro e w2 ⟨lv', l', r1', rfl, hR2, hO2, hb2⟩
  obtain ⟨rfl, rfl⟩ := HR1.out.one hR2
  have HB2 := hide (below_on HB1.out hb2); have HD2 := hide hb2; have HO2 := hide hO2
  clear hb2 hR2 hO2
  have hqa := HCA.out w2 HB2.out
  have a0 := cell_of hqa (i := 0) rfl; have a1 := cell_of hqa (i := 1) rfl; have a2 := cell_of hqa (i := 2) rfl; have a3 := cell_of hqa (i := 3) rfl
  clear hqa
  go_wp2_with fail
  clear a0 a1 a2 a3
  refine (HC3.out w2 HB2.out).mono ?_
  clear HC3
  rintro e w3 ⟨N3, ga, gb, gc, a, b, c, r3, rfl, hR3, hO3, hb3⟩
  have HB3 := hide (below_on HB2.out hb3); have HD3 := hide hb3; have HO3 := hide hO3; have HR3 := hide hR3
  clear hb3 hR3 hO3
  obtain ⟨ao3, ca3, hva, _⟩ := ownA_shape HO3.out.s
  obtain ⟨bo3, cb3, hvb, _⟩ := ownA_shape HO3.out.t
  obtain ⟨co3, cc3, hvc, _⟩ := ownA_shape HO3.out.u
  subst hva hvb hvc
  obtain ⟨w4, hw4⟩ : ∃ w4, w4 = w3.alloc (.cells #[.int .i64 N3, .slice ao3 a.length ca3, .slice bo3 b.length cb3, .slice co3 c.length cc3] 25) := ⟨_, rfl⟩
  have hD4 : Below w3.heap.size w3 w4 := by rw [hw4]; exact below_alloc (Below.refl _ _) _
  have HG4 : Hid (w4.heap[w3.heap.size]? = some (.cells #[.int .i64 N3, .slice ao3 a.length ca3, .slice bo3 b.length cb3, .slice co3 c.length cc3] 25 (0, 0))) := by rw [hw4]; exact heap_new _ _
  have HB4 := hide (below_on HB3.out hD4); have HD4 := hide hD4
  clear hD4
  have hqa := HCB.out w4 HB4.out
  have a0 := cell_of hqa (i := 0) rfl; have a1 := cell_of hqa (i := 1) rfl; have a2 := cell_of hqa (i := 2) rfl; have a3 := cell_of hqa (i := 3) rfl
  clear hqa
  unfold gAgg
  rw [hw4] at a0 a1 a2 a3
  go_wp2_with fail
  rw [← hw4]
  clear a0 a1 a2 a3 hw4
  refine (HC4.out w4 HB4.out).mono ?_
  clear HC4
  rintro e w5 ⟨N5, ha, hb, hc, a', b', c', r5, rfl, hR5, hG5, hb5⟩
  obtain ⟨rfl, rfl, rfl, rfl, rfl⟩ := HR3.out.one hR5
  obtain ⟨ao5, ca5, rfl⟩ := hG5.s.shape
  obtain ⟨bo5, cb5, rfl⟩ := hG5.t.shape
  obtain ⟨co5, cc5, rfl⟩ := hG5.u.shape
  have HB5 := hide (below_on HB4.out hb5); have HD5 := hide hb5; have HG5 := hide hG5
  clear hb5 hR5 hG5
  obtain ⟨w6, hw6⟩ : ∃ w6, w6 = w5.alloc (.cells #[.int .i64 N3, .slice ao5 a.length ca5, .slice bo5 b.length cb5, .slice co5 c.length cc5] 25) := ⟨_, rfl⟩
  have hD6 : Below w5.heap.size w5 w6 := by rw [hw6]; exact below_alloc (Below.refl _ _) _
  have HG6 : Hid (w6.heap[w5.heap.size]? = some (.cells #[.int .i64 N3, .slice ao5 a.length ca5, .slice bo5 b.length cb5, .slice co5 c.length cc5] 25 (0, 0))) := by rw [hw6]; exact heap_new _ _
  have HB6 := hide (below_on HB5.out hD6); have HD6 := hide hD6
  clear hD6
  have hqa := HCA.out w6 HB6.out
  have a0 := cell_of hqa (i := 0) rfl; have a1 := cell_of hqa (i := 1) rfl; have a2 := cell_of hqa (i := 2) rfl; have a3 := cell_of hqa (i := 3) rfl
  clear hqa
  unfold gAgg
  rw [hw6] at a0 a1 a2 a3
  go_wp2_with fail
  rw [← hw6]
  clear a0 a1 a2 a3 hw6
  refine (HC5.out w6 HB6.out).mono ?_
  clear HC5
  rintro e w7 ⟨xv, y, r7, rfl, hR7, hO7, hL7, hb7⟩
  have HB7 := hide (below_on HB6.out hb7); have HD7 := hide hb7; have HO7 := hide hO7; have HR7 := hide hR7; have HL7 := hide hL7
  clear hb7 hR7 hO7 hL7
  have hqa := HCB.out w7 HB7.out
  have a0 := cell_of hqa (i := 0) rfl; have a1 := cell_of hqa (i := 1) rfl; have a2 := cell_of hqa (i := 2) rfl; have a3 := cell_of hqa (i := 3) rfl
  clear hqa
  go_wp2_with fail
  clear a0 a1 a2 a3
  refine (HC6.out w7 HB7.out).mono ?_
  clear HC6
  rintro e w8 ⟨xv', y', r7', rfl, hR8, hO8, hb8⟩
  obtain ⟨rfl, rfl⟩ := HR7.out.one hR8
  have HB8 := hide (below_on HB7.out hb8); have HD8 := hide hb8; have HO8 := hide hO8
  clear hb8 hR8 hO8 HCA HCB
  -- how the worlds lie
  have HE28 : Hid (Below w2.heap.size w2 w8) := below_on (below_on (below_on (below_on (below_on HD3.out HD4.out) HD5.out) HD6.out) HD7.out) HD8.out
  have HE18 : Hid (Below w1.heap.size w1 w8) := below_on HD2.out HE28.out
  have HE38 : Hid (Below w3.heap.size w3 w8) := below_on (below_on (below_on (below_on HD4.out HD5.out) HD6.out) HD7.out) HD8.out
  have HE48 : Hid (Below w4.heap.size w4 w8) := below_on (below_on (below_on HD5.out HD6.out) HD7.out) HD8.out
  have HE58 : Hid (Below w5.heap.size w5 w8) := below_on (below_on HD6.out HD7.out) HD8.out
  have HE68 : Hid (Below w6.heap.size w6 w8) := below_on HD7.out HD8.out
  have HBC : Hid (∀ X, Below w8.heap.size w8 X → X.heap[w3.heap.size]? = some (.cells #[.int .i64 N3, .slice ao3 a.length ca3, .slice bo3 b.length cb3, .slice co3 c.length cc3] 25 (0, 0)) ∧ X.heap[w5.heap.size]? = some (.cells #[.int .i64 N3, .slice ao5 a.length ca5, .slice bo5 b.length cb5, .slice co5 c.length cc5] 25 (0, 0))) := fun X hX =>
    ⟨(hX.block _ (Nat.lt_of_lt_of_le (lt_of_heap HG4.out) HE48.out.size)).trans ((HE48.out.block _ (lt_of_heap HG4.out)).trans HG4.out), (hX.block _ (Nat.lt_of_lt_of_le (lt_of_heap HG6.out) HE68.out.size)).trans ((HE68.out.block _ (lt_of_heap HG6.out)).trans HG6.out)⟩
  have HS1 : Hid (∀ X, Below w8.heap.size w8 X → Calls Try.prog 20 #[lv, lv'] X fun e w' => e = .returned (.bool true) ∧ Below X.heap.size X w') := fun X hX => same_any lv lv' l X (((RowAt.of_owns HO1.out).below HE18.out).below hX) ((HO2.out.below HE28.out).below hX)
  have HS2 : Hid (∀ X, Below w8.heap.size w8 X → Calls Try.prog 46 #[gAgg N3 (.slice ao3 a.length ca3) (.slice bo3 b.length cb3) (.slice co3 c.length cc3), gAgg N3 (.slice ao5 a.length ca5) (.slice bo5 b.length cb5) (.slice co5 c.length cc5)] X fun e w' => e = .returned (.bool true) ∧ Below X.heap.size X w') := fun X hX => sameG_any N3 _ _ _ _ _ _ a b c X ((HO3.out.gis.below HE38.out).below hX) ((HG5.out.below HE58.out).below hX) (by have := HO3.out.len.2.2; omega)
  have HS3 : Hid (∀ X, Below w8.heap.size w8 X → Calls Try.prog 20 #[xv, xv'] X fun e w' => e = .returned (.bool true) ∧ Below X.heap.size X w') := fun X hX => same_any xv xv' y X (((RowAt.of_owns HO7.out).below HD8.out).below hX) (HO8.out.below hX)
  have HW8 : Hid (OD W.heap.size w8 lv xv (.slice ao3 a.length ca3) (.slice bo3 b.length cb3) (.slice co3 c.length cc3) l y a b c) := by
    have z1 := HB1.out.size; have z2 := HD2.out.size; have z3 := HD3.out.size; have z4 := HD4.out.size; have z5 := HD5.out.size; have z6 := HD6.out.size
    have z12 : w.heap.size ≤ W.heap.size := (HBX.out W HW.out).size
    have o1 := ownA_stay (Y := w8) HO1.out (fun g hg => HE18.out.block g (HO1.out.lt g hg).2)
    have o7 := ownA_stay (Y := w8) HO7.out (fun g hg => HD8.out.block g (HO7.out.lt g hg).2)
    have o3 := HO3.out.below HE38.out
    refine ⟨o1, ownA_base o7 (by omega), ⟨ownA_base o3.s (by omega), ownA_base o3.t (by omega), ownA_base o3.u (by omega), o3.ne, o3.len⟩, fun g hg => ?_, fun g hg => ?_, ⟨HL1.out, HL7.out⟩⟩
    · have := (HO1.out.lt g hg).2
      exact ⟨fun q => by have := (HO7.out.lt g q).1; omega, fun q => by have := (HO3.out.s.lt g q).1; omega, fun q => by have := (HO3.out.t.lt g q).1; omega⟩
    · have := (HO7.out.lt g hg).1
      exact ⟨fun q => by have := (HO3.out.s.lt g q).2; omega, fun q => by have := (HO3.out.t.lt g q).2; omega⟩
  have HX8 : Hid (Below w.heap.size w w8 ∧ w.heap.size ≤ W.heap.size) := ⟨HBX.out w8 HB8.out, (HBX.out W HW.out).size⟩
  obtain ⟨X3, hX3⟩ : ∃ X3, X3 = w3.heap.size := ⟨_, rfl⟩
  obtain ⟨X5, hX5⟩ : ∃ X5, X5 = w5.heap.size := ⟨_, rfl⟩
  have HLX : Hid (w.heap.size < X3 ∧ X3 < w8.heap.size) := by
    have := HB1.out.size; have := HD2.out.size; have := HD3.out.size; have z4 := lt_of_heap HG4.out; have := HE48.out.size
    have := HSW.out
    have := HD3.out.size
    exact ⟨by omega, by omega⟩
  rw [← hX3, ← hX5] at HBC
  unfold gAgg at HS2
  rw [← hX3, ← hX5]
  clear hX3 hX5 HB1 HB2 HB3 HB4 HB5 HB6 HB7 HB8 HD2 HD3 HD4 HD5 HD6 HD7 HD8 HE18 HE28 HE38 HE48 HE58 HE68 HG4 HG6 HO1 HO2 HO3 HG5 HO7 HO8 HL1 HL7 HR1 HR3 HR7 HBX HW
  go_wp2_with fail
  refine (HS1.out w8 (Below.refl _ _)).mono ?_
  rintro e u1 ⟨rfl, hu1⟩
  have HU1 := hide hu1
  clear hu1 HS1
  obtain ⟨p1, p2⟩ := HBC.out u1 HU1.out
  have a0 := cell_of p1 (i := 0) rfl; have a1 := cell_of p1 (i := 1) rfl; have a2 := cell_of p1 (i := 2) rfl; have a3 := cell_of p1 (i := 3) rfl
  have b0 := cell_of p2 (i := 0) rfl; have b1 := cell_of p2 (i := 1) rfl; have b2 := cell_of p2 (i := 2) rfl; have b3 := cell_of p2 (i := 3) rfl
  clear p1 p2
  go_wp2_with (first | (go_at_call 16; refine (no_any _ _).mono ?_; rintro e w9 ⟨rfl, hw9⟩; have hw9 := hw9.symm; subst hw9) | fail)
  clear a0 a1 a2 a3 b0 b1 b2 b3
  refine (HS2.out u1 HU1.out).mono ?_
  rintro e u2 ⟨rfl, hu2⟩
  have HU2 := hide (below_on HU1.out hu2)
  clear hu2 HS2 HU1
  go_wp2_with (first | (go_at_call 16; refine (no_any _ _).mono ?_; rintro e w9 ⟨rfl, hw9⟩; have hw9 := hw9.symm; subst hw9) | fail)
  refine (HS3.out u2 HU2.out).mono ?_
  rintro e u3 ⟨rfl, hu3⟩
  have HU3 := hide (below_on HU2.out hu3)
  clear hu3 HS3 HU2
  go_upto_region 9 with (first | (go_at_call 16; refine (no_any _ _).mono ?_; rintro e w9 ⟨rfl, hw9⟩; have hw9 := hw9.symm; subst hw9) | fail)
  obtain ⟨lo, lc, hlv, _⟩ := ownA_shape HW8.out.ol
  obtain ⟨xo, xc, hxv, _⟩ := ownA_shape HW8.out.ox
  subst hlv hxv
  have hbU : Below w.heap.size w u3 := below_on HX8.out.1 HU3.out
  have HBU := hide hbU
  obtain ⟨v1, v2, hB, ho1, ho2, hu1, hu2⟩ := (HK.out.below hbU).ex
  have hle := HK.out.le
  have hBlt := HK.out.lt
  have hBw : B < u3.heap.size := lt_of_heap hB
  obtain ⟨p1, _⟩ := HBC.out u3 HU3.out
  have HAF : Hid (AfB base w.heap.size B u3 X3 #[.int .i64 N3, .slice ao3 a.length ca3, .slice bo3 b.length cb3, .slice co3 c.length cc3] v1 v2 L1 L2 u3) := ⟨hB, p1, ho1, ho2, Hd.refl _ _ _⟩
  have HOD : Hid (OD W.heap.size u3 (.slice lo l.length lc) (.slice xo y.length xc) (.slice ao3 a.length ca3) (.slice bo3 b.length cb3) (.slice co3 c.length cc3) l y a b c) := HW8.out.stay (fun b cur t h _ _ _ => HU3.out.block b (lt_of_heap h))
  have HUU := hide hu1; have HO1 := hide ho1; have HU2 := hide hu2
  have hnw := two_at u3 (.slice lo l.length lc) (.slice xo y.length xc) 22
  have HNW := hide hnw
  have b0 := cell_of hB (i := 0) rfl
  have f0 := free_of hB 0
  have hne : ¬ X3 = B := by have := HLX.out.1; omega
  clear hnw ho1 ho2 hu1 hu2 hbU p1 HBC HW8 hB
  go_upto_region 10 with (first
    | (at_builtin; refine wpList_append_lies _ rfl (.tmp 97) (.tmp 100) 52 rfl base 22 i0 (.slice none 0 0) 1 24 Try.underlying52 ti tz0 tz1 tz2 rfl (by decide) v1 L1.length L1 rfl (HO1.out.alloc _) ⟨u3.heap.size, 0, none⟩ 2 2 [.slice lo l.length lc, .slice xo y.length xc] rfl rfl HNW.out (by simp [Value.oneCell']) (by omega) (by unfold maxLen; omega) (by omega) (by simp; omega) _ rfl ?_; intro g cap w9 hown hgrow hat hlt; have zB := grow_keep hgrow (HAF.out.alloc hle (.cells #[.slice lo l.length lc, .slice xo y.length xc] 22)).o1 (HAF.out.alloc hle (.cells #[.slice lo l.length lc, .slice xo y.length xc] 22)).book (by decide); have z0 := free_of zB 0; have z1 := cell_of zB (i := 0) rfl; have HAG := hide ((HAF.out.alloc hle (.cells #[.slice lo l.length lc, .slice xo y.length xc] 22)).one (M := [.slice lo l.length lc, .slice xo y.length xc]) hle hgrow (by simpa using hown) hne hBlt HUU.out); clear hown hgrow hat hlt zB b0 f0)
    | fail)
  generalize hY : w9.setCell ⟨B, 0, none⟩ (.slice (some ⟨g, 0, none⟩) (L1.length + 2) cap) = Y at HAG ⊢
  have q := HAG.out.box
  have a0 := cell_of q (i := 0) rfl; have a1 := cell_of q (i := 1) rfl; have a2 := cell_of q (i := 2) rfl; have a3 := cell_of q (i := 3) rfl
  have HCG := hide (bookGraph_any base Y.heap.size B N3 ao3 bo3 co3 a.length ca3 b.length cb3 c.length cc3 _ _ Y ⟨⟨_, _, HAG.out.book, HAG.out.o1, HAG.out.o2, fun g hg => (HAG.out.o1.lt g hg).2, fun g hg => (HAG.out.o2.lt g hg).2⟩, hle, lt_of_heap HAG.out.book⟩ (by simp; omega) (by omega))
  unfold gAgg at HCG
  clear hY q z0 z1 HK
  go_wp2_with fail
  refine HCG.out.mono ?_
  rintro e Z ⟨rfl, hbk, hhd⟩
  have HBK := hide hbk; have HHD := hide hhd
  clear hbk hhd HCG a0 a1 a2 a3
  go_wp2_with fail
  go_ret
  have hd1 : Hd base w.heap.size w u3 := Hd.of_below (by omega) HBU.out
  have hd2 := hd1.trans HAG.out.hd
  have hd : Hd base w.heap.size w Z := ⟨HHD.out.os.trans hd2.os, HHD.out.tape.trans hd2.tape, HHD.out.output.trans hd2.output, Nat.le_trans hd2.size HHD.out.size, fun b cur t h1 h2 h3 h4 => (HHD.out.keep b cur t ((hd2.keep b cur t h1 h2 h3 h4).trans h1) h2 h3 h4).trans (hd2.keep b cur t h1 h2 h3 h4), fun b hb => (HHD.out.low b hb).trans (hd2.low b hb), fun b h1 h2 => by omega⟩
  have hod := (HOD.out.stay HAG.out.hd.keep).stay HHD.out.keep
  have hWw := HX8.out.2
  refine ⟨rfl, hd, _, _, _, _, _, l, y, a, b, c, by simpa using HBK.out, ⟨ownA_base hod.ol hWw, ownA_base hod.ox hWw, ⟨ownA_base hod.og.s hWw, ownA_base hod.og.t hWw, ownA_base hod.og.u hWw, hod.og.ne, hod.og.len⟩, hod.n1, hod.n2, hod.len⟩⟩
end Go.Proofs.Ytmagigmcbegmiaa
