/- GraphBack: the walk. -/
import Derived.Test.YtmagigmcbegmiaaGQ
import Derived.Test.YtmagigmcbegmiaaGV
import Derived.Test.YtmagigmcbegmiaaGEd
import Derived.Test.YtmagigmcbegmiaaGOf
import Derived.Deep.Cut
import Derived.BigQuiet
namespace Go.Proofs.Ytmagigmcbegmiaa
open Go.RowKit Go.Lib
set_option linter.unusedVariables false
set_option linter.unusedSimpArgs false
/-- The law's memory: the graph, its edges, the graph of these, each in its box. -/
structure BKm (b1 b2 b3 n : Nat) (va vb vc rv lv vd ve vf : Value) (st tl wt : List Int) (l : List Ed3) (x : World) : Prop where
  g : x.heap[b1]? = some (.cells #[.int .i64 n, va, vb, vc] 25 (0, 0))
  r : x.heap[b2]? = some (.cells #[.int .i64 n, rv] 47 (0, 0))
  h : x.heap[b3]? = some (.cells #[.int .i64 n, vd, ve, vf] 25 (0, 0))
  gi : GIs x n va vb vc st tl wt
  hi : GIs x n vd ve vf st tl wt
  re : EAt x rv (rowsE n st tl wt)
  le : EAt x lv l
theorem BKm.below {b1 b2 b3 n : Nat} {va vb vc rv lv vd ve vf : Value} {st tl wt : List Int} {l : List Ed3} {x y : World} (h : BKm b1 b2 b3 n va vb vc rv lv vd ve vf st tl wt l x) (hb : Below x.heap.size x y) : BKm b1 b2 b3 n va vb vc rv lv vd ve vf st tl wt l y :=
  ⟨(hb.block _ (lt_of_heap h.g)).trans h.g, (hb.block _ (lt_of_heap h.r)).trans h.r, (hb.block _ (lt_of_heap h.h)).trans h.h, h.gi.below hb, h.hi.below hb, h.re.below hb, h.le.below hb⟩
theorem bk_made {w1 w4 w6 : World} {n : Nat} {va vb vc rv lv vd ve vf : Value} {st tl wt : List Int} {l : List Ed3} (hp : PBm w1 n va vb vc w4) (hre : EAt w4 rv (rowsE n st tl wt)) (hle : EAt w4 lv l) (hg : GIs w4 n va vb vc st tl wt)
    (hb : Below (w4.alloc (.cells #[.int .i64 n, rv] 47)).heap.size (w4.alloc (.cells #[.int .i64 n, rv] 47)) w6) (hh : GIs w6 n vd ve vf st tl wt) :
    BKm w1.heap.size w4.heap.size w6.heap.size n va vb vc rv lv vd ve vf st tl wt l (w6.alloc (.cells #[.int .i64 n, vd, ve, vf] 25)) ∧ Below w4.heap.size w4 (w6.alloc (.cells #[.int .i64 n, vd, ve, vf] 25)) := by
  have b1 : Below w4.heap.size w4 (w4.alloc (.cells #[.int .i64 n, rv] 47)) := below_alloc (Below.refl _ _) _
  have b2 : Below w6.heap.size w6 (w6.alloc (.cells #[.int .i64 n, vd, ve, vf] 25)) := below_alloc (Below.refl _ _) _
  have b3 := below_on b1 (below_on hb b2)
  have hr := heap_new w4 (.cells #[.int .i64 n, rv] 47)
  exact ⟨⟨(hp.below b3).bx, ((below_on hb b2).block _ (lt_of_heap hr)).trans hr, heap_new _ _, hg.below b3, hh.below b2, hre.below b3, hle.below b3⟩, b3⟩
set_option maxRecDepth 100000 in
set_option maxHeartbeats 16000000 in
theorem back_law (nI : Int) (v : Value) (es : List Ed3) (w : World) (hE : EAt w v es) (hnn : ∀ i, i < es.length → 0 ≤ (eAt es i).2.2) :
    Calls Try.prog 7 #[.int .i64 nI, v] w fun e w' => e = .returned (.bool true) ∧ Below w.heap.size w w' := by
  obtain ⟨n, hn1, hn2, hbu⟩ := built_any nI v es w hE hnn
  obtain ⟨va0, vc0, rfl, _⟩ := id hE
  have HBU := hide hbu
  obtain ⟨m, hm⟩ : ∃ m, m = min es.length 300 := ⟨_, rfl⟩
  rw [← hm] at HBU
  have HM3 : Hid (m ≤ 300) := by have : m ≤ 300 := by omega
                                 exact this
  have HTK := hide (prL_takes es m hn1 hn2 HM3.out (fun j hj => hnn j (by omega)))
  have HN1 := hide hn1
  have HN2 := hide hn2
  clear hE hnn hbu hm hn1 hn2
  go_enter Try.func7, Try.ntmps7
  go_upto_region 4 with (first
    | (go_at_call 24; refine HBU.out.mono ?_; rintro e w1 ⟨ao, ca, bo, cb, co, cc, lo, lc, st, tl, wt, nx, rfl, hgm, hea, hb1⟩; have HGM := hide hgm; have HEL := hide hea; have HB1 := hide hb1; have HP1 := hide (PBm.start w1 n (.slice ao (n + 1) ca) (.slice bo m cb) (.slice co m cc)); clear hgm hea hb1)
    | (go_at_call 25; refine (live_any _).mono ?_; rintro e w2 ⟨rfl, hb2⟩; have HP2 := hide (HP1.out.below hb2); obtain ⟨x0, x1, x2, x3⟩ := HP2.out.cells; clear hb2 HP1)
    | fail)
  have htl := HGM.out.la.tlen
  have hwl := HGM.out.la.wlen
  have hsl := HGM.out.gd.s_len
  have HW : Hid (∀ e, e < tl.length → 0 ≤ at_ wt e) := fun e he => (HGM.out.la.win e (by omega)).1
  have hck := check_all n (.slice ao (n + 1) ca) (.slice bo m cb) (.slice co m cc) st tl wt w2 (HGM.out.at HP2.out.bel) (by have := HN2.out; omega) (by have := HM3.out; omega) (by have := HM3.out; omega)
  obtain ⟨⟨r1, r2⟩, hrr⟩ : ∃ r, chk n st tl wt = r := ⟨_, rfl⟩
  have hr0 := good_chk' HGM.out.gd
  rw [hrr] at hck hr0
  simp only at hr0
  subst hr0
  have HCK := hide hck
  have HED := hide (fun W h => edges_good n (.slice ao (n + 1) ca) (.slice bo m cb) (.slice co m cc) st tl wt W h HGM.out.gd (good_chk' HGM.out.gd))
  have HRL : Hid ((rowsE n st tl wt).length = m) := by have := rowsE_len n st tl wt; rw [htl] at this; exact this
  have HRT := hide (rowsE_takes HGM.out.gd HW.out)
  have HBD := hide (fun R W h => build_is n m (some ⟨R, 0, none⟩) m (rowsE n st tl wt) W h HRL.out.symm HRT.out)
  have HBK := hide (fun st' tl' wt' nx' h1 h2 => rows_back (st' := st') (tl' := tl') (wt' := wt') (nx' := nx') HGM.out.gd HW.out h1 h2)
  rw [htl] at HBK
  have HTL := hide htl
  unfold EdgesW gAgg at HED
  unfold gAgg at HCK
  rw [htl] at HED
  clear hrr hck htl hwl hsl
  have hfe : ∀ st' tl' wt' nx', Summed n m (eFrom (rowsE n st tl wt)) n st' → Laying n m (eFrom (rowsE n st tl wt)) (eTo (rowsE n st tl wt)) (eWt (rowsE n st tl wt)) m nx' tl' wt' → ∀ u : Nat, u < n → fil (u : Int) (rowsE n st tl wt) = fil (u : Int) (prL n es m) := fun st' tl' wt' nx' h1 h2 u hu => by
    obtain ⟨rfl, rfl, rfl⟩ := HBK.out st' tl' wt' nx' h1 h2
    rw [fil_row h1 h2 HRT.out HRL.out u hu, fil_row HGM.out.su HGM.out.la HTK.out (prL_len n es m) u hu]
  have HFE := hide hfe
  clear hfe
  go_upto_region 7 with (first
    | (go_at_call 14; refine HCK.out.mono ?_; rintro e w3 ⟨rfl, hb3⟩; have HP3 := hide (HP2.out.below hb3); clear x0 x1 x2 x3 HP2; obtain ⟨x0, x1, x2, x3⟩ := HP3.out.cells; clear hb3)
    | (go_at_call 29; refine (HED.out _ (HGM.out.at HP3.out.bel)).mono ?_; rintro e w4 ⟨R, rfl, hre, hb4, hR4⟩; have HP4 := hide (HP3.out.below hb4); have HRE : Hid (EAt w4 (.slice (some ⟨R, 0, none⟩) m m) (rowsE n st tl wt)) := (by unfold rowsE; rw [HTL.out]; exact hre); clear x0 x1 x2 x3 HP3 hre hb4 hR4)
    | (go_at_call 30; refine (HBD.out R _ (HRE.out.below (below_alloc (Below.refl _ _) _))).mono ?_; rintro e w6 ⟨ao2, ca2, bo2, cb2, co2, cc2, st2, tl2, wt2, nx2, rfl, hgm2, hb6⟩; have HF2 := hide (HFE.out _ _ _ _ hgm2.su hgm2.la); have hgi2 := hgm2.gi w6 (Nat.le_refl _) (fun _ _ _ => rfl); obtain ⟨rfl, rfl, rfl⟩ := HBK.out _ _ _ _ hgm2.su hgm2.la; have HK7 := hide (bk_made HP4.out HRE.out (HEL.out.below HP4.out.bel) (HGM.out.at HP4.out.bel) hb6 hgi2); clear hgm2 hb6 hgi2)
    | fail)
  obtain ⟨hk7, hb7⟩ := HK7.out
  have HB7 := hide (below_on HB1.out (below_on HP4.out.bel hb7))
  have HKA := hide hk7
  clear HK7 hk7 hb7 HCK HED HBD HBK HFE HRE HEL HP4 HBU
  generalize (w6.alloc (Obj.cells #[Value.int IntKind.i64 n, Value.slice ao2 (n + 1) ca2, Value.slice bo2 m cb2, Value.slice co2 m cc2] 25)) = w7 at HKA HB7 ⊢
  obtain ⟨B1, hB1⟩ : ∃ b, b = w1.heap.size := ⟨_, rfl⟩
  obtain ⟨B2, hB2⟩ : ∃ b, b = w4.heap.size := ⟨_, rfl⟩
  obtain ⟨B3, hB3⟩ : ∃ b, b = w6.heap.size := ⟨_, rfl⟩
  rw [← hB1, ← hB2, ← hB3] at HKA ⊢
  clear hB1 hB2 hB3
  have y0 := cell_of HKA.out.g (i := 0) rfl
  have y1 := cell_of HKA.out.g (i := 1) rfl
  have y2 := cell_of HKA.out.g (i := 2) rfl
  have r0 := cell_of HKA.out.r (i := 0) rfl
  have r1 := cell_of HKA.out.r (i := 1) rfl
  have h0 := cell_of HKA.out.h (i := 0) rfl
  have h1 := cell_of HKA.out.h (i := 1) rfl
  have h2 := cell_of HKA.out.h (i := 2) rfl
  go_wp2_with (first
    | (go_at_call 20; refine (same_any _ _ st2 _ HKA.out.hi.s HKA.out.gi.s).mono ?_; rintro e w8 ⟨rfl, hb8⟩; have HKB := hide (HKA.out.below hb8); have HB8 := hide (below_on HB7.out hb8); clear hb8 HKA HB7 y0 y1 y2 r0 r1 h0 h1 h2; have y2 := cell_of HKB.out.g (i := 2) rfl; have h2 := cell_of HKB.out.h (i := 2) rfl)
    | (go_at_call 20; refine (same_any _ _ tl2 _ HKB.out.hi.t HKB.out.gi.t).mono ?_; rintro e w9 ⟨rfl, hb9⟩; have HKC := hide (HKB.out.below hb9); have HB9 := hide (below_on HB8.out hb9); clear hb9 HKB HB8 y2 h2; have y0 := cell_of HKC.out.g (i := 0) rfl)
    | fail)
  go_loopw [15] (fun t wr => ∃ j : Nat, j ≤ n ∧ t = .int .i64 j ∧ BKm B1 B2 B3 n (.slice ao (n + 1) ca) (.slice bo m cb) (.slice co m cc) (.slice (some ⟨R, 0, none⟩) m m) (.slice lo m lc) (.slice ao2 (n + 1) ca2) (.slice bo2 m cb2) (.slice co2 m cc2) st2 tl2 wt2 (prL n es m) wr ∧ Below w.heap.size w wr) (fun t _ => n - (RowKit.intOf t).toNat)
  case atStart => exact ⟨0, by omega, rfl, HKC.out, HB9.out⟩
  case round =>
    obtain ⟨j, hjn, rfl, hkc, hbr⟩ := hrel
    clear HKC HB9 y0
    have HKC := hide hkc
    have HBR := hide hbr
    clear hkc hbr
    have y0 := cell_of HKC.out.g (i := 0) rfl
    have r1 := cell_of HKC.out.r (i := 1) rfl
    by_cases hlt : j < n
    · have hfj := HF2.out j hlt
      have HFJ := hide hfj
      have HO1 := hide (fun W h => of_any (.slice (some ⟨R, 0, none⟩) m m) (rowsE n st2 tl2 wt2) (j : Int) W h (by rw [HRL.out]; have := HM3.out; omega))
      have HO2 := hide (fun W h => of_any (.slice lo m lc) (prL n es m) (j : Int) W h (by rw [prL_len]; have := HM3.out; omega))
      rw [hfj] at HO1
      have hjn2 : (j : Int) < (n : Int) := by omega
      clear hfj
      go_wp2_with (first
        | (go_at_call 27; refine (HO1.out _ HKC.out.re).mono ?_; rintro e wa ⟨la, ca3, rfl, hea, hba⟩; have HKD := hide (HKC.out.below hba); have HEA := hide hea; have HBA := hide (below_on HBR.out hba); clear hea hba HKC HBR y0 r1)
        | (go_at_call 27; refine (HO2.out _ HKD.out.le).mono ?_; rintro e wb ⟨lb, cb3, rfl, heb, hbb⟩; have HKE := hide (HKD.out.below hbb); have HEB := hide heb; have HEA2 := hide (HEA.out.below hbb); have HBB := hide (below_on HBA.out hbb); clear heb hbb HKD HBA HEA)
        | (go_at_call 23; refine (sameEdges_any _ _ _ _ HEA2.out HEB.out).mono ?_; rintro e wc ⟨rfl, hbc⟩; have HKF := hide (HKE.out.below hbc); have HBC := hide (below_on HBB.out hbc); clear hbc HKE HBB HEB HEA2)
        | fail)
      have hwj : wrap64 ((j : Int) + 1) = (j : Int) + 1 := IntWalk.wrap64_in _ (by have := HN2.out; omega)
      rw [hwj]
      go_roundw
      case rel => exact ⟨j + 1, by omega, by simp, HKF.out, HBC.out⟩
      case measure => simp [RowKit.intOf]; omega
    · obtain rfl : j = n := by omega
      go_wp2_with fail
      go_ret
      exact ⟨rfl, HBR.out⟩
end Go.Proofs.Ytmagigmcbegmiaa
