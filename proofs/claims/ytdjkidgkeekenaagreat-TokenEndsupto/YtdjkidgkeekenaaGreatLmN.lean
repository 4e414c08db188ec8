/- TokenEnds: the walk. -/
import Derived.Test.YtdjkidgkeekenaaGreatLmP
import Derived.Test.YtdjkidgkeekenaaGreatRq
import Derived.Test.YtdjkidgkeekenaaGreatK9
namespace Go.Proofs.YtdjkidgkeekenaaGreat
open Go.RowKit Go.Lib Go.MuLone
set_option linter.unusedVariables false
set_option linter.unusedSimpArgs false
theorem RowAt.of_ownW {W : World} {Z : Nat} {v : Value} {cs : List Int} (h : W.ownsRow Z 36 1 v cs.length (cs.map (Value.int .u64))) : RowAt .u64 W v cs := by
  obtain ⟨h0, ⟨rfl, hn⟩ | ⟨g, cap, cur, rfl, hg, hc, r1, r2, r3, r4⟩⟩ := id h
  · obtain rfl := List.eq_nil_of_length_eq_zero hn
    exact ⟨none, 0, rfl, Nat.le_refl _, by omega, fun _ => rfl, fun a ha => by cases ha⟩
  · refine ⟨_, cap, rfl, r1, by unfold maxLen at r2; omega, fun e => (by cases e), fun a ha i hi => ?_⟩
    cases ha
    have := img_at h rfl hi
    rw [Addr.add_lit, Nat.zero_add]
    exact this
set_option maxRecDepth 100000 in
set_option maxHeartbeats 8000000 in
theorem ends_law (v0 v1 vp : Value) (b : Int) (ls : List (List Int)) (aw pk : List Int) (w : World) (hr : RwsI w v0 ls) (ha : RowAt .i64 w v1 aw) (hN : Bnd ls aw) (hp : RowAt .i64 w vp pk) (hpl : pk.length ≤ 1048576) (hbu : b ≤ 9223372036854775807) :
    Calls Tryz.prog 4 #[.agg #[v0, v1, .int .i64 b], vp] w fun e w' => e = .returned (.bool true) ∧ Below w.heap.size w w' := by
  obtain ⟨so, sc, rfl, hsc⟩ := hr.shape
  obtain ⟨bo, bc, rfl⟩ := ha.shape
  obtain ⟨po, pc, rfl⟩ := hp.shape
  have HC5 := hide (fun W (hb : Below w.heap.size w W) => refCheck_any _ _ b ls aw W (hr.below hb) (ha.below hb) hN)
  have HC6 := hide (fun W (hb : Below w.heap.size w W) => checks_law _ _ b 0 ls aw W (hr.below hb) (ha.below hb) hN)
  have HC7 := hide (fun W (hb : Below w.heap.size w W) hck h1 h2 => lay_any _ _ b ls aw W (hr.below hb) (ha.below hb) hN hck h1 h2)
  have HRW := hide (fun W (hb : Below w.heap.size w W) => hr.below hb)
  have HAW := hide (fun W (hb : Below w.heap.size w W) => ha.below hb)
  have HAL := hide hN.a
  have HBU := hide hbu
  clear hbu
  have HPK := hide (fun W (hb : Below w.heap.size w W) => hp.below hb)
  have HPL := hide hpl
  obtain ⟨X0, hX0⟩ : ∃ X0, X0 = w.alloc (.cells #[.slice so ls.length sc, .slice bo aw.length bc, .int .i64 b] 25) := ⟨_, rfl⟩
  have HB := hide (show Below w.heap.size w X0 by rw [hX0]; exact below_alloc (Below.refl _ _) _)
  have HA := hide (show X0.heap[w.heap.size]? = some (.cells #[.slice so ls.length sc, .slice bo aw.length bc, .int .i64 b] 25 (0, 0)) by rw [hX0]; exact heap_new _ _)
  have a0 := cell_of HA.out (i := 0) rfl; have a1 := cell_of HA.out (i := 1) rfl; have a2 := cell_of HA.out (i := 2) rfl
  clear hr ha hN hp hsc hpl
  rw [hX0] at a0 a1 a2
  go_enter Tryz.func4, Tryz.ntmps4
  go_wp2_with fail
  rw [← hX0]
  clear hX0 a0 a1 a2
  refine (HC5.out X0 HB.out).mono ?_
  rintro e w1 ⟨hb1, r, rfl, hck⟩
  replace HA := hide ((hb1.block _ (lt_of_heap HA.out)).trans HA.out)
  replace HB := hide (below_on HB.out hb1)
  have HCK := hide hck
  have a0 := cell_of HA.out (i := 0) rfl; have a1 := cell_of HA.out (i := 1) rfl; have a2 := cell_of HA.out (i := 2) rfl
  clear hb1 hck HC5
  by_cases hr : r = 0
  · subst hr
    have HLS := hide HCK.out.len
    go_wp2_with fail
    clear a0 a1 a2
    refine (HC7.out w1 HB.out HCK.out HLS.out.1 HLS.out.2.1).mono ?_
    rintro e w2 ⟨X, bb, gc, rb, Y, Z, vP, vN, vG, qs, ps, sv, rfl, hbl, hz, hlb, hlg, har, hlx, hnd, hpo, hinj, hlo⟩
    have hpn : ∀ w, (binOp .eql 28 (.pointer (some ⟨X, 0, none⟩)) (.pointer none)).run Tryz.prog w = .ok (.bool false) w := fun w => rfl
    obtain ⟨gN, cN, rfl⟩ := row_ptr hlx.n (by have := HLS.out.1; omega)
    have hcx := hlx.x
    have x0 : w2.cell? ⟨X, 0, none⟩ = some (.pointer (some ⟨bb, 0, none⟩)) := cell_of hlx.x rfl
    have HIM := hide (image_any _ _ _ _ _ w2 har)
    have HLD := hide (And.intro hbl (And.intro hz (And.intro hlb (And.intro hlg (And.intro har (And.intro hlx (And.intro hnd (And.intro hinj hlo))))))))
    clear hbl hz hlb hlg har hlx hnd hpo hinj hlo HC7 hcx
    go_wp2_with fail
    refine HIM.out.mono ?_
    rintro e w2' ⟨vf, rfl, hfo, har', hci⟩
    obtain ⟨hbl, hz, hlb, hlg, har, hlx, hnd, hinj, hlo⟩ := HLD.out
    have nb : ∀ {j : Nat} {cs : Array Value} {t : TypeId}, w2.heap[j]? = some (.cells cs t (0, 0)) → t ≠ 112 → w2'.heap[j]? = some (.cells cs t (0, 0)) := fun {j cs t} hj ht => hci.heap hj (ne_ty hj har.hb ht)
    obtain ⟨vals, hvals⟩ := hlx.g
    have hlx' : LX w1 w2' X bb rb Z vP (.slice (some ⟨gN, 0, none⟩) ls.length cN) vG ls.length ls.length ls.length qs ps :=
      ⟨nb hlx.x (by decide), hlx.xl, own_stayR hlx.p (fun g hg => by obtain ⟨_, _, cs, h3⟩ := own_ty hlx.p hg; exact (nb h3 (by decide)).trans h3.symm), own_stayR hlx.n (fun g hg => by obtain ⟨_, _, cs, h3⟩ := own_ty hlx.n hg; exact (nb h3 (by decide)).trans h3.symm), ⟨vals, own_stayR hvals (fun g hg => by obtain ⟨_, _, cs, h3⟩ := own_ty hvals hg; exact (nb h3 (by decide)).trans h3.symm)⟩⟩
    have hnd' : ∀ j, j < ls.length → w2'.heap[qs j]? = some ((Nd.new ls aw b j).obj (sv j)) ∧ Snd w2' Z (sv j) (rowL ls j) := fun j hj => ⟨nb (hnd j hj).1 (by decide), (hnd j hj).2.stay fun g hg => by obtain ⟨cs, ht⟩ := (hnd j hj).2.typ hg; exact (nb ht (by decide)).trans ht.symm⟩
    have hbl' : Below w1.heap.size w1 w2' := Chg.below hbl hci (fun i e => by rw [e]; exact hlb) hbl.size
    have HST := hide (fun W lb sb rs (hp : PLm w2' W bb ls.length lb sb qs rs) => lm_start HCK.out HBU.out hbl' hz hlb hlg har' hlx' hnd' hinj hlo hp)
    have HPY := hide (played_any bb ls.length X Z gN cN vP (.pointer (some ⟨rb, 0, none⟩)) vG qs w2' ⟨HLS.out.1, HLS.out.2.1⟩ hlx'.x hlx'.n)
    have hgF : ∀ g, vf.ownBlock = some g → g ≠ gc := fun g hg e => by
      have h1 := (own_ty8 hfo hg).1
      have h2 := lt_of_heap har.hc
      omega
    have HFO := hide hfo
    have HGF := hide hgF
    clear hbl hz hlb hlg har hlx hnd hinj hlo har' hci nb hvals hlx' hnd' hbl' hfo hgF HLD HIM
    go_wp2_with fail
    refine HPY.out.mono ?_
    rintro e w3 ⟨lb, sb, rs, rfl, hpl⟩
    have hpn2 : ∀ w, (binOp .eql 30 (.pointer (some ⟨lb, 0, none⟩)) (.pointer none)).run Tryz.prog w = .ok (.bool false) w := fun w => rfl
    have HL := hide (HST.out w3 lb sb rs hpl)
    have HKA := hide (Kp.of_below (gc := gc) hpl.bel)
    clear hpl HPY HST
    have HRN := hide (run_full HL.out po pc pk (HPK.out w1 HB.out) HPL.out (by have := HPL.out; omega))
    go_wp2_with fail
    refine HRN.out.mono ?_
    rintro e w4 ⟨⟨vr, rfl⟩, lv4, s4, gs4, ds4, mv4, h4, k4, kp4⟩
    have H4 := hide h4
    have HK4 := hide k4
    have HKB := hide (HKA.out.trans kp4)
    clear h4 k4 HRN HL kp4 HKA
    have HTU := hide (turns_any (.slice so ls.length sc) (.slice bo aw.length bc) b ls w4 (HRW.out w4 (below_on HB.out H4.out.bel)) HLS.out.2.1 HLS.out.2.2.1)
    have hab := (H4.out.bel.block _ (lt_of_heap HA.out)).trans HA.out
    have a0 := cell_of hab (i := 0) rfl; have a1 := cell_of hab (i := 1) rfl; have a2 := cell_of hab (i := 2) rfl
    clear hab
    go_wp2_with fail
    clear a0 a1 a2
    refine HTU.out.mono ?_
    rintro e w5 ⟨rfl, hb5⟩
    have H5 := hide (H4.out.below hb5)
    have HKC := hide (HKB.out.trans (Kp.of_below hb5))
    clear hb5 HTU H4 HKB
    obtain ⟨most, hmost⟩ : ∃ most, most = ls.length * (100 * tot ls ls.length + 100 * ls.length + 200) := ⟨_, rfl⟩
    have hmb : most ≤ 64500000 := by
      have h1 := HLS.out.2.1
      have h2 := HLS.out.2.2.1
      have : ls.length * (100 * tot ls ls.length + 100 * ls.length + 200) ≤ 64 * (100 * 10000 + 100 * 64 + 200) := Nat.mul_le_mul h1 (by omega)
      omega
    have hfin : Ov ls.length (trn ls.length (ds4, s4.cells) 0 most).1 := fin_ov (by have := HLS.out.1; omega) HLS.out.2.1 H5.out.inv (Int.le_trans (HK4.out.ev HLS.out.2.1) (ev_new ls aw b)) HLS.out.2.2.1 (by have := HPL.out; omega) (by rw [hmost]; exact Nat.le_refl _)
    have HFI := hide (finish_full H5.out most (by have := HPL.out; omega) hfin)
    rw [← hmost]
    have HMB := hide hmb
    clear hmost hfin hmb
    go_wp2_with fail
    refine HFI.out.mono ?_
    rintro e w6 ⟨⟨vr2, rfl⟩, lv6, s6, gs6, ds6, mv6, h6, k6, o6, kp6⟩
    have H6 := hide h6
    have HK6 := hide (HK4.out.trans k6)
    have HO6 := hide o6
    have HKD := hide (HKC.out.trans kp6)
    clear h6 k6 o6 HK4 H5 HFI kp6 HKC
    obtain ⟨_, _, vG6, hx6⟩ := H6.out.x
    have x0 : w6.cell? ⟨X, 0, none⟩ = some (.pointer (some ⟨bb, 0, none⟩)) := cell_of hx6 rfl
    have hbig : s6.log.length * 64 ≤ 140737488355328 := by have := H6.out.lk; have := HMB.out; have := HPL.out; omega
    have HLG := hide (log_any _ _ _ _ _ w6 H6.out.ar hbig)
    clear hx6 hbig
    go_wp2_with fail
    refine HLG.out.mono ?_
    rintro e w7 ⟨vl, rfl, hown, hal, hcl⟩
    have H7 := hide (H6.out.look hal hcl)
    have hkf := HKD.out.trans (H6.out.kpb hcl)
    have hf7 := own_stayR HFO.out (fun g hg => by
      obtain ⟨_, cs, h3⟩ := own_ty8 HFO.out hg
      exact (hkf.2 _ _ _ h3 (.inr ⟨rfl, HGF.out g hg⟩)).trans h3.symm)
    have HR7 := hide (HK6.out.rest (aw := aw) (b := b) rfl (by have := HLS.out.1; omega) HLS.out.2.1 (by have := HMB.out; have := HPL.out; omega) H6.out.inv HO6.out)
    obtain ⟨_, hag⟩ := HK6.out.again rfl rfl
    have hag' : replay (cl0 ls.length) s6.log 0 = (-1, s6.cells) := hag
    have HRP := hide (replay_any vf vl (cl0 ls.length) s6.log w7 (WordsAt.of_owns hf7) (AccsAt.of_owns hown) (by rw [cl0_len]; have := HLS.out.2.1; omega) (by have := H6.out.lk; have := HMB.out; have := HPL.out; omega))
    rw [hag'] at HRP
    have hcl0 : (cl0 ls.length).length = s6.cells.length := by rw [cl0_len]; exact H6.out.inv.sys.len.symm
    rw [hcl0] at HRP
    have HLN := hide (show s6.cells.length = 4 + ls.length from H6.out.inv.sys.len)
    have HGC := hide (lt_of_heap H7.out.ar.hc)
    clear hown hal hcl HLG H6 x0 hkf hf7 hag hag' hcl0 HKD HFO HGF
    go_wp2_with fail
    refine HRP.out.mono ?_
    rintro e w8 ⟨v8, rfl, hown8, hb8⟩
    have H8 := hide (H7.out.below hb8)
    have HO8 := hide hown8
    have HG8 := hide (fun g (hg : v8.ownBlock = some g) => (show g ≠ gc from fun e => by
      have h1 := (own_ty8 hown8 hg).1
      have h2 := HGC.out
      omega))
    have HOV := hide (lover_any H8.out)
    clear hown8 hb8 HRP H7 HGC
    go_wp2_with fail
    refine HOV.out.mono ?_
    rintro e w9 ⟨ov, rfl, hov, h9, k9⟩
    obtain rfl : ov = true := hov.2 HO6.out
    have H9 := hide h9
    have HO9 := hide (own_stayR HO8.out (fun g hg => by
      obtain ⟨_, cs, h3⟩ := own_ty8 HO8.out hg
      exact (k9.2 _ _ _ h3 (.inr ⟨rfl, HG8.out g hg⟩)).trans h3.symm))
    have HRS := hide (rested_full (.slice so ls.length sc) (.slice bo aw.length bc) b ls aw h9 (HRW.out w1 HB.out) (HAW.out w1 HB.out) rfl HLS.out.2.2.2 HAL.out HR7.out)
    have hab := (h9.bel.block _ (lt_of_heap HA.out)).trans HA.out
    have a0 := cell_of hab (i := 0) rfl; have a1 := cell_of hab (i := 1) rfl; have a2 := cell_of hab (i := 2) rfl
    clear hov h9 k9 H8 HO8 HG8 HOV hab
    go_wp2_with fail
    clear a0 a1 a2
    refine HRS.out.mono ?_
    rintro e w10 ⟨rfl, h10, c10⟩
    have H10 := hide h10
    have HO10 := hide (own_stayR HO9.out (fun g hg => by
      obtain ⟨_, cs, h3⟩ := own_ty8 HO9.out hg
      exact (c10.heap h3 (ne_ty h3 H9.out.ar.hb (by decide))).trans h3.symm))
    have HIM2 := hide (image_any _ _ _ _ _ w10 h10.ar)
    obtain ⟨_, _, vGa, hxa⟩ := h10.x
    have x0 : w10.cell? ⟨X, 0, none⟩ = some (.pointer (some ⟨bb, 0, none⟩)) := cell_of hxa rfl
    clear h10 c10 hxa HRS HO9 H9
    go_wp2_with fail
    refine HIM2.out.mono ?_
    rintro e w11 ⟨v11, rfl, hown11, hai, hci⟩
    have H11 := hide (H10.out.look hai hci)
    have HO11 := own_stayR HO10.out (fun g hg => by
      obtain ⟨_, cs, h3⟩ := own_ty8 HO10.out hg
      exact (hci.heap h3 (ne_ty h3 H10.out.ar.hb (by decide))).trans h3.symm)
    have HSW := hide (sameWords_any v8 v11 s6.cells w11 (RowAt.of_ownW HO11) (RowAt.of_ownW hown11))
    clear hown11 hai hci HIM2 H10 HO10 HO11 x0
    go_wp2_with fail
    refine HSW.out.mono ?_
    rintro e w12 ⟨rfl, hb12⟩
    have HB12 := hide (below_on HB.out (below_on H11.out.bel hb12))
    clear hb12 HSW H11
    go_wp2_with fail
    go_ret
    exact ⟨rfl, HB12.out⟩
  · have hr1 : (r != 0) = true := by simp [hr]
    go_wp2_with fail
    clear a0 a1 a2
    refine (HC6.out w1 HB.out).mono ?_
    rintro e w2 ⟨rfl, hb2⟩
    have HB2 := hide (below_on HB.out hb2)
    clear hb2
    go_wp2_with fail
    go_ret
    exact ⟨rfl, HB2.out⟩
end Go.Proofs.YtdjkidgkeekenaaGreat
