/- RingFirst: the walk. -/
import Derived.Test.YtgjdjdgondpjeaaGreatFiB
import Derived.Deep.RegionHeld3
import Derived.Deep.RegionWith
import Derived.BigQuiet
import Derived.Deep.QuietTactic
namespace Go.Proofs.YtgjdjdgondpjeaaGreat
open Go.RowKit Go.Lib
set_option linter.unusedVariables false
set_option linter.unusedSimpArgs false
set_option maxRecDepth 100000 in
set_option maxHeartbeats 8000000 in
theorem first_law (b C n : Int) (tv : Value) (l : List Tk) (ov : Value) (ops : List OpR) (w : World) (htv : TAt w tv l) (htk : Tok l) (hops : RAt opA 4 w ov ops) (hok : OpsOk ops) (hlen : ops.length ≤ 1048576) (hl20 : l.length ≤ 1048576) :
    Calls Tryz.prog 5 #[qAgg b C, tv, .int .i64 n, ov] w fun e w' => e = .returned (.bool true) ∧ Below w.heap.size w w' := by
  obtain ⟨W, hW⟩ : ∃ W, W = w.alloc (.cells #[.int .i64 b, .int .i64 C] 23) := ⟨_, rfl⟩
  have hbW : Below w.heap.size w W := by rw [hW]; exact below_alloc (Below.refl _ _) _
  have HBW := hide hbW
  have HZ := hide (show W.heap[w.heap.size]? = some (.cells #[.int .i64 b, .int .i64 C] 23 (0, 0)) by rw [hW]; exact heap_new _ _)
  have HF := hide (fits_any b C tv l W (htv.below hbW) htk)
  obtain ⟨oo, oc, rfl, hoc, hoc2⟩ := hops.shape
  obtain ⟨ta, tc, rfl, htc, _⟩ := htv.shape
  have HOP := hide (fun V (k : Below w.heap.size w V) => hops.below k)
  have HTV := hide (fun V (k : Below w.heap.size w V) => htv.below k)
  have a0 := cell_of HZ.out (i := 0) rfl; have a1 := cell_of HZ.out (i := 1) rfl
  unfold qAgg at HF ⊢
  by_cases he : errR b C l = 0
  · rw [show decide (errR b C l = 0) = true by simpa using he] at HF
    obtain ⟨b, C, rfl, rfl, hC1, hC2, hbm, hnv, hlc⟩ := errR_zero he
    have hk := hN_le n
    obtain ⟨k, hkk⟩ : ∃ k, k = hN n := ⟨_, rfl⟩
    rw [← hkk] at hk
    have HHN := hide (fun V => handles_any n V)
    rw [← hkk] at HHN
    have HLY := hide (fun V (kb : Below w.heap.size w V) => lay_any b C k _ l V (HTV.out V kb) htk hC1 hC2 hbm hnv hlc (by omega))
    have HTK := hide htk
    have HCL := hide (show 2 ≤ C ∧ C ≤ 65536 ∧ l.length ≤ C from ⟨hC1, hC2, hlc⟩)
    have HOK := hide hok
    have HBM := hide hbm
    unfold qAgg at HLY
    obtain ⟨L, hL⟩ : ∃ L, L = ops.length := ⟨_, rfl⟩
    have HLn := hide hL
    rw [← hL] at hlen hoc HOP ⊢
    rw [hW] at a0 a1
    clear hops htv hbW he hnv hlc hkk htk hok hL hbm htc
    go_enter Tryz.func5, Tryz.ntmps5
    go_wp2_with fail
    rw [← hW]
    clear hW a0 a1
    refine HF.out.mono ?_
    rintro e w2 ⟨rfl, hb2⟩
    have HB2 := hide (below_on HBW.out hb2)
    have hz2 := (hb2.block _ (lt_of_heap HZ.out)).trans HZ.out
    have HZ2 := hide hz2
    have a0 := cell_of hz2 (i := 0) rfl; have a1 := cell_of hz2 (i := 1) rfl
    clear hb2 hz2 HF HZ HBW
    go_wp2_with (go_at_call 11; refine (HHN.out _).mono ?_; rintro e w3 ⟨rfl, rfl⟩)
    refine (HLY.out _ HB2.out).mono ?_
    rintro e w4 ⟨X, ab, gc, rb, rc, Y, Y2, Z, vP, vH, vG, qs, ps, rs, rfl, hll⟩
    obtain ⟨gP, cP, rfl⟩ := own_spot hll.rp (by omega)
    obtain ⟨gH, cH, rfl⟩ := own_spot hll.rh (by omega)
    obtain ⟨i0, hi, hz0, hz1, hz2⟩ := info_parts Tryz.info42
    have HRM := hide ((hll.rm ⟨hk.1, by omega⟩ HTK.out hC1 hC2 HCL.out.2.2).base HB2.out)
    generalize htb : tb0 b C ab rb (.slice (some ⟨gP, 0, none⟩) k cP) (.slice (some ⟨gH, 0, none⟩) k cH) vG = tb at HRM
    have HRW := hide (show RW w w4 X ab gc Y Z k tb (.slice none 0 0) (s0 b C l) gP cP gH cH qs ps (fun _ => .slice none 0 0) (fun _ => false) (fun _ => Hs.new) b C 0 l 0 from ⟨HRM.out, ⟨_, RI.start hC1 hC2 HCL.out.2.2 rfl⟩, rfl, by have := HCL.out; omega, by rw [← htb]; exact ⟨rfl, rfl⟩⟩)
    have HB4 := hide (HRW.out.rm.bel)
    have HZ4 := hide ((hll.bel.block _ (lt_of_heap HZ2.out)).trans HZ2.out)
    have hpn : ∀ w, (binOp .eql 28 (.pointer (some ⟨X, 0, none⟩)) (.pointer none)).run Tryz.prog w = .ok (.bool false) w := fun w => rfl
    have hmk := make_tk k (by omega)
    have HW4 := hide (show w.heap.size ≤ w4.heap.size from HB4.out.size)
    clear hll HRM htb HZ2 HLY HHN HB2 a0 a1
    go_wp2_with (at_builtin; refine wpList_freshT rfl (.tmp 38) (.tmp 39) 24 rfl 42 i0 (.agg #[.int .u64 0, .int .u64 0]) Tryz.underlying24 hi hz0 hz1 hz2 rfl w4.heap.size w4.heap.size (own_new2 _ 42 w4.heap.size rfl) (by simp) _ l rfl rfl (HTV.out _ (below_alloc HB4.out _)) (by omega) (by unfold maxLen; omega) ?_; intro v5 w5 hownA hbelA; have HOA := hide (show TOwn w5 w4.heap.size v5 l from hownA); have HB5 := hide (below_on (below_alloc (Below.refl w4.heap.size w4) _) hbelA); obtain ⟨a5, c5, h5⟩ : ∃ a5 c5, v5 = .slice a5 l.length c5 := owns_shape hownA; subst h5; clear hownA hbelA)
    have HNN := hide (town_made w5 k (by omega))
    have HND := hide (town_made (w5.alloc (.cells (madeCells #[.int .u64 0, .int .u64 0] (k * 2)) 42)) k (by omega))
    have HB6 := hide (below_alloc (below_alloc (Below.refl w5.heap.size w5) (.cells (madeCells #[.int .u64 0, .int .u64 0] (k * 2)) 42)) (.cells (madeCells #[.int .u64 0, .int .u64 0] (k * 2)) 42))
    have hsz : (w5.alloc (.cells (madeCells #[.int .u64 0, .int .u64 0] (k * 2)) 42)).heap.size = w5.heap.size + 1 := by simp
    have HB7 := hide (below_alloc (Below.refl (w5.alloc (.cells (madeCells #[.int .u64 0, .int .u64 0] (k * 2)) 42)).heap.size (w5.alloc (.cells (madeCells #[.int .u64 0, .int .u64 0] (k * 2)) 42))) (.cells (madeCells #[.int .u64 0, .int .u64 0] (k * 2)) 42))
    have HN2 := hide (HNN.out.below HB7.out)
    rw [hsz] at HND
    generalize ((w5.alloc (.cells (madeCells #[.int .u64 0, .int .u64 0] (k * 2)) 42)).alloc (.cells (madeCells #[.int .u64 0, .int .u64 0] (k * 2)) 42)) = w6 at HND HB6 HN2 ⊢
    have HI0 := hide (show FInv w X ab gc Y Z k tb gP cP gH cH w5.heap.size (w5.heap.size + 1) qs ps b C 0 (.slice a5 l.length c5) (.int .i64 0) w6 from by
      have h4 := HW4.out
      have h5 := HB5.out.size
      have hlt := fun g hg => World.ownsRow.lt HOA.out g hg
      refine ⟨_, _, _, _, _, l, 0, List.replicate k (0, 0), List.replicate k (0, 0), (HRW.out.below HB5.out).below HB6.out, rfl, own_lower (HOA.out.below HB6.out) h4, own_lower HN2.out (Nat.le_trans h4 h5), own_lower HND.out (by omega), ⟨by simp, by simp, by omega⟩, fun g hg => ?_, fun i _ => ⟨(fun e => by cases e), (fun e => by cases e)⟩, ?_, fun i hi => ⟨fun h => ?_, fun h => ?_⟩⟩
      · have := (hlt g hg).2
        exact ⟨by omega, by omega, (fun i _ e => by cases e)⟩
      · exact (HB6.out.block _ (lt_of_heap ((HB5.out.block _ (lt_of_heap HZ4.out)).trans HZ4.out))).trans ((HB5.out.block _ (lt_of_heap HZ4.out)).trans HZ4.out)
      · exact absurd (show 1 ≤ 0 from h) (by decide)
      · exact absurd (show 10 ≤ 0 from h) (by decide))
    generalize w5.heap.size = gN at HI0 ⊢
    generalize hgD : gN + 1 = gD at HI0 ⊢
    clear HRW HNN HND HB6 HB7 HN2 HOA HB5 HB4 HZ4 HW4 hsz hmk hpn hgD HTV HTK
    go_loopw [11, 14, 15] (fun rv gone tt wq => ∃ j : Nat, j ≤ L ∧ tt = .int .i64 (j : Int) ∧ FInv w X ab gc Y Z k tb gP cP gH cH gN gD qs ps b C j rv gone wq) (fun _ _ tt _ => L - (RowKit.intOf tt).toNat)
    case atStart => exact ⟨0, Nat.zero_le _, rfl, HI0.out⟩
    case round =>
      obtain ⟨j, hjL, rfl, lv, s, vs, gs, ds, row, H, nl, dl, hrw, rfl, hrv, hnl, hdl, hlen3, hdis, hvd, hbx, hfi⟩ := hrel
      have HRW := hide hrw; have HSD := hide (show Sd w wr k gN gD b C _ vs row nl dl from ⟨hrv, hnl, hdl, hlen3, hdis, hvd, hbx⟩); have HFI := hide hfi
      have hW := hrw.rm.bel
      have HBL := hide hW
      obtain ⟨av, cv, rfl⟩ := owns_shape hrv
      clear HI0 hrw hrv hnl hdl hlen3 hdis hvd hbx hfi
      by_cases hlt : j < L
      · have hjl : j < ops.length := by rw [← HLn.out]; exact hlt
        have hjj : (j : Int) < (L : Int) := by omega
        have ho : ops[j]? = some ops[j] := List.getElem?_eq_getElem hjl
        have HOO := hide (HOK.out ops[j] (List.getElem_mem hjl))
        obtain ⟨og, oq, ho0, _, hcl⟩ := (HOP.out wr hW).at j hjl
        subst ho0
        have hoc : ∀ V, Below w.heap.size w V → ∀ m u, (opA ops[j])[m]? = some u → V.cell? ⟨og, oq + j * 4 + m, none⟩ = some u := fun V kb m u hm => by
          obtain ⟨_, _, he, _, h⟩ := (HOP.out V kb).at j hjl
          simp only [Option.some.injEq, Addr.mk.injEq, and_true] at he
          obtain ⟨rfl, rfl⟩ := he
          exact h m u hm
        generalize hop : ops[j] = op at HOO hoc
        obtain ⟨kd, who, t1, t2⟩ := op
        have HOC := hide (fun V (kb : Below w.heap.size w V) => (⟨hoc V kb 0 _ rfl, hoc V kb 1 _ rfl, hoc V kb 2 _ rfl, hoc V kb 3 _ rfl⟩ : V.cell? ⟨og, oq + j * 4, none⟩ = some (.int .i64 kd) ∧ V.cell? ⟨og, oq + j * 4 + 1, none⟩ = some (.int .i64 who) ∧ V.cell? ⟨og, oq + j * 4 + 2, none⟩ = some (.int .u64 t1) ∧ V.cell? ⟨og, oq + j * 4 + 3, none⟩ = some (.int .u64 t2)))
        simp only at HOO
        clear hop ho hcl hoc
        obtain ⟨i, hi'⟩ : ∃ i, i = ixO who k := ⟨_, rfl⟩
        have hik : i < k := by rw [hi']; exact (ixO_lt who hk.1).1
        have hwi := who_ix who hk.1
        rw [← hi'] at hwi
        obtain ⟨q0, q1, q2, q3⟩ := HOC.out wr hW
        have hk0 : ¬ (k : Int) = 0 := by omega
        have hkb : ((k : Int) == 0) = false := by simpa using hk0
        have hii : (i : Int) < (k : Int) := by omega
        obtain ⟨r, hr⟩ : ∃ r, r = who.tmod (k : Int) := ⟨_, rfl⟩
        have hrb : -(k : Int) < r ∧ r < k := by
          rw [hr]
          constructor
          · have := Int.tmod_lt_of_pos (-who) (show (0 : Int) < k by omega)
            rw [Int.neg_tmod] at this; omega
          · exact Int.tmod_lt_of_pos _ (by omega)
        rw [← hr] at hwi
        have hrr : who.tmod (k : Int) = r := hr.symm
        have hrw1 : IntKind.i64.wrap r = r := IntWalk.i64_in _ (by omega)
        have hrw2 : IntKind.i64.wrap (r + (k : Int)) = r + (k : Int) := IntWalk.i64_in _ (by omega)
        obtain ⟨x2, x3, x4, x5, x6⟩ := HRW.out.rm.cells hik
        have HOV := hide (rm_over HRW.out.rm hik)
        have HAC := hide (rw_act HRW.out hik kd who (t1, t2) (by omega) HOO.out.1 HOO.out.2)
        clear hi' hr hW
        by_cases hr0 : r < 0
        · have hri : r + (k : Int) = (i : Int) := by rw [if_pos hr0] at hwi; exact hwi
          clear hwi
          go_wp2_with fail
          by_cases hk3 : kd = 3
          · by_cases hph : (ds i).ph = 0
            · as_aux_lemma =>
                have HNO := hide (show ¬ (kd = 3 ∧ (ds i).ph ≠ 0) from fun z => z.2 hph)
                have HAD : Hid (actD s b C kd (t1, t2) (ds i) = ds i) := hide (by unfold actD stD; simp [hk3, hph])
                have HAR : Hid (actR s b C kd (ds i) row = row) := hide (by unfold actR; exact if_neg HNO.out)
                have HAH : Hid (actH s b C kd (ds i) H = H) := hide (by unfold actH; exact if_neg HNO.out)
                have kb : (kd == 1) = false := by simp; omega
                have k3b : (kd != 3) = false := by simp; omega
                rw [show decide ((ds i).ph = 0) = true by simpa using hph] at HOV
                generalize hE0 : actE kd (t1, t2) (ds i) = E0 at HAC
                clear hE0
                clear hk3 hph
                refine HOV.out.mono ?_
                rintro e wa ⟨rfl, rfl⟩
                go_wp2_with fail
                refine HAC.out.mono ?_
                rintro e wb ⟨rfl, lv', vs', gs', hrw', hkp, hvf⟩
                have HRW2 := hide hrw'
                have HSD2 := hide (HSD.out.after hkp hvf)
                obtain ⟨q0, q1, q2, q3⟩ := HOC.out wb hrw'.rm.bel
                clear hkp hvf hrw' x2 x3 x4 x5 x6 HSD HRW
                rw [show actD s b C kd (t1, t2) (ds i) = ds i from HAD.out, show actR s b C kd (ds i) row = row from HAR.out, show actH s b C kd (ds i) H = H from HAH.out] at HRW2
                rw [upd_id] at HRW2
                go_wp2_with fail
                exact ⟨⟨j + 1, hlt, by simp, FInv.of HRW2.out HSD2.out HFI.out⟩, mdecR hlt⟩
            · have HOE : Hid (actE kd (t1, t2) (ds i) = 0) := hide (by unfold actE; rw [if_neg (by omega), if_neg (by omega)])
              obtain ⟨x, hx⟩ : ∃ x, x = nth s.cells ((ds i).cell b C) := ⟨_, rfl⟩
              obtain ⟨pl, hri⟩ := HRW.out.ri
              have HII := hide (hri.hs i hik)
              have HWI := hide (HRW.out.rm.hw i hik).1
              have HTL := hide hri.tl; have HHD := hide hri.hd; have HH0 := hide hri.h0; have HRL := hide HRW.out.len; have HRI := hide HRW.out.ri
              have HC2 := hide hri.c2
              have HAD : Hid (actD s b C kd (t1, t2) (ds i) = (ds i).next C x) := hide (by unfold actD stD; rw [if_neg (by omega), if_neg (by omega), if_pos hk3, if_neg hph, hx])
              have HAR : Hid (actR s b C kd (ds i) row = (ds i).rowN x row) := hide (by unfold actR; rw [if_pos ⟨hk3, hph⟩, hx])
              have HAH : Hid (actH s b C kd (ds i) H = (ds i).gonN x H) := hide (by unfold actH; rw [if_pos ⟨hk3, hph⟩, hx])
              have HAS : Hid (actS s i b C kd (ds i) = s.made ((ds i).cell b C) ((ds i).acc b C i x)) := hide (by unfold actS stS; rw [if_pos hk3, if_neg hph, hx])
              have HKE := hide HRW.out.rm.kp
              have HLK := hide HRW.out.rm.lk
              have HPH := hide hph
              have kb : (kd == 1) = false := by simp; omega
              have k3b : (kd != 3) = false := by simp; omega
              rw [show decide ((ds i).ph = 0) = false by simpa using hph] at HOV
              rw [HOE.out] at HAC
              clear hk3 hph hri HOE
              refine HOV.out.mono ?_
              rintro e wa ⟨rfl, rfl⟩
              go_wp2_with fail
              refine HAC.out.mono ?_
              rintro e wb ⟨rfl, lv', vs', gs', hrw', hkp, hvf⟩
              have HX := hide hx
              clear hx
              rw [show actD s b C kd (t1, t2) (ds i) = (ds i).next C x from HAD.out, show actR s b C kd (ds i) row = (ds i).rowN x row from HAR.out, show actH s b C kd (ds i) H = (ds i).gonN x H from HAH.out, show actS s i b C kd (ds i) = s.made ((ds i).cell b C) ((ds i).acc b C i x) from HAS.out] at hrw'
              have HLG : Hid ((s.made ((ds i).cell b C) ((ds i).acc b C i x)).log = s.log ++ [(ds i).acc b C i x]) := hide (by show (if s.keep then s.log ++ [_] else s.log) = _; rw [HKE.out]; rfl)
              have HLOG := hide (rw_log hrw' (by omega))
              have HRW2 := hide hrw'
              have HSD2 := hide (HSD.out.after hkp hvf)
              obtain ⟨q0, q1, q2, q3⟩ := HOC.out wb hrw'.rm.bel
              obtain ⟨_, _, y2, _⟩ := hrw'.cells
              clear hkp hvf hrw' x2 x3 x4 x5 x6 HSD HRW HAD HAR HAH HAS HAC HOV
              go_wp2_with fail
              refine HLOG.out.mono ?_
              rintro e wc ⟨lg, rfl, hol, hrw3, hk3⟩
              rw [HLG.out, show (s.log ++ [(ds i).acc b C i x]).length = s.log.length + 1 by simp] at hol
              obtain ⟨gl, cl, rfl, hlc, _, _, hcell⟩ := owns_row hol (by omega)
              have HRW3 := hide hrw3
              have HSD3 := hide (HSD2.out.after hk3 (VF.refl _ _))
              obtain ⟨a, ha⟩ : ∃ a, a = (ds i).acc b C i x := ⟨_, rfl⟩
              have HLE : ∀ m u, a.arr[m]? = some u → wc.cell? ⟨gl, s.log.length * 8 + m, none⟩ = some u := fun m u hm => hcell _ _ (logCells_get _ s.log.length m a u (by rw [ha]; simp) hm)
              obtain ⟨ln, hln⟩ : ∃ ln, ln = s.log.length := ⟨_, rfl⟩
              have hlnk : ln ≤ 1048576 := by rw [hln]; have := HLK.out; omega
              rw [← hln] at HLE hlc ⊢
              have HAW : Hid (a.who = (i : Int)) := hide (by rw [ha]; unfold Hs.acc; simp only; split <;> rfl)
              have HACC := hide ha
              obtain ⟨aw, ak, ac, a3, a4, a5', a6, ao⟩ := a
              simp only at HAW
              obtain rfl := HAW.out
              have l0 : wc.cell? ⟨gl, ln * 8, none⟩ = some (.int .i64 (i : Int)) := HLE 0 _ rfl
              have l1 : wc.cell? ⟨gl, ln * 8 + 1, none⟩ = some (.int .i64 ak) := HLE 1 _ rfl
              have l2 : wc.cell? ⟨gl, ln * 8 + 2, none⟩ = some (.int .i64 ac) := HLE 2 _ rfl
              have l3 : wc.cell? ⟨gl, ln * 8 + 3, none⟩ = some (.int .u64 a3) := HLE 3 _ rfl
              have l4 : wc.cell? ⟨gl, ln * 8 + 4, none⟩ = some (.int .u64 a4) := HLE 4 _ rfl
              have l5 : wc.cell? ⟨gl, ln * 8 + 5, none⟩ = some (.int .u64 a5') := HLE 5 _ rfl
              have l6 : wc.cell? ⟨gl, ln * 8 + 6, none⟩ = some (.int .u64 a6) := HLE 6 _ rfl
              have l7 : wc.cell? ⟨gl, ln * 8 + 7, none⟩ = some (.bool ao) := HLE 7 _ rfl
              have hl1 : ((ln : Int) + 1 == 0) = false := by simp; omega
              have hl2 : IntKind.i64.wrap ((ln : Int) + 1 - 1) = (ln : Int) := by rw [IntWalk.i64_in _ (by omega)]; omega
              have hl3 : (ln : Int) < (ln : Int) + 1 := by omega
              clear ha hln hol hrw3 hk3 hcell HLE q0 q1 q2 q3 y2 HRW2 HSD2 HLOG HLG
              have HCX := hide (fun V (kb : Below wc.heap.size wc V) => ((HRW3.out.below kb).rm.cells hik))
              have HBXX := hide (fun V (kb : Below wc.heap.size wc V) => cell_of ((HSD3.out.below kb).bx) (i := 0) rfl)
              have HRP := hide (fun V (kb : Below wc.heap.size wc V) => rm_reply (HRW3.out.below kb).rm hik)
              have HO2 := hide (fun V (kb : Below wc.heap.size wc V) => rm_over (HRW3.out.below kb).rm hik)
              go_upto_region 26 with fail
              obtain ⟨wd, hwd⟩ : ∃ wd, wd = wc.alloc (.cells #[.int .i64 (i : Int), .int .i64 ak, .int .i64 ac, .int .u64 a3, .int .u64 a4, .int .u64 a5', .int .u64 a6, .bool ao] 55) := ⟨_, rfl⟩
              rw [← hwd]
              have hbd : Below wc.heap.size wc wd := by rw [hwd]; exact below_alloc (Below.refl _ _) _
              have HZD := hide (show wd.heap[wc.heap.size]? = some (.cells #[.int .i64 (i : Int), .int .i64 ak, .int .i64 ac, .int .u64 a3, .int .u64 a4, .int .u64 a5', .int .u64 a6, .bool ao] 55 (0, 0)) by rw [hwd]; exact heap_new _ _)
              have hp12 := HWI.out.ph
              have HAC3 := hide (acc_cases b C (i : Int) (ds i) x row H HPH.out hp12)
              rw [← HACC.out] at HAC3
              have HRW4 := hide (HRW3.out.below hbd)
              have HSD4 := hide (HSD3.out.below hbd)
              have HRWc := HRW3
              have hzd := HZD.out
              have e1 := cell_of hzd (i := 1) rfl; have e2 := cell_of hzd (i := 2) rfl; have e7 := cell_of hzd (i := 7) rfl
              have b0 := cell_of HSD4.out.bx (i := 0) rfl
              obtain ⟨D, hD⟩ : ∃ D, D = (ds i).next C x := ⟨_, rfl⟩
              have HDE := hide hD
              rw [← hD] at HAC3 HRW4
              obtain ⟨rowN, hrowN⟩ : ∃ R, R = (ds i).rowN x row := ⟨_, rfl⟩
              obtain ⟨HN, hHN⟩ : ∃ R, R = (ds i).gonN x H := ⟨_, rfl⟩
              rw [← hrowN, ← hHN] at HAC3 HRW4
              have HWD := hide hwd
              clear hwd hbd l0 l1 l2 l3 l4 l5 l6 l7 HRW3 HSD3 HRWc hD hrowN hHN hp12 hzd hl1 hl2 hl3 hlc HCX HBXX HRP HO2
              rcases HAC3.out with ⟨hA, hA3, hAx⟩ | ⟨hB, hBx⟩ | hC
              · as_aux_lemma =>
                  have HA := hide hA
                  have ka : ak = 3 := hA.kind
                  have kaB : (ak == 3) = true := by simpa using ka
                  have oo : ao = true := hA.ok
                  have cc : ac = (b : Int) := hA.cell
                  subst oo cc ka
                  clear HAC3 hA hA3 hAx
                  obtain ⟨n0, n1⟩ := HSD4.out.onl.celled (i := i) (by rw [HSD4.out.len.1]; exact hik)
                  obtain ⟨i0, hi, hz0, hz1, hz2⟩ := info_parts Tryz.info42
                  have hcb : ¬ ((b : Int) = (b : Int) + 1) := by omega
                  have hrl2 : row.length + 1 ≤ 4194304 := by have := HRL.out; omega
                  have hsz7 : ∀ o : Obj, (wd.alloc o).heap.size = wd.heap.size + 1 := fun o => by simp
                  have hlo7 : w.heap.size ≤ wd.heap.size := HRW4.out.rm.bel.size
                  have htw := two_at wd
                  go_upto_region 28 with (at_builtin; refine wpList_append_lies _ rfl (.tmp 146) (.tmp 151) 24 rfl w.heap.size 42 i0 (.agg #[.int .u64 0, .int .u64 0]) 2 16 Tryz.underlying24 hi hz0 hz1 hz2 rfl (by omega) _ row.length (tCells row) rfl (HSD4.out.orv.alloc _) ⟨wd.heap.size, 0, none⟩ 1 1 [.int .u64 (tAt nl i).1, .int .u64 (tAt nl i).2] rfl rfl (two_at wd _ _ _) (by simp [Value.oneCell']) (by omega) (by unfold maxLen; omega) (by omega) (by simp; omega) _ (hsz7 _) ?_; intro g6 c6 w6 hown hgr hat _; obtain ⟨hrw6, hsd6⟩ := HSD4.out.app HRW4.out (x := tAt nl i) hown hgr hat; have HRW6 := hide hrw6; have HSD6 := hide hsd6; have h55 := hide ((hgr.block _ (by have := lt_of_heap HZD.out; simp; omega) (fun e => by obtain ⟨_, cs, ht⟩ := own_tyz HSD4.out.orv e.symm; exact ne_ty HZD.out ht (by decide) rfl)).trans ((Below.heap_alloc _ _ _ (lt_of_heap HZD.out)).trans HZD.out)); clear hown hgr hat hrw6 hsd6)
                  have z1 := cell_of h55.out (i := 1) rfl
                  have z2 := cell_of h55.out (i := 2) rfl
                  have z7 := cell_of h55.out (i := 7) rfl
                  have b6 := cell_of HSD6.out.bx (i := 0) rfl
                  have hwr7 : IntKind.i64.wrap ((b : Int) + 1) = (b : Int) + 1 := IntWalk.i64_in _ (by have := HBM.out; omega)
                  obtain ⟨y2, y3, y4, y5, y6⟩ := HRW6.out.rm.cells hik
                  go_upto_region 33 with fail
                  clear z1 z2 z7 b6 e1 e2 e7 b0 n0 n1 y2 y3 y4 y5 y6 hwr7
                  have hnt : tAt nl i = (ds i).t := (HFI.out i hik).1 HA.out.ins.1 HA.out.ins.2
                  have HFI6 := hide (show FiI k (upd ds i D) (row ++ [tAt nl i]) nl dl from HFI.out.upd (fun _ _ => by rw [HA.out.d4]; exact hnt) (fun q => by rw [HA.out.d4] at q; exact absurd (show 10 ≤ 4 from q) (by decide)) (fun _ _ => rfl) (fun _ _ => rfl) (fun q hq hp => by
                    obtain ⟨pl, hri⟩ := HRI.out
                    have hg := (hri.hs q hq).gg hp
                    have hh := hri.h0
                    exact rowAt_app (by omega) (hri.hs q hq).p0))
                  rw [HA.out.row, ← hnt, HA.out.hd] at HRW6
                  have HRPL := hide (rm_reply HRW6.out.rm hik)
                  rw [upd_same] at HRPL
                  obtain ⟨_, _, y4, _, y6⟩ := HRW6.out.rm.cells hik
                  go_wp2_with fail
                  refine HRPL.out.mono ?_
                  rintro e w8 ⟨hb8, u, rfl, hu⟩
                  obtain ⟨au, cu, rfl⟩ := owns_shape hu
                  have HRW8 := hide (HRW6.out.below hb8)
                  have HSD8 := hide (HSD6.out.below hb8)
                  have HU8 := hide hu
                  clear hb8 hu HRPL y4 y6
                  go_upto_region 34 with fail
                  have hb9 : Below w8.heap.size w8 (w8.alloc (.cells #[.int .i64 D.st, .slice au D.out.length cu] 71)) := below_alloc (Below.refl _ _) _
                  have hz9 := heap_new w8 (.cells #[.int .i64 D.st, .slice au D.out.length cu] 71)
                  obtain ⟨w9, hw9⟩ : ∃ w9, w9 = w8.alloc (.cells #[.int .i64 D.st, .slice au D.out.length cu] 71) := ⟨_, rfl⟩
                  rw [← hw9] at hb9 hz9 ⊢
                  have HRW9 := hide (HRW8.out.below hb9)
                  have HSD9 := hide (HSD8.out.below hb9)
                  have HU9 := hide (HU8.out.below hb9)
                  have HOV9 := hide (fun V (kb : Below w9.heap.size w9 V) => rm_over (HRW9.out.below kb).rm hik)
                  rw [upd_same] at HOV9
                  obtain ⟨_, _, y4, _, y6⟩ := HRW9.out.rm.cells hik
                  have v4 := gw_cell y4; have v6 := gw_cell y6
                  have s0 := gw_cell (cell_of hz9 (i := 0) rfl); have s1 := gw_cell (cell_of hz9 (i := 1) rfl)
                  have HBZ9 := hide hz9
                  clear y4 y6 hb9 hz9 hw9 HRW8 HSD8 HU8
                  have hD0 : decide (D.ph = 0) = false := by simpa using HA.out.ph
                  rw [hD0] at HOV9
                  refine wp_region_gw (by kernel_rfl) (by kernel_rfl) ?_
                  repeat (go_big_quiet_step (first
                    | (go_at_call 22; exact gw_of ((HOV9.out _ (GW.bel _)).mono fun e w' ⟨h1, h2⟩ => ⟨h1, by subst h2; exact Below.refl _ _⟩))
                    | rfl))
                  refine wpQuiet_nil ?_
                  intro _ hw'
                  obtain ⟨x', hw''⟩ := hw'
                  subst hw''
                  clear s0 s1 v4 v6
                  go_wp2_with fail
                  exact ⟨⟨j + 1, hlt, by simp, (FInv.of (HRW9.out.below x'.bel) (HSD9.out.below x'.bel) HFI6.out)⟩, mdecR hlt⟩
              · as_aux_lemma =>
                  have HA := hide hB
                  have ka : ak = 3 := hB.kind
                  have kaB : (ak == 3) = true := by simpa using ka
                  have oo : ao = true := hB.ok
                  have cc : ac = (b : Int) + 1 := hB.cell
                  subst oo cc ka
                  have hpl : (ds i).place = H := by rw [← hBx, HX.out, show (ds i).cell b C = b + 1 by unfold Hs.cell; simp only [hB.dp], HHD.out]
                  have hHr : H < row.length := by
                    have := (HII.out.p9 hB.dp).2.1
                    omega
                  clear HAC3 hB hBx
                  obtain ⟨Hn, hHn⟩ : ∃ Hn : Nat, H = (Hn : Int) := ⟨H.toNat, by have := HH0.out; omega⟩
                  subst hHn
                  have hHn2 : Hn < row.length := by omega
                  obtain ⟨gv, cv', hev⟩ := own_spot HSD4.out.orv (by omega)
                  cases hev
                  obtain ⟨r0, r1⟩ := HSD4.out.orv.celled hHn2
                  have hnl2 : ¬ (row.length : Int) ≤ (Hn : Int) := by omega
                  have hcb : (((b : Int) + 1) == (b : Int)) = false := by simp; omega
                  have hwr7 : IntKind.i64.wrap ((b : Int) + 1) = (b : Int) + 1 := IntWalk.i64_in _ (by have := HBM.out; omega)
                  have hwr8 : IntKind.i64.wrap ((Hn : Int) + 1) = (Hn : Int) + 1 := IntWalk.i64_in _ (by have := HRL.out; omega)
                  have f0 : wd.frozen? ⟨gD, i * 2, none⟩ = false := (town_rown HSD4.out.odl).free _
                  have f1 : wd.frozen? ⟨gD, i * 2 + 1, none⟩ = false := (town_rown HSD4.out.odl).free _
                  have hidl : i < dl.length := by rw [HSD4.out.len.2.1]; exact hik
                  obtain ⟨d0, d1⟩ := HSD4.out.odl.celled hidl
                  have hput := HSD4.out.put HRW4.out hik (tAt row Hn) false
                  simp only [Bool.false_eq_true, if_false] at hput
                  have HPUT := hide hput
                  clear hput
                  go_upto_region 33 with fail
                  clear e1 e2 e7 b0 r0 r1 f0 f1 d0 d1 hwr7 hwr8 hcb hnl2
                  generalize ((wd.setCell ⟨gD, i * 2, none⟩ (.int .u64 (tAt row Hn).1)).setCell ⟨gD, i * 2 + 1, none⟩ (.int .u64 (tAt row Hn).2)) = w6 at HPUT ⊢
                  obtain ⟨hrw6, hsd6⟩ := HPUT.out
                  have HRW6 := hide hrw6
                  have HSD6 := hide hsd6
                  clear hrw6 hsd6 HPUT
                  have HFI6 := hide (show FiI k (upd ds i D) row nl (dl.set i (tAt row Hn)) from HFI.out.upd (fun _ q => by rw [HA.out.d4] at q; exact absurd (show 10 ≤ 6 from q) (by decide)) (fun q => by rw [HA.out.d4, tAt_set hidl, if_pos rfl]; show _ = rowAt row (ds i).place; rw [hpl]; rfl) (fun _ _ => rfl) (fun q hq => by rw [tAt_set hidl, if_neg hq]) (fun _ _ _ => rfl))
                  rw [HA.out.row, HA.out.hd] at HRW6
                  have HRPL := hide (rm_reply HRW6.out.rm hik)
                  rw [upd_same] at HRPL
                  obtain ⟨_, _, y4, _, y6⟩ := HRW6.out.rm.cells hik
                  go_wp2_with fail
                  refine HRPL.out.mono ?_
                  rintro e w8 ⟨hb8, u, rfl, hu⟩
                  obtain ⟨au, cu, rfl⟩ := owns_shape hu
                  have HRW8 := hide (HRW6.out.below hb8)
                  have HSD8 := hide (HSD6.out.below hb8)
                  have HU8 := hide hu
                  clear hb8 hu HRPL y4 y6
                  go_upto_region 34 with fail
                  have hb9 : Below w8.heap.size w8 (w8.alloc (.cells #[.int .i64 D.st, .slice au D.out.length cu] 71)) := below_alloc (Below.refl _ _) _
                  have hz9 := heap_new w8 (.cells #[.int .i64 D.st, .slice au D.out.length cu] 71)
                  obtain ⟨w9, hw9⟩ : ∃ w9, w9 = w8.alloc (.cells #[.int .i64 D.st, .slice au D.out.length cu] 71) := ⟨_, rfl⟩
                  rw [← hw9] at hb9 hz9 ⊢
                  have HRW9 := hide (HRW8.out.below hb9)
                  have HSD9 := hide (HSD8.out.below hb9)
                  have HU9 := hide (HU8.out.below hb9)
                  have HOV9 := hide (fun V (kb : Below w9.heap.size w9 V) => rm_over (HRW9.out.below kb).rm hik)
                  rw [upd_same] at HOV9
                  obtain ⟨_, _, y4, _, y6⟩ := HRW9.out.rm.cells hik
                  have v4 := gw_cell y4; have v6 := gw_cell y6
                  have s0 := gw_cell (cell_of hz9 (i := 0) rfl); have s1 := gw_cell (cell_of hz9 (i := 1) rfl)
                  have HBZ9 := hide hz9
                  clear y4 y6 hb9 hz9 hw9 HRW8 HSD8 HU8
                  have hD0 : decide (D.ph = 0) = false := by simpa using HA.out.ph
                  rw [hD0] at HOV9
                  refine wp_region_gw (by kernel_rfl) (by kernel_rfl) ?_
                  repeat (go_big_quiet_step (first
                    | (go_at_call 22; exact gw_of ((HOV9.out _ (GW.bel _)).mono fun e w' ⟨h1, h2⟩ => ⟨h1, by subst h2; exact Below.refl _ _⟩))
                    | rfl))
                  refine wpQuiet_nil ?_
                  intro _ hw'
                  obtain ⟨x', hw''⟩ := hw'
                  subst hw''
                  clear s0 s1 v4 v6
                  go_wp2_with fail
                  exact ⟨⟨j + 1, hlt, by simp, (FInv.of (HRW9.out.below x'.bel) (HSD9.out.below x'.bel) HFI6.out)⟩, mdecR hlt⟩
              · as_aux_lemma =>
                  have HA := hide hC
                  clear HAC3 hC
                  by_cases hak : ak = 3
                  · have hao : ao = false := HA.out.ok hak
                    subst hao hak
                    have kaB : (3 == (3 : Int)) = true := rfl
                    go_upto_region 33 with fail
                    clear e1 e2 e7 b0
                    have HFI6 := hide (show FiI k (upd ds i D) row nl dl from HFI.out.upd (fun h1 h2 => by rw [(HA.out.keep.1 h1 h2).1]; exact (HFI.out i hik).1 (HA.out.keep.1 h1 h2).2.1 (HA.out.keep.1 h1 h2).2.2) (fun q => by rw [(HA.out.keep.2 q).1]; exact (HFI.out i hik).2 (HA.out.keep.2 q).2) (fun _ _ => rfl) (fun _ _ => rfl) (fun _ _ _ => rfl))
                    rw [HA.out.row, HA.out.hd] at HRW4
                    have HRPL := hide (rm_reply HRW4.out.rm hik)
                    rw [upd_same] at HRPL
                    obtain ⟨_, _, y4, _, y6⟩ := HRW4.out.rm.cells hik
                    go_wp2_with fail
                    refine HRPL.out.mono ?_
                    rintro e w8 ⟨hb8, u, rfl, hu⟩
                    obtain ⟨au, cu, rfl⟩ := owns_shape hu
                    have HRW8 := hide (HRW4.out.below hb8)
                    have HSD8 := hide (HSD4.out.below hb8)
                    have HU8 := hide hu
                    clear hb8 hu HRPL y4 y6
                    go_upto_region 34 with fail
                    have hb9 : Below w8.heap.size w8 (w8.alloc (.cells #[.int .i64 D.st, .slice au D.out.length cu] 71)) := below_alloc (Below.refl _ _) _
                    have hz9 := heap_new w8 (.cells #[.int .i64 D.st, .slice au D.out.length cu] 71)
                    obtain ⟨w9, hw9⟩ : ∃ w9, w9 = w8.alloc (.cells #[.int .i64 D.st, .slice au D.out.length cu] 71) := ⟨_, rfl⟩
                    rw [← hw9] at hb9 hz9 ⊢
                    have HRW9 := hide (HRW8.out.below hb9)
                    have HSD9 := hide (HSD8.out.below hb9)
                    have HU9 := hide (HU8.out.below hb9)
                    have HOV9 := hide (fun V (kb : Below w9.heap.size w9 V) => rm_over (HRW9.out.below kb).rm hik)
                    rw [upd_same] at HOV9
                    obtain ⟨_, _, y4, _, y6⟩ := HRW9.out.rm.cells hik
                    have v4 := gw_cell y4; have v6 := gw_cell y6
                    have s0 := gw_cell (cell_of hz9 (i := 0) rfl); have s1 := gw_cell (cell_of hz9 (i := 1) rfl)
                    have HBZ9 := hide hz9
                    clear y4 y6 hb9 hz9 hw9 HRW8 HSD8 HU8
                    by_cases hD0 : D.ph = 0
                    · rw [show decide (D.ph = 0) = true by simpa using hD0] at HOV9
                      by_cases hD5 : D.st = 5
                      · obtain ⟨hp12, hout⟩ := HA.out.st hD0 hD5
                        have hdt : tAt dl i = (ds i).t := by
                          rw [(HFI.out i hik).2 (by omega)]
                          exact (Prod.ext (HII.out.g1 (by omega)) (HII.out.g2 (by omega))).symm
                        rw [hout] at HU9
                        rw [hD5] at s0
                        obtain ⟨gu, cu', hgu⟩ := own_spot HU9.out Nat.zero_lt_one
                        rw [hout] at s1
                        obtain ⟨rfl, rfl⟩ : au = some ⟨gu, 0, none⟩ ∧ cu = cu' := by simpa using hgu
                        clear hgu
                        obtain ⟨d0, d1⟩ := HSD9.out.odl.celled (i := i) (by rw [HSD9.out.len.2.1]; exact hik)
                        rw [hdt] at d0 d1
                        obtain ⟨o0, o1⟩ := HU9.out.celled (i := 0) Nat.zero_lt_one
                        rw [show tAt [(ds i).t] 0 = (ds i).t from rfl] at o0 o1
                        have t0 := gw_cell d0; have t1 := gw_cell d1; have t2 := gw_cell o0; have t3 := gw_cell o1
                        clear d0 d1 o0 o1 hD5 hD0 hp12 hdt
                        have hnq := neq_same (ds i).t.1 (ds i).t.2
                        refine wp_region_gw (by kernel_rfl) (by kernel_rfl) ?_
                        repeat (go_big_quiet_step (first
                          | (go_at_call 22; exact gw_of ((HOV9.out _ (GW.bel _)).mono fun e w' ⟨h1, h2⟩ => ⟨h1, by subst h2; exact Below.refl _ _⟩))
                          | rfl))
                        refine wpQuiet_nil ?_
                        intro _ hw'
                        obtain ⟨x', hw''⟩ := hw'
                        subst hw''
                        clear t0 t1 t2 t3 hnq s0 s1 v4 v6
                        go_wp2_with fail
                        exact ⟨⟨j + 1, hlt, by simp, (FInv.of (HRW9.out.below x'.bel) (HSD9.out.below x'.bel) HFI6.out)⟩, mdecR hlt⟩
                      · have h5b : (D.st == 5) = false := by simpa using hD5
                        clear hD5 hD0
                        refine wp_region_gw (by kernel_rfl) (by kernel_rfl) ?_
                        repeat (go_big_quiet_step (first
                          | (go_at_call 22; exact gw_of ((HOV9.out _ (GW.bel _)).mono fun e w' ⟨h1, h2⟩ => ⟨h1, by subst h2; exact Below.refl _ _⟩))
                          | rfl))
                        refine wpQuiet_nil ?_
                        intro _ hw'
                        obtain ⟨x', hw''⟩ := hw'
                        subst hw''
                        clear s0 s1 v4 v6
                        go_wp2_with fail
                        exact ⟨⟨j + 1, hlt, by simp, (FInv.of (HRW9.out.below x'.bel) (HSD9.out.below x'.bel) HFI6.out)⟩, mdecR hlt⟩
                    · rw [show decide (D.ph = 0) = false by simpa using hD0] at HOV9
                      clear hD0
                      refine wp_region_gw (by kernel_rfl) (by kernel_rfl) ?_
                      repeat (go_big_quiet_step (first
                        | (go_at_call 22; exact gw_of ((HOV9.out _ (GW.bel _)).mono fun e w' ⟨h1, h2⟩ => ⟨h1, by subst h2; exact Below.refl _ _⟩))
                        | rfl))
                      refine wpQuiet_nil ?_
                      intro _ hw'
                      obtain ⟨x', hw''⟩ := hw'
                      subst hw''
                      clear s0 s1 v4 v6
                      go_wp2_with fail
                      exact ⟨⟨j + 1, hlt, by simp, (FInv.of (HRW9.out.below x'.bel) (HSD9.out.below x'.bel) HFI6.out)⟩, mdecR hlt⟩
                  · have kaB : (ak == 3) = false := by simpa using hak
                    clear hak
                    go_upto_region 33 with fail
                    clear e1 e2 e7 b0
                    have HFI6 := hide (show FiI k (upd ds i D) row nl dl from HFI.out.upd (fun h1 h2 => by rw [(HA.out.keep.1 h1 h2).1]; exact (HFI.out i hik).1 (HA.out.keep.1 h1 h2).2.1 (HA.out.keep.1 h1 h2).2.2) (fun q => by rw [(HA.out.keep.2 q).1]; exact (HFI.out i hik).2 (HA.out.keep.2 q).2) (fun _ _ => rfl) (fun _ _ => rfl) (fun _ _ _ => rfl))
                    rw [HA.out.row, HA.out.hd] at HRW4
                    have HRPL := hide (rm_reply HRW4.out.rm hik)
                    rw [upd_same] at HRPL
                    obtain ⟨_, _, y4, _, y6⟩ := HRW4.out.rm.cells hik
                    go_wp2_with fail
                    refine HRPL.out.mono ?_
                    rintro e w8 ⟨hb8, u, rfl, hu⟩
                    obtain ⟨au, cu, rfl⟩ := owns_shape hu
                    have HRW8 := hide (HRW4.out.below hb8)
                    have HSD8 := hide (HSD4.out.below hb8)
                    have HU8 := hide hu
                    clear hb8 hu HRPL y4 y6
                    go_upto_region 34 with fail
                    have hb9 : Below w8.heap.size w8 (w8.alloc (.cells #[.int .i64 D.st, .slice au D.out.length cu] 71)) := below_alloc (Below.refl _ _) _
                    have hz9 := heap_new w8 (.cells #[.int .i64 D.st, .slice au D.out.length cu] 71)
                    obtain ⟨w9, hw9⟩ : ∃ w9, w9 = w8.alloc (.cells #[.int .i64 D.st, .slice au D.out.length cu] 71) := ⟨_, rfl⟩
                    rw [← hw9] at hb9 hz9 ⊢
                    have HRW9 := hide (HRW8.out.below hb9)
                    have HSD9 := hide (HSD8.out.below hb9)
                    have HU9 := hide (HU8.out.below hb9)
                    have HOV9 := hide (fun V (kb : Below w9.heap.size w9 V) => rm_over (HRW9.out.below kb).rm hik)
                    rw [upd_same] at HOV9
                    obtain ⟨_, _, y4, _, y6⟩ := HRW9.out.rm.cells hik
                    have v4 := gw_cell y4; have v6 := gw_cell y6
                    have s0 := gw_cell (cell_of hz9 (i := 0) rfl); have s1 := gw_cell (cell_of hz9 (i := 1) rfl)
                    have HBZ9 := hide hz9
                    clear y4 y6 hb9 hz9 hw9 HRW8 HSD8 HU8
                    by_cases hD0 : D.ph = 0
                    · rw [show decide (D.ph = 0) = true by simpa using hD0] at HOV9
                      by_cases hD5 : D.st = 5
                      · obtain ⟨hp12, hout⟩ := HA.out.st hD0 hD5
                        have hdt : tAt dl i = (ds i).t := by
                          rw [(HFI.out i hik).2 (by omega)]
                          exact (Prod.ext (HII.out.g1 (by omega)) (HII.out.g2 (by omega))).symm
                        rw [hout] at HU9
                        rw [hD5] at s0
                        obtain ⟨gu, cu', hgu⟩ := own_spot HU9.out Nat.zero_lt_one
                        rw [hout] at s1
                        obtain ⟨rfl, rfl⟩ : au = some ⟨gu, 0, none⟩ ∧ cu = cu' := by simpa using hgu
                        clear hgu
                        obtain ⟨d0, d1⟩ := HSD9.out.odl.celled (i := i) (by rw [HSD9.out.len.2.1]; exact hik)
                        rw [hdt] at d0 d1
                        obtain ⟨o0, o1⟩ := HU9.out.celled (i := 0) Nat.zero_lt_one
                        rw [show tAt [(ds i).t] 0 = (ds i).t from rfl] at o0 o1
                        have t0 := gw_cell d0; have t1 := gw_cell d1; have t2 := gw_cell o0; have t3 := gw_cell o1
                        clear d0 d1 o0 o1 hD5 hD0 hp12 hdt
                        have hnq := neq_same (ds i).t.1 (ds i).t.2
                        refine wp_region_gw (by kernel_rfl) (by kernel_rfl) ?_
                        repeat (go_big_quiet_step (first
                          | (go_at_call 22; exact gw_of ((HOV9.out _ (GW.bel _)).mono fun e w' ⟨h1, h2⟩ => ⟨h1, by subst h2; exact Below.refl _ _⟩))
                          | rfl))
                        refine wpQuiet_nil ?_
                        intro _ hw'
                        obtain ⟨x', hw''⟩ := hw'
                        subst hw''
                        clear t0 t1 t2 t3 hnq s0 s1 v4 v6
                        go_wp2_with fail
                        exact ⟨⟨j + 1, hlt, by simp, (FInv.of (HRW9.out.below x'.bel) (HSD9.out.below x'.bel) HFI6.out)⟩, mdecR hlt⟩
                      · have h5b : (D.st == 5) = false := by simpa using hD5
                        clear hD5 hD0
                        refine wp_region_gw (by kernel_rfl) (by kernel_rfl) ?_
                        repeat (go_big_quiet_step (first
                          | (go_at_call 22; exact gw_of ((HOV9.out _ (GW.bel _)).mono fun e w' ⟨h1, h2⟩ => ⟨h1, by subst h2; exact Below.refl _ _⟩))
                          | rfl))
                        refine wpQuiet_nil ?_
                        intro _ hw'
                        obtain ⟨x', hw''⟩ := hw'
                        subst hw''
                        clear s0 s1 v4 v6
                        go_wp2_with fail
                        exact ⟨⟨j + 1, hlt, by simp, (FInv.of (HRW9.out.below x'.bel) (HSD9.out.below x'.bel) HFI6.out)⟩, mdecR hlt⟩
                    · rw [show decide (D.ph = 0) = false by simpa using hD0] at HOV9
                      clear hD0
                      refine wp_region_gw (by kernel_rfl) (by kernel_rfl) ?_
                      repeat (go_big_quiet_step (first
                        | (go_at_call 22; exact gw_of ((HOV9.out _ (GW.bel _)).mono fun e w' ⟨h1, h2⟩ => ⟨h1, by subst h2; exact Below.refl _ _⟩))
                        | rfl))
                      refine wpQuiet_nil ?_
                      intro _ hw'
                      obtain ⟨x', hw''⟩ := hw'
                      subst hw''
                      clear s0 s1 v4 v6
                      go_wp2_with fail
                      exact ⟨⟨j + 1, hlt, by simp, (FInv.of (HRW9.out.below x'.bel) (HSD9.out.below x'.bel) HFI6.out)⟩, mdecR hlt⟩

          · have HNO := hide (show ¬ (kd = 3 ∧ (ds i).ph ≠ 0) from fun z => hk3 z.1)
            by_cases hk1 : kd = 1
            · by_cases hins : (ds i).ph = 0 ∧ t1 ≠ Nev
              · as_aux_lemma =>
                  have HAE : Hid (actE kd (t1, t2) (ds i) = 0) := hide (by unfold actE; rw [if_pos hk1, if_neg (by simpa using hins.1), if_neg hins.2])
                  have HAD : Hid (actD s b C kd (t1, t2) (ds i) = (ds i).ins (t1, t2)) := hide (by unfold actD; rw [if_pos hk1, if_pos hins])
                  have HAR : Hid (actR s b C kd (ds i) row = row) := hide (by unfold actR; exact if_neg HNO.out)
                  have HAH : Hid (actH s b C kd (ds i) H = H) := hide (by unfold actH; exact if_neg HNO.out)
                  have kb : (kd == 1) = true := by simpa using hk1
                  have k3b : (kd != 3) = true := by simp; omega
                  generalize hp0 : decide ((ds i).ph = 0) = p0 at HOV
                  clear hp0
                  rw [HAE.out] at HAC
                  have HINS := hide hins.1
                  clear hins hk1
                  refine HOV.out.mono ?_
                  rintro e wa ⟨rfl, rfl⟩
                  go_wp2_with fail
                  refine HAC.out.mono ?_
                  rintro e wb ⟨rfl, lv', vs', gs', hrw', hkp, hvf⟩
                  have HRW2 := hide hrw'
                  have HSD2 := hide (HSD.out.after hkp hvf)
                  obtain ⟨q0, q1, q2, q3⟩ := HOC.out wb hrw'.rm.bel
                  clear hkp hvf hrw' x2 x3 x4 x5 x6 HSD HRW
                  rw [show actD s b C kd (t1, t2) (ds i) = (ds i).ins (t1, t2) from HAD.out, show actR s b C kd (ds i) row = row from HAR.out, show actH s b C kd (ds i) H = H from HAH.out] at HRW2
                  have hiN : i < nl.length := by rw [HSD2.out.len.1]; exact hik
                  obtain ⟨n0, n1⟩ := HSD2.out.onl.celled hiN
                  have hne : ¬ og = gN := by
                    obtain ⟨_, _, he, hl', _⟩ := (HOP.out w (Below.refl _ _)).at j hjl
                    simp only [Option.some.injEq, Addr.mk.injEq, and_true] at he
                    obtain ⟨rfl, rfl⟩ := he
                    have := (HSD2.out.onl.lt gN rfl).1
                    omega
                  have hne2 : ¬ gN = og := fun e => hne e.symm
                  have f0 : wb.frozen? ⟨gN, i * 2, none⟩ = false := (town_rown HSD2.out.onl).free _
                  have f1 : wb.frozen? ⟨gN, i * 2 + 1, none⟩ = false := (town_rown HSD2.out.onl).free _
                  have hput := HSD2.out.put HRW2.out hik (t1, t2) true
                  simp only [if_true] at hput
                  have HPUT := hide hput
                  clear hput HSD2 HRW2
                  go_wp2_with fail
                  obtain ⟨hrw5, hsd5⟩ := HPUT.out
                  exact ⟨⟨j + 1, hlt, by simp, FInv.of hrw5 hsd5 (HFI.out.upd (fun _ _ => by rw [tAt_set hiN, if_pos rfl]; rfl) (fun h1 => absurd (show 10 ≤ 1 from h1) (by decide)) (fun q hq => by rw [tAt_set hiN, if_neg hq]) (fun _ _ => rfl) (fun _ _ _ => rfl))⟩, mdecR hlt⟩
              · as_aux_lemma =>
                  have HAE0 : Hid (actE kd (t1, t2) (ds i) ≠ 0) := hide (by
                    unfold actE
                    rw [if_pos hk1]
                    by_cases q : (ds i).ph = 0
                    · rw [if_neg (by simpa using q)]
                      by_cases q2 : t1 = Nev
                      · rw [if_pos q2]; decide
                      · exact (hins ⟨q, q2⟩).elim
                    · rw [if_pos q]; decide)
                  have HAD : Hid (actD s b C kd (t1, t2) (ds i) = ds i) := hide (by unfold actD; rw [if_pos hk1, if_neg hins])
                  have HAR : Hid (actR s b C kd (ds i) row = row) := hide (by unfold actR; exact if_neg HNO.out)
                  have HAH : Hid (actH s b C kd (ds i) H = H) := hide (by unfold actH; exact if_neg HNO.out)
                  have kb : (kd == 1) = true := by simpa using hk1
                  have k3b : (kd != 3) = true := by simp; omega
                  generalize hp0 : decide ((ds i).ph = 0) = p0 at HOV
                  clear hp0
                  generalize hE0 : actE kd (t1, t2) (ds i) = E0 at HAC HAE0
                  clear hE0
                  have heb : (E0 == 0) = false := by have := HAE0.out; simpa using this
                  clear hins hk1
                  refine HOV.out.mono ?_
                  rintro e wa ⟨rfl, rfl⟩
                  go_wp2_with fail
                  refine HAC.out.mono ?_
                  rintro e wb ⟨rfl, lv', vs', gs', hrw', hkp, hvf⟩
                  have HRW2 := hide hrw'
                  have HSD2 := hide (HSD.out.after hkp hvf)
                  obtain ⟨q0, q1, q2, q3⟩ := HOC.out wb hrw'.rm.bel
                  clear hkp hvf hrw' x2 x3 x4 x5 x6 HSD HRW
                  rw [show actD s b C kd (t1, t2) (ds i) = ds i from HAD.out, show actR s b C kd (ds i) row = row from HAR.out, show actH s b C kd (ds i) H = H from HAH.out] at HRW2
                  rw [upd_id] at HRW2
                  go_wp2_with fail
                  exact ⟨⟨j + 1, hlt, by simp, FInv.of HRW2.out HSD2.out HFI.out⟩, mdecR hlt⟩
            · as_aux_lemma =>
                have HAD : Hid (actD s b C kd (t1, t2) (ds i) = if kd = 2 ∧ (ds i).ph = 0 then (ds i).tak else ds i) := hide (by
                  unfold actD
                  rw [if_neg hk1, if_neg hk3]
                  by_cases q : kd = 2
                  · by_cases q2 : (ds i).ph = 0 <;> simp [q, q2]
                  · simp [q])
                have HAR : Hid (actR s b C kd (ds i) row = row) := hide (by unfold actR; exact if_neg HNO.out)
                have HAH : Hid (actH s b C kd (ds i) H = H) := hide (by unfold actH; exact if_neg HNO.out)
                have kb : (kd == 1) = false := by simpa using hk1
                have k3b : (kd != 3) = true := by simpa using hk3
                generalize hp0 : decide ((ds i).ph = 0) = p0 at HOV
                clear hp0
                generalize hE0 : actE kd (t1, t2) (ds i) = E0 at HAC
                clear hE0
                have HK3 := hide hk3
                clear hk1 hk3
                refine HOV.out.mono ?_
                rintro e wa ⟨rfl, rfl⟩
                go_wp2_with fail
                refine HAC.out.mono ?_
                rintro e wb ⟨rfl, lv', vs', gs', hrw', hkp, hvf⟩
                have HRW2 := hide hrw'
                have HSD2 := hide (HSD.out.after hkp hvf)
                obtain ⟨q0, q1, q2, q3⟩ := HOC.out wb hrw'.rm.bel
                clear hkp hvf hrw' x2 x3 x4 x5 x6 HSD HRW
                rw [show actD s b C kd (t1, t2) (ds i) = if kd = 2 ∧ (ds i).ph = 0 then (ds i).tak else ds i from HAD.out, show actR s b C kd (ds i) row = row from HAR.out, show actH s b C kd (ds i) H = H from HAH.out] at HRW2
                go_wp2_with fail
                exact ⟨⟨j + 1, hlt, by simp, FInv.of HRW2.out HSD2.out (HFI.out.upd (fun h1 h2 => by
                  by_cases q : kd = 2 ∧ (ds i).ph = 0
                  · rw [if_pos q] at h1 h2; exact absurd (show 7 ≤ 6 from h2) (by decide)
                  · rw [if_neg q] at h1 h2 ⊢; exact (HFI.out i hik).1 h1 h2) (fun h1 => by
                  by_cases q : kd = 2 ∧ (ds i).ph = 0
                  · rw [if_pos q] at h1; exact absurd (show 10 ≤ 7 from h1) (by decide)
                  · rw [if_neg q] at h1 ⊢; exact (HFI.out i hik).2 h1) (fun _ _ => rfl) (fun _ _ => rfl) (fun _ _ _ => rfl))⟩, mdecR hlt⟩

        · have hri : r = (i : Int) := by rw [if_neg hr0] at hwi; exact hwi
          subst hri
          clear hwi hrb hrw2
          go_wp2_with fail
          by_cases hk3 : kd = 3
          · by_cases hph : (ds i).ph = 0
            · as_aux_lemma =>
                have HNO := hide (show ¬ (kd = 3 ∧ (ds i).ph ≠ 0) from fun z => z.2 hph)
                have HAD : Hid (actD s b C kd (t1, t2) (ds i) = ds i) := hide (by unfold actD stD; simp [hk3, hph])
                have HAR : Hid (actR s b C kd (ds i) row = row) := hide (by unfold actR; exact if_neg HNO.out)
                have HAH : Hid (actH s b C kd (ds i) H = H) := hide (by unfold actH; exact if_neg HNO.out)
                have kb : (kd == 1) = false := by simp; omega
                have k3b : (kd != 3) = false := by simp; omega
                rw [show decide ((ds i).ph = 0) = true by simpa using hph] at HOV
                generalize hE0 : actE kd (t1, t2) (ds i) = E0 at HAC
                clear hE0
                clear hk3 hph
                refine HOV.out.mono ?_
                rintro e wa ⟨rfl, rfl⟩
                go_wp2_with fail
                refine HAC.out.mono ?_
                rintro e wb ⟨rfl, lv', vs', gs', hrw', hkp, hvf⟩
                have HRW2 := hide hrw'
                have HSD2 := hide (HSD.out.after hkp hvf)
                obtain ⟨q0, q1, q2, q3⟩ := HOC.out wb hrw'.rm.bel
                clear hkp hvf hrw' x2 x3 x4 x5 x6 HSD HRW
                rw [show actD s b C kd (t1, t2) (ds i) = ds i from HAD.out, show actR s b C kd (ds i) row = row from HAR.out, show actH s b C kd (ds i) H = H from HAH.out] at HRW2
                rw [upd_id] at HRW2
                go_wp2_with fail
                exact ⟨⟨j + 1, hlt, by simp, FInv.of HRW2.out HSD2.out HFI.out⟩, mdecR hlt⟩
            · have HOE : Hid (actE kd (t1, t2) (ds i) = 0) := hide (by unfold actE; rw [if_neg (by omega), if_neg (by omega)])
              obtain ⟨x, hx⟩ : ∃ x, x = nth s.cells ((ds i).cell b C) := ⟨_, rfl⟩
              obtain ⟨pl, hri⟩ := HRW.out.ri
              have HII := hide (hri.hs i hik)
              have HWI := hide (HRW.out.rm.hw i hik).1
              have HTL := hide hri.tl; have HHD := hide hri.hd; have HH0 := hide hri.h0; have HRL := hide HRW.out.len; have HRI := hide HRW.out.ri
              have HC2 := hide hri.c2
              have HAD : Hid (actD s b C kd (t1, t2) (ds i) = (ds i).next C x) := hide (by unfold actD stD; rw [if_neg (by omega), if_neg (by omega), if_pos hk3, if_neg hph, hx])
              have HAR : Hid (actR s b C kd (ds i) row = (ds i).rowN x row) := hide (by unfold actR; rw [if_pos ⟨hk3, hph⟩, hx])
              have HAH : Hid (actH s b C kd (ds i) H = (ds i).gonN x H) := hide (by unfold actH; rw [if_pos ⟨hk3, hph⟩, hx])
              have HAS : Hid (actS s i b C kd (ds i) = s.made ((ds i).cell b C) ((ds i).acc b C i x)) := hide (by unfold actS stS; rw [if_pos hk3, if_neg hph, hx])
              have HKE := hide HRW.out.rm.kp
              have HLK := hide HRW.out.rm.lk
              have HPH := hide hph
              have kb : (kd == 1) = false := by simp; omega
              have k3b : (kd != 3) = false := by simp; omega
              rw [show decide ((ds i).ph = 0) = false by simpa using hph] at HOV
              rw [HOE.out] at HAC
              clear hk3 hph hri HOE
              refine HOV.out.mono ?_
              rintro e wa ⟨rfl, rfl⟩
              go_wp2_with fail
              refine HAC.out.mono ?_
              rintro e wb ⟨rfl, lv', vs', gs', hrw', hkp, hvf⟩
              have HX := hide hx
              clear hx
              rw [show actD s b C kd (t1, t2) (ds i) = (ds i).next C x from HAD.out, show actR s b C kd (ds i) row = (ds i).rowN x row from HAR.out, show actH s b C kd (ds i) H = (ds i).gonN x H from HAH.out, show actS s i b C kd (ds i) = s.made ((ds i).cell b C) ((ds i).acc b C i x) from HAS.out] at hrw'
              have HLG : Hid ((s.made ((ds i).cell b C) ((ds i).acc b C i x)).log = s.log ++ [(ds i).acc b C i x]) := hide (by show (if s.keep then s.log ++ [_] else s.log) = _; rw [HKE.out]; rfl)
              have HLOG := hide (rw_log hrw' (by omega))
              have HRW2 := hide hrw'
              have HSD2 := hide (HSD.out.after hkp hvf)
              obtain ⟨q0, q1, q2, q3⟩ := HOC.out wb hrw'.rm.bel
              obtain ⟨_, _, y2, _⟩ := hrw'.cells
              clear hkp hvf hrw' x2 x3 x4 x5 x6 HSD HRW HAD HAR HAH HAS HAC HOV
              go_wp2_with fail
              refine HLOG.out.mono ?_
              rintro e wc ⟨lg, rfl, hol, hrw3, hk3⟩
              rw [HLG.out, show (s.log ++ [(ds i).acc b C i x]).length = s.log.length + 1 by simp] at hol
              obtain ⟨gl, cl, rfl, hlc, _, _, hcell⟩ := owns_row hol (by omega)
              have HRW3 := hide hrw3
              have HSD3 := hide (HSD2.out.after hk3 (VF.refl _ _))
              obtain ⟨a, ha⟩ : ∃ a, a = (ds i).acc b C i x := ⟨_, rfl⟩
              have HLE : ∀ m u, a.arr[m]? = some u → wc.cell? ⟨gl, s.log.length * 8 + m, none⟩ = some u := fun m u hm => hcell _ _ (logCells_get _ s.log.length m a u (by rw [ha]; simp) hm)
              obtain ⟨ln, hln⟩ : ∃ ln, ln = s.log.length := ⟨_, rfl⟩
              have hlnk : ln ≤ 1048576 := by rw [hln]; have := HLK.out; omega
              rw [← hln] at HLE hlc ⊢
              have HAW : Hid (a.who = (i : Int)) := hide (by rw [ha]; unfold Hs.acc; simp only; split <;> rfl)
              have HACC := hide ha
              obtain ⟨aw, ak, ac, a3, a4, a5', a6, ao⟩ := a
              simp only at HAW
              obtain rfl := HAW.out
              have l0 : wc.cell? ⟨gl, ln * 8, none⟩ = some (.int .i64 (i : Int)) := HLE 0 _ rfl
              have l1 : wc.cell? ⟨gl, ln * 8 + 1, none⟩ = some (.int .i64 ak) := HLE 1 _ rfl
              have l2 : wc.cell? ⟨gl, ln * 8 + 2, none⟩ = some (.int .i64 ac) := HLE 2 _ rfl
              have l3 : wc.cell? ⟨gl, ln * 8 + 3, none⟩ = some (.int .u64 a3) := HLE 3 _ rfl
              have l4 : wc.cell? ⟨gl, ln * 8 + 4, none⟩ = some (.int .u64 a4) := HLE 4 _ rfl
              have l5 : wc.cell? ⟨gl, ln * 8 + 5, none⟩ = some (.int .u64 a5') := HLE 5 _ rfl
              have l6 : wc.cell? ⟨gl, ln * 8 + 6, none⟩ = some (.int .u64 a6) := HLE 6 _ rfl
              have l7 : wc.cell? ⟨gl, ln * 8 + 7, none⟩ = some (.bool ao) := HLE 7 _ rfl
              have hl1 : ((ln : Int) + 1 == 0) = false := by simp; omega
              have hl2 : IntKind.i64.wrap ((ln : Int) + 1 - 1) = (ln : Int) := by rw [IntWalk.i64_in _ (by omega)]; omega
              have hl3 : (ln : Int) < (ln : Int) + 1 := by omega
              clear ha hln hol hrw3 hk3 hcell HLE q0 q1 q2 q3 y2 HRW2 HSD2 HLOG HLG
              have HCX := hide (fun V (kb : Below wc.heap.size wc V) => ((HRW3.out.below kb).rm.cells hik))
              have HBXX := hide (fun V (kb : Below wc.heap.size wc V) => cell_of ((HSD3.out.below kb).bx) (i := 0) rfl)
              have HRP := hide (fun V (kb : Below wc.heap.size wc V) => rm_reply (HRW3.out.below kb).rm hik)
              have HO2 := hide (fun V (kb : Below wc.heap.size wc V) => rm_over (HRW3.out.below kb).rm hik)
              go_upto_region 26 with fail
              obtain ⟨wd, hwd⟩ : ∃ wd, wd = wc.alloc (.cells #[.int .i64 (i : Int), .int .i64 ak, .int .i64 ac, .int .u64 a3, .int .u64 a4, .int .u64 a5', .int .u64 a6, .bool ao] 55) := ⟨_, rfl⟩
              rw [← hwd]
              have hbd : Below wc.heap.size wc wd := by rw [hwd]; exact below_alloc (Below.refl _ _) _
              have HZD := hide (show wd.heap[wc.heap.size]? = some (.cells #[.int .i64 (i : Int), .int .i64 ak, .int .i64 ac, .int .u64 a3, .int .u64 a4, .int .u64 a5', .int .u64 a6, .bool ao] 55 (0, 0)) by rw [hwd]; exact heap_new _ _)
              have hp12 := HWI.out.ph
              have HAC3 := hide (acc_cases b C (i : Int) (ds i) x row H HPH.out hp12)
              rw [← HACC.out] at HAC3
              have HRW4 := hide (HRW3.out.below hbd)
              have HSD4 := hide (HSD3.out.below hbd)
              have HRWc := HRW3
              have hzd := HZD.out
              have e1 := cell_of hzd (i := 1) rfl; have e2 := cell_of hzd (i := 2) rfl; have e7 := cell_of hzd (i := 7) rfl
              have b0 := cell_of HSD4.out.bx (i := 0) rfl
              obtain ⟨D, hD⟩ : ∃ D, D = (ds i).next C x := ⟨_, rfl⟩
              have HDE := hide hD
              rw [← hD] at HAC3 HRW4
              obtain ⟨rowN, hrowN⟩ : ∃ R, R = (ds i).rowN x row := ⟨_, rfl⟩
              obtain ⟨HN, hHN⟩ : ∃ R, R = (ds i).gonN x H := ⟨_, rfl⟩
              rw [← hrowN, ← hHN] at HAC3 HRW4
              have HWD := hide hwd
              clear hwd hbd l0 l1 l2 l3 l4 l5 l6 l7 HRW3 HSD3 HRWc hD hrowN hHN hp12 hzd hl1 hl2 hl3 hlc HCX HBXX HRP HO2
              rcases HAC3.out with ⟨hA, hA3, hAx⟩ | ⟨hB, hBx⟩ | hC
              · as_aux_lemma =>
                  have HA := hide hA
                  have ka : ak = 3 := hA.kind
                  have kaB : (ak == 3) = true := by simpa using ka
                  have oo : ao = true := hA.ok
                  have cc : ac = (b : Int) := hA.cell
                  subst oo cc ka
                  clear HAC3 hA hA3 hAx
                  obtain ⟨n0, n1⟩ := HSD4.out.onl.celled (i := i) (by rw [HSD4.out.len.1]; exact hik)
                  obtain ⟨i0, hi, hz0, hz1, hz2⟩ := info_parts Tryz.info42
                  have hcb : ¬ ((b : Int) = (b : Int) + 1) := by omega
                  have hrl2 : row.length + 1 ≤ 4194304 := by have := HRL.out; omega
                  have hsz7 : ∀ o : Obj, (wd.alloc o).heap.size = wd.heap.size + 1 := fun o => by simp
                  have hlo7 : w.heap.size ≤ wd.heap.size := HRW4.out.rm.bel.size
                  have htw := two_at wd
                  go_upto_region 28 with (at_builtin; refine wpList_append_lies _ rfl (.tmp 146) (.tmp 151) 24 rfl w.heap.size 42 i0 (.agg #[.int .u64 0, .int .u64 0]) 2 16 Tryz.underlying24 hi hz0 hz1 hz2 rfl (by omega) _ row.length (tCells row) rfl (HSD4.out.orv.alloc _) ⟨wd.heap.size, 0, none⟩ 1 1 [.int .u64 (tAt nl i).1, .int .u64 (tAt nl i).2] rfl rfl (two_at wd _ _ _) (by simp [Value.oneCell']) (by omega) (by unfold maxLen; omega) (by omega) (by simp; omega) _ (hsz7 _) ?_; intro g6 c6 w6 hown hgr hat _; obtain ⟨hrw6, hsd6⟩ := HSD4.out.app HRW4.out (x := tAt nl i) hown hgr hat; have HRW6 := hide hrw6; have HSD6 := hide hsd6; have h55 := hide ((hgr.block _ (by have := lt_of_heap HZD.out; simp; omega) (fun e => by obtain ⟨_, cs, ht⟩ := own_tyz HSD4.out.orv e.symm; exact ne_ty HZD.out ht (by decide) rfl)).trans ((Below.heap_alloc _ _ _ (lt_of_heap HZD.out)).trans HZD.out)); clear hown hgr hat hrw6 hsd6)
                  have z1 := cell_of h55.out (i := 1) rfl
                  have z2 := cell_of h55.out (i := 2) rfl
                  have z7 := cell_of h55.out (i := 7) rfl
                  have b6 := cell_of HSD6.out.bx (i := 0) rfl
                  have hwr7 : IntKind.i64.wrap ((b : Int) + 1) = (b : Int) + 1 := IntWalk.i64_in _ (by have := HBM.out; omega)
                  obtain ⟨y2, y3, y4, y5, y6⟩ := HRW6.out.rm.cells hik
                  go_upto_region 33 with fail
                  clear z1 z2 z7 b6 e1 e2 e7 b0 n0 n1 y2 y3 y4 y5 y6 hwr7
                  have hnt : tAt nl i = (ds i).t := (HFI.out i hik).1 HA.out.ins.1 HA.out.ins.2
                  have HFI6 := hide (show FiI k (upd ds i D) (row ++ [tAt nl i]) nl dl from HFI.out.upd (fun _ _ => by rw [HA.out.d4]; exact hnt) (fun q => by rw [HA.out.d4] at q; exact absurd (show 10 ≤ 4 from q) (by decide)) (fun _ _ => rfl) (fun _ _ => rfl) (fun q hq hp => by
                    obtain ⟨pl, hri⟩ := HRI.out
                    have hg := (hri.hs q hq).gg hp
                    have hh := hri.h0
                    exact rowAt_app (by omega) (hri.hs q hq).p0))
                  rw [HA.out.row, ← hnt, HA.out.hd] at HRW6
                  have HRPL := hide (rm_reply HRW6.out.rm hik)
                  rw [upd_same] at HRPL
                  obtain ⟨_, _, y4, _, y6⟩ := HRW6.out.rm.cells hik
                  go_wp2_with fail
                  refine HRPL.out.mono ?_
                  rintro e w8 ⟨hb8, u, rfl, hu⟩
                  obtain ⟨au, cu, rfl⟩ := owns_shape hu
                  have HRW8 := hide (HRW6.out.below hb8)
                  have HSD8 := hide (HSD6.out.below hb8)
                  have HU8 := hide hu
                  clear hb8 hu HRPL y4 y6
                  go_upto_region 34 with fail
                  have hb9 : Below w8.heap.size w8 (w8.alloc (.cells #[.int .i64 D.st, .slice au D.out.length cu] 71)) := below_alloc (Below.refl _ _) _
                  have hz9 := heap_new w8 (.cells #[.int .i64 D.st, .slice au D.out.length cu] 71)
                  obtain ⟨w9, hw9⟩ : ∃ w9, w9 = w8.alloc (.cells #[.int .i64 D.st, .slice au D.out.length cu] 71) := ⟨_, rfl⟩
                  rw [← hw9] at hb9 hz9 ⊢
                  have HRW9 := hide (HRW8.out.below hb9)
                  have HSD9 := hide (HSD8.out.below hb9)
                  have HU9 := hide (HU8.out.below hb9)
                  have HOV9 := hide (fun V (kb : Below w9.heap.size w9 V) => rm_over (HRW9.out.below kb).rm hik)
                  rw [upd_same] at HOV9
                  obtain ⟨_, _, y4, _, y6⟩ := HRW9.out.rm.cells hik
                  have v4 := gw_cell y4; have v6 := gw_cell y6
                  have s0 := gw_cell (cell_of hz9 (i := 0) rfl); have s1 := gw_cell (cell_of hz9 (i := 1) rfl)
                  have HBZ9 := hide hz9
                  clear y4 y6 hb9 hz9 hw9 HRW8 HSD8 HU8
                  have hD0 : decide (D.ph = 0) = false := by simpa using HA.out.ph
                  rw [hD0] at HOV9
                  refine wp_region_gw (by kernel_rfl) (by kernel_rfl) ?_
                  repeat (go_big_quiet_step (first
                    | (go_at_call 22; exact gw_of ((HOV9.out _ (GW.bel _)).mono fun e w' ⟨h1, h2⟩ => ⟨h1, by subst h2; exact Below.refl _ _⟩))
                    | rfl))
                  refine wpQuiet_nil ?_
                  intro _ hw'
                  obtain ⟨x', hw''⟩ := hw'
                  subst hw''
                  clear s0 s1 v4 v6
                  go_wp2_with fail
                  exact ⟨⟨j + 1, hlt, by simp, (FInv.of (HRW9.out.below x'.bel) (HSD9.out.below x'.bel) HFI6.out)⟩, mdecR hlt⟩
              · as_aux_lemma =>
                  have HA := hide hB
                  have ka : ak = 3 := hB.kind
                  have kaB : (ak == 3) = true := by simpa using ka
                  have oo : ao = true := hB.ok
                  have cc : ac = (b : Int) + 1 := hB.cell
                  subst oo cc ka
                  have hpl : (ds i).place = H := by rw [← hBx, HX.out, show (ds i).cell b C = b + 1 by unfold Hs.cell; simp only [hB.dp], HHD.out]
                  have hHr : H < row.length := by
                    have := (HII.out.p9 hB.dp).2.1
                    omega
                  clear HAC3 hB hBx
                  obtain ⟨Hn, hHn⟩ : ∃ Hn : Nat, H = (Hn : Int) := ⟨H.toNat, by have := HH0.out; omega⟩
                  subst hHn
                  have hHn2 : Hn < row.length := by omega
                  obtain ⟨gv, cv', hev⟩ := own_spot HSD4.out.orv (by omega)
                  cases hev
                  obtain ⟨r0, r1⟩ := HSD4.out.orv.celled hHn2
                  have hnl2 : ¬ (row.length : Int) ≤ (Hn : Int) := by omega
                  have hcb : (((b : Int) + 1) == (b : Int)) = false := by simp; omega
                  have hwr7 : IntKind.i64.wrap ((b : Int) + 1) = (b : Int) + 1 := IntWalk.i64_in _ (by have := HBM.out; omega)
                  have hwr8 : IntKind.i64.wrap ((Hn : Int) + 1) = (Hn : Int) + 1 := IntWalk.i64_in _ (by have := HRL.out; omega)
                  have f0 : wd.frozen? ⟨gD, i * 2, none⟩ = false := (town_rown HSD4.out.odl).free _
                  have f1 : wd.frozen? ⟨gD, i * 2 + 1, none⟩ = false := (town_rown HSD4.out.odl).free _
                  have hidl : i < dl.length := by rw [HSD4.out.len.2.1]; exact hik
                  obtain ⟨d0, d1⟩ := HSD4.out.odl.celled hidl
                  have hput := HSD4.out.put HRW4.out hik (tAt row Hn) false
                  simp only [Bool.false_eq_true, if_false] at hput
                  have HPUT := hide hput
                  clear hput
                  go_upto_region 33 with fail
                  clear e1 e2 e7 b0 r0 r1 f0 f1 d0 d1 hwr7 hwr8 hcb hnl2
                  generalize ((wd.setCell ⟨gD, i * 2, none⟩ (.int .u64 (tAt row Hn).1)).setCell ⟨gD, i * 2 + 1, none⟩ (.int .u64 (tAt row Hn).2)) = w6 at HPUT ⊢
                  obtain ⟨hrw6, hsd6⟩ := HPUT.out
                  have HRW6 := hide hrw6
                  have HSD6 := hide hsd6
                  clear hrw6 hsd6 HPUT
                  have HFI6 := hide (show FiI k (upd ds i D) row nl (dl.set i (tAt row Hn)) from HFI.out.upd (fun _ q => by rw [HA.out.d4] at q; exact absurd (show 10 ≤ 6 from q) (by decide)) (fun q => by rw [HA.out.d4, tAt_set hidl, if_pos rfl]; show _ = rowAt row (ds i).place; rw [hpl]; rfl) (fun _ _ => rfl) (fun q hq => by rw [tAt_set hidl, if_neg hq]) (fun _ _ _ => rfl))
                  rw [HA.out.row, HA.out.hd] at HRW6
                  have HRPL := hide (rm_reply HRW6.out.rm hik)
                  rw [upd_same] at HRPL
                  obtain ⟨_, _, y4, _, y6⟩ := HRW6.out.rm.cells hik
                  go_wp2_with fail
                  refine HRPL.out.mono ?_
                  rintro e w8 ⟨hb8, u, rfl, hu⟩
                  obtain ⟨au, cu, rfl⟩ := owns_shape hu
                  have HRW8 := hide (HRW6.out.below hb8)
                  have HSD8 := hide (HSD6.out.below hb8)
                  have HU8 := hide hu
                  clear hb8 hu HRPL y4 y6
                  go_upto_region 34 with fail
                  have hb9 : Below w8.heap.size w8 (w8.alloc (.cells #[.int .i64 D.st, .slice au D.out.length cu] 71)) := below_alloc (Below.refl _ _) _
                  have hz9 := heap_new w8 (.cells #[.int .i64 D.st, .slice au D.out.length cu] 71)
                  obtain ⟨w9, hw9⟩ : ∃ w9, w9 = w8.alloc (.cells #[.int .i64 D.st, .slice au D.out.length cu] 71) := ⟨_, rfl⟩
                  rw [← hw9] at hb9 hz9 ⊢
                  have HRW9 := hide (HRW8.out.below hb9)
                  have HSD9 := hide (HSD8.out.below hb9)
                  have HU9 := hide (HU8.out.below hb9)
                  have HOV9 := hide (fun V (kb : Below w9.heap.size w9 V) => rm_over (HRW9.out.below kb).rm hik)
                  rw [upd_same] at HOV9
                  obtain ⟨_, _, y4, _, y6⟩ := HRW9.out.rm.cells hik
                  have v4 := gw_cell y4; have v6 := gw_cell y6
                  have s0 := gw_cell (cell_of hz9 (i := 0) rfl); have s1 := gw_cell (cell_of hz9 (i := 1) rfl)
                  have HBZ9 := hide hz9
                  clear y4 y6 hb9 hz9 hw9 HRW8 HSD8 HU8
                  have hD0 : decide (D.ph = 0) = false := by simpa using HA.out.ph
                  rw [hD0] at HOV9
                  refine wp_region_gw (by kernel_rfl) (by kernel_rfl) ?_
                  repeat (go_big_quiet_step (first
                    | (go_at_call 22; exact gw_of ((HOV9.out _ (GW.bel _)).mono fun e w' ⟨h1, h2⟩ => ⟨h1, by subst h2; exact Below.refl _ _⟩))
                    | rfl))
                  refine wpQuiet_nil ?_
                  intro _ hw'
                  obtain ⟨x', hw''⟩ := hw'
                  subst hw''
                  clear s0 s1 v4 v6
                  go_wp2_with fail
                  exact ⟨⟨j + 1, hlt, by simp, (FInv.of (HRW9.out.below x'.bel) (HSD9.out.below x'.bel) HFI6.out)⟩, mdecR hlt⟩
              · as_aux_lemma =>
                  have HA := hide hC
                  clear HAC3 hC
                  by_cases hak : ak = 3
                  · have hao : ao = false := HA.out.ok hak
                    subst hao hak
                    have kaB : (3 == (3 : Int)) = true := rfl
                    go_upto_region 33 with fail
                    clear e1 e2 e7 b0
                    have HFI6 := hide (show FiI k (upd ds i D) row nl dl from HFI.out.upd (fun h1 h2 => by rw [(HA.out.keep.1 h1 h2).1]; exact (HFI.out i hik).1 (HA.out.keep.1 h1 h2).2.1 (HA.out.keep.1 h1 h2).2.2) (fun q => by rw [(HA.out.keep.2 q).1]; exact (HFI.out i hik).2 (HA.out.keep.2 q).2) (fun _ _ => rfl) (fun _ _ => rfl) (fun _ _ _ => rfl))
                    rw [HA.out.row, HA.out.hd] at HRW4
                    have HRPL := hide (rm_reply HRW4.out.rm hik)
                    rw [upd_same] at HRPL
                    obtain ⟨_, _, y4, _, y6⟩ := HRW4.out.rm.cells hik
                    go_wp2_with fail
                    refine HRPL.out.mono ?_
                    rintro e w8 ⟨hb8, u, rfl, hu⟩
                    obtain ⟨au, cu, rfl⟩ := owns_shape hu
                    have HRW8 := hide (HRW4.out.below hb8)
                    have HSD8 := hide (HSD4.out.below hb8)
                    have HU8 := hide hu
                    clear hb8 hu HRPL y4 y6
                    go_upto_region 34 with fail
                    have hb9 : Below w8.heap.size w8 (w8.alloc (.cells #[.int .i64 D.st, .slice au D.out.length cu] 71)) := below_alloc (Below.refl _ _) _
                    have hz9 := heap_new w8 (.cells #[.int .i64 D.st, .slice au D.out.length cu] 71)
                    obtain ⟨w9, hw9⟩ : ∃ w9, w9 = w8.alloc (.cells #[.int .i64 D.st, .slice au D.out.length cu] 71) := ⟨_, rfl⟩
                    rw [← hw9] at hb9 hz9 ⊢
                    have HRW9 := hide (HRW8.out.below hb9)
                    have HSD9 := hide (HSD8.out.below hb9)
                    have HU9 := hide (HU8.out.below hb9)
                    have HOV9 := hide (fun V (kb : Below w9.heap.size w9 V) => rm_over (HRW9.out.below kb).rm hik)
                    rw [upd_same] at HOV9
                    obtain ⟨_, _, y4, _, y6⟩ := HRW9.out.rm.cells hik
                    have v4 := gw_cell y4; have v6 := gw_cell y6
                    have s0 := gw_cell (cell_of hz9 (i := 0) rfl); have s1 := gw_cell (cell_of hz9 (i := 1) rfl)
                    have HBZ9 := hide hz9
                    clear y4 y6 hb9 hz9 hw9 HRW8 HSD8 HU8
                    by_cases hD0 : D.ph = 0
                    · rw [show decide (D.ph = 0) = true by simpa using hD0] at HOV9
                      by_cases hD5 : D.st = 5
                      · obtain ⟨hp12, hout⟩ := HA.out.st hD0 hD5
                        have hdt : tAt dl i = (ds i).t := by
                          rw [(HFI.out i hik).2 (by omega)]
                          exact (Prod.ext (HII.out.g1 (by omega)) (HII.out.g2 (by omega))).symm
                        rw [hout] at HU9
                        rw [hD5] at s0
                        obtain ⟨gu, cu', hgu⟩ := own_spot HU9.out Nat.zero_lt_one
                        rw [hout] at s1
                        obtain ⟨rfl, rfl⟩ : au = some ⟨gu, 0, none⟩ ∧ cu = cu' := by simpa using hgu
                        clear hgu
                        obtain ⟨d0, d1⟩ := HSD9.out.odl.celled (i := i) (by rw [HSD9.out.len.2.1]; exact hik)
                        rw [hdt] at d0 d1
                        obtain ⟨o0, o1⟩ := HU9.out.celled (i := 0) Nat.zero_lt_one
                        rw [show tAt [(ds i).t] 0 = (ds i).t from rfl] at o0 o1
                        have t0 := gw_cell d0; have t1 := gw_cell d1; have t2 := gw_cell o0; have t3 := gw_cell o1
                        clear d0 d1 o0 o1 hD5 hD0 hp12 hdt
                        have hnq := neq_same (ds i).t.1 (ds i).t.2
                        refine wp_region_gw (by kernel_rfl) (by kernel_rfl) ?_
                        repeat (go_big_quiet_step (first
                          | (go_at_call 22; exact gw_of ((HOV9.out _ (GW.bel _)).mono fun e w' ⟨h1, h2⟩ => ⟨h1, by subst h2; exact Below.refl _ _⟩))
                          | rfl))
                        refine wpQuiet_nil ?_
                        intro _ hw'
                        obtain ⟨x', hw''⟩ := hw'
                        subst hw''
                        clear t0 t1 t2 t3 hnq s0 s1 v4 v6
                        go_wp2_with fail
                        exact ⟨⟨j + 1, hlt, by simp, (FInv.of (HRW9.out.below x'.bel) (HSD9.out.below x'.bel) HFI6.out)⟩, mdecR hlt⟩
                      · have h5b : (D.st == 5) = false := by simpa using hD5
                        clear hD5 hD0
                        refine wp_region_gw (by kernel_rfl) (by kernel_rfl) ?_
                        repeat (go_big_quiet_step (first
                          | (go_at_call 22; exact gw_of ((HOV9.out _ (GW.bel _)).mono fun e w' ⟨h1, h2⟩ => ⟨h1, by subst h2; exact Below.refl _ _⟩))
                          | rfl))
                        refine wpQuiet_nil ?_
                        intro _ hw'
                        obtain ⟨x', hw''⟩ := hw'
                        subst hw''
                        clear s0 s1 v4 v6
                        go_wp2_with fail
                        exact ⟨⟨j + 1, hlt, by simp, (FInv.of (HRW9.out.below x'.bel) (HSD9.out.below x'.bel) HFI6.out)⟩, mdecR hlt⟩
                    · rw [show decide (D.ph = 0) = false by simpa using hD0] at HOV9
                      clear hD0
                      refine wp_region_gw (by kernel_rfl) (by kernel_rfl) ?_
                      repeat (go_big_quiet_step (first
                        | (go_at_call 22; exact gw_of ((HOV9.out _ (GW.bel _)).mono fun e w' ⟨h1, h2⟩ => ⟨h1, by subst h2; exact Below.refl _ _⟩))
                        | rfl))
                      refine wpQuiet_nil ?_
                      intro _ hw'
                      obtain ⟨x', hw''⟩ := hw'
                      subst hw''
                      clear s0 s1 v4 v6
                      go_wp2_with fail
                      exact ⟨⟨j + 1, hlt, by simp, (FInv.of (HRW9.out.below x'.bel) (HSD9.out.below x'.bel) HFI6.out)⟩, mdecR hlt⟩
                  · have kaB : (ak == 3) = false := by simpa using hak
                    clear hak
                    go_upto_region 33 with fail
                    clear e1 e2 e7 b0
                    have HFI6 := hide (show FiI k (upd ds i D) row nl dl from HFI.out.upd (fun h1 h2 => by rw [(HA.out.keep.1 h1 h2).1]; exact (HFI.out i hik).1 (HA.out.keep.1 h1 h2).2.1 (HA.out.keep.1 h1 h2).2.2) (fun q => by rw [(HA.out.keep.2 q).1]; exact (HFI.out i hik).2 (HA.out.keep.2 q).2) (fun _ _ => rfl) (fun _ _ => rfl) (fun _ _ _ => rfl))
                    rw [HA.out.row, HA.out.hd] at HRW4
                    have HRPL := hide (rm_reply HRW4.out.rm hik)
                    rw [upd_same] at HRPL
                    obtain ⟨_, _, y4, _, y6⟩ := HRW4.out.rm.cells hik
                    go_wp2_with fail
                    refine HRPL.out.mono ?_
                    rintro e w8 ⟨hb8, u, rfl, hu⟩
                    obtain ⟨au, cu, rfl⟩ := owns_shape hu
                    have HRW8 := hide (HRW4.out.below hb8)
                    have HSD8 := hide (HSD4.out.below hb8)
                    have HU8 := hide hu
                    clear hb8 hu HRPL y4 y6
                    go_upto_region 34 with fail
                    have hb9 : Below w8.heap.size w8 (w8.alloc (.cells #[.int .i64 D.st, .slice au D.out.length cu] 71)) := below_alloc (Below.refl _ _) _
                    have hz9 := heap_new w8 (.cells #[.int .i64 D.st, .slice au D.out.length cu] 71)
                    obtain ⟨w9, hw9⟩ : ∃ w9, w9 = w8.alloc (.cells #[.int .i64 D.st, .slice au D.out.length cu] 71) := ⟨_, rfl⟩
                    rw [← hw9] at hb9 hz9 ⊢
                    have HRW9 := hide (HRW8.out.below hb9)
                    have HSD9 := hide (HSD8.out.below hb9)
                    have HU9 := hide (HU8.out.below hb9)
                    have HOV9 := hide (fun V (kb : Below w9.heap.size w9 V) => rm_over (HRW9.out.below kb).rm hik)
                    rw [upd_same] at HOV9
                    obtain ⟨_, _, y4, _, y6⟩ := HRW9.out.rm.cells hik
                    have v4 := gw_cell y4; have v6 := gw_cell y6
                    have s0 := gw_cell (cell_of hz9 (i := 0) rfl); have s1 := gw_cell (cell_of hz9 (i := 1) rfl)
                    have HBZ9 := hide hz9
                    clear y4 y6 hb9 hz9 hw9 HRW8 HSD8 HU8
                    by_cases hD0 : D.ph = 0
                    · rw [show decide (D.ph = 0) = true by simpa using hD0] at HOV9
                      by_cases hD5 : D.st = 5
                      · obtain ⟨hp12, hout⟩ := HA.out.st hD0 hD5
                        have hdt : tAt dl i = (ds i).t := by
                          rw [(HFI.out i hik).2 (by omega)]
                          exact (Prod.ext (HII.out.g1 (by omega)) (HII.out.g2 (by omega))).symm
                        rw [hout] at HU9
                        rw [hD5] at s0
                        obtain ⟨gu, cu', hgu⟩ := own_spot HU9.out Nat.zero_lt_one
                        rw [hout] at s1
                        obtain ⟨rfl, rfl⟩ : au = some ⟨gu, 0, none⟩ ∧ cu = cu' := by simpa using hgu
                        clear hgu
                        obtain ⟨d0, d1⟩ := HSD9.out.odl.celled (i := i) (by rw [HSD9.out.len.2.1]; exact hik)
                        rw [hdt] at d0 d1
                        obtain ⟨o0, o1⟩ := HU9.out.celled (i := 0) Nat.zero_lt_one
                        rw [show tAt [(ds i).t] 0 = (ds i).t from rfl] at o0 o1
                        have t0 := gw_cell d0; have t1 := gw_cell d1; have t2 := gw_cell o0; have t3 := gw_cell o1
                        clear d0 d1 o0 o1 hD5 hD0 hp12 hdt
                        have hnq := neq_same (ds i).t.1 (ds i).t.2
                        refine wp_region_gw (by kernel_rfl) (by kernel_rfl) ?_
                        repeat (go_big_quiet_step (first
                          | (go_at_call 22; exact gw_of ((HOV9.out _ (GW.bel _)).mono fun e w' ⟨h1, h2⟩ => ⟨h1, by subst h2; exact Below.refl _ _⟩))
                          | rfl))
                        refine wpQuiet_nil ?_
                        intro _ hw'
                        obtain ⟨x', hw''⟩ := hw'
                        subst hw''
                        clear t0 t1 t2 t3 hnq s0 s1 v4 v6
                        go_wp2_with fail
                        exact ⟨⟨j + 1, hlt, by simp, (FInv.of (HRW9.out.below x'.bel) (HSD9.out.below x'.bel) HFI6.out)⟩, mdecR hlt⟩
                      · have h5b : (D.st == 5) = false := by simpa using hD5
                        clear hD5 hD0
                        refine wp_region_gw (by kernel_rfl) (by kernel_rfl) ?_
                        repeat (go_big_quiet_step (first
                          | (go_at_call 22; exact gw_of ((HOV9.out _ (GW.bel _)).mono fun e w' ⟨h1, h2⟩ => ⟨h1, by subst h2; exact Below.refl _ _⟩))
                          | rfl))
                        refine wpQuiet_nil ?_
                        intro _ hw'
                        obtain ⟨x', hw''⟩ := hw'
                        subst hw''
                        clear s0 s1 v4 v6
                        go_wp2_with fail
                        exact ⟨⟨j + 1, hlt, by simp, (FInv.of (HRW9.out.below x'.bel) (HSD9.out.below x'.bel) HFI6.out)⟩, mdecR hlt⟩
                    · rw [show decide (D.ph = 0) = false by simpa using hD0] at HOV9
                      clear hD0
                      refine wp_region_gw (by kernel_rfl) (by kernel_rfl) ?_
                      repeat (go_big_quiet_step (first
                        | (go_at_call 22; exact gw_of ((HOV9.out _ (GW.bel _)).mono fun e w' ⟨h1, h2⟩ => ⟨h1, by subst h2; exact Below.refl _ _⟩))
                        | rfl))
                      refine wpQuiet_nil ?_
                      intro _ hw'
                      obtain ⟨x', hw''⟩ := hw'
                      subst hw''
                      clear s0 s1 v4 v6
                      go_wp2_with fail
                      exact ⟨⟨j + 1, hlt, by simp, (FInv.of (HRW9.out.below x'.bel) (HSD9.out.below x'.bel) HFI6.out)⟩, mdecR hlt⟩

          · have HNO := hide (show ¬ (kd = 3 ∧ (ds i).ph ≠ 0) from fun z => hk3 z.1)
            by_cases hk1 : kd = 1
            · by_cases hins : (ds i).ph = 0 ∧ t1 ≠ Nev
              · as_aux_lemma =>
                  have HAE : Hid (actE kd (t1, t2) (ds i) = 0) := hide (by unfold actE; rw [if_pos hk1, if_neg (by simpa using hins.1), if_neg hins.2])
                  have HAD : Hid (actD s b C kd (t1, t2) (ds i) = (ds i).ins (t1, t2)) := hide (by unfold actD; rw [if_pos hk1, if_pos hins])
                  have HAR : Hid (actR s b C kd (ds i) row = row) := hide (by unfold actR; exact if_neg HNO.out)
                  have HAH : Hid (actH s b C kd (ds i) H = H) := hide (by unfold actH; exact if_neg HNO.out)
                  have kb : (kd == 1) = true := by simpa using hk1
                  have k3b : (kd != 3) = true := by simp; omega
                  generalize hp0 : decide ((ds i).ph = 0) = p0 at HOV
                  clear hp0
                  rw [HAE.out] at HAC
                  have HINS := hide hins.1
                  clear hins hk1
                  refine HOV.out.mono ?_
                  rintro e wa ⟨rfl, rfl⟩
                  go_wp2_with fail
                  refine HAC.out.mono ?_
                  rintro e wb ⟨rfl, lv', vs', gs', hrw', hkp, hvf⟩
                  have HRW2 := hide hrw'
                  have HSD2 := hide (HSD.out.after hkp hvf)
                  obtain ⟨q0, q1, q2, q3⟩ := HOC.out wb hrw'.rm.bel
                  clear hkp hvf hrw' x2 x3 x4 x5 x6 HSD HRW
                  rw [show actD s b C kd (t1, t2) (ds i) = (ds i).ins (t1, t2) from HAD.out, show actR s b C kd (ds i) row = row from HAR.out, show actH s b C kd (ds i) H = H from HAH.out] at HRW2
                  have hiN : i < nl.length := by rw [HSD2.out.len.1]; exact hik
                  obtain ⟨n0, n1⟩ := HSD2.out.onl.celled hiN
                  have hne : ¬ og = gN := by
                    obtain ⟨_, _, he, hl', _⟩ := (HOP.out w (Below.refl _ _)).at j hjl
                    simp only [Option.some.injEq, Addr.mk.injEq, and_true] at he
                    obtain ⟨rfl, rfl⟩ := he
                    have := (HSD2.out.onl.lt gN rfl).1
                    omega
                  have hne2 : ¬ gN = og := fun e => hne e.symm
                  have f0 : wb.frozen? ⟨gN, i * 2, none⟩ = false := (town_rown HSD2.out.onl).free _
                  have f1 : wb.frozen? ⟨gN, i * 2 + 1, none⟩ = false := (town_rown HSD2.out.onl).free _
                  have hput := HSD2.out.put HRW2.out hik (t1, t2) true
                  simp only [if_true] at hput
                  have HPUT := hide hput
                  clear hput HSD2 HRW2
                  go_wp2_with fail
                  obtain ⟨hrw5, hsd5⟩ := HPUT.out
                  exact ⟨⟨j + 1, hlt, by simp, FInv.of hrw5 hsd5 (HFI.out.upd (fun _ _ => by rw [tAt_set hiN, if_pos rfl]; rfl) (fun h1 => absurd (show 10 ≤ 1 from h1) (by decide)) (fun q hq => by rw [tAt_set hiN, if_neg hq]) (fun _ _ => rfl) (fun _ _ _ => rfl))⟩, mdecR hlt⟩
              · as_aux_lemma =>
                  have HAE0 : Hid (actE kd (t1, t2) (ds i) ≠ 0) := hide (by
                    unfold actE
                    rw [if_pos hk1]
                    by_cases q : (ds i).ph = 0
                    · rw [if_neg (by simpa using q)]
                      by_cases q2 : t1 = Nev
                      · rw [if_pos q2]; decide
                      · exact (hins ⟨q, q2⟩).elim
                    · rw [if_pos q]; decide)
                  have HAD : Hid (actD s b C kd (t1, t2) (ds i) = ds i) := hide (by unfold actD; rw [if_pos hk1, if_neg hins])
                  have HAR : Hid (actR s b C kd (ds i) row = row) := hide (by unfold actR; exact if_neg HNO.out)
                  have HAH : Hid (actH s b C kd (ds i) H = H) := hide (by unfold actH; exact if_neg HNO.out)
                  have kb : (kd == 1) = true := by simpa using hk1
                  have k3b : (kd != 3) = true := by simp; omega
                  generalize hp0 : decide ((ds i).ph = 0) = p0 at HOV
                  clear hp0
                  generalize hE0 : actE kd (t1, t2) (ds i) = E0 at HAC HAE0
                  clear hE0
                  have heb : (E0 == 0) = false := by have := HAE0.out; simpa using this
                  clear hins hk1
                  refine HOV.out.mono ?_
                  rintro e wa ⟨rfl, rfl⟩
                  go_wp2_with fail
                  refine HAC.out.mono ?_
                  rintro e wb ⟨rfl, lv', vs', gs', hrw', hkp, hvf⟩
                  have HRW2 := hide hrw'
                  have HSD2 := hide (HSD.out.after hkp hvf)
                  obtain ⟨q0, q1, q2, q3⟩ := HOC.out wb hrw'.rm.bel
                  clear hkp hvf hrw' x2 x3 x4 x5 x6 HSD HRW
                  rw [show actD s b C kd (t1, t2) (ds i) = ds i from HAD.out, show actR s b C kd (ds i) row = row from HAR.out, show actH s b C kd (ds i) H = H from HAH.out] at HRW2
                  rw [upd_id] at HRW2
                  go_wp2_with fail
                  exact ⟨⟨j + 1, hlt, by simp, FInv.of HRW2.out HSD2.out HFI.out⟩, mdecR hlt⟩
            · as_aux_lemma =>
                have HAD : Hid (actD s b C kd (t1, t2) (ds i) = if kd = 2 ∧ (ds i).ph = 0 then (ds i).tak else ds i) := hide (by
                  unfold actD
                  rw [if_neg hk1, if_neg hk3]
                  by_cases q : kd = 2
                  · by_cases q2 : (ds i).ph = 0 <;> simp [q, q2]
                  · simp [q])
                have HAR : Hid (actR s b C kd (ds i) row = row) := hide (by unfold actR; exact if_neg HNO.out)
                have HAH : Hid (actH s b C kd (ds i) H = H) := hide (by unfold actH; exact if_neg HNO.out)
                have kb : (kd == 1) = false := by simpa using hk1
                have k3b : (kd != 3) = true := by simpa using hk3
                generalize hp0 : decide ((ds i).ph = 0) = p0 at HOV
                clear hp0
                generalize hE0 : actE kd (t1, t2) (ds i) = E0 at HAC
                clear hE0
                have HK3 := hide hk3
                clear hk1 hk3
                refine HOV.out.mono ?_
                rintro e wa ⟨rfl, rfl⟩
                go_wp2_with fail
                refine HAC.out.mono ?_
                rintro e wb ⟨rfl, lv', vs', gs', hrw', hkp, hvf⟩
                have HRW2 := hide hrw'
                have HSD2 := hide (HSD.out.after hkp hvf)
                obtain ⟨q0, q1, q2, q3⟩ := HOC.out wb hrw'.rm.bel
                clear hkp hvf hrw' x2 x3 x4 x5 x6 HSD HRW
                rw [show actD s b C kd (t1, t2) (ds i) = if kd = 2 ∧ (ds i).ph = 0 then (ds i).tak else ds i from HAD.out, show actR s b C kd (ds i) row = row from HAR.out, show actH s b C kd (ds i) H = H from HAH.out] at HRW2
                go_wp2_with fail
                exact ⟨⟨j + 1, hlt, by simp, FInv.of HRW2.out HSD2.out (HFI.out.upd (fun h1 h2 => by
                  by_cases q : kd = 2 ∧ (ds i).ph = 0
                  · rw [if_pos q] at h1 h2; exact absurd (show 7 ≤ 6 from h2) (by decide)
                  · rw [if_neg q] at h1 h2 ⊢; exact (HFI.out i hik).1 h1 h2) (fun h1 => by
                  by_cases q : kd = 2 ∧ (ds i).ph = 0
                  · rw [if_pos q] at h1; exact absurd (show 10 ≤ 7 from h1) (by decide)
                  · rw [if_neg q] at h1 ⊢; exact (HFI.out i hik).2 h1) (fun _ _ => rfl) (fun _ _ => rfl) (fun _ _ _ => rfl))⟩, mdecR hlt⟩

      · obtain rfl : j = L := by omega
        have HH2 := hide (held2_any HRW.out (.slice av row.length cv) _ HSD.out.orv (by omega))
        go_wp2_with fail
        refine HH2.out.mono ?_
        rintro e wz ⟨rfl, hbz⟩
        have HBZ := hide hbz
        clear hbz
        go_wp2_with fail
        go_ret
        exact ⟨rfl, HBZ.out⟩
  · rw [show decide (errR b C l = 0) = false by simpa using he] at HF
    have HRL := hide (fun V (kb : Below w.heap.size w V) => ring_law b C n _ l V (HTV.out V kb) htk (by omega))
    unfold qAgg at HRL
    rw [hW] at a0 a1
    clear hops htv hbW he htk hok
    go_enter Tryz.func5, Tryz.ntmps5
    go_wp2_with fail
    rw [← hW]
    clear hW a0 a1
    refine HF.out.mono ?_
    rintro e w2 ⟨rfl, hb2⟩
    have HB2 := hide (below_on HBW.out hb2)
    have hz2 := (hb2.block _ (lt_of_heap HZ.out)).trans HZ.out
    have a0 := cell_of hz2 (i := 0) rfl; have a1 := cell_of hz2 (i := 1) rfl
    clear hb2 hz2 HF HZ HBW
    go_wp2_with fail
    refine (HRL.out _ HB2.out).mono ?_
    rintro e w3 ⟨rfl, hb3⟩
    have HB3 := hide (below_on HB2.out hb3)
    clear hb3
    go_wp2_with fail
    go_ret
    exact ⟨rfl, HB3.out⟩
end Go.Proofs.YtgjdjdgondpjeaaGreat
