/- RingKeeps: the walk. -/
import Derived.Test.YtgjdjdgondpjeaaGreatBkG
import Derived.Deep.RegionHeld3
import Derived.Deep.RegionWith
import Derived.Deep.Cut
import Derived.BigQuiet
import Derived.Deep.QuietTactic
namespace Go.Proofs.YtgjdjdgondpjeaaGreat
open Go.RowKit Go.Lib
set_option linter.unusedVariables false
set_option linter.unusedSimpArgs false
set_option maxRecDepth 100000 in
set_option maxHeartbeats 8000000 in
theorem keeps_law (b C n : Int) (tv : Value) (l : List Tk) (ov : Value) (ops : List OpR) (w : World) (htv : TAt w tv l) (htk : Tok l) (hops : RAt opA 4 w ov ops) (hok : OpsOk ops) (hlen : ops.length ≤ 1048576) (hl20 : l.length ≤ 1048576) :
    Calls Tryz.prog 4 #[qAgg b C, tv, .int .i64 n, ov] w fun e w' => e = .returned (.bool true) ∧ Below w.heap.size w w' := by
  obtain ⟨W, hW⟩ : ∃ W, W = w.alloc (.cells #[.int .i64 b, .int .i64 C] 23) := ⟨_, rfl⟩
  have hbW : Below w.heap.size w W := by rw [hW]; exact below_alloc (Below.refl _ _) _
  have HBW := hide hbW
  have HZ := hide (show W.heap[w.heap.size]? = some (.cells #[.int .i64 b, .int .i64 C] 23 (0, 0)) by rw [hW]; exact heap_new _ _)
  have HF := hide (fits_any b C tv l W (htv.below hbW) htk)
  obtain ⟨oo, oc, rfl, hoc, hoc2⟩ := hops.shape
  obtain ⟨ta, tc, rfl, htc, _⟩ := htv.shape
  have HOP := hide (fun V (k : Below w.heap.size w V) => hops.below k)
  have HTV := hide (fun V (k : Below w.heap.size w V) => htv.below k)
  have a0 := cell_of HZ.out (i := 0) rfl; have a1 := cell_of HZ.out (i := 1) rfl
  unfold qAgg at HF ⊢
  by_cases he : errR b C l = 0
  · rw [show decide (errR b C l = 0) = true by simpa using he] at HF
    obtain ⟨b, C, rfl, rfl, hC1, hC2, hbm, hnv, hlc⟩ := errR_zero he
    have hk := hN_le n
    obtain ⟨k, hkk⟩ : ∃ k, k = hN n := ⟨_, rfl⟩
    rw [← hkk] at hk
    have HHN := hide (fun V => handles_any n V)
    rw [← hkk] at HHN
    have HLY := hide (fun V (kb : Below w.heap.size w V) => lay_any b C k _ l V (HTV.out V kb) htk hC1 hC2 hbm hnv hlc (by omega))
    have HTK := hide htk
    have HCL := hide (show 2 ≤ C ∧ C ≤ 65536 ∧ l.length ≤ C from ⟨hC1, hC2, hlc⟩)
    have HOK := hide hok
    have HBM := hide hbm
    unfold qAgg at HLY
    obtain ⟨L, hL⟩ : ∃ L, L = ops.length := ⟨_, rfl⟩
    have HLn := hide hL
    have HLL := hide (show L ≤ 1048576 by omega)
    rw [← hL] at hlen hoc HOP ⊢
    rw [hW] at a0 a1
    have HZW : Hid (∀ V, Below W.heap.size W V → V.cell? ⟨w.heap.size, 0, none⟩ = some (.int .i64 b) ∧ V.cell? ⟨w.heap.size, 1, none⟩ = some (.int .i64 C)) := hide (fun V kb => by
      have z := (kb.block _ (lt_of_heap HZ.out)).trans HZ.out
      exact ⟨cell_of z rfl, cell_of z rfl⟩)
    clear hops htv hbW he hnv hlc hkk htk hok hL hbm htc
    go_enter Tryz.func4, Tryz.ntmps4
    go_wp2_with fail
    rw [← hW]
    clear hW a0 a1
    refine HF.out.mono ?_
    rintro e w2 ⟨rfl, hb2⟩
    have HB2 := hide hb2
    obtain ⟨a0, a1⟩ := HZW.out _ hb2
    clear hb2 HF HZ
    go_wp2_with (go_at_call 11; refine (HHN.out _).mono ?_; rintro e w3 ⟨rfl, rfl⟩)
    refine (HLY.out _ (below_on HBW.out HB2.out)).mono ?_
    rintro e w4 ⟨X, ab, gc, rb, rc, Y, Y2, Z, vP, vH, vG, qs, ps, rs, rfl, hll⟩
    obtain ⟨gP, cP, rfl⟩ := own_spot hll.rp (by omega)
    obtain ⟨gH, cH, rfl⟩ := own_spot hll.rh (by omega)
    obtain ⟨i0, hi, hz0, hz1, hz2⟩ := info_parts Tryz.info42
    have HRM := hide ((hll.rm ⟨hk.1, by omega⟩ HTK.out hC1 hC2 HCL.out.2.2).base HB2.out)
    generalize htb : tb0 b C ab rb (.slice (some ⟨gP, 0, none⟩) k cP) (.slice (some ⟨gH, 0, none⟩) k cH) vG = tb at HRM
    have HRW := hide (show RW W w4 X ab gc Y Z k tb (.slice none 0 0) (s0 b C l) gP cP gH cH qs ps (fun _ => .slice none 0 0) (fun _ => false) (fun _ => Hs.new) b C 0 l 0 from ⟨HRM.out, ⟨_, RI.start hC1 hC2 HCL.out.2.2 rfl⟩, rfl, by have := HCL.out; omega, by rw [← htb]; exact ⟨rfl, rfl⟩⟩)
    have HB4 := hide (HRW.out.rm.bel)
    have HTV4 := hide (fun V (kb : Below w4.heap.size w4 V) => HTV.out V (below_on (below_on HBW.out HB4.out) kb))
    have hpn : ∀ w, (binOp .eql 28 (.pointer (some ⟨X, 0, none⟩)) (.pointer none)).run Tryz.prog w = .ok (.bool false) w := fun w => rfl
    have hmk := make_tk k (by omega)
    have hmb := make_bs k (by omega)
    clear hll HRM htb HLY HHN HB2 a0 a1
    go_upto_region 7 with fail
    go_cut [11] from 39 to 49 (fun v wx => ∃ (B gN gU gG : Nat) (vi : Value), v = .pointer (some ⟨B, 0, none⟩) ∧ Sta w4 wx B gN gU gG k vi l)
    case first =>
      refine wp_region_JB [(0, 39), (1, 40), (2, 41), (3, 42), (4, 43), (5, 44), (6, 45), (7, 46), (8, 47), (9, 48), (10, 49), (11, 11)] (JB w4 k l (.slice ta l.length tc)) _ w4 (by kernel_rfl) (by kernel_rfl) (by decide) (by decide) ?_ ?_ ?_
      · exact JB.start _ _ _ _
      · intro i o h m wx hJ hn hdep K hK
        rcases i with _ | i
        · obtain rfl := Option.some.inj h
          exact opBuildS (ps := #[]) rfl (by simp) (run_bs0 _) (hK _ _ (hJ.s0 hn (below_alloc (Below.refl _ _) _) (own_new2 _ 42 _ rfl) (by simp)))
        rcases i with _ | i
        · obtain rfl := Option.some.inj h
          exact opMove rfl (evO (by decide) rfl) (hK _ _ (hJ.s1 hn))
        rcases i with _ | i
        · obtain rfl := Option.some.inj h
          obtain ⟨v0, h0⟩ := Option.ne_none_iff_exists'.1 (hdep ⟨0, .data⟩ (by simp) rfl)
          obtain ⟨v1, h1⟩ := Option.ne_none_iff_exists'.1 (hdep ⟨1, .data⟩ (by simp) rfl)
          obtain ⟨B, rfl, _, _, hr⟩ := hJ.a0 _ h0
          obtain rfl := hJ.a1 _ h1
          refine Eq.mp (if_pos rfl) (step_freshT2 (ops := #[]) (E := True) (K := K) rfl (.tmp 39) (.tmp 40) 24 rfl 42 i0 (.agg #[.int .u64 0, .int .u64 0]) Tryz.underlying24 hi hz0 hz1 hz2 rfl B w4.heap.size hr hJ.sz _ l (evJ (by decide) (by decide) h0 rfl) (evJ (by decide) (by decide) h1 rfl) (HTV4.out _ hJ.bel) (by omega) (by unfold maxLen; omega) (fun v' w' ho hb hat => hK _ _ (hJ.s2 hn hb ho h0 hat)))
        rcases i with _ | i
        · obtain rfl := Option.some.inj h
          exact opMove rfl (evO (by decide) rfl) (hK _ _ (hJ.s3 hn))
        rcases i with _ | i
        · obtain rfl := Option.some.inj h
          obtain ⟨v3, h3⟩ := Option.ne_none_iff_exists'.1 (hdep ⟨3, .data⟩ (by simp) rfl)
          obtain rfl := hJ.a3 _ h3
          exact opMake rfl (evJ (by decide) (by decide) h3 rfl) (evJ (by decide) (by decide) h3 rfl) (hmk _) (hK _ _ (hJ.s4 hn))
        rcases i with _ | i
        · obtain rfl := Option.some.inj h
          exact opMove rfl (evO (by decide) rfl) (hK _ _ (hJ.s5 hn))
        rcases i with _ | i
        · obtain rfl := Option.some.inj h
          obtain ⟨v3, h3⟩ := Option.ne_none_iff_exists'.1 (hdep ⟨5, .data⟩ (by simp) rfl)
          obtain rfl := hJ.a5 _ h3
          exact opMake rfl (evJ (by decide) (by decide) h3 rfl) (evJ (by decide) (by decide) h3 rfl) (hmb _) (hK _ _ (hJ.s6 hn))
        rcases i with _ | i
        · obtain rfl := Option.some.inj h
          exact opMove rfl (evO (by decide) rfl) (hK _ _ (hJ.s7 hn))
        rcases i with _ | i
        · obtain rfl := Option.some.inj h
          obtain ⟨v3, h3⟩ := Option.ne_none_iff_exists'.1 (hdep ⟨7, .data⟩ (by simp) rfl)
          obtain rfl := hJ.a7 _ h3
          exact opMake rfl (evJ (by decide) (by decide) h3 rfl) (evJ (by decide) (by decide) h3 rfl) (hmb _) (hK _ _ (hJ.s8 hn))
        rcases i with _ | i
        · obtain rfl := Option.some.inj h
          obtain ⟨v2, h2⟩ := Option.ne_none_iff_exists'.1 (hdep ⟨2, .data⟩ (by simp) rfl)
          obtain ⟨v4, h4⟩ := Option.ne_none_iff_exists'.1 (hdep ⟨4, .data⟩ (by simp) rfl)
          obtain ⟨v6, h6⟩ := Option.ne_none_iff_exists'.1 (hdep ⟨6, .data⟩ (by simp) rfl)
          obtain ⟨v8, h8⟩ := Option.ne_none_iff_exists'.1 (hdep ⟨8, .data⟩ (by simp) rfl)
          obtain ⟨_, a2, c2, rfl⟩ := hJ.a2 _ h2
          obtain ⟨gN, rfl, _⟩ := hJ.a4 _ h4
          obtain ⟨gU, rfl, _⟩ := hJ.a6 _ h6
          obtain ⟨gG, rfl, _⟩ := hJ.a8 _ h8
          exact opBuild rfl (map4 (evJ (by decide) (by decide) h2 rfl) (evJ (by decide) (by decide) h4 rfl) (evJ (by decide) (by decide) h6 rfl) (evJ (by decide) (by decide) h8 rfl)) (run_bb a2 l.length c2 gN gU gG k _) (hK _ _ (hJ.s9 hn h2 h4 h6 h8))
        rcases i with _ | i
        · obtain rfl := Option.some.inj h
          obtain ⟨v9, h9⟩ := Option.ne_none_iff_exists'.1 (hdep ⟨9, .data⟩ (by simp) rfl)
          obtain ⟨v2, v4, v6, v8, h2, h4, h6, h8, rfl⟩ := hJ.a9 _ h9
          obtain ⟨_, a2, c2, rfl⟩ := hJ.a2 _ h2
          obtain ⟨gN, rfl, _⟩ := hJ.a4 _ h4
          obtain ⟨gU, rfl, _⟩ := hJ.a6 _ h6
          obtain ⟨gG, rfl, _⟩ := hJ.a8 _ h8
          exact opBox rfl (evJ (by decide) (by decide) h9 rfl) (run_box a2 l.length c2 gN gU gG k _) (hK _ _ (hJ.s10 hn h2 h4 h6 h8))
        rcases i with _ | i
        · obtain rfl := Option.some.inj h
          obtain ⟨v10, h10⟩ := Option.ne_none_iff_exists'.1 (hdep ⟨10, .data⟩ (by simp) rfl)
          exact opAssign rfl (evJ (by decide) (by decide) h10 rfl) (hK _ _ (hJ.s11 hn h10))
        simp at h
      · intro m wx hJ hall
        obtain ⟨v0, h0⟩ := Option.ne_none_iff_exists'.1 (hall 0 (by decide))
        obtain ⟨v1, h1⟩ := Option.ne_none_iff_exists'.1 (hall 1 (by decide))
        obtain ⟨v2, h2⟩ := Option.ne_none_iff_exists'.1 (hall 2 (by decide))
        obtain ⟨v3, h3⟩ := Option.ne_none_iff_exists'.1 (hall 3 (by decide))
        obtain ⟨v4, h4⟩ := Option.ne_none_iff_exists'.1 (hall 4 (by decide))
        obtain ⟨v5, h5⟩ := Option.ne_none_iff_exists'.1 (hall 5 (by decide))
        obtain ⟨v6, h6⟩ := Option.ne_none_iff_exists'.1 (hall 6 (by decide))
        obtain ⟨v7, h7⟩ := Option.ne_none_iff_exists'.1 (hall 7 (by decide))
        obtain ⟨v8, h8⟩ := Option.ne_none_iff_exists'.1 (hall 8 (by decide))
        obtain ⟨v9, h9⟩ := Option.ne_none_iff_exists'.1 (hall 9 (by decide))
        obtain ⟨v10, h10⟩ := Option.ne_none_iff_exists'.1 (hall 10 (by decide))
        obtain ⟨v11, h11⟩ := Option.ne_none_iff_exists'.1 (hall 11 (by decide))
        obtain ⟨B, gN, gU, gG, vi, rfl, hsta⟩ := hJ.sta (by omega) h11
        have HST := hide hsta
        simp only [frJ, List.foldl_cons, List.foldl_nil, h0, h1, h2, h3, h4, h5, h6, h7, h8, h9, h10, h11, List.setIfInBounds_toArray, List.set_cons_zero, List.set_cons_succ]
        clear hJ hsta hall
        go_wp2_with fail
        go_meet
        case rel => exact ⟨B, gN, gU, gG, vi, rfl, HST.out⟩
    case rest =>
      obtain ⟨B, gN, gU, gG, vi, rfl, hst⟩ := hcut
      have HI0 := hide (show KInv W X ab gc Y Z k tb gP cP gH cH qs ps b C B gN gU gG 0 _ from ⟨_, _, _, _, _, l, 0, 0, vi, _, _, BS.start HRW.out hst, Nat.le_refl _, bki_new k l, fun t => by rw [hcn_new]; simp, by have := HCL.out; show l.length ≤ _; omega, by simp⟩)
      clear hst HRW HB4 HTV4 hmk hmb hpn HTV HTK
      go_wp2_with fail
      go_loopw [12] (fun tt wq => ∃ j : Nat, j ≤ L ∧ tt = .int .i64 (j : Int) ∧ KInv W X ab gc Y Z k tb gP cP gH cH qs ps b C B gN gU gG j wq) (fun tt _ => L - (RowKit.intOf tt).toNat)
      case atStart => exact ⟨0, Nat.zero_le _, rfl, HI0.out⟩
      case round =>
        obtain ⟨j, hjL, rfl, lv, s, vs, gs, ds, row, H, K, vi1, vo1, Kb, hbs, hKj, hbi, hct, hli, hlo⟩ := hrel
        have HBS := hide hbs; have HKJ := hide hKj; have HBI := hide hbi; have HCT := hide hct; have HLI := hide hli; have HLO := hide hlo
        have hW := hbs.rw.rm.bel
        have HBL := hide hW
        clear HI0 hbs hKj hbi hct hli hlo
        by_cases hlt : j < L
        · have hjl : j < ops.length := by rw [← HLn.out]; exact hlt
          have hjj : (j : Int) < (L : Int) := by omega
          have ho : ops[j]? = some ops[j] := List.getElem?_eq_getElem hjl
          have HOO := hide (HOK.out ops[j] (List.getElem_mem hjl))
          obtain ⟨og, oq, ho0, _, hcl⟩ := (HOP.out wr (below_on HBW.out hW)).at j hjl
          subst ho0
          have hoc : ∀ V, Below W.heap.size W V → ∀ m u, (opA ops[j])[m]? = some u → V.cell? ⟨og, oq + j * 4 + m, none⟩ = some u := fun V kb m u hm => by
            obtain ⟨_, _, he, _, h⟩ := (HOP.out V (below_on HBW.out kb)).at j hjl
            simp only [Option.some.injEq, Addr.mk.injEq, and_true] at he
            obtain ⟨rfl, rfl⟩ := he
            exact h m u hm
          generalize hop : ops[j] = op at HOO hoc
          obtain ⟨kd, who, t1, t2⟩ := op
          have HOC := hide (fun V (kb : Below W.heap.size W V) => (⟨hoc V kb 0 _ rfl, hoc V kb 1 _ rfl, hoc V kb 2 _ rfl, hoc V kb 3 _ rfl⟩ : V.cell? ⟨og, oq + j * 4, none⟩ = some (.int .i64 kd) ∧ V.cell? ⟨og, oq + j * 4 + 1, none⟩ = some (.int .i64 who) ∧ V.cell? ⟨og, oq + j * 4 + 2, none⟩ = some (.int .u64 t1) ∧ V.cell? ⟨og, oq + j * 4 + 3, none⟩ = some (.int .u64 t2)))
          simp only at HOO
          clear hop ho hcl hoc
          obtain ⟨i, hi'⟩ : ∃ i, i = ixO who k := ⟨_, rfl⟩
          have hik : i < k := by rw [hi']; exact (ixO_lt who hk.1).1
          have hwi := who_ix who hk.1
          rw [← hi'] at hwi
          obtain ⟨q0, q1, q2, q3⟩ := HOC.out wr hW
          have hk0 : ¬ (k : Int) = 0 := by omega
          have hkb : ((k : Int) == 0) = false := by simpa using hk0
          have hii : (i : Int) < (k : Int) := by omega
          obtain ⟨r, hr⟩ : ∃ r, r = who.tmod (k : Int) := ⟨_, rfl⟩
          have hrb : -(k : Int) < r ∧ r < k := by
            rw [hr]
            constructor
            · have := Int.tmod_lt_of_pos (-who) (show (0 : Int) < k by omega)
              rw [Int.neg_tmod] at this; omega
            · exact Int.tmod_lt_of_pos _ (by omega)
          rw [← hr] at hwi
          have hrr : who.tmod (k : Int) = r := hr.symm
          have hrw1 : IntKind.i64.wrap r = r := IntWalk.i64_in _ (by omega)
          have hrw2 : IntKind.i64.wrap (r + (k : Int)) = r + (k : Int) := IntWalk.i64_in _ (by omega)
          clear hi' hr hW
          go_upto_if 64 with fail
          go_cut [13] from 56 to 67 (fun a wx => a = .int .i64 (i : Int) ∧ wr = wx)
          case first =>
            by_cases hr0 : r < 0
            · have hri : r + (k : Int) = (i : Int) := by rw [if_pos hr0] at hwi; exact hwi
              clear hwi
              go_wp2_with fail
              go_meet
              case rel => exact ⟨rfl, rfl⟩
            · have hri : r = (i : Int) := by rw [if_neg hr0] at hwi; exact hwi
              subst hri
              clear hwi hrb hrw2
              go_wp2_with fail
              go_meet
              case rel => exact ⟨rfl, rfl⟩
          case rest =>
            obtain ⟨rfl, rfl⟩ := hcut
            clear hwi hrb hrr hrw1 hrw2
            have HACT := hide (rw_act HBS.out.rw hik kd who (t1, t2) (by have := HKJ.out; have := HLL.out; omega) HOO.out.1 HOO.out.2)
            go_wp2_with fail
            refine HACT.out.mono ?_
            rintro e wa ⟨rfl, lv', vs', gs', hrw', hkp, hvf⟩
            have HBA := hide (HBS.out.act hrw' hkp hvf)
            have HEN := hide (fun V (kb : Below wa.heap.size wa V) => by
              obtain ⟨pl, hri⟩ := HBS.out.rw.ri
              exact enter_all HBI.out HCT.out (by have := HLI.out; have := HLL.out; omega) (by have := HLO.out; have := HLL.out; omega) hri hik kd who t1 t2 (HBA.out.below kb))
            have HRI : Hid (∃ pl, RI b C (actS s i b C kd (ds i)).cells k (upd ds i (actD s b C kd (t1, t2) (ds i))) (actR s b C kd (ds i) row) (actH s b C kd (ds i) H) pl) := hide hrw'.ri
            obtain ⟨x2, x3, x4, x5, x6⟩ := HBA.out.rw.rm.cells hik
            obtain ⟨q0, q1, q2, q3⟩ := HOC.out wa HBA.out.rw.rm.bel
            generalize actE kd (t1, t2) (ds i) = E at HEN ⊢
            generalize hs1 : actS s i b C kd (ds i) = s1 at HBA HEN HRI
            generalize hd1 : upd ds i (actD s b C kd (t1, t2) (ds i)) = ds1 at HBA HEN HRI
            generalize hr1 : actR s b C kd (ds i) row = row1 at HBA HEN HRI
            generalize hH1 : actH s b C kd (ds i) H = H1 at HBA HEN HRI
            clear hrw' hkp hvf HACT HBS HBI HCT hs1 hd1 hr1 hH1
            go_upto_region 15 with fail
            refine wp_region_noPanic ?_
            go_region_held3 (fun x => x.cell? ⟨X, 4, none⟩ = some (.slice (some ⟨gH, 0, none⟩) k cH) ∧ x.cell? ⟨gH, i, none⟩ = some (.pointer (some ⟨qs i, 0, none⟩)) ∧ x.cell? ⟨og, oq + j * 4, none⟩ = some (.int .i64 kd) ∧ x.cell? ⟨og, oq + j * 4 + 1, none⟩ = some (.int .i64 who) ∧ x.cell? ⟨og, oq + j * 4 + 2, none⟩ = some (.int .u64 t1) ∧ x.cell? ⟨og, oq + j * 4 + 3, none⟩ = some (.int .u64 t2)) (first | exact ⟨x4, x6, q0, q1, q2, q3⟩ | exact ⟨z4, z6, z0, z1, z2, z3⟩ | go_keep)
              (first
                | (go_at_call 18; refine (HEN.out _ (below_drew (Below.refl _ _))).mono ?_; rintro e w5 hko; obtain ⟨rfl, vi2, vo2, Kc, hb5, hi5, hc5, l5, l6⟩ := hko; have HB5 := hide hb5; have HI5 := hide hi5; have HC5 := hide hc5; have HL5 := hide l5; have HL6 := hide l6; obtain ⟨_, _, z4, _, z6⟩ := hb5.rw.rm.cells hik; obtain ⟨z0, z1, z2, z3⟩ := HOC.out w5 hb5.rw.rm.bel; clear hb5 hi5 hc5 l5 l6)
                | fail)
            all_goals
              refine NoPanic.normal ?_
              clear x2 x3 x4 x5 x6 q0 q1 q2 q3 z0 z1 z2 z3 z4 z6 HBA HEN
              obtain ⟨G, hG⟩ : ∃ G, G = fil b C s1.cells C ++ hands b C s1.cells ds1 k := ⟨_, rfl⟩
              have HGE := hide hG
              clear hG
              have HLF := hide (left_any HB5.out.bm G (fun t => by
                obtain ⟨pl, hri⟩ := HRI.out
                rw [HC5.out t, HGE.out, hri.count_held t]; rfl) (by have := HLI.out; have := HL5.out; have := HLL.out; omega) (by have := HLO.out; have := HL6.out; have := HLL.out; omega))
              go_wp2_with fail
              refine HLF.out.mono ?_
              rintro e w6 ⟨u6, rfl, ht6, hb6⟩
              have HB6 := hide (HB5.out.below hb6)
              have HT6 := hide ht6
              obtain ⟨a6, c6, rfl, _⟩ := ht6.tat.shape
              clear ht6 hb6 HLF HB5
              have HIM := hide (fun V (hb : Below w6.heap.size w6 V) => rw_image (HB6.out.rw.below hb))
              obtain ⟨_, _, x2, x4⟩ := HB6.out.rw.cells
              obtain ⟨x0, x1⟩ := HZW.out w6 HB6.out.rw.rm.bel
              go_upto_region 18 with fail
              refine wp_region_noPanic ?_
              go_region_held3 (fun x => x.cell? ⟨w.heap.size, 0, none⟩ = some (.int .i64 b) ∧ x.cell? ⟨w.heap.size, 1, none⟩ = some (.int .i64 C) ∧ x.cell? ⟨X, 2, none⟩ = some (.pointer (some ⟨ab, 0, none⟩)) ∧ x.cell? ⟨X, 4, none⟩ = some (.slice (some ⟨gH, 0, none⟩) k cH)) (first | exact ⟨x0, x1, x2, x4⟩ | exact ⟨y0, y1, y2, y4⟩ | exact ⟨z0, z1, z2, z4⟩ | go_keep)
                (first
                  | (go_at_call 15; refine (HIM.out _ (below_drew (Below.refl _ _))).mono ?_; rintro e w7 ⟨v', rfl, ho, hrw, hk7⟩; have HRW2 := hide hrw; have HO := hide ho; have HK2 := hide ((Kp.of_below (below_drew (Below.refl w6.heap.size w6))).trans hk7); obtain ⟨y0, y1⟩ := HZW.out w7 hrw.rm.bel; obtain ⟨_, _, y2, y4⟩ := hrw.cells; obtain ⟨o2, c2, rfl⟩ := owns_shape ho; clear ho hrw hk7)
                  | (go_at_call 20; refine (rw_held HRW2.out (own_zero HO.out)).mono ?_; rintro e w8 ⟨u3, rfl, ht3, hb3⟩; have HT3 := hide ht3; have HB3 := hide hb3; obtain ⟨z0, z1⟩ := HZW.out w8 (below_on HRW2.out.rm.bel hb3); obtain ⟨_, _, z2, z4⟩ := (HRW2.out.below hb3).cells; obtain ⟨a3, c3, rfl, _⟩ := ht3.tat.shape; clear ht3 hb3)
                  | fail)
              all_goals
                refine NoPanic.normal ?_
                have HB8 := hide ((HB6.out.act HRW2.out HK2.out (VF.refl _ _)).below HB3.out)
                have HT8 := hide (show TOwn w8 W.heap.size (.slice a6 (srt G).length c6) (srt G) from (HK2.out.trans (Kp.of_below HB3.out)).row HT6.out (by unfold pT; decide))
                rw [← HGE.out] at HT3
                rw [← HGE.out]
                clear x0 x1 x2 x4 y0 y1 y2 y4 z0 z1 z2 z4 HRW2 HIM HO HB6 HT6 HK2 HB3
                go_wp2_with (go_at_call 21; refine (sameTasks_any _ _ (srt G) _ HT3.out.tat HT8.out.tat).mono ?_; rintro e w9 ⟨rfl, hb9⟩; have HB9 := hide (HB8.out.below hb9); clear hb9)
                exact ⟨⟨j + 1, hlt, by simp, ⟨_, _, _, _, _, row1, H1, _, _, _, Kc, HB9.out, by have := HKJ.out; omega, HI5.out, HC5.out, by have := HLI.out; have := HL5.out; omega, by have := HLO.out; have := HL6.out; omega⟩⟩, mdecR hlt⟩
        · obtain rfl : j = L := by omega
          obtain ⟨G, hG⟩ : ∃ G, G = fil b C s.cells C ++ hands b C s.cells ds k := ⟨_, rfl⟩
          have HGE := hide hG
          clear hG
          have HRI : Hid (∃ pl, RI b C s.cells k ds row H pl) := hide HBS.out.rw.ri
          have HIM := hide (fun V (hb : Below wr.heap.size wr V) => rw_image (HBS.out.rw.below hb))
          obtain ⟨_, _, x2, x4⟩ := HBS.out.rw.cells
          obtain ⟨x0, x1⟩ := HZW.out wr HBS.out.rw.rm.bel
          go_upto_region 21 with fail
          refine wp_region_noPanic ?_
          go_region_held3 (fun x => x.cell? ⟨w.heap.size, 0, none⟩ = some (.int .i64 b) ∧ x.cell? ⟨w.heap.size, 1, none⟩ = some (.int .i64 C) ∧ x.cell? ⟨X, 2, none⟩ = some (.pointer (some ⟨ab, 0, none⟩)) ∧ x.cell? ⟨X, 4, none⟩ = some (.slice (some ⟨gH, 0, none⟩) k cH)) (first | exact ⟨x0, x1, x2, x4⟩ | exact ⟨y0, y1, y2, y4⟩ | exact ⟨z0, z1, z2, z4⟩ | go_keep)
            (first
              | (go_at_call 15; refine (HIM.out _ (below_drew (Below.refl _ _))).mono ?_; rintro e w7 ⟨v', rfl, ho, hrw, hk7⟩; have HRW2 := hide hrw; have HO := hide ho; have HK2 := hide ((Kp.of_below (below_drew (Below.refl wr.heap.size wr))).trans hk7); obtain ⟨y0, y1⟩ := HZW.out w7 hrw.rm.bel; obtain ⟨_, _, y2, y4⟩ := hrw.cells; obtain ⟨o2, c2, rfl⟩ := owns_shape ho; clear ho hrw hk7)
              | (go_at_call 20; refine (rw_held HRW2.out (own_zero HO.out)).mono ?_; rintro e w8 ⟨u3, rfl, ht3, hb3⟩; have HT3 := hide ht3; have HB3 := hide hb3; obtain ⟨z0, z1⟩ := HZW.out w8 (below_on HRW2.out.rm.bel hb3); obtain ⟨_, _, z2, z4⟩ := (HRW2.out.below hb3).cells; obtain ⟨a3, c3, rfl, _⟩ := ht3.tat.shape; clear ht3 hb3)
              | fail)
          all_goals
            refine NoPanic.normal ?_
            have HB8 := hide ((HBS.out.act HRW2.out HK2.out (VF.refl _ _)).below HB3.out)
            rw [← HGE.out] at HT3
            rw [← HGE.out]
            have HLF := hide (left_any HB8.out.bm G (fun t => by
              obtain ⟨pl, hri⟩ := HRI.out
              rw [HCT.out t, HGE.out, hri.count_held t]; rfl) (by have := HLI.out; have := HLL.out; omega) (by have := HLO.out; have := HLL.out; omega))
            clear x0 x1 x2 x4 y0 y1 y2 y4 z0 z1 z2 z4 HRW2 HIM HO HBS HK2 HB3
            go_wp2_with fail
            refine HLF.out.mono ?_
            rintro e w6 ⟨u6, rfl, ht6, hb6⟩
            have HB6 := hide (HB8.out.below hb6)
            have HT6 := hide ht6
            have HT9 := hide (HT3.out.below hb6)
            obtain ⟨a6, c6, rfl, _⟩ := ht6.tat.shape
            clear ht6 hb6 HLF
            go_wp2_with (go_at_call 21; refine (sameTasks_any _ _ (srt G) _ HT9.out.tat HT6.out.tat).mono ?_; rintro e w9 ⟨rfl, hb9⟩; have HB9 := hide (HB6.out.below hb9); clear hb9)
            go_ret
            exact ⟨rfl, below_on HBW.out HB9.out.rw.rm.bel⟩
  · rw [show decide (errR b C l = 0) = false by simpa using he] at HF
    have HRL := hide (fun V (kb : Below w.heap.size w V) => ring_law b C n _ l V (HTV.out V kb) htk (by omega))
    unfold qAgg at HRL
    rw [hW] at a0 a1
    clear hops htv hbW he htk hok
    go_enter Tryz.func4, Tryz.ntmps4
    go_wp2_with fail
    rw [← hW]
    clear hW a0 a1
    refine HF.out.mono ?_
    rintro e w2 ⟨rfl, hb2⟩
    have HB2 := hide (below_on HBW.out hb2)
    have hz2 := (hb2.block _ (lt_of_heap HZ.out)).trans HZ.out
    have a0 := cell_of hz2 (i := 0) rfl; have a1 := cell_of hz2 (i := 1) rfl
    clear hb2 hz2 HF HZ HBW
    go_wp2_with fail
    refine (HRL.out _ HB2.out).mono ?_
    rintro e w3 ⟨rfl, hb3⟩
    have HB3 := hide (below_on HB2.out hb3)
    clear hb3
    go_wp2_with fail
    go_ret
    exact ⟨rfl, HB3.out⟩
end Go.Proofs.YtgjdjdgondpjeaaGreat
