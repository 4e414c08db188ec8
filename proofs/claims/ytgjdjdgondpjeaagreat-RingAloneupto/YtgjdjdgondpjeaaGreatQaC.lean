/- RingAlone: the walk. -/
import Derived.Test.YtgjdjdgondpjeaaGreatFiB
import Derived.Test.YtgjdjdgondpjeaaGreatQaA
import Derived.Test.YtgjdjdgondpjeaaGreatBkP
import Derived.Deep.RegionHeld3
import Derived.Deep.RegionWith
import Derived.Deep.Cut
import Derived.BigQuiet
import Derived.Deep.QuietTactic
namespace Go.Proofs.YtgjdjdgondpjeaaGreat
open Go.RowKit Go.Lib
set_option linter.unusedVariables false
set_option linter.unusedSimpArgs false
def AInv (w : World) (X ab gc Y Z k : Nat) (tb : Array Value) (gP cP gH cH : Nat) (qs ps : Nat → Nat) (b C j : Nat) (rv : Value) (wq : World) : Prop :=
  ∃ (lv : Value) (s : Ast) (vs : Nat → Value) (gs : Nat → Bool) (ds : Nat → Hs) (row : List Tk) (H : Int) (K : Nat), RW w wq X ab gc Y Z k tb lv s gP cP gH cH qs ps vs gs ds b C K row H ∧ K ≤ 9 * j ∧ (∀ i, i < k → (ds i).ph = 0) ∧ TQ w.heap.size wq rv (row.drop H.toNat) ∧ (∀ q, tqb rv q → ∀ i, i < k → (vs i).ownBlock ≠ some q) ∧ wq.heap[w.heap.size]? = some (.cells #[.int .i64 (b : Int), .int .i64 (C : Int)] 23 (0, 0))
def OpA (C : Nat) (kd : Int) (t : Tk) (row row' : List Tk) (H H' : Int) (d : Hs) : Prop := (kd = 1 → InsA C t row row' H H' d) ∧ (kd = 2 → TakA row row' H H' d)
def BInv (w : World) (X ab gc Y Z k : Nat) (tb : Array Value) (gP cP gH cH : Nat) (qs ps : Nat → Nat) (b C j i : Nat) (kd : Int) (t : Tk) (row : List Tk) (H : Int) (lr : List Tk) (rv : Value) (bo m : Nat) (wq : World) : Prop :=
  ∃ (lv : Value) (s : Ast) (vs : Nat → Value) (gs : Nat → Bool) (ds : Nat → Hs) (row' : List Tk) (H' : Int) (K : Nat), RW w wq X ab gc Y Z k tb lv s gP cP gH cH qs ps vs gs ds b C K row' H' ∧ K ≤ 9 * j + 1 + m ∧ (∀ q, q < k → q ≠ i → (ds q).ph = 0) ∧ (OpA C kd t row row' H H' (ds i) ∧ m + remS (ds i).ph ≤ 8 ∧ (ds i).ph ≤ 12) ∧ TQ w.heap.size wq rv lr ∧ (∀ q, tqb rv q → ∀ p, p < k → (vs p).ownBlock ≠ some q) ∧ (∃ who : Int, wq.heap[bo]? = some (.cells #[.int .i64 kd, .int .i64 who, .int .u64 t.1, .int .u64 t.2] 44 (0, 0))) ∧ wq.heap[w.heap.size]? = some (.cells #[.int .i64 (b : Int), .int .i64 (C : Int)] 23 (0, 0))
set_option maxRecDepth 100000 in
set_option maxHeartbeats 8000000 in
theorem alone_law (b C n : Int) (tv : Value) (l : List Tk) (ov : Value) (ops : List OpR) (w : World) (htv : TAt w tv l) (htk : Tok l) (hops : RAt opA 4 w ov ops) (hok : OpsOk ops) (hlen : ops.length ≤ 1048576) (hl20 : l.length ≤ 1048576) :
    Calls Tryz.prog 6 #[qAgg b C, tv, .int .i64 n, ov] w fun e w' => e = .returned (.bool true) ∧ Below w.heap.size w w' := by
  obtain ⟨W, hW⟩ : ∃ W, W = w.alloc (.cells #[.int .i64 b, .int .i64 C] 23) := ⟨_, rfl⟩
  have hbW : Below w.heap.size w W := by rw [hW]; exact below_alloc (Below.refl _ _) _
  have HBW := hide hbW
  have HZ := hide (show W.heap[w.heap.size]? = some (.cells #[.int .i64 b, .int .i64 C] 23 (0, 0)) by rw [hW]; exact heap_new _ _)
  have HF := hide (fits_any b C tv l W (htv.below hbW) htk)
  obtain ⟨oo, oc, rfl, hoc, hoc2⟩ := hops.shape
  obtain ⟨ta, tc, rfl, htc, _⟩ := htv.shape
  have HOP := hide (fun V (k : Below w.heap.size w V) => hops.below k)
  have HTV := hide (fun V (k : Below w.heap.size w V) => htv.below k)
  have a0 := cell_of HZ.out (i := 0) rfl; have a1 := cell_of HZ.out (i := 1) rfl
  unfold qAgg at HF ⊢
  by_cases he : errR b C l = 0
  · rw [show decide (errR b C l = 0) = true by simpa using he] at HF
    obtain ⟨b, C, rfl, rfl, hC1, hC2, hbm, hnv, hlc⟩ := errR_zero he
    have hk := hN_le n
    obtain ⟨k, hkk⟩ : ∃ k, k = hN n := ⟨_, rfl⟩
    rw [← hkk] at hk
    have HHN := hide (fun V => handles_any n V)
    rw [← hkk] at HHN
    have HLY := hide (fun V (kb : Below w.heap.size w V) => lay_any b C k _ l V (HTV.out V kb) htk hC1 hC2 hbm hnv hlc (by omega))
    have HTK := hide htk
    have HCL := hide (show 2 ≤ C ∧ C ≤ 65536 ∧ l.length ≤ C from ⟨hC1, hC2, hlc⟩)
    have HOK := hide hok
    have HBM := hide hbm
    unfold qAgg at HLY
    obtain ⟨L, hL⟩ : ∃ L, L = ops.length := ⟨_, rfl⟩
    have HLn := hide hL
    rw [← hL] at hlen hoc HOP ⊢
    rw [hW] at a0 a1
    clear hops htv hbW he hnv hlc hkk htk hok hL hbm htc
    go_enter Tryz.func6, Tryz.ntmps6
    go_wp2_with fail
    rw [← hW]
    clear hW a0 a1
    refine HF.out.mono ?_
    rintro e w2 ⟨rfl, hb2⟩
    have HB2 := hide (below_on HBW.out hb2)
    have hz2 := (hb2.block _ (lt_of_heap HZ.out)).trans HZ.out
    have HZ2 := hide hz2
    have a0 := cell_of hz2 (i := 0) rfl; have a1 := cell_of hz2 (i := 1) rfl
    clear hb2 hz2 HF HZ HBW
    go_wp2_with (go_at_call 11; refine (HHN.out _).mono ?_; rintro e w3 ⟨rfl, rfl⟩)
    refine (HLY.out _ HB2.out).mono ?_
    rintro e w4 ⟨X, ab, gc, rb, rc, Y, Y2, Z, vP, vH, vG, qs, ps, rs, rfl, hll⟩
    obtain ⟨gP, cP, rfl⟩ := own_spot hll.rp (by omega)
    obtain ⟨gH, cH, rfl⟩ := own_spot hll.rh (by omega)
    obtain ⟨i0, hi, hz0, hz1, hz2⟩ := info_parts Tryz.info42
    have HRM := hide ((hll.rm ⟨hk.1, by omega⟩ HTK.out hC1 hC2 HCL.out.2.2).base HB2.out)
    generalize htb : tb0 b C ab rb (.slice (some ⟨gP, 0, none⟩) k cP) (.slice (some ⟨gH, 0, none⟩) k cH) vG = tb at HRM
    have HRW := hide (show RW w w4 X ab gc Y Z k tb (.slice none 0 0) (s0 b C l) gP cP gH cH qs ps (fun _ => .slice none 0 0) (fun _ => false) (fun _ => Hs.new) b C 0 l 0 from ⟨HRM.out, ⟨_, RI.start hC1 hC2 HCL.out.2.2 rfl⟩, rfl, by have := HCL.out; omega, by rw [← htb]; exact ⟨rfl, rfl⟩⟩)
    have HB4 := hide (HRW.out.rm.bel)
    have HZ4 := hide ((hll.bel.block _ (lt_of_heap HZ2.out)).trans HZ2.out)
    have hpn : ∀ w, (binOp .eql 28 (.pointer (some ⟨X, 0, none⟩)) (.pointer none)).run Tryz.prog w = .ok (.bool false) w := fun w => rfl
    have hmk := make_tk k (by omega)
    have HW4 := hide (show w.heap.size ≤ w4.heap.size from HB4.out.size)
    clear hll HRM htb HZ2 HLY HHN HB2 a0 a1
    go_wp2_with (at_builtin; refine wpList_freshT rfl (.tmp 35) (.tmp 36) 24 rfl 42 i0 (.agg #[.int .u64 0, .int .u64 0]) Tryz.underlying24 hi hz0 hz1 hz2 rfl w4.heap.size w4.heap.size (own_new2 _ 42 w4.heap.size rfl) (by simp) _ l rfl rfl (HTV.out _ (below_alloc HB4.out _)) (by omega) (by unfold maxLen; omega) ?_; intro v5 w5 hownA hbelA; have HOA := hide (show TOwn w5 w4.heap.size v5 l from hownA); have HB5 := hide (below_on (below_alloc (Below.refl w4.heap.size w4) _) hbelA); obtain ⟨a5, c5, h5⟩ : ∃ a5 c5, v5 = .slice a5 l.length c5 := owns_shape hownA; subst h5; clear hownA hbelA)
    have HI0 := hide (show AInv w X ab gc Y Z k tb gP cP gH cH qs ps b C 0 (.slice a5 l.length c5) w5 from by
      have h4 := HW4.out
      have ht := TQ.of_own (lo := w4.heap.size) (town_rown HOA.out)
      refine ⟨_, _, _, _, _, l, 0, 0, HRW.out.below HB5.out, Nat.zero_le _, fun _ _ => rfl, ht.low h4, (fun q hq i hi e => by cases e), (HB5.out.block _ (lt_of_heap HZ4.out)).trans HZ4.out⟩)
    clear HRW HOA HB5 HB4 HZ4 HW4 hmk hpn HTV HTK
    go_loopw [11, 12] (fun rv tt wq => ∃ j : Nat, j ≤ L ∧ tt = .int .i64 (j : Int) ∧ AInv w X ab gc Y Z k tb gP cP gH cH qs ps b C j rv wq) (fun _ tt _ => L - (RowKit.intOf tt).toNat)
    case atStart => exact ⟨0, Nat.zero_le _, rfl, HI0.out⟩
    case round =>
      obtain ⟨j, hjL, rfl, lv, s, vs, gs, ds, row, H, K, hrw, hKj, hrest, htq, hdis, hrb⟩ := hrel
      obtain ⟨lr, hlr⟩ : ∃ lr, lr = row.drop H.toNat := ⟨_, rfl⟩
      have HLR := hide hlr
      rw [← hlr] at htq
      clear hlr
      have HRW := hide hrw; have HRE := hide hrest; have HTQ := hide htq; have HDI := hide hdis; have HKJ := hide hKj; have HRB := hide hrb
      have hW := hrw.rm.bel
      have HBL := hide hW
      obtain ⟨av, cv, rfl, hcv⟩ := htq.shape
      clear HI0 hrw hrest htq hdis hKj hrb
      by_cases hlt : j < L
      · have hjl : j < ops.length := by rw [← HLn.out]; exact hlt
        have hjj : (j : Int) < (L : Int) := by omega
        have ho : ops[j]? = some ops[j] := List.getElem?_eq_getElem hjl
        have HOO := hide (HOK.out ops[j] (List.getElem_mem hjl))
        obtain ⟨og, oq, ho0, _, hcl⟩ := (HOP.out wr hW).at j hjl
        subst ho0
        have hoc : ∀ V, Below w.heap.size w V → ∀ m u, (opA ops[j])[m]? = some u → V.cell? ⟨og, oq + j * 4 + m, none⟩ = some u := fun V kb m u hm => by
          obtain ⟨_, _, he, _, h⟩ := (HOP.out V kb).at j hjl
          simp only [Option.some.injEq, Addr.mk.injEq, and_true] at he
          obtain ⟨rfl, rfl⟩ := he
          exact h m u hm
        generalize hop : ops[j] = op at HOO hoc
        obtain ⟨kd, who, t1, t2⟩ := op
        have HOC := hide (fun V (kb : Below w.heap.size w V) => (⟨hoc V kb 0 _ rfl, hoc V kb 1 _ rfl, hoc V kb 2 _ rfl, hoc V kb 3 _ rfl⟩ : V.cell? ⟨og, oq + j * 4, none⟩ = some (.int .i64 kd) ∧ V.cell? ⟨og, oq + j * 4 + 1, none⟩ = some (.int .i64 who) ∧ V.cell? ⟨og, oq + j * 4 + 2, none⟩ = some (.int .u64 t1) ∧ V.cell? ⟨og, oq + j * 4 + 3, none⟩ = some (.int .u64 t2)))
        simp only at HOO
        clear hop ho hcl hoc
        obtain ⟨i, hi'⟩ : ∃ i, i = ixO who k := ⟨_, rfl⟩
        have hik : i < k := by rw [hi']; exact (ixO_lt who hk.1).1
        have hwi := who_ix who hk.1
        rw [← hi'] at hwi
        obtain ⟨q0, q1, q2, q3⟩ := HOC.out wr hW
        have hk0 : ¬ (k : Int) = 0 := by omega
        have hkb : ((k : Int) == 0) = false := by simpa using hk0
        have hii : (i : Int) < (k : Int) := by omega
        obtain ⟨r, hr⟩ : ∃ r, r = who.tmod (k : Int) := ⟨_, rfl⟩
        have hrb : -(k : Int) < r ∧ r < k := by
          rw [hr]
          constructor
          · have := Int.tmod_lt_of_pos (-who) (show (0 : Int) < k by omega)
            rw [Int.neg_tmod] at this; omega
          · exact Int.tmod_lt_of_pos _ (by omega)
        rw [← hr] at hwi
        have hrr : who.tmod (k : Int) = r := hr.symm
        have hrw1 : IntKind.i64.wrap r = r := IntWalk.i64_in _ (by omega)
        have hrw2 : IntKind.i64.wrap (r + (k : Int)) = r + (k : Int) := IntWalk.i64_in _ (by omega)
        clear hi' hr hW
        go_upto_if 52 with fail
        go_cut [13] from 44 to 59 (fun a wx => a = .int .i64 (i : Int) ∧ wr = wx)
        case first =>
          by_cases hr0 : r < 0
          · have hri : r + (k : Int) = (i : Int) := by rw [if_pos hr0] at hwi; exact hwi
            clear hwi
            go_wp2_with fail
            go_meet
            case rel => exact ⟨rfl, rfl⟩
          · have hri : r = (i : Int) := by rw [if_neg hr0] at hwi; exact hwi
            subst hri
            clear hwi hrb hrw2
            go_wp2_with fail
            go_meet
            case rel => exact ⟨rfl, rfl⟩
        case rest =>
          obtain ⟨rfl, rfl⟩ := hcut
          clear hwi hrb hrr hrw1 hrw2
          go_upto_region 15 with fail
          obtain ⟨wo, hwo⟩ : ∃ wo, wo = wr.alloc (.cells #[.int .i64 kd, .int .i64 who, .int .u64 t1, .int .u64 t2] 44) := ⟨_, rfl⟩
          rw [← hwo]
          have hbo : Below wr.heap.size wr wo := by rw [hwo]; exact below_alloc (Below.refl _ _) _
          have hzo : wo.heap[wr.heap.size]? = some (.cells #[.int .i64 kd, .int .i64 who, .int .u64 t1, .int .u64 t2] 44 (0, 0)) := by rw [hwo]; exact heap_new _ _
          have HBO := hide hbo; have HZO := hide hzo
          have o0 := cell_of hzo (i := 0) rfl; have o1 := cell_of hzo (i := 1) rfl; have o2 := cell_of hzo (i := 2) rfl; have o3 := cell_of hzo (i := 3) rfl
          obtain ⟨sk, hsk⟩ : ∃ sk : Bool, sk = decide (¬ ((kd = 1 ∧ t1 ≠ Nev) ∨ kd = 2)) := ⟨_, rfl⟩
          clear hwo hbo hzo q0 q1 q2 q3
          have HSK := hide hsk
          go_cut [78] from 60 to 77 (fun c wx => c = .bool sk ∧ wo = wx)
          case first =>
            by_cases hk1 : kd = 1
            · subst hk1
              by_cases hn : t1 = 18446744073709551615
              · subst hn
                have e : sk = true := by rw [hsk]; simp [Nev]
                clear hsk
                subst e
                go_wp2_with fail
                go_meet
                case rel => exact ⟨rfl, rfl⟩
              · have e : sk = false := by rw [hsk]; simp [Nev, hn]
                have hn2 : (t1 == 18446744073709551615) = false := by simpa using hn
                clear hsk
                subst e
                go_wp2_with fail
                go_meet
                case rel => exact ⟨rfl, rfl⟩
            · have hb1 : (kd != 1) = true := by simpa using hk1
              have hb1b : (kd == 1) = false := by simpa using hk1
              by_cases hk2 : kd = 2
              · have e : sk = false := by rw [hsk]; simp [hk2]
                subst hk2
                clear hsk hk1
                subst e
                go_wp2_with fail
                go_meet
                case rel => exact ⟨rfl, rfl⟩
              · have e : sk = true := by rw [hsk]; simp [hk1, hk2]
                have hb2 : (kd != 2) = true := by simpa using hk2
                clear hsk hk1 hk2
                subst e
                go_wp2_with fail
                go_meet
                case rel => exact ⟨rfl, rfl⟩
          case rest =>
            obtain ⟨rfl, rfl⟩ := hcut
            clear hsk
            cases sk with
            | true =>
              clear o0 o1 o2 o3
              go_wp2_with fail
              exact ⟨⟨j + 1, hlt, by simp, _, _, _, _, _, row, H, K, HRW.out.below HBO.out, by have := HKJ.out; omega, HRE.out, by rw [← HLR.out]; exact HTQ.out.kp (Kp.of_below HBO.out), HDI.out, (HBO.out.block _ (lt_of_heap HRB.out)).trans HRB.out⟩, mdecR hlt⟩
            | false =>
              have HOPK : Hid ((kd = 1 ∧ t1 ≠ Nev) ∨ kd = 2) := hide (by
                have h := HSK.out
                by_cases q : (kd = 1 ∧ t1 ≠ Nev) ∨ kd = 2
                · exact q
                · rw [decide_eq_true q] at h; cases h)
              have HACT := hide (rw_act (HRW.out.below HBO.out) hik kd who (t1, t2) (by have := HKJ.out; omega) HOO.out.1 HOO.out.2)
              have HAE : Hid (actE kd (t1, t2) (ds i) = 0) := hide (by
                unfold actE
                have h0 := HRE.out i hik
                rcases HOPK.out with ⟨h1, h2⟩ | h1
                · rw [if_pos h1, if_neg (by simpa using h0), if_neg h2]
                · rw [if_neg (by omega), if_pos h1, if_neg (by simpa using h0)])
              rw [HAE.out] at HACT
              go_wp2_with fail
              refine HACT.out.mono ?_
              rintro e wa ⟨rfl, lv', vs', gs', hrw', hkp, hvf⟩
              have HK3 : Hid (¬ (kd = 3 ∧ (ds i).ph ≠ 0)) := hide (by rcases HOPK.out with ⟨h1, h2⟩ | h1 <;> omega)
              rw [show actR s b C kd (ds i) row = row from if_neg HK3.out, show actH s b C kd (ds i) H = H from if_neg HK3.out] at hrw'
              have HI1 : Hid (BInv w X ab gc Y Z k tb gP cP gH cH qs ps b C j i kd (t1, t2) row H lr (.slice av lr.length cv) wr.heap.size 0 wa) := hide (by
                refine ⟨lv', _, vs', gs', _, row, H, _, hrw', by have := HKJ.out; omega, fun q hq hn => by rw [upd_other _ _ hn]; exact HRE.out q hq, ?_, HTQ.out.kp ((Kp.of_below HBO.out).trans hkp), fun q hq p hp e => ?_, ?_, hkp.2 _ _ _ ((HBO.out.block _ (lt_of_heap HRB.out)).trans HRB.out) (by unfold pT; decide)⟩
                · rw [upd_same]
                  have h0 := HRE.out i hik
                  unfold actD
                  rcases HOPK.out with ⟨h1, h2⟩ | h1
                  · rw [if_pos h1, if_pos ⟨h0, h2⟩]
                    exact ⟨⟨fun _ => ⟨rfl, .inl ⟨Nat.le_refl _, by show 1 ≤ 3; decide, rfl, rfl, fun q => absurd (show 2 ≤ 1 from q) (by decide), fun q => absurd (show 1 = 3 from q) (by decide)⟩⟩, fun q => by omega⟩, by show 0 + remS 1 ≤ 8; decide, by show 1 ≤ 12; decide⟩
                  · rw [if_neg (by omega), if_pos h1, if_pos h0]
                    exact ⟨⟨fun q => by omega, fun _ => ⟨rfl, .inl ⟨Nat.le_refl _, by show 7 ≤ 9; decide, rfl, fun q => absurd (show 8 ≤ 7 from q) (by decide), fun q => absurd (show 7 = 9 from q) (by decide)⟩⟩⟩, by show 0 + remS 7 ≤ 8; decide, by show 7 ≤ 12; decide⟩
                · rcases hvf p q e with h | h
                  · exact HDI.out q hq p hp h
                  · obtain ⟨_, cs, hh⟩ := HTQ.out.blk hq
                    have := lt_of_heap hh
                    have := HBO.out.size
                    omega
                · exact ⟨who, hkp.2 _ _ _ HZO.out (by unfold pT; decide)⟩)
              have HH0 : Hid (0 ≤ H ∧ H ≤ (row.length : Int)) := hide (by obtain ⟨pl, hri⟩ := HRW.out.ri; exact hri.h0)
              have HLL : Hid (lr.length = row.length - H.toNat) := hide (by rw [HLR.out, List.length_drop])
              generalize wr.heap.size = bo at HI1 ⊢
              clear hrw' hkp hvf HRW HRE HTQ HDI HKJ HRB HBL HBO HZO HACT HAE HK3 o0 o1 o2 o3
              go_wp2_with fail
              go_loopw [15] (fun sv wq => ∃ m : Nat, m ≤ 8 ∧ sv = .int .i64 (m : Int) ∧ BInv w X ab gc Y Z k tb gP cP gH cH qs ps b C j i kd (t1, t2) row H lr (.slice av lr.length cv) bo m wq) (fun sv _ => 8 - (RowKit.intOf sv).toNat)
              case atStart => exact ⟨0, by omega, rfl, HI1.out⟩
              case round =>
                obtain ⟨m, hm8, rfl, lv2, s2, vs2, gs2, ds2, row2, H2, K2, hrw2, hK2, hre2, ⟨hop2, hrm2, hph2⟩, htq2, hdi2, ⟨who2, hbo2⟩, hrb2⟩ := hrel
                have HRW := hide hrw2; have HRE := hide hre2; have HTQ := hide htq2; have HDI := hide hdi2; have HKJ := hide hK2; have HOA := hide hop2; have HRM := hide hrm2; have HPH := hide hph2; have HBX := hide hbo2; have HRB := hide hrb2
                obtain ⟨x2, x3, x4, x5, x6⟩ := hrw2.rm.cells hik
                have HOV := hide (rm_over hrw2.rm hik)
                have b0 := cell_of hbo2 (i := 0) rfl
                clear hrw2 hK2 hre2 hop2 hrm2 hph2 htq2 hdi2 hbo2 hrb2 HI1
                by_cases h8 : m < 8
                · by_cases h0 : (ds2 i).ph = 0
                  · rw [show decide ((ds2 i).ph = 0) = true by simpa using h0] at HOV
                    have H0 := hide h0
                    clear h0
                    have h8b : (m : Int) < 8 := by omega
                    go_wp2_with (go_at_call 22; refine HOV.out.mono ?_; rintro e w7 ⟨rfl, rfl⟩)
                    refine (rm_reply HRW.out.rm hik).mono ?_
                    rintro e w8 ⟨hb8, u, rfl, hu⟩
                    obtain ⟨au, cu, rfl⟩ := owns_shape hu
                    have HRW8 := hide (HRW.out.below hb8)
                    have HTQ8 := hide (HTQ.out.kp (Kp.of_below hb8))
                    have HBX8 := hide ((hb8.block _ (lt_of_heap HBX.out)).trans HBX.out)
                    have HRB8 := hide ((hb8.block _ (lt_of_heap HRB.out)).trans HRB.out)
                    have HU8 := hide hu
                    clear hb8 hu HRW HTQ HBX HRB HOV HRM HPH b0 x2 x3 x4 x5 x6
                    go_upto_region 26 with fail
                    obtain ⟨st, hst⟩ : ∃ st, st = (ds2 i).st := ⟨_, rfl⟩
                    have HST := hide hst
                    rw [← hst]
                    obtain ⟨w9, hw9⟩ : ∃ w9, w9 = w8.alloc (.cells #[.int .i64 st, .slice au (ds2 i).out.length cu] 71) := ⟨_, rfl⟩
                    have hb9 : Below w8.heap.size w8 w9 := by rw [hw9]; exact below_alloc (Below.refl _ _) _
                    have hz9 : w9.heap[w8.heap.size]? = some (.cells #[.int .i64 st, .slice au (ds2 i).out.length cu] 71 (0, 0)) := by rw [hw9]; exact heap_new _ _
                    rw [← hw9]
                    clear hw9 hst
                    have HRW9 := hide (HRW8.out.below hb9)
                    have HTQ9 := hide (HTQ8.out.kp (Kp.of_below hb9))
                    have hbx9 := (hb9.block _ (lt_of_heap HBX8.out)).trans HBX8.out
                    have hrb9 := (hb9.block _ (lt_of_heap HRB8.out)).trans HRB8.out
                    have HBX9 := hide hbx9
                    have HRB9 := hide hrb9
                    have HU9 := hide (HU8.out.below hb9)
                    have HOV := hide (rm_over HRW9.out.rm hik)
                    rw [show decide ((ds2 i).ph = 0) = true by simpa using H0.out] at HOV
                    obtain ⟨x2, x3, x4, x5, x6⟩ := HRW9.out.rm.cells hik
                    have b0 := cell_of hbx9 (i := 0) rfl; have b2 := cell_of hbx9 (i := 2) rfl; have b3 := cell_of hbx9 (i := 3) rfl
                    have r1 := cell_of hrb9 (i := 1) rfl
                    have s0 := cell_of hz9 (i := 0) rfl; have s1 := cell_of hz9 (i := 1) rfl
                    generalize w8.heap.size = bs at s0 s1 ⊢
                    clear HRW8 HTQ8 HBX8 HRB8 HU8 hb9 hz9 hbx9 hrb9
                    go_upto_region 28 with (go_at_call 22; refine HOV.out.mono ?_; rintro e wz ⟨rfl, rfl⟩)
                    have HZR := hide (show ∀ q, q < k → (ds2 q).ph = 0 from fun q hq => by
                      by_cases e : q = i
                      · rw [e]; exact H0.out
                      · exact HRE.out q hq e)
                    rcases HOPK.out with ⟨h1, h2⟩ | h1
                    · obtain ⟨e1, hA | hA | hA | hA⟩ := HOA.out.1 h1
                      · exact absurd H0.out (by omega)
                      · exact absurd H0.out (by omega)
                      · obtain ⟨_, hst, hout, hrow, hlc⟩ := hA
                        as_aux_lemma =>
                          have hlb : ((lr.length : Int) == (C : Int)) = false := by have := HLL.out; have := HH0.out; simp; omega
                          rw [hst] at HST
                          rw [hout] at HU9 s1
                          have hst3 : st = 1 := HST.out
                          subst hst3 h1 e1
                          have HRT := hide hrow
                          clear hlc hst hout hrow
                          have hlc2 : lr.length ≤ 1759218604440 := by
                            have q0 := HLL.out; have q1 := HRW9.out.len; have q2 := HKJ.out
                            rw [HRT.out, List.length_append] at q1
                            omega
                          have hlo : w.heap.size ≤ wz.heap.size := HRW9.out.rm.bel.size
                          go_wp2_with (at_builtin; refine wpList_append_tq rfl (.tmp 184) (.tmp 187) rfl _ lr (HTQ9.out.kp (Kp.of_below (below_alloc (Below.refl _ _) _))) (by simp; omega) rfl ⟨wz.heap.size, 0, none⟩ 1 (t1, t2) rfl (two_at wz _ _ _) hlc2 ?_; intro v6 w6 hq6 hch hbk; have HQ6 := hide hq6; have HBK := hide hbk; have HC6 := hide (((Chg.refl (tqb (.slice av lr.length cv)) wz).alloc (.cells #[.int .u64 t1, .int .u64 t2] 42)).trans hch); clear hq6 hch hbk)
                          have hrw6 := HRW9.out.far HC6.out (fun q hq => ⟨(HTQ9.out.blk hq).1, fun _ => by
                            obtain ⟨cs, h⟩ := (HTQ9.out.blk hq).2
                            exact ⟨cs, 42, h, by decide, by decide, by decide, by unfold pT; decide, fun _ p hp => HDI.out q hq p hp⟩⟩)
                          have hz6 := HC6.out.heap HRB9.out (fun e => by
                            obtain ⟨cs, h⟩ := (HTQ9.out.blk e).2
                            exact ne_ty HRB9.out h (by decide) rfl)
                          exact ⟨⟨j + 1, hlt, by simp, ⟨_, _, _, _, _, row2, _, K2, hrw6, by have := HKJ.out; omega, HZR.out, by rw [HRT.out, List.drop_append_of_le_length (by have := HH0.out; omega), ← HLR.out]; exact HQ6.out, fun q hq p hp e => by
                            rcases HBK.out q hq with h | h
                            · exact HDI.out q h p hp e
                            · have := ((HRW9.out.rm.hd p hp).2.lt q e).2
                              simp at h
                              omega, hz6⟩⟩, mdecR hlt⟩
                      · obtain ⟨_, hst, hout, hrow, hlc⟩ := hA
                        as_aux_lemma =>
                          have hlb : ((lr.length : Int) == (C : Int)) = true := by have := HLL.out; have := HH0.out; simp; omega
                          rw [hst] at HST
                          rw [hout] at HU9 s1
                          have hst3 : st = 3 := HST.out
                          subst hst3 h1 e1
                          obtain ⟨gu, cu', hgu⟩ := own_spot HU9.out Nat.zero_lt_one
                          obtain ⟨rfl, rfl⟩ : au = some ⟨gu, 0, none⟩ ∧ cu = cu' := by simpa using hgu
                          obtain ⟨o0, o1⟩ := HU9.out.celled (i := 0) Nat.zero_lt_one
                          rw [show tAt [(t1, t2)] 0 = (t1, t2) from rfl] at o0 o1
                          have hnq := neq_same t1 t2
                          have HRT := hide hrow
                          clear hgu hlc hst hout hrow
                          go_upto_region 29 with fail
                          have v0 := gw_cell s0; have v1 := gw_cell s1; have v2 := gw_cell b2; have v3 := gw_cell b3; have v4 := gw_cell o0; have v5 := gw_cell o1
                          refine wp_region_gw (by kernel_rfl) (by kernel_rfl) ?_
                          repeat (go_big_quiet_step (rfl))
                          refine wpQuiet_nil ?_
                          intro _ hw'
                          obtain ⟨x', hw''⟩ := hw'
                          subst hw''
                          clear v0 v1 v2 v3 v4 v5
                          go_wp2_with fail
                          exact ⟨⟨j + 1, hlt, by simp, ⟨_, _, _, _, _, row2, H2, K2, HRW9.out.below x'.bel, by have := HKJ.out; omega, HZR.out, by rw [HRT.out, ← HLR.out]; exact HTQ9.out.kp (Kp.of_below x'.bel), HDI.out, (x'.bel.block _ (lt_of_heap HRB9.out)).trans HRB9.out⟩⟩, mdecR hlt⟩
                    · obtain ⟨e1, hA | hA | hA | hA⟩ := HOA.out.2 h1
                      · exact absurd H0.out (by omega)
                      · exact absurd H0.out (by omega)
                      · obtain ⟨_, hst, hout, hH2, hlc⟩ := hA
                        as_aux_lemma =>
                          have HHT := hide hH2
                          obtain ⟨lq, hlq⟩ : ∃ lq, lr = rowAt row H :: lq := ⟨_, by rw [HLR.out]; exact drop_head HH0.out.1 hlc⟩
                          have HLQ : Hid (lq = row.drop H2.toNat) := hide (by
                            have := drop_head HH0.out.1 hlc
                            rw [← HLR.out, hlq] at this
                            rw [(List.cons.inj this).2, hH2])
                          generalize rowAt row H = tr at hlq hout
                          subst hlq
                          obtain ⟨gq, oq2, cq, hqv, hqc, hqm, g0, g1, hq2, hqb⟩ := HTQ9.out.cons
                          cases hqv
                          have HQ2 := hide hq2; have HQB := hide hqb
                          rw [hst] at HST
                          rw [hout] at HU9 s1
                          have hst3 : st = 5 := HST.out
                          subst hst3 h1
                          obtain ⟨gu, cu', hgu⟩ := own_spot HU9.out Nat.zero_lt_one
                          obtain ⟨rfl, rfl⟩ : au = some ⟨gu, 0, none⟩ ∧ cu = cu' := by simpa using hgu
                          obtain ⟨o0, o1⟩ := HU9.out.celled (i := 0) Nat.zero_lt_one
                          rw [show tAt [tr] 0 = tr from rfl] at o0 o1
                          have hnq := neq_same tr.1 tr.2
                          have hn0 : ((lq.length : Int) + 1 == 0) = false := by simp; omega
                          clear hgu hlc hst hout hH2 hq2 hqb
                          go_upto_region 23 with fail
                          have v0 := gw_cell s0; have v1 := gw_cell s1; have v2 := gw_cell g0; have v3 := gw_cell g1; have v4 := gw_cell o0; have v5 := gw_cell o1
                          refine wp_region_gw (by kernel_rfl) (by kernel_rfl) ?_
                          repeat (go_big_quiet_step (rfl))
                          refine wpQuiet_nil ?_
                          intro _ hw'
                          obtain ⟨x', hw''⟩ := hw'
                          subst hw''
                          clear v0 v1 v2 v3 v4 v5
                          go_wp2_with fail
                          exact ⟨⟨j + 1, hlt, by simp, ⟨_, _, _, _, _, row2, H2, K2, HRW9.out.below x'.bel, by have := HKJ.out; omega, HZR.out, by rw [e1, ← HLQ.out]; exact HQ2.out.kp (Kp.of_below x'.bel), fun q hq => HDI.out q (by obtain rfl := HQB.out q hq; exact ⟨_, _, _, rfl⟩), (x'.bel.block _ (lt_of_heap HRB9.out)).trans HRB9.out⟩⟩, mdecR hlt⟩
                      · obtain ⟨_, hst, hout, hH2, hlc⟩ := hA
                        as_aux_lemma =>
                          have hll : lr = [] := List.eq_nil_of_length_eq_zero (by have := HLL.out; omega)
                          subst hll
                          rw [hst] at HST
                          rw [hout] at HU9 s1
                          have hst3 : st = 2 := HST.out
                          subst hst3 h1 e1
                          have HHT := hide hH2
                          clear hlc hst hout hH2
                          have hC0 : ((0 : Int) == (C : Int)) = false := by have := HCL.out; simp; omega
                          go_wp2_with fail
                          exact ⟨⟨j + 1, hlt, by simp, ⟨_, _, _, _, _, _, H2, K2, HRW9.out, by have := HKJ.out; omega, HZR.out, by rw [HHT.out, ← HLR.out]; exact HTQ9.out, HDI.out, HRB9.out⟩⟩, mdecR hlt⟩
                  · rw [show decide ((ds2 i).ph = 0) = false by simpa using h0] at HOV
                    have H0 := hide h0
                    have HACT := hide (rw_act HRW.out hik 3 0 (0, 0) (by have := HKJ.out; omega) ⟨Int.le_refl _, by decide⟩ ⟨Int.le_refl _, by decide⟩)
                    clear h0
                    have h8b : (m : Int) < 8 := by omega
                    go_wp2_with (go_at_call 22; refine HOV.out.mono ?_; rintro e w7 ⟨rfl, rfl⟩)
                    refine HACT.out.mono ?_
                    rintro e w8 ⟨rfl, lv', vs', gs', hrw', hkp, hvf⟩
                    obtain ⟨x, hx⟩ : ∃ x, x = nth s2.cells ((ds2 i).cell b C) := ⟨_, rfl⟩
                    rw [show actR s2 b C 3 (ds2 i) row2 = (ds2 i).rowN x row2 by unfold actR; rw [if_pos ⟨rfl, H0.out⟩, hx], show actH s2 b C 3 (ds2 i) H2 = (ds2 i).gonN x H2 by unfold actH; rw [if_pos ⟨rfl, H0.out⟩, hx], show actD s2 b C 3 (0, 0) (ds2 i) = (ds2 i).next C x by unfold actD stD; rw [if_neg (by decide), if_neg (by decide), if_pos rfl, if_neg H0.out, hx]] at hrw'
                    have HI2 : Hid (BInv w X ab gc Y Z k tb gP cP gH cH qs ps b C j i kd (t1, t2) row H lr (.slice av lr.length cv) bo (m + 1) w8) := hide (by
                      obtain ⟨pl, hri⟩ := HRW.out.ri
                      have hln := HRW.out.len
                      have hKb := HKJ.out
                      have hst : OpA C kd (t1, t2) row ((ds2 i).rowN x row2) H ((ds2 i).gonN x H2) ((ds2 i).next C x) ∧ remS ((ds2 i).next C x).ph + 1 ≤ remS (ds2 i).ph := by
                        rw [hx]
                        rcases HOPK.out with ⟨h1, h2⟩ | h1
                        · obtain ⟨a, c⟩ := (HOA.out.1 h1).step hri hik HRE.out (by omega) H0.out
                          exact ⟨⟨fun _ => a, fun q => by omega⟩, c⟩
                        · obtain ⟨a, c⟩ := (HOA.out.2 h1).step hri hik HRE.out (by omega) H0.out
                          exact ⟨⟨fun q => by omega, fun _ => a⟩, c⟩
                      refine ⟨lv', _, vs', gs', _, _, _, _, hrw', by omega, fun q hq hn => by rw [upd_other _ _ hn]; exact HRE.out q hq hn, ?_, HTQ.out.kp hkp, fun q hq p hp e => ?_, ⟨who2, hkp.2 _ _ _ HBX.out (by unfold pT; decide)⟩, hkp.2 _ _ _ HRB.out (by unfold pT; decide)⟩
                      · rw [upd_same]
                        refine ⟨hst.1, by have := hst.2; have := HRM.out; omega, ?_⟩
                        by_cases z : ((ds2 i).next C x).ph = 0
                        · omega
                        · exact ((goes_next C (ds2 i) x H0.out HPH.out).run z).2.1
                      · rcases hvf p q e with h | h
                        · exact HDI.out q hq p hp h
                        · obtain ⟨_, cs, hh⟩ := HTQ.out.blk hq
                          have := lt_of_heap hh
                          omega)
                    clear hrw' hkp hvf hx HACT HOV HRW HTQ HRE HDI HOA HRM HPH HBX HRB b0 x2 x3 x4 x5 x6
                    go_wp2_with fail
                    exact ⟨⟨m + 1, by omega, by simp, HI2.out⟩, mdecR h8⟩
                · obtain rfl : m = 8 := by omega
                  have h0 : (ds2 i).ph = 0 := by
                    have h1 := HRM.out
                    have h2 := HPH.out
                    unfold remS at h1
                    by_cases z : (ds2 i).ph = 0
                    · exact z
                    · rw [if_neg z] at h1
                      split at h1 <;> omega
                  have H0 := hide h0
                  clear h0
                  go_wp2_with fail
                  refine (rm_reply HRW.out.rm hik).mono ?_
                  rintro e w8 ⟨hb8, u, rfl, hu⟩
                  obtain ⟨au, cu, rfl⟩ := owns_shape hu
                  have HRW8 := hide (HRW.out.below hb8)
                  have HTQ8 := hide (HTQ.out.kp (Kp.of_below hb8))
                  have HBX8 := hide ((hb8.block _ (lt_of_heap HBX.out)).trans HBX.out)
                  have HRB8 := hide ((hb8.block _ (lt_of_heap HRB.out)).trans HRB.out)
                  have HU8 := hide hu
                  clear hb8 hu HRW HTQ HBX HRB HOV HRM HPH b0 x2 x3 x4 x5 x6
                  go_upto_region 26 with fail
                  obtain ⟨st, hst⟩ : ∃ st, st = (ds2 i).st := ⟨_, rfl⟩
                  have HST := hide hst
                  rw [← hst]
                  obtain ⟨w9, hw9⟩ : ∃ w9, w9 = w8.alloc (.cells #[.int .i64 st, .slice au (ds2 i).out.length cu] 71) := ⟨_, rfl⟩
                  have hb9 : Below w8.heap.size w8 w9 := by rw [hw9]; exact below_alloc (Below.refl _ _) _
                  have hz9 : w9.heap[w8.heap.size]? = some (.cells #[.int .i64 st, .slice au (ds2 i).out.length cu] 71 (0, 0)) := by rw [hw9]; exact heap_new _ _
                  rw [← hw9]
                  clear hw9 hst
                  have HRW9 := hide (HRW8.out.below hb9)
                  have HTQ9 := hide (HTQ8.out.kp (Kp.of_below hb9))
                  have hbx9 := (hb9.block _ (lt_of_heap HBX8.out)).trans HBX8.out
                  have hrb9 := (hb9.block _ (lt_of_heap HRB8.out)).trans HRB8.out
                  have HBX9 := hide hbx9
                  have HRB9 := hide hrb9
                  have HU9 := hide (HU8.out.below hb9)
                  have HOV := hide (rm_over HRW9.out.rm hik)
                  rw [show decide ((ds2 i).ph = 0) = true by simpa using H0.out] at HOV
                  obtain ⟨x2, x3, x4, x5, x6⟩ := HRW9.out.rm.cells hik
                  have b0 := cell_of hbx9 (i := 0) rfl; have b2 := cell_of hbx9 (i := 2) rfl; have b3 := cell_of hbx9 (i := 3) rfl
                  have r1 := cell_of hrb9 (i := 1) rfl
                  have s0 := cell_of hz9 (i := 0) rfl; have s1 := cell_of hz9 (i := 1) rfl
                  generalize w8.heap.size = bs at s0 s1 ⊢
                  clear HRW8 HTQ8 HBX8 HRB8 HU8 hb9 hz9 hbx9 hrb9
                  go_upto_region 28 with (go_at_call 22; refine HOV.out.mono ?_; rintro e wz ⟨rfl, rfl⟩)
                  have HZR := hide (show ∀ q, q < k → (ds2 q).ph = 0 from fun q hq => by
                    by_cases e : q = i
                    · rw [e]; exact H0.out
                    · exact HRE.out q hq e)
                  rcases HOPK.out with ⟨h1, h2⟩ | h1
                  · obtain ⟨e1, hA | hA | hA | hA⟩ := HOA.out.1 h1
                    · exact absurd H0.out (by omega)
                    · exact absurd H0.out (by omega)
                    · obtain ⟨_, hst, hout, hrow, hlc⟩ := hA
                      as_aux_lemma =>
                        have hlb : ((lr.length : Int) == (C : Int)) = false := by have := HLL.out; have := HH0.out; simp; omega
                        rw [hst] at HST
                        rw [hout] at HU9 s1
                        have hst3 : st = 1 := HST.out
                        subst hst3 h1 e1
                        have HRT := hide hrow
                        clear hlc hst hout hrow
                        have hlc2 : lr.length ≤ 1759218604440 := by
                          have q0 := HLL.out; have q1 := HRW9.out.len; have q2 := HKJ.out
                          rw [HRT.out, List.length_append] at q1
                          omega
                        have hlo : w.heap.size ≤ wz.heap.size := HRW9.out.rm.bel.size
                        go_wp2_with (at_builtin; refine wpList_append_tq rfl (.tmp 184) (.tmp 187) rfl _ lr (HTQ9.out.kp (Kp.of_below (below_alloc (Below.refl _ _) _))) (by simp; omega) rfl ⟨wz.heap.size, 0, none⟩ 1 (t1, t2) rfl (two_at wz _ _ _) hlc2 ?_; intro v6 w6 hq6 hch hbk; have HQ6 := hide hq6; have HBK := hide hbk; have HC6 := hide (((Chg.refl (tqb (.slice av lr.length cv)) wz).alloc (.cells #[.int .u64 t1, .int .u64 t2] 42)).trans hch); clear hq6 hch hbk)
                        have hrw6 := HRW9.out.far HC6.out (fun q hq => ⟨(HTQ9.out.blk hq).1, fun _ => by
                          obtain ⟨cs, h⟩ := (HTQ9.out.blk hq).2
                          exact ⟨cs, 42, h, by decide, by decide, by decide, by unfold pT; decide, fun _ p hp => HDI.out q hq p hp⟩⟩)
                        have hz6 := HC6.out.heap HRB9.out (fun e => by
                          obtain ⟨cs, h⟩ := (HTQ9.out.blk e).2
                          exact ne_ty HRB9.out h (by decide) rfl)
                        exact ⟨⟨j + 1, hlt, by simp, ⟨_, _, _, _, _, row2, _, K2, hrw6, by have := HKJ.out; omega, HZR.out, by rw [HRT.out, List.drop_append_of_le_length (by have := HH0.out; omega), ← HLR.out]; exact HQ6.out, fun q hq p hp e => by
                          rcases HBK.out q hq with h | h
                          · exact HDI.out q h p hp e
                          · have := ((HRW9.out.rm.hd p hp).2.lt q e).2
                            simp at h
                            omega, hz6⟩⟩, mdecR hlt⟩
                    · obtain ⟨_, hst, hout, hrow, hlc⟩ := hA
                      as_aux_lemma =>
                        have hlb : ((lr.length : Int) == (C : Int)) = true := by have := HLL.out; have := HH0.out; simp; omega
                        rw [hst] at HST
                        rw [hout] at HU9 s1
                        have hst3 : st = 3 := HST.out
                        subst hst3 h1 e1
                        obtain ⟨gu, cu', hgu⟩ := own_spot HU9.out Nat.zero_lt_one
                        obtain ⟨rfl, rfl⟩ : au = some ⟨gu, 0, none⟩ ∧ cu = cu' := by simpa using hgu
                        obtain ⟨o0, o1⟩ := HU9.out.celled (i := 0) Nat.zero_lt_one
                        rw [show tAt [(t1, t2)] 0 = (t1, t2) from rfl] at o0 o1
                        have hnq := neq_same t1 t2
                        have HRT := hide hrow
                        clear hgu hlc hst hout hrow
                        go_upto_region 29 with fail
                        have v0 := gw_cell s0; have v1 := gw_cell s1; have v2 := gw_cell b2; have v3 := gw_cell b3; have v4 := gw_cell o0; have v5 := gw_cell o1
                        refine wp_region_gw (by kernel_rfl) (by kernel_rfl) ?_
                        repeat (go_big_quiet_step (rfl))
                        refine wpQuiet_nil ?_
                        intro _ hw'
                        obtain ⟨x', hw''⟩ := hw'
                        subst hw''
                        clear v0 v1 v2 v3 v4 v5
                        go_wp2_with fail
                        exact ⟨⟨j + 1, hlt, by simp, ⟨_, _, _, _, _, row2, H2, K2, HRW9.out.below x'.bel, by have := HKJ.out; omega, HZR.out, by rw [HRT.out, ← HLR.out]; exact HTQ9.out.kp (Kp.of_below x'.bel), HDI.out, (x'.bel.block _ (lt_of_heap HRB9.out)).trans HRB9.out⟩⟩, mdecR hlt⟩
                  · obtain ⟨e1, hA | hA | hA | hA⟩ := HOA.out.2 h1
                    · exact absurd H0.out (by omega)
                    · exact absurd H0.out (by omega)
                    · obtain ⟨_, hst, hout, hH2, hlc⟩ := hA
                      as_aux_lemma =>
                        have HHT := hide hH2
                        obtain ⟨lq, hlq⟩ : ∃ lq, lr = rowAt row H :: lq := ⟨_, by rw [HLR.out]; exact drop_head HH0.out.1 hlc⟩
                        have HLQ : Hid (lq = row.drop H2.toNat) := hide (by
                          have := drop_head HH0.out.1 hlc
                          rw [← HLR.out, hlq] at this
                          rw [(List.cons.inj this).2, hH2])
                        generalize rowAt row H = tr at hlq hout
                        subst hlq
                        obtain ⟨gq, oq2, cq, hqv, hqc, hqm, g0, g1, hq2, hqb⟩ := HTQ9.out.cons
                        cases hqv
                        have HQ2 := hide hq2; have HQB := hide hqb
                        rw [hst] at HST
                        rw [hout] at HU9 s1
                        have hst3 : st = 5 := HST.out
                        subst hst3 h1
                        obtain ⟨gu, cu', hgu⟩ := own_spot HU9.out Nat.zero_lt_one
                        obtain ⟨rfl, rfl⟩ : au = some ⟨gu, 0, none⟩ ∧ cu = cu' := by simpa using hgu
                        obtain ⟨o0, o1⟩ := HU9.out.celled (i := 0) Nat.zero_lt_one
                        rw [show tAt [tr] 0 = tr from rfl] at o0 o1
                        have hnq := neq_same tr.1 tr.2
                        have hn0 : ((lq.length : Int) + 1 == 0) = false := by simp; omega
                        clear hgu hlc hst hout hH2 hq2 hqb
                        go_upto_region 23 with fail
                        have v0 := gw_cell s0; have v1 := gw_cell s1; have v2 := gw_cell g0; have v3 := gw_cell g1; have v4 := gw_cell o0; have v5 := gw_cell o1
                        refine wp_region_gw (by kernel_rfl) (by kernel_rfl) ?_
                        repeat (go_big_quiet_step (rfl))
                        refine wpQuiet_nil ?_
                        intro _ hw'
                        obtain ⟨x', hw''⟩ := hw'
                        subst hw''
                        clear v0 v1 v2 v3 v4 v5
                        go_wp2_with fail
                        exact ⟨⟨j + 1, hlt, by simp, ⟨_, _, _, _, _, row2, H2, K2, HRW9.out.below x'.bel, by have := HKJ.out; omega, HZR.out, by rw [e1, ← HLQ.out]; exact HQ2.out.kp (Kp.of_below x'.bel), fun q hq => HDI.out q (by obtain rfl := HQB.out q hq; exact ⟨_, _, _, rfl⟩), (x'.bel.block _ (lt_of_heap HRB9.out)).trans HRB9.out⟩⟩, mdecR hlt⟩
                    · obtain ⟨_, hst, hout, hH2, hlc⟩ := hA
                      as_aux_lemma =>
                        have hll : lr = [] := List.eq_nil_of_length_eq_zero (by have := HLL.out; omega)
                        subst hll
                        rw [hst] at HST
                        rw [hout] at HU9 s1
                        have hst3 : st = 2 := HST.out
                        subst hst3 h1 e1
                        have HHT := hide hH2
                        clear hlc hst hout hH2
                        have hC0 : ((0 : Int) == (C : Int)) = false := by have := HCL.out; simp; omega
                        go_wp2_with fail
                        exact ⟨⟨j + 1, hlt, by simp, ⟨_, _, _, _, _, _, H2, K2, HRW9.out, by have := HKJ.out; omega, HZR.out, by rw [HHT.out, ← HLR.out]; exact HTQ9.out, HDI.out, HRB9.out⟩⟩, mdecR hlt⟩
      · obtain rfl : j = L := by omega
        have HIM := hide (fun V (hb : Below wr.heap.size wr V) => rw_image (HRW.out.below hb))
        have HRC := hide (fun V (hb : Below wr.heap.size wr V) => (HRW.out.below hb).cells)
        obtain ⟨x0', x1', x2, x4⟩ := HRW.out.cells
        have x0 := cell_of HRB.out (i := 0) rfl; have x1 := cell_of HRB.out (i := 1) rfl
        have HCT : Hid ((fil b C s.cells C ++ hands b C s.cells ds k).Perm lr) := hide (by
          obtain ⟨pl, hri⟩ := HRW.out.ri
          rw [List.perm_iff_count]
          intro u
          rw [hri.count_held u, sm_zero (fun i hi => by rw [rest_idle (HRE.out i hi)]; rfl), HLR.out]
          rfl)
        have HLE : Hid (lr.length ≤ 16777216) := hide (by
          have q0 := HRW.out.len; have q1 := HKJ.out
          rw [HLR.out, List.length_drop]
          omega)
        clear x0' x1'
        go_upto_region 38 with fail
        refine wp_region_noPanic ?_
        go_region_held3 (fun x => x.cell? ⟨w.heap.size, 0, none⟩ = some (.int .i64 b) ∧ x.cell? ⟨w.heap.size, 1, none⟩ = some (.int .i64 C) ∧ x.cell? ⟨X, 2, none⟩ = some (.pointer (some ⟨ab, 0, none⟩)) ∧ x.cell? ⟨X, 4, none⟩ = some (.slice (some ⟨gH, 0, none⟩) k cH)) (first | exact ⟨x0, x1, x2, x4⟩ | exact ⟨y0, y1, y2, y4⟩ | exact ⟨z0, z1, z2, z4⟩ | go_keep)
          (first
            | (go_at_call 15; refine (HIM.out _ (below_drew (Below.refl _ _))).mono ?_; rintro e w2 ⟨v', rfl, ho, hrw, hk⟩; have HRW2 := hide hrw; have HO := hide ho; have HK2 := hide ((Kp.of_below (below_drew (Below.refl wr.heap.size wr))).trans hk); have hz2 := HK2.out.2 _ _ _ HRB.out (by unfold pT; decide); have HZ2 := hide hz2; have y0 := cell_of hz2 (i := 0) rfl; have y1 := cell_of hz2 (i := 1) rfl; obtain ⟨_, _, y2, y4⟩ := hrw.cells; obtain ⟨o2, c2, rfl⟩ := owns_shape ho; clear ho hrw hk hz2)
            | (go_at_call 20; refine (rw_held HRW2.out (own_zero HO.out)).mono ?_; rintro e w3 ⟨u3, rfl, ht3, hb3⟩; have HT3 := hide ht3; have HB3 := hide hb3; have hz3 := (hb3.block _ (lt_of_heap HZ2.out)).trans HZ2.out; have z0 := cell_of hz3 (i := 0) rfl; have z1 := cell_of hz3 (i := 1) rfl; obtain ⟨_, _, z2, z4⟩ := (HRW2.out.below hb3).cells; obtain ⟨a3, c3, rfl, _⟩ := ht3.tat.shape; clear ht3 hb3 hz3)
            | fail)
        all_goals
          refine NoPanic.normal ?_
          have HBW := hide (below_on HRW2.out.rm.bel HB3.out)
          have HT9 := hide ((HTQ.out.kp HK2.out).kp (Kp.of_below HB3.out))
          rw [srt_congr HCT.out] at HT3
          rw [srt_congr HCT.out]
          clear x0 x1 x2 x4 y0 y1 y2 y4 z0 z1 z2 z4 HRW HRW2 HIM HRC HRB HZ2 HO
          go_wp2_with fail
          refine (sorted_any lr.length lr (Nat.le_refl _) (by have := HLE.out; omega) _ _ HT9.out.tat).mono ?_
          rintro e w5 ⟨u5, rfl, ht5, hb5⟩
          have HT5 := hide ht5
          have HB5 := hide hb5
          obtain ⟨a5', c5', rfl, _⟩ := ht5.tat.shape
          clear ht5 hb5
          go_wp2_with fail
          refine (sameTasks_any _ _ (srt lr) _ (HT3.out.tat.below HB5.out) HT5.out.tat).mono ?_
          rintro e w6 ⟨rfl, hb6⟩
          have HB6 := hide hb6
          clear hb6
          go_wp2_with fail
          go_ret
          exact ⟨rfl, below_on (below_on HBW.out HB5.out) HB6.out⟩
  · rw [show decide (errR b C l = 0) = false by simpa using he] at HF
    have HRL := hide (fun V (kb : Below w.heap.size w V) => ring_law b C n _ l V (HTV.out V kb) htk (by omega))
    unfold qAgg at HRL
    rw [hW] at a0 a1
    clear hops htv hbW he htk hok
    go_enter Tryz.func6, Tryz.ntmps6
    go_wp2_with fail
    rw [← hW]
    clear hW a0 a1
    refine HF.out.mono ?_
    rintro e w2 ⟨rfl, hb2⟩
    have HB2 := hide (below_on HBW.out hb2)
    have hz2 := (hb2.block _ (lt_of_heap HZ.out)).trans HZ.out
    have a0 := cell_of hz2 (i := 0) rfl; have a1 := cell_of hz2 (i := 1) rfl
    clear hb2 hz2 HF HZ HBW
    go_wp2_with fail
    refine (HRL.out _ HB2.out).mono ?_
    rintro e w3 ⟨rfl, hb3⟩
    have HB3 := hide (below_on HB2.out hb3)
    clear hb3
    go_wp2_with fail
    go_ret
    exact ⟨rfl, HB3.out⟩
end Go.Proofs.YtgjdjdgondpjeaaGreat
