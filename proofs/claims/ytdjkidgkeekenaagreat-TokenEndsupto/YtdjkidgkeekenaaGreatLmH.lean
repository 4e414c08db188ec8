/- turns; what is left at the end. -/
import Derived.Test.YtdjkidgkeekenaaGreatLmG
import Derived.BigQuiet
namespace Go.Proofs.YtdjkidgkeekenaaGreat
open Go.RowKit Go.Lib Go.MuLone
set_option linter.unusedVariables false
set_option linter.unusedSimpArgs false
theorem tot_mono (ls : List (List Int)) {i : Nat} : ∀ {n : Nat}, i ≤ n → tot ls i ≤ tot ls n
  | 0, h => by rw [show i = 0 by omega]; exact Nat.le_refl _
  | n + 1, h => by
    by_cases e : i = n + 1
    · subst e; exact Nat.le_refl _
    · have := tot_mono ls (n := n) (show i ≤ n by omega)
      simp only [tot]; omega
set_option maxRecDepth 100000 in
set_option maxHeartbeats 4000000 in
theorem turns_any (v0 v1 : Value) (b : Int) (ls : List (List Int)) (w : World) (hr : RwsI w v0 ls) (h64 : ls.length ≤ 64) (ht : tot ls ls.length ≤ 10000) :
    Calls Tryz.prog 10 #[.agg #[v0, v1, .int .i64 b]] w fun r w' => r = .returned (.int .i64 ((ls.length * (100 * tot ls ls.length + 100 * ls.length + 200) : Nat) : Int)) ∧ Below w.heap.size w w' := by
  obtain ⟨so, sc, rfl, hsc⟩ := hr.shape
  obtain ⟨X0, hX0⟩ : ∃ X0, X0 = w.alloc (.cells #[.slice so ls.length sc, v1, .int .i64 b] 25) := ⟨_, rfl⟩
  have HB := hide (show Below w.heap.size w X0 by rw [hX0]; exact below_alloc (Below.refl _ _) _)
  have HA := hide (show X0.heap[w.heap.size]? = some (.cells #[.slice so ls.length sc, v1, .int .i64 b] 25 (0, 0)) by rw [hX0]; exact heap_new _ _)
  have a0 := cell_of HA.out (i := 0) rfl
  have H := hide (hr.below HB.out)
  have HT := hide (fun i (hi : i ≤ ls.length) => (show tot ls i ≤ 10000 from Nat.le_trans (tot_mono ls hi) ht))
  obtain ⟨n, hn⟩ : ∃ n, n = ls.length := ⟨_, rfl⟩
  have HN := hide hn
  rw [← hn] at H HT h64 a0 hX0 ⊢
  rw [hX0] at a0
  have hlt0 := lt_of_heap HA.out
  rw [hX0] at hlt0
  clear hr hn hsc ht HA
  go_enter Tryz.func10, Tryz.ntmps10
  go_wp2_with fail
  rw [← hX0]
  rw [← hX0] at a0 hlt0
  clear hX0
  go_loopw [4, 5] (fun a t wr => ∃ i : Nat, i ≤ n ∧ a = .int .i64 (tot ls i : Nat) ∧ t = .int .i64 (i : Int) ∧ wr = X0) (fun _ t _ => n - (RowKit.intOf t).toNat)
  case atStart => exact ⟨0, Nat.zero_le _, rfl, rfl, rfl⟩
  case round =>
    obtain ⟨i, hin, rfl, rfl, rfl⟩ := hrel
    have hti := HT.out i (by omega)
    by_cases hlt : i < n
    · have hli : (i : Int) < (n : Int) := by omega
      obtain ⟨g1, o1, io, ic, e1, hg1, x1, hrow⟩ := H.out.at i (by rw [← HN.out]; exact hlt)
      subst e1
      have HTT : Hid (tot ls (i + 1) = tot ls i + (rowL ls i).length) := rfl
      have ht2 := HT.out (i + 1) (by omega)
      rw [HTT.out] at ht2
      generalize hrl : (rowL ls i).length = rl at x1 HTT ht2
      generalize tot ls i = tt at HTT hti ht2 ⊢
      clear hrl hrow
      go_wp2_with fail
      exact ⟨⟨i + 1, by omega, by rw [HTT.out]; simp, by simp, by simp⟩, by simp [RowKit.intOf]; omega⟩
    · have hli : ¬ (i : Int) < (n : Int) := by omega
      obtain rfl : i = n := by omega
      generalize htt : tot ls i = tt at hti ⊢
      have HTT := hide htt
      clear htt
      have hm : i * (100 * tt + 100 * i + 200) ≤ 64 * (100 * 10000 + 100 * 64 + 200) := Nat.mul_le_mul h64 (by omega)
      have hmz : ((i : Int) * (100 * (tt : Int) + 100 * (i : Int) + 200)) = ((i * (100 * tt + 100 * i + 200) : Nat) : Int) := by simp
      have HMZ := hide hmz
      have hw1 : 0 ≤ (i : Int) * (100 * (tt : Int) + 100 * (i : Int) + 200) ∧ (i : Int) * (100 * (tt : Int) + 100 * (i : Int) + 200) ≤ 64 * (100 * 10000 + 100 * 64 + 200) := by rw [hmz]; omega
      clear hmz
      go_wp2_with fail
      go_ret
      rw [HTT.out]
      exact ⟨rfl, HB.out⟩
section
variable {w wr wr' : World} {X b gc Y Z n lb sb K K' : Nat} {lv lv' vN : Value} {s s' : Ast} {qs rs : Nat → Nat} {sv : Nat → Value} {gs : Nat → Bool} {ds : Nat → Nd} {mv : Nat → Int}
theorem field51_3 (a d : Int) (p q r : Bool) (w : World) : (Instr.field 51 (.agg #[.int .i64 a, .bool p, .bool q, .int .i64 d, .bool r]) 3).run Tryz.prog w = .ok (.int .i64 d) w := by kernel_rfl
/-- All at the end. -/
structure Rst (n : Nat) (ls : List (List Int)) (aw : List Int) (ds : Nat → Nd) (cs : List Int) : Prop where
  ov : Ov n ds
  c0 : nth cs 0 = 1
  qt : Quiet n ds (nth cs)
  len : cs.length = 4 + n
  sd : ∀ j, j < n → (ds j).sends = rowL ls j
  st : ∀ j, j < n → 0 ≤ (ds j).sent ∧ (ds j).sent ≤ ((rowL ls j).length : Int)
  al : ∀ j, j < n → (j : Int) ∈ aw → (ds j).sent = ((rowL ls j).length : Int)
  bl : sumF (fun j => (ds j).bal) n = 0
  bd : ∀ j, j < n → -1099511627776 ≤ (ds j).bal ∧ (ds j).bal ≤ 1099511627776
  bs : ∀ j, j ≤ n → -70368744177664 ≤ sumF (fun j => (ds j).bal) j ∧ sumF (fun j => (ds j).bal) j ≤ 70368744177664
set_option maxRecDepth 100000 in
set_option maxHeartbeats 8000000 in
theorem rested_full (v0 v1 : Value) (bu : Int) (ls : List (List Int)) (aw : List Int) {gN cN : Nat} (h : LMm w wr X b gc Y Z n lb sb lv s (.slice (some ⟨gN, 0, none⟩) n cN) qs rs sv gs ds mv K) (hr : RwsI w v0 ls) (ha : RowAt .i64 w v1 aw) (hn : n = ls.length) (hok : okN n aw) (hal : aw.length ≤ 17592186043904) (hR : Rst n ls aw ds s.cells) :
    Calls Tryz.prog 18 #[.pointer (some ⟨X, 0, none⟩), .agg #[v0, v1, .int .i64 bu]] wr fun r w' => r = .returned (.bool true) ∧ LMm w w' X b gc Y Z n lb sb lv s (.slice (some ⟨gN, 0, none⟩) n cN) qs rs sv gs ds mv K ∧ Chg (fun j => j = b) wr w' := by
  obtain ⟨so, sc, rfl, hsc⟩ := hr.shape
  obtain ⟨ao, ac, rfl⟩ := ha.shape
  obtain ⟨X0, hX0⟩ : ∃ X0, X0 = wr.alloc (.cells #[.slice so ls.length sc, .slice ao aw.length ac, .int .i64 bu] 25) := ⟨_, rfl⟩
  have HB := hide (show Below wr.heap.size wr X0 by rw [hX0]; exact below_alloc (Below.refl _ _) _)
  have HA := hide (show X0.heap[wr.heap.size]? = some (.cells #[.slice so ls.length sc, .slice ao aw.length ac, .int .i64 bu] 25 (0, 0)) by rw [hX0]; exact heap_new _ _)
  have H := hide (h.below HB.out)
  have HRW := hide (fun W (hb : Below w.heap.size w W) => hr.below hb)
  have HAW := hide (fun W (hb : Below w.heap.size w W) => ha.below hb)
  have hn64 := h.n64
  obtain ⟨B0, hB0⟩ : ∃ B, B = wr.heap.size := ⟨_, rfl⟩
  obtain ⟨vP, pb, vG, hx⟩ := H.out.x
  have c0 := cell_of hx (i := 0) rfl
  have HIM := hide (image_any _ _ _ _ _ X0 H.out.ar)
  have hlt0 := lt_of_heap HA.out
  have HRR := hide hR
  have hlen := hR.len
  have HN := hide hn
  have HX := hide hx
  rw [hX0] at c0
  rw [← hB0] at HA hlt0
  clear h hr ha hsc hn hR hx
  go_enter Tryz.func18, Tryz.ntmps18
  go_wp2_with fail
  rw [← hX0] at c0 ⊢
  rw [← hB0]
  clear hX0 hB0
  refine HIM.out.mono ?_
  rintro e w1 ⟨vi, rfl, hown, hai, hci⟩
  have H1 := hide (H.out.look hai hci)
  have HCI := hide ((Chg.of_below (S := fun j => j = b) HB.out).trans hci)
  have hk := H.out.kpb hci
  have HA1 := hide (hk.2 _ _ _ HA.out (.inl (by unfold mT; decide)))
  have HX1 := hide (hk.2 _ _ _ HX.out (.inl (by unfold mT; decide)))
  rw [hlen] at hown
  obtain ⟨gi, ci, rfl⟩ := row_ptrM hown (by omega)
  have HOW := hide hown
  have hk1 := hk.1
  clear hci hai hown hk HIM c0 HB HA HX H
  have hi0 := img_at HOW.out hlen.symm (i := 0) (by omega)
  rw [HRR.out.c0] at hi0
  have x2 := cell_of HX1.out (i := 2) rfl
  have hn64i : (n : Int) ≤ 64 := by omega
  go_wp2_with fail
  go_loopw [6, 7] (fun a t wq => ∃ k : Nat, k ≤ n ∧ a = .int .i64 (sumF (fun j => (ds j).bal) k) ∧ t = .int .i64 (k : Int) ∧ Below w1.heap.size w1 wq) (fun _ t _ => n - (RowKit.intOf t).toNat)
  case atStart => exact ⟨0, Nat.zero_le _, rfl, rfl, Below.refl _ _⟩
  case round =>
    obtain ⟨k, hkn, rfl, rfl, hbq⟩ := hrel
    have HBQ := hide hbq
    have HW := hide (H1.out.below hbq)
    have HA2 := hide ((hbq.block _ (lt_of_heap HA1.out)).trans HA1.out)
    have HX2 := hide ((hbq.block _ (lt_of_heap HX1.out)).trans HX1.out)
    clear hbq hi0
    have x2 := cell_of HX2.out (i := 2) rfl
    have hsb := HRR.out.bs k hkn
    by_cases hlt : k < n
    · have hki : (k : Int) < (n : Int) := by omega
      have y0 := own_at (own_stayR HW.out.rn (fun _ _ => rfl)) (ptrs_get qs hlt) hlt
      have HTL := hide (tell_nd (HW.out.nd k hlt).1 (HW.out.inv.sys.wf k hlt).ph (by have := HRR.out.bd k hlt; omega))
      clear hsb
      go_wp2_with fail
      refine HTL.out.mono ?_
      rintro e w2 ⟨rfl, hb2⟩
      have htl : (ds k).told = .agg #[.int .i64 (ds k).bal, .bool false, .bool (ds k).black, .int .i64 (ds k).sent, .bool true] := by
        unfold Nd.told; rw [(HRR.out.qt k hlt).1, decide_eq_true (HRR.out.ov k hlt)]
      rw [htl]
      have hst := HRR.out.st k hlt
      have hsb := HRR.out.bs (k + 1) (by omega)
      have HSM : Hid (sumF (fun j => (ds j).bal) (k + 1) = sumF (fun j => (ds j).bal) k + (ds k).bal) := rfl
      rw [HSM.out] at hsb
      obtain ⟨w3, hw3⟩ : ∃ W, W = w2.alloc (.cells #[.int .i64 (ds k).bal, .bool false, .bool (ds k).black, .int .i64 (ds k).sent, .bool true] 51) := ⟨_, rfl⟩
      have hb3 : Below wr.heap.size wr w3 := by rw [hw3]; exact below_alloc hb2 _
      have hT3 : w3.heap[w2.heap.size]? = some (.cells #[.int .i64 (ds k).bal, .bool false, .bool (ds k).black, .int .i64 (ds k).sent, .bool true] 51 (0, 0)) := by rw [hw3]; exact heap_new _ _
      have HW3 := hide (HW.out.below hb3)
      have hA3 := (hb3.block _ (lt_of_heap HA2.out)).trans HA2.out
      have hX3 := (hb3.block _ (lt_of_heap HX2.out)).trans HX2.out
      have hB13 := below_on HBQ.out hb3
      have HO := hide (fun W (hb : Below w3.heap.size w3 W) => lm_over (HW3.out.below hb) hlt)
      rw [decide_eq_true (HRR.out.ov k hlt)] at HO
      have HB3 := hide hB13
      have t0 : w3.cell? ⟨w2.heap.size, 0, none⟩ = some (.int .i64 (ds k).bal) := cell_of hT3 rfl
      have t1 : w3.cell? ⟨w2.heap.size, 1, none⟩ = some (.bool false) := cell_of hT3 rfl
      have t3 : w3.cell? ⟨w2.heap.size, 3, none⟩ = some (.int .i64 (ds k).sent) := cell_of hT3 rfl
      have t4 : w3.cell? ⟨w2.heap.size, 4, none⟩ = some (.bool true) := cell_of hT3 rfl
      have x2' : w3.cell? ⟨X, 2, none⟩ = some (.slice (some ⟨gN, 0, none⟩) n cN) := cell_of hX3 rfl
      have z0 : w3.cell? ⟨B0, 0, none⟩ = some (.slice so ls.length sc) := cell_of hA3 rfl
      have y0' := own_at (own_stayR HW3.out.rn (fun _ _ => rfl)) (ptrs_get qs hlt) hlt
      have i4 := (below_cell hB13 (block_of_cell (img_at HOW.out hlen.symm (i := 4 + k) (by omega)))).trans (img_at HOW.out hlen.symm (i := 4 + k) (by omega))
      rw [(HRR.out.qt k hlt).2] at i4
      obtain ⟨g1, o1, io, ic, e1, hg1, x1, hrow⟩ := (HRW.out w3 HW3.out.bel).at k (by rw [← HN.out]; exact hlt)
      subst e1
      have hdiv := HRR.out.bd k hlt
      clear hrow HTL y0 x2 hA3 hX3 hT3 hb3 hB13 htl
      generalize hrl : (rowL ls k).length = rl at x1 hst
      generalize (ds k).bal = bl at *
      generalize (ds k).sent = st at *
      generalize (ds k).black = bk at *
      generalize sumF (fun j => (ds j).bal) k = sm at *
      clear hrl
      go_upto_region 9 with fail
      rw [← hw3]
      clear hw3
      obtain ⟨J, hJ⟩ : ∃ J, J = 4 + k := ⟨_, rfl⟩
      rw [← hJ] at i4
      have hw4 : IntKind.i64.wrap (4 + (k : Int)) = (J : Int) := by rw [show (4 + (k : Int)) = (J : Int) by omega]; exact IntWalk.i64_in _ (by omega)
      have hJ1 : J < 4 + n := by omega
      have hJ2 : (J : Int) < ((4 + n : Nat) : Int) := by omega
      have hJ3 : (J : Int) < 4 + (n : Int) := by omega
      clear hJ
      have hd1 : decide (st < 0) = false := decide_eq_false (by omega)
      have hd2 : decide ((rl : Int) < st) = false := decide_eq_false (by omega)
      have hkl : (k : Int) < (ls.length : Int) := by have := HN.out; omega
      refine wp_region_noPanic ?_
      go_region_held3 (fun x' => x'.cell? ⟨w2.heap.size, 1, none⟩ = some (.bool false) ∧ x'.cell? ⟨w2.heap.size, 3, none⟩ = some (.int .i64 st) ∧ x'.cell? ⟨w2.heap.size, 4, none⟩ = some (.bool true) ∧ x'.cell? ⟨X, 2, none⟩ = some (.slice (some ⟨gN, 0, none⟩) n cN) ∧ x'.cell? ⟨B0, 0, none⟩ = some (.slice (some ⟨g1, o1, none⟩) ls.length sc) ∧ x'.cell? ⟨gN, k, none⟩ = some (.pointer (some ⟨qs k, 0, none⟩)) ∧ x'.cell? ⟨gi, J, none⟩ = some (.int .u64 0) ∧ x'.cell? ⟨g1, o1 + k, none⟩ = some (.slice io rl ic)) (first | exact ⟨t1, t3, t4, x2', z0, y0', i4, x1⟩ | go_keep)
        (first
          | (go_at_call 33; refine (HO.out _ (below_drew (Below.refl _ _))).mono ?_; rintro e wq ⟨rfl, rfl⟩)
          | fail)
      refine NoPanic.normal ?_
      have t0' : w3.drew.cell? ⟨w2.heap.size, 0, none⟩ = some (.int .i64 bl) := t0
      clear t0 t1 t3 t4 x2' z0 y0' i4 x1 hw4 hJ1 hJ2 hJ3 hd1 hd2
      go_wp2_with fail
      exact ⟨⟨k + 1, by omega, by rw [HSM.out], by simp, HB3.out.drew⟩, by simp [RowKit.intOf]; omega⟩
    · obtain rfl : k = n := by omega
      rw [HRR.out.bl]
      have hki : ¬ (k : Int) < (k : Int) := by omega
      clear hsb
      have HM := hide (rfl : aw.length = aw.length)
      have a1 := cell_of HA2.out (i := 1) rfl
      go_wp2_with fail
      go_loopw [9] (fun t wq => ∃ m : Nat, m ≤ aw.length ∧ t = .int .i64 (m : Int) ∧ Below w1.heap.size w1 wq) (fun t _ => aw.length - (RowKit.intOf t).toNat)
      case atStart => exact ⟨0, Nat.zero_le _, rfl, HBQ.out⟩
      case round =>
        obtain ⟨m, hmn, rfl, hbr⟩ := hrel
        have HBR := hide hbr
        have HW4 := hide (H1.out.below hbr)
        have hA4 := (hbr.block _ (lt_of_heap HA1.out)).trans HA1.out
        have hX4 := (hbr.block _ (lt_of_heap HX1.out)).trans HX1.out
        clear hbr a1 x2
        have z0 : wr.cell? ⟨B0, 0, none⟩ = some (.slice so ls.length sc) := cell_of hA4 rfl
        have z1 : wr.cell? ⟨B0, 1, none⟩ = some (.slice ao aw.length ac) := cell_of hA4 rfl
        have x2 : wr.cell? ⟨X, 2, none⟩ = some (.slice (some ⟨gN, 0, none⟩) k cN) := cell_of hX4 rfl
        clear hA4 hX4 hki
        by_cases hlt2 : m < aw.length
        · have hmi : (m : Int) < (aw.length : Int) := by omega
          obtain ⟨gp, op, cp, hpe, hpc, hpv⟩ := (HAW.out wr HW4.out.bel).cellAt m hlt2
          simp only [Value.slice.injEq] at hpe
          obtain ⟨he1, he2, he3⟩ := hpe
          clear he2
          subst he1 he3
          obtain ⟨hq0, hq1⟩ := hok m hlt2
          obtain ⟨i, hi⟩ : ∃ i : Nat, at_ aw m = (i : Int) := ⟨(at_ aw m).toNat, by omega⟩
          have hmem : (i : Int) ∈ aw := by
            rw [← hi, show at_ aw m = aw[m] by simp [at_, hlt2]]
            exact List.getElem_mem hlt2
          rw [hi] at hpv hq0 hq1
          have hik : i < k := by omega
          have hal2 := HRR.out.al i hik hmem
          clear hi hmem
          obtain ⟨g1, o1, io, ic, e1, hg1, x1, hrow⟩ := (HRW.out wr HW4.out.bel).at i (by rw [← HN.out]; exact hik)
          subst e1
          have y0 := own_at (own_stayR HW4.out.rn (fun _ _ => rfl)) (ptrs_get qs hik) hik
          have HTL := hide (fun (x : GW wr) => tell_nd ((HW4.out.below x.bel).nd i hik).1 (HW4.out.inv.sys.wf i hik).ph (by have := HRR.out.bd i hik; omega))
          have htl : (ds i).told = .agg #[.int .i64 (ds i).bal, .bool false, .bool (ds i).black, .int .i64 ((rowL ls i).length : Int), .bool true] := by
            unfold Nd.told; rw [(HRR.out.qt i hik).1, decide_eq_true (HRR.out.ov i hik), hal2]
          rw [htl] at HTL
          clear htl hrow hal2
          generalize (rowL ls i).length = rl at x1 HTL
          generalize (ds i).bal = bl at HTL
          generalize (ds i).black = bk at HTL
          have hfl : ∀ w, (Instr.field 51 (.agg #[.int .i64 bl, .bool false, .bool bk, .int .i64 (rl : Int), .bool true]) 3).run Tryz.prog w = .ok (.int .i64 (rl : Int)) w := fun w => field51_3 _ _ _ _ _ w
          have hnq : ((rl : Int) != (rl : Int)) = false := by simp
          have hil : (i : Int) < (ls.length : Int) := by have := HN.out; omega
          have Z0 := fun (x : GW wr) => (below_cell x.bel (block_of_cell z0)).trans z0
          have Z1 := fun (x : GW wr) => (below_cell x.bel (block_of_cell z1)).trans z1
          have X2 := fun (x : GW wr) => (below_cell x.bel (block_of_cell x2)).trans x2
          have Y0 := fun (x : GW wr) => (below_cell x.bel (block_of_cell y0)).trans y0
          have X1 := fun (x : GW wr) => (below_cell x.bel (block_of_cell x1)).trans x1
          have PV := fun (x : GW wr) => (below_cell x.bel (block_of_cell hpv)).trans hpv
          go_upto_region 15 with fail
          clear z0 z1 x2 y0 x1 hpv hpc
          refine wp_region_gw (by kernel_rfl) (by kernel_rfl) ?_
          repeat (go_big_quiet_step (first
            | (go_at_call 16; exact gw_of (HTL.out _))
            | rfl))
          refine wpQuiet_nil ?_
          intro _ hw'
          obtain ⟨x, hw''⟩ := hw'
          subst hw''
          go_wp2_with fail
          exact ⟨⟨m + 1, by omega, by simp, below_on HBR.out x.bel⟩, by simp [RowKit.intOf]; omega⟩
        · have hmi : ¬ (m : Int) < (aw.length : Int) := by omega
          go_wp2_with fail
          go_ret
          exact ⟨rfl, HW4.out, HCI.out.trans (Chg.of_below HBR.out)⟩
theorem rested_any (v0 v1 : Value) (bu : Int) (ls : List (List Int)) (aw : List Int) {gN cN : Nat} (h : LMm w wr X b gc Y Z n lb sb lv s (.slice (some ⟨gN, 0, none⟩) n cN) qs rs sv gs ds mv K) (hr : RwsI w v0 ls) (ha : RowAt .i64 w v1 aw) (hn : n = ls.length) (hok : okN n aw) (hal : aw.length ≤ 17592186043904) (hR : Rst n ls aw ds s.cells) :
    Calls Tryz.prog 18 #[.pointer (some ⟨X, 0, none⟩), .agg #[v0, v1, .int .i64 bu]] wr fun r w' => r = .returned (.bool true) ∧ LMm w w' X b gc Y Z n lb sb lv s (.slice (some ⟨gN, 0, none⟩) n cN) qs rs sv gs ds mv K :=
  (rested_full v0 v1 bu ls aw h hr ha hn hok hal hR).mono fun _ _ q => ⟨q.1, q.2.1⟩
end
end Go.Proofs.YtdjkidgkeekenaaGreat
