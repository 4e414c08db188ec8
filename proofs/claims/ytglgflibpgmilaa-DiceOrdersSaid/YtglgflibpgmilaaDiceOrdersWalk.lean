/- DiceOrders: the walk. -/
import Derived.Test.YtglgflibpgmilaaOrders
namespace Go.Proofs.Ytglgflibpgmilaa
open Go.RowKit Go.Lib

theorem nil_row (w : World) : RowAt .i64 w (.slice none 0 0) [] := ⟨none, 0, rfl, Nat.le_refl _, by decide, fun _ => rfl, fun a h => by cases h⟩

set_option maxRecDepth 100000 in
set_option maxHeartbeats 2000000 in
theorem orders_bad (seed : Nat) (v : Value) (ws : List Int) (n code : Int) (w : World) (hv : RowAt .u64 w v ws) (hbig : ws.length * 8 ≤ 140737488355328) (hs : seed < 18446744073709551616) (hc : (code == 0) = false)
    (hO : ∀ W p, Calls Try.prog 29 #[p, .int .i64 n] W fun e w' => e = .returned (.tuple #[.slice none 0 0, .int .i64 code]) ∧ w' = W)
    (hR : ∀ W p, Calls Try.prog 30 #[p, .int .i64 n] W fun e w' => e = .returned (.tuple #[.slice none 0 0, .int .i64 code]) ∧ w' = W) :
    Calls Try.prog 5 #[.int .u64 seed, v, .int .i64 n] w fun e w' => e = .returned (.bool true) ∧ Below w.heap.size w w' := by
  have HV := hide hv; have HO := hide hO; have HR := hide hR
  have hsh : ∃ a l c, v = .slice a l c := by obtain ⟨a, c, rfl, _⟩ := hv; exact ⟨a, _, c, rfl⟩
  obtain ⟨a, l, c, rfl⟩ := hsh
  clear hv hO hR
  go_enter Try.func5, Try.ntmps5
  go_wp2_with fail
  refine (new_any seed _ _ _ HV.out hbig hs).mono ?_
  rintro e w1 ⟨b1, v1, rfl, hb, hh, hw, hbel⟩
  have hd : DiceIs w1 b1 ws (newSt seed) 0 := ⟨_, v1, hh, hw, .inl rfl⟩
  have HD := hide hd; have HL := hide hbel; have HV1 := hide (row_below HV.out hbel)
  clear hh hw hbel hd
  go_wp2_with fail
  refine (refNew_any seed _ _ _ HV1.out hbig hs).mono ?_
  rintro e w2 ⟨b2, rfl, hb2, hr, hbel⟩
  have HD2 := hide (HD.out.below hbel); have HL2 := hide (HL.out.trans (hbel.mono HL.out.size)); have HR2 := hide hr
  clear hr hbel HD HL HV1
  go_wp2_with fail
  refine (HO.out _ _).mono ?_
  rintro e w2 ⟨rfl, rfl⟩
  go_wp2_with fail
  refine (HR.out _ _).mono ?_
  rintro e w2 ⟨rfl, rfl⟩
  go_wp2_with fail
  have c1 := GW.drawn HR2.out
  refine wp_region_gw (by kernel_rfl) (by kernel_rfl) ?_
  repeat (go_big_quiet_step (first
    | (go_at_call 31; exact gw_of (same_empty _ _ _ (nil_row _) (nil_row _)))
    | (go_at_call 16; exact gw_same (no_any _ _))
    | (go_at_call 20; exact gw_same (used_dice _ b1 _ _ _ (HD2.out.below (GW.bel _))))
    | rfl))
  refine wpQuiet_nil ?_
  intro _ hw'
  obtain ⟨x, hw''⟩ := hw'
  subst hw''
  go_wp2_with fail
  go_ret
  exact ⟨rfl, HL2.out.trans (x.bel.mono HL2.out.size)⟩

theorem Try.info4 : (Try.prog.info? 4).map (fun i => (i.zero, i.size, i.bytes)) = some (some (.bool false), 1, 1) := by kernel_rfl

/-- Both dice have drawn the same, and a list lies there. -/
structure Pair (w W : World) (b1 b2 g n base : Nat) (all l : List Int) (s : St) (u : Nat) : Prop where
  d : DiceIs W b1 (all.drop u) s u
  r : RefIs W base b2 all s u
  a : Arr W g l
  bel : Below w.heap.size w W
  h1 : w.heap.size ≤ b1
  h2 : b1 < base
  h3 : base ≤ b2
  h4 : b2 < g
  ok : s.Ok

theorem Pair.below {w W W' : World} {b1 b2 g n base : Nat} {all l : List Int} {s : St} {u : Nat} (h : Pair w W b1 b2 g n base all l s u) (k : Below W.heap.size W W') : Pair w W' b1 b2 g n base all l s u :=
  ⟨h.d.below k, h.r.below k, h.a.below k h.a.lt, h.bel.trans (k.mono h.bel.size), h.h1, h.h2, h.h3, h.h4, h.ok⟩

theorem shuf_facts (all : List Int) (s : St) (u : Nat) (hs : s.Ok) : ∀ (i : Nat) (l : List Int), (shuf i (all.drop u) s l).1 = all.drop (u + i) ∧ (shuf i (all.drop u) s l).2.1.Ok := by
  intro i
  induction i generalizing u s with
  | zero => intro l; exact ⟨rfl, hs⟩
  | succ i ih =>
    intro l
    simp only [shuf, List.tail_drop]
    have := ih (stLeft (all.drop u) s) (u + 1) (stLeft_ok hs) (swap l (i + 1) (pick (drawn (all.drop u) s) (i + 2)))
    rw [show u + 1 + i = u + (i + 1) by omega] at this
    exact this

theorem orders_app {w w8 wr w9 : World} {v' v8 : Value} {n g g2 wn : Nat} {L2 : List Int} {o : Obj} (hL8 : Below w.heap.size w w8) (hB : But g w8 wr) (hgw : w.heap.size ≤ g)
    (hown : w9.ownsRow w.heap.size 3 1 v' (n + 1) (List.replicate n (Value.int .i64 (-3)) ++ [Value.int .i64 (-3)]))
    (hgrow : (wr.alloc o).grownBy w9 (Value.slice (some ⟨g, 0, none⟩) n n).ownBlock)
    (hrow : RowAt .i64 w8 v8 L2) (hrow2 : RowAt .i64 w8 (.slice (some ⟨g2, 0, none⟩) n n) L2) (hnew : ∀ a l c, v8 = .slice (some a) l c → wn ≤ a.block) (hg : g < wn) (hg2 : g < g2) :
    (∃ g' cap, v' = .slice (some ⟨g', 0, none⟩) (n + 1) cap ∧ n + 1 ≤ cap ∧ PreArr w9 g' (List.replicate (n + 1) (-3))) ∧ RowAt .i64 w9 v8 L2 ∧ RowAt .i64 w9 (.slice (some ⟨g2, 0, none⟩) n n) L2 ∧ Below w.heap.size w w9 := by
  have hsz := hB.size
  have hkeep : ∀ i, i < w8.heap.size → i ≠ g → w9.heap[i]? = w8.heap[i]? := by
    intro i hi hig
    rw [hgrow.block i (by simp; omega) (by simp [Value.ownBlock]; omega), Below.heap_alloc wr o i (by omega)]
    exact hB.block i hi hig
  have hLr := But.below hL8 hB hgw hL8.size
  refine ⟨?_, hrow.keep hnew hg hkeep, hrow2.keep (B := g2) (fun a l c h => by cases h; exact Nat.le_refl _) hg2 hkeep, ?_⟩
  · obtain ⟨_, ⟨_, h0⟩ | ⟨g', cap, cur, rfl, hg', hh, hnc, hcm, hcur, htake⟩⟩ := hown
    · omega
    · refine ⟨g', cap, rfl, hnc, cur, hh, fun i hi => ?_⟩
      rw [List.length_replicate] at hi
      have e0 : List.replicate n (Value.int .i64 (-3)) ++ [Value.int .i64 (-3)] = List.replicate (n + 1) (Value.int .i64 (-3)) := by rw [List.replicate_succ']
      rw [e0] at htake
      have e1 : (cur.toList.take ((n + 1) * 1))[i]? = (List.replicate (n + 1) (Value.int .i64 (-3)))[i]? := by rw [htake]
      rw [List.getElem?_take_of_lt (by omega)] at e1
      have e2 : cur[i]? = cur.toList[i]? := by simp
      rw [e2, e1, List.getElem?_replicate, List.getElem?_replicate, if_pos hi, if_pos hi]
      rfl
  · refine (hLr.alloc hLr.size _).grown hgrow (by have := hLr.size; simp; omega) ?_
    intro j hj
    simp [Value.ownBlock] at hj
    omega

set_option maxRecDepth 100000 in
set_option maxHeartbeats 4000000 in
theorem orders_good (seed : Nat) (v : Value) (ws : List Int) (n : Nat) (w : World) (hv : RowAt .u64 w v ws) (hws : Words ws) (hbig : ws.length * 8 ≤ 140737488355328) (hs : seed < 18446744073709551616) (hn : n ≤ 1048576) :
    Calls Try.prog 5 #[.int .u64 seed, v, .int .i64 n] w fun e w' => e = .returned (.bool true) ∧ Below w.heap.size w w' := by
  obtain ⟨i0, hi, hz0, hz1, hz2⟩ := info_parts Try.info3
  obtain ⟨j0, hj, hy0, hy1, hy2⟩ := info_parts Try.info4
  have HV := hide hv; have HWS := hide hws
  have hsh : ∃ a l c, v = .slice a l c := by obtain ⟨a, c, rfl, _⟩ := hv; exact ⟨a, _, c, rfl⟩
  obtain ⟨a, l, c, rfl⟩ := hsh
  clear hv hws
  go_enter Try.func5, Try.ntmps5
  go_wp2_with fail
  refine (new_any seed _ _ _ HV.out hbig hs).mono ?_
  rintro e w1 ⟨b1, v1, rfl, hb, hh, hw, hbel⟩
  have hd : DiceIs w1 b1 ws (newSt seed) 0 := ⟨_, v1, hh, hw, .inl rfl⟩
  have HD := hide hd; have HL := hide hbel; have HV1 := hide (row_below HV.out hbel)
  have hb1 := hd.lt
  clear hh hw hbel hd
  go_wp2_with fail
  refine (refNew_any seed _ _ _ HV1.out hbig hs).mono ?_
  rintro e w2 ⟨b2, rfl, hb2, hr, hbel⟩
  have HD2 := hide (HD.out.below hbel); have HL2 := hide (HL.out.trans (hbel.mono HL.out.size)); have HR2 := hide hr
  have hb3 := hr.lt
  clear hr hbel HD HL HV1
  obtain ⟨F, hF⟩ : ∃ F, F = shuf (n - 1) (ws.drop 0) (newSt seed) (iota n) := ⟨_, rfl⟩
  have hfine : Fine n F.2.2 := hF ▸ fine_shuf (n - 1) (Nat.le_refl _) _ _ _ (HWS.out.drop 0) (fine_iota n)
  have hfacts := shuf_facts ws (newSt seed) 0 (newSt_ok seed) (n - 1) (iota n)
  rw [← hF] at hfacts
  have ho1 := order_any w2 b1 n (ws.drop 0) (newSt seed) 0 HD2.out (newSt_ok seed) (HWS.out.drop 0) (by omega) (by omega) hn
  have ho2 := fun W (h : RefIs W w1.heap.size b2 ws (newSt seed) 0) => refOrder_any W w1.heap.size b2 n ws (newSt seed) 0 h (newSt_ok seed) HWS.out (by omega) (by omega) hn
  unfold OrderPost at ho1
  unfold RefOrderPost at ho2
  rw [← hF] at ho1
  rw [← hF] at ho2
  obtain ⟨ws1, s1, L⟩ := F
  simp only at hfine hfacts ho1 ho2
  obtain ⟨rfl, hok1⟩ := hfacts
  have HO1 := hide ho1; have HO2 := hide ho2; have HFine := hide hfine
  clear ho1 ho2 hfine hF
  go_wp2_with fail
  refine HO1.out.mono ?_
  rintro e w3 ⟨g, rfl, hg, hA, hd3, hbut⟩
  have HR3 := hide (HR2.out.ahead hbut (by omega)); have HL3 := hide (But.below HL2.out hbut hb HL2.out.size)
  have HA := hide hA; have HD3 := hide hd3
  clear hbut hA hd3 HO1 HR2 HL2 HD2
  go_wp2_with fail
  refine (HO2.out _ HR3.out).mono ?_
  rintro e w4 ⟨v4, rfl, hnew, hrow, hr4, hbut⟩
  have hrow2 : RowAt .i64 w4 (.slice (some ⟨g, 0, none⟩) n n) L := by
    have := RowAt.owned (l := L) (((HA.out.but hbut (by omega)).owned (B := 0) rfl (by omega) (by rw [HFine.out.len]; exact hn)))
    rw [HFine.out.len] at this
    exact this
  have HP4 : Hid (Pair w w4 b1 b2 g n w1.heap.size ws L s1 (0 + (n - 1))) := ⟨by have := HD3.out.beyond hbut (by omega); simpa using this, hr4, HA.out.but hbut (by omega), But.below HL3.out hbut (by have := HL3.out.size; omega) HL3.out.size, hb, hb1, hb2, by omega, hok1⟩
  have HW4 := hide hrow; have HW4' := hide hrow2
  clear hrow hrow2 hr4 hbut hnew HR3 HL3 HA HD3 HO2
  go_wp2_with fail
  have c1 := GW.drawn HP4.out.r
  refine wp_region_gw (by kernel_rfl) (by kernel_rfl) ?_
  repeat (go_big_quiet_step (first
    | (go_at_call 31; exact gw_of (same_any _ _ L _ (row_below HW4'.out (GW.bel _)) (row_below HW4.out (GW.bel _))))
    | (go_at_call 16; exact gw_same (no_any _ _))
    | (go_at_call 20; exact gw_same (used_dice _ b1 _ _ _ (HP4.out.d.below (GW.bel _))))
    | rfl))
  refine wpQuiet_nil ?_
  intro _ hw'
  obtain ⟨x, hw''⟩ := hw'
  subst hw''
  have HP5 := hide (HP4.out.below x.bel)
  clear c1 HP4 HW4 HW4'
  obtain ⟨w5, hw5⟩ := x
  have hw5 := HP5.out.bel.size
  go_wp2_with (at_make; refine wpList_make_full _ rfl _ _ 64 rfl w5.heap.size 4 j0 (.bool false) 1 Try.underlying64 hj hy0 hy1 _ _ _ _ n rfl rfl rfl rfl (by rw [hy2]; omega) (by unfold maxLen; omega) (Nat.le_refl _) ?_; intro w6 hown hgrow)
  have HS := hide (made_seen (l := L) hown)
  have HL6 := hide ((Below.refl w5.heap.size w5).grown hgrow (Nat.le_refl _) (by intro k hk; cases hk))
  clear hown hgrow
  go_loopw [14] (fun i wr => ∃ k : Nat, k ≤ n ∧ i = .int .i64 k ∧ SeenAt wr w5.heap.size n (met L k) ∧ Below w5.heap.size w5 wr) (fun i _ => n - (RowKit.intOf i).toNat)
  case atStart => exact ⟨0, by omega, rfl, HS.out, HL6.out⟩
  case round =>
    clear HS HL6
    obtain ⟨k, hk, rfl, hS, hL⟩ := hrel
    by_cases hlt : k < n
    · obtain ⟨x, hx, hxn⟩ := HFine.out.at_ k hlt
      have ck := (HP5.out.a.below hL HP5.out.a.lt).cell k (by rw [HFine.out.len]; exact hlt)
      rw [hx] at ck
      have cx := hS.cell x hxn
      rw [met_no HFine.out k x hlt hx] at cx
      have fx := hS.free x
      have HX := hide hx; have HS := hide hS; have HL := hide hL
      clear hx hS hL
      have d1 : decide ((x : Int) < 0) = false := by simp
      have d2 : decide ((n : Int) ≤ (x : Int)) = false := by simp; omega
      go_wp2
      go_roundw
      case rel => exact ⟨k + 1, by omega, by go_num, HS.out.set HX.out, HL.out.setCell (Nat.le_refl _) _⟩
      case measure => simp [RowKit.intOf]; omega
    · obtain rfl : n = k := by omega
      have HP6 := hide (HP5.out.below hL)
      clear hS hL hlt hk HP5
      obtain ⟨F, hF⟩ : ∃ F, F = shuf (n - 1) (ws.drop (0 + (n - 1))) s1 (iota n) := ⟨_, rfl⟩
      have hfine2 : Fine n F.2.2 := hF ▸ fine_shuf (n - 1) (Nat.le_refl _) _ _ _ (HWS.out.drop _) (fine_iota n)
      have ho1 := order_any wr b1 n (ws.drop (0 + (n - 1))) s1 ((0 + (n - 1) : Nat) : Int) HP6.out.d hok1 (HWS.out.drop _) (by omega) (by omega) hn
      have ho2 := fun W (h : RefIs W w1.heap.size b2 ws s1 (0 + (n - 1))) => refOrder_any W w1.heap.size b2 n ws s1 (0 + (n - 1)) h hok1 HWS.out (by omega) (by omega) hn
      unfold OrderPost at ho1
      unfold RefOrderPost at ho2
      rw [← hF] at ho1
      rw [← hF] at ho2
      obtain ⟨ws2, s2, L2⟩ := F
      simp only at hfine2 ho1 ho2
      have HO1 := hide ho1; have HO2 := hide ho2; have HLen2 := hide hfine2.len
      clear ho1 ho2 hfine2 hF
      have hgb1 := HP6.out.h4; have hgs := HP6.out.a.lt
      have hb2s := HP6.out.r.lt
      go_wp2_with fail
      refine HO1.out.mono ?_
      rintro e w7 ⟨g2, rfl, hg2, hA2, _, hbut⟩
      have HA2 := hide hA2; have HA7 := hide (HP6.out.a.but hbut (by omega)); have HR7 := hide (HP6.out.r.ahead hbut (by omega)); have HL7 := hide (But.below HP6.out.bel hbut hb HP6.out.bel.size)
      have hs7 := hbut.size
      clear hA2 hbut HO1 HP6
      go_wp2_with fail
      refine (HO2.out _ HR7.out).mono ?_
      rintro e w8 ⟨v8, rfl, hnew, hrow, _, hbut⟩
      have hsh : ∃ a l c, v8 = .slice a l c := by obtain ⟨a, c, rfl, _⟩ := hrow; exact ⟨a, _, c, rfl⟩
      obtain ⟨a8, l8, c8, rfl⟩ := hsh
      have hA8 := HA7.out.but hbut (by omega)
      have hrow2 : RowAt .i64 w8 (.slice (some ⟨g2, 0, none⟩) n n) L2 := by
        have := RowAt.owned (l := L2) (((HA2.out.but hbut (by omega)).owned (B := 0) rfl (by omega) (by rw [HLen2.out]; exact hn)))
        rw [HLen2.out] at this
        exact this
      have HA8 := hide hA8; have HRow := hide hrow; have HRow2 := hide hrow2; have HL8 := hide (But.below HL7.out hbut (by omega) HL7.out.size); have HNew := hide hnew
      have hs8 := hbut.size
      clear hA8 hrow hrow2 hnew hbut HA7 HA2 HR7 HL7 HO2
      go_wp2_with fail
      go_loopw [19] (fun i wr' => ∃ k : Nat, k ≤ n ∧ i = .int .i64 k ∧ Arr wr' g (neg n L k) ∧ But g w8 wr') (fun i _ => n - (RowKit.intOf i).toNat)
      case atStart => exact ⟨0, by omega, rfl, by rw [neg_zero HFine.out.len]; exact HA8.out, But.refl _ _⟩
      case round =>
        clear HA8
        obtain ⟨k, hk, rfl, hA, hB⟩ := hrel
        by_cases hlt : k < n
        · have ck := hA.cell k (by rw [neg_length]; exact hlt)
          have fk := hA.free k
          have HA := hide hA; have HB := hide hB
          clear hA hB
          go_wp2
          go_roundw
          case rel =>
            refine ⟨k + 1, by omega, by go_num, ?_, HB.out.trans (But.setCell _ ⟨g, k, none⟩ _)⟩
            rw [← neg_succ]
            exact HA.out.set k _
          case measure => simp [RowKit.intOf]; omega
        · obtain rfl : n = k := by omega
          rw [neg_full] at hA
          have hgw : w.heap.size ≤ g := by omega
          have HO := hide (hA.owned (B := w.heap.size) (by simp) hgw hn)
          have HB := hide hB
          have hsz : w.heap.size ≤ wr.heap.size := by have := HL8.out.size; have := hB.size; omega
          clear hA hB hlt hk
          go_wp2_with (at_builtin; refine wpList_append_own _ rfl _ _ 58 rfl w.heap.size 3 i0 (.int .i64 0) 1 8 Try.underlying58 hi hz0 hz1 hz2 rfl (by decide) _ _ _ rfl (HO.out.alloc _) ⟨wr.heap.size, 0, none⟩ 1 1 [.int .i64 (-3)] rfl rfl ?c1 ?c2 ?c3 ?c4 ?c5 ?_)
          case c1 =>
            intro j u hj
            match j, hj with
            | 0, hj => simp at hj; subst hj; simp [Addr.add]
          case c2 => intro u hu; simp at hu; subst hu; rfl
          case c3 => unfold maxLen; omega
          case c4 => omega
          case c5 => simp; omega
          intro v' w9 hown' hgrow _
          have hall := orders_app HL8.out HB.out hgw hown' hgrow HRow.out HRow2.out HNew.out (by omega) (by omega)
          obtain ⟨⟨g', cap, rfl, hcap, hP⟩, hrw, hrw2, hL9⟩ := hall
          have HP := hide hP; have HRw := hide hrw; have HRw2 := hide hrw2; have HL9 := hide hL9
          clear hP hrw hrw2 hL9 hown' hgrow HRow HRow2 HNew HL8 HO HB
          go_wp2_with fail
          go_loopw [21] (fun i wr' => ∃ k : Nat, k ≤ n + 1 ∧ i = .int .i64 k ∧ wr' = w9) (fun i _ => n + 1 - (RowKit.intOf i).toNat)
          case atStart => exact ⟨0, by omega, rfl, rfl⟩
          case round =>
            obtain ⟨k, hk, rfl, rfl⟩ := hrel
            by_cases hlt : k < n + 1
            · have ck := HP.out.cell k (by simpa using hlt)
              rw [List.getElem?_replicate, if_pos hlt] at ck
              have bk : (k : Int) < (n : Int) + 1 := by omega
              go_wp2
              go_roundw
              case rel => exact ⟨k + 1, by omega, by go_num, trivial⟩
              case measure => simp [RowKit.intOf]; omega
            · have bk : ¬ (k : Int) < (n : Int) + 1 := by omega
              clear hlt
              go_wp2_with fail
              refine (same_any _ _ L2 _ HRw2.out HRw.out).mono ?_
              rintro e w10 ⟨rfl, hbel⟩
              have HL10 := hide (HL9.out.trans (hbel.mono HL9.out.size))
              clear hbel
              go_wp2_with fail
              go_ret
              exact ⟨rfl, HL10.out⟩
end Go.Proofs.Ytglgflibpgmilaa
