/- ArenaStops: the walk. -/
import Derived.Test.YtfgchkkljlbmcaaStopsHelp
namespace Go.Proofs.Ytfgchkkljlbmcaa
open Go.RowKit Go.Lib Go.MuLone

set_option maxRecDepth 100000 in
set_option maxHeartbeats 2000000 in
theorem stops_walk (n : Int) (ao : Option Addr) (len cap : Nat) (fa fb fc ga gb gd : Int) (ops : Nat → Opr) (w : World) (hlen : (len : Int) ≤ 17592186044416) (hcap : len ≤ cap) (hsc : Script w ao len ops) :
    Calls Try.prog 8 #[.int .i64 n, .slice ao len cap, .agg #[.int .i64 fa, .int .i64 fb, .int .i64 fc], .agg #[.int .i64 ga, .int .i64 gb, .int .i64 gd]] w fun r w' => r = .returned (.bool true) ∧ Below w.heap.size w w' := by
  have HS := hide hsc
  clear hsc
  go_enter Try.func8, Try.ntmps8
  go_wp2_with fail
  refine (heads_any _).mono ?_
  rintro e w1 ⟨rfl, hb1⟩
  have HB1 := hide (two_boxes hb1)
  clear hb1
  go_wp2_with fail
  refine (room_any n 4 _ (by decide)).mono ?_
  rintro e w2 ⟨b, gc, pv, ps, rfl, hps, hroom⟩
  have HR := hide hroom
  clear hroom
  obtain ⟨p0, p1, p2, p3, rfl⟩ : ∃ a b c d, ps = [a, b, c, d] := by
    match ps, hps with
    | [a, b, c, d], _ => exact ⟨a, b, c, d, rfl⟩
  clear hps
  obtain ⟨g, c, rfl, hc4, hcell⟩ := HR.out.cells (by simp)
  have hg4 : (4 : Int) ≤ c := by have : 4 ≤ c := hc4; omega
  clear hcell hc4
  obtain ⟨S, hS⟩ : ∃ S, S = Ast.new (1 + (n % 8).toNat) true := ⟨_, rfl⟩
  have HSS := hide hS
  rw [← hS] at HR
  clear hS
  generalize hY : w2.heap.size = Y at HR
  clear hY
  have HR0 : Hid (Room w1 w2 Y b gc (.slice none 0 0) S (.slice (some ⟨g, 0, none⟩) 4 c) [p0, p1, p2, p3] (fun i => decide (i < 0))) := by
    have : (fun i => decide (i < 0)) = fun _ : Nat => false := by funext i; simp
    rw [this]; exact HR
  clear HR
  go_wp2_with fail
  go_loopw [11] (fun t wr => ∃ k : Nat, k ≤ 4 ∧ t = .int .i64 k ∧ Hid (Room w1 wr Y b gc (.slice none 0 0) S (.slice (some ⟨g, 0, none⟩) 4 c) [p0, p1, p2, p3] (fun i => decide (i < k)))) (fun t _ => 4 - (RowKit.intOf t).toNat)
  case atStart => exact ⟨0, by omega, rfl, HR0⟩
  case round =>
    clear HR0
    obtain ⟨k, hk, rfl, HI⟩ := hrel
    by_cases hlt : k < 4
    · obtain ⟨p, hp⟩ : ∃ p, [p0, p1, p2, p3][k]? = some p := ⟨_, List.getElem?_eq_getElem (by simpa using hlt)⟩
      obtain ⟨g', c', he, _, hcell⟩ := HI.out.cells (by simp)
      simp only [Value.slice.injEq, Option.some.injEq, Addr.mk.injEq] at he
      obtain ⟨⟨rfl, _⟩, _, rfl⟩ := he
      have e1 := hcell k p hp
      have HG := hide (HI.out.grant hp)
      have hk4 : (k : Int) < 4 := by omega
      clear hcell hp HI
      go_wp2_with fail
      refine HG.out.mono ?_
      rintro e w3 ⟨rfl, h3⟩
      rw [grant_fn] at h3
      have H3 := hide h3
      clear h3 HG
      go_wp2_with fail
      go_roundw
      case rel => exact ⟨k + 1, by omega, by go_num, H3⟩
      case measure => simp [RowKit.intOf]; omega
    · obtain rfl : k = 4 := by omega
      obtain ⟨f0, f1, f2⟩ := box3 HB1.out.1 HI.out.bel
      go_wp2_with fail
      refine (stopCall_any Y b gc _ S fa fb fc _ HI.out.ar).mono ?_
      rintro e w3 ⟨rfl, ha3, k3⟩
      have H3 := hide (HI.out.look k3 ha3 (fun i hi => .inl hi))
      clear ha3 k3 HI f0 f1 f2
      obtain ⟨f0, f1, f2⟩ := box3 HB1.out.2.1 H3.out.bel
      go_wp2_with fail
      refine (stopCall_any Y b gc _ _ ga gb gd _ H3.out.ar).mono ?_
      rintro e w4 ⟨rfl, ha4, k4⟩
      have hst : (S.stop fa fb fc).stop ga gb gd = stSt S S.cells fa fb fc := by rw [HSS.out]; rfl
      rw [hst] at ha4
      have H4 := hide (H3.out.look k4 ha4 (fun i hi => .inl hi))
      clear ha4 k4 H3 f0 f1 f2 hst
      go_wp2_with fail
      refine (image_any Y b gc _ _ _ H4.out.ar).mono ?_
      rintro e w5 ⟨wv, rfl, hown, ha5, k5⟩
      have H5 : Hid (StopsIs w1 w5 Y b gc S S.cells fa fb fc (.slice (some ⟨g, 0, none⟩) 4 c) [p0, p1, p2, p3] w4.heap.size wv) :=
        ⟨⟨_, H4.out.look k5 ha5 (fun i hi => .inl hi)⟩, hown, lt_of_heap H4.out.ar.hc, H4.out.bel.size⟩
      clear hown ha5 k5 H4
      obtain ⟨NN, hNN⟩ : ∃ NN, S.cells.length = NN := ⟨_, rfl⟩
      have hNp : 0 < NN := by rw [← hNN, HSS.out]; simp [Ast.new]; omega
      have hN8 : (NN : Int) ≤ 8 := by rw [← hNN, HSS.out]; simp [Ast.new]; omega
      obtain ⟨gw, cw, rfl, hcw⟩ : ∃ gw cw, wv = .slice (some ⟨gw, 0, none⟩) NN cw ∧ NN ≤ cw := by
        obtain ⟨_, ⟨_, h0⟩ | ⟨g, cap, cur, rfl, hg, hh, hnc, hcm, hcur, htake⟩⟩ := H5.out.was
        · omega
        · exact ⟨g, cap, by rw [hNN], by rw [← hNN]; exact hnc⟩
      generalize w4.heap.size = B at H5
      go_wp2_with fail
      go_loopw [13] (fun t wr => ∃ k : Nat, k ≤ len ∧ t = .int .i64 k ∧ ∃ cells : List Int, cells.length = NN ∧ Hid (StopsIs w1 wr Y b gc S cells fa fb fc (.slice (some ⟨g, 0, none⟩) 4 c) [p0, p1, p2, p3] B (.slice (some ⟨gw, 0, none⟩) NN cw))) (fun t _ => len - (RowKit.intOf t).toNat)
      case atStart => exact ⟨0, by omega, rfl, S.cells, hNN, H5⟩
      case round =>
        clear H5
        obtain ⟨k, hk, rfl, cells, hcl, HI⟩ := hrel
        by_cases hlt : k < len
        · obtain ⟨lv, R⟩ := HI.out.ex
          obtain ⟨gq, oq, rfl, hgq, hoc⟩ := ((HS.out.below HB1.out.2.2.2).below R.bel) k hlt
          obtain ⟨⟨kind, second, port, cell, want, put, xa, xb, xc⟩, hops⟩ : ∃ o, ops k = o := ⟨_, rfl⟩
          rw [hops] at hoc
          have o0 : wr.cell? ⟨gq, oq + k * 9, none⟩ = some (.int .i64 kind) := hoc 0 _ rfl
          have o1 : wr.cell? ⟨gq, oq + k * 9 + 1, none⟩ = some (.bool second) := hoc 1 _ rfl
          have o2 : wr.cell? ⟨gq, oq + k * 9 + 2, none⟩ = some (.int .i64 port) := hoc 2 _ rfl
          have o3 : wr.cell? ⟨gq, oq + k * 9 + 3, none⟩ = some (.int .i64 cell) := hoc 3 _ rfl
          have o4 : wr.cell? ⟨gq, oq + k * 9 + 4, none⟩ = some (.int .u64 want) := hoc 4 _ rfl
          have o5 : wr.cell? ⟨gq, oq + k * 9 + 5, none⟩ = some (.int .u64 put) := hoc 5 _ rfl
          have o6 : wr.cell? ⟨gq, oq + k * 9 + 6, none⟩ = some (.int .i64 xa) := hoc 6 _ rfl
          have o7 : wr.cell? ⟨gq, oq + k * 9 + 7, none⟩ = some (.int .i64 xb) := hoc 7 _ rfl
          have o8 : wr.cell? ⟨gq, oq + k * 9 + 8, none⟩ = some (.int .i64 xc) := hoc 8 _ rfl
          obtain ⟨j, hj⟩ : ∃ j : Nat, port % 4 = (j : Int) := ⟨(port % 4).toNat, by omega⟩
          have hj4 : j < 4 := by omega
          obtain ⟨p, hp⟩ : ∃ p, [p0, p1, p2, p3][j]? = some p := ⟨_, List.getElem?_eq_getElem (by simpa using hj4)⟩
          obtain ⟨g', c', he, _, hcell⟩ := R.cells (by simp)
          simp only [Value.slice.injEq, Option.some.injEq, Addr.mk.injEq] at he
          obtain ⟨⟨rfl, _⟩, _, rfl⟩ := he
          have e1 := hcell j p hp
          have hgs : g < wr.heap.size := by
            have := (owns_lt R.row (k := g) rfl).2
            exact this
          have hj4' : (j : Int) < 4 := by omega
          have RR := hide R
          have HP := hide hp
          have HJ4 := hide hj4
          clear hoc hops hcell hp R hj4
          go_wp2_with fail
          refine (index_any _ 4 _ (by decide) (by decide)).mono ?_
          rintro e w' ⟨rfl, hw⟩
          subst w'
          rw [hj]
          clear hj
          generalize hW : World.alloc _ _ = W
          have hA : W.heap[wr.heap.size]? = some (.cells #[.int .i64 kind, .bool second, .int .i64 port, .int .i64 cell, .int .u64 want, .int .u64 put, .int .i64 xa, .int .i64 xb, .int .i64 xc] 47 (0, 0)) := by rw [← hW]; exact heap_new _ _
          have hWb : Below wr.heap.size wr W := by rw [← hW]; exact (Below.refl _ _).alloc (Nat.le_refl _) _
          have e1' : W.cell? ⟨g, j, none⟩ = some (.pointer (some ⟨p, 0, none⟩)) := (hWb.cell (p := ⟨g, j, none⟩) hgs).trans e1
          have HI1 := hide (HI.out.news hWb)
          have HA := hide hA
          generalize hAA : wr.heap.size = A at *
          clear hW hWb hA e1 o0 o1 o2 o3 o4 o5 o6 o7 o8 HI RR hgq hgs
          have a0 : W.cell? ⟨A, 0, none⟩ = some (.int .i64 kind) := cell_of HA.out rfl
          have a3 : W.cell? ⟨A, 3, none⟩ = some (.int .i64 cell) := cell_of HA.out rfl
          by_cases hkr : 1 ≤ kind ∧ kind ≤ 5
          · obtain ⟨hk1, hk5⟩ := hkr
            have a1 : W.cell? ⟨A, 1, none⟩ = some (.bool second) := cell_of HA.out rfl
            have a2 : W.cell? ⟨A, 2, none⟩ = some (.int .i64 port) := cell_of HA.out rfl
            have a4 : W.cell? ⟨A, 4, none⟩ = some (.int .u64 want) := cell_of HA.out rfl
            have a5 : W.cell? ⟨A, 5, none⟩ = some (.int .u64 put) := cell_of HA.out rfl
            have a6 : W.cell? ⟨A, 6, none⟩ = some (.int .i64 xa) := cell_of HA.out rfl
            have a7 : W.cell? ⟨A, 7, none⟩ = some (.int .i64 xb) := cell_of HA.out rfl
            have a8 : W.cell? ⟨A, 8, none⟩ = some (.int .i64 xc) := cell_of HA.out rfl
            obtain ⟨lv2, R2⟩ := HI1.out.ex
            have hS2 : Still W Y b gc p lv2 (stSt S cells fa fb fc) j (decide (j < 4)) := ⟨R2.ar, (R2.po j p HP.out).1, R2.pb HP.out, rfl⟩
            have hAb : A ≠ b := ne_of_type HA.out R2.ar.hb (by decide)
            have HD := hide (do_still ⟨kind, second, port, cell, want, put, xa, xb, xc⟩ cell hS2 hk1 hk5)
            have HAb := hide hAb
            clear hS2 R2 hAb
            go_wp2_with fail
            refine HD.out.mono ?_
            rintro e w6 ⟨bb, rfl, hbb, ha6, k6⟩
            have H6 := hide (HI1.out.look ha6 k6)
            have A6 := hide (k6.heap HA.out HAb.out)
            have HBB := hide hbb
            clear ha6 k6 hbb HD a0 a1 a2 a3 a4 a5 a6 a7 a8 e1' HI1 HA
            have a0 : w6.cell? ⟨A, 0, none⟩ = some (.int .i64 kind) := cell_of A6.out rfl
            obtain ⟨lv3, R3⟩ := H6.out.ex
            have HG := hide (granted_any p Y b gc lv3 _ _ _ w6 R3.ar (R3.po j p HP.out).1 (R3.pb HP.out))
            clear R3
            by_cases hk3 : kind = 3
            · obtain rfl : bb = false := HBB.out hk3
              subst hk3
              go_wp2_with fail
              refine HG.out.mono ?_
              rintro e w7 ⟨rfl, ha7, k7, _⟩
              have H7 := hide (H6.out.look ha7 k7)
              have a0' : w7.cell? ⟨A, 0, none⟩ = some (.int .i64 3) := cell_of (k7.heap A6.out HAb.out) rfl
              rw [decide_eq_true HJ4.out]
              clear ha7 k7 a0 HG H6 A6
              go_wp2_with fail
              go_roundw
              case rel => exact ⟨k + 1, by omega, by go_num, cells, hcl, H7⟩
              case measure => simp [RowKit.intOf]; omega
            · have hk3' : (kind == 3) = false := by simp [hk3]
              go_wp2_with fail
              refine HG.out.mono ?_
              rintro e w7 ⟨rfl, ha7, k7, _⟩
              have H7 := hide (H6.out.look ha7 k7)
              have a0' : w7.cell? ⟨A, 0, none⟩ = some (.int .i64 kind) := cell_of (k7.heap A6.out HAb.out) rfl
              have hk10 : (kind == 10) = false := by simp; omega
              rw [decide_eq_true HJ4.out]
              clear ha7 k7 a0 HG H6 A6
              go_wp2_with fail
              go_roundw
              case rel => exact ⟨k + 1, by omega, by go_num, cells, hcl, H7⟩
              case measure => simp [RowKit.intOf]; omega
          · by_cases hk10 : kind = 10
            · subst hk10
              clear hkr
              have a5 : W.cell? ⟨A, 5, none⟩ = some (.int .u64 put) := cell_of HA.out rfl
              obtain ⟨q, hq⟩ : ∃ q : Nat, cell % (NN : Int) = (q : Int) := ⟨(cell % (NN : Int)).toNat, by have := Int.emod_nonneg cell (show (NN : Int) ≠ 0 by omega); omega⟩
              have hqN : q < NN := by have := Int.emod_lt_of_pos cell (show (0 : Int) < NN by omega); omega
              have hqi : (q : Int) < NN := by omega
              obtain ⟨lv2, R2⟩ := HI1.out.ex
              have hAb : A ≠ b := ne_of_type HA.out R2.ar.hb (by decide)
              have hAg : A ≠ gc := ne_of_type HA.out R2.ar.hc (by decide)
              have HPK := hide (poke_in Y b gc lv2 (stSt S cells fa fb fc) q put W R2.ar (show q < cells.length by omega))
              have HQ := hide hq
              have HAb := hide (And.intro hAb hAg)
              clear R2 hAb hAg hq
              go_wp2_with fail
              refine (index_any cell NN _ (by omega) (by omega)).mono ?_
              rintro e w' ⟨rfl, hw⟩
              subst w'
              rw [HQ.out]
              go_wp2_with fail
              refine HPK.out.mono ?_
              rintro e w6 ⟨rfl, ha6, k6⟩
              obtain ⟨⟨cv, hcv⟩, hfz, hgw6, hP6⟩ := HI1.out.poked (show q < cells.length by omega) ha6 k6
              have H6 := hide hP6
              have A6 := hide (k6.heap HA.out (fun e => by rcases e with e | e; exact HAb.out.1 e; exact HAb.out.2 e))
              clear ha6 k6 hP6 HPK a0 a3 a5 e1' HI1 HA
              have a0 : w6.cell? ⟨A, 0, none⟩ = some (.int .i64 10) := cell_of A6.out rfl
              have a5 : w6.cell? ⟨A, 5, none⟩ = some (.int .u64 put) := cell_of A6.out rfl
              go_wp2_with fail
              obtain ⟨lv3, R3⟩ := H6.out.ex
              have hne : A ≠ gw := by
                obtain ⟨cur, hcur⟩ := own_type H6.out.was (k := gw) rfl
                exact ne_of_type (heap_else' A6.out hcur) hcur (by decide)
              have HE := hide (peek_in Y b gc lv3 _ q _ R3.ar (show q < (cells.set q put).length by simp; omega))
              refine HE.out.mono ?_
              rintro e w7 ⟨rfl, ha7, k7⟩
              have hn : nth (stSt S (cells.set q put) fa fb fc).cells q = put := nth_set cells q put (by omega)
              rw [hn]
              have H7 := hide (H6.out.look ha7 k7)
              have A7 := k7.heap (heap_else (a := ⟨gw, q, none⟩) A6.out hne (.int .u64 put)) HAb.out.1
              have a5' : w7.cell? ⟨A, 5, none⟩ = some (.int .u64 put) := cell_of A7 rfl
              have hcl2 : (cells.set q put).length = NN := by simp [hcl]
              clear ha7 k7 A7 a0 a5 R3 HE H6 A6 hn hne hcv hfz hgw6
              go_wp2_with (go_at_call 31; refine (no_any _ _).mono ?_; rintro e w' ⟨rfl, hw⟩; subst w')
              go_roundw
              case rel => exact ⟨k + 1, by omega, by go_num, cells.set q put, hcl2, H7⟩
              case measure => simp [RowKit.intOf]; omega
            · have hk10' : (kind == 10) = false := by simp [hk10]
              by_cases hk1 : 1 ≤ kind
              · have hk5 : ¬ kind ≤ 5 := fun h => hkr ⟨hk1, h⟩
                clear hkr
                go_wp2_with fail
                go_roundw
                case rel => exact ⟨k + 1, by omega, by go_num, cells, hcl, HI1⟩
                case measure => simp [RowKit.intOf]; omega
              · clear hkr
                go_wp2_with fail
                go_roundw
                case rel => exact ⟨k + 1, by omega, by go_num, cells, hcl, HI1⟩
                case measure => simp [RowKit.intOf]; omega
        · obtain rfl : k = len := by omega
          obtain ⟨lv, R⟩ := HI.out.ex
          obtain ⟨f0, f1, f2⟩ := box3 HB1.out.1 R.bel
          have HF := hide (fault_any Y b gc lv _ _ R.ar)
          clear R f0 f1 f2
          go_wp2_with fail
          refine HF.out.mono ?_
          rintro e w6 ⟨he, ha6, k6⟩
          obtain rfl : e = .returned (.tuple #[.agg #[.int .i64 fa, .int .i64 fb, .int .i64 fc], .bool true]) := he
          have H6 := hide ((HI.out.look ha6 k6).news (w' := w6.alloc (.cells #[.int .i64 fa, .int .i64 fb, .int .i64 fc] 45)) ((Below.refl _ _).alloc (Nat.le_refl _) _))
          have hbw : w.heap.size < w6.heap.size := by
            obtain ⟨_, R⟩ := (HI.out.look ha6 k6).ex
            have := R.bel.size; have := HB1.out.2.2.1; omega
          clear ha6 k6 HF HI
          obtain ⟨lv, R⟩ := H6.out.ex
          have q0 : w6.cell? ⟨w.heap.size, 0, none⟩ = some (.int .i64 fa) := by
            have h := (box3 HB1.out.1 R.bel).1
            rwa [World.cell?_alloc_past _ _ _ hbw] at h
          have q1 : w6.cell? ⟨w.heap.size, 1, none⟩ = some (.int .i64 fb) := by
            have h := (box3 HB1.out.1 R.bel).2.1
            rwa [World.cell?_alloc_past _ _ _ hbw] at h
          have q2 : w6.cell? ⟨w.heap.size, 2, none⟩ = some (.int .i64 fc) := by
            have h := (box3 HB1.out.1 R.bel).2.2
            rwa [World.cell?_alloc_past _ _ _ hbw] at h
          have HCt := hide (count_any Y b gc lv _ _ R.ar)
          clear R
          have hc0 : (stSt S cells fa fb fc).count = 0 := by rw [HSS.out]; rfl
          have hl0 : (stSt S cells fa fb fc).log = [] := by rw [HSS.out]; rfl
          have HC0 := hide hc0
          have HL0 := hide hl0
          clear hc0 hl0
          go_wp2_with fail
          refine HCt.out.mono ?_
          rintro e w7 ⟨he, ha7, k7, _⟩
          rw [HC0.out] at he
          obtain rfl := he
          have H7 := hide (H6.out.look ha7 k7)
          have HLg := hide (log_any Y b gc lv _ _ ha7 (by rw [HL0.out]; exact Nat.zero_le _))
          clear ha7 k7 HCt H6
          go_wp2_with fail
          refine HLg.out.mono ?_
          rintro e w8 ⟨v8, rfl, ho8, ha8, k8⟩
          rw [HL0.out] at ho8
          obtain ⟨ao8, c8, rfl⟩ := owns_shape ho8
          have H8 := hide (H7.out.look ha8 k8)
          have HIm := hide (image_any Y b gc _ _ _ ha8)
          clear ha8 k8 ho8 HLg H7
          have hz0 : ([] : List Acc).length = 0 := rfl
          go_wp2_with fail
          refine HIm.out.mono ?_
          rintro e w9 ⟨v9, rfl, ho9, ha9, k9⟩
          have H9 := hide (H8.out.look ha9 k9)
          have HW := hide (WordsAt.of_owns (xs := cells) ho9)
          have hwas := H9.out.was
          have HSm := hide (sameWords_any v9 (.slice (some ⟨gw, 0, none⟩) NN cw) cells w9 HW.out (WordsAt.of_owns hwas))
          clear ha9 k9 ho9 HIm H8 hwas HW
          go_wp2_with fail
          refine HSm.out.mono ?_
          rintro e w10 ⟨rfl, m, rfl⟩
          go_wp2_with fail
          go_ret
          refine ⟨rfl, ?_⟩
          obtain ⟨_, R⟩ := H9.out.ex
          exact below_drewN (HB1.out.2.2.2.trans (R.bel.mono HB1.out.2.2.2.size)) m
end Go.Proofs.Ytfgchkkljlbmcaa
