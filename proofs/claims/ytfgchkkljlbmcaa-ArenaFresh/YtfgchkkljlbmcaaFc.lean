/- ArenaFresh: the walk. -/
import Derived.Test.YtfgchkkljlbmcaaFd
import Derived.Lib.SlFresh
namespace Go.Proofs.Ytfgchkkljlbmcaa
open Go.RowKit Go.Lib Go.MuLone
set_option linter.unusedVariables false
set_option linter.unusedSimpArgs false
set_option maxRecDepth 100000 in
set_option maxHeartbeats 8000000 in
theorem fresh_law (n : Int) (ao : Option Addr) (len cap : Nat) (ops : Nat → Opr) (w : World) (hlen : (len : Int) * 72 ≤ 140737488351232) (hcap : len ≤ cap) (hsc : Script w ao len ops) :
    Calls Try.prog 10 #[.int .i64 n, .slice ao len cap] w fun r w' => r = .returned (.bool true) ∧ Below w.heap.size w w' := by
  have HS := hide hsc
  have HLN := hide hlen
  clear hsc hlen
  go_enter Try.func10, Try.ntmps10
  go_wp2_with fail
  refine (heads_any _).mono ?_
  rintro e w1 ⟨rfl, hb1⟩
  have HB1 := hide hb1
  clear hb1
  go_wp2_with fail
  refine (room_any n 2 _ (by decide)).mono ?_
  rintro e w2 ⟨b, gc, pv, ps, rfl, hps, hroom⟩
  have HR := hide hroom
  clear hroom
  obtain ⟨p0, p1, rfl⟩ := two_of hps
  clear hps
  obtain ⟨g, c, rfl, hc4, hcell⟩ := HR.out.cells (by simp)
  have hg2 : (2 : Int) ≤ c := by have : 2 ≤ c := hc4; omega
  clear hcell hc4
  obtain ⟨NN, hNN⟩ : ∃ NN, 1 + (n % 8).toNat = NN := ⟨_, rfl⟩
  have hNp : 0 < NN := by omega
  have hN8 : (NN : Int) ≤ 8 := by omega
  rw [hNN] at HR
  have H0 : Hid (Room w1 w2 w2.heap.size b gc (.slice none 0 0) (Ast.new NN true) (.slice (some ⟨g, 0, none⟩) 2 c) [p0, p1] (fun _ => false) ∧ SC (Ast.new NN true) NN 0) := hide ⟨HR.out, rfl, by simp [Ast.new], rfl, Nat.le_refl _, rfl⟩
  generalize w2.heap.size = Y at H0
  have hpn : ∀ w, (binOp .eql 38 (.pointer (some ⟨b, 0, none⟩)) (.pointer none)).run Try.prog w = .ok (.bool false) w := fun w => rfl
  clear hNN HR
  go_wp2_with fail
  go_loopw [7] (fun t wr => ∃ (k : Nat) (lv : Value) (s : Ast) (gs : Nat → Bool), k ≤ len ∧ t = .int .i64 (k : Int) ∧ Hid (Room w1 wr Y b gc lv s (.slice (some ⟨g, 0, none⟩) 2 c) [p0, p1] gs ∧ SC s NN k)) (fun t _ => len - (RowKit.intOf t).toNat)
  case atStart => exact ⟨0, _, _, _, Nat.zero_le _, rfl, H0⟩
  case round =>
    clear H0
    obtain ⟨k, lv, s, gs, hk, rfl, HI⟩ := hrel
    by_cases hlt : k < len
    · obtain ⟨gq, oq, rfl, hgq, hoc⟩ := ((HS.out.below HB1.out).below HI.out.1.bel) k hlt
      obtain ⟨⟨kind, second, port, cell, want, put, xa, xb, xc⟩, hops⟩ : ∃ o, ops k = o := ⟨_, rfl⟩
      rw [hops] at hoc
      have o0 : wr.cell? ⟨gq, oq + k * 9, none⟩ = some (.int .i64 kind) := hoc 0 _ rfl
      have o1 : wr.cell? ⟨gq, oq + k * 9 + 1, none⟩ = some (.bool second) := hoc 1 _ rfl
      have o2 : wr.cell? ⟨gq, oq + k * 9 + 2, none⟩ = some (.int .i64 port) := hoc 2 _ rfl
      have o3 : wr.cell? ⟨gq, oq + k * 9 + 3, none⟩ = some (.int .i64 cell) := hoc 3 _ rfl
      have o4 : wr.cell? ⟨gq, oq + k * 9 + 4, none⟩ = some (.int .u64 want) := hoc 4 _ rfl
      have o5 : wr.cell? ⟨gq, oq + k * 9 + 5, none⟩ = some (.int .u64 put) := hoc 5 _ rfl
      have o6 : wr.cell? ⟨gq, oq + k * 9 + 6, none⟩ = some (.int .i64 xa) := hoc 6 _ rfl
      have o7 : wr.cell? ⟨gq, oq + k * 9 + 7, none⟩ = some (.int .i64 xb) := hoc 7 _ rfl
      have o8 : wr.cell? ⟨gq, oq + k * 9 + 8, none⟩ = some (.int .i64 xc) := hoc 8 _ rfl
      clear hoc hops
      have hki : (k : Int) < (len : Int) := by omega
      have hkm : (k : Int) + 1 ≤ 9223372036854775807 := by have := HLN.out; omega
      by_cases hkr : 1 ≤ kind ∧ kind ≤ 5
      · obtain ⟨hk1, hk5⟩ := hkr
        obtain ⟨q, hq⟩ : ∃ q : Nat, cell % (NN : Int) = (q : Int) := ⟨(cell % (NN : Int)).toNat, by have := Int.emod_nonneg cell (show (NN : Int) ≠ 0 by omega); omega⟩
        have hqN : q < NN := by have := Int.emod_lt_of_pos cell (show (0 : Int) < NN by omega); omega
        obtain ⟨j, hj⟩ : ∃ j : Nat, port % 2 = (j : Int) := ⟨(port % 2).toNat, by omega⟩
        have hj2 : j < 2 := by omega
        obtain ⟨p, hp⟩ : ∃ p, [p0, p1][j]? = some p := ⟨_, List.getElem?_eq_getElem (by simpa using hj2)⟩
        have hj2' : (j : Int) < 2 := by omega
        have HP := hide hp
        have HQ := hide (And.intro hq hqN)
        have HIX := hide (fun W => index_any port 2 W (by decide) (by decide))
        rw [hj] at HIX
        clear hp hj2 hq hj hqN
        go_upto_region 10 with fail
        generalize hW : World.alloc _ _ = W
        have hA : W.heap[wr.heap.size]? = some (.cells #[.int .i64 kind, .bool second, .int .i64 port, .int .i64 cell, .int .u64 want, .int .u64 put, .int .i64 xa, .int .i64 xb, .int .i64 xc] 47 (0, 0)) := by rw [← hW]; exact heap_new _ _
        have hWb : Below wr.heap.size wr W := by rw [← hW]; exact (Below.refl _ _).alloc (Nat.le_refl _) _
        have HI1 := hide (And.intro (HI.out.1.news hWb) HI.out.2)
        have HA := hide hA
        generalize wr.heap.size = A at *
        clear hW hWb hA o0 o1 o2 o3 o4 o5 o6 o7 o8 HI hgq
        obtain ⟨g', c', he, _, hcell⟩ := HI1.out.1.cells (by simp)
        simp only [Value.slice.injEq, Option.some.injEq, Addr.mk.injEq] at he
        obtain ⟨⟨rfl, _⟩, _, rfl⟩ := he
        have e1 := hcell j p HP.out
        have a0 : W.cell? ⟨A, 0, none⟩ = some (.int .i64 kind) := cell_of HA.out rfl
        have a2 : W.cell? ⟨A, 2, none⟩ = some (.int .i64 port) := cell_of HA.out rfl
        have HAb := hide (And.intro (show A ≠ b from ne_of_type HA.out HI1.out.1.ar.hb (by decide)) (show A ≠ p from ne_of_type HA.out (HI1.out.1.po j p HP.out).1 (by decide)))
        clear hcell
        go_wp2_with fail
        refine (HIX.out _).mono ?_
        rintro e w' ⟨rfl, hw⟩
        subst w'
        go_wp2_with fail
        refine (grant_any p Y b gc lv s j (gs j) _ HI1.out.1.ar (HI1.out.1.po j p HP.out).1 (HI1.out.1.pb HP.out) (HI1.out.1.pg HP.out) (HI1.out.1.pl HP.out)).mono ?_
        rintro e wG ⟨rfl, ha3, hp3, k3, _⟩
        have HR3 := hide (HI1.out.1.turn (g := true) k3 ha3 HP.out hp3 (fun i hi => by rcases hi with e | e; exact .inl e; exact .inr (.inr (.inl e))))
        have A3 := hide (k3.heap HA.out (fun e => by rcases e with e | e; exact HAb.out.1 e; exact HAb.out.2 e))
        have HSC := hide HI1.out.2
        clear ha3 hp3 k3 HI1 HA HAb a0 a2 e1
        have HLE := hide (fun X (kb : Below wG.heap.size wG X) => len_any _ _ _ _ _ X (HR3.out.news kb).ar)
        rw [HSC.out.ce] at HLE
        have HIC := hide (fun X => index_any cell (NN : Int) X (by omega) (by omega))
        rw [HQ.out.1] at HIC
        have HDo := hide (fun X (kb : Below wG.heap.size wG X) => do_made ⟨kind, second, port, cell, want, put, xa, xb, xc⟩ ((HR3.out.news kb).ready (i := q) HP.out (if_pos rfl) HSC.out.st (by rw [HSC.out.ce]; exact HQ.out.2) (by rw [HSC.out.co]; omega) (by rw [HSC.out.co]; have := HLN.out; have := HSC.out.lo; omega) (by have := HLN.out; have := HSC.out.lo; omega)) hk1 hk5)
        have HNE := hide (And.intro (show A ≠ b from ne_of_type A3.out HR3.out.ar.hb (by decide)) (And.intro (show A ≠ gc from ne_of_type A3.out HR3.out.ar.hc (by decide)) (And.intro (show A ≠ p from ne_of_type A3.out (HR3.out.po j p HP.out).1 (by decide)) (show lv.ownBlock ≠ some A from fun e => by
          obtain ⟨cur, hc⟩ := own_type HR3.out.ar.hl e
          exact ne_of_type A3.out hc (by decide) rfl))))
        have a0 : wG.cell? ⟨A, 0, none⟩ = some (.int .i64 kind) := cell_of A3.out rfl
        have a1 : wG.cell? ⟨A, 1, none⟩ = some (.bool second) := cell_of A3.out rfl
        have a2 : wG.cell? ⟨A, 2, none⟩ = some (.int .i64 port) := cell_of A3.out rfl
        have a3 : wG.cell? ⟨A, 3, none⟩ = some (.int .i64 cell) := cell_of A3.out rfl
        have a4 : wG.cell? ⟨A, 4, none⟩ = some (.int .u64 want) := cell_of A3.out rfl
        have a5 : wG.cell? ⟨A, 5, none⟩ = some (.int .u64 put) := cell_of A3.out rfl
        have a6 : wG.cell? ⟨A, 6, none⟩ = some (.int .i64 xa) := cell_of A3.out rfl
        have a7 : wG.cell? ⟨A, 7, none⟩ = some (.int .i64 xb) := cell_of A3.out rfl
        have a8 : wG.cell? ⟨A, 8, none⟩ = some (.int .i64 xc) := cell_of A3.out rfl
        go_wp2_with fail
        refine wp_region_noPanic ?_
        go_region_held3 (fun X => X.cell? ⟨A, 0, none⟩ = some (.int .i64 kind) ∧ X.cell? ⟨A, 1, none⟩ = some (.bool second) ∧ X.cell? ⟨A, 2, none⟩ = some (.int .i64 port) ∧ X.cell? ⟨A, 3, none⟩ = some (.int .i64 cell) ∧ X.cell? ⟨A, 4, none⟩ = some (.int .u64 want) ∧ X.cell? ⟨A, 5, none⟩ = some (.int .u64 put) ∧ X.cell? ⟨A, 6, none⟩ = some (.int .i64 xa) ∧ X.cell? ⟨A, 7, none⟩ = some (.int .i64 xb) ∧ X.cell? ⟨A, 8, none⟩ = some (.int .i64 xc)) (first | with_reducible exact HZ.out | go_keep)
          (first
            | (go_at_call 19; refine (HLE.out _ (Below.refl _ _).drew).mono ?_; rintro e wL ⟨rfl, rfl⟩)
            | (go_at_call 20; refine (HIC.out _).mono ?_; rintro e wI ⟨rfl, rfl⟩)
            | (go_at_call 22; refine (HDo.out _ (Below.refl _ _).drew).mono ?_; rintro e wD ⟨rfl, hpost⟩; have HPO := hide hpost; clear hpost; have HZ := hide (acells (acc_heap HPO.out A3.out HNE.out)))
            | fail)
        all_goals
          refine NoPanic.normal ?_
          obtain ⟨lv4, R4, _⟩ := (HR3.out.news (Below.refl _ wG).drew).acc HP.out HPO.out
          have H4 := hide (And.intro R4 (HSC.out.made (i := q) (m := doM ⟨kind, second, port, cell, want, put, xa, xb, xc⟩ j q (nth s.cells q))))
          clear R4 HPO HLE HIC HDo HZ a0 a1 a2 a3 a4 a5 a6 a7 a8
          go_wp2_with fail
          exact ⟨⟨k + 1, _, _, _, hlt, by simp, H4⟩, mdecA hlt⟩
      · have HI1 := hide (And.intro (HI.out.1.news ((Below.refl _ wr).alloc (Nat.le_refl _) (.cells #[.int .i64 kind, .bool second, .int .i64 port, .int .i64 cell, .int .u64 want, .int .u64 put, .int .i64 xa, .int .i64 xb, .int .i64 xc] 47))) HI.out.2.more)
        by_cases hk1 : 1 ≤ kind
        · have hk5 : ¬ kind ≤ 5 := fun h => hkr ⟨hk1, h⟩
          have hk5' : 5 < kind := by omega
          clear hkr HI
          go_wp2_with fail
          exact ⟨⟨k + 1, _, _, _, hlt, by simp, HI1⟩, mdecA hlt⟩
        · have hk5' : kind < 1 := by omega
          clear hkr HI
          go_wp2_with fail
          exact ⟨⟨k + 1, _, _, _, hlt, by simp, HI1⟩, mdecA hlt⟩
    · obtain rfl : k = len := by omega
      have HNZ := hide (show 1 ≤ NN ∧ NN ≤ 8 from ⟨hNp, by omega⟩)
      have HAZ := hide (AZ.of_room HI.out.1)
      have HSC := hide HI.out.2
      have HLE := hide (len_any _ _ _ _ _ _ HI.out.1.ar)
      rw [HSC.out.ce] at HLE
      have hmk := run_makeWords NN (by omega)
      obtain ⟨nl, hnl⟩ : ∃ nl, nl = s.log.length := ⟨_, rfl⟩
      have HNL := hide (show nl * 64 ≤ 140737488351232 by have := HSC.out.lo; have := HLN.out; omega)
      have HN := hide hnl
      obtain ⟨Z, hZ⟩ : ∃ Z, Z = wr.heap.size := ⟨_, rfl⟩
      have HZ := hide hZ
      clear HI hk hlt hnl
      go_wp2_with fail
      refine HLE.out.mono ?_
      rintro e w' ⟨rfl, hw⟩
      subst w'
      clear HLE
      go_upto_region 15 with fail
      obtain ⟨wa, hwa⟩ : ∃ wa, wa = wr.alloc (wordsObj (List.replicate NN 0)) := ⟨_, rfl⟩
      have hbwa : Below wr.heap.size wr wa := by rw [hwa]; exact (Below.refl _ _).alloc (Nat.le_refl _) _
      have HZA := hide (HAZ.out.below hbwa)
      have hze : wa.heap[wr.heap.size]? = some (wordsObj (List.replicate NN 0)) := by rw [hwa]; exact heap_new _ _
      have hsz : wa.heap.size = wr.heap.size + 1 := by rw [hwa]; simp
      rw [← hwa]
      rw [← hZ] at HZA hze hsz ⊢
      have HBS := hide (show b < Z ∧ Z ≤ wa.heap.size from ⟨by have := HZA.out.bZ; omega, by omega⟩)
      have HSZ := hide hsz
      have HZE := hide (fun X (k : Chg (fun j => j = b) wa X) => k.heap hze (fun e => by have := HBS.out.1; omega))
      clear hwa hbwa hze hsz hZ HAZ hmk
      go_wp2_with fail
      refine (HZA.out.log (by have := HN.out; have := HNL.out; omega)).mono ?_
      rintro e wb ⟨l1, rfl, ho, hz, hc⟩
      obtain ⟨ol1, cl1, rfl⟩ := owns_shape ho
      rw [← HN.out] at ho ⊢
      have HBO := hide (show Z ≤ wa.heap.size from HBS.out.2)
      replace HZE := hide (fun X k => HZE.out X (Chg.trans hc k))
      replace HBS := hide (And.intro HBS.out.1 (Nat.le_trans HBS.out.2 hc.size))
      have HZb := hide hz
      have Hl1 := hide (fun X (k : Chg (fun j => j = b) wb X) => And.intro (ostep ho (by have := HBS.out; have := HBO.out; omega) X k) (fun g e => (owns_lt ho (k := g) e).2))
      have HMb := hide hc.size
      clear ho hz hc HBO
      go_wp2_with fail
      refine (HZb.out.log (by have := HN.out; have := HNL.out; omega)).mono ?_
      rintro e wc ⟨l2, rfl, ho, hz, hc⟩
      obtain ⟨ol2, cl2, rfl⟩ := owns_shape ho
      rw [← HN.out] at ho ⊢
      have HBO := hide (show Z ≤ wb.heap.size from HBS.out.2)
      replace HZE := hide (fun X k => HZE.out X (Chg.trans hc k))
      replace Hl1 := hide (fun X k => Hl1.out X (Chg.trans hc k))
      replace HBS := hide (And.intro HBS.out.1 (Nat.le_trans HBS.out.2 hc.size))
      have HZc := hide hz
      have Hl2 := hide (fun X (k : Chg (fun j => j = b) wc X) => And.intro (ostep ho (by have := HBS.out; have := HBO.out; omega) X k) (fun g e => (owns_lt ho (k := g) e).2))
      have HMc := hide hc.size
      clear ho hz hc HBO
      go_upto_region 16 with fail
      obtain ⟨wd, hw⟩ : ∃ W, W = wc.alloc (.cells #[.slice ol1 nl cl1, .slice ol2 nl cl2] 27) := ⟨_, rfl⟩
      have hbw : Below wc.heap.size wc wd := by rw [hw]; exact (Below.refl _ _).alloc (Nat.le_refl _) _
      have hgl : wd.heap[wc.heap.size]? = some (.cells #[.slice ol1 nl cl1, .slice ol2 nl cl2] 27 (0, 0)) := by rw [hw]; exact heap_new _ _
      have hss : wd.heap.size = wc.heap.size + 1 := by rw [hw]; simp
      rw [← hw]
      have hc : Chg (fun j => j = b) wc wd := Chg.of_below hbw
      have HBO := hide (show Z ≤ wc.heap.size from HBS.out.2)
      have HZd := hide (HZc.out.below hbw)
      replace HZE := hide (fun X k => HZE.out X (Chg.trans hc k))
      replace Hl1 := hide (fun X k => Hl1.out X (Chg.trans hc k))
      replace Hl2 := hide (fun X k => Hl2.out X (Chg.trans hc k))
      replace HBS := hide (And.intro HBS.out.1 (Nat.le_trans HBS.out.2 hc.size))
      obtain ⟨Gl, hG⟩ : ∃ G, G = wc.heap.size := ⟨_, rfl⟩
      rw [← hG] at hgl hss ⊢
      have HGl := hide (fun X (k : Chg (fun j => j = b) wd X) => k.heap hgl (fun e => by have := HBS.out.1; have := HBO.out; omega))
      have HMd := hide (And.intro hG hss)
      clear hw hbw hgl hss hc hG HBO
      have HK : Hid (∀ X, Chg (fun j => j = b) wd X → X.cell? ⟨Gl, 0, none⟩ = some (.slice ol1 nl cl1) ∧ X.cell? ⟨Gl, 1, none⟩ = some (.slice ol2 nl cl2)) := hide (fun X k => And.intro (cell_of (HGl.out X k) (i := 0) rfl) (cell_of (HGl.out X k) (i := 1) rfl))
      obtain ⟨q0, q1⟩ := HK.out wd (Chg.refl _ _)
      have HSL := hide (fun X (k : Chg (fun j => j = b) wd X) => sameLog_any _ _ s.log X (AccsAt.of_owns (by rw [← HN.out]; exact (Hl1.out X k).1)) (AccsAt.of_owns (by rw [← HN.out]; exact (Hl2.out X k).1)))
      go_region_held3 (fun X => X.cell? ⟨Gl, 0, none⟩ = some (.slice ol1 nl cl1) ∧ X.cell? ⟨Gl, 1, none⟩ = some (.slice ol2 nl cl2)) (first | with_reducible exact HZZ.out | go_keep)
        (first
          | (go_at_call 16; refine (HSL.out _ (Chg.refl _ _).drew).mono ?_; rintro e wx ⟨rfl, m, rfl⟩; have HZZ := hide (HK.out _ (Chg.of_below (below_drewN (Below.refl _ wd) (1 + m)))))
          | fail)
      obtain ⟨we, hwe⟩ : ∃ W, W = wd.drewN (1 + m) := ⟨_, rfl⟩
      rw [← hwe]
      have hbw : Below wd.heap.size wd we := by rw [hwe]; exact below_drewN (Below.refl _ wd) (1 + m)
      have hc : Chg (fun j => j = b) wd we := Chg.of_below hbw
      have HZe := hide (HZd.out.below hbw)
      replace HZE := hide (fun X k => HZE.out X (Chg.trans hc k))
      replace Hl1 := hide (fun X k => Hl1.out X (Chg.trans hc k))
      replace Hl2 := hide (fun X k => Hl2.out X (Chg.trans hc k))
      replace HGl := hide (fun X k => HGl.out X (Chg.trans hc k))
      replace HBS := hide (And.intro HBS.out.1 (Nat.le_trans HBS.out.2 hc.size))
      have HMe := hide hc.size
      clear hwe hbw hc HSL q0 q1 HK HZZ
      have q0 : we.cell? ⟨Gl, 0, none⟩ = some (.slice ol1 nl cl1) := cell_of (HGl.out we (Chg.refl _ _)) (i := 0) rfl
      have HRP := hide (replay_any _ (.slice ol1 nl cl1) _ s.log we (WordsAt.of_words (n := NN) (HZE.out we (Chg.refl _ _)) List.length_replicate (by have := HNZ.out; omega)) (AccsAt.of_owns (by rw [← HN.out]; exact (Hl1.out we (Chg.refl _ _)).1)) (by have := HNZ.out; rw [List.length_replicate]; omega) (by have := HN.out; have := HNL.out; omega))
      go_wp2_with fail
      refine HRP.out.mono ?_
      rintro e wf ⟨xv, rfl, ho, hb⟩
      obtain ⟨oxv, cxv, rfl⟩ := owns_shape ho
      rw [List.length_replicate] at ho ⊢
      have hc : Chg (fun j => j = b) we wf := Chg.of_below hb
      have HBO := hide (show Z ≤ we.heap.size from HBS.out.2)
      replace HZE := hide (fun X k => HZE.out X (Chg.trans hc k))
      replace Hl1 := hide (fun X k => Hl1.out X (Chg.trans hc k))
      replace Hl2 := hide (fun X k => Hl2.out X (Chg.trans hc k))
      replace HGl := hide (fun X k => HGl.out X (Chg.trans hc k))
      replace HBS := hide (And.intro HBS.out.1 (Nat.le_trans HBS.out.2 hc.size))
      have HZf := hide (HZe.out.below hb)
      have Hxv := hide (fun X (k : Chg (fun j => j = b) wf X) => And.intro (ostep ho (by have := HBS.out; have := HBO.out; omega) X k) (fun g e => (owns_lt ho (k := g) e).2))
      have HMf := hide hc.size
      clear ho hb hc HBO HRP q0
      have q0 : wf.cell? ⟨Gl, 0, none⟩ = some (.slice ol1 nl cl1) := cell_of (HGl.out wf (Chg.refl _ _)) (i := 0) rfl
      have HRP := hide (replay_any _ (.slice none 0 0) _ [] wf (WordsAt.of_words (n := NN) (HZE.out wf (Chg.refl _ _)) List.length_replicate (by have := HNZ.out; omega)) (.inl ⟨rfl, rfl⟩) (by have := HNZ.out; rw [List.length_replicate]; omega) (by decide))
      go_wp2_with fail
      refine HRP.out.mono ?_
      rintro e wg ⟨yv, rfl, ho, hb⟩
      obtain ⟨oyv, cyv, rfl⟩ := owns_shape ho
      rw [List.length_replicate] at ho ⊢
      have hc : Chg (fun j => j = b) wf wg := Chg.of_below hb
      have HBO := hide (show Z ≤ wf.heap.size from HBS.out.2)
      replace HZE := hide (fun X k => HZE.out X (Chg.trans hc k))
      replace Hl1 := hide (fun X k => Hl1.out X (Chg.trans hc k))
      replace Hl2 := hide (fun X k => Hl2.out X (Chg.trans hc k))
      replace HGl := hide (fun X k => HGl.out X (Chg.trans hc k))
      replace Hxv := hide (fun X k => Hxv.out X (Chg.trans hc k))
      replace HBS := hide (And.intro HBS.out.1 (Nat.le_trans HBS.out.2 hc.size))
      have HZg := hide (HZf.out.below hb)
      have Hyv := hide (fun X (k : Chg (fun j => j = b) wg X) => And.intro (ostep ho (by have := HBS.out; have := HBO.out; omega) X k) (fun g e => (owns_lt ho (k := g) e).2))
      have HMg := hide hc.size
      clear ho hb hc HBO HRP q0
      have q0 : wg.cell? ⟨Gl, 0, none⟩ = some (.slice ol1 nl cl1) := cell_of (HGl.out wg (Chg.refl _ _)) (i := 0) rfl
      have HRP := hide (replay_any _ (.slice ol1 nl cl1) _ s.log wg (WordsAt.of_words (n := NN) (HZE.out wg (Chg.refl _ _)) List.length_replicate (by have := HNZ.out; omega)) (AccsAt.of_owns (by rw [← HN.out]; exact (Hl1.out wg (Chg.refl _ _)).1)) (by have := HNZ.out; rw [List.length_replicate]; omega) (by have := HN.out; have := HNL.out; omega))
      go_wp2_with fail
      refine HRP.out.mono ?_
      rintro e wh ⟨zv, rfl, ho, hb⟩
      obtain ⟨ozv, czv, rfl⟩ := owns_shape ho
      rw [List.length_replicate] at ho ⊢
      have hc : Chg (fun j => j = b) wg wh := Chg.of_below hb
      have HBO := hide (show Z ≤ wg.heap.size from HBS.out.2)
      replace HZE := hide (fun X k => HZE.out X (Chg.trans hc k))
      replace Hl1 := hide (fun X k => Hl1.out X (Chg.trans hc k))
      replace Hl2 := hide (fun X k => Hl2.out X (Chg.trans hc k))
      replace HGl := hide (fun X k => HGl.out X (Chg.trans hc k))
      replace Hxv := hide (fun X k => Hxv.out X (Chg.trans hc k))
      replace Hyv := hide (fun X k => Hyv.out X (Chg.trans hc k))
      replace HBS := hide (And.intro HBS.out.1 (Nat.le_trans HBS.out.2 hc.size))
      have HZh := hide (HZg.out.below hb)
      have Hzv := hide (fun X (k : Chg (fun j => j = b) wh X) => And.intro (ostep ho (by have := HBS.out; have := HBO.out; omega) X k) (fun g e => (owns_lt ho (k := g) e).2))
      have HMh := hide hc.size
      clear ho hb hc HBO HRP q0
      have q0 : wh.cell? ⟨Gl, 0, none⟩ = some (.slice ol1 nl cl1) := cell_of (HGl.out wh (Chg.refl _ _)) (i := 0) rfl
      have HAW := hide (anew_any _ (.slice ol1 nl cl1) _ s.log wh (OW.of (Hxv.out wh (Chg.refl _ _)).1).at (AccsAt.of_owns (by rw [← HN.out]; exact (Hl1.out wh (Chg.refl _ _)).1)) (by have h := (OW.len (Hxv.out wh (Chg.refl _ _)).1); have := HNZ.out; omega) (by have := HN.out; have := HNL.out; omega))
      go_wp2_with fail
      refine HAW.out.mono ?_
      rintro e wi ⟨rfl, hb⟩
      have hc : Chg (fun j => j = b) wh wi := Chg.of_below hb
      have HZi := hide (HZh.out.below hb)
      replace HZE := hide (fun X k => HZE.out X (Chg.trans hc k))
      replace Hl1 := hide (fun X k => Hl1.out X (Chg.trans hc k))
      replace Hl2 := hide (fun X k => Hl2.out X (Chg.trans hc k))
      replace HGl := hide (fun X k => HGl.out X (Chg.trans hc k))
      replace Hxv := hide (fun X k => Hxv.out X (Chg.trans hc k))
      replace Hyv := hide (fun X k => Hyv.out X (Chg.trans hc k))
      replace Hzv := hide (fun X k => Hzv.out X (Chg.trans hc k))
      replace HBS := hide (And.intro HBS.out.1 (Nat.le_trans HBS.out.2 hc.size))
      have HMi := hide hc.size
      clear hb hc HAW q0
      go_wp2_with fail
      refine (HZi.out.image).mono ?_
      rintro e wj ⟨i1, rfl, ho, hz, hc⟩
      obtain ⟨oi1, ci1, rfl⟩ := owns_shape ho
      rw [HSC.out.ce] at ho ⊢
      have HBO := hide (show Z ≤ wi.heap.size from HBS.out.2)
      replace HZE := hide (fun X k => HZE.out X (Chg.trans hc k))
      replace Hl1 := hide (fun X k => Hl1.out X (Chg.trans hc k))
      replace Hl2 := hide (fun X k => Hl2.out X (Chg.trans hc k))
      replace HGl := hide (fun X k => HGl.out X (Chg.trans hc k))
      replace Hxv := hide (fun X k => Hxv.out X (Chg.trans hc k))
      replace Hyv := hide (fun X k => Hyv.out X (Chg.trans hc k))
      replace Hzv := hide (fun X k => Hzv.out X (Chg.trans hc k))
      replace HBS := hide (And.intro HBS.out.1 (Nat.le_trans HBS.out.2 hc.size))
      have HZj := hide hz
      have Hi1 := hide (fun X (k : Chg (fun j => j = b) wj X) => And.intro (ostep ho (by have := HBS.out; have := HBO.out; omega) X k) (fun g e => (owns_lt ho (k := g) e).2))
      have HMj := hide hc.size
      clear ho hz hc HBO
      go_wp2_with fail
      refine (HZj.out.image).mono ?_
      rintro e wk ⟨i2, rfl, ho, hz, hc⟩
      obtain ⟨oi2, ci2, rfl⟩ := owns_shape ho
      rw [HSC.out.ce] at ho ⊢
      have HBO := hide (show Z ≤ wj.heap.size from HBS.out.2)
      replace HZE := hide (fun X k => HZE.out X (Chg.trans hc k))
      replace Hl1 := hide (fun X k => Hl1.out X (Chg.trans hc k))
      replace Hl2 := hide (fun X k => Hl2.out X (Chg.trans hc k))
      replace HGl := hide (fun X k => HGl.out X (Chg.trans hc k))
      replace Hxv := hide (fun X k => Hxv.out X (Chg.trans hc k))
      replace Hyv := hide (fun X k => Hyv.out X (Chg.trans hc k))
      replace Hzv := hide (fun X k => Hzv.out X (Chg.trans hc k))
      replace Hi1 := hide (fun X k => Hi1.out X (Chg.trans hc k))
      replace HBS := hide (And.intro HBS.out.1 (Nat.le_trans HBS.out.2 hc.size))
      have HZk := hide hz
      have Hi2 := hide (fun X (k : Chg (fun j => j = b) wk X) => And.intro (ostep ho (by have := HBS.out; have := HBO.out; omega) X k) (fun g e => (owns_lt ho (k := g) e).2))
      have HMk := hide hc.size
      clear ho hz hc HBO
      go_upto_region 24 with fail
      obtain ⟨wl, hw⟩ : ∃ W, W = wk.alloc (.cells #[.slice oi1 NN ci1, .slice oi2 NN ci2, .slice oxv NN cxv, .slice oyv NN cyv, .slice ozv NN czv] 26) := ⟨_, rfl⟩
      have hbw : Below wk.heap.size wk wl := by rw [hw]; exact (Below.refl _ _).alloc (Nat.le_refl _) _
      have hgl : wl.heap[wk.heap.size]? = some (.cells #[.slice oi1 NN ci1, .slice oi2 NN ci2, .slice oxv NN cxv, .slice oyv NN cyv, .slice ozv NN czv] 26 (0, 0)) := by rw [hw]; exact heap_new _ _
      have hss : wl.heap.size = wk.heap.size + 1 := by rw [hw]; simp
      rw [← hw]
      have hc : Chg (fun j => j = b) wk wl := Chg.of_below hbw
      have HBO := hide (show Z ≤ wk.heap.size from HBS.out.2)
      have HZl := hide (HZk.out.below hbw)
      replace HZE := hide (fun X k => HZE.out X (Chg.trans hc k))
      replace Hl1 := hide (fun X k => Hl1.out X (Chg.trans hc k))
      replace Hl2 := hide (fun X k => Hl2.out X (Chg.trans hc k))
      replace HGl := hide (fun X k => HGl.out X (Chg.trans hc k))
      replace Hxv := hide (fun X k => Hxv.out X (Chg.trans hc k))
      replace Hyv := hide (fun X k => Hyv.out X (Chg.trans hc k))
      replace Hzv := hide (fun X k => Hzv.out X (Chg.trans hc k))
      replace Hi1 := hide (fun X k => Hi1.out X (Chg.trans hc k))
      replace Hi2 := hide (fun X k => Hi2.out X (Chg.trans hc k))
      replace HBS := hide (And.intro HBS.out.1 (Nat.le_trans HBS.out.2 hc.size))
      obtain ⟨Gw, hG⟩ : ∃ G, G = wk.heap.size := ⟨_, rfl⟩
      rw [← hG] at hgl hss ⊢
      have HGw := hide (fun X (k : Chg (fun j => j = b) wl X) => k.heap hgl (fun e => by have := HBS.out.1; have := HBO.out; omega))
      have HMl := hide (And.intro hG hss)
      clear hw hbw hgl hss hc hG HBO
      go_wp2_with fail
      refine (HZl.out.image).mono ?_
      rintro e wm ⟨wv, rfl, ho, hz, hc⟩
      obtain ⟨owv, cwv, rfl⟩ := owns_shape ho
      rw [HSC.out.ce] at ho ⊢
      have HBO := hide (show Z ≤ wl.heap.size from HBS.out.2)
      replace HZE := hide (fun X k => HZE.out X (Chg.trans hc k))
      replace Hl1 := hide (fun X k => Hl1.out X (Chg.trans hc k))
      replace Hl2 := hide (fun X k => Hl2.out X (Chg.trans hc k))
      replace HGl := hide (fun X k => HGl.out X (Chg.trans hc k))
      replace Hxv := hide (fun X k => Hxv.out X (Chg.trans hc k))
      replace Hyv := hide (fun X k => Hyv.out X (Chg.trans hc k))
      replace Hzv := hide (fun X k => Hzv.out X (Chg.trans hc k))
      replace Hi1 := hide (fun X k => Hi1.out X (Chg.trans hc k))
      replace Hi2 := hide (fun X k => Hi2.out X (Chg.trans hc k))
      replace HGw := hide (fun X k => HGw.out X (Chg.trans hc k))
      replace HBS := hide (And.intro HBS.out.1 (Nat.le_trans HBS.out.2 hc.size))
      have HZm := hide hz
      have Hwv := hide (fun X (k : Chg (fun j => j = b) wm X) => And.intro (ostep ho (by have := HBS.out; have := HBO.out; omega) X k) (fun g e => (owns_lt ho (k := g) e).2))
      have HMm := hide hc.size
      clear ho hz hc HBO
      go_wp2_with fail
      refine (HZm.out.log (by have := HN.out; have := HNL.out; omega)).mono ?_
      rintro e wn ⟨lv, rfl, ho, hz, hc⟩
      obtain ⟨olv, clv, rfl⟩ := owns_shape ho
      rw [← HN.out] at ho ⊢
      have HBO := hide (show Z ≤ wm.heap.size from HBS.out.2)
      replace HZE := hide (fun X k => HZE.out X (Chg.trans hc k))
      replace Hl1 := hide (fun X k => Hl1.out X (Chg.trans hc k))
      replace Hl2 := hide (fun X k => Hl2.out X (Chg.trans hc k))
      replace HGl := hide (fun X k => HGl.out X (Chg.trans hc k))
      replace Hxv := hide (fun X k => Hxv.out X (Chg.trans hc k))
      replace Hyv := hide (fun X k => Hyv.out X (Chg.trans hc k))
      replace Hzv := hide (fun X k => Hzv.out X (Chg.trans hc k))
      replace Hi1 := hide (fun X k => Hi1.out X (Chg.trans hc k))
      replace Hi2 := hide (fun X k => Hi2.out X (Chg.trans hc k))
      replace HGw := hide (fun X k => HGw.out X (Chg.trans hc k))
      replace Hwv := hide (fun X k => Hwv.out X (Chg.trans hc k))
      replace HBS := hide (And.intro HBS.out.1 (Nat.le_trans HBS.out.2 hc.size))
      have HZn := hide hz
      have Hlv := hide (fun X (k : Chg (fun j => j = b) wn X) => And.intro (ostep ho (by have := HBS.out; have := HBO.out; omega) X k) (fun g e => (owns_lt ho (k := g) e).2))
      have HMn := hide hc.size
      clear ho hz hc HBO
      obtain ⟨pl, pw, B, vw, va, Sw, Tw, Sa, Ta, hal⟩ : ∃ pl pw B vw va Sw Tw Sa Ta, AL1 w1 wn Z Y b gc NN nl s (.slice owv NN cwv) (.slice olv nl clv) pl pw B Gw Gl vw va Sw Tw Sa Ta vw (.slice none 0 0) 0 :=
        ⟨_, _, _, _, _, _, _, _, _, AL1.made HZn.out (HZE.out wn (Chg.refl _ _)) (Hl1.out wn (Chg.refl _ _)) (Hl2.out wn (Chg.refl _ _)) (HGl.out wn (Chg.refl _ _)) (Hxv.out wn (Chg.refl _ _)) (Hyv.out wn (Chg.refl _ _)) (Hzv.out wn (Chg.refl _ _)) (Hi1.out wn (Chg.refl _ _)) (Hi2.out wn (Chg.refl _ _)) (HGw.out wn (Chg.refl _ _)) (Hwv.out wn (Chg.refl _ _)) (Hlv.out wn (Chg.refl _ _)) (by
          have := HMb.out; have := HMc.out; have := HMd.out; have := HMe.out; have := HMf.out; have := HMg.out; have := HMh.out; have := HMi.out; have := HMj.out; have := HMk.out; have := HMl.out; have := HMm.out; have := HMn.out; have := HSZ.out
          omega) HNL.out HNZ.out.2⟩
      have HAL := hide hal
      clear hal HZb HZc HZd HZe HZf HZg HZh HZi HZj HZk HZl HZm HZn HZE Hl1 Hl2 HGl Hxv Hyv Hzv Hi1 Hi2 HGw Hwv Hlv HMb HMc HMd HMe HMf HMg HMh HMi HMj HMk HMl HMm HMn HSZ HBS HZA HZ hpn HS
      have hN1 : 1 ≤ NN := HNZ.out.1
      have hN8' : NN ≤ 8 := HNZ.out.2
      go_wp2_with fail
      go_loopw [21, 22] (fun bv tt wr => ∃ (q : Nat) (xw : Nat → Value) (ba : Option Addr) (bc : Nat), q ≤ 5 ∧ tt = .int .i64 (q : Int) ∧ bv = .slice ba q bc ∧ Hid (AL1 w1 wr Z Y b gc NN nl s (.slice owv NN cwv) (.slice olv nl clv) pl pw B Gw Gl vw va Sw Tw Sa Ta xw (.slice ba q bc) q)) (fun _ tt _ => 5 - (RowKit.intOf tt).toNat)
      case atStart => exact ⟨0, _, none, 0, Nat.zero_le _, rfl, rfl, HAL⟩
      case round =>
        clear HAL
        obtain ⟨q, xw, ba, bc, hq5, rfl, rfl, HL⟩ := hrel
        by_cases hlt : q < 5
        · have hcel := HL.out.u.cel q hlt
          obtain ⟨ua, uc, hu, _, _⟩ := (HL.out.u.l q hlt).shape
          obtain ⟨gx, capx, Yx, aox, cx, V, hr1, hr2, xs', hnx⟩ := HL.out.app hlt
          rw [hu] at hcel hr1
          have HR1 := hide hr1
          have HR2 := hide hr2
          have HNX := hide hnx
          have hqi : (q : Int) < 5 := by omega
          have hm : IntKind.u64.wrap (1000 + (q : Int)) = 1000 + (q : Int) := IntWalk.u64_in _ (by omega)
          clear hr1 hr2 hnx hu HL
          go_wp2_with (first
            | (at_builtin; refine wpList_append_run_sl _ rfl _ _ 26 rfl _ _ rfl rfl HR1.out ?_; clear HR1)
            | (at_builtin; refine wpList_append_run_sl _ rfl _ _ 73 rfl _ _ rfl rfl HR2.out ?_; clear HR2)
            | fail)
          exact ⟨⟨q + 1, _, _, _, hlt, by simp, rfl, HNX⟩, mdecA hlt⟩
        · obtain rfl : q = 5 := by omega
          have HL2 := hide HL.out.two
          obtain ⟨Bp, hBp⟩ : ∃ Bp, Bp = wr.heap.size := ⟨_, rfl⟩
          rw [← hBp] at HL2
          clear HL hBp
          rw [show ((5 : Nat) : Int) = 5 from rfl]
          go_wp2_with fail
          go_loopw [24, 25] (fun bv tt wr => ∃ (q : Nat) (xa : Nat → Value) (aa : Option Addr) (ac : Nat), q ≤ 2 ∧ tt = .int .i64 (q : Int) ∧ bv = .slice aa q ac ∧ Hid (AL2 w1 wr Z Y b gc NN nl s (.slice owv NN cwv) (.slice olv nl clv) pl pw B Bp Gw Gl vw va Sw Tw Sa Ta xw (.slice ba 5 bc) (fun _ => 0) xa (.slice aa q ac) (fun _ => 0) q)) (fun _ tt _ => 2 - (RowKit.intOf tt).toNat)
          case atStart => exact ⟨0, _, none, 0, Nat.zero_le _, rfl, rfl, HL2⟩
          case round =>
            clear HL2
            obtain ⟨q, xa, aa, ac2, hq2, rfl, rfl, HL⟩ := hrel
            by_cases hlt2 : q < 2
            · have hcel := HL.out.a.cel q hlt2
              obtain ⟨ua, uc, hu, _, _⟩ := (HL.out.a.l q hlt2).shape
              obtain ⟨gx, capx, Yx, aox, cx, V, hr1, hr2, xs', hnx⟩ := HL.out.app hlt2
              rw [hu] at hcel hr1
              have HR1 := hide hr1
              have HR2 := hide hr2
              have HNX := hide hnx
              have hqi : (q : Int) < 2 := by omega
              clear hr1 hr2 hnx hu HL
              go_wp2_with (first
                | (at_builtin; refine wpList_append_run_sl _ rfl _ _ 27 rfl _ _ rfl rfl HR1.out ?_; clear HR1)
                | (at_builtin; refine wpList_append_run_sl _ rfl _ _ 72 rfl _ _ rfl rfl HR2.out ?_; clear HR2)
                | fail)
              exact ⟨⟨q + 1, _, _, _, hlt2, by simp, rfl, HNX⟩, mdecA hlt2⟩
            · obtain rfl : q = 2 := by omega
              rw [show ((2 : Nat) : Int) = 2 from rfl]
              have HL3 : Hid (AL2 w1 wr Z Y b gc NN nl s (.slice owv NN cwv) (.slice olv nl clv) pl pw B Bp Gw Gl vw va Sw Tw Sa Ta xw (.slice ba 5 bc) (upF NN 0 0) xa (.slice aa 2 ac2) (upF nl 0 0) 2) := hide (by rw [upF_zero, upF_zero]; exact HL.out)
              clear HL
              go_wp2_with fail
              go_loopw [27] (fun tt wr => ∃ i : Nat, i ≤ 5 ∧ tt = .int .i64 (i : Int) ∧ Hid (AL2 w1 wr Z Y b gc NN nl s (.slice owv NN cwv) (.slice olv nl clv) pl pw B Bp Gw Gl vw va Sw Tw Sa Ta xw (.slice ba 5 bc) (upF NN i 0) xa (.slice aa 2 ac2) (upF nl 0 0) 2)) (fun tt _ => 5 - (RowKit.intOf tt).toNat)
              case atStart => exact ⟨0, Nat.zero_le _, rfl, HL3⟩
              case round =>
                clear HL3
                obtain ⟨i, hi5, rfl, HL⟩ := hrel
                by_cases hlt3 : i < 5
                · have hcel := HL.out.u.cel i hlt3
                  obtain ⟨ua, uc, hv, hnc, _⟩ := (HL.out.u.l i hlt3).shape
                  rw [hv] at hcel
                  have HV := hide hv
                  have hii : (i : Int) < 5 := by omega
                  have hm2 : IntKind.u64.wrap (2000 + (i : Int)) = 2000 + (i : Int) := IntWalk.u64_in _ (by omega)
                  clear hv
                  go_wp2_with fail
                  go_loopw [28] (fun tt wr' => ∃ k2 : Nat, k2 ≤ NN ∧ tt = .int .i64 (k2 : Int) ∧ Hid (AL2 w1 wr' Z Y b gc NN nl s (.slice owv NN cwv) (.slice olv nl clv) pl pw B Bp Gw Gl vw va Sw Tw Sa Ta xw (.slice ba 5 bc) (upF NN i k2) xa (.slice aa 2 ac2) (upF nl 0 0) 2)) (fun tt _ => NN - (RowKit.intOf tt).toNat)
                  case atStart => exact ⟨0, Nat.zero_le _, rfl, HL⟩
                  case round =>
                    clear HL hcel
                    obtain ⟨k2, hk2, rfl, HL⟩ := hrel
                    have hcel := HL.out.u.cel i hlt3
                    rw [HV.out] at hcel
                    by_cases hkn : k2 < NN
                    · have hl := HL.out.u.l i hlt3
                      rw [HV.out] at hl
                      obtain ⟨g4, cap4, he, _, _, hS, hT, _, hc0, hf0, _⟩ := hl.spot (by omega)
                      simp only [Value.slice.injEq, true_and] at he
                      obtain ⟨rfl, rfl⟩ := he
                      obtain ⟨v0, x0⟩ := hc0 k2 0 hkn (by decide)
                      have f0 := hf0 k2
                      simp only [Nat.mul_one, Nat.add_zero] at x0
                      have hkni : (k2 : Int) < (NN : Int) := by omega
                      have HP := hide (HL.out.putU hlt3 HV.out hkn (upF_at NN i k2) ⟨hS, hT⟩ (setCell_wr _ g4 k2 (2000 + (i : Int))))
                      rw [upF_next] at HP
                      clear hl hc0 hf0 HL hS hT
                      go_wp2_with fail
                      exact ⟨⟨k2 + 1, hkn, by simp, HP⟩, mdecA hkn⟩
                    · have hke : k2 = NN := by omega
                      have HR : Hid (AL2 w1 wr Z Y b gc NN nl s (.slice owv NN cwv) (.slice olv nl clv) pl pw B Bp Gw Gl vw va Sw Tw Sa Ta xw (.slice ba 5 bc) (upF NN (i + 1) 0) xa (.slice aa 2 ac2) (upF nl 0 0) 2) := hide (by rw [← upF_row NN i, ← hke]; rw [← hke] at HL; exact HL.out)
                      clear hke HL
                      go_wp2_with fail
                      exact ⟨⟨i + 1, hlt3, by simp, HR⟩, mdecA hlt3⟩
                · obtain rfl : i = 5 := by omega
                  rw [show ((5 : Nat) : Int) = 5 from rfl]
                  have HL4 := HL
                  clear HL
                  go_wp2_with fail
                  go_loopw [29] (fun tt wr => ∃ i : Nat, i ≤ 2 ∧ tt = .int .i64 (i : Int) ∧ Hid (AL2 w1 wr Z Y b gc NN nl s (.slice owv NN cwv) (.slice olv nl clv) pl pw B Bp Gw Gl vw va Sw Tw Sa Ta xw (.slice ba 5 bc) (upF NN 5 0) xa (.slice aa 2 ac2) (upF nl i 0) 2)) (fun tt _ => 2 - (RowKit.intOf tt).toNat)
                  case atStart => exact ⟨0, Nat.zero_le _, rfl, HL4⟩
                  case round =>
                    clear HL4
                    obtain ⟨i, hi2, rfl, HL⟩ := hrel
                    by_cases hlt4 : i < 2
                    · have hcel := HL.out.a.cel i hlt4
                      obtain ⟨ua, uc, hv, hnc, _⟩ := (HL.out.a.l i hlt4).shape
                      rw [hv] at hcel
                      have HV := hide hv
                      have hii : (i : Int) < 2 := by omega
                      clear hv
                      go_wp2_with fail
                      go_loopw [30] (fun tt wr' => ∃ k2 : Nat, k2 ≤ nl ∧ tt = .int .i64 (k2 : Int) ∧ Hid (AL2 w1 wr' Z Y b gc NN nl s (.slice owv NN cwv) (.slice olv nl clv) pl pw B Bp Gw Gl vw va Sw Tw Sa Ta xw (.slice ba 5 bc) (upF NN 5 0) xa (.slice aa 2 ac2) (upF nl i k2) 2)) (fun tt _ => nl - (RowKit.intOf tt).toNat)
                      case atStart => exact ⟨0, Nat.zero_le _, rfl, HL⟩
                      case round =>
                        clear HL hcel
                        obtain ⟨k2, hk2, rfl, HL⟩ := hrel
                        have hcel := HL.out.a.cel i hlt4
                        rw [HV.out] at hcel
                        have hnlb : nl * 64 ≤ 140737488351232 := HNL.out
                        by_cases hkn : k2 < nl
                        · have hl := HL.out.a.l i hlt4
                          rw [HV.out] at hl
                          obtain ⟨g4, cap4, he, _, _, hS, hT, _, hc0, hf0, _⟩ := hl.spot (by omega)
                          simp only [Value.slice.injEq, true_and] at he
                          obtain ⟨rfl, rfl⟩ := he
                          obtain ⟨v0, x0⟩ := hc0 k2 0 hkn (by decide)
                          have f0 := hf0 (k2 * 8 + 0)
                          obtain ⟨v1, x1⟩ := hc0 k2 1 hkn (by decide)
                          have f1 := hf0 (k2 * 8 + 1)
                          obtain ⟨v2, x2⟩ := hc0 k2 2 hkn (by decide)
                          have f2 := hf0 (k2 * 8 + 2)
                          obtain ⟨v3, x3⟩ := hc0 k2 3 hkn (by decide)
                          have f3 := hf0 (k2 * 8 + 3)
                          obtain ⟨v4, x4⟩ := hc0 k2 4 hkn (by decide)
                          have f4 := hf0 (k2 * 8 + 4)
                          obtain ⟨v5, x5⟩ := hc0 k2 5 hkn (by decide)
                          have f5 := hf0 (k2 * 8 + 5)
                          obtain ⟨v6, x6⟩ := hc0 k2 6 hkn (by decide)
                          have f6 := hf0 (k2 * 8 + 6)
                          obtain ⟨v7, x7⟩ := hc0 k2 7 hkn (by decide)
                          have f7 := hf0 (k2 * 8 + 7)
                          simp only [Nat.add_zero] at x0 f0
                          have hkni : (k2 : Int) < (nl : Int) := by omega
                          have HP := hide (HL.out.putA hlt4 HV.out hkn (upF_at nl i k2) ⟨hS, hT⟩ (put8_wr _ g4 k2 ⟨0, 2000 + (i : Int), 0, 0, 0, 0, 0, false⟩ (2000 + (i : Int)) rfl))
                          rw [upF_next] at HP
                          clear hl hc0 hf0 HL hS hT
                          go_wp2_with fail
                          exact ⟨⟨k2 + 1, hkn, by simp, HP⟩, mdecA hkn⟩
                        · have hke : k2 = nl := by omega
                          have HR : Hid (AL2 w1 wr Z Y b gc NN nl s (.slice owv NN cwv) (.slice olv nl clv) pl pw B Bp Gw Gl vw va Sw Tw Sa Ta xw (.slice ba 5 bc) (upF NN 5 0) xa (.slice aa 2 ac2) (upF nl (i + 1) 0) 2) := hide (by rw [← upF_row nl i, ← hke]; rw [← hke] at HL; exact HL.out)
                          clear hke HL
                          go_wp2_with fail
                          exact ⟨⟨i + 1, hlt4, by simp, HR⟩, mdecA hlt4⟩
                    · obtain rfl : i = 2 := by omega
                      rw [show ((2 : Nat) : Int) = 2 from rfl]
                      have HL5 := HL
                      clear HL
                      obtain ⟨gb, rfl, hb5, _⟩ := row_spot HL5.out.u.own (by decide)
                      obtain ⟨ga, rfl, ha2, _⟩ := row_spot HL5.out.a.own (by decide)
                      go_wp2_with fail
                      go_loopw [31] (fun tt wr => ∃ i : Nat, i ≤ 5 ∧ tt = .int .i64 (i : Int) ∧ Hid (AL2 w1 wr Z Y b gc NN nl s (.slice owv NN cwv) (.slice olv nl clv) pl pw B Bp Gw Gl vw va Sw Tw Sa Ta xw (.slice (some ⟨gb, 0, none⟩) 5 bc) (upF NN 5 0) xa (.slice (some ⟨ga, 0, none⟩) 2 ac2) (upF nl 2 0) 2)) (fun tt _ => 5 - (RowKit.intOf tt).toNat)
                      case atStart => exact ⟨0, Nat.zero_le _, rfl, HL5⟩
                      case round =>
                        clear HL5
                        obtain ⟨i, hi5, rfl, HL⟩ := hrel
                        by_cases hlt5 : i < 5
                        · have hcel := HL.out.u.cel i hlt5
                          obtain ⟨ua, uc, hv, hnc, _⟩ := (HL.out.u.l i hlt5).shape
                          rw [hv] at hcel
                          have HV := hide hv
                          have hii : (i : Int) < 5 := by omega
                          have hm1 : IntKind.u64.wrap (1000 + (i : Int)) = 1000 + (i : Int) := IntWalk.u64_in _ (by omega)
                          have hm2 : IntKind.u64.wrap (2000 + (i : Int)) = 2000 + (i : Int) := IntWalk.u64_in _ (by omega)
                          clear hv
                          go_wp2_with fail
                          go_loopw [33] (fun tt wr' => ∃ k2 : Nat, k2 ≤ NN ∧ tt = .int .i64 (k2 : Int) ∧ Hid (AL2 w1 wr' Z Y b gc NN nl s (.slice owv NN cwv) (.slice olv nl clv) pl pw B Bp Gw Gl vw va Sw Tw Sa Ta xw (.slice (some ⟨gb, 0, none⟩) 5 bc) (upF NN 5 0) xa (.slice (some ⟨ga, 0, none⟩) 2 ac2) (upF nl 2 0) 2)) (fun tt _ => NN - (RowKit.intOf tt).toNat)
                          case atStart => exact ⟨0, Nat.zero_le _, rfl, HL⟩
                          case round =>
                            clear HL hcel
                            obtain ⟨k2, hk2, rfl, HL⟩ := hrel
                            have hcel := HL.out.u.cel i hlt5
                            rw [HV.out] at hcel
                            by_cases hkn : k2 < NN
                            · have hl := HL.out.u.l i hlt5
                              rw [HV.out] at hl
                              obtain ⟨g4, cap4, he, _, _, _, _, _, _, _, hmk⟩ := hl.spot (by omega)
                              simp only [Value.slice.injEq, true_and] at he
                              obtain ⟨rfl, rfl⟩ := he
                              have x0 := hmk k2 (by rw [upF_full hlt5]; exact hkn) hkn
                              simp only [Nat.mul_one, Nat.add_zero] at x0
                              have hkni : (k2 : Int) < (NN : Int) := by omega
                              have hne : ((2000 + (i : Int)) != (2000 + (i : Int))) = false := by simp
                              clear hl hmk
                              go_wp2_with fail
                              exact ⟨⟨k2 + 1, hkn, by simp, HL⟩, mdecA hkn⟩
                            · have hke : k2 = NN := by omega
                              obtain ⟨gx, capx, hx, hnc', hcm', _, e0, e1⟩ := (HL.out.u.x i hlt5).spot
                              obtain ⟨gb', hgb, _, hrow⟩ := row_spot HL.out.u.own (by decide)
                              cases hgb
                              have hbx := hrow i (xw i) (by rw [List.getElem?_map, List.getElem?_range hlt5]; rfl)
                              rw [hx] at hbx
                              simp only [Nat.mul_one, Nat.add_zero] at e0 e1
                              obtain ⟨M2, hM2⟩ : ∃ M2, M2 = NN + 2 := ⟨_, rfl⟩
                              rw [← hM2] at hbx hnc'
                              have j1 : (NN : Int) < (M2 : Int) := by omega
                              have j2 : (NN : Int) + 1 < (M2 : Int) := by omega
                              have hib : (i : Int) < (bc : Int) := by omega
                              have hne : ((1000 + (i : Int)) != (1000 + (i : Int))) = false := by simp
                              clear hke hrow hx hM2
                              go_wp2_with fail
                              exact ⟨⟨i + 1, hlt5, by simp, HL⟩, mdecA hlt5⟩
                        · obtain rfl : i = 5 := by omega
                          rw [show ((5 : Nat) : Int) = 5 from rfl]
                          have HL6 := HL
                          clear HL
                          go_wp2_with fail
                          go_loopw [34] (fun tt wr => ∃ i : Nat, i ≤ 2 ∧ tt = .int .i64 (i : Int) ∧ Hid (AL2 w1 wr Z Y b gc NN nl s (.slice owv NN cwv) (.slice olv nl clv) pl pw B Bp Gw Gl vw va Sw Tw Sa Ta xw (.slice (some ⟨gb, 0, none⟩) 5 bc) (upF NN 5 0) xa (.slice (some ⟨ga, 0, none⟩) 2 ac2) (upF nl 2 0) 2)) (fun tt _ => 2 - (RowKit.intOf tt).toNat)
                          case atStart => exact ⟨0, Nat.zero_le _, rfl, HL6⟩
                          case round =>
                            clear HL6
                            obtain ⟨i, hi2, rfl, HL⟩ := hrel
                            by_cases hlt6 : i < 2
                            · have hcel := HL.out.a.cel i hlt6
                              obtain ⟨ua, uc, hv, hnc, _⟩ := (HL.out.a.l i hlt6).shape
                              rw [hv] at hcel
                              have HV := hide hv
                              have hii : (i : Int) < 2 := by omega
                              clear hv
                              go_wp2_with fail
                              go_loopw [36] (fun tt wr' => ∃ k2 : Nat, k2 ≤ nl ∧ tt = .int .i64 (k2 : Int) ∧ Hid (AL2 w1 wr' Z Y b gc NN nl s (.slice owv NN cwv) (.slice olv nl clv) pl pw B Bp Gw Gl vw va Sw Tw Sa Ta xw (.slice (some ⟨gb, 0, none⟩) 5 bc) (upF NN 5 0) xa (.slice (some ⟨ga, 0, none⟩) 2 ac2) (upF nl 2 0) 2)) (fun tt _ => nl - (RowKit.intOf tt).toNat)
                              case atStart => exact ⟨0, Nat.zero_le _, rfl, HL⟩
                              case round =>
                                clear HL hcel
                                obtain ⟨k2, hk2, rfl, HL⟩ := hrel
                                have hcel := HL.out.a.cel i hlt6
                                rw [HV.out] at hcel
                                have hnlb : nl * 64 ≤ 140737488351232 := HNL.out
                                by_cases hkn : k2 < nl
                                · have hl := HL.out.a.l i hlt6
                                  rw [HV.out] at hl
                                  obtain ⟨g4, cap4, he, _, _, _, _, _, _, _, hmk⟩ := hl.spot (by omega)
                                  simp only [Value.slice.injEq, true_and] at he
                                  obtain ⟨rfl, rfl⟩ := he
                                  have x0 := hmk k2 (by rw [upF_full hlt6]; exact hkn) hkn
                                  have hkni : (k2 : Int) < (nl : Int) := by omega
                                  have hne : ((2000 + (i : Int)) != (2000 + (i : Int))) = false := by simp
                                  clear hl hmk
                                  go_wp2_with fail
                                  exact ⟨⟨k2 + 1, hkn, by simp, HL⟩, mdecA hkn⟩
                                · have hke : k2 = nl := by omega
                                  obtain ⟨gx, capx, hx, hnc', hcm', _, e0, e1⟩ := (HL.out.a.x i hlt6).spot
                                  obtain ⟨gb', hgb, _, hrow⟩ := row_spot HL.out.a.own (by decide)
                                  cases hgb
                                  have hbx := hrow i (xa i) (by rw [List.getElem?_map, List.getElem?_range hlt6]; rfl)
                                  rw [hx] at hbx
                                  obtain ⟨M2, hM2⟩ : ∃ M2, M2 = nl + 2 := ⟨_, rfl⟩
                                  rw [← hM2] at hbx hnc'
                                  obtain ⟨N1, hN1'⟩ : ∃ N1, N1 = nl + 1 := ⟨_, rfl⟩
                                  rw [← hN1'] at e1
                                  have j1 : (nl : Int) < (M2 : Int) := by omega
                                  have j2 : (N1 : Int) < (M2 : Int) := by omega
                                  have j3 : (nl : Int) + 1 = (N1 : Int) := by omega
                                  have hib : (i : Int) < (ac2 : Int) := by omega
                                  have hne : ((1000 + (i : Int)) != (1000 + (i : Int))) = false := by simp
                                  clear hke hrow hx hM2 hN1'
                                  go_wp2_with fail
                                  exact ⟨⟨i + 1, hlt6, by simp, HL⟩, mdecA hlt6⟩
                            · obtain rfl : i = 2 := by omega
                              rw [show ((2 : Nat) : Int) = 2 from rfl]
                              have HL7 := HL
                              clear HL
                              go_wp2_with fail
                              go_loopw [37] (fun tt wr => ∃ i : Nat, i ≤ NN ∧ tt = .int .i64 (i : Int) ∧ Hid (AL2 w1 wr Z Y b gc NN nl s (.slice owv NN cwv) (.slice olv nl clv) pl pw B Bp Gw Gl vw va Sw Tw Sa Ta xw (.slice (some ⟨gb, 0, none⟩) 5 bc) (upF NN 5 0) xa (.slice (some ⟨ga, 0, none⟩) 2 ac2) (upF nl 2 0) 2)) (fun tt _ => NN - (RowKit.intOf tt).toNat)
                              case atStart => exact ⟨0, Nat.zero_le _, rfl, HL7⟩
                              case round =>
                                clear HL7
                                obtain ⟨i, hi2, rfl, HL⟩ := hrel
                                by_cases hlt7 : i < NN
                                · have x0 := words_cell HL.out.pk.ze i (by rw [List.length_replicate]; exact hlt7)
                                  rw [nth_zero hlt7] at x0
                                  have hii : (i : Int) < (NN : Int) := by omega
                                  go_wp2_with fail
                                  exact ⟨⟨i + 1, hlt7, by simp, HL⟩, mdecA hlt7⟩
                                · have hbp : b < pw := by
                                    have := HL.out.pk.zl; have := HL.out.pk.pp; have := HL.out.pk.az.bZ; omega
                                  have HBP := hide hbp
                                  have HPK := hide HL.out.pk
                                  clear HL hbp
                                  go_wp2_with fail
                                  refine HPK.out.az.image.mono ?_
                                  rintro e w20 ⟨v20, rfl, ho, hz, hc⟩
                                  have HZ1 := hide hz
                                  have HW1 := hide (OW.of (N := s.cells.length) ho)
                                  have HWS := hide (OW.of (ostep HPK.out.was HBP.out _ hc))
                                  have HLS := hide (ostep HPK.out.lg HBP.out _ hc)
                                  clear ho hz hc HPK
                                  go_wp2_with fail
                                  refine (sameWords_any _ _ s.cells _ HW1.out.at HWS.out.at).mono ?_
                                  rintro e w21 ⟨rfl, m21, rfl⟩
                                  have HZ2 := hide (HZ1.out.below (below_drewN (Below.refl _ _) m21))
                                  have HLS2 := hide (ostep HLS.out HBP.out _ (Chg.of_below (below_drewN (Below.refl _ _) m21)))
                                  clear HZ1 HW1 HWS HLS
                                  go_wp2_with fail
                                  refine (HZ2.out.log (by have := HN.out; have := HNL.out; omega)).mono ?_
                                  rintro e w22 ⟨v22, rfl, ho, hz, hc⟩
                                  have HZ3 := hide hz
                                  have HA1 := hide (AccsAt.of_owns ho)
                                  have hls := ostep HLS2.out HBP.out _ hc
                                  rw [HN.out] at hls
                                  have HA2 := hide (AccsAt.of_owns hls)
                                  clear ho hz hc hls HZ2 HLS2
                                  rw [← HN.out] at HA2
                                  go_wp2_with fail
                                  refine (sameLog_any _ _ s.log _ HA1.out HA2.out).mono ?_
                                  rintro e w23 ⟨rfl, m23, rfl⟩
                                  go_wp2_with fail
                                  go_ret
                                  exact ⟨rfl, HB1.out.trans ((below_drewN HZ3.out.bel _).mono HB1.out.size)⟩
end Go.Proofs.Ytfgchkkljlbmcaa
