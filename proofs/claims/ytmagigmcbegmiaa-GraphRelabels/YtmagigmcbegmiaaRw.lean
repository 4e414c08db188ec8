/- GraphRelabels: the law. -/
import Derived.Test.YtmagigmcbegmiaaRv
import Derived.Test.YtmagigmcbegmiaaGV
import Derived.Test.YtmagigmcbegmiaaGOf
import Derived.Deep.Cut
import Derived.Deep.CutRange
import Derived.Deep.RegionHeld3
import Derived.BigRegion
import Derived.BigQuiet
namespace Go.Proofs.Ytmagigmcbegmiaa
open Go.RowKit Go.Lib
set_option linter.unusedVariables false
set_option linter.unusedSimpArgs false
theorem gbox_keep {W x : World} {A : Nat} {t : TypeId} {p : Array Value} (hA : W.heap[A]? = some (.cells p t (0, 0))) (h : Below W.heap.size W x) {j : Nat} {u : Value} (hu : p[j]? = some u) : x.cell? ⟨A, j, none⟩ = some u := cell_of ((h.block A (lt_of_heap hA)).trans hA) hu
theorem one_cells (w : World) (x0 : Value) (t : TypeId) : ∀ j u, [x0][j]? = some u → (w.alloc (.cells #[x0] t)).cell? ((⟨w.heap.size, 0, none⟩ : Addr).add j) = some u := by
  intro j u hj
  have hh : (w.alloc (.cells #[x0] t)).heap[w.heap.size]? = some (.cells #[x0] t (0, 0)) := heap_new _ _
  match j, hj with
  | 0, hj =>
    simp at hj
    subst hj
    rw [Addr.add_lit]
    exact cell_of hh rfl
/-- The places in memory, behind Z. -/
structure PM (Z wr : World) (L : List Int) : Prop where
  bel : Below Z.heap.size Z wr
  arr : Arr wr Z.heap.size L
theorem PM.put {Z wr : World} {L : List Int} (h : PM Z wr L) (i : Nat) (x : Int) : PM Z (wr.setCell ⟨Z.heap.size, i, none⟩ (.int .i64 x)) (L.set i x) := by
  have hc : Chg (fun k => k = Z.heap.size) wr (wr.setCell ⟨Z.heap.size, i, none⟩ (.int .i64 x)) := (Chg.refl (fun k => k = Z.heap.size) wr).setCell (p := ⟨Z.heap.size, i, none⟩) rfl _
  exact ⟨Chg.below h.bel hc (fun k hk => by omega) h.bel.size, h.arr.put i x⟩
/-- The first k numbers. -/
def idL (k : Nat) : List Int := (List.range k).map (fun (v : Nat) => (v : Int))
theorem idL_len (k : Nat) : (idL k).length = k := by simp [idL]
theorem idL_succ (k : Nat) : (idL (k + 1)).map (Value.int .i64) = (idL k).map (Value.int .i64) ++ [.int .i64 (k : Int)] := by simp [idL, List.range_succ]
theorem idL_tab (n : Nat) : idL n = tab n (fun v => (v : Int)) := rfl
/-- The list of numbers under way. -/
structure OL (w wr : World) (v : Value) (k : Nat) : Prop where
  bel : Below w.heap.size w wr
  own : wr.ownsRow w.heap.size 3 1 v k ((idL k).map (Value.int .i64))
theorem OL.step {w wr w5 : World} {u v' : Value} {k : Nat} {o : Obj} (h : OL w wr u k) (hg : (wr.alloc o).grownBy w5 u.ownBlock) (hown : w5.ownsRow w.heap.size 3 1 v' (k + 1) ((idL k).map (Value.int .i64) ++ [.int .i64 (k : Int)])) : OL w w5 v' (k + 1) := by
  have hb := below_alloc h.bel o
  refine ⟨hb.grown hg hb.size (fun j hj => (World.ownsRow.lt h.own j hj).1), ?_⟩
  rw [idL_succ]; exact hown
set_option maxRecDepth 100000 in
set_option maxHeartbeats 16000000 in
theorem relabels_law (nI fI : Int) (v sv : Value) (es : List Ed3) (ss : List Int) (w : World) (hE : EAt w v es) (hnn : ∀ i, i < es.length → 0 ≤ (eAt es i).2.2) (hsv : RowAt .i64 w sv ss) :
    Calls Try.prog 9 #[.int .i64 nI, v, sv, .int .i64 fI] w fun e w' => e = .returned (.bool true) ∧ Below w.heap.size w w' := by
  obtain ⟨i3, hi3, hz3, hs3, hy3⟩ := info_parts Try.info3
  obtain ⟨n, hn1, hn2, hbu⟩ := built_any nI v es w hE hnn
  obtain ⟨va0, vc0, rfl, _⟩ := id hE
  have HBU := hide hbu
  obtain ⟨m, hm⟩ : ∃ m, m = min es.length 300 := ⟨_, rfl⟩
  rw [← hm] at HBU
  have HSV := hide hsv
  have HLV := hide (fun X => live_any X)
  clear hE hnn hbu hm hsv
  go_enter Try.func9, Try.ntmps9
  go_wp2_with fail
  refine HBU.out.mono ?_
  rintro e w1 ⟨ao, ca, bo, cb, co, cc, lo, lc, st, tl, wt, nx, rfl, hgm, _, hb1⟩
  have HB1 := hide hb1
  have HGM := hide hgm
  clear hb1 hgm HBU
  go_upto_region 2 with fail
  obtain ⟨V, hV⟩ : ∃ V, V = w1.alloc (.cells #[.int .i64 n, .slice ao (n + 1) ca, .slice bo m cb, .slice co m cc] 25) := ⟨_, rfl⟩
  have hbV : Below w1.heap.size w1 V := by rw [hV]; exact below_alloc (Below.refl _ _) _
  have hVA : V.heap[w1.heap.size]? = some (.cells #[.int .i64 n, .slice ao (n + 1) ca, .slice bo m cb, .slice co m cc] 25 (0, 0)) := by rw [hV]; exact heap_new _ _
  rw [← hV]
  obtain ⟨gb, hgb⟩ : ∃ gb, gb = w1.heap.size := ⟨_, rfl⟩
  rw [← hgb] at hVA ⊢
  have HBV := hide (below_on HB1.out hbV)
  have HK : Hid (∀ X, Below V.heap.size V X → X.cell? ⟨gb, 0, none⟩ = some (.int .i64 n) ∧ X.cell? ⟨gb, 1, none⟩ = some (.slice ao (n + 1) ca) ∧ X.cell? ⟨gb, 2, none⟩ = some (.slice bo m cb) ∧ X.cell? ⟨gb, 3, none⟩ = some (.slice co m cc)) := fun X hX => ⟨gbox_keep hVA hX rfl, gbox_keep hVA hX rfl, gbox_keep hVA hX rfl, gbox_keep hVA hX rfl⟩
  have HG : Hid (∀ X, Below V.heap.size V X → GIs X n (.slice ao (n + 1) ca) (.slice bo m cb) (.slice co m cc) st tl wt) := fun X hX => HGM.out.at (below_on hbV hX)
  have HGD := hide HGM.out.gd
  have HSX : Hid (∀ X, Below V.heap.size V X → RowAt .i64 X sv ss) := fun X hX => HSV.out.below (below_on HBV.out hX)
  have HML := hide HGM.out.la.tlen
  have HWN : Hid (∀ e, 0 ≤ at_ wt e) := fun e => by
    rcases Nat.lt_or_ge e m with h | h
    · exact (HGM.out.la.win e h).1
    · unfold at_; rw [List.getElem?_eq_none (by rw [HGM.out.la.wlen]; exact h)]; simp
  clear hV hbV hVA hgb HB1 HGM HSV
  go_wp2_with fail
  refine (HLV.out _).mono ?_
  rintro e w2 ⟨rfl, hb2⟩
  have HB2 := hide hb2
  clear hb2 HLV
  go_wp2_with fail
  go_loopw [12, 13] (fun u t wr => ∃ k : Nat, t = .int .i64 (k : Int) ∧ k ≤ n ∧ OL w2 wr u k) (fun _ t _ => n - (RowKit.intOf t).toNat)
  case atStart => exact ⟨0, rfl, Nat.zero_le _, Below.refl _ _, ⟨rfl, .inl ⟨rfl, rfl⟩⟩⟩
  case round =>
    obtain ⟨k, rfl, hk, hol⟩ := hrel
    have HOL := hide hol
    clear hol
    obtain ⟨p0, p1, p2, p3⟩ := HK.out _ (below_on HB2.out HOL.out.bel)
    by_cases hlt : k < n
    · have HOS := hide HOL.out.own
      have HSZ : Hid (w2.heap.size ≤ wr.heap.size) := HOL.out.bel.size
      clear p1 p2 p3
      go_wp2_with (at_builtin; refine wpList_append_lies _ rfl (.tmp 56) (.tmp 58) 22 rfl w2.heap.size 3 i3 (.int .i64 0) 1 8 Try.underlying22 hi3 hz3 hs3 hy3 rfl (by omega) u12 k ((idL k).map (Value.int .i64)) rfl (HOS.out.alloc _) ⟨wr.heap.size, 0, none⟩ 1 1 [.int .i64 (k : Int)] rfl rfl (one_cells wr _ _) (by simp [Value.oneCell']) (by omega) (by unfold maxLen; omega) (by omega) (by have := HSZ.out; simp; omega) (wr.heap.size + 1) (by simp) ?_; intro g5 cap5 w5 hownB hgrowB hatB hltB)
      exact ⟨⟨k + 1, by simp, by omega, HOL.out.step hgrowB hownB⟩, by simp [RowKit.intOf]; omega⟩
    · obtain rfl : n = k := by omega
      clear hk hlt p1 p2 p3
      have hown : wr.ownsRow w2.heap.size 3 1 u12 (idL n).length ((idL n).map (Value.int .i64)) := by rw [idL_len]; exact HOL.out.own
      obtain ⟨g0, ex, rfl, hoi, hg0, hcap⟩ := OwI.of_owns hown (by rw [idL_len]; omega)
      rw [idL_len] at hcap ⊢
      have HOI := hide hoi
      have HBW := hide HOL.out.bel
      have HG0 := hide hg0
      clear hown hoi hg0 HOL
      obtain ⟨so, sc, rfl⟩ := (HSX.out _ HB2.out).shape
      have HSL : Hid (ss.length ≤ 9223372036854775807) := by
        obtain ⟨_, _, he, q1, q2, _⟩ := HSX.out _ HB2.out
        show _ ≤ _
        omega
      go_wp2_with fail
      go_loopw [14, 15] (fun t _ wr2 => ∃ i : Nat, t = .int .i64 (i : Int) ∧ i ≤ ss.length ∧ ∃ o P, Prm n o P ∧ OwI wr2 g0 o ex ∧ Below w2.heap.size w2 wr2) (fun t _ _ => ss.length - (RowKit.intOf t).toNat)
      case atStart => exact ⟨0, rfl, Nat.zero_le _, idL n, id, by rw [idL_tab]; exact prm_id n, HOI.out, HBW.out⟩
      case round =>
        clear HOI HBW p0
        obtain ⟨i, rfl, hi, o, P, hP, hoi, hbr⟩ := hrel
        have HP := hide hP; have HOI := hide hoi; have HBR := hide hbr
        clear hP hoi hbr
        obtain ⟨p0, p1, p2, p3⟩ := HK.out _ (below_on HB2.out HBR.out)
        clear p1 p2 p3
        by_cases hlt : i < ss.length
        · obtain ⟨gs, os, cs, he, _, sx⟩ := (HSX.out _ (below_on HB2.out HBR.out)).cellAt i hlt
          simp only [Value.slice.injEq, true_and] at he
          obtain ⟨rfl, rfl⟩ := he
          obtain ⟨y, hy⟩ : ∃ y, y = at_ ss i := ⟨_, rfl⟩
          rw [← hy] at sx
          clear hy
          have him : (i : Int) + 1 ≤ 9223372036854775807 := by have := HSL.out; omega
          have ht := tmod_in y n (by omega)
          have hpr := prs_in y n (by omega)
          obtain ⟨j, hj⟩ : ∃ j : Nat, prs y n = (j : Int) := ⟨(prs y n).toNat, by omega⟩
          unfold prs at hj
          have hjn : j < n := by unfold prs at hpr; omega
          have hnz : ((n : Int) == 0) = false := by simp; omega
          have hnz2 : ¬ (n : Int) = 0 := by omega
          clear hpr
          go_upto_region 12 with fail
          go_cut [15] from 66 to 78 (fun t wx => t = .int .i64 (j : Int) ∧ ∃ q, wx = wr.drewN q)
          case first =>
            go_quiet (fail)
            go_wp2_with fail
            go_meet
            exact ⟨rfl, _, rfl⟩
          case rest =>
            obtain ⟨rfl, q, rfl⟩ := hcut
            clear ht hj sx p0
            obtain ⟨wq, hwq⟩ : ∃ wq, wq = wr.drewN q := ⟨_, rfl⟩
            have hbq : Below wr.heap.size wr wq := by rw [hwq]; exact below_drewN (Below.refl _ _) _
            have HOQ := hide (HOI.out.below hbq)
            have HBQ := hide (below_on HBR.out hbq)
            rw [← hwq]
            clear hwq hbq HOI HBR
            obtain ⟨p0, _, _, _⟩ := HK.out _ (below_on HB2.out HBQ.out)
            obtain ⟨a, ha⟩ : ∃ a : Nat, a = i % n := ⟨_, rfl⟩
            have han : a < n := by rw [ha]; exact Nat.mod_lt _ (by omega)
            have hmod : (i : Int).tmod (n : Int) = (a : Int) := by rw [ha]; rfl
            have hol := HP.out.len
            have xa := HOQ.out.cell a (by omega)
            have xj := HOQ.out.cell j (by omega)
            have fa := HOQ.out.free a
            have fj := HOQ.out.free j
            obtain ⟨u, hu⟩ : ∃ u, u = at_ o a := ⟨_, rfl⟩
            obtain ⟨z, hz⟩ : ∃ z, z = at_ o j := ⟨_, rfl⟩
            rw [← hu] at xa
            rw [← hz] at xj
            have HU := hide hu; have HZ := hide hz
            clear hu hz ha
            have hai : (a : Int) < (n : Int) := by omega
            have hji : (j : Int) < (n : Int) := by omega
            have HP1 := hide (HOQ.out.put a (by omega) z)
            have ys : (wq.setCell ⟨g0, a, none⟩ (.int .i64 z)).drew.cell? ⟨g0, j, none⟩ = some (.int .i64 (at_ (o.set a z) j)) := HP1.out.cell j (by rw [List.length_set]; omega)
            have yf : (wq.setCell ⟨g0, a, none⟩ (.int .i64 z)).drew.frozen? ⟨g0, j, none⟩ = false := HP1.out.free j
            go_upto_region 13 with fail
            go_region
            go_wp2_with fail
            obtain ⟨P', hP'⟩ := prm_swap HP.out han hjn
            have hfin : OwI ((wq.setCell ⟨g0, a, none⟩ (.int .i64 z)).setCell ⟨g0, j, none⟩ (.int .i64 u)) g0 (swp o a j) ex := by
              unfold swp
              rw [← HU.out, ← HZ.out]
              exact HP1.out.put j (by rw [List.length_set]; omega) u
            have hbf : Below w2.heap.size w2 ((wq.setCell ⟨g0, a, none⟩ (.int .i64 z)).setCell ⟨g0, j, none⟩ (.int .i64 u)) := (HBQ.out.setCell (p := ⟨g0, a, none⟩) HG0.out _).setCell (p := ⟨g0, j, none⟩) HG0.out _
            exact ⟨⟨i + 1, by simp, by omega, swp o a j, P', hP', hfin.below (below_drew (Below.refl _ _)), below_drew hbf⟩, by simp [RowKit.intOf]; omega⟩
        · obtain rfl : ss.length = i := by omega
          clear hi hlt
          obtain ⟨Z, hZ⟩ : ∃ Z, Z = wr := ⟨_, rfl⟩
          subst hZ
          have hmi := run_makeI n (by omega)
          go_upto_region 15 with fail
          obtain ⟨Y, hY⟩ : ∃ Y, Y = Z.alloc (.cells (madeCells #[.int .i64 0] n) 3) := ⟨_, rfl⟩
          have HPM : Hid (PM Z Y (plL P n 0)) := by
            refine ⟨by rw [hY]; exact below_alloc (Below.refl _ _) _, ?_⟩
            rw [plL_zero]
            refine arr_new ?_
            rw [hY]; exact heap_new _ _
          rw [← hY]
          clear hY hmi p0
          go_wp2_with fail
          go_loopw [17] (fun t wr2 => ∃ i : Nat, t = .int .i64 (i : Int) ∧ i ≤ n ∧ PM Z wr2 (plL P n i)) (fun t _ => n - (RowKit.intOf t).toNat)
          case atStart => exact ⟨0, rfl, Nat.zero_le _, HPM.out⟩
          case round =>
            obtain ⟨i, rfl, hi, hpm⟩ := hrel
            have HPR := hide hpm
            clear hpm HPM
            obtain ⟨p0, p1, p2, p3⟩ := HK.out _ (below_on HB2.out (below_on HBR.out HPR.out.bel))
            by_cases hlt : i < n
            · obtain ⟨q, hq1, hq2, hq3⟩ := HP.out.rng i hlt
              have hx := (HOI.out.below HPR.out.bel).cell i (by rw [HP.out.len]; exact hlt)
              rw [hq1] at hx
              have hu : ∀ v, v < n → P v = i → v = q := fun v' hv' he => by
                have h1 := (HP.out.pos v' hv').2
                rw [he, hq1] at h1
                omega
              have HST := hide (plL_set hq3 hu)
              have yc := HPR.out.arr.cell q (by unfold plL; rw [tab_length]; exact hq2)
              have yf := HPR.out.arr.free q
              have hii : (i : Int) < (n : Int) := by omega
              have hqi : (q : Int) < (n : Int) := by omega
              clear hq1 hq3 hu p1 p2 p3
              go_wp2_with fail
              refine ⟨⟨i + 1, by simp, by omega, ?_⟩, by simp [RowKit.intOf]; omega⟩
              rw [← HST.out]
              exact HPR.out.put _ _
            · obtain rfl : n = i := by omega
              clear hi hlt
              have ha := HPR.out.arr
              rw [plL_all (fun v hv => (HP.out.pos v hv).1)] at ha
              have HRB := hide (ha.row (tab_length _ _) (by omega))
              have HRO := hide ((HOI.out.below HPR.out.bel).row (by rw [HP.out.len]; exact hcap))
              rw [HP.out.len] at HRO
              have HBB := hide (below_on HBR.out HPR.out.bel)
              obtain ⟨Bk, hBk⟩ : ∃ Bk, Bk = Z.heap.size := ⟨_, rfl⟩
              rw [← hBk] at HRB ⊢
              clear ha hBk
              have HRL := hide (relabel_good n _ _ _ st tl wt (.slice (some ⟨g0, 0, none⟩) n (n + ex.length)) o P wr (HG.out _ (below_on HB2.out HBB.out)) HGD.out HWN.out HP.out HRO.out)
              unfold gAgg at HRL
              go_wp2_with fail
              refine HRL.out.mono ?_
              rintro e w3 ⟨ya, yb, yc, st', tl', wt', nx', rfl, hgi, hs1, hl1, hb⟩
              obtain ⟨ho, ha, rfl⟩ := hgi.s.shape
              obtain ⟨io, ia, rfl⟩ := hgi.t.shape
              obtain ⟨jo, ja, rfl⟩ := hgi.u.shape
              have HPP : Hid (∀ v, v < n → P v < n) := fun v hv => (HP.out.pos v hv).1
              obtain ⟨hgd1, _⟩ := ren_edge HGD.out HPP.out hs1 hl1
              have HGD1 := hide hgd1
              have HS1 := hide hs1; have HL1 := hide hl1
              have HB3 := hide (below_on HBB.out hb)
              have HRB3 := hide (HRB.out.below hb)
              have HWN1 : Hid (∀ e, 0 ≤ at_ wt' e) := fun e => by
                rcases Nat.lt_or_ge e tl.length with h | h
                · exact (HL1.out.win e h).1
                · unfold at_; rw [List.getElem?_eq_none (by rw [HL1.out.wlen]; exact h)]; simp
              unfold gAgg
              go_upto_region 20 with fail
              obtain ⟨H, hH⟩ : ∃ H, H = w3.alloc (.cells #[.int .i64 n, .slice ho st'.length ha, .slice io tl'.length ia, .slice jo wt'.length ja] 25) := ⟨_, rfl⟩
              have hbH : Below w3.heap.size w3 H := by rw [hH]; exact below_alloc (Below.refl _ _) _
              have hHA : H.heap[w3.heap.size]? = some (.cells #[.int .i64 n, .slice ho st'.length ha, .slice io tl'.length ia, .slice jo wt'.length ja] 25 (0, 0)) := by rw [hH]; exact heap_new _ _
              rw [← hH]
              obtain ⟨hb_, hhb⟩ : ∃ hb_, hb_ = w3.heap.size := ⟨_, rfl⟩
              rw [← hhb] at hHA ⊢
              have HBH := hide (below_on HB3.out hbH)
              have HKH : Hid (∀ X, Below H.heap.size H X → (X.cell? ⟨gb, 0, none⟩ = some (.int .i64 n) ∧ X.cell? ⟨gb, 1, none⟩ = some (.slice ao (n + 1) ca) ∧ X.cell? ⟨gb, 2, none⟩ = some (.slice bo m cb) ∧ X.cell? ⟨gb, 3, none⟩ = some (.slice co m cc)) ∧ (X.cell? ⟨hb_, 0, none⟩ = some (.int .i64 n) ∧ X.cell? ⟨hb_, 1, none⟩ = some (.slice ho st'.length ha) ∧ X.cell? ⟨hb_, 2, none⟩ = some (.slice io tl'.length ia) ∧ X.cell? ⟨hb_, 3, none⟩ = some (.slice jo wt'.length ja))) := fun X hX => ⟨HK.out X (below_on HB2.out (below_on HBH.out hX)), gbox_keep hHA hX rfl, gbox_keep hHA hX rfl, gbox_keep hHA hX rfl, gbox_keep hHA hX rfl⟩
              have HGH : Hid (∀ X, Below H.heap.size H X → GIs X n (.slice ao (n + 1) ca) (.slice bo m cb) (.slice co m cc) st tl wt) := fun X hX => HG.out X (below_on HB2.out (below_on HBH.out hX))
              have HHH : Hid (∀ X, Below H.heap.size H X → GIs X n (.slice ho st'.length ha) (.slice io tl'.length ia) (.slice jo wt'.length ja) st' tl' wt') := fun X hX => (hgi.below hbH).below hX
              have HBKH : Hid (∀ X, Below H.heap.size H X → RowAt .i64 X (.slice (some ⟨Bk, 0, none⟩) n n) (tab n (fun v => (P v : Int)))) := fun X hX => (HRB3.out.below hbH).below hX
              have HR2 := hide (relabel_good n _ _ _ st' tl' wt' (.slice (some ⟨Bk, 0, none⟩) n n) _ _ H (HHH.out _ (Below.refl _ _)) HGD1.out HWN1.out (prm_back HP.out).1 (HBKH.out _ (Below.refl _ _)))
              unfold gAgg at HR2
              clear hgi hs1 hl1 hgd1 hb hH hbH hHA hhb HRB HRB3 HRL HRO HB3 HBB p0 p1 p2 p3
              obtain ⟨⟨p0, p1, p2, p3⟩, q0, q1, q2, q3⟩ := HKH.out _ (Below.refl _ _)
              go_wp2_with fail
              refine HR2.out.mono ?_
              rintro e w4 ⟨za, zb, zc, st2, tl2, wt2, nx2, rfl, hgi, hs2, hl2, hb⟩
              obtain ⟨e1, e2⟩ := ren_back HGD.out HPP.out (prm_back HP.out).2.1 (prm_back HP.out).2.2 HS1.out HL1.out hs2 hl2
              rw [e1, e2] at hgi
              obtain ⟨ko, ka, rfl⟩ := hgi.s.shape
              obtain ⟨mo, ma, rfl⟩ := hgi.t.shape
              obtain ⟨qo, qa, rfl⟩ := hgi.u.shape
              have HB4 := hide hb
              have HG4 := hide hgi
              clear hs2 hl2 e1 e2 hb hgi p0 p1 p2 p3 q0 q1 q2 q3 HR2
              unfold gAgg
              go_upto_region 21 with fail
              obtain ⟨K4, hK⟩ : ∃ K4, K4 = w4.alloc (.cells #[.int .i64 n, .slice ko st.length ka, .slice mo tl.length ma, .slice qo wt2.length qa] 25) := ⟨_, rfl⟩
              have hbK : Below w4.heap.size w4 K4 := by rw [hK]; exact below_alloc (Below.refl _ _) _
              have hKA : K4.heap[w4.heap.size]? = some (.cells #[.int .i64 n, .slice ko st.length ka, .slice mo tl.length ma, .slice qo wt2.length qa] 25 (0, 0)) := by rw [hK]; exact heap_new _ _
              rw [← hK]
              obtain ⟨kb, hkb⟩ : ∃ kb, kb = w4.heap.size := ⟨_, rfl⟩
              rw [← hkb] at hKA ⊢
              have HBK := hide (below_on HB4.out hbK)
              have HKK : Hid (∀ X, Below K4.heap.size K4 X → X.cell? ⟨kb, 1, none⟩ = some (.slice ko st.length ka) ∧ X.cell? ⟨kb, 2, none⟩ = some (.slice mo tl.length ma)) := fun X hX => ⟨gbox_keep hKA hX rfl, gbox_keep hKA hX rfl⟩
              have HSS : Hid (∀ X, Below K4.heap.size K4 X → Calls Try.prog 20 #[.slice ko st.length ka, .slice ao (n + 1) ca] X fun e w' => e = .returned (.bool true) ∧ Below X.heap.size X w') := fun X hX => same_any _ _ _ X ((HG4.out.below hbK).below hX).s (HGH.out X (below_on HBK.out hX)).s
              have HTT : Hid (∀ X, Below K4.heap.size K4 X → Calls Try.prog 20 #[.slice mo tl.length ma, .slice bo m cb] X fun e w' => e = .returned (.bool true) ∧ Below X.heap.size X w') := fun X hX => same_any _ _ _ X ((HG4.out.below hbK).below hX).t (HGH.out X (below_on HBK.out hX)).t
              clear hK hbK hKA hkb HG4 HB4
              obtain ⟨⟨p0, p1, p2, p3⟩, q0, q1, q2, q3⟩ := HKH.out _ HBK.out
              obtain ⟨k1, k2⟩ := HKK.out _ (Below.refl _ _)
              go_wp2_with fail
              refine (HSS.out _ (Below.refl _ _)).mono ?_
              rintro e w5 ⟨rfl, hb5⟩
              have HB5 := hide hb5
              clear hb5 HSS p0 p1 p2 p3 q0 q1 q2 q3 k1 k2
              obtain ⟨⟨p0, p1, p2, p3⟩, q0, q1, q2, q3⟩ := HKH.out _ (below_on HBK.out HB5.out)
              obtain ⟨k1, k2⟩ := HKK.out _ HB5.out
              go_wp2_with fail
              refine (HTT.out _ HB5.out).mono ?_
              rintro e w6 ⟨rfl, hb6⟩
              have HB6 := hide (below_on HBK.out (below_on HB5.out hb6))
              clear hb6 HTT HKK HB5 HBK p0 p1 p2 p3 q0 q1 q2 q3 k1 k2
              obtain ⟨⟨p0, p1, p2, p3⟩, q0, q1, q2, q3⟩ := HKH.out _ HB6.out
              have hnn : ((n : Int) != (n : Int)) = false := by simp
              clear p1 p2 p3 q1 q2 q3
              have ht := tmod_in fI n (by omega)
              have hpr := prs_in fI n (by omega)
              obtain ⟨v, hv⟩ : ∃ v : Nat, prs fI n = (v : Int) := ⟨(prs fI n).toNat, by omega⟩
              unfold prs at hv
              have hvn : v < n := by unfold prs at hpr; omega
              have hnz : ((n : Int) == 0) = false := by simp; omega
              have hnz2 : ¬ (n : Int) = 0 := by omega
              clear hpr
              go_upto_region 23 with fail
              go_cut [22] from 156 to 165 (fun t wx => t = .int .i64 (v : Int) ∧ ∃ q, wx = w6.drewN q)
              case first =>
                go_quiet (fail)
                go_wp2_with fail
                go_meet
                exact ⟨rfl, _, rfl⟩
              case rest =>
                obtain ⟨rfl, q, rfl⟩ := hcut
                clear ht hv p0 q0 hnn
                obtain ⟨wq, hwq⟩ : ∃ wq, wq = w6.drewN q := ⟨_, rfl⟩
                have HB7 : Hid (Below H.heap.size H wq) := by rw [hwq]; exact below_drewN HB6.out _
                rw [← hwq]
                clear hwq HB6
                have hRG := fun (x : Nat) (hx : x < n) (X : World) (hX : Below H.heap.size H X) => callsIn_wide.1 (reach_good 0 n _ _ _ st tl wt (.slice (some ⟨X.heap.size, 0, none⟩) 1 1) [(x : Int)] (X.alloc (.cells #[.int .i64 (x : Int)] 3)) (HGH.out _ (below_on hX (below_alloc (Below.refl _ _) _))) HGD.out (good_chk' HGD.out) (Arr.row (l := [(x : Int)]) (heap_new _ _) rfl (by omega)) (by simp) (fun i hi => by
                  have : i = 0 := by simp at hi; omega
                  subst this
                  show IsV n (x : Int)
                  exact ⟨by omega, by omega⟩))
                have HRG := hide hRG
                have hRH := fun (x : Nat) (hx : x < n) (X : World) (hX : Below H.heap.size H X) => callsIn_wide.1 (reach_good 0 n _ _ _ st' tl' wt' (.slice (some ⟨X.heap.size, 0, none⟩) 1 1) [(x : Int)] (X.alloc (.cells #[.int .i64 (x : Int)] 3)) (HHH.out _ (below_on hX (below_alloc (Below.refl _ _) _))) HGD1.out (good_chk' HGD1.out) (Arr.row (l := [(x : Int)]) (heap_new _ _) rfl (by omega)) (by simp) (fun i hi => by
                  have : i = 0 := by simp at hi; omega
                  subst this
                  show IsV n (x : Int)
                  exact ⟨by omega, by omega⟩))
                have HRH := hide hRH
                unfold gAgg at HRG HRH
                clear hRG hRH
                obtain ⟨⟨p0, p1, p2, p3⟩, _⟩ := HKH.out _ HB7.out
                go_wp2_with fail
                refine (HRG.out v hvn _ HB7.out).mono ?_
                rintro e w8 ⟨RX, X, rfl, hX, hXl, hXr, hb⟩
                have HB8 := hide (below_on HB7.out (below_on (below_alloc (Below.refl _ _) _) hb))
                have HX := hide hX; have HXR := hide (And.intro hXl hXr)
                clear hb hX hXl hXr p0 p1 p2 p3 HB7
                obtain ⟨_, q0, q1, q2, q3⟩ := HKH.out _ HB8.out
                obtain ⟨g1, o1, c1, he, _, bv⟩ := (HBKH.out _ HB8.out).cellAt v (by rw [tab_length]; exact hvn)
                rw [tab_length] at he
                simp only [Value.slice.injEq, Option.some.injEq, Addr.mk.injEq, and_true, true_and] at he
                obtain ⟨⟨rfl, rfl⟩, rfl⟩ := he
                rw [tab_at n _ v hvn, Nat.zero_add] at bv
                have hvi : (v : Int) < (n : Int) := by omega
                have HC9 : Hid (∀ X1, Below w8.heap.size w8 X1 → X1.cell? ⟨hb_, 0, none⟩ = some (.int .i64 n) ∧ X1.cell? ⟨hb_, 1, none⟩ = some (.slice ho st'.length ha) ∧ X1.cell? ⟨hb_, 2, none⟩ = some (.slice io tl'.length ia) ∧ X1.cell? ⟨hb_, 3, none⟩ = some (.slice jo wt'.length ja) ∧ X1.cell? ⟨Bk, v, none⟩ = some (.int .i64 (P v : Int))) := fun X1 h1 => ⟨(below_cell h1 (block_of_cell q0)).trans q0, (below_cell h1 (block_of_cell q1)).trans q1, (below_cell h1 (block_of_cell q2)).trans q2, (below_cell h1 (block_of_cell q3)).trans q3, (below_cell h1 (block_of_cell bv)).trans bv⟩
                have HRP := hide (HRH.out (P v) (HPP.out v hvn) w8.drew (below_drew HB8.out))
                go_upto_region 25 with fail
                go_cut [25, 26] from 173 to 182 (fun t u wx => ∃ (RY : Nat) (Y : List Bool), t = .slice (some ⟨RY, 0, none⟩) n n ∧ u = .int .i64 0 ∧ ArrB wx RY Y ∧ Y.length = n ∧ (∀ k, k < n → (bAt Y k = true ↔ Rch n st' tl' [((P v : Nat) : Int)] k)) ∧ Below w8.heap.size w8 wx)
                case first =>
                  refine wp_region_noPanic ?_
                  go_region_held3 (fun z => z.cell? ⟨hb_, 0, none⟩ = some (.int .i64 n) ∧ z.cell? ⟨hb_, 1, none⟩ = some (.slice ho st'.length ha) ∧ z.cell? ⟨hb_, 2, none⟩ = some (.slice io tl'.length ia) ∧ z.cell? ⟨hb_, 3, none⟩ = some (.slice jo wt'.length ja) ∧ z.cell? ⟨Bk, v, none⟩ = some (.int .i64 (P v : Int))) (first | exact ⟨q0, q1, q2, q3, bv⟩ | exact ⟨cellAl _ q0, cellAl _ q1, cellAl _ q2, cellAl _ q3, cellAl _ bv⟩ | exact HS9)
                    (first | (go_at_call 18; refine HRP.out.mono ?_; rintro e w9 ⟨RY, Y, rfl, hY, hYl, hYr, hb⟩; have HS9 := HC9.out w9 (below_on (below_alloc (below_drew (Below.refl _ _)) _) hb)))
                  all_goals
                    refine NoPanic.normal ?_
                    go_wp2_with fail
                    go_meet
                    exact ⟨RY, Y, rfl, rfl, hY, hYl, hYr, below_on (below_alloc (below_drew (Below.refl _ _)) _) hb⟩
                case rest =>
                  obtain ⟨RY, Y, rfl, rfl, hY, hYl, hYr, hb⟩ := hcut
                  have HB9 := hide (below_on HB8.out hb)
                  have HX9 : Hid (ArrB wc RX X) := (hb.block _ (lt_of_heap HX.out)).trans HX.out
                  have HY := hide hY; have HYR := hide (And.intro hYl hYr)
                  clear hb hY hYl hYr HRP HRH bv q0 q1 q2 q3 HX HB8
                  obtain ⟨⟨p0, p1, p2, p3⟩, _⟩ := HKH.out _ HB9.out
                  have HTU := hide (turn_good n _ _ _ st tl wt wc (HGH.out _ HB9.out) HGD.out HWN.out)
                  unfold gAgg at HTU
                  go_wp2_with fail
                  refine HTU.out.mono ?_
                  rintro e w10 ⟨ta, tb, tc, st5, tl5, wt5, nx5, rfl, hgi, hs5, hl5, hb⟩
                  obtain ⟨ho5, ha5, rfl⟩ := hgi.s.shape
                  obtain ⟨io5, ia5, rfl⟩ := hgi.t.shape
                  obtain ⟨jo5, ja5, rfl⟩ := hgi.u.shape
                  have hg5 : Good n st5 tl5 wt5 := hl5.good hs5 (fun i hi => (tov_lt' HGD.out hi).1) HGD.out.n_le HGD.out.m_le
                  have HG5 := hide hg5
                  have HTR : Hid (∀ u a, Rch n st5 tl5 [((u : Nat) : Int)] a ↔ Rch n st tl [((a : Nat) : Int)] u) := fun u a => turn_reach HGD.out hs5 hl5
                  unfold gAgg
                  go_upto_region 27 with fail
                  obtain ⟨T5, hT⟩ : ∃ T5, T5 = w10.alloc (.cells #[.int .i64 n, .slice ho5 st5.length ha5, .slice io5 tl5.length ia5, .slice jo5 wt5.length ja5] 25) := ⟨_, rfl⟩
                  have hbT : Below w10.heap.size w10 T5 := by rw [hT]; exact below_alloc (Below.refl _ _) _
                  have hTA : T5.heap[w10.heap.size]? = some (.cells #[.int .i64 n, .slice ho5 st5.length ha5, .slice io5 tl5.length ia5, .slice jo5 wt5.length ja5] 25 (0, 0)) := by rw [hT]; exact heap_new _ _
                  rw [← hT]
                  obtain ⟨tb_, htb⟩ : ∃ tb_, tb_ = w10.heap.size := ⟨_, rfl⟩
                  rw [← htb] at hTA ⊢
                  have HBT := hide (below_on HB9.out (below_on hb hbT))
                  have HXT : Hid (∀ X1, Below T5.heap.size T5 X1 → ArrB X1 RX X) := fun X1 h1 => ((below_on (below_on hb hbT) h1).block _ (lt_of_heap HX9.out)).trans HX9.out
                  have HYT : Hid (∀ X1, Below T5.heap.size T5 X1 → ArrB X1 RY Y) := fun X1 h1 => ((below_on (below_on hb hbT) h1).block _ (lt_of_heap HY.out)).trans HY.out
                  have HKT : Hid (∀ X1, Below T5.heap.size T5 X1 → X1.cell? ⟨tb_, 0, none⟩ = some (.int .i64 n) ∧ X1.cell? ⟨tb_, 1, none⟩ = some (.slice ho5 st5.length ha5) ∧ X1.cell? ⟨tb_, 2, none⟩ = some (.slice io5 tl5.length ia5) ∧ X1.cell? ⟨tb_, 3, none⟩ = some (.slice jo5 wt5.length ja5)) := fun X1 h1 => ⟨gbox_keep hTA h1 rfl, gbox_keep hTA h1 rfl, gbox_keep hTA h1 rfl, gbox_keep hTA h1 rfl⟩
                  have HGT : Hid (∀ X1, Below T5.heap.size T5 X1 → GIs X1 n (.slice ho5 st5.length ha5) (.slice io5 tl5.length ia5) (.slice jo5 wt5.length ja5) st5 tl5 wt5) := fun X1 h1 => (hgi.below hbT).below h1
                  clear hgi hs5 hl5 hb hT hbT hTA htb hg5 HTU HX9 HY p0 p1 p2 p3
                  obtain ⟨⟨p0, p1, p2, p3⟩, _⟩ := HKH.out _ HBT.out
                  have xv := (HXT.out _ (Below.refl _ _)).cell v (by rw [HXR.out.1]; exact hvn)
                  rw [show bAt X v = true from (HXR.out.2 v hvn).2 rch_one] at xv
                  have hnn : ((n : Int) != (n : Int)) = false := by simp
                  clear p1 p2 p3
                  go_wp2_with fail
                  clear xv hnn p0
                  have hRT := fun (x : Nat) (hx : x < n) (X1 : World) (h1 : Below T5.heap.size T5 X1) => callsIn_wide.1 (reach_good 0 n _ _ _ st5 tl5 wt5 (.slice (some ⟨X1.heap.size, 0, none⟩) 1 1) [(x : Int)] (X1.alloc (.cells #[.int .i64 (x : Int)] 3)) (HGT.out _ (below_on h1 (below_alloc (Below.refl _ _) _))) HG5.out (good_chk' HG5.out) (Arr.row (l := [(x : Int)]) (heap_new _ _) rfl (by omega)) (by simp) (fun i hi => by
                    have : i = 0 := by simp at hi; omega
                    subst this
                    show IsV n (x : Int)
                    exact ⟨by omega, by omega⟩))
                  have HRT := hide hRT
                  unfold gAgg at HRT
                  clear hRT
                  go_loopw [29, 30, 31] (fun t _ _ wr2 => ∃ k : Nat, t = .int .i64 (k : Int) ∧ k ≤ n ∧ Below T5.heap.size T5 wr2) (fun t _ _ _ => n - (RowKit.intOf t).toNat)
                  case atStart => exact ⟨0, rfl, Nat.zero_le _, Below.refl _ _⟩
                  case round =>
                    obtain ⟨k, rfl, hk, hbr⟩ := hrel
                    have HBK := hide hbr
                    clear hbr
                    obtain ⟨⟨p0, p1, p2, p3⟩, _⟩ := HKH.out _ (below_on HBT.out HBK.out)
                    by_cases hlt : k < n
                    · obtain ⟨t0, t1, t2, t3⟩ := HKT.out _ HBK.out
                      clear p1 p2 p3
                      go_wp2_with fail
                      refine (HRT.out k hlt _ HBK.out).mono ?_
                      rintro e w11 ⟨RC, C, rfl, hC, hCl, hCr, hb⟩
                      have HB11 := hide (below_on HBK.out (below_on (below_alloc (Below.refl _ _) _) hb))
                      clear t0 t1 t2 t3 p0 hb
                      obtain ⟨⟨p0, p1, p2, p3⟩, _⟩ := HKH.out _ (below_on HBT.out HB11.out)
                      clear p1 p2 p3
                      have x1 := (HXT.out _ HB11.out).cell k (by rw [HXR.out.1]; exact hlt)
                      have y1 := (HYT.out _ HB11.out).cell (P k) (by rw [HYR.out.1]; exact HPP.out k hlt)
                      have c1 := hC.cell v (by rw [hCl]; exact hvn)
                      have hxy : bAt Y (P k) = bAt X k := by
                        rw [Bool.eq_iff_iff, HYR.out.2 (P k) (HPP.out k hlt), HXR.out.2 k hlt]
                        exact ren_reach (Q := fun v => (at_ o v).toNat) HGD.out HPP.out (prm_back HP.out).2.2 HS1.out HL1.out hvn hlt
                      have hxc : bAt C v = bAt X k := by
                        rw [Bool.eq_iff_iff, hCr v hvn, HXR.out.2 k hlt]
                        exact HTR.out k v
                      rw [hxy] at y1
                      rw [hxc] at c1
                      obtain ⟨g2, o2, c2, he, _, bk⟩ := (HBKH.out _ (below_on HBT.out HB11.out)).cellAt k (by rw [tab_length]; exact hlt)
                      rw [tab_length] at he
                      simp only [Value.slice.injEq, Option.some.injEq, Addr.mk.injEq, and_true, true_and] at he
                      obtain ⟨⟨rfl, rfl⟩, rfl⟩ := he
                      rw [tab_at n _ k hlt, Nat.zero_add] at bk
                      have hpk := HPP.out k hlt
                      obtain ⟨z, hz⟩ : ∃ z, z = bAt X k := ⟨_, rfl⟩
                      obtain ⟨pk', hpk'⟩ : ∃ pk', pk' = P k := ⟨_, rfl⟩
                      rw [← hz] at x1 y1 c1
                      rw [← hpk'] at y1 bk hpk
                      clear hz hpk' hxy hxc hC hCl hCr
                      have hnn : ((n : Int) != (n : Int)) = false := by simp
                      have hzz : (z != z) = false := by simp
                      have hki : (k : Int) < (n : Int) := by omega
                      have hpi : (pk' : Int) < (n : Int) := by omega
                      go_upto_region 33 with fail
                      go_quiet (fail)
                      go_wp2_with fail
                      exact ⟨⟨k + 1, by simp, by omega, below_drewN HB11.out _⟩, by simp [RowKit.intOf]; omega⟩
                    · obtain rfl : n = k := by omega
                      clear hk hlt HRT HGT HKT HTR HXT HYT HXR HYR HG5
                      have HBF := hide (below_on HBT.out HBK.out)
                      clear HBT HBK
                      have HBD := hide (bydeg_good n (by omega) _ _ _ st tl wt wr (HGH.out _ HBF.out) HGD.out)
                      unfold gAgg at HBD
                      go_wp2_with fail
                      refine HBD.out.mono ?_
                      rintro e w12 ⟨A, L, rfl, hA, hLp, hLs, hb⟩
                      have hLn : L.length = n := by rw [hLp.length_eq]; simp
                      have HPL := hide (prm_of hLp)
                      have HB12 := hide (below_on HBF.out hb)
                      have HR3 := hide (relabel_good n _ _ _ st tl wt (.slice (some ⟨A, 0, none⟩) n n) (valL L) _ w12 (HGH.out _ HB12.out) HGD.out HWN.out HPL.out (hA.row (by unfold valL; rw [List.length_map]; exact hLn) (by omega)))
                      have HLS := hide (And.intro hLn hLs)
                      unfold gAgg at HR3
                      clear hA hLp hLs hLn hb HBD p0 p1 p2 p3
                      obtain ⟨⟨p0, p1, p2, p3⟩, _⟩ := HKH.out _ HB12.out
                      go_wp2_with fail
                      refine HR3.out.mono ?_
                      rintro e w13 ⟨xa, xb, xc, st6, tl6, wt6, nx6, rfl, hgi, hs6, hl6, hb⟩
                      have HDG : Hid (∀ j, j + 1 < n → at_ st6 (j + 1 + 1) - at_ st6 (j + 1) ≤ at_ st6 (j + 1) - at_ st6 j) := fun j hj => by
                        have hQ := prm_back HPL.out
                        have hd := fun (i : Nat) (hi : i < n) => ren_deg (Q := fun v => (at_ (valL L) v).toNat) HGD.out (fun v hv => (HPL.out.pos v hv).1) hQ.2.2 hs6 (v := (at_ (valL L) i).toNat) (hQ.2.1 i hi)
                        have hp := fun (i : Nat) (hi : i < n) => (show L.findIdx (fun x => decide (x.val = (at_ (valL L) i).toNat)) = i from by
                          obtain ⟨u, h1, h2, h3⟩ := HPL.out.rng i hi
                          have h4 : (at_ (valL L) i).toNat = u := by rw [h1]; exact Int.toNat_natCast _
                          rw [h4]; exact h3)
                        have h1 := hd j (by omega)
                        have h2 := hd (j + 1) hj
                        rw [hp j (by omega)] at h1
                        rw [hp (j + 1) hj] at h2
                        rw [h1, h2]
                        have hl1 : j < L.length := by rw [HLS.out.1]; omega
                        have hl2 : j + 1 < L.length := by rw [HLS.out.1]; omega
                        have h5 := (List.pairwise_iff_getElem.1 HLS.out.2) j (j + 1) hl1 hl2 (by omega)
                        rw [valL_at L j hl1, valL_at L (j + 1) hl2, Int.toNat_natCast, Int.toNat_natCast]
                        exact h5
                      have hg6 : Good n st6 tl6 wt6 := (ren_edge HGD.out (fun v hv => (HPL.out.pos v hv).1) hs6 hl6).1
                      have HRN : Hid (∀ i, i ≤ n → 0 ≤ at_ st6 i ∧ at_ st6 i ≤ 4194304) := fun i hi => by have := hg6.range i hi; have := hg6.m_le; omega
                      have hsl := hs6.1
                      obtain ⟨ho6, ha6, rfl⟩ := hgi.s.shape
                      obtain ⟨io6, ia6, rfl⟩ := hgi.t.shape
                      obtain ⟨jo6, ja6, rfl⟩ := hgi.u.shape
                      rw [hsl] at hgi ⊢
                      unfold gAgg
                      go_upto_region 37 with fail
                      obtain ⟨S6, hS⟩ : ∃ S6, S6 = w13.alloc (.cells #[.int .i64 n, .slice ho6 (n + 1) ha6, .slice io6 tl6.length ia6, .slice jo6 wt6.length ja6] 25) := ⟨_, rfl⟩
                      have hbS : Below w13.heap.size w13 S6 := by rw [hS]; exact below_alloc (Below.refl _ _) _
                      have hSA : S6.heap[w13.heap.size]? = some (.cells #[.int .i64 n, .slice ho6 (n + 1) ha6, .slice io6 tl6.length ia6, .slice jo6 wt6.length ja6] 25 (0, 0)) := by rw [hS]; exact heap_new _ _
                      rw [← hS]
                      obtain ⟨sb_, hsb⟩ : ∃ sb_, sb_ = w13.heap.size := ⟨_, rfl⟩
                      rw [← hsb] at hSA ⊢
                      have HBS := hide (below_on HB12.out (below_on hb hbS))
                      have HKS : Hid (∀ X1, Below S6.heap.size S6 X1 → X1.cell? ⟨sb_, 1, none⟩ = some (.slice ho6 (n + 1) ha6)) := fun X1 h1 => gbox_keep hSA h1 rfl
                      have HRS : Hid (∀ X1, Below S6.heap.size S6 X1 → RowAt .i64 X1 (.slice ho6 (n + 1) ha6) st6) := fun X1 h1 => ((hgi.below hbS).below h1).s
                      have HSL6 := hide hsl
                      clear hgi hs6 hl6 hb hS hbS hSA hsb hg6 hsl HR3 HB12 p0 p1 p2 p3
                      obtain ⟨⟨p0, p1, p2, p3⟩, _⟩ := HKH.out _ HBS.out
                      have k1 := HKS.out _ (Below.refl _ _)
                      have hnn : ((n : Int) + 1 != (n : Int) + 1) = false := by simp
                      clear p1 p2 p3
                      go_wp2_with fail
                      clear hnn k1 p0
                      go_loopw [36] (fun t wr2 => ∃ k : Nat, t = .int .i64 (k : Int) ∧ 2 ≤ k ∧ (k ≤ n + 1 ∨ k = 2) ∧ Below S6.heap.size S6 wr2) (fun t _ => n + 2 - (RowKit.intOf t).toNat)
                      case atStart => exact ⟨2, rfl, Nat.le_refl _, .inr rfl, Below.refl _ _⟩
                      case round =>
                        obtain ⟨k, rfl, hk2, hkn, hbr⟩ := hrel
                        have HBK := hide hbr
                        clear hbr
                        obtain ⟨⟨p0, p1, p2, p3⟩, _⟩ := HKH.out _ (below_on HBS.out HBK.out)
                        have k1 := HKS.out _ HBK.out
                        clear p1 p2 p3
                        by_cases hlt : k ≤ n
                        · obtain ⟨j, rfl⟩ : ∃ j, k = j + 2 := ⟨k - 2, by omega⟩
                          obtain ⟨gs, os, cs, he, _, s0⟩ := (HRS.out _ HBK.out).cellAt j (by rw [HSL6.out]; omega)
                          rw [HSL6.out] at he
                          simp only [Value.slice.injEq, true_and] at he
                          obtain ⟨rfl, rfl⟩ := he
                          obtain ⟨g2, o2, c2, he, _, s1⟩ := (HRS.out _ HBK.out).cellAt (j + 1) (by rw [HSL6.out]; omega)
                          rw [HSL6.out] at he
                          simp only [Value.slice.injEq, Option.some.injEq, Addr.mk.injEq, and_true, true_and] at he
                          obtain ⟨⟨rfl, rfl⟩, rfl⟩ := he
                          obtain ⟨g2, o2, c2, he, _, s2⟩ := (HRS.out _ HBK.out).cellAt (j + 2) (by rw [HSL6.out]; omega)
                          rw [HSL6.out] at he
                          simp only [Value.slice.injEq, Option.some.injEq, Addr.mk.injEq, and_true, true_and] at he
                          obtain ⟨⟨rfl, rfl⟩, rfl⟩ := he
                          have hd := HDG.out j (by omega)
                          have r0 := HRN.out j (by omega)
                          have r1 := HRN.out (j + 1) (by omega)
                          have r2 := HRN.out (j + 2) (by omega)
                          rw [show j + 1 + 1 = j + 2 from rfl] at hd
                          obtain ⟨a0, h0⟩ : ∃ a0, a0 = at_ st6 j := ⟨_, rfl⟩
                          obtain ⟨a1, h1⟩ : ∃ a1, a1 = at_ st6 (j + 1) := ⟨_, rfl⟩
                          obtain ⟨a2, h2⟩ : ∃ a2, a2 = at_ st6 (j + 2) := ⟨_, rfl⟩
                          rw [← h0] at s0 hd r0
                          rw [← h1] at s1 hd r1
                          rw [← h2] at s2 hd r2
                          clear h0 h1 h2
                          have hgt : ¬ (a1 - a0 < a2 - a1) := by omega
                          have hjj : ((j + 2 : Nat) : Int) ≤ (n : Int) := by omega
                          clear hd
                          go_upto_region 42 with fail
                          go_quiet (fail)
                          go_wp2_with fail
                          exact ⟨⟨j + 2 + 1, by simp, by omega, by omega, below_drewN HBK.out _⟩, by simp [RowKit.intOf]; omega⟩
                        · have hgt : ¬ (k : Int) ≤ (n : Int) := by omega
                          go_wp2_with fail
                          go_ret
                          exact ⟨rfl, below_on HBV.out (below_on HB2.out (below_on HBH.out (below_on HBS.out HBK.out)))⟩
end Go.Proofs.Ytmagigmcbegmiaa
