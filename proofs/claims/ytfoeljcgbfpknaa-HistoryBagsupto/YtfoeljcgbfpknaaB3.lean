/- The document's Bag. -/
import Derived.Test.YtfoeljcgbfpknaaB2
namespace Go.Proofs.Ytfoeljcgbfpknaa
open Go.RowKit Go.Lib
set_option linter.unusedVariables false
set_option linter.unusedSimpArgs false
/-- A list of ints of one's own. -/
structure IO1 (w W : World) (v : Value) (L : List Int) : Prop where
  bel : Below w.heap.size w W
  own : ROwn iA 1 3 W w.heap.size v L
theorem IO1.on {w W W' : World} {v : Value} {L : List Int} (h : IO1 w W v L) (hb : Below W.heap.size W W') : IO1 w W' v L := ⟨below_on h.bel hb, h.own.below hb⟩
theorem IO1.nil (w W : World) (h : Below w.heap.size w W) : IO1 w W (.slice none 0 0) [] := ⟨h, ROwn.nil W _⟩
theorem IO1.push {w W W5 : World} {v v5 : Value} {L : List Int} {x : Int} {p : Obj} {n : Nat} (h : IO1 w W v L) (hn : L.length = n) (hown : W5.ownsRow w.heap.size 3 1 v5 (n + 1) (rCells iA L ++ (iA x).toList)) (hgrow : (W.alloc p).grownBy W5 v.ownBlock) : IO1 w W5 v5 (L ++ [x]) :=
  ⟨(below_alloc h.bel p).grown hgrow (by have := h.bel.size; simp; omega) (fun j hj => (h.own.lt j hj).1), ROwn.grown (w := W) (v := v) hn hown⟩
/-- What Bag answers. -/
def BgA (l : List Sp) (L : List Int) (b : Bool) (r : Int) : Prop :=
  (FiA l r ∧ r ≠ 0 ∧ L = [] ∧ b = false) ∨ (FiA l 0 ∧ (TwiD l ∨ FreD l) ∧ L = [] ∧ b = false ∧ r = 0) ∨ (FiA l 0 ∧ ¬ TwiD l ∧ ¬ FreD l ∧ L = ordB l (momD l l.length) ∧ b = true ∧ r = 0)
theorem BgA.one {l : List Sp} {L L' : List Int} {b b' : Bool} {r r' : Int} (h : BgA l L b r) (k : BgA l L' b' r') : L = L' ∧ b = b' ∧ r = r' := by
  rcases h with ⟨a1, a2, rfl, rfl⟩ | ⟨a1, a2, rfl, rfl, rfl⟩ | ⟨a1, a2, a3, rfl, rfl, rfl⟩ <;> rcases k with ⟨c1, c2, rfl, rfl⟩ | ⟨c1, c2, rfl, rfl, rfl⟩ | ⟨c1, c2, c3, rfl, rfl, rfl⟩
  · exact ⟨rfl, rfl, a1.one c1⟩
  · exact (a2 (a1.one c1)).elim
  · exact (a2 (a1.one c1)).elim
  · exact (c2 (c1.one a1)).elim
  · exact ⟨rfl, rfl, rfl⟩
  · exact (a2.elim c2 c3).elim
  · exact (c2 (c1.one a1)).elim
  · exact (c2.elim a2 a3).elim
  · exact ⟨rfl, rfl, rfl⟩
def BgP (l : List Sp) (w : World) (x : Ending) (w' : World) : Prop := Below w.heap.size w w' ∧ ∃ v L b r, x = .returned (.tuple #[v, .bool b, .int .i64 r]) ∧ RowAt .i64 w' v L ∧ BgA l L b r
theorem BgP.made {l : List Sp} {w w' : World} {x : Ending} {v : Value} {L : List Int} {b : Bool} {r : Int} (hb : Below w.heap.size w w') (hx : x = .returned (.tuple #[v, .bool b, .int .i64 r])) (hv : RowAt .i64 w' v L) (h : BgA l L b r) : BgP l w x w' := ⟨hb, v, L, b, r, hx, hv, h⟩
theorem iA_cellsB : ∀ R : List Int, rCells iA R = R.map (Value.int .i64)
  | [] => rfl
  | a :: l => by rw [rCells_cons, iA_cellsB l]; rfl
theorem own_rowB {w : World} {fr : Nat} {v : Value} {R : List Int} (h : ROwn iA 1 3 w fr v R) : RowAt .i64 w v R := by
  refine RowAt.of_owns (base := fr) (e := 3) ?_
  rw [← iA_cellsB]
  exact h
theorem row_nil (w : World) : RowAt .i64 w (.slice none 0 0) [] := ⟨none, 0, rfl, Nat.le_refl _, by omega, fun _ => rfl, fun a ha => by cases ha⟩
theorem ordB_len {l : List Sp} {M : Nat} (hs : HsAll M l) (m : Nat) : (ordB l m).length ≤ m := by
  induction m with
  | zero => simp [ordB]
  | succ m ih =>
    cases hw : whoB l m with
    | none => rw [ordB_none hw]; omega
    | some j => rw [ordB_some hw]; simp; omega
/-- The turns while the spans are gone over at m. -/
def Gn (l : List Sp) (m i : Nat) (L : List Int) : Prop := (L = ordB l m ∧ ∀ j, j < i → ¬ (InB l j ∧ momB (spAt l j) = (m : Int))) ∨ ∃ j, j < i ∧ InB l j ∧ momB (spAt l j) = (m : Int) ∧ L = ordB l m ++ [(j : Int)]
theorem gn_no {l : List Sp} {m i : Nat} {L : List Int} (h : Gn l m i L) (hn : ¬ (InB l i ∧ momB (spAt l i) = (m : Int))) : Gn l m (i + 1) L := by
  rcases h with ⟨h1, h2⟩ | ⟨j, h1, h2⟩
  · exact .inl ⟨h1, fun j hj => by
      by_cases e : j = i
      · subst e; exact hn
      · exact h2 j (by omega)⟩
  · exact .inr ⟨j, by omega, h2⟩
theorem gn_yes {l : List Sp} {M m i : Nat} {L : List Int} (hs : HsAll M l) (hi : i < l.length) (h : Gn l m i L) (h1 : InB l i) (h2 : momB (spAt l i) = (m : Int)) : Gn l m (i + 1) (L ++ [(i : Int)]) := by
  rcases h with ⟨g1, g2⟩ | ⟨j, g1, g2, g3, g4⟩
  · exact .inr ⟨i, by omega, h1, h2, by rw [g1]⟩
  · have := mom_inj hs (by omega) hi g2 h1 (g3.trans h2.symm)
    omega
theorem gn_end {l : List Sp} {M m : Nat} {L : List Int} (hs : HsAll M l) (h : Gn l m l.length L) : L = ordB l (m + 1) := by
  rcases h with ⟨h1, h2⟩ | ⟨j, h1, h2, h3, h4⟩
  · rw [ordB_none]
    · exact h1
    · cases hw : whoB l m with
      | none => rfl
      | some j => obtain ⟨w1, w2, w3⟩ := whoB_some hw; exact (h2 j w1 ⟨w2, w3⟩).elim
  · rw [ordB_some (whoB_of hs h1 h2 h3)]; exact h4
set_option maxRecDepth 100000 in
set_option maxHeartbeats 8000000 in
theorem refBag_any (v : Value) (l : List Sp) (w : World) (h : RAt Sp.arr 7 w v l) (hl : l.length ≤ 1759218604440) : Calls Try.prog 17 #[v] w (BgP l w) := by
  obtain ⟨i3, hi3, hy0, hy1, hy2⟩ := info_parts info3i
  have HF := hide (first_any v l w h (by omega))
  have HTW := hide (fun W (hb : Below w.heap.size w W) => twice_any v l W (h.below hb) hl)
  have HFR := hide (fun W (hb : Below w.heap.size w W) => fresh_any v l W (h.below hb) hl)
  have HMM := hide (fun W (hb : Below w.heap.size w W) => momR_any v l W (h.below hb) (by omega))
  have HRV := hide (fun W i (hb : Below w.heap.size w W) (hi : i < l.length) => remover_any v l i W (h.below hb) hi hl)
  obtain ⟨ao, cap, rfl, hcap, h63⟩ := h.shape
  have H := hide h
  obtain ⟨n, hn⟩ : ∃ n, n = l.length := ⟨_, rfl⟩
  have HN := hide hn
  rw [← hn] at hcap H hl HF HTW HFR HMM HRV ⊢
  clear h hn
  go_enter Try.func17, Try.ntmps17
  go_wp2_with fail
  refine HF.out.mono ?_
  rintro e w1 ⟨hb1, r, rfl, hfi⟩
  have HB1 := hide hb1
  have HFI := hide hfi
  clear hb1 hfi HF
  by_cases hr : r = 0
  · subst hr
    have HHS := hide HFI.out.hs
    have hM : Hid (momD l l.length ≤ 2000) := by
      rcases HFI.out with ⟨_, e⟩ | ⟨_, _, e⟩ | ⟨_, _, _, e⟩ | ⟨_, h2, _, _⟩
      · cases e
      · cases e
      · cases e
      · show _ ≤ _; omega
    have HT2 := hide (HTW.out w1 HB1.out)
    clear HTW
    go_wp2_with fail
    refine HT2.out.mono ?_
    rintro e w2 ⟨hb2, a, b, rfl, hti⟩
    have HB2 := hide (below_on HB1.out hb2)
    have HTI := hide hti
    clear hb2 hti HT2
    by_cases ha : 0 ≤ a
    · have HA : Hid (BgA l [] false 0) := .inr (.inl ⟨HFI.out, .inl (HTI.out.1 ha), rfl, rfl, rfl⟩)
      clear HTI HFI
      go_wp2_with fail
      go_ret3
      exact BgP.made HB2.out rfl (row_nil _) HA.out
    · have HNT : Hid (¬ TwiD l) := fun q => ha (HTI.out.2 q)
      have had : decide (0 ≤ a) = false := by simp; omega
      have HF2 := hide (HFR.out w2 HB2.out)
      clear HFR HTI
      go_wp2_with fail
      refine HF2.out.mono ?_
      rintro e w3 ⟨hb3, f, rfl, hfr⟩
      have HB3 := hide (below_on HB2.out hb3)
      have HFE := hide hfr
      clear hb3 hfr HF2
      by_cases hf : 0 ≤ f
      · have HA : Hid (BgA l [] false 0) := .inr (.inl ⟨HFI.out, .inr (HFE.out.1 hf), rfl, rfl, rfl⟩)
        clear HFE HFI
        go_wp2_with fail
        go_ret3
        exact BgP.made HB3.out rfl (row_nil _) HA.out
      · have HNF : Hid (¬ FreD l) := fun q => hf (HFE.out.2 q)
        have hfd : decide (0 ≤ f) = false := by simp; omega
        clear HFE
        obtain ⟨M, hMM⟩ : ∃ M, M = momD l l.length := ⟨_, rfl⟩
        have HA : Hid (BgA l (ordB l M) true 0) := .inr (.inr ⟨HFI.out, HNT.out, HNF.out, by rw [hMM], rfl, rfl⟩)
        rw [HN.out, ← hMM] at HMM
        rw [← hMM] at HHS hM
        have hM2 : (M : Int) ≤ 2000 := by have := hM.out; omega
        clear HFI HNT HNF hMM
        rw [← HN.out] at HMM
        go_wp2_with fail
        go_loopw [8, 9] (fun vl t wr => ∃ m : Nat, m ≤ M ∧ t = .int .i64 (m : Int) ∧ IO1 w wr vl (ordB l m)) (fun _ t _ => M - (RowKit.intOf t).toNat)
        case atStart => exact ⟨0, Nat.zero_le _, rfl, IO1.nil w w3 HB3.out⟩
        case round =>
          clear HB3
          obtain ⟨m, hmM, rfl, hio⟩ := hrel
          have HI := hide hio
          have HM2 := hide (HMM.out wr hio.bel)
          clear hio
          go_wp2_with fail
          refine HM2.out.mono ?_
          rintro e w4 ⟨rfl, hw4⟩
          subst hw4
          have HI4 := HI
          clear HM2 HI
          by_cases hlt : m < M
          · have hli : (m : Int) < (M : Int) := by omega
            go_wp2_with fail
            go_loopw [8, 10] (fun vl t wr => ∃ i : Nat, i ≤ n ∧ t = .int .i64 (i : Int) ∧ ∃ L, IO1 w wr vl L ∧ Gn l m i L) (fun _ t _ => n - (RowKit.intOf t).toNat)
            case atStart => exact ⟨0, Nat.zero_le _, rfl, _, HI4.out, .inl ⟨rfl, fun j hj => by omega⟩⟩
            case round =>
              clear HI4
              obtain ⟨i, hin, rfl, L, hio, hgn⟩ := hrel
              have HI := hide hio
              have HG := hide hgn
              have HLL : Hid (L.length ≤ 2001) := by
                have h1 := ordB_len HHS.out m
                show _ ≤ _
                rcases hgn with ⟨e, _⟩ | ⟨j, _, _, _, e⟩
                · rw [e]; omega
                · rw [e]; simp; omega
              clear hio hgn
              by_cases hlt2 : i < n
              · have hli2 : (i : Int) < (n : Int) := by omega
                have hil : i < l.length := by rw [← HN.out]; exact hlt2
                obtain ⟨gs, os, rfl, hgs, p0, p1, p2, p3, p4, p5, p6⟩ := sp_cells (H.out.below HI.out.bel) i hil
                have HCN := hide (fun W => counts_any (spAt l i) W)
                have HPU := hide (fun W => put_any (spAt l i) W)
                have HMO := hide (fun W => moment_any (spAt l i) W)
                have HRM := hide (fun W hb => HRV.out W i hb hlt2)
                have HINI : Hid (InB l i ↔ cntD (spAt l i) = true ∨ (putD (spAt l i) = true ∧ Tkn l i)) := Iff.rfl
                have HNX : Hid (¬ InB l i → Gn l m (i + 1) L) := fun a => gn_no HG.out (fun b => a b.1)
                have HYE : Hid (InB l i → momB (spAt l i) = (m : Int) → Gn l m (i + 1) (L ++ [(i : Int)])) := fun a b => gn_yes HHS.out hil HG.out a b
                have HNY : Hid (momB (spAt l i) ≠ (m : Int) → Gn l m (i + 1) L) := fun a => gn_no HG.out (fun b => a b.2)
                have HSC : Hid (∀ W, Below wr.heap.size wr W → RAt Sp.arr 7 W (.slice (some ⟨gs, os, none⟩) n cap) l) := fun W hb => (H.out.below HI.out.bel).below hb
                clear HG
                generalize hsi : spAt l i = si at p0 p1 p2 p3 p4 p5 p6 HCN HPU HMO HINI HYE HNY
                have HSI := hide hsi
                generalize momB si = mo at HMO HYE HNY
                generalize cntD si = cb at HCN HINI
                generalize putD si = pb at HPU HINI
                obtain ⟨who, ins, key, load, beg, en, kind⟩ := si
                unfold Sp.arr at HCN HPU HMO
                simp only at p0 p1 p2 p3 p4 p5 p6 HCN HPU HMO
                clear hsi hil
                have HBw0 : Hid (Below wr.heap.size wr wr) := Below.refl _ _
                cases cb with
                | true =>
                  have HINB := hide (HINI.out.2 (.inl (by simp)))
                  go_wp2_with fail
                  refine (HCN.out _).mono ?_
                  rintro e w5 ⟨rfl, hb⟩
                  have HBw5 := hide (below_on HBw0.out hb)
                  clear hb
                  clear p0 p1 p2 p3 p4 p5 p6
                  obtain ⟨gq, oq, eq, hgq, y0, y1, y2, y3, y4, y5, y6⟩ := sp_cells (HSC.out _ HBw5.out) i (by rw [← HN.out]; exact hlt2)
                  simp only [Option.some.injEq, Addr.mk.injEq, and_true] at eq
                  obtain ⟨rfl, rfl⟩ := eq
                  rw [HSI.out] at y0 y1 y2 y3 y4 y5 y6
                  simp only at y0 y1 y2 y3 y4 y5 y6
                  go_wp2_with fail
                  refine (HMO.out _).mono ?_
                  rintro e w9 ⟨rfl, hb⟩
                  have HBw9 := hide (below_on HBw5.out hb)
                  clear hb
                  by_cases hme : mo = (m : Int)
                  · have hmb : (mo == (m : Int)) = true := by simp [hme]
                    have HY2 := hide (HYE.out HINB.out hme)
                    have HI9 := hide (HI.out.on HBw9.out)
                    have HI10 := hide (HI9.out.on (below_alloc (Below.refl _ _) (.cells #[.int .i64 (i : Int)] 3)))
                    have HAT := hide (arr_at w9 #[.int .i64 (i : Int)] 3)
                    clear hme
                    go_wp2_with (first
                      | (at_builtin; refine wpList_append_own _ rfl (.tmp 69) (.tmp 71) 23 rfl w.heap.size 3 i3 _ 1 8 Try.underlying23 hi3 hy0 hy1 hy2 rfl (by decide) _ _ _ rfl HI10.out.own ⟨w9.heap.size, 0, none⟩ 1 1 (iA (i : Int)).toList rfl rfl HAT.out (by simp [Value.oneCell', iA]) (by have := HLL.out; unfold maxLen; omega) (by have := HLL.out; omega) HI10.out.bel.size ?_; intro v5 w5 hownB hgrowB hqB; have HP := hide (HI9.out.push rfl hownB hgrowB); clear hownB hgrowB hqB)
                      | fail)
                    exact ⟨⟨i + 1, by omega, by simp, _, HP.out, HY2.out⟩, by simp [RowKit.intOf]; omega⟩
                  · have hmb : (mo == (m : Int)) = false := by simp [hme]
                    have HY2 := hide (HNY.out hme)
                    clear hme
                    go_wp2_with fail
                    exact ⟨⟨i + 1, by omega, by simp, L, HI.out.on HBw9.out, HY2.out⟩, by simp [RowKit.intOf]; omega⟩
                | false =>
                  cases pb with
                  | false =>
                    have HINB : Hid (¬ InB l i) := fun q => by rcases HINI.out.1 q with e | e <;> simp at e
                    go_wp2_with fail
                    refine (HCN.out _).mono ?_
                    rintro e w5 ⟨rfl, hb⟩
                    have HBw5 := hide (below_on HBw0.out hb)
                    clear hb
                    clear p0 p1 p2 p3 p4 p5 p6
                    obtain ⟨gq, oq, eq, hgq, y0, y1, y2, y3, y4, y5, y6⟩ := sp_cells (HSC.out _ HBw5.out) i (by rw [← HN.out]; exact hlt2)
                    simp only [Option.some.injEq, Addr.mk.injEq, and_true] at eq
                    obtain ⟨rfl, rfl⟩ := eq
                    rw [HSI.out] at y0 y1 y2 y3 y4 y5 y6
                    simp only at y0 y1 y2 y3 y4 y5 y6
                    go_wp2_with fail
                    refine (HPU.out _).mono ?_
                    rintro e w6 ⟨rfl, hb⟩
                    have HBw6 := hide (below_on HBw5.out hb)
                    clear hb
                    clear y0 y1 y2 y3 y4 y5 y6
                    go_wp2_with fail
                    exact ⟨⟨i + 1, by omega, by simp, L, HI.out.on HBw6.out, HNX.out HINB.out⟩, by simp [RowKit.intOf]; omega⟩
                  | true =>
                    go_wp2_with fail
                    refine (HCN.out _).mono ?_
                    rintro e w5 ⟨rfl, hb⟩
                    have HBw5 := hide (below_on HBw0.out hb)
                    clear hb
                    clear p0 p1 p2 p3 p4 p5 p6
                    obtain ⟨gq, oq, eq, hgq, y0, y1, y2, y3, y4, y5, y6⟩ := sp_cells (HSC.out _ HBw5.out) i (by rw [← HN.out]; exact hlt2)
                    simp only [Option.some.injEq, Addr.mk.injEq, and_true] at eq
                    obtain ⟨rfl, rfl⟩ := eq
                    rw [HSI.out] at y0 y1 y2 y3 y4 y5 y6
                    simp only at y0 y1 y2 y3 y4 y5 y6
                    go_wp2_with fail
                    refine (HPU.out _).mono ?_
                    rintro e w6 ⟨rfl, hb⟩
                    have HBw6 := hide (below_on HBw5.out hb)
                    clear hb
                    clear y0 y1 y2 y3 y4 y5 y6
                    have HR6 := hide (HRM.out w6 (below_on HI.out.bel HBw6.out))
                    go_wp2_with fail
                    refine HR6.out.mono ?_
                    rintro e w7 ⟨hb, rr, rfl, hrr⟩
                    have HBw7 := hide (below_on HBw6.out hb)
                    have HRR := hide hrr
                    clear hb hrr HR6
                    by_cases hrg : 0 ≤ rr
                    · have hrd : decide (0 ≤ rr) = true := by simp [hrg]
                      have HINB := hide (HINI.out.2 (.inr ⟨by simp, HRR.out.1 hrg⟩))
                      obtain ⟨gq, oq, eq, hgq, y0, y1, y2, y3, y4, y5, y6⟩ := sp_cells (HSC.out _ HBw7.out) i (by rw [← HN.out]; exact hlt2)
                      simp only [Option.some.injEq, Addr.mk.injEq, and_true] at eq
                      obtain ⟨rfl, rfl⟩ := eq
                      rw [HSI.out] at y0 y1 y2 y3 y4 y5 y6
                      simp only at y0 y1 y2 y3 y4 y5 y6
                      go_wp2_with fail
                      refine (HMO.out _).mono ?_
                      rintro e w9 ⟨rfl, hb⟩
                      have HBw9 := hide (below_on HBw7.out hb)
                      clear hb
                      by_cases hme : mo = (m : Int)
                      · have hmb : (mo == (m : Int)) = true := by simp [hme]
                        have HY2 := hide (HYE.out HINB.out hme)
                        have HI9 := hide (HI.out.on HBw9.out)
                        have HI10 := hide (HI9.out.on (below_alloc (Below.refl _ _) (.cells #[.int .i64 (i : Int)] 3)))
                        have HAT := hide (arr_at w9 #[.int .i64 (i : Int)] 3)
                        clear hme
                        go_wp2_with (first
                          | (at_builtin; refine wpList_append_own _ rfl (.tmp 69) (.tmp 71) 23 rfl w.heap.size 3 i3 _ 1 8 Try.underlying23 hi3 hy0 hy1 hy2 rfl (by decide) _ _ _ rfl HI10.out.own ⟨w9.heap.size, 0, none⟩ 1 1 (iA (i : Int)).toList rfl rfl HAT.out (by simp [Value.oneCell', iA]) (by have := HLL.out; unfold maxLen; omega) (by have := HLL.out; omega) HI10.out.bel.size ?_; intro v5 w5 hownB hgrowB hqB; have HP := hide (HI9.out.push rfl hownB hgrowB); clear hownB hgrowB hqB)
                          | fail)
                        exact ⟨⟨i + 1, by omega, by simp, _, HP.out, HY2.out⟩, by simp [RowKit.intOf]; omega⟩
                      · have hmb : (mo == (m : Int)) = false := by simp [hme]
                        have HY2 := hide (HNY.out hme)
                        clear hme
                        go_wp2_with fail
                        exact ⟨⟨i + 1, by omega, by simp, L, HI.out.on HBw9.out, HY2.out⟩, by simp [RowKit.intOf]; omega⟩
                    · have hrd : decide (0 ≤ rr) = false := by simp; omega
                      have HINB : Hid (¬ InB l i) := fun q => by
                        rcases HINI.out.1 q with e | e
                        · simp at e
                        · exact hrg (HRR.out.2 e.2)
                      go_wp2_with fail
                      exact ⟨⟨i + 1, by omega, by simp, L, HI.out.on HBw7.out, HNX.out HINB.out⟩, by simp [RowKit.intOf]; omega⟩
              · obtain rfl : n = i := by omega
                have HE : Hid (L = ordB l (m + 1)) := gn_end HHS.out (by rw [← HN.out]; exact HG.out)
                go_wp2_with fail
                exact ⟨⟨m + 1, by omega, by simp, by rw [← HE.out]; exact HI.out⟩, by simp [RowKit.intOf]; omega⟩
          · obtain rfl : M = m := by omega
            have HRW := hide (own_rowB HI4.out.own)
            go_wp2_with fail
            go_ret3
            exact BgP.made HI4.out.bel rfl HRW.out HA.out
  · have hrb : (r != 0) = true := by simp [hr]
    have HA : Hid (BgA l [] false r) := .inl ⟨HFI.out, hr, rfl, rfl⟩
    clear hr HFI
    go_wp2_with fail
    go_ret3
    exact BgP.made HB1.out rfl (row_nil _) HA.out
end Go.Proofs.Ytfoeljcgbfpknaa
