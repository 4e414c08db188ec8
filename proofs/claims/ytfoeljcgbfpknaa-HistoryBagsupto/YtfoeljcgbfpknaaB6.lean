/- The program's widest turns, and its Bag. -/
import Derived.Test.YtfoeljcgbfpknaaB5
namespace Go.Proofs.Ytfoeljcgbfpknaa
open Go.RowKit Go.Lib Go.Maps
set_option linter.unusedVariables false
set_option linter.unusedSimpArgs false
section
variable {l : List Sp} {M i : Nat} (hs : HsAll M l) (hi : i < l.length)
include hs hi
theorem kind4 (h : (spAt l i).kind = 4) : tkn (spAt l i) = true := by
  rw [tkn_iff]
  refine ⟨?_, h⟩
  have hk := (hs i hi).kf
  cases hn : (spAt l i).ins with
  | false => rfl
  | true =>
    by_cases e : (spAt l i).en = -1
    · have := ((kfit_open e).1 hk).1; omega
    · rcases (kfit_ins e hn).1 hk with q | q <;> omega
theorem wd_put (hp : putP (spAt l i) = true) (h : ((spAt l i).kind == 2 || (spAt l i).kind == 4) = true ∨ Tkn l i) : InB l i ∧ momB (spAt l i) = (spAt l i).beg := by
  have hk := (hs i hi).kf
  have hn : (spAt l i).ins = true := by unfold putP at hp; cases e : (spAt l i).ins <;> simp [e] at hp ⊢
  refine ⟨?_, momB_in hn⟩
  rcases h with h | h
  · exact .inl (by rw [cnt_same hk]; exact h)
  · exact .inr ⟨by rw [← put_same hk]; exact hp, h⟩
theorem wd_not (hp : putP (spAt l i) = true) (h1 : ((spAt l i).kind == 2 || (spAt l i).kind == 4) = false) (h2 : ¬ Tkn l i) : ¬ InB l i := by
  have hk := (hs i hi).kf
  rintro (h | ⟨_, h⟩)
  · rw [cnt_same hk, h1] at h; cases h
  · exact h2 h
theorem wd_take (h : (spAt l i).kind = 4) : InB l i ∧ momB (spAt l i) = (spAt l i).en ∧ 0 ≤ (spAt l i).en ∧ (spAt l i).en < (M : Int) := by
  have ht := kind4 hs hi h
  have hb := tkn_inB ht
  have e := momB_out (tkn_iff.1 ht).1
  have := mom_bd hs hi hb
  rw [e] at this
  exact ⟨hb, e, this.1, this.2⟩
theorem wd_none (hp : putP (spAt l i) = false) (h : (spAt l i).kind ≠ 4) : ¬ InB l i := by
  have hk := (hs i hi).kf
  rintro (q | ⟨q, _⟩)
  · cases hn : (spAt l i).ins with
    | true =>
      have := inB_in (.inl q) hn
      rw [← put_same hk, hp] at this; cases this
    | false => exact h (tkn_iff.1 (inB_out (.inl q) hn)).2
  · rw [← put_same hk, hp] at q; cases q
end
theorem tks_tkn {l : List Sp} {M i : Nat} (hs : HsAll M l) : TkS l l.length (spAt l i).key (spAt l i).load ↔ Tkn l i := by
  constructor
  · rintro ⟨k, h1, h2, h3, h4⟩
    exact ⟨k, h1, kind4 hs h1 h2, by simp [tkS, h3, h4]⟩
  · rintro ⟨k, h1, h2, h3⟩
    simp only [tkS, Tk.mk.injEq] at h3
    exact ⟨k, h1, (tkn_iff.1 h2).2, h3.1, h3.2⟩
/-- The turns by moments, beside the map of those taken. -/
structure WM (w wr : World) (l : List Sp) (g M mB i : Nat) : Prop where
  im : IM w wr g M (tnB l i)
  mp : MpT wr mB l.length (TkS l l.length)
  ne : g ≠ mB
section
variable {w wr X : World} {l : List Sp} {g M mB i : Nat}
theorem WM.on (h : WM w wr l g M mB i) (hb : Below wr.heap.size wr X) : WM w X l g M mB i := ⟨h.im.on hb, h.mp.below hb, h.ne⟩
theorem WM.skip (h : WM w wr l g M mB i) (hn : ¬ InB l i) : WM w wr l g M mB (i + 1) := ⟨h.im.ext (fun t _ => (tnB_out hn t).symm), h.mp, h.ne⟩
theorem WM.put (h : WM w wr l g M mB i) (t : Nat) (he : momB (spAt l i) = (t : Int)) (hb : InB l i) : WM w (wr.setCell ⟨g, t, none⟩ (.int .i64 (i : Int))) l g M mB (i + 1) :=
  ⟨(h.im.put t (i : Int)).ext (fun u _ => by
    rw [tnB_in hb u, he]
    by_cases e : u = t
    · subst e; rw [if_pos rfl, if_pos rfl]
    · rw [if_neg e, if_neg (by omega)]), h.mp.stay (Below.heap_setCell _ _ _ _ (fun e => h.ne e.symm)), h.ne⟩
end
theorem ui_arr {w : World} {g M : Nat} {f : Nat → Int} (h : UI w g M f) : Arr w g (tab M f) := by
  unfold UI at h
  unfold Arr iCells tab
  rw [h, List.map_map]
  rfl
set_option maxRecDepth 100000 in
set_option maxHeartbeats 8000000 in
theorem widest_any (v : Value) (l : List Sp) (M : Nat) (w : World) (h : RAt Sp.arr 7 w v l) (ht : Tok l) (hs : HsAll M l) (hM : l.length + momP l l.length = M) (hl : l.length ≤ 2000) (hM2 : M ≤ 2000) : Calls Try.prog 44 #[v] w fun x w' => Below w.heap.size w w' ∧ ∃ v, x = .returned v ∧ RowAt .i64 w' v (ordB l M) := by
  obtain ⟨i3, hi3, hy0, hy1, hy2⟩ := info_parts info3i
  have HMP := hide (momP_any v l w h (by omega))
  rw [hM] at HMP
  have HTK := hide (fun W (hb : Below w.heap.size w W) => takers_any v l W (h.below hb) ht (by omega))
  obtain ⟨ao, cap, rfl, hcap, h63⟩ := h.shape
  have H := hide h
  have HT := hide ht
  have HS := hide hs
  obtain ⟨n, hn⟩ : ∃ n, n = l.length := ⟨_, rfl⟩
  have HN := hide hn
  rw [← hn] at hcap H hl HMP HTK ⊢
  clear h hn ht hs hM
  go_enter Try.func44, Try.ntmps44
  go_upto_region 2 with (first
    | (go_at_call 66; refine HMP.out.mono ?_; rintro e w1 ⟨rfl, hb1⟩; have HB1 := hide hb1; clear hb1 HMP)
    | (at_make; refine wpList_make_row _ rfl _ _ 23 rfl 3 i3 (.int .i64 0) Try.underlying23 hi3 hy0 hy1 rfl _ _ M rfl rfl (by rw [hy2]; omega) (by omega) ?_)
    | fail)
  have HE : Hid (IM w (w1.alloc (.cells (madeCells #[.int .i64 0] M) 3)) w1.heap.size M (fun t => if t < 0 then -1 else 0)) := ⟨below_alloc HB1.out _, by (unfold UI; rw [made_int]; exact (heap_new _ _).trans (by simp)), HB1.out.size⟩
  generalize (w1.alloc (.cells (madeCells #[.int .i64 0] M) 3)) = w2 at HE ⊢
  generalize w1.heap.size = g at HE ⊢
  go_wp2_with fail
  go_loopw [15] (fun t wr => ∃ i : Nat, i ≤ M ∧ t = .int .i64 (i : Int) ∧ IM w wr g M (fun t => if t < i then -1 else 0)) (fun t _ => M - (RowKit.intOf t).toNat)
  case atStart => exact ⟨0, Nat.zero_le _, rfl, HE.out⟩
  case round =>
    clear HE
    obtain ⟨i, hin, rfl, hev⟩ := hrel
    have HE := hide hev
    clear hev
    by_cases hlt : i < M
    · have hli : (i : Int) < (M : Int) := by omega
      have hfr := HE.out.ui.free
      have q5 := HE.out.ui.cell hlt
      have HS2 : Hid (IM w (wr.setCell ⟨g, i, none⟩ (.int .i64 (-1))) g M (fun t => if t < i + 1 then -1 else 0)) := (HE.out.put i (-1)).ext (fun t _ => by
        by_cases e : t = i
        · simp [e]
        · simp only [if_neg e]; by_cases e2 : t < i
          · rw [if_pos e2, if_pos (by omega)]
          · rw [if_neg e2, if_neg (by omega)])
      go_wp2_with fail
      exact ⟨⟨i + 1, by omega, by simp, HS2.out⟩, by simp [RowKit.intOf]; omega⟩
    · obtain rfl : M = i := by omega
      have HE2 : Hid (IM w wr g M (tnB l 0)) := HE.out.ext (fun t ht => by rw [if_pos ht]; rfl)
      have HTT := hide (HTK.out wr HE.out.bel)
      clear HE HTK
      go_wp2_with fail
      refine HTT.out.mono ?_
      rintro e w4 ⟨rfl, htg⟩
      have HW0 : Hid (WM w w4 l g M wr.heap.size 0) := ⟨HE2.out.on htg.bel, by have := htg.mp; rw [HN.out] at this; exact this, by have := lt_of_heap HE2.out.ui; omega⟩
      clear htg HTT HE2
      generalize wr.heap.size = mB at HW0 ⊢
      go_wp2_with fail
      go_loopw [26] (fun t wr => ∃ i : Nat, i ≤ n ∧ t = .int .i64 (i : Int) ∧ WM w wr l g M mB i) (fun t _ => n - (RowKit.intOf t).toNat)
      case atStart => exact ⟨0, Nat.zero_le _, rfl, HW0.out⟩
      case round =>
        clear HW0
        obtain ⟨i, hin, rfl, hwm⟩ := hrel
        have HW := hide hwm
        clear hwm
        by_cases hlt2 : i < n
        · have hli : (i : Int) < (n : Int) := by omega
          have hil : i < l.length := by rw [← HN.out]; exact hlt2
          obtain ⟨gs, os, rfl, hgs, p0, p1, p2, p3, p4, p5, p6⟩ := sp_cells (H.out.below HW.out.im.bel) i hil
          obtain ⟨hk1, hk2⟩ := HT.out i hil
          have HPI := hide (fun W => puts_any (spAt l i) W)
          have HCI := hide (fun W => countsP_any (spAt l i) W)
          have HBE := hide ((HS.out i hil).b0)
          have HBM := hide ((HS.out i hil).bm)
          have HP1 := hide (fun a b => wd_put HS.out hil a b)
          have HP2 := hide (fun a b c => wd_not HS.out hil a b c)
          have HP3 := hide (fun a => wd_take HS.out hil a)
          have HP4 := hide (fun a b => wd_none HS.out hil a b)
          have HTT := hide (tks_tkn (i := i) HS.out)
          have HPT : Hid (∀ X t, WM w X l g M mB i → momB (spAt l i) = ((t : Nat) : Int) → InB l i → WM w (X.setCell ⟨g, t, none⟩ (.int .i64 (i : Int))) l g M mB (i + 1)) := fun X t a b c => a.put t b c
          have HSK : Hid (∀ X, WM w X l g M mB i → ¬ InB l i → WM w X l g M mB (i + 1)) := fun X a b => a.skip b
          generalize spAt l i = si at p0 p1 p2 p3 p4 p5 p6 hk1 hk2 HPI HCI HBE HBM HP1 HP2 HP3 HP4 HTT HPT
          generalize momB si = mo at HP1 HP3 HPT
          generalize putP si = pp at HPI HP1 HP2 HP4
          obtain ⟨who, ins, key, load, beg, en, kind⟩ := si
          unfold Sp.arr at HPI HCI
          simp only at p0 p1 p2 p3 p4 p5 p6 hk1 hk2 HPI HCI HBE HBM HP1 HP2 HP3 HP4 HTT
          have HK1 := hide hk1; have HK2 := hide hk2
          obtain ⟨bN, hbN⟩ : ∃ bN : Nat, beg = (bN : Int) := ⟨beg.toNat, by have := HBE.out; omega⟩
          subst hbN
          have hbM : bN < M := by have := HBM.out; omega
          have hbMi : (bN : Int) < (M : Int) := by omega
          obtain ⟨X, hX⟩ : ∃ X, X = wr.alloc (.cells #[.int .i64 who, .bool ins, .int .u64 key, .int .u64 load, .int .i64 (bN : Int), .int .i64 en, .int .i64 kind] 69) := ⟨_, rfl⟩
          have HBX : Hid (Below wr.heap.size wr X) := by rw [hX]; exact below_alloc (Below.refl _ _) _
          have HQX : Hid (X.heap[wr.heap.size]? = some (.cells #[.int .i64 who, .bool ins, .int .u64 key, .int .u64 load, .int .i64 (bN : Int), .int .i64 en, .int .i64 kind] 69 (0, 0))) := by rw [hX]; exact heap_new _ _
          have HLX := hide (HW.out.on HBX.out)
          clear hk1 hk2 hil
          go_upto_region 11 with fail
          rw [← hX]
          obtain ⟨B, hBr⟩ : ∃ B, B = wr.heap.size := ⟨_, rfl⟩
          rw [← hBr] at HQX ⊢
          clear hX HBX HW hBr hgs p0 p1 p2 p3 p4 p5 p6
          obtain ⟨x, q, hlk, hq⟩ := HLX.out.mp.look HK1.out HK2.out
          have HQ := hide (hq.trans HTT.out)
          clear hq HTT
          have hkc : (kind == 2 || kind == 4) = false → ¬ kind = 4 := fun a b => by simp [b] at a
          have HKC := hide hkc
          clear hkc
          have z0 := cell_of HQX.out (i := 0) rfl
          have z1 := cell_of HQX.out (i := 1) rfl
          have z2 := cell_of HQX.out (i := 2) rfl
          have z3 := cell_of HQX.out (i := 3) rfl
          have z4 := cell_of HQX.out (i := 4) rfl
          have z5 := cell_of HQX.out (i := 5) rfl
          have z6 := cell_of HQX.out (i := 6) rfl
          cases pp with
          | true =>
            go_upto_region 12 with fail
            clear hlk
            go_wp2_with fail
            refine (HPI.out _).mono ?_
            rintro e w5 ⟨rfl, hb5⟩
            have HLX5 := hide (HLX.out.on hb5)
            have HQ5 := hide ((hb5.block _ (lt_of_heap HQX.out)).trans HQX.out)
            clear hb5 HLX HQX z0 z1 z2 z3 z4 z5 z6
            have z0 := cell_of HQ5.out (i := 0) rfl
            have z1 := cell_of HQ5.out (i := 1) rfl
            have z2 := cell_of HQ5.out (i := 2) rfl
            have z3 := cell_of HQ5.out (i := 3) rfl
            have z4 := cell_of HQ5.out (i := 4) rfl
            have z5 := cell_of HQ5.out (i := 5) rfl
            have z6 := cell_of HQ5.out (i := 6) rfl
            generalize hcc : (kind == 2 || kind == 4) = cc at HCI HP1 HP2 HKC
            clear hcc
            go_wp2_with fail
            refine (HCI.out _).mono ?_
            rintro e w6 ⟨rfl, hb6⟩
            have HLX6 := hide (HLX5.out.on hb6)
            have HQ6 := hide ((hb6.block _ (lt_of_heap HQ5.out)).trans HQ5.out)
            clear hb6 HLX5 HQ5 z0 z1 z2 z3 z4 z5 z6
            have z0 := cell_of HQ6.out (i := 0) rfl
            have z1 := cell_of HQ6.out (i := 1) rfl
            have z2 := cell_of HQ6.out (i := 2) rfl
            have z3 := cell_of HQ6.out (i := 3) rfl
            have z4 := cell_of HQ6.out (i := 4) rfl
            have z5 := cell_of HQ6.out (i := 5) rfl
            have z6 := cell_of HQ6.out (i := 6) rfl
            cases cc with
            | true =>
              obtain ⟨hin1, hmo⟩ := HP1.out (by simp) (.inl (by simp))
              have HS9 := hide (HPT.out _ bN HLX6.out hmo hin1)
              have q5 := HLX6.out.im.ui.cell hbM
              have hfr := HLX6.out.im.ui.free
              clear hin1 hmo
              go_wp2_with fail
              exact ⟨⟨i + 1, by omega, by simp, HS9.out⟩, by simp [RowKit.intOf]; omega⟩
            | false =>
              cases q with
              | true =>
                obtain ⟨hin1, hmo⟩ := HP1.out (by simp) (.inr (HQ.out.1 rfl))
                have HS9 := hide (HPT.out _ bN HLX6.out hmo hin1)
                have q5 := HLX6.out.im.ui.cell hbM
                have hfr := HLX6.out.im.ui.free
                clear hin1 hmo
                go_wp2_with fail
                exact ⟨⟨i + 1, by omega, by simp, HS9.out⟩, by simp [RowKit.intOf]; omega⟩
              | false =>
                have HS9 := hide (HSK.out _ HLX6.out (HP2.out (by simp) (by simp) (fun a => by have := HQ.out.2 a; cases this)))
                have hk4 : (kind == 4) = false := by simp; exact HKC.out (by simp)
                go_wp2_with fail
                exact ⟨⟨i + 1, by omega, by simp, HS9.out⟩, by simp [RowKit.intOf]; omega⟩
          | false =>
            go_upto_region 12 with fail
            clear hlk
            go_wp2_with fail
            refine (HPI.out _).mono ?_
            rintro e w5 ⟨rfl, hb5⟩
            have HLX5 := hide (HLX.out.on hb5)
            have HQ5 := hide ((hb5.block _ (lt_of_heap HQX.out)).trans HQX.out)
            clear hb5 HLX HQX z0 z1 z2 z3 z4 z5 z6
            have z0 := cell_of HQ5.out (i := 0) rfl
            have z1 := cell_of HQ5.out (i := 1) rfl
            have z2 := cell_of HQ5.out (i := 2) rfl
            have z3 := cell_of HQ5.out (i := 3) rfl
            have z4 := cell_of HQ5.out (i := 4) rfl
            have z5 := cell_of HQ5.out (i := 5) rfl
            have z6 := cell_of HQ5.out (i := 6) rfl
            by_cases hk : kind = 4
            · have hk4 : (kind == 4) = true := by simp [hk]
              obtain ⟨hin1, hmo, he0, heM⟩ := HP3.out hk
              obtain ⟨eN, heN⟩ : ∃ eN : Nat, en = (eN : Int) := ⟨en.toNat, by omega⟩
              subst heN
              have heM2 : eN < M := by omega
              have HS9 := hide (HPT.out _ eN HLX5.out hmo hin1)
              have q5 := HLX5.out.im.ui.cell heM2
              have hfr := HLX5.out.im.ui.free
              clear hin1 hmo hk
              go_wp2_with fail
              exact ⟨⟨i + 1, by omega, by simp, HS9.out⟩, by simp [RowKit.intOf]; omega⟩
            · have hk4 : (kind == 4) = false := by simp [hk]
              have HS9 := hide (HSK.out _ HLX5.out (HP4.out (by simp) hk))
              clear hk
              go_wp2_with fail
              exact ⟨⟨i + 1, by omega, by simp, HS9.out⟩, by simp [RowKit.intOf]; omega⟩
        · obtain rfl : n = i := by omega
          have HAR : Hid (Arr wr g (tab M (tnB l n))) := ui_arr HW.out.im.ui
          have HFL : Hid (flt (tab M (tnB l n)) = ordB l M) := by rw [HN.out]; exact flt_turns HS.out M
          have HDF := hide (deleteFunc_any g M _ wr HAR.out (tab_length _ _) (by omega))
          rw [HFL.out] at HDF
          have HBE := hide HW.out.im.bel
          have HGE := hide HW.out.im.ge
          clear HW HAR HFL
          go_wp2_with fail
          refine HDF.out.mono ?_
          rintro e w6 ⟨v6, rfl, hrw, hch⟩
          have HRW := hide hrw
          have HB6 := hide (Chg.below HBE.out hch (fun k hk => by subst hk; exact HGE.out) HBE.out.size)
          clear hrw hch HDF
          go_wp2_with fail
          go_ret
          exact ⟨HB6.out, _, rfl, HRW.out⟩
end Go.Proofs.Ytfoeljcgbfpknaa
