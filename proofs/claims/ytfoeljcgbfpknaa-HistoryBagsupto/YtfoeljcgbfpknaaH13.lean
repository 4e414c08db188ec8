/- The document's listed: do the numbers stand as they must? -/
import Derived.Test.YtfoeljcgbfpknaaH12
import Derived.Test.YtfoeljcgbfpknaaH5
import Derived.Deep.RegionHeld3
import Derived.Deep.Cut
import Derived.Deep.CutRange
import Derived.Deep.OwnRows
import Derived.BigQuiet
namespace Go.Proofs.Ytfoeljcgbfpknaa
open Go.RowKit Go.Lib
set_option linter.unusedVariables false
set_option linter.unusedSimpArgs false
/-- A row of ints in a block. -/
def UI (w : World) (g m : Nat) (f : Nat → Int) : Prop := w.heap[g]? = some (.cells ((List.range m).map (fun t => Value.int .i64 (f t))).toArray 3 (0, 0))
section
variable {w w' : World} {g m : Nat} {f f' : Nat → Int}
theorem UI.cell (h : UI w g m f) {t : Nat} (ht : t < m) : w.cell? ⟨g, t, none⟩ = some (.int .i64 (f t)) := cell_of h (by simp [ht])
theorem UI.free (h : UI w g m f) (t : Nat) : w.frozen? ⟨g, t, none⟩ = false := free_of h t
theorem UI.below (h : UI w g m f) (hb : Below w.heap.size w w') : UI w' g m f := (hb.block g (lt_of_heap h)).trans h
theorem UI.put (h : UI w g m f) (t : Nat) (x : Int) : UI (w.setCell ⟨g, t, none⟩ (.int .i64 x)) g m (fun u => if u = t then x else f u) := by
  unfold UI
  rw [heap_set h]
  congr 2
  apply Array.ext'
  simp only [Array.toList_setIfInBounds]
  apply List.ext_getElem?
  intro i
  rw [List.getElem?_set]
  by_cases hi : i < m
  · by_cases e : t = i
    · subst e; simp [hi]
    · have e2 : ¬ i = t := fun q => e q.symm
      simp [hi, e, e2]
  · simp [hi]; omega
theorem UI.ext (h : UI w g m f) (he : ∀ t, t < m → f t = f' t) : UI w g m f' := by
  unfold UI at *
  rw [h]
  congr 3
  apply List.map_congr_left
  intro t ht
  rw [he t (by simpa using ht)]
end
theorem made_int (m : Nat) : madeCells #[.int .i64 0] m = ((List.range m).map (fun t => Value.int .i64 ((fun _ => (0 : Int)) t))).toArray := by
  apply Array.ext'
  simp only [madeCells]
  apply List.ext_getElem?
  intro i
  by_cases hi : i < m
  · simp [hi, Nat.mod_one]
  · simp [hi]
structure IM (w wr : World) (g m : Nat) (f : Nat → Int) : Prop where
  bel : Below w.heap.size w wr
  ui : UI wr g m f
  ge : w.heap.size ≤ g
section
variable {w wr w' : World} {g m : Nat} {f f' : Nat → Int}
theorem IM.on (h : IM w wr g m f) (hb : Below wr.heap.size wr w') : IM w w' g m f := ⟨below_on h.bel hb, h.ui.below hb, h.ge⟩
theorem IM.put (h : IM w wr g m f) (t : Nat) (x : Int) : IM w (wr.setCell ⟨g, t, none⟩ (.int .i64 x)) g m (fun u => if u = t then x else f u) := ⟨h.bel.setCell (p := ⟨g, t, none⟩) h.ge _, h.ui.put t x, h.ge⟩
theorem IM.ext (h : IM w wr g m f) (he : ∀ t, t < m → f t = f' t) : IM w wr g m f' := ⟨h.bel, h.ui.ext he, h.ge⟩
end
/-- The place of t among the first i of an order. -/
def plc (o : List Int) : Nat → Nat → Int
  | 0, _ => -1
  | i + 1, t => if t = oN o i then (i : Int) else plc o i t
theorem plc_low (o : List Int) : ∀ i t, -1 ≤ plc o i t
  | 0, _ => by unfold plc; omega
  | i + 1, t => by have := plc_low o i t; unfold plc; split <;> omega
/-- May the operation stand in turns? -/
def mayD (s : Sp) (q : Bool) : Bool := cntD s || (s.en == -1 && (s.ins || q))
def trd (l : List Sp) (o : List Int) (q : Bool) (k : Nat) : Prop := 0 ≤ at_ o k ∧ at_ o k < (l.length : Int) ∧ plc o k (oN o k) < 0 ∧ mayD (spAt l (oN o k)) q = true
/-- An operation stands behind one that it is ahead of. -/
def Bhd (l : List Sp) (o : List Int) (i k : Nat) : Prop := 0 ≤ plc o o.length i ∧ 0 ≤ plc o o.length k ∧ plc o o.length k < plc o o.length i ∧ ahd (spAt l i) (spAt l k) = true
def Lsd (l : List Sp) (o : List Int) (q : Bool) : Prop := (∀ k, k < o.length → trd l o q k) ∧ ∀ i, i < l.length → (cntD (spAt l i) = true → 0 ≤ plc o o.length i) ∧ ∀ k, k < l.length → ¬ Bhd l o i k
def LsP (l : List Sp) (o : List Int) (q : Bool) (w : World) (x : Ending) (w' : World) : Prop := Below w.heap.size w w' ∧ ∃ b : Bool, x = .returned (.bool b) ∧ (b = true ↔ Lsd l o q)
theorem LsP.not {l : List Sp} {o : List Int} {q : Bool} {w w' : World} {x : Ending} (h1 : Below w.heap.size w w') (h2 : x = .returned (.bool false)) (h3 : ¬ Lsd l o q) : LsP l o q w x w' := ⟨h1, false, h2, fun h => (by cases h), fun h => (h3 h).elim⟩
theorem info3L : (Try.prog.info? 3).map (fun i => (i.zero, i.size, i.bytes)) = some (some (.int .i64 0), 1, 8) := by kernel_rfl
set_option maxRecDepth 100000 in
set_option maxHeartbeats 4000000 in
theorem listed_any (v vo : Value) (l : List Sp) (o : List Int) (q : Bool) (w : World) (h : RAt Sp.arr 7 w v l) (ho : RowAt .i64 w vo o) (hl : l.length ≤ 1759218604440) : Calls Try.prog 52 #[v, vo, .bool q] w (LsP l o q w) := by
  obtain ⟨ii, hi0⟩ := Option.isSome_iff_exists.1 (show (Try.prog.info? 3).isSome = true by kernel_rfl)
  have hq := info3L
  rw [hi0] at hq
  simp only [Option.map_some, Option.some.injEq, Prod.mk.injEq] at hq
  obtain ⟨hz0, hz1, hz2⟩ := hq
  obtain ⟨ao, cap, rfl, hcap, h63⟩ := h.shape
  have H := hide h
  have ho63 := ho
  obtain ⟨oo, oc, rfl, ho1, ho2, hor⟩ := ho63
  clear hor
  have HO := hide ho
  obtain ⟨n, hn⟩ : ∃ n, n = l.length := ⟨_, rfl⟩
  have HN := hide hn
  obtain ⟨m, hm⟩ : ∃ m, m = o.length := ⟨_, rfl⟩
  have HM' := hide hm
  rw [← hn] at hcap H hl ⊢
  rw [← hm] at HO ho1 ⊢
  clear h hn hm ho
  go_enter Try.func52, Try.ntmps52
  go_wp2_with (at_make; refine wpList_make_row _ rfl _ _ 23 rfl 3 ii (.int .i64 0) Try.underlying23 hi0 hz0 hz1 rfl _ _ n rfl rfl (by rw [hz2]; omega) (by omega) ?_)
  have HE : Hid (IM w (w.alloc (.cells (madeCells #[.int .i64 0] n) 3)) w.heap.size n (fun t => if t < 0 then -1 else 0)) := ⟨below_alloc (Below.refl _ _) _, by (unfold UI; rw [made_int]; exact (heap_new _ _).trans (by simp)), Nat.le_refl _⟩
  generalize (w.alloc (.cells (madeCells #[.int .i64 0] n) 3)) = w2 at HE ⊢
  generalize hg0 : w.heap.size = g at HE ⊢
  have HG0 := hide hg0
  clear hg0
  go_loopw [8] (fun t wr => ∃ i : Nat, i ≤ n ∧ t = .int .i64 (i : Int) ∧ IM w wr g n (fun t => if t < i then -1 else 0)) (fun t _ => n - (RowKit.intOf t).toNat)
  case atStart => exact ⟨0, Nat.zero_le _, rfl, HE.out⟩
  case round =>
    clear HE
    obtain ⟨i, hin, rfl, hev⟩ := hrel
    have HE := hide hev
    clear hev
    by_cases hlt : i < n
    · have hli : (i : Int) < (n : Int) := by omega
      have hfr := HE.out.ui.free
      have q5 := HE.out.ui.cell hlt
      have HS : Hid (IM w (wr.setCell ⟨g, i, none⟩ (.int .i64 (-1))) g n (fun t => if t < i + 1 then -1 else 0)) := (HE.out.put i (-1)).ext (fun t _ => by
        by_cases e : t = i
        · simp [e]
        · simp only [if_neg e]; by_cases e2 : t < i
          · rw [if_pos e2, if_pos (by omega)]
          · rw [if_neg e2, if_neg (by omega)])
      go_wp2_with fail
      exact ⟨⟨i + 1, by omega, by simp, HS.out⟩, by simp [RowKit.intOf]; omega⟩
    · obtain rfl : n = i := by omega
      have HE2 : Hid (IM w wr g n (plc o 0)) := HE.out.ext (fun t ht => by rw [if_pos ht]; rfl)
      clear HE
      go_wp2_with fail
      go_loopw [6, 9, 10, 11] (fun va t _ _ wr => ∃ i : Nat, i ≤ m ∧ va = .bool false ∧ t = .int .i64 (i : Int) ∧ IM w wr g n (plc o i) ∧ ∀ k, k < i → trd l o q k) (fun _ t _ _ _ => m - (RowKit.intOf t).toNat)
      case atStart => exact ⟨0, Nat.zero_le _, rfl, rfl, HE2.out, fun k hk => by omega⟩
      case round =>
        clear HE2
        obtain ⟨i, hin, rfl, rfl, hev, hft⟩ := hrel
        have HE := hide hev; have HF := hide hft
        clear hev hft
        by_cases hlt : i < m
        · have hli : (i : Int) < (m : Int) := by omega
          obtain ⟨go, po, co, e1, he18, x1⟩ := (HO.out.below HE.out.bel).cellAt i (by rw [← HM'.out]; exact hlt)
          simp only [Value.slice.injEq] at e1
          obtain ⟨rfl, he17, rfl⟩ := e1
          clear he17 he18
          have HNO : Hid (¬ trd l o q i → ¬ Lsd l o q) := fun a b => a (b.1 i (by rw [← HM'.out]; exact hlt))
          have HTO : Hid (trd l o q i ↔ 0 ≤ at_ o i ∧ at_ o i < (n : Int) ∧ plc o i (oN o i) < 0 ∧ mayD (spAt l (oN o i)) q = true) := by rw [HN.out]; exact Iff.rfl
          have HON : Hid (oN o i = (at_ o i).toNat) := rfl
          have HSS : Hid (∀ t, plc o (i + 1) t = if t = oN o i then (i : Int) else plc o i t) := fun _ => rfl
          generalize oN o i = p at HTO HON HSS
          generalize at_ o i = z at x1 HTO HON
          by_cases c1 : z < 0
          · have HR := hide (HNO.out (fun a => by have := (HTO.out.1 a).1; omega))
            go_wp2_with fail
            go_ret
            exact LsP.not HE.out.bel rfl HR.out
          · by_cases c2 : (n : Int) ≤ z
            · have HR := hide (HNO.out (fun a => by have := (HTO.out.1 a).2.1; omega))
              go_wp2_with fail
              go_ret
              exact LsP.not HE.out.bel rfl HR.out
            · obtain rfl : z = (p : Int) := by have := HON.out; omega
              have hpn : p < n := by omega
              have hpi : (p : Int) < (n : Int) := by omega
              obtain ⟨gs, os, rfl, hgs, p0, p1, p2, p3, p4, p5, p6⟩ := sp_cells (H.out.below HE.out.bel) p (by rw [← HN.out]; exact hpn)
              have q4 := HE.out.ui.cell hpn
              obtain ⟨pl, hpl⟩ : ∃ pl, pl = plc o i p := ⟨_, rfl⟩
              rw [← hpl] at q4 HTO
              clear hpl
              by_cases c4 : 0 ≤ pl
              · have HR := hide (HNO.out (fun a => by have := (HTO.out.1 a).2.2.1; omega))
                go_wp2_with fail
                go_ret
                exact LsP.not HE.out.bel rfl HR.out
              · have HCT := hide (fun W => counts_any (spAt l p) W)
                have HMY := hide (fun W => may_any (spAt l p) W)
                generalize spAt l p = s at p0 p1 p2 p3 p4 p5 p6 HTO HCT HMY
                obtain ⟨who, ins, key, load, beg, en, kind⟩ := s
                unfold mayD at HTO
                unfold Sp.arr at HCT HMY
                simp only at HTO p0 p1 p2 p3 p4 p5 p6 HCT HMY
                generalize cntD ⟨who, ins, key, load, beg, en, kind⟩ = cb at HTO HCT
                generalize (en == -1) = oq at HTO HMY
                obtain ⟨X, hX⟩ : ∃ X, X = wr.alloc (.cells #[.int .i64 who, .bool ins, .int .u64 key, .int .u64 load, .int .i64 beg, .int .i64 en, .int .i64 kind] 69) := ⟨_, rfl⟩
                have HBX : Hid (Below wr.heap.size wr X) := by rw [hX]; exact below_alloc (Below.refl _ _) _
                have HQX : Hid (X.heap[wr.heap.size]? = some (.cells #[.int .i64 who, .bool ins, .int .u64 key, .int .u64 load, .int .i64 beg, .int .i64 en, .int .i64 kind] 69 (0, 0))) := by rw [hX]; exact heap_new _ _
                cases cb with
                | true =>
                  have HR := hide (HTO.out.2 ⟨by omega, by omega, by omega, rfl⟩)
                  clear HTO HNO
                  go_upto_region 15 with (first
                    | (go_at_call 40; refine (HCT.out _).mono ?_; rintro e w5 ⟨rfl, hb⟩; rw [← hX] at hb; have HP := hide ((HE.out.on HBX.out).on hb); have hq5 := (hb.block _ (lt_of_heap HQX.out)).trans HQX.out; have HQ5 := hide hq5; have z0 := cell_of hq5 (i := 0) rfl; have z1 := cell_of hq5 (i := 1) rfl; have z2 := cell_of hq5 (i := 2) rfl; have z3 := cell_of hq5 (i := 3) rfl; have z4 := cell_of hq5 (i := 4) rfl; have z5 := cell_of hq5 (i := 5) rfl; have z6 := cell_of hq5 (i := 6) rfl; clear hb hq5 p0 p1 p2 p3 p4 p5 p6 q4 x1)
                    | fail)
                  have hfr := HP.out.ui.free
                  have q5 := HP.out.ui.cell hpn
                  have HS : Hid (IM w (w5.setCell ⟨g, p, none⟩ (.int .i64 (i : Int))) g n (plc o (i + 1))) := (HP.out.put p (i : Int)).ext (fun t _ => (HSS.out t).symm)
                  go_wp2_with fail
                  exact ⟨⟨i + 1, by omega, rfl, by simp, HS.out, fun k hk => by
                    by_cases e : k = i
                    · rw [e]; exact HR.out
                    · exact HF.out k (by omega)⟩, by simp [RowKit.intOf]; omega⟩
                | false =>
                  cases oq with
                  | false =>
                    have HR := hide (HNO.out (fun a => by have := (HTO.out.1 a).2.2.2; simp at this))
                    clear HTO HNO
                    go_wp2_with (first
                      | (go_at_call 40; refine (HCT.out _).mono ?_; rintro e w5 ⟨rfl, hb⟩; rw [← hX] at hb; have HP := hide ((HE.out.on HBX.out).on hb); have hq5 := (hb.block _ (lt_of_heap HQX.out)).trans HQX.out; have HQ5 := hide hq5; have z0 := cell_of hq5 (i := 0) rfl; have z1 := cell_of hq5 (i := 1) rfl; have z2 := cell_of hq5 (i := 2) rfl; have z3 := cell_of hq5 (i := 3) rfl; have z4 := cell_of hq5 (i := 4) rfl; have z5 := cell_of hq5 (i := 5) rfl; have z6 := cell_of hq5 (i := 6) rfl; clear hb hq5 p0 p1 p2 p3 p4 p5 p6 q4 x1)
                      | (go_at_call 65; refine (HMY.out _).mono ?_; rintro e w6 ⟨rfl, hb⟩; have HP2 := hide (HP.out.on hb); have y1 := cell_of ((hb.block _ (lt_of_heap HQ5.out)).trans HQ5.out) (i := 1) rfl; clear hb z0 z1 z2 z3 z4 z5 z6)
                      | fail)
                    go_ret
                    exact LsP.not HP2.out.bel rfl HR.out
                  | true =>
                    cases ins with
                    | true =>
                      have HR := hide (HTO.out.2 ⟨by omega, by omega, by omega, rfl⟩)
                      clear HTO HNO
                      go_upto_region 15 with (first
                        | (go_at_call 40; refine (HCT.out _).mono ?_; rintro e w5 ⟨rfl, hb⟩; rw [← hX] at hb; have HP := hide ((HE.out.on HBX.out).on hb); have hq5 := (hb.block _ (lt_of_heap HQX.out)).trans HQX.out; have HQ5 := hide hq5; have z0 := cell_of hq5 (i := 0) rfl; have z1 := cell_of hq5 (i := 1) rfl; have z2 := cell_of hq5 (i := 2) rfl; have z3 := cell_of hq5 (i := 3) rfl; have z4 := cell_of hq5 (i := 4) rfl; have z5 := cell_of hq5 (i := 5) rfl; have z6 := cell_of hq5 (i := 6) rfl; clear hb hq5 p0 p1 p2 p3 p4 p5 p6 q4 x1)
                        | (go_at_call 65; refine (HMY.out _).mono ?_; rintro e w6 ⟨rfl, hb⟩; have HP2 := hide (HP.out.on hb); have y1 := cell_of ((hb.block _ (lt_of_heap HQ5.out)).trans HQ5.out) (i := 1) rfl; clear hb z0 z1 z2 z3 z4 z5 z6)
                        | fail)
                      have hfr := HP2.out.ui.free
                      have q5 := HP2.out.ui.cell hpn
                      have HS : Hid (IM w (w6.setCell ⟨g, p, none⟩ (.int .i64 (i : Int))) g n (plc o (i + 1))) := (HP2.out.put p (i : Int)).ext (fun t _ => (HSS.out t).symm)
                      go_wp2_with fail
                      exact ⟨⟨i + 1, by omega, rfl, by simp, HS.out, fun k hk => by
                        by_cases e : k = i
                        · rw [e]; exact HR.out
                        · exact HF.out k (by omega)⟩, by simp [RowKit.intOf]; omega⟩
                    | false =>
                      cases q with
                      | true =>
                        have HR := hide (HTO.out.2 ⟨by omega, by omega, by omega, rfl⟩)
                        clear HTO HNO
                        go_upto_region 15 with (first
                          | (go_at_call 40; refine (HCT.out _).mono ?_; rintro e w5 ⟨rfl, hb⟩; rw [← hX] at hb; have HP := hide ((HE.out.on HBX.out).on hb); have hq5 := (hb.block _ (lt_of_heap HQX.out)).trans HQX.out; have HQ5 := hide hq5; have z0 := cell_of hq5 (i := 0) rfl; have z1 := cell_of hq5 (i := 1) rfl; have z2 := cell_of hq5 (i := 2) rfl; have z3 := cell_of hq5 (i := 3) rfl; have z4 := cell_of hq5 (i := 4) rfl; have z5 := cell_of hq5 (i := 5) rfl; have z6 := cell_of hq5 (i := 6) rfl; clear hb hq5 p0 p1 p2 p3 p4 p5 p6 q4 x1)
                          | (go_at_call 65; refine (HMY.out _).mono ?_; rintro e w6 ⟨rfl, hb⟩; have HP2 := hide (HP.out.on hb); have y1 := cell_of ((hb.block _ (lt_of_heap HQ5.out)).trans HQ5.out) (i := 1) rfl; clear hb z0 z1 z2 z3 z4 z5 z6)
                          | fail)
                        have hfr := HP2.out.ui.free
                        have q5 := HP2.out.ui.cell hpn
                        have HS : Hid (IM w (w6.setCell ⟨g, p, none⟩ (.int .i64 (i : Int))) g n (plc o (i + 1))) := (HP2.out.put p (i : Int)).ext (fun t _ => (HSS.out t).symm)
                        go_wp2_with fail
                        exact ⟨⟨i + 1, by omega, rfl, by simp, HS.out, fun k hk => by
                          by_cases e : k = i
                          · rw [e]; exact HR.out
                          · exact HF.out k (by omega)⟩, by simp [RowKit.intOf]; omega⟩
                      | false =>
                        have HR := hide (HNO.out (fun a => by have := (HTO.out.1 a).2.2.2; simp at this))
                        clear HTO HNO
                        go_wp2_with (first
                          | (go_at_call 40; refine (HCT.out _).mono ?_; rintro e w5 ⟨rfl, hb⟩; rw [← hX] at hb; have HP := hide ((HE.out.on HBX.out).on hb); have hq5 := (hb.block _ (lt_of_heap HQX.out)).trans HQX.out; have HQ5 := hide hq5; have z0 := cell_of hq5 (i := 0) rfl; have z1 := cell_of hq5 (i := 1) rfl; have z2 := cell_of hq5 (i := 2) rfl; have z3 := cell_of hq5 (i := 3) rfl; have z4 := cell_of hq5 (i := 4) rfl; have z5 := cell_of hq5 (i := 5) rfl; have z6 := cell_of hq5 (i := 6) rfl; clear hb hq5 p0 p1 p2 p3 p4 p5 p6 q4 x1)
                          | (go_at_call 65; refine (HMY.out _).mono ?_; rintro e w6 ⟨rfl, hb⟩; have HP2 := hide (HP.out.on hb); have y1 := cell_of ((hb.block _ (lt_of_heap HQ5.out)).trans HQ5.out) (i := 1) rfl; clear hb z0 z1 z2 z3 z4 z5 z6)
                          | fail)
                        go_ret
                        exact LsP.not HP2.out.bel rfl HR.out
        · obtain rfl : m = i := by omega
          have HF2 : Hid (∀ k, k < o.length → trd l o q k) := fun k hk => HF.out k (by rw [HM'.out]; exact hk)
          have HE2 : Hid (IM w wr g n (plc o o.length)) := by rw [← HM'.out]; exact HE.out
          clear HF HE
          go_wp2_with fail
          go_loopw [6, 12, 13] (fun va t _ wr => ∃ i : Nat, i ≤ n ∧ va = .bool false ∧ t = .int .i64 (i : Int) ∧ IM w wr g n (plc o o.length) ∧ ∀ a, a < i → (cntD (spAt l a) = true → 0 ≤ plc o o.length a) ∧ ∀ k, k < n → ¬ Bhd l o a k) (fun _ t _ _ => n - (RowKit.intOf t).toNat)
          case atStart => exact ⟨0, Nat.zero_le _, rfl, rfl, HE2.out, fun k hk => by omega⟩
          case round =>
            clear HE2
            obtain ⟨i, hin3, rfl, rfl, hev, hft⟩ := hrel
            have HE := hide hev; have HF := hide hft
            clear hev hft
            by_cases hlt3 : i < n
            · have hli : (i : Int) < (n : Int) := by omega
              obtain ⟨gs, os, rfl, hgs0, i0, i1, i2, i3, i4, i5, i6⟩ := sp_cells (H.out.below HE.out.bel) i (by rw [← HN.out]; exact hlt3)
              have HCT := hide (fun W => counts_any (spAt l i) W)
              have qi := HE.out.ui.cell hlt3
              have HNO : Hid (cntD (spAt l i) = true → plc o o.length i < 0 → ¬ Lsd l o q) := fun a b c => by
                have := (c.2 i (by rw [← HN.out]; exact hlt3)).1 a
                omega
              have HNB : Hid (∀ k, k < n → Bhd l o i k → ¬ Lsd l o q) := fun k a b c => (c.2 i (by rw [← HN.out]; exact hlt3)).2 k (by rw [← HN.out]; exact a) b
              have HBD : Hid (∀ k, Bhd l o i k ↔ 0 ≤ plc o o.length i ∧ 0 ≤ plc o o.length k ∧ plc o o.length k < plc o o.length i ∧ ahd (spAt l i) (spAt l k) = true) := fun k => Iff.rfl
              have HAH0 := hide (fun k W => ahead_any (spAt l i) (spAt l k) W)
              have HIC : Hid (∀ W, Below w.heap.size w W → W.cell? ⟨gs, os + i * 7, none⟩ = some (.int .i64 (spAt l i).who) ∧ W.cell? ⟨gs, os + i * 7 + 1, none⟩ = some (.bool (spAt l i).ins) ∧ W.cell? ⟨gs, os + i * 7 + 2, none⟩ = some (.int .u64 (spAt l i).key) ∧ W.cell? ⟨gs, os + i * 7 + 3, none⟩ = some (.int .u64 (spAt l i).load) ∧ W.cell? ⟨gs, os + i * 7 + 4, none⟩ = some (.int .i64 (spAt l i).beg) ∧ W.cell? ⟨gs, os + i * 7 + 5, none⟩ = some (.int .i64 (spAt l i).en) ∧ W.cell? ⟨gs, os + i * 7 + 6, none⟩ = some (.int .i64 (spAt l i).kind)) := fun W hW => by
                obtain ⟨g2, o2, e2, _, a⟩ := sp_cells (H.out.below hW) i (by rw [← HN.out]; exact hlt3)
                simp only [Option.some.injEq, Addr.mk.injEq, and_true] at e2
                obtain ⟨rfl, rfl⟩ := e2
                exact a
              have HYE : Hid ((cntD (spAt l i) = true → 0 ≤ plc o o.length i) → (∀ k, k < n → ¬ Bhd l o i k) → ∀ a, a < i + 1 → (cntD (spAt l a) = true → 0 ≤ plc o o.length a) ∧ ∀ k, k < n → ¬ Bhd l o a k) := fun x y a ha => by
                by_cases e : a = i
                · rw [e]; exact ⟨x, y⟩
                · exact HF.out a (by omega)
              generalize spAt l i = si at i0 i1 i2 i3 i4 i5 i6 HCT HNO HBD HAH0 HIC HYE
              obtain ⟨pi, hpi0⟩ : ∃ pi, pi = plc o o.length i := ⟨_, rfl⟩
              rw [← hpi0] at qi HNO HYE
              have HBD2 : Hid (∀ k, Bhd l o i k ↔ 0 ≤ pi ∧ 0 ≤ plc o o.length k ∧ plc o o.length k < pi ∧ ahd si (spAt l k) = true) := by rw [hpi0]; exact HBD.out
              have HP0 := hide hpi0
              clear hpi0 HBD
              have HBD := HBD2
              clear HBD2
              obtain ⟨whoi, insi, keyi, loadi, begi, eni, kindi⟩ := si
              unfold Sp.arr at HCT
              simp only at i0 i1 i2 i3 i4 i5 i6 HCT HIC
              generalize cntD ⟨whoi, insi, keyi, loadi, begi, eni, kindi⟩ = cb at HCT HNO HYE
              go_upto_region 19 with fail
              go_cut [91] from 80 to 91 (fun t wx => t = .bool (cb && decide (pi < 0)) ∧ Below wr.heap.size wr wx)
              case first =>
                cases cb with
                | false =>
                  go_wp2_with (first
                    | (go_at_call 40; refine (HCT.out _).mono ?_; rintro e w5 ⟨rfl, hb⟩; have HP := hide hb; clear hb i0 i1 i2 i3 i4 i5 i6 qi)
                    | fail)
                  go_meet
                  case rel => exact ⟨rfl, HP.out⟩
                | true =>
                  by_cases hpi : pi < 0
                  · go_wp2_with (first
                      | (go_at_call 40; refine (HCT.out _).mono ?_; rintro e w5 ⟨rfl, hb⟩; have HP := hide hb; have qj := (below_cell hb (block_of_cell qi)).trans qi; clear hb i0 i1 i2 i3 i4 i5 i6 qi)
                      | fail)
                    go_meet
                    case rel => exact ⟨by simp [hpi], HP.out⟩
                  · go_wp2_with (first
                      | (go_at_call 40; refine (HCT.out _).mono ?_; rintro e w5 ⟨rfl, hb⟩; have HP := hide hb; have qj := (below_cell hb (block_of_cell qi)).trans qi; clear hb i0 i1 i2 i3 i4 i5 i6 qi)
                      | fail)
                    go_meet
                    case rel => exact ⟨by simp [hpi], HP.out⟩
              case rest =>
                obtain ⟨rfl, hbc⟩ := hcut
                have HEC := hide (HE.out.on hbc)
                clear hbc i0 i1 i2 i3 i4 i5 i6 qi HCT HE HF
                have HCC : Hid ((cb && decide (pi < 0)) = true ↔ cb = true ∧ pi < 0) := by show _ ↔ _; simp
                generalize (cb && decide (pi < 0)) = cc at HCC ⊢
                cases cc with
                | true =>
                  have HR := hide (HNO.out (HCC.out.1 rfl).1 (HCC.out.1 rfl).2)
                  clear HCC HNO HYE
                  go_wp2_with fail
                  go_ret
                  exact LsP.not HEC.out.bel rfl HR.out
                | false =>
                  have HCN : Hid (cb = true → 0 ≤ pi) := fun a => by
                    by_cases e : pi < 0
                    · have := HCC.out.2 ⟨a, e⟩; cases this
                    · omega
                  clear HCC HNO
                  go_wp2_with fail
                  go_loopw [6, 13] (fun va t wx => ∃ k : Nat, k ≤ n ∧ va = .bool false ∧ t = .int .i64 (k : Int) ∧ IM w wx g n (plc o o.length) ∧ ∀ a, a < k → ¬ Bhd l o i a) (fun _ t _ => n - (RowKit.intOf t).toNat)
                  case atStart => exact ⟨0, Nat.zero_le _, rfl, rfl, HEC.out, fun k hk => by omega⟩
                  case round =>
                    clear HEC
                    obtain ⟨k, hkn, rfl, rfl, hev, hft⟩ := hrel
                    have HE := hide hev; have HNK := hide hft
                    clear hev hft
                    by_cases hlt4 : k < n
                    · have hlk : (k : Int) < (n : Int) := by omega
                      obtain ⟨gs', os', hgo, hgs, k0, k1, k2, k3, k4, k5, k6⟩ := sp_cells (H.out.below HE.out.bel) k (by rw [← HN.out]; exact hlt4)
                      simp only [Option.some.injEq, Addr.mk.injEq, and_true] at hgo
                      obtain ⟨rfl, rfl⟩ := hgo
                      obtain ⟨i0, i1, i2, i3, i4, i5, i6⟩ := HIC.out wr HE.out.bel
                      have qk := HE.out.ui.cell hlt4
                      have HBK := hide (HBD.out k)
                      have HAH := hide (fun W => HAH0.out k W)
                      have qi0 := HE.out.ui.cell hlt3
                      rw [← HP0.out] at qi0
                      have qi := qi0
                      clear qi0
                      generalize plc o o.length k = pk at qk HBK
                      generalize spAt l k = sk at k0 k1 k2 k3 k4 k5 k6 HBK HAH
                      obtain ⟨whok, insk, keyk, loadk, begk, enk, kindk⟩ := sk
                      unfold Sp.arr at HAH
                      simp only at k0 k1 k2 k3 k4 k5 k6 HAH
                      generalize ahd ⟨whoi, insi, keyi, loadi, begi, eni, kindi⟩ ⟨whok, insk, keyk, loadk, begk, enk, kindk⟩ = ah at HBK HAH
                      have HRR : Hid (Bhd l o i k ↔ (decide (0 ≤ pi) && (decide (0 ≤ pk) && (decide (pk < pi) && ah))) = true) := by show _ ↔ _; rw [HBK.out]; simp
                      have HSC : Hid (∀ x, Below wr.heap.size wr x → (fun x => x.cell? ⟨gs, os + i * 7, none⟩ = some (.int .i64 whoi) ∧ x.cell? ⟨gs, os + i * 7 + 1, none⟩ = some (.bool insi) ∧ x.cell? ⟨gs, os + i * 7 + 2, none⟩ = some (.int .u64 keyi) ∧ x.cell? ⟨gs, os + i * 7 + 3, none⟩ = some (.int .u64 loadi) ∧ x.cell? ⟨gs, os + i * 7 + 4, none⟩ = some (.int .i64 begi) ∧ x.cell? ⟨gs, os + i * 7 + 5, none⟩ = some (.int .i64 eni) ∧ x.cell? ⟨gs, os + i * 7 + 6, none⟩ = some (.int .i64 kindi) ∧ x.cell? ⟨gs, os + k * 7, none⟩ = some (.int .i64 whok) ∧ x.cell? ⟨gs, os + k * 7 + 1, none⟩ = some (.bool insk) ∧ x.cell? ⟨gs, os + k * 7 + 2, none⟩ = some (.int .u64 keyk) ∧ x.cell? ⟨gs, os + k * 7 + 3, none⟩ = some (.int .u64 loadk) ∧ x.cell? ⟨gs, os + k * 7 + 4, none⟩ = some (.int .i64 begk) ∧ x.cell? ⟨gs, os + k * 7 + 5, none⟩ = some (.int .i64 enk) ∧ x.cell? ⟨gs, os + k * 7 + 6, none⟩ = some (.int .i64 kindk) ∧ x.cell? ⟨g, i, none⟩ = some (.int .i64 pi) ∧ x.cell? ⟨g, k, none⟩ = some (.int .i64 pk)) x) := fun x hx => ⟨(below_cell hx (block_of_cell i0)).trans i0, (below_cell hx (block_of_cell i1)).trans i1, (below_cell hx (block_of_cell i2)).trans i2, (below_cell hx (block_of_cell i3)).trans i3, (below_cell hx (block_of_cell i4)).trans i4, (below_cell hx (block_of_cell i5)).trans i5, (below_cell hx (block_of_cell i6)).trans i6, (below_cell hx (block_of_cell k0)).trans k0, (below_cell hx (block_of_cell k1)).trans k1, (below_cell hx (block_of_cell k2)).trans k2, (below_cell hx (block_of_cell k3)).trans k3, (below_cell hx (block_of_cell k4)).trans k4, (below_cell hx (block_of_cell k5)).trans k5, (below_cell hx (block_of_cell k6)).trans k6, (below_cell hx (block_of_cell qi)).trans qi, (below_cell hx (block_of_cell qk)).trans qk⟩
                      have HB0 : Hid (Below wr.heap.size wr wr.drew) := below_drew (Below.refl _ _)
                      clear i0 i1 i2 i3 i4 i5 i6 k0 k1 k2 k3 k4 k5 k6 qi qk HBK HAH0
                      go_upto_region 24 with fail
                      go_cut [131] from 98 to 131 (fun t wx => t = .bool (decide (0 ≤ pi) && (decide (0 ≤ pk) && (decide (pk < pi) && ah))) ∧ Below wr.heap.size wr wx)
                      case first =>
                          have ci0 : ∀ x : GW wr, x.world.cell? ⟨gs, os + i * 7, none⟩ = some (.int .i64 whoi) := fun x => (HSC.out x.world x.bel).1
                          have ci1 : ∀ x : GW wr, x.world.cell? ⟨gs, os + i * 7 + 1, none⟩ = some (.bool insi) := fun x => (HSC.out x.world x.bel).2.1
                          have ci2 : ∀ x : GW wr, x.world.cell? ⟨gs, os + i * 7 + 2, none⟩ = some (.int .u64 keyi) := fun x => (HSC.out x.world x.bel).2.2.1
                          have ci3 : ∀ x : GW wr, x.world.cell? ⟨gs, os + i * 7 + 3, none⟩ = some (.int .u64 loadi) := fun x => (HSC.out x.world x.bel).2.2.2.1
                          have ci4 : ∀ x : GW wr, x.world.cell? ⟨gs, os + i * 7 + 4, none⟩ = some (.int .i64 begi) := fun x => (HSC.out x.world x.bel).2.2.2.2.1
                          have ci5 : ∀ x : GW wr, x.world.cell? ⟨gs, os + i * 7 + 5, none⟩ = some (.int .i64 eni) := fun x => (HSC.out x.world x.bel).2.2.2.2.2.1
                          have ci6 : ∀ x : GW wr, x.world.cell? ⟨gs, os + i * 7 + 6, none⟩ = some (.int .i64 kindi) := fun x => (HSC.out x.world x.bel).2.2.2.2.2.2.1
                          have ck0 : ∀ x : GW wr, x.world.cell? ⟨gs, os + k * 7, none⟩ = some (.int .i64 whok) := fun x => (HSC.out x.world x.bel).2.2.2.2.2.2.2.1
                          have ck1 : ∀ x : GW wr, x.world.cell? ⟨gs, os + k * 7 + 1, none⟩ = some (.bool insk) := fun x => (HSC.out x.world x.bel).2.2.2.2.2.2.2.2.1
                          have ck2 : ∀ x : GW wr, x.world.cell? ⟨gs, os + k * 7 + 2, none⟩ = some (.int .u64 keyk) := fun x => (HSC.out x.world x.bel).2.2.2.2.2.2.2.2.2.1
                          have ck3 : ∀ x : GW wr, x.world.cell? ⟨gs, os + k * 7 + 3, none⟩ = some (.int .u64 loadk) := fun x => (HSC.out x.world x.bel).2.2.2.2.2.2.2.2.2.2.1
                          have ck4 : ∀ x : GW wr, x.world.cell? ⟨gs, os + k * 7 + 4, none⟩ = some (.int .i64 begk) := fun x => (HSC.out x.world x.bel).2.2.2.2.2.2.2.2.2.2.2.1
                          have ck5 : ∀ x : GW wr, x.world.cell? ⟨gs, os + k * 7 + 5, none⟩ = some (.int .i64 enk) := fun x => (HSC.out x.world x.bel).2.2.2.2.2.2.2.2.2.2.2.2.1
                          have ck6 : ∀ x : GW wr, x.world.cell? ⟨gs, os + k * 7 + 6, none⟩ = some (.int .i64 kindk) := fun x => (HSC.out x.world x.bel).2.2.2.2.2.2.2.2.2.2.2.2.2.1
                          have cqi : ∀ x : GW wr, x.world.cell? ⟨g, i, none⟩ = some (.int .i64 pi) := fun x => (HSC.out x.world x.bel).2.2.2.2.2.2.2.2.2.2.2.2.2.2.1
                          have cqk : ∀ x : GW wr, x.world.cell? ⟨g, k, none⟩ = some (.int .i64 pk) := fun x => (HSC.out x.world x.bel).2.2.2.2.2.2.2.2.2.2.2.2.2.2.2
                          by_cases h1 : 0 ≤ pi
                          · have d1 : decide (0 ≤ pi) = true := by simpa using h1
                            by_cases h2 : 0 ≤ pk
                            · have d2 : decide (0 ≤ pk) = true := by simpa using h2
                              by_cases h3 : pk < pi
                              · have d3 : decide (pk < pi) = true := by simpa using h3
                                refine wp_region_gw (by kernel_rfl) (by kernel_rfl) ?_
                                repeat (go_big_quiet_step (first | (go_at_call 89; exact gw_of (HAH.out _)) | rfl))
                                refine wpQuiet_nil ?_
                                intro _ hw'
                                obtain ⟨x, hw''⟩ := hw'
                                subst hw''
                                go_wp2_with fail
                                go_meet
                                case rel => exact ⟨by rw [d1, d2, d3]; simp, x.bel⟩
                              · have d3 : decide (pk < pi) = false := by simpa using h3
                                refine wp_region_gw (by kernel_rfl) (by kernel_rfl) ?_
                                repeat (go_big_quiet_step (first | (go_at_call 89; exact gw_of (HAH.out _)) | rfl))
                                refine wpQuiet_nil ?_
                                intro _ hw'
                                obtain ⟨x, hw''⟩ := hw'
                                subst hw''
                                go_wp2_with fail
                                go_meet
                                case rel => exact ⟨by rw [d1, d2, d3]; simp, x.bel⟩
                            · have d2 : decide (0 ≤ pk) = false := by simpa using h2
                              refine wp_region_gw (by kernel_rfl) (by kernel_rfl) ?_
                              repeat (go_big_quiet_step (first | (go_at_call 89; exact gw_of (HAH.out _)) | rfl))
                              refine wpQuiet_nil ?_
                              intro _ hw'
                              obtain ⟨x, hw''⟩ := hw'
                              subst hw''
                              go_wp2_with fail
                              go_meet
                              case rel => exact ⟨by rw [d1, d2]; simp, x.bel⟩
                          · have d1 : decide (0 ≤ pi) = false := by simpa using h1
                            refine wp_region_gw (by kernel_rfl) (by kernel_rfl) ?_
                            repeat (go_big_quiet_step (first | (go_at_call 89; exact gw_of (HAH.out _)) | rfl))
                            refine wpQuiet_nil ?_
                            intro _ hw'
                            obtain ⟨x, hw''⟩ := hw'
                            subst hw''
                            go_wp2_with fail
                            go_meet
                            case rel => exact ⟨by rw [d1]; simp, x.bel⟩
                      case rest =>
                        obtain ⟨rfl, hbc⟩ := hcut
                        have HBC := hide (HE.out.on hbc)
                        clear hbc HSC HAH HB0
                        generalize (decide (0 ≤ pi) && (decide (0 ≤ pk) && (decide (pk < pi) && ah))) = tw at HRR ⊢
                        cases tw with
                        | true =>
                          have HR := hide (HNB.out k hlt4 (HRR.out.2 rfl))
                          go_wp2_with fail
                          go_ret
                          exact LsP.not HBC.out.bel rfl HR.out
                        | false =>
                          have HR : Hid (∀ a, a < k + 1 → ¬ Bhd l o i a) := fun a ha z => by
                            by_cases e : a = k
                            · subst e; have := HRR.out.1 z; cases this
                            · exact HNK.out a (by omega) z
                          go_wp2_with fail
                          exact ⟨⟨k + 1, by omega, rfl, by simp, HBC.out, HR.out⟩, by simp [RowKit.intOf]; omega⟩
                    · obtain rfl : n = k := by omega
                      have HR := hide (HYE.out HCN.out (fun a ha => HNK.out a ha))
                      go_wp2_with fail
                      exact ⟨⟨i + 1, by omega, rfl, by simp, HE.out, HR.out⟩, by simp [RowKit.intOf]; omega⟩
            · obtain rfl : n = i := by omega
              have HT : Hid (Lsd l o q) := ⟨HF2.out, fun k hk => by
                have := HF.out k (by rw [HN.out]; exact hk)
                rw [HN.out] at this
                exact this⟩
              go_wp2_with fail
              go_ret
              exact ⟨HE.out.bel, true, rfl, fun _ => HT.out, fun _ => rfl⟩
end Go.Proofs.Ytfoeljcgbfpknaa
