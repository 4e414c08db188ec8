/- graph.Check. -/
import Derived.Test.YtmagigmcbegmiaaWrong
import Derived.Deep.QuietTactic
namespace Go.Proofs.Ytmagigmcbegmiaa
open Go.RowKit Go.Lib
set_option linter.unusedVariables false

/-- A graph's lists in memory. -/
structure GIs (w : World) (N : Int) (va vb vc : Value) (st to wt : List Int) : Prop where
  s : RowAt .i64 w va st
  t : RowAt .i64 w vb to
  u : RowAt .u64 w vc wt
theorem GIs.below {w w' : World} {N : Int} {va vb vc : Value} {st to wt : List Int} (h : GIs w N va vb vc st to wt) (hb : Below w.heap.size w w') : GIs w' N va vb vc st to wt :=
  ⟨h.s.below hb, h.t.below hb, h.u.below hb⟩
def gAgg (N : Int) (va vb vc : Value) : Value := .agg #[.int .i64 N, va, vb, vc]

theorem RowAt.shape {k : IntKind} {w : World} {v : Value} {xs : List Int} (h : RowAt k w v xs) : ∃ ao c, v = .slice ao xs.length c := by
  obtain ⟨ao, c, h, _⟩ := h; exact ⟨ao, c, h⟩

theorem below_cell {w w' : World} {g B o : Nat} (h : Below B w w') (hg : g < B) : w'.cell? ⟨g, o, none⟩ = w.cell? ⟨g, o, none⟩ := by
  simp only [World.cell?]
  rw [h.block g hg]
theorem RowAt.cellAt {k : IntKind} {w : World} {v : Value} {xs : List Int} (h : RowAt k w v xs) (i : Nat) (hi : i < xs.length) :
    ∃ g o c, v = .slice (some ⟨g, o, none⟩) xs.length c ∧ xs.length ≤ c ∧ w.cell? ⟨g, o + i, none⟩ = some (.int k (at_ xs i)) := by
  obtain ⟨g, o, c, rfl, h1, h2, h3⟩ := h.spot (by intro e; rw [e] at hi; simp at hi)
  exact ⟨g, o, c, rfl, h1, h3 i hi⟩
def ChkPost (w : World) (r : Int × Int) (e : Ending) (w' : World) : Prop := e = .returned (.tuple #[.int .i64 r.1, .int .i64 r.2]) ∧ Below w.heap.size w w'
theorem chk_size {N : Int} {st to wt : List Int} (h : ¬ FitsI N to.length) : chk N st to wt = (22, -1) := by
  unfold chk
  rw [if_neg (fun hh => h ⟨hh.1, hh.2.1, by have := hh.2.2; omega⟩)]
theorem chk_lens {N : Int} {st to wt : List Int} (h : FitsI N to.length) (h2 : ¬ ((st.length : Int) = N + 1 ∧ wt.length = to.length)) : chk N st to wt = (32, -1) := by
  unfold chk
  rw [if_pos (show Fits N to.length from ⟨h.1, h.2.1, by have := h.2.2; omega⟩), if_neg h2]
theorem chk_rows {N : Nat} {st to wt : List Int} (h : FitsI N to.length) (h2 : st.length = N + 1) (h3 : wt.length = to.length) :
    chk N st to wt = if 0 ≤ rowsNo N to.length st then (32, rowsNo N to.length st) else chkEdges N to wt := by
  unfold chk
  rw [if_pos (show Fits N to.length from ⟨h.1, h.2.1, by have := h.2.2; omega⟩), if_pos (show (st.length : Int) = N + 1 ∧ wt.length = to.length from ⟨by omega, h3⟩)]
  simp only [Int.toNat_natCast]
  unfold rowsNo
  cases chkRows N to.length st with
  | none => simp
  | some i => simp
theorem edges_some {N i : Nat} {to wt : List Int} (hi : i < to.length) (hb : edgeNo N (at_ to i) (at_ wt i) ≠ 0) (h : ∀ j, j < i → edgeNo N (at_ to j) (at_ wt j) = 0) : chkEdges N to wt = (edgeNo N (at_ to i) (at_ wt i), (i : Int)) := by
  unfold chkEdges
  rw [first_some (p := badEdge N to wt) hi (decide_eq_true hb) (fun j hj => decide_eq_false (by rw [h j hj]; simp))]
theorem edges_none {N : Nat} {to wt : List Int} (h : ∀ j, j < to.length → edgeNo N (at_ to j) (at_ wt j) = 0) : chkEdges N to wt = (0, 0) := by
  unfold chkEdges
  rw [first_none (p := badEdge N to wt) (fun j hj => decide_eq_false (by rw [h j hj]; simp))]

theorem boxed (w : World) (x0 x1 x2 x3 : Value) :
    (w.alloc (.cells #[x0, x1, x2, x3] 25)).cell? ⟨w.heap.size, 0, none⟩ = some x0 ∧ (w.alloc (.cells #[x0, x1, x2, x3] 25)).cell? ⟨w.heap.size, 1, none⟩ = some x1 ∧
    (w.alloc (.cells #[x0, x1, x2, x3] 25)).cell? ⟨w.heap.size, 2, none⟩ = some x2 ∧ (w.alloc (.cells #[x0, x1, x2, x3] 25)).cell? ⟨w.heap.size, 3, none⟩ = some x3 ∧ Below w.heap.size w (w.alloc (.cells #[x0, x1, x2, x3] 25)) ∧ w.heap.size < (w.alloc (.cells #[x0, x1, x2, x3] 25)).heap.size := by
  have hbk : (w.alloc (.cells #[x0, x1, x2, x3] 25)).heap[w.heap.size]? = some (.cells #[x0, x1, x2, x3] 25 (0, 0)) := heap_new _ _
  exact ⟨cell_of hbk rfl, cell_of hbk rfl, cell_of hbk rfl, cell_of hbk rfl, (Below.refl _ _).alloc (Nat.le_refl _) _, by simp⟩

set_option maxRecDepth 100000 in
set_option maxHeartbeats 2000000 in
theorem check_any (N : Int) (va vb vc : Value) (st to wt : List Int) (w : World) (hg : GIs w N va vb vc st to wt) (hN : N ≤ 9223372036854775806) (hst : st.length ≤ 17592186044416) (hto : to.length ≤ 17592186044416) (hwt : wt.length ≤ 17592186044416) :
    Calls Try.prog 14 #[gAgg N va vb vc] w (ChkPost w (chk N st to wt)) := by
  obtain ⟨ao, ca, rfl⟩ := hg.s.shape
  obtain ⟨bo, cb, rfl⟩ := hg.t.shape
  obtain ⟨co, cc, rfl⟩ := hg.u.shape
  have HG := hide hg
  clear hg
  unfold gAgg
  by_cases hf : FitsI N to.length
  · by_cases hl : (st.length : Int) = N + 1 ∧ wt.length = to.length
    · obtain ⟨n, rfl⟩ : ∃ n : Nat, N = n := ⟨N.toNat, by have := hf.1; omega⟩
      have h1 : st.length = n + 1 := by omega
      have h2 := hl.2
      have h3 := hf.2.1
      have h4 := hf.2.2
      have HF := hide (fits_any n to.length)
      rw [decide_eq_true hf] at HF
      have HK := hide (chk_rows hf h1 h2)
      have HW := hide (fun W (h : RowAt .i64 W (.slice ao st.length ca) st) => wrong_any n to.length (.slice ao st.length ca) (.slice co wt.length cc) bo cb st W h h1 (by omega) (by omega))
      rw [h1, h2] at HG
      rw [h1, h2] at HW
      rw [h1, h2] at ⊢
      obtain ⟨R, hR⟩ : ∃ R, R = rowsNo n to.length st := ⟨_, rfl⟩
      rw [← hR] at HK HW
      have HE := hide (fun i => @edges_some n i to wt)
      have HE2 := hide (@edges_none n to wt)
      have HX := hide (And.intro h1 h2)
      have HC := hide (fun (W : World) (h : RowAt .i64 W (.slice bo to.length cb) to) (i : Nat) (hi : i < to.length) => h.cellAt i hi)
      have HD := hide (fun (W : World) (h : RowAt .u64 W (.slice co to.length cc) wt) (i : Nat) (hi : i < to.length) => h.cellAt i (by rw [h2]; exact hi))
      obtain ⟨m, hm⟩ : ∃ m, m = to.length := ⟨_, rfl⟩
      rw [← hm] at HF HG HW HE HE2 HC HD hto h4 ⊢
      have HM := hide hm
      have HRR := hide hR
      clear hf hl h1 h2 hR hm hst hwt
      go_enter Try.func14, Try.ntmps14
      go_wp2_with fail
      refine (HF.out _).mono ?_
      rintro e w' ⟨rfl, rfl⟩
      go_wp2_with fail
      obtain ⟨c0, c1, c2, c3, hb1, hs1⟩ := boxed w (.int .i64 n) (.slice ao (n + 1) ca) (.slice bo m cb) (.slice co m cc)
      have HG1 := hide (HG.out.below hb1)
      have HB1 := hide hb1
      generalize (w.alloc (.cells #[.int .i64 n, .slice ao (n + 1) ca, .slice bo m cb, .slice co m cc] 25)) = w1 at c0 c1 c2 c3 hs1 HG1 HB1 ⊢
      refine (HW.out w1 HG1.out.s).mono ?_
      rintro e w2 ⟨rfl, hb2⟩
      have c0' := (below_cell hb2 hs1).trans c0
      have c2' := (below_cell (o := 2) hb2 hs1).trans c2
      have c3' := (below_cell (o := 3) hb2 hs1).trans c3
      have HG2 := hide (HG1.out.below hb2)
      have HB2 := hide (HB1.out.trans (hb2.mono (Nat.le_of_lt hs1)))
      clear c0 c1 c2 c3 hb2 HB1 HG1 hb1
      by_cases hR : 0 ≤ R
      · have HP := HK.out
        rw [if_pos hR] at HP
        have HPP := hide HP
        clear HP
        go_wp2
        go_ret2
        exact ⟨by rw [HPP.out]; rfl, HB2.out⟩
      · have HP := HK.out
        rw [if_neg hR] at HP
        have HPP := hide HP
        clear HP
        go_wp2
        go_loopw [39] (fun t wr => ∃ i : Nat, i ≤ m ∧ t = .int .i64 i ∧ (∃ k, wr = w2.drewN k) ∧ ∀ j, j < i → edgeNo n (at_ to j) (at_ wt j) = 0) (fun t _ => m - (RowKit.intOf t).toNat)
        case atStart => exact ⟨0, by omega, rfl, ⟨0, rfl⟩, fun j hj => by omega⟩
        case round =>
          obtain ⟨i, hi, rfl, ⟨k, rfl⟩, hall⟩ := hrel
          have HALL := hide hall
          clear hall
          by_cases hlt : i < m
          · obtain ⟨gb, ob, cb', hsb, hcb, d1⟩ := HC.out w2 HG2.out.t i hlt
            obtain ⟨gc, oc, cc', hsc, hcc, d2⟩ := HD.out w2 HG2.out.u i hlt
            simp only [Value.slice.injEq, true_and] at hsb hsc
            obtain ⟨rfl, rfl⟩ := hsb
            obtain ⟨rfl, _, rfl⟩ := hsc
            have hcc' : m ≤ cc := by have h5 := HX.out.2; have h6 := HM.out; omega
            have HEE := hide (fun hb => HE.out i hlt hb HALL.out)
            clear hcc
            obtain ⟨x, hx⟩ : ∃ x, x = at_ to i := ⟨_, rfl⟩
            obtain ⟨y, hy⟩ : ∃ y, y = at_ wt i := ⟨_, rfl⟩
            rw [← hx] at d1 HEE
            rw [← hy] at d2 HEE
            have HXY := hide (And.intro hx hy)
            have HLK := hide (fun W => look_any n x y W)
            obtain ⟨E, hE⟩ : ∃ E, E = edgeNo n x y := ⟨_, rfl⟩
            rw [← hE] at HEE HLK
            have HEQ := hide hE
            have hli : (i : Int) < (m : Int) := by omega
            clear hx hy hE
            go_wp2_with fail
            go_quiet (first | (go_at_call 45; exact (HLK.out _).mono fun _ _ h => ⟨h.1, _, h.2⟩))
            by_cases hE0 : E = 0
            · go_wp2
              go_roundw
              case rel =>
                refine ⟨i + 1, by omega, by simp, ⟨_, rfl⟩, fun j hj => ?_⟩
                rcases Nat.lt_or_ge j i with h | h
                · exact HALL.out j h
                · obtain rfl : j = i := by omega
                  rw [← HXY.out.1, ← HXY.out.2, ← HEQ.out]; exact hE0
              case measure => simp [RowKit.intOf]; omega
            · go_wp2
              go_ret2
              exact ⟨by rw [HPP.out, HEE.out hE0]; rfl, below_drewN HB2.out _⟩
          · go_wp2
            go_ret2
            exact ⟨by rw [HPP.out, HE2.out (fun j hj => HALL.out j (by omega))]; rfl, below_drewN HB2.out _⟩
    · have HP : Hid (∀ w', Below w.heap.size w w' → ChkPost w (chk N st to wt) (.returned (.tuple #[.int .i64 32, .int .i64 (-1)])) w') := fun w' hb => ⟨by rw [chk_lens hf hl], hb⟩
      have HF := hide (fits_any N to.length)
      rw [decide_eq_true hf] at HF
      have hf0 := hf.1
      have hf1 := hf.2.1
      clear hf
      go_enter Try.func14, Try.ntmps14
      go_wp2_with fail
      refine (HF.out _).mono ?_
      rintro e w' ⟨rfl, rfl⟩
      by_cases h1 : (st.length : Int) = N + 1
      · have h2 : ¬ wt.length = to.length := fun h => hl ⟨h1, h⟩
        clear hl
        go_wp2
        all_goals first
          | (exfalso; omega)
          | (go_ret2; exact HP.out _ ((Below.refl _ _).alloc (Nat.le_refl _) _))
      · clear hl
        go_wp2
        all_goals first
          | (exfalso; omega)
          | (exfalso; simp only [bne_eq_false_iff_eq, bne_iff_ne, Bool.not_eq_true] at *; omega)
          | (go_ret2; exact HP.out _ ((Below.refl _ _).alloc (Nat.le_refl _) _))
  · have HP : Hid (∀ w', Below w.heap.size w w' → ChkPost w (chk N st to wt) (.returned (.tuple #[.int .i64 22, .int .i64 (-1)])) w') := fun w' hb => ⟨by rw [chk_size hf], hb⟩
    have HF := hide (fits_any N to.length)
    rw [decide_eq_false hf] at HF
    clear hf
    go_enter Try.func14, Try.ntmps14
    go_wp2_with fail
    refine (HF.out _).mono ?_
    rintro e w' ⟨rfl, rfl⟩
    go_wp2
    go_ret2
    exact HP.out _ ((Below.refl _ _).alloc (Nat.le_refl _) _)
end Go.Proofs.Ytmagigmcbegmiaa
