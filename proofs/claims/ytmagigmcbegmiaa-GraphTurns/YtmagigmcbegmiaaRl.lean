import Derived.Test.YtmagigmcbegmiaaGT2
import Derived.Test.YtmagigmcbegmiaaReachM
import Derived.Test.YtmagigmcbegmiaaGU
import Derived.BigRegion
import Derived.BigQuiet
/- graph.numbers of an order: where each vertex stands. -/
namespace Go.Proofs.Ytmagigmcbegmiaa
open Go.RowKit Go.Lib
set_option linter.unusedVariables false
set_option linter.unusedSimpArgs false
/-- An order of the vertices, and where each stands. -/
structure Prm (n : Nat) (o : List Int) (P : Nat → Nat) : Prop where
  len : o.length = n
  rng : ∀ i, i < n → ∃ v : Nat, at_ o i = (v : Int) ∧ v < n ∧ P v = i
  pos : ∀ v, v < n → P v < n ∧ at_ o (P v) = (v : Int)
def plL (P : Nat → Nat) (n i : Nat) : List Int := tab n (fun v => if P v < i then (P v : Int) else 0)
theorem plL_zero (P : Nat → Nat) (n : Nat) : plL P n 0 = tab n (fun _ => 0) := tab_congr fun v _ => if_neg (by omega)
theorem plL_all {P : Nat → Nat} {n : Nat} (h : ∀ v, v < n → P v < n) : plL P n n = tab n (fun v => (P v : Int)) := tab_congr fun v hv => if_pos (h v hv)
theorem plL_set {P : Nat → Nat} {n i q : Nat} (hq : P q = i) (hu : ∀ v, v < n → P v = i → v = q) : (plL P n i).set q (i : Int) = plL P n (i + 1) := by
  unfold plL
  rw [tab_set]
  refine tab_congr fun v hv => ?_
  by_cases h : v = q
  · subst h
    rw [if_pos rfl, if_pos (by omega), hq]
  · rw [if_neg h]
    by_cases h2 : P v < i
    · rw [if_pos h2, if_pos (by omega)]
    · rw [if_neg h2, if_neg (by intro h3; exact h (hu v hv (by omega)))]
/-- Who is known so far. -/
def knL (P : Nat → Nat) (n i : Nat) : List Bool := (List.range n).map (fun v => decide (P v < i))
theorem knL_len (P : Nat → Nat) (n i : Nat) : (knL P n i).length = n := by simp [knL]
theorem knL_at {P : Nat → Nat} {n i v : Nat} (hv : v < n) : bAt (knL P n i) v = decide (P v < i) := by simp [bAt, knL, hv]
theorem knL_set {P : Nat → Nat} {n i q : Nat} (hq : P q = i) (hu : ∀ v, v < n → P v = i → v = q) : (knL P n i).set q true = knL P n (i + 1) := by
  apply List.ext_getElem?
  intro v
  rw [List.getElem?_set]
  unfold knL
  by_cases hv : v < n
  · by_cases h : q = v
    · subst h
      simp [hv, hq]
    · rw [if_neg h]
      simp [hv]
      have := hu v hv
      by_cases h2 : P v < i
      · simp [h2, show P v < i + 1 by omega]
      · have : ¬ P v < i + 1 := fun h3 => h (this (by omega)).symm
        simp [h2, this]
  · by_cases h : q = v
    · subst h; simp [hv]
    · rw [if_neg h]; simp [hv]
structure NM (w wr : World) (L : List Int) (B : List Bool) : Prop where
  bel : Below w.heap.size w wr
  a : Arr wr w.heap.size L
  b : ArrB wr (w.heap.size + 1) B
section
variable {w wr X : World} {L : List Int} {B : List Bool}
theorem NM.on (h : NM w wr L B) (hb : Below wr.heap.size wr X) : NM w X L B := ⟨below_on h.bel hb, (hb.block _ (lt_of_heap h.a)).trans h.a, (hb.block _ (lt_of_heap h.b)).trans h.b⟩
theorem NM.put (h : NM w wr L B) (i j : Nat) (x : Int) (y : Bool) : NM w ((wr.setCell ⟨w.heap.size, i, none⟩ (.int .i64 x)).setCell ⟨w.heap.size + 1, j, none⟩ (.bool y)) (L.set i x) (B.set j y) := by
  have hc : Chg (fun k => w.heap.size ≤ k) wr ((wr.setCell ⟨w.heap.size, i, none⟩ (.int .i64 x)).setCell ⟨w.heap.size + 1, j, none⟩ (.bool y)) := ((Chg.refl _ wr).setCell (p := ⟨w.heap.size, i, none⟩) (Nat.le_refl _) _).setCell (p := ⟨w.heap.size + 1, j, none⟩) (Nat.le_succ _) _
  refine ⟨Chg.below h.bel hc (fun k hk => hk) h.bel.size, ?_, ?_⟩
  · have := h.a.put i x
    unfold Arr at this ⊢
    rw [Below.heap_setCell _ _ _ _ (by show w.heap.size ≠ w.heap.size + 1; omega)]
    exact this
  · have h2 : ArrB (wr.setCell ⟨w.heap.size, i, none⟩ (.int .i64 x)) (w.heap.size + 1) B := by
      unfold ArrB
      rw [Below.heap_setCell _ _ _ _ (by show w.heap.size + 1 ≠ w.heap.size; omega)]
      exact h.b
    exact h2.put j y
end
theorem knL_zero (P : Nat → Nat) (n : Nat) : knL P n 0 = fls n := by
  unfold knL fls
  apply List.ext_getElem
  · simp
  · intro i h1 h2
    simp
def NumW (w : World) (n : Nat) (P : Nat → Nat) (e : Ending) (w' : World) : Prop :=
  ∃ A, e = .returned (.tuple #[.slice (some ⟨A, 0, none⟩) n n, .bool true]) ∧ Arr w' A (tab n (fun v => (P v : Int))) ∧ Below w.heap.size w w' ∧ w.heap.size ≤ A
set_option maxRecDepth 100000 in
set_option maxHeartbeats 4000000 in
theorem numbers_good (n : Nat) (hn : n ≤ 1048576) (ov : Value) (o : List Int) (P : Nat → Nat) (w : World) (hp : Prm n o P) (ho : RowAt .i64 w ov o) : Calls Try.prog 63 #[.int .i64 n, ov] w (NumW w n P) := by
  obtain ⟨oo, oc, rfl⟩ := ho.shape
  rw [hp.len] at ho ⊢
  have hmi := run_makeI n (by omega)
  have hmb := run_makeB n (by omega)
  have HP := hide hp; have HO := hide ho
  obtain ⟨V, hV⟩ : ∃ V, V = (w.alloc (.cells (madeCells #[.int .i64 0] n) 3)).alloc (.cells (madeCells #[.bool false] n) 4) := ⟨_, rfl⟩
  have HNM : Hid (NM w V (plL P n 0) (knL P n 0)) := by
    have hs : (w.alloc (.cells (madeCells #[.int .i64 0] n) 3)).heap.size = w.heap.size + 1 := by simp
    refine ⟨by rw [hV]; exact below_alloc (below_alloc (Below.refl _ _) _) _, ?_, ?_⟩
    · rw [plL_zero]
      refine arr_new ?_
      rw [hV]
      exact (Below.heap_alloc _ _ _ (by rw [hs]; omega)).trans (heap_new _ _)
    · unfold ArrB
      rw [knL_zero, ← made_bools, hV]
      have := heap_new (w.alloc (.cells (madeCells #[.int .i64 0] n) 3)) (.cells (madeCells #[.bool false] n) 4)
      rw [hs] at this; exact this
  have hnn : ((n : Int) != (n : Int)) = false := by simp
  clear hp ho
  go_enter Try.func63, Try.ntmps63
  go_wp2_with fail
  rw [← hV]
  clear hV hmi hmb hnn
  go_loopw [20, 8, 9] (fun t _ _ wr => ∃ i : Nat, t = .int .i64 (i : Int) ∧ i ≤ n ∧ NM w wr (plL P n i) (knL P n i)) (fun t _ _ _ => n - (RowKit.intOf t).toNat)
  case atStart => exact ⟨0, rfl, Nat.zero_le _, HNM.out⟩
  case round =>
    obtain ⟨i, rfl, hi, hnm⟩ := hrel
    have HN := hide hnm
    clear hnm HNM
    by_cases hlt : i < n
    · obtain ⟨g, o2, c2, he, _, hx⟩ := (HO.out.below HN.out.bel).cellAt i (by rw [HP.out.len]; exact hlt)
      rw [HP.out.len] at he
      simp only [Value.slice.injEq, true_and] at he
      obtain ⟨rfl, rfl⟩ := he
      obtain ⟨q, hq1, hq2, hq3⟩ := HP.out.rng i hlt
      rw [hq1] at hx
      have hu : ∀ v, v < n → P v = i → v = q := fun v' hv' he => by
        have h1 := (HP.out.pos v' hv').2
        rw [he, hq1] at h1
        omega
      have HS1 := hide (plL_set hq3 hu)
      have HS2 := hide (knL_set hq3 hu)
      have yb := HN.out.b.cell q (by rw [knL_len]; exact hq2)
      rw [knL_at hq2, hq3, decide_eq_false (Nat.lt_irrefl i)] at yb
      have yc := HN.out.a.cell q (by unfold plL; rw [tab_length]; exact hq2)
      have yf := HN.out.a.free q
      have yg := HN.out.b.free q
      clear hq1 hq3 hu
      have hii : (i : Int) < (n : Int) := by omega
      have hqi : (q : Int) < (n : Int) := by omega
      have HV := hide (isV_any n q wr)
      rw [show decide (IsV (n : Int) (q : Int)) = true from decide_eq_true ⟨by omega, by omega⟩] at HV
      go_wp2_with (first | (go_at_call 49; refine HV.out.mono ?_; rintro e w9 ⟨rfl, hw9⟩; subst hw9) | fail)
      refine ⟨⟨i + 1, by simp, by omega, ?_⟩, by simp [RowKit.intOf]; omega⟩
      rw [← HS1.out, ← HS2.out]
      exact HN.out.put _ _ _ _
    · obtain rfl : n = i := by omega
      have ha := HN.out.a
      rw [plL_all (fun v hv => (HP.out.pos v hv).1)] at ha
      have HA := hide ha
      clear ha
      go_wp2_with fail
      go_ret2
      exact ⟨w.heap.size, rfl, HA.out, HN.out.bel, Nat.le_refl _⟩
end Go.Proofs.Ytmagigmcbegmiaa

/- graph.Relabel's change of an edge. -/
namespace Go.Proofs.Ytmagigmcbegmiaa
open Go.RowKit Go.Lib Go.Shelf
set_option linter.unusedVariables false
theorem Try.results64 : Try.f64.results = #[.cell 3 50] := by kernel_rfl
set_option maxRecDepth 100000 in
set_option maxHeartbeats 4000000 in
theorem ren_any (n a b Bn A : Nat) (c : Int) (P : Nat → Nat) (w : World) (hn : w.heap[Bn]? = some (.cells #[.slice (some ⟨A, 0, none⟩) n n] 22 (0, 0))) (ha : Arr w A (tab n (fun v => (P v : Int)))) (h1 : a < n) (h2 : b < n) :
    Calls Try.prog 64 #[.agg #[.int .i64 (a : Int), .int .i64 (b : Int), .int .u64 c], .pointer (some ⟨Bn, 0, none⟩)] w fun e w' => e = .returned (.agg #[.int .i64 (P a : Int), .int .i64 (P b : Int), .int .u64 c]) ∧ Below w.heap.size w w' := by
  have hs : (w.alloc (.cells #[.int .i64 (a : Int), .int .i64 (b : Int), .int .u64 c] 50)).heap.size = w.heap.size + 1 := by simp
  obtain ⟨V, hV⟩ : ∃ V, V = (w.alloc (.cells #[.int .i64 (a : Int), .int .i64 (b : Int), .int .u64 c] 50)).alloc (.cells #[.int .i64 0, .int .i64 0, .int .u64 0] 50) := ⟨_, rfl⟩
  have hb : Below w.heap.size w V := by rw [hV]; exact below_alloc (below_alloc (Below.refl _ _) _) _
  have hx : V.heap[w.heap.size]? = some (.cells #[.int .i64 (a : Int), .int .i64 (b : Int), .int .u64 c] 50 (0, 0)) := by rw [hV]; exact (Below.heap_alloc _ _ _ (by rw [hs]; omega)).trans (heap_new _ _)
  have hr : V.heap[w.heap.size + 1]? = some (.cells #[.int .i64 0, .int .i64 0, .int .u64 0] 50 (0, 0)) := by
    have := heap_new (w.alloc (.cells #[.int .i64 (a : Int), .int .i64 (b : Int), .int .u64 c] 50)) (.cells #[.int .i64 0, .int .i64 0, .int .u64 0] 50)
    rw [hs] at this; rw [hV]; exact this
  have q0 := cell_of hx (i := 0) rfl
  have q1 := cell_of hx (i := 1) rfl
  have q2 := cell_of hx (i := 2) rfl
  have p0 : V.cell? ⟨Bn, 0, none⟩ = some (.slice (some ⟨A, 0, none⟩) n n) := cell_of ((hb.block _ (lt_of_heap hn)).trans hn) (i := 0) rfl
  have hA : Arr V A (tab n (fun v => (P v : Int))) := (hb.block _ (lt_of_heap ha)).trans ha
  have e1 := hA.cell a (by rw [tab_length]; exact h1)
  have e2 := hA.cell b (by rw [tab_length]; exact h2)
  rw [tab_at n _ a h1] at e1
  rw [tab_at n _ b h2] at e2
  have r0 := cell_of hr (i := 0) rfl
  have r1 := cell_of hr (i := 1) rfl
  have r2 := cell_of hr (i := 2) rfl
  have f0 := free_of hr 0
  have f1 := free_of hr 1
  have f2 := free_of hr 2
  have HR := hide hr
  have HB := hide hb
  have hai : (a : Int) < (n : Int) := by omega
  have hbi : (b : Int) < (n : Int) := by omega
  clear hx hr hA ha hn hb hs
  go_enter Try.func64, Try.ntmps64
  go_upto_region 1 with fail
  rw [← hV]
  clear hV
  go_region
  all_goals
    have hh : (((V.setCell ⟨w.heap.size + 1, 0, none⟩ (.int .i64 (P a : Int))).setCell ⟨w.heap.size + 1, 1, none⟩ (.int .i64 (P b : Int))).setCell ⟨w.heap.size + 1, 2, none⟩ (.int .u64 c)).drew.heap[w.heap.size + 1]? = some (.cells #[.int .i64 (P a : Int), .int .i64 (P b : Int), .int .u64 c] 50 (0, 0)) := by
      show (((V.setCell ⟨w.heap.size + 1, 0, none⟩ (.int .i64 (P a : Int))).setCell ⟨w.heap.size + 1, 1, none⟩ (.int .i64 (P b : Int))).setCell ⟨w.heap.size + 1, 2, none⟩ (.int .u64 c)).heap[w.heap.size + 1]? = _
      rw [heap_set (heap_set (heap_set HR.out _) _) _]; rfl
    have hbb := below_drew (((HB.out.setCell (p := ⟨w.heap.size + 1, 0, none⟩) (by simp) (.int .i64 (P a : Int))).setCell (p := ⟨w.heap.size + 1, 1, none⟩) (by simp) (.int .i64 (P b : Int))).setCell (p := ⟨w.heap.size + 1, 2, none⟩) (by simp) (.int .u64 c))
    go_wp2
    exact bodyPost_ret (results_cell_row Try.results64 _ _ (w.heap.size + 1) 50 _ (0, 0) _ rfl hh Try.underlying50 rfl (by kernel_rfl)) rfl ⟨rfl, hbb⟩
end Go.Proofs.Ytmagigmcbegmiaa

/- graph.edges with other numbers. -/
namespace Go.Proofs.Ytmagigmcbegmiaa
open Go.RowKit Go.Lib Go.Shelf
set_option linter.unusedVariables false
attribute [local go_sem] Oper.semAt_some
theorem edgesN_any (n' : Nat) (N : Int) (va vb vc : Value) (Bn : Nat) (w : World) : CallsIn Fence.wide n' Try.prog 65 #[gAgg N va vb vc, .func (.func 64) #[] #[.pointer (some ⟨Bn, 0, none⟩)]] w fun e w' => e = .returned (.func (.func 89) #[] #[.pointer (some ⟨w.heap.size, 0, none⟩), .pointer (some ⟨w.heap.size + 1, 0, none⟩)]) ∧ w' = (w.alloc (.cells #[.int .i64 N, va, vb, vc] 25)).alloc (.cells #[.func (.func 64) #[] #[.pointer (some ⟨Bn, 0, none⟩)]] 109) := by
  unfold gAgg
  refine callsIn_of_wp Try.func65 rfl trivial ?_ rfl
  simp only [Try.ntmps65, List.size_toArray, List.length_cons, List.length_nil, Nat.reduceAdd, Nat.reduceSub, Array.replicate_succ, Array.replicate_zero, List.push_toArray, List.append_toArray, List.nil_append, List.cons_append]
  gi_wp2
  go_ret
  exact ⟨rfl, rfl⟩
/-- The e-th edge, with other numbers. -/
def renAt (P : Nat → Nat) (n : Nat) (st tl wt : List Int) (e : Nat) : Int × Int × Int := ((P (src st n e) : Nat), (P (at_ tl e).toNat : Nat), at_ wt e)
set_option maxRecDepth 100000 in
set_option maxHeartbeats 4000000 in
theorem edgesN_gives (T : Nat → Prop) (n : Nat) (va vb vc : Value) (st tl wt : List Int) (Bg Bc Bn A : Nat) (P : Nat → Nat) (w0 w : World) (hg : GIs w0 n va vb vc st tl wt) (hgd : Good n st tl wt) (hb : Below w0.heap.size w0 w)
    (hN : w.heap[Bn]? = some (.cells #[.slice (some ⟨A, 0, none⟩) n n] 22 (0, 0))) (hAr : Arr w A (tab n (fun v => (P v : Int)))) (hTN : ∀ k, T k → k ≠ Bn ∧ k ≠ A) (hT : ∀ k, T k → w0.heap.size ≤ k ∧ k ≠ Bg ∧ k ≠ Bc) (hB : w.heap[Bg]? = some (.cells #[.int .i64 n, va, vb, vc] 25 (0, 0))) (hC : w.heap[Bc]? = some (.cells #[.func (.func 64) #[] #[.pointer (some ⟨Bn, 0, none⟩)]] 109 (0, 0))) :
    Gw T Try.prog 89 #[.pointer (some ⟨Bg, 0, none⟩), .pointer (some ⟨Bc, 0, none⟩)] encE (upto (renAt P n st tl wt) tl.length) w := by
  intro l J W hW hTW hJ hY h0 n'
  have hn := hgd.n_le
  have hml := hgd.m_le
  have hB' := (hW.block _ (lt_of_heap hB)).trans hB
  have hC' := (hW.block _ (lt_of_heap hC)).trans hC
  obtain ⟨Wy, hWy⟩ : ∃ Wy, Wy = W.alloc (.cells #[.func (.yield l) #[] #[]] 128) := ⟨_, rfl⟩
  have bWy : Below W.heap.size W Wy := by rw [hWy]; exact below_alloc (Below.refl _ _) _
  have sWy : Wy.heap.size = W.heap.size + 1 := by rw [hWy]; simp
  have gB : Wy.heap[Bg]? = some (.cells #[.int .i64 n, va, vb, vc] 25 (0, 0)) := (bWy.block _ (lt_of_heap hB')).trans hB'
  have gC : Wy.heap[Bc]? = some (.cells #[.func (.func 64) #[] #[.pointer (some ⟨Bn, 0, none⟩)]] 109 (0, 0)) := (bWy.block _ (lt_of_heap hC')).trans hC'
  have gY : Wy.heap[W.heap.size]? = some (.cells #[.func (.yield l) #[] #[]] 128 (0, 0)) := by rw [hWy]; exact heap_new _ _
  have cB : Wy.cell? ⟨Bg, 0, none⟩ = some (.int .i64 n) := cell_of gB (i := 0) rfl
  have j0 : J [] Wy := hJ _ _ _ none h0 (by rw [hWy]; exact World.grownBy_alloc _ _ _) (fun _ h => by cases h)
  have lowY : Below w0.heap.size w0 Wy := below_on (below_on hb hW) bWy
  have key : ∀ X, Chg T Wy X → X.heap[Bg]? = some (.cells #[.int .i64 n, va, vb, vc] 25 (0, 0)) ∧ X.heap[Bc]? = some (.cells #[.func (.func 64) #[] #[.pointer (some ⟨Bn, 0, none⟩)]] 109 (0, 0)) ∧ X.heap[W.heap.size]? = some (.cells #[.func (.yield l) #[] #[]] 128 (0, 0)) ∧ Below w0.heap.size w0 X := fun X hX =>
    ⟨hX.heap gB (fun h => (hT _ h).2.1 rfl), hX.heap gC (fun h => (hT _ h).2.2 rfl), hX.heap gY (fun h => by have := hTW _ h; omega), Chg.below lowY hX (fun i hi => (hT i hi).1) lowY.size⟩
  have HKN : Hid (∀ X, Chg T Wy X → X.heap[Bn]? = some (.cells #[.slice (some ⟨A, 0, none⟩) n n] 22 (0, 0)) ∧ Arr X A (tab n (fun v => (P v : Int)))) := fun X hX =>
    ⟨hX.heap ((bWy.block _ (by have := lt_of_heap hN; have := hW.size; omega)).trans ((hW.block _ (lt_of_heap hN)).trans hN)) (fun h => (hTN _ h).1 rfl), hX.heap ((bWy.block _ (by have := lt_of_heap hAr; have := hW.size; omega)).trans ((hW.block _ (lt_of_heap hAr)).trans hAr)) (fun h => (hTN _ h).2 rfl)⟩
  have HK := hide key
  have HY := hide hY
  have HJ := hide hJ
  have H0 := hide j0
  have HGD := hide hgd
  have HG := hide hg
  have HT := hide hT
  have HTW := hide hTW
  have HSY := hide sWy
  clear hN hAr hTN key hY hJ h0 j0 hg hB hC hB' hC' gB gC gY hT hTW hb hW bWy lowY sWy hgd
  refine callsIn_of_wp_marks Try.func89 rfl trivial ?_ rfl
  simp only [Try.ntmps89, List.size_toArray, List.length_cons, List.length_nil, Nat.reduceAdd, Nat.reduceSub, Array.replicate_succ, Array.replicate_zero, List.push_toArray, List.append_toArray, List.nil_append, List.cons_append]
  rw [hWy] at cB
  gi_wp2
  rw [← hWy] at *
  clear hWy cB
  refine wpIn_loop (fun a' wr => ∃ (v e : Nat) (ds : List Deferred) (u4 u5 u6 u10 u11 u12 u13 u14 u15 u16 u17 u18 u19 u20 u21 u22 u23 u24 u25 u26 : Value), v ≤ n ∧ at_ st v = (e : Int) ∧ a' = { tmps := #[.func (.yield l) #[] #[], .pointer (some ⟨Bg, 0, none⟩), .pointer (some ⟨Bc, 0, none⟩), .pointer (some ⟨W.heap.size, 0, none⟩), u4, u5, u6, .pointer (some ⟨Bg, 0, none⟩), .int .i64 n, .int .i64 (v : Int), u10, u11, u12, u13, u14, u15, u16, u17, u18, u19, u20, u21, u22, u23, u24, u25, u26], defers := ds } ∧ J (upto (renAt P n st tl wt) e) wr ∧ MarksAt W.heap.size wr ds ∧ Chg T Wy wr) (fun a' _ => n - (RowKit.intOf (a'.tmps.getD 9 undef)).toNat) ?start ?round
  case start =>
    exact ⟨0, 0, [], _, _, _, _, _, _, _, _, _, _, _, _, _, _, _, _, _, _, _, _, Nat.zero_le _, HGD.out.zero, rfl, H0.out, trivial, Chg.refl _ _⟩
  case round =>
    rintro _ wr ⟨v, e, ds, u4, u5, u6, u10, u11, u12, u13, u14, u15, u16, u17, u18, u19, u20, u21, u22, u23, u24, u25, u26, hvn, he, rfl, hj, hmk, hch⟩
    obtain ⟨k1, k2, k3, k4⟩ := HK.out wr hch
    by_cases hlt : v < n
    · have d0 := cellAl (.cells #[.int .i64 (v : Int)] 3) (show wr.cell? ⟨Bg, 0, none⟩ = some (.int .i64 n) from cell_of k1 (i := 0) rfl)
      have d1 := cellAl (.cells #[.int .i64 (v : Int)] 3) (show wr.cell? ⟨Bg, 1, none⟩ = some va from cell_of k1 (i := 1) rfl)
      have d2 := cellAl (.cells #[.int .i64 (v : Int)] 3) (show wr.cell? ⟨Bg, 2, none⟩ = some vb from cell_of k1 (i := 2) rfl)
      have d3 := cellAl (.cells #[.int .i64 (v : Int)] 3) (show wr.cell? ⟨Bg, 3, none⟩ = some vc from cell_of k1 (i := 3) rfl)
      have hvi : (v : Int) < (n : Int) := by omega
      obtain ⟨m, hm⟩ : ∃ m : Nat, at_ st (v + 1) = ((e + m : Nat) : Int) := ⟨(at_ st (v + 1) - e).toNat, by have := HGD.out.step v hlt; omega⟩
      have hme : e + m ≤ tl.length := by have := (HGD.out.range (v + 1) (by omega)).2; omega
      obtain ⟨X, hX⟩ : ∃ X, X = ((wr.alloc (.cells #[.int .i64 (v : Int)] 3)).alloc (.cells #[.int .i64 n, va, vb, vc] 25)).alloc (.cells #[.int .i64 (v : Int)] 3) := ⟨_, rfl⟩
      have bX : Below wr.heap.size wr X := by rw [hX]; exact below_alloc (below_alloc (below_alloc (Below.refl _ _) _) _) _
      have sX : X.heap.size = wr.heap.size + 3 := by rw [hX]; simp
      have x0 : X.heap[wr.heap.size]? = some (.cells #[.int .i64 (v : Int)] 3 (0, 0)) := by rw [hX]; exact (Below.heap_alloc _ _ _ (by simp; omega)).trans ((Below.heap_alloc _ _ _ (by simp)).trans (heap_new _ _))
      have x1 : X.heap[wr.heap.size + 1]? = some (.cells #[.int .i64 n, va, vb, vc] 25 (0, 0)) := by
        have := heap_new (wr.alloc (.cells #[.int .i64 (v : Int)] 3)) (.cells #[.int .i64 n, va, vb, vc] 25)
        rw [World.size_alloc] at this
        rw [hX]; exact (Below.heap_alloc _ _ _ (by simp)).trans this
      have x2 : X.heap[wr.heap.size + 1 + 1]? = some (.cells #[.int .i64 (v : Int)] 3 (0, 0)) := by
        have := heap_new ((wr.alloc (.cells #[.int .i64 (v : Int)] 3)).alloc (.cells #[.int .i64 n, va, vb, vc] 25)) (.cells #[.int .i64 (v : Int)] 3)
        rw [World.size_alloc, World.size_alloc] at this
        rw [hX]; exact this
      have cX : Chg T Wy X := hch.trans (Chg.of_below bX)
      have jX : J (upto (renAt P n st tl wt) e) X := HJ.out _ _ _ none hj ⟨bX.os, bX.tape, bX.output, bX.size, fun k hk _ => bX.block k hk⟩ (fun _ h => by cases h)
      have mX : MarksAt W.heap.size X ds := hmk.kept fun D _ _ h => (bX.block _ (lt_of_heap h)).trans h
      have wWr : W.heap.size + 1 ≤ wr.heap.size := by have := hch.size; have := HSY.out; omega
      have hTX : ∀ k, T k → k < W.heap.size := HTW.out
      have hgiv := row1_gives T n va vb vc st tl wt v e m (wr.heap.size + 1) (wr.heap.size + 1 + 1) w0 X HG.out HGD.out hlt he hm hme (below_on k4 bX) (fun k hk => ⟨(HT.out k hk).1, by have := hTX k hk; omega, by have := hTX k hk; omega⟩) x1 x2
      have HGV := hide hgiv
      have HX := hide hX
      have HJX := hide jX
      have HMX := hide mX
      have HCX := hide cX
      have HSX := hide sX
      have HX0 := hide x0
      have HBX := hide bX
      clear hgiv bX sX x0 x1 x2 cX jX mX hj hmk hch k1 k2 k3 k4 H0 hTX
      gi_wp2_with (refine ⟨trivial, (fun h => by simp [Fence.wide] at h), ?_⟩; refine (row_any _ n va vb vc v _).mono ?_; rintro e9 w9 ⟨rfl, rfl⟩)
      rw [← hX]
      clear hX d0 d1 d2 d3
      refine rfw_law (T := T) (gf := 84) (lb := #[.pointer (some ⟨wr.heap.size + 1, 0, none⟩), .pointer (some ⟨wr.heap.size + 1 + 1, 0, none⟩)]) rfl (enters_of Try.func84 (by kernel_rfl) rfl) HGV.out.wide (Below.refl _ _) (fun k hk => by have := HTW.out k hk; have := HSX.out; omega) (fun _ => rfl)
        (fun pre Z => J (upto (renAt P n st tl wt) (e + pre.length)) Z ∧ Chg T X Z)
        (fun pre A B row hs hgr hr => ⟨HJ.out _ _ _ row hs.1 hgr (fun r h => ⟨by have := (hr r h).1; have := HSX.out; omega, (hr r h).2⟩), hs.2.grown hgr fun k hk => .inr (hr k hk).1⟩)
        ⟨HJX.out, Chg.refl _ _⟩
        (fun x a' _ => a' = { tmps := #[.func (.yield l) #[] #[], .pointer (some ⟨Bg, 0, none⟩), .pointer (some ⟨Bc, 0, none⟩), .pointer (some ⟨W.heap.size, 0, none⟩), .pointer (some ⟨wr.heap.size, 0, none⟩), .int .i64 x.1, .int .u64 x.2, .pointer (some ⟨Bg, 0, none⟩), .int .i64 n, .int .i64 (v : Int), .bool true, .int .i64 (v : Int), .agg #[.int .i64 n, va, vb, vc], .int .i64 (v : Int), .func (.func 84) #[] #[.pointer (some ⟨wr.heap.size + 1, 0, none⟩), .pointer (some ⟨wr.heap.size + 1 + 1, 0, none⟩)], .int .i64 x.1, .int .u64 x.2, u17, u18, u19, u20, u21, u22, u23, u24, u25, u26], defers := [] }) (fun _ _ _ _ _ _ hs _ _ => hs) ?assign ?body ?done
      case assign =>
        rintro l2 pre x Z K hi hK
        dsimp only [encR]
        gi_wp2
        exact hK _ _ (Chg.refl _ _) hi rfl
      case body =>
        rintro l2 pre x a' Z ⟨hj, hc⟩ rfl hp
        obtain ⟨hpl, hpe, hxe⟩ := upto_at hp
        have hs : src st n (e + pre.length) = v := by
          exact src_eq HGD.out hlt (by rw [he]; omega) (by rw [hm]; omega)
        have hxx : renAt P n st tl wt (e + pre.length) = ((P v : Int), (P x.1.toNat : Int), x.2) := by unfold renAt; rw [hs, hxe]; rfl
        obtain ⟨t, ht, htn⟩ : ∃ t : Nat, x.1 = (t : Int) ∧ t < n := by
          have h3 := HGD.out.vtx (e + pre.length) (by omega)
          exact ⟨(at_ tl (e + pre.length)).toNat, by rw [hxe]; show at_ tl (e + pre.length) = _; omega, by omega⟩
        have hcZ : Chg T Wy Z := HCX.out.trans hc
        obtain ⟨k1, k2, k3, k4⟩ := HK.out Z hcZ
        have HNN : Hid (Z.drew.heap[Bn]? = some (.cells #[.slice (some ⟨A, 0, none⟩) n n] 22 (0, 0)) ∧ Arr Z.drew A (tab n (fun v => (P v : Int)))) := HKN.out Z hcZ
        have HLT := hide hlt
        have k5 : Z.heap[wr.heap.size]? = some (.cells #[.int .i64 (v : Int)] 3 (0, 0)) := hc.heap HX0.out (fun h => by have := HTW.out _ h; omega)
        have HYY : Hid (∀ X1, Below Z.drew.heap.size Z.drew X1 → YieldAt Fence.wide 0 Try.prog l #[.agg #[.int .i64 (P v : Int), .int .i64 (P x.1.toNat : Int), .int .u64 x.2]] X1 (fun e' W' => e' = .returned (.bool true) ∧ J (upto (renAt P n st tl wt) (e + (pre.length + 1))) W' ∧ Chg T X1 W')) := fun X1 hb1 => by
          have h1 := HY.out (upto (renAt P n st tl wt) (e + pre.length)) (renAt P n st tl wt (e + pre.length)) X1 (HJ.out _ _ _ none hj ⟨hb1.os, hb1.tape, hb1.output, hb1.size, fun k hk _ => hb1.block k hk⟩ (fun _ h => by cases h)) (by rw [← upto_succ]; exact upto_pre _ (by omega))
          rw [← upto_succ, hxx] at h1
          rw [← Nat.add_assoc]
          exact h1
        have HC := hide hc
        have cy : Z.cell? ⟨W.heap.size, 0, none⟩ = some (.func (.yield l) #[] #[]) := cell_of k3 (i := 0) rfl
        have cc : Z.cell? ⟨Bc, 0, none⟩ = some (.func (.func 64) #[] #[.pointer (some ⟨Bn, 0, none⟩)]) := cell_of k2 (i := 0) rfl
        have cv : Z.cell? ⟨wr.heap.size, 0, none⟩ = some (.int .i64 (v : Int)) := cell_of k5 (i := 0) rfl
        have HCL : Hid (∀ X1, Below Z.drew.heap.size Z.drew X1 → X1.cell? ⟨W.heap.size, 0, none⟩ = some (.func (.yield l) #[] #[]) ∧ Chg T Z X1) := fun X1 hb1 => ⟨(below_cell hb1 (block_of_cell cy)).trans cy, ((Chg.refl T Z).drew).trans (Chg.of_below hb1)⟩
        obtain ⟨x0, x2⟩ := x
        simp only at HYY ht ⊢
        subst ht
        rw [Int.toNat_natCast] at HYY
        have hmix : Try.prog.follows .mixedOrders = true := by kernel_rfl
        clear hj hc hcZ k1 k2 k3 k4 k5 hs hxx hpl hpe hxe hp HK HY HJ HGD HG HT HTW HSY HGV HX HJX HMX HCX HX0 HBX he hm hme
        gi_wp2
        refine wpIn_region_any hmix (any_in l2 ?nd _ _ _ _ ?main)
        case nd =>
          intro i o h c
          rcases i with _ | _ | _ | _ | _ | _ | _ | _ | _ | i <;> simp at h <;> (subst h) <;> simp
        show wpAnyIn _ _ _ _ _ _ 9 #[false, false, false, false, false, false, false, false, false] _ Z.drew
        refine wpAnyIn_take (i := 3) (v := .int .i64 (t : Int)) rfl rfl (by kernel_rfl) (by kernel_rfl) (by kernel_rfl) (fun _ _ _ h => h) ⟨Or.inl ⟨by rfl, ?_⟩, fun _ => rfl⟩ ?_
        · intro w; go_simp; try rfl
        refine wpAnyIn_take (i := 4) (v := .int .u64 x2) rfl rfl (by kernel_rfl) (by kernel_rfl) (by kernel_rfl) (fun _ _ _ h => h) ⟨Or.inl ⟨by rfl, ?_⟩, fun _ => rfl⟩ ?_
        · intro w; go_simp; try rfl
        refine wpAnyIn_ready (rs := [0, 1, 2]) (by kernel_rfl) (by simp) ?_
        refine AllReadyIn.cons rfl (fun K hK => ?_) ?_
        · go_simp
          refine hK _ _ ?_
          clear hK K
          refine wpAnyIn_ready (rs := [1, 2]) (by kernel_rfl) (by simp) ?_
          refine AllReadyIn.cons rfl (fun K hK => ?_) ?_
          · go_simp
            refine hK _ _ ?_
            clear hK K
            refine wpAnyIn_ready (rs := [2]) (by kernel_rfl) (by simp) ?_
            refine AllReadyIn.cons rfl (fun K hK => ?_) ?_
            · go_simp
              refine hK _ _ ?_
              clear hK K
              refine wpAnyIn_take (i := 5) (v := .agg #[.int .i64 (v : Int), .int .i64 (t : Int), .int .u64 x2]) rfl rfl (by kernel_rfl) (by kernel_rfl) (by kernel_rfl) (fun _ _ _ h => h) ⟨Or.inl ⟨by rfl, ?_⟩, fun _ => rfl⟩ ?_
              · intro w; go_simp; try rfl
              refine wpAnyIn_ready (rs := [6]) (by kernel_rfl) (by simp) ?_
              refine AllReadyIn.cons rfl (fun K hK => ?_) ?_
              · go_simp
                (with_reducible refine And.intro ?_ (And.intro ?_ ?_)); exact trivial; (first | rfl | (intro h; simp [Fence.wide] at h)); refine (callsIn_wide.2 (ren_any n v t Bn A x2 P _ HNN.out.1 HNN.out.2 HLT.out htn)).mono ?_; rintro e9 X1 ⟨rfl, hb1⟩; obtain ⟨cy1, hcc1⟩ := HCL.out X1 hb1; obtain ⟨fn, tmps, assign, body, hy, hR⟩ := HYY.out X1 hb1; have HR := hide hR; have HC1 := hide hcc1; clear hR hcc1 hb1; try dsimp only
                refine hK _ _ ?_
                clear hK K
                refine wpAnyIn_ready (rs := [7]) (by kernel_rfl) (by simp) ?_
                refine AllReadyIn.cons rfl (fun K hK => ?_) ?_
                · go_simp
                  (with_reducible refine And.intro ?_ ?_); (first | rfl | (intro h; simp [Fence.wide] at h)); refine (round_any HR.out _).mono ?_; rintro e9 X2 ⟨rfl, hj2, hc2⟩; have HJ2 := hide hj2; have HC2 := hide hc2; clear hj2 hc2 hy HR; try dsimp only
                  refine hK _ _ ?_
                  clear hK K
                  refine wpAnyIn_take (i := 8) (v := .bool false) rfl rfl (by kernel_rfl) (by kernel_rfl) (by kernel_rfl) (fun _ _ _ h => h) ⟨Or.inl ⟨by rfl, ?_⟩, fun _ => rfl⟩ ?_
                  · intro w; go_simp; try rfl
                  refine wpAnyIn_done (by kernel_rfl) ?_ _
                  (gi_wp2; first | exact ⟨rfl, HC1.out.trans HC2.out, HJ2.out, HC.out.trans (HC1.out.trans HC2.out)⟩ | exact ⟨HC1.out.trans HC2.out, HJ2.out, HC.out.trans (HC1.out.trans HC2.out)⟩)
                exact AllReadyIn.nil
              exact AllReadyIn.nil
            exact AllReadyIn.nil
          refine AllReadyIn.cons rfl (fun K hK => ?_) ?_
          · go_simp
            refine hK _ _ ?_
            clear hK K
            refine wpAnyIn_take (i := 5) (v := .agg #[.int .i64 (v : Int), .int .i64 (t : Int), .int .u64 x2]) rfl rfl (by kernel_rfl) (by kernel_rfl) (by kernel_rfl) (fun _ _ _ h => h) ⟨Or.inl ⟨by rfl, ?_⟩, fun _ => rfl⟩ ?_
            · intro w; go_simp; try rfl
            refine wpAnyIn_ready (rs := [1]) (by kernel_rfl) (by simp) ?_
            refine AllReadyIn.cons rfl (fun K hK => ?_) ?_
            · go_simp
              refine hK _ _ ?_
              clear hK K
              refine wpAnyIn_ready (rs := [6]) (by kernel_rfl) (by simp) ?_
              refine AllReadyIn.cons rfl (fun K hK => ?_) ?_
              · go_simp
                (with_reducible refine And.intro ?_ (And.intro ?_ ?_)); exact trivial; (first | rfl | (intro h; simp [Fence.wide] at h)); refine (callsIn_wide.2 (ren_any n v t Bn A x2 P _ HNN.out.1 HNN.out.2 HLT.out htn)).mono ?_; rintro e9 X1 ⟨rfl, hb1⟩; obtain ⟨cy1, hcc1⟩ := HCL.out X1 hb1; obtain ⟨fn, tmps, assign, body, hy, hR⟩ := HYY.out X1 hb1; have HR := hide hR; have HC1 := hide hcc1; clear hR hcc1 hb1; try dsimp only
                refine hK _ _ ?_
                clear hK K
                refine wpAnyIn_ready (rs := [7]) (by kernel_rfl) (by simp) ?_
                refine AllReadyIn.cons rfl (fun K hK => ?_) ?_
                · go_simp
                  (with_reducible refine And.intro ?_ ?_); (first | rfl | (intro h; simp [Fence.wide] at h)); refine (round_any HR.out _).mono ?_; rintro e9 X2 ⟨rfl, hj2, hc2⟩; have HJ2 := hide hj2; have HC2 := hide hc2; clear hj2 hc2 hy HR; try dsimp only
                  refine hK _ _ ?_
                  clear hK K
                  refine wpAnyIn_take (i := 8) (v := .bool false) rfl rfl (by kernel_rfl) (by kernel_rfl) (by kernel_rfl) (fun _ _ _ h => h) ⟨Or.inl ⟨by rfl, ?_⟩, fun _ => rfl⟩ ?_
                  · intro w; go_simp; try rfl
                  refine wpAnyIn_done (by kernel_rfl) ?_ _
                  (gi_wp2; first | exact ⟨rfl, HC1.out.trans HC2.out, HJ2.out, HC.out.trans (HC1.out.trans HC2.out)⟩ | exact ⟨HC1.out.trans HC2.out, HJ2.out, HC.out.trans (HC1.out.trans HC2.out)⟩)
                exact AllReadyIn.nil
              exact AllReadyIn.nil
            exact AllReadyIn.nil
          exact AllReadyIn.nil
        refine AllReadyIn.cons rfl (fun K hK => ?_) ?_
        · go_simp
          refine hK _ _ ?_
          clear hK K
          refine wpAnyIn_ready (rs := [0, 2]) (by kernel_rfl) (by simp) ?_
          refine AllReadyIn.cons rfl (fun K hK => ?_) ?_
          · go_simp
            refine hK _ _ ?_
            clear hK K
            refine wpAnyIn_ready (rs := [2]) (by kernel_rfl) (by simp) ?_
            refine AllReadyIn.cons rfl (fun K hK => ?_) ?_
            · go_simp
              refine hK _ _ ?_
              clear hK K
              refine wpAnyIn_take (i := 5) (v := .agg #[.int .i64 (v : Int), .int .i64 (t : Int), .int .u64 x2]) rfl rfl (by kernel_rfl) (by kernel_rfl) (by kernel_rfl) (fun _ _ _ h => h) ⟨Or.inl ⟨by rfl, ?_⟩, fun _ => rfl⟩ ?_
              · intro w; go_simp; try rfl
              refine wpAnyIn_ready (rs := [6]) (by kernel_rfl) (by simp) ?_
              refine AllReadyIn.cons rfl (fun K hK => ?_) ?_
              · go_simp
                (with_reducible refine And.intro ?_ (And.intro ?_ ?_)); exact trivial; (first | rfl | (intro h; simp [Fence.wide] at h)); refine (callsIn_wide.2 (ren_any n v t Bn A x2 P _ HNN.out.1 HNN.out.2 HLT.out htn)).mono ?_; rintro e9 X1 ⟨rfl, hb1⟩; obtain ⟨cy1, hcc1⟩ := HCL.out X1 hb1; obtain ⟨fn, tmps, assign, body, hy, hR⟩ := HYY.out X1 hb1; have HR := hide hR; have HC1 := hide hcc1; clear hR hcc1 hb1; try dsimp only
                refine hK _ _ ?_
                clear hK K
                refine wpAnyIn_ready (rs := [7]) (by kernel_rfl) (by simp) ?_
                refine AllReadyIn.cons rfl (fun K hK => ?_) ?_
                · go_simp
                  (with_reducible refine And.intro ?_ ?_); (first | rfl | (intro h; simp [Fence.wide] at h)); refine (round_any HR.out _).mono ?_; rintro e9 X2 ⟨rfl, hj2, hc2⟩; have HJ2 := hide hj2; have HC2 := hide hc2; clear hj2 hc2 hy HR; try dsimp only
                  refine hK _ _ ?_
                  clear hK K
                  refine wpAnyIn_take (i := 8) (v := .bool false) rfl rfl (by kernel_rfl) (by kernel_rfl) (by kernel_rfl) (fun _ _ _ h => h) ⟨Or.inl ⟨by rfl, ?_⟩, fun _ => rfl⟩ ?_
                  · intro w; go_simp; try rfl
                  refine wpAnyIn_done (by kernel_rfl) ?_ _
                  (gi_wp2; first | exact ⟨rfl, HC1.out.trans HC2.out, HJ2.out, HC.out.trans (HC1.out.trans HC2.out)⟩ | exact ⟨HC1.out.trans HC2.out, HJ2.out, HC.out.trans (HC1.out.trans HC2.out)⟩)
                exact AllReadyIn.nil
              exact AllReadyIn.nil
            exact AllReadyIn.nil
          refine AllReadyIn.cons rfl (fun K hK => ?_) ?_
          · go_simp
            refine hK _ _ ?_
            clear hK K
            refine wpAnyIn_take (i := 5) (v := .agg #[.int .i64 (v : Int), .int .i64 (t : Int), .int .u64 x2]) rfl rfl (by kernel_rfl) (by kernel_rfl) (by kernel_rfl) (fun _ _ _ h => h) ⟨Or.inl ⟨by rfl, ?_⟩, fun _ => rfl⟩ ?_
            · intro w; go_simp; try rfl
            refine wpAnyIn_ready (rs := [0, 6]) (by kernel_rfl) (by simp) ?_
            refine AllReadyIn.cons rfl (fun K hK => ?_) ?_
            · go_simp
              refine hK _ _ ?_
              clear hK K
              refine wpAnyIn_ready (rs := [6]) (by kernel_rfl) (by simp) ?_
              refine AllReadyIn.cons rfl (fun K hK => ?_) ?_
              · go_simp
                (with_reducible refine And.intro ?_ (And.intro ?_ ?_)); exact trivial; (first | rfl | (intro h; simp [Fence.wide] at h)); refine (callsIn_wide.2 (ren_any n v t Bn A x2 P _ HNN.out.1 HNN.out.2 HLT.out htn)).mono ?_; rintro e9 X1 ⟨rfl, hb1⟩; obtain ⟨cy1, hcc1⟩ := HCL.out X1 hb1; obtain ⟨fn, tmps, assign, body, hy, hR⟩ := HYY.out X1 hb1; have HR := hide hR; have HC1 := hide hcc1; clear hR hcc1 hb1; try dsimp only
                refine hK _ _ ?_
                clear hK K
                refine wpAnyIn_ready (rs := [7]) (by kernel_rfl) (by simp) ?_
                refine AllReadyIn.cons rfl (fun K hK => ?_) ?_
                · go_simp
                  (with_reducible refine And.intro ?_ ?_); (first | rfl | (intro h; simp [Fence.wide] at h)); refine (round_any HR.out _).mono ?_; rintro e9 X2 ⟨rfl, hj2, hc2⟩; have HJ2 := hide hj2; have HC2 := hide hc2; clear hj2 hc2 hy HR; try dsimp only
                  refine hK _ _ ?_
                  clear hK K
                  refine wpAnyIn_take (i := 8) (v := .bool false) rfl rfl (by kernel_rfl) (by kernel_rfl) (by kernel_rfl) (fun _ _ _ h => h) ⟨Or.inl ⟨by rfl, ?_⟩, fun _ => rfl⟩ ?_
                  · intro w; go_simp; try rfl
                  refine wpAnyIn_done (by kernel_rfl) ?_ _
                  (gi_wp2; first | exact ⟨rfl, HC1.out.trans HC2.out, HJ2.out, HC.out.trans (HC1.out.trans HC2.out)⟩ | exact ⟨HC1.out.trans HC2.out, HJ2.out, HC.out.trans (HC1.out.trans HC2.out)⟩)
                exact AllReadyIn.nil
              exact AllReadyIn.nil
            refine AllReadyIn.cons rfl (fun K hK => ?_) ?_
            · go_simp
              (with_reducible refine And.intro ?_ (And.intro ?_ ?_)); exact trivial; (first | rfl | (intro h; simp [Fence.wide] at h)); refine (callsIn_wide.2 (ren_any n v t Bn A x2 P _ HNN.out.1 HNN.out.2 HLT.out htn)).mono ?_; rintro e9 X1 ⟨rfl, hb1⟩; obtain ⟨cy1, hcc1⟩ := HCL.out X1 hb1; obtain ⟨fn, tmps, assign, body, hy, hR⟩ := HYY.out X1 hb1; have HR := hide hR; have HC1 := hide hcc1; clear hR hcc1 hb1; try dsimp only
              refine hK _ _ ?_
              clear hK K
              refine wpAnyIn_ready (rs := [0]) (by kernel_rfl) (by simp) ?_
              refine AllReadyIn.cons rfl (fun K hK => ?_) ?_
              · go_simp
                refine hK _ _ ?_
                clear hK K
                refine wpAnyIn_ready (rs := [7]) (by kernel_rfl) (by simp) ?_
                refine AllReadyIn.cons rfl (fun K hK => ?_) ?_
                · go_simp
                  (with_reducible refine And.intro ?_ ?_); (first | rfl | (intro h; simp [Fence.wide] at h)); refine (round_any HR.out _).mono ?_; rintro e9 X2 ⟨rfl, hj2, hc2⟩; have HJ2 := hide hj2; have HC2 := hide hc2; clear hj2 hc2 hy HR; try dsimp only
                  refine hK _ _ ?_
                  clear hK K
                  refine wpAnyIn_take (i := 8) (v := .bool false) rfl rfl (by kernel_rfl) (by kernel_rfl) (by kernel_rfl) (fun _ _ _ h => h) ⟨Or.inl ⟨by rfl, ?_⟩, fun _ => rfl⟩ ?_
                  · intro w; go_simp; try rfl
                  refine wpAnyIn_done (by kernel_rfl) ?_ _
                  (gi_wp2; first | exact ⟨rfl, HC1.out.trans HC2.out, HJ2.out, HC.out.trans (HC1.out.trans HC2.out)⟩ | exact ⟨HC1.out.trans HC2.out, HJ2.out, HC.out.trans (HC1.out.trans HC2.out)⟩)
                exact AllReadyIn.nil
              exact AllReadyIn.nil
            exact AllReadyIn.nil
          exact AllReadyIn.nil
        refine AllReadyIn.cons rfl (fun K hK => ?_) ?_
        · go_simp
          refine hK _ _ ?_
          clear hK K
          refine wpAnyIn_take (i := 5) (v := .agg #[.int .i64 (v : Int), .int .i64 (t : Int), .int .u64 x2]) rfl rfl (by kernel_rfl) (by kernel_rfl) (by kernel_rfl) (fun _ _ _ h => h) ⟨Or.inl ⟨by rfl, ?_⟩, fun _ => rfl⟩ ?_
          · intro w; go_simp; try rfl
          refine wpAnyIn_ready (rs := [0, 1]) (by kernel_rfl) (by simp) ?_
          refine AllReadyIn.cons rfl (fun K hK => ?_) ?_
          · go_simp
            refine hK _ _ ?_
            clear hK K
            refine wpAnyIn_ready (rs := [1]) (by kernel_rfl) (by simp) ?_
            refine AllReadyIn.cons rfl (fun K hK => ?_) ?_
            · go_simp
              refine hK _ _ ?_
              clear hK K
              refine wpAnyIn_ready (rs := [6]) (by kernel_rfl) (by simp) ?_
              refine AllReadyIn.cons rfl (fun K hK => ?_) ?_
              · go_simp
                (with_reducible refine And.intro ?_ (And.intro ?_ ?_)); exact trivial; (first | rfl | (intro h; simp [Fence.wide] at h)); refine (callsIn_wide.2 (ren_any n v t Bn A x2 P _ HNN.out.1 HNN.out.2 HLT.out htn)).mono ?_; rintro e9 X1 ⟨rfl, hb1⟩; obtain ⟨cy1, hcc1⟩ := HCL.out X1 hb1; obtain ⟨fn, tmps, assign, body, hy, hR⟩ := HYY.out X1 hb1; have HR := hide hR; have HC1 := hide hcc1; clear hR hcc1 hb1; try dsimp only
                refine hK _ _ ?_
                clear hK K
                refine wpAnyIn_ready (rs := [7]) (by kernel_rfl) (by simp) ?_
                refine AllReadyIn.cons rfl (fun K hK => ?_) ?_
                · go_simp
                  (with_reducible refine And.intro ?_ ?_); (first | rfl | (intro h; simp [Fence.wide] at h)); refine (round_any HR.out _).mono ?_; rintro e9 X2 ⟨rfl, hj2, hc2⟩; have HJ2 := hide hj2; have HC2 := hide hc2; clear hj2 hc2 hy HR; try dsimp only
                  refine hK _ _ ?_
                  clear hK K
                  refine wpAnyIn_take (i := 8) (v := .bool false) rfl rfl (by kernel_rfl) (by kernel_rfl) (by kernel_rfl) (fun _ _ _ h => h) ⟨Or.inl ⟨by rfl, ?_⟩, fun _ => rfl⟩ ?_
                  · intro w; go_simp; try rfl
                  refine wpAnyIn_done (by kernel_rfl) ?_ _
                  (gi_wp2; first | exact ⟨rfl, HC1.out.trans HC2.out, HJ2.out, HC.out.trans (HC1.out.trans HC2.out)⟩ | exact ⟨HC1.out.trans HC2.out, HJ2.out, HC.out.trans (HC1.out.trans HC2.out)⟩)
                exact AllReadyIn.nil
              exact AllReadyIn.nil
            exact AllReadyIn.nil
          refine AllReadyIn.cons rfl (fun K hK => ?_) ?_
          · go_simp
            refine hK _ _ ?_
            clear hK K
            refine wpAnyIn_ready (rs := [0, 6]) (by kernel_rfl) (by simp) ?_
            refine AllReadyIn.cons rfl (fun K hK => ?_) ?_
            · go_simp
              refine hK _ _ ?_
              clear hK K
              refine wpAnyIn_ready (rs := [6]) (by kernel_rfl) (by simp) ?_
              refine AllReadyIn.cons rfl (fun K hK => ?_) ?_
              · go_simp
                (with_reducible refine And.intro ?_ (And.intro ?_ ?_)); exact trivial; (first | rfl | (intro h; simp [Fence.wide] at h)); refine (callsIn_wide.2 (ren_any n v t Bn A x2 P _ HNN.out.1 HNN.out.2 HLT.out htn)).mono ?_; rintro e9 X1 ⟨rfl, hb1⟩; obtain ⟨cy1, hcc1⟩ := HCL.out X1 hb1; obtain ⟨fn, tmps, assign, body, hy, hR⟩ := HYY.out X1 hb1; have HR := hide hR; have HC1 := hide hcc1; clear hR hcc1 hb1; try dsimp only
                refine hK _ _ ?_
                clear hK K
                refine wpAnyIn_ready (rs := [7]) (by kernel_rfl) (by simp) ?_
                refine AllReadyIn.cons rfl (fun K hK => ?_) ?_
                · go_simp
                  (with_reducible refine And.intro ?_ ?_); (first | rfl | (intro h; simp [Fence.wide] at h)); refine (round_any HR.out _).mono ?_; rintro e9 X2 ⟨rfl, hj2, hc2⟩; have HJ2 := hide hj2; have HC2 := hide hc2; clear hj2 hc2 hy HR; try dsimp only
                  refine hK _ _ ?_
                  clear hK K
                  refine wpAnyIn_take (i := 8) (v := .bool false) rfl rfl (by kernel_rfl) (by kernel_rfl) (by kernel_rfl) (fun _ _ _ h => h) ⟨Or.inl ⟨by rfl, ?_⟩, fun _ => rfl⟩ ?_
                  · intro w; go_simp; try rfl
                  refine wpAnyIn_done (by kernel_rfl) ?_ _
                  (gi_wp2; first | exact ⟨rfl, HC1.out.trans HC2.out, HJ2.out, HC.out.trans (HC1.out.trans HC2.out)⟩ | exact ⟨HC1.out.trans HC2.out, HJ2.out, HC.out.trans (HC1.out.trans HC2.out)⟩)
                exact AllReadyIn.nil
              exact AllReadyIn.nil
            refine AllReadyIn.cons rfl (fun K hK => ?_) ?_
            · go_simp
              (with_reducible refine And.intro ?_ (And.intro ?_ ?_)); exact trivial; (first | rfl | (intro h; simp [Fence.wide] at h)); refine (callsIn_wide.2 (ren_any n v t Bn A x2 P _ HNN.out.1 HNN.out.2 HLT.out htn)).mono ?_; rintro e9 X1 ⟨rfl, hb1⟩; obtain ⟨cy1, hcc1⟩ := HCL.out X1 hb1; obtain ⟨fn, tmps, assign, body, hy, hR⟩ := HYY.out X1 hb1; have HR := hide hR; have HC1 := hide hcc1; clear hR hcc1 hb1; try dsimp only
              refine hK _ _ ?_
              clear hK K
              refine wpAnyIn_ready (rs := [0]) (by kernel_rfl) (by simp) ?_
              refine AllReadyIn.cons rfl (fun K hK => ?_) ?_
              · go_simp
                refine hK _ _ ?_
                clear hK K
                refine wpAnyIn_ready (rs := [7]) (by kernel_rfl) (by simp) ?_
                refine AllReadyIn.cons rfl (fun K hK => ?_) ?_
                · go_simp
                  (with_reducible refine And.intro ?_ ?_); (first | rfl | (intro h; simp [Fence.wide] at h)); refine (round_any HR.out _).mono ?_; rintro e9 X2 ⟨rfl, hj2, hc2⟩; have HJ2 := hide hj2; have HC2 := hide hc2; clear hj2 hc2 hy HR; try dsimp only
                  refine hK _ _ ?_
                  clear hK K
                  refine wpAnyIn_take (i := 8) (v := .bool false) rfl rfl (by kernel_rfl) (by kernel_rfl) (by kernel_rfl) (fun _ _ _ h => h) ⟨Or.inl ⟨by rfl, ?_⟩, fun _ => rfl⟩ ?_
                  · intro w; go_simp; try rfl
                  refine wpAnyIn_done (by kernel_rfl) ?_ _
                  (gi_wp2; first | exact ⟨rfl, HC1.out.trans HC2.out, HJ2.out, HC.out.trans (HC1.out.trans HC2.out)⟩ | exact ⟨HC1.out.trans HC2.out, HJ2.out, HC.out.trans (HC1.out.trans HC2.out)⟩)
                exact AllReadyIn.nil
              exact AllReadyIn.nil
            exact AllReadyIn.nil
          exact AllReadyIn.nil
        exact AllReadyIn.nil
      case done =>
        rintro D Z hD ⟨hj, hc⟩ hK
        rw [upto_len] at hj
        have hW0 : W.heap.size ≤ D := by have := HSX.out; omega
        have hmk2 : MarksAt W.heap.size Z ({ target := .collected D, args := #[] } :: ds) := by
          refine ⟨⟨D, rfl, hW0, hK, fun D' hD' => ?_⟩, HMX.out.kept fun D' hb' hm' hw' => hc.heap hw' (fun h => by have := HTW.out _ h; omega)⟩
          have := HMX.out.lt D' hD'
          omega
        have HJ9 := hide hj
        have HM9 := hide hmk2
        have HC9 := hide (HCX.out.trans hc)
        clear hj hc hK hmk2
        gi_wp2
        exact ⟨⟨v + 1, e + m, _, _, _, _, _, _, _, _, _, _, _, _, _, _, _, _, _, _, _, _, _, by omega, hm, rfl, HJ9.out, HM9.out, HC9.out⟩, by simp [RowKit.intOf]; omega⟩
    · obtain rfl : v = n := by omega
      have hem : e = tl.length := by have := HGD.out.last; omega
      subst hem
      have HJ9 := hide hj
      have HM9 := hide hmk
      clear hj hmk hch k1 k2 k3 k4
      gi_wp2
      exact leave_marks HJ.out (by kernel_rfl) _ _ HM9.out HJ9.out
end Go.Proofs.Ytmagigmcbegmiaa

/- graph.Relabel of a graph, by an order of its vertices. -/
namespace Go.Proofs.Ytmagigmcbegmiaa
open Go.RowKit Go.Lib
set_option linter.unusedVariables false
theorem Try.results32 : Try.f32.results = #[.cell 4 25, .tmp 5] := by kernel_rfl
def rF (P : Nat → Nat) (n : Nat) (st : List Int) (e : Nat) : Nat := P (src st n e)
def rT (P : Nat → Nat) (tl : List Int) (e : Nat) : Nat := P (tov tl e)
def RelW (w : World) (n : Nat) (P : Nat → Nat) (st tl wt : List Int) (e : Ending) (w' : World) : Prop :=
  ∃ va vb vc st' tl' wt' nx, e = .returned (.tuple #[gAgg n va vb vc, .int .i64 0]) ∧ GIs w' n va vb vc st' tl' wt' ∧ Summed n tl.length (rF P n st) n st' ∧ Laying n tl.length (rF P n st) (rT P tl) (fun e => at_ wt e) tl.length nx tl' wt' ∧ Below w.heap.size w w'
theorem ren_seq (n : Nat) (va vb vc : Value) (st tl wt : List Int) (P : Nat → Nat) (Bn A : Nat) (w0 x x' : World) (hg : GIs w0 n va vb vc st tl wt) (hgd : Good n st tl wt) (hb : Below w0.heap.size w0 x)
    (hN : x.heap[Bn]? = some (.cells #[.slice (some ⟨A, 0, none⟩) n n] 22 (0, 0))) (hAr : Arr x A (tab n (fun v => (P v : Int))))
    (hx : x' = (x.alloc (.cells #[.int .i64 n, va, vb, vc] 25)).alloc (.cells #[.func (.func 64) #[] #[.pointer (some ⟨Bn, 0, none⟩)]] 109)) :
    ∀ Tt : Nat → Prop, (∀ k, Tt k → x'.heap.size ≤ k) → Gw Tt Try.prog 89 #[.pointer (some ⟨x.heap.size, 0, none⟩), .pointer (some ⟨x.heap.size + 1, 0, none⟩)] encE (upto (fEd (rF P n st) (rT P tl) (fun e => at_ wt e)) tl.length) x' := by
  intro Tt hT
  have hs : x'.heap.size = x.heap.size + 2 := by rw [hx]; simp
  have e1 : upto (fEd (rF P n st) (rT P tl) (fun e => at_ wt e)) tl.length = upto (renAt P n st tl wt) tl.length := upto_congr fun i hi => by
    unfold fEd renAt rF rT tov
    rfl
  rw [e1]
  have hbx : Below x.heap.size x x' := by rw [hx]; exact below_alloc (below_alloc (Below.refl _ _) _) _
  have hB : x'.heap[x.heap.size]? = some (.cells #[.int .i64 n, va, vb, vc] 25 (0, 0)) := by
    rw [hx]; exact (Below.heap_alloc _ _ _ (by simp)).trans (heap_new _ _)
  have hC : x'.heap[x.heap.size + 1]? = some (.cells #[.func (.func 64) #[] #[.pointer (some ⟨Bn, 0, none⟩)]] 109 (0, 0)) := by
    have := heap_new (x.alloc (.cells #[.int .i64 n, va, vb, vc] 25)) (.cells #[.func (.func 64) #[] #[.pointer (some ⟨Bn, 0, none⟩)]] 109)
    rw [World.size_alloc] at this
    rw [hx]; exact this
  have l1 := lt_of_heap hN
  have l2 := lt_of_heap hAr
  exact edgesN_gives Tt n va vb vc st tl wt x.heap.size (x.heap.size + 1) Bn A P w0 x' hg hgd (below_on hb hbx) ((hbx.block _ l1).trans hN) ((hbx.block _ l2).trans hAr) (fun k hk => by have := hT k hk; omega) (fun k hk => by have := hT k hk; have := hb.size; omega) hB hC
set_option maxRecDepth 100000 in
set_option maxHeartbeats 4000000 in
theorem relabel_good (n : Nat) (va vb vc : Value) (st tl wt : List Int) (ov : Value) (o : List Int) (P : Nat → Nat) (w : World) (hg : GIs w n va vb vc st tl wt) (hgd : Good n st tl wt) (hwn : ∀ e, 0 ≤ at_ wt e) (hp : Prm n o P) (ho : RowAt .i64 w ov o) :
    Calls Try.prog 32 #[gAgg n va vb vc, ov] w (RelW w n P st tl wt) := by
  obtain ⟨ao, ca, rfl⟩ := hg.s.shape
  obtain ⟨bo, cb, rfl⟩ := hg.t.shape
  obtain ⟨co, cc, rfl⟩ := hg.u.shape
  have hml := hgd.m_le
  have hn := hgd.n_le
  have hchk := good_chk' hgd
  obtain ⟨⟨r1, r2⟩, hrr⟩ : ∃ r, chk n st tl wt = r := ⟨_, rfl⟩
  rw [hrr] at hchk
  simp only at hchk
  subst hchk
  have hck := (fun W h => check_all n (.slice ao st.length ca) (.slice bo tl.length cb) (.slice co wt.length cc) st tl wt W h (by have := hgd.s_len; omega) (by omega) (by have := hgd.w_len; omega))
  rw [hrr] at hck
  have HCK := hide hck
  have HSQ := hide (fun Bn A x x' hb hN hA hx => ren_seq n (.slice ao st.length ca) (.slice bo tl.length cb) (.slice co wt.length cc) st tl wt P Bn A w x x' hg hgd hb hN hA hx)
  have HAR := hide (fun x lb hs => callsIn_wide.1 (arrange_any 0 n tl.length 89 (enters_of Try.func89 (by kernel_rfl) rfl) lb (rF P n st) (rT P tl) (fun e => at_ wt e) x hn hml (fun i hi => (hp.pos _ (src_lt hgd hi)).1) (fun i hi => (hp.pos _ (tov_lt' hgd hi).1).1) (fun i hi => ⟨hwn i, (hgd.vtx i hi).2.2⟩) hs))
  have HNU : Hid (∀ X, Below w.heap.size w X → Calls Try.prog 63 #[.int .i64 n, ov] X (NumW X n P)) := fun X hX => numbers_good n hn ov o P X hp (ho.below hX)
  have HK1 := hide (MT.start w n (.slice ao st.length ca) (.slice bo tl.length cb) (.slice co wt.length cc))
  have HG := hide hg
  have c0 := cell_of HK1.out.bg (i := 0) rfl
  have c1 := cell_of HK1.out.bg (i := 1) rfl
  have c2 := cell_of HK1.out.bg (i := 2) rfl
  have c3 := cell_of HK1.out.bg (i := 3) rfl
  unfold gAgg at HCK ⊢
  clear hg hck hrr hp ho
  go_enter Try.func32, Try.ntmps32
  go_wp2_with fail
  generalize ((w.alloc (.cells #[.int .i64 n, .slice ao st.length ca, .slice bo tl.length cb, .slice co wt.length cc] 25)).alloc (.cells #[.int .i64 0, .slice none 0 0, .slice none 0 0, .slice none 0 0] 25)) = w1 at c0 c1 c2 c3 HK1 ⊢
  refine (HCK.out w1 (HG.out.below HK1.out.bel)).mono ?_
  rintro e w2 ⟨rfl, hb2⟩
  have HK2 := hide (HK1.out.below hb2)
  have d0 := cell_of HK2.out.bg (i := 0) rfl
  clear c0 c1 c2 c3 HK1 hb2 HCK HG hwn
  have HGD := hide hgd
  clear hgd
  go_wp2_with fail
  refine (HNU.out _ HK2.out.bel).mono ?_
  rintro e w3 ⟨A, rfl, hA, hb3, hAl⟩
  have HK3 := hide (HK2.out.below hb3)
  have HA3 := hide hA
  clear d0 hA hb3 hAl HNU
  go_upto_region 5 with fail
  obtain ⟨w4, hw4⟩ : ∃ w4, w4 = w3.alloc (.cells #[.slice (some ⟨A, 0, none⟩) n n] 22) := ⟨_, rfl⟩
  have hb4 : Below w3.heap.size w3 w4 := by rw [hw4]; exact below_alloc (Below.refl _ _) _
  have hN4 : w4.heap[w3.heap.size]? = some (.cells #[.slice (some ⟨A, 0, none⟩) n n] 22 (0, 0)) := by rw [hw4]; exact heap_new _ _
  rw [← hw4]
  obtain ⟨Bn, hBn⟩ : ∃ Bn, Bn = w3.heap.size := ⟨_, rfl⟩
  rw [← hBn] at hN4 ⊢
  have HK4 := hide (HK3.out.below hb4)
  have HN4 := hide hN4
  have HA4 : Hid (Arr w4 A (tab n (fun v => (P v : Int)))) := (hb4.block _ (lt_of_heap HA3.out)).trans HA3.out
  have HS2 := hide (fun x' hx => HSQ.out Bn A w4.drew x' HK4.out.drew.bel HN4.out HA4.out hx)
  have d0 := cell_of HK4.out.bg (i := 0) rfl
  have d1 := cell_of HK4.out.bg (i := 1) rfl
  have d2 := cell_of HK4.out.bg (i := 2) rfl
  have d3 := cell_of HK4.out.bg (i := 3) rfl
  clear hw4 hb4 hN4 hBn HA3 HK3 HSQ HA4 HN4
  go_wp2_with fail
  go_region_with (first
    | (go_at_call 65; refine (callsIn_wide.1 (edgesN_any 0 n (.slice ao st.length ca) (.slice bo tl.length cb) (.slice co wt.length cc) Bn _)).mono ?_; rintro e9 w9 ⟨rfl, hw9⟩; have HS9 := hide (HS2.out w9 hw9); have HK9 := hide (show MT w w9 n (.slice ao st.length ca) (.slice bo tl.length cb) (.slice co wt.length cc) from HK4.out.drew.below (by rw [hw9]; exact below_alloc (below_alloc (Below.refl _ _) _) _)); have f0 := cell_of HK9.out.bg (i := 0) rfl; clear hw9)
    | (go_at_call 61; refine (HAR.out _ _ HS9.out).mono ?_; rintro e8 w8 ⟨va8, vb8, vc8, st8, tl8, wt8, nx8, rfl, hGI, hSm, hLy, hb8⟩; obtain ⟨ao8, ca8, rfl⟩ := (hGI w8 (fun _ _ => rfl)).s.shape; obtain ⟨bo8, cb8, rfl⟩ := (hGI w8 (fun _ _ => rfl)).t.shape; obtain ⟨co8, cc8, rfl⟩ := (hGI w8 (fun _ _ => rfl)).u.shape; have HK8 := hide (HK9.out.below hb8); have HGI := hide hGI; have HSM := hide hSm; have HLY := hide hLy; have b0 := cell_of HK8.out.bg (i := 0) rfl; have r0 := cell_of HK8.out.rs (i := 0) rfl; have r1 := cell_of HK8.out.rs (i := 1) rfl; have r2 := cell_of HK8.out.rs (i := 2) rfl; have r3 := cell_of HK8.out.rs (i := 3) rfl; have q0 := free_of HK8.out.rs 0; have q1 := free_of HK8.out.rs 1; have q2 := free_of HK8.out.rs 2; have q3 := free_of HK8.out.rs 3; clear hGI hSm hLy hb8; unfold gAgg))
  all_goals
    go_wp2
    have hlt : w.heap.size + 1 < w9.heap.size := lt_of_heap HK9.out.rs
    have HPU := HK8.out.put (.int .i64 n) (.slice ao8 st8.length ca8) (.slice bo8 tl8.length cb8) (.slice co8 wt8.length cc8)
    exact bodyPost_ret (results_cell2 Try.results32 _ _ (w.heap.size + 1) 25 _ (0, 0) _ rfl HPU.1 Try.underlying25 rfl (by kernel_rfl) (.int .i64 0) rfl) rfl ⟨_, _, _, _, _, _, _, rfl, HGI.out _ (fun k hk => HPU.2.2 k (by omega)), HSM.out, HLY.out, HPU.2.1⟩
end Go.Proofs.Ytmagigmcbegmiaa
