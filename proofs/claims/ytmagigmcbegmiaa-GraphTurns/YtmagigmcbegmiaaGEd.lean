/- graph.Edges: the edges in order, listed. -/
import Derived.Test.YtmagigmcbegmiaaGT2
import Derived.Test.YtmagigmcbegmiaaGU
import Derived.Test.YtmagigmcbegmiaaGKp
namespace Go.Proofs.Ytmagigmcbegmiaa
open Go.RowKit Go.Lib Go.Shelf
set_option linter.unusedVariables false
attribute [local go_sem] Oper.semAt_some
theorem Try.infoE : (Try.prog.info? 50).map (fun i => (i.zero, i.size, i.bytes)) = some (some (.agg #[.int .i64 0, .int .i64 0, .int .u64 0]), 3, 24) := by kernel_rfl
/-- Rows in memory abide turns of what is no cells. -/
theorem own_kept {X Y : World} {row : Option Nat} {base : Nat} {t : TypeId} {sz R k cap : Nat} {xs : List Value} (h : X.ownsRow base t sz (.slice (some ⟨R, 0, none⟩) k cap) k xs) (hg : X.grownBy Y row) (hr : ∀ r, row = some r → ∃ o : Obj, X.heap[r]? = some o ∧ o.isCells = false) : Y.ownsRow base t sz (.slice (some ⟨R, 0, none⟩) k cap) k xs := by
  obtain ⟨h1, ⟨h2, _⟩ | ⟨g, c, cur, hv, hb, hh, r1⟩⟩ := h
  · cases h2
  · cases hv
    exact ⟨h1, .inr ⟨R, cap, cur, rfl, hb, box_kept hh hg hr, r1⟩⟩
theorem own_same {X Y : World} {base : Nat} {t : TypeId} {sz R k cap : Nat} {xs : List Value} (h : X.ownsRow base t sz (.slice (some ⟨R, 0, none⟩) k cap) k xs) (hs : Y.heap[R]? = X.heap[R]?) : Y.ownsRow base t sz (.slice (some ⟨R, 0, none⟩) k cap) k xs := by
  obtain ⟨h1, ⟨h2, _⟩ | ⟨g, c, cur, hv, hb, hh, r1⟩⟩ := h
  · cases h2
  · cases hv
    exact ⟨h1, .inr ⟨R, cap, cur, rfl, hb, hs.trans hh, r1⟩⟩
theorem own_lt3 {X : World} {base : Nat} {t : TypeId} {sz R k cap : Nat} {xs : List Value} (h : X.ownsRow base t sz (.slice (some ⟨R, 0, none⟩) k cap) k xs) : R < X.heap.size ∧ base ≤ R := by
  obtain ⟨h1, ⟨h2, _⟩ | ⟨g, c, cur, hv, hb, hh, r1⟩⟩ := h
  · cases h2
  · cases hv
    exact ⟨lt_of_heap hh, hb⟩
set_option maxRecDepth 100000 in
set_option maxHeartbeats 4000000 in
theorem appendSeq_any (n' R cap base gf : Nat) (lb : Array Value) (S : List (Int × Int × Int)) (w : World) (eg : ∀ args w, (callFunc gf args).run Try.prog w = .ok (.enter gf args) w)
    (hown : w.ownsRow base 50 3 (.slice (some ⟨R, 0, none⟩) 0 cap) 0 []) (hcap : S.length ≤ cap) (hseq : Gw (fun k => k = R ∨ k = w.heap.size) Try.prog gf lb encE S w) :
    CallsIn Fence.wide n' Try.prog 87 #[.slice (some ⟨R, 0, none⟩) 0 cap, .func (.func gf) #[] lb] w fun e w' => e = .returned (.slice (some ⟨R, 0, none⟩) S.length cap) ∧ w'.ownsRow base 50 3 (.slice (some ⟨R, 0, none⟩) S.length cap) S.length (eCells S) ∧ Chg (fun k => k = R) w w' := by
  obtain ⟨wS, hwS⟩ : ∃ wS, wS = w.alloc (.cells #[.slice (some ⟨R, 0, none⟩) 0 cap] 45) := ⟨_, rfl⟩
  have bS : Below w.heap.size w wS := by rw [hwS]; exact below_alloc (Below.refl _ _) _
  have sS : wS.heap.size = w.heap.size + 1 := by rw [hwS]; simp
  have xS : wS.heap[w.heap.size]? = some (.cells #[.slice (some ⟨R, 0, none⟩) 0 cap] 45 (0, 0)) := by rw [hwS]; exact heap_new _ _
  obtain ⟨hRl, hRb⟩ := own_lt3 hown
  have oS : wS.ownsRow base 50 3 (.slice (some ⟨R, 0, none⟩) 0 cap) 0 [] := own_same hown (bS.block _ hRl)
  obtain ⟨i0, hi, hz0, hz1, hz2⟩ := info_parts Try.infoE
  refine callsIn_of_wp_marks Try.func87 rfl trivial ?_ rfl
  simp only [Try.ntmps87, List.size_toArray, List.length_cons, List.length_nil, Nat.reduceAdd, Nat.reduceSub, Array.replicate_succ, Array.replicate_zero, List.push_toArray, List.append_toArray, List.nil_append, List.cons_append]
  gi_wp2
  rw [← hwS]
  clear hwS
  refine rfw_law (T := fun k => k = R ∨ k = w.heap.size) (gf := gf) (lb := lb) rfl eg hseq bS (fun k hk => by rcases hk with rfl | rfl <;> omega) (fun _ => rfl)
    (fun pre X => X.heap[w.heap.size]? = some (.cells #[.slice (some ⟨R, 0, none⟩) pre.length cap] 45 (0, 0)) ∧ X.ownsRow base 50 3 (.slice (some ⟨R, 0, none⟩) pre.length cap) pre.length (eCells pre) ∧ Chg (fun k => k = R ∨ k = w.heap.size) wS X)
    (fun pre A B row hs hgr hr => ⟨box_kept hs.1 hgr (fun r h => (hr r h).2), own_kept hs.2.1 hgr (fun r h => (hr r h).2), hs.2.2.grown hgr fun k hk => .inr (hr k hk).1⟩)
    ⟨xS, oS, Chg.refl _ _⟩
    (fun x a' Z => ∃ Bx, wS.heap.size ≤ Bx ∧ Z.heap[Bx]? = some (.cells #[.int .i64 x.1, .int .i64 x.2.1, .int .u64 x.2.2] 50 (0, 0)) ∧ a' = { tmps := #[.slice (some ⟨R, 0, none⟩) 0 cap, .func (.func gf) #[] lb, .pointer (some ⟨w.heap.size, 0, none⟩), undef, .slice none 0 0, .pointer (some ⟨Bx, 0, none⟩), .func (.func gf) #[] lb, .agg #[.int .i64 x.1, .int .i64 x.2.1, .int .u64 x.2.2], undef, undef, undef, undef, undef], defers := [] })
    (fun x a' _ A B row hs hgr hr => by obtain ⟨Bx, h1, h2, h3⟩ := hs; exact ⟨Bx, h1, box_kept h2 hgr (fun r h => (hr r h).2), h3⟩) ?assign ?body ?done
  case assign =>
    rintro l pre x Z K ⟨hx, ho, hc⟩ hK
    dsimp only [encE]
    gi_wp2
    exact hK _ _ ((Chg.refl _ Z).alloc _) ⟨(Below.heap_alloc _ _ _ (lt_of_heap hx)).trans hx, own_same ho (Below.heap_alloc _ _ _ (own_lt3 ho).1), hc.alloc _⟩ ⟨Z.heap.size, hc.size, heap_new _ _, rfl⟩
  case body =>
    rintro l pre x a' Z ⟨hx, ho, hc⟩ ⟨Bx, hBx, hxx, rfl⟩ hp
    have hpl : pre.length + 1 ≤ cap := by have := hp.length_le; simp at this; omega
    obtain ⟨x1, x2, x3⟩ := x
    simp only at hxx ⊢
    have cx : Z.cell? ⟨w.heap.size, 0, none⟩ = some (.slice (some ⟨R, 0, none⟩) pre.length cap) := cell_of hx (i := 0) rfl
    have c0 : Z.cell? ⟨Bx, 0, none⟩ = some (.int .i64 x1) := cell_of hxx (i := 0) rfl
    have c1 : Z.cell? ⟨Bx, 1, none⟩ = some (.int .i64 x2) := cell_of hxx (i := 1) rfl
    have c2 : Z.cell? ⟨Bx, 2, none⟩ = some (.int .u64 x3) := cell_of hxx (i := 2) rfl
    have hRZ := (own_lt3 ho).1
    have hne : R ≠ w.heap.size := by omega
    have HO : Hid ((Z.alloc (.cells #[.int .i64 x1, .int .i64 x2, .int .u64 x3] 50)).ownsRow base 50 3 (.slice (some ⟨R, 0, none⟩) pre.length cap) pre.length (eCells pre)) := own_same ho (Below.heap_alloc _ _ _ hRZ)
    have HX : Hid ((Z.alloc (.cells #[.int .i64 x1, .int .i64 x2, .int .u64 x3] 50)).heap[w.heap.size]? = some (.cells #[.slice (some ⟨R, 0, none⟩) pre.length cap] 45 (0, 0))) := (Below.heap_alloc _ _ _ (lt_of_heap hx)).trans hx
    have HN : Hid (∀ j u, [Value.int .i64 x1, .int .i64 x2, .int .u64 x3][j]? = some u → (Z.alloc (.cells #[.int .i64 x1, .int .i64 x2, .int .u64 x3] 50)).cell? ((⟨Z.heap.size, 0, none⟩ : Addr).add j) = some u) := World.news_of_block (heap_new Z (.cells #[.int .i64 x1, .int .i64 x2, .int .u64 x3] 50))
    have HC := hide hc
    clear hc ho hxx hseq hown eg bS xS oS
    gi_wp2_with (gi_at_builtin; refine wpListIn_append_fits _ rfl _ _ 45 rfl base 50 i0 3 Try.underlying45 hi hz1 R pre.length cap _ rfl HO.out ⟨Z.heap.size, 0, none⟩ 1 1 [.int .i64 x1, .int .i64 x2, .int .u64 x3] rfl rfl HN.out (by simp [Value.oneCell']) hpl ?_; intro w1 hown1 hgrow1; have hx1 := (hgrow1.block _ (lt_of_heap HX.out) (fun e => hne (by simpa using e.symm))).trans HX.out; have cx1 := cell_of hx1 (i := 0) rfl; have fx1 := free_of hx1 0; have HX1 := hide hx1; have HO1 := hide hown1; have HG1 := hide hgrow1; clear hx1 hown1 hgrow1)
    have d1 : Chg (fun k => k = R ∨ k = w.heap.size) Z w1 := ((Chg.refl _ Z).alloc _).grown HG1.out (fun k hk => .inl (.inl (by cases hk; rfl)))
    have d2 := d1.setCell (p := ⟨w.heap.size, 0, none⟩) (.inr rfl) (.slice (some ⟨R, 0, none⟩) (pre.length + 1) cap)
    have hbx : Boxed w1 w.heap.size 45 (.slice (some ⟨R, 0, none⟩) pre.length cap) := HX1.out
    refine ⟨d2, hbx.set _, own_same ?_ (Below.heap_setCell _ _ _ _ hne), HC.out.trans d2⟩
    rw [eCells_snoc]
    exact HO1.out
  case done =>
    rintro D Z hD ⟨hx, ho, hc⟩ hK
    have cx := cell_of hx (i := 0) rfl
    gi_wp2
    refine ⟨by simp, .inl ⟨_, _, rfl, run_takeDeferred hK, ?_⟩⟩
    refine ⟨_, results_tmp rfl _ _ _, rfl, own_same ho (World.putObj_heap_other (by omega)), hc.os.trans bS.os, hc.tape.trans bS.tape, hc.output.trans bS.output, by have := hc.size; simp; omega, fun k hk hkR => ?_⟩
    exact (World.putObj_heap_other (by omega)).trans ((hc.block k (by omega) (fun h => h.elim hkR (by omega))).trans (bS.block k hk))
end Go.Proofs.Ytmagigmcbegmiaa

/- graph.edges: its function goes through all edges, row by row. -/
namespace Go.Proofs.Ytmagigmcbegmiaa
open Go.RowKit Go.Lib Go.Shelf
set_option linter.unusedVariables false
attribute [local go_sem] Oper.semAt_some

theorem edgesI_any (n' : Nat) (N : Int) (va vb vc : Value) (c : Value) (w : World) : CallsIn Fence.wide n' Try.prog 65 #[gAgg N va vb vc, .func (.func 86) #[] #[]] w fun e w' => e = .returned (.func (.func 89) #[] #[.pointer (some ⟨w.heap.size, 0, none⟩), .pointer (some ⟨w.heap.size + 1, 0, none⟩)]) ∧ w' = (w.alloc (.cells #[.int .i64 N, va, vb, vc] 25)).alloc (.cells #[.func (.func 86) #[] #[]] 109) := by
  unfold gAgg
  refine callsIn_of_wp Try.func65 rfl trivial ?_ rfl
  simp only [Try.ntmps65, List.size_toArray, List.length_cons, List.length_nil, Nat.reduceAdd, Nat.reduceSub, Array.replicate_succ, Array.replicate_zero, List.push_toArray, List.append_toArray, List.nil_append, List.cons_append]
  gi_wp2
  go_ret
  exact ⟨rfl, rfl⟩
theorem Try.results86 : Try.f86.results = #[.cell 2 50] := by kernel_rfl
theorem ident_any (n' : Nat) (a b c : Int) (w : World) : CallsIn Fence.wide n' Try.prog 86 #[.agg #[.int .i64 a, .int .i64 b, .int .u64 c]] w fun e w' => e = .returned (.agg #[.int .i64 a, .int .i64 b, .int .u64 c]) ∧ Below w.heap.size w w' := by
  refine callsIn_of_wp Try.func86 rfl trivial ?_ rfl
  simp only [Try.ntmps86, List.size_toArray, List.length_cons, List.length_nil, Nat.reduceAdd, Nat.reduceSub, Array.replicate_succ, Array.replicate_zero, List.push_toArray, List.append_toArray, List.nil_append, List.cons_append]
  gi_wp2
  have hh := heap_new (w.alloc (.cells #[.int .i64 a, .int .i64 b, .int .u64 c] 50)) (.cells #[.int .i64 a, .int .i64 b, .int .u64 c] 50)
  rw [World.size_alloc] at hh
  exact bodyPost_ret (results_cell_row Try.results86 _ _ (w.heap.size + 1) 50 _ (0, 0) _ rfl hh Try.underlying50 rfl (by kernel_rfl)) rfl ⟨rfl, below_alloc (below_alloc (Below.refl _ _) _) _⟩
set_option maxRecDepth 100000 in
set_option maxHeartbeats 4000000 in
theorem edges1_gives (T : Nat → Prop) (n : Nat) (va vb vc : Value) (st tl wt : List Int) (Bg Bc : Nat) (w0 w : World) (hg : GIs w0 n va vb vc st tl wt) (hgd : Good n st tl wt) (hb : Below w0.heap.size w0 w)
    (hT : ∀ k, T k → w0.heap.size ≤ k ∧ k ≠ Bg ∧ k ≠ Bc) (hB : w.heap[Bg]? = some (.cells #[.int .i64 n, va, vb, vc] 25 (0, 0))) (hC : w.heap[Bc]? = some (.cells #[.func (.func 86) #[] #[]] 109 (0, 0))) :
    Gw T Try.prog 89 #[.pointer (some ⟨Bg, 0, none⟩), .pointer (some ⟨Bc, 0, none⟩)] encE (upto (edgeAt n st tl wt) tl.length) w := by
  intro l J W hW hTW hJ hY h0 n'
  have hn := hgd.n_le
  have hml := hgd.m_le
  have hB' := (hW.block _ (lt_of_heap hB)).trans hB
  have hC' := (hW.block _ (lt_of_heap hC)).trans hC
  obtain ⟨Wy, hWy⟩ : ∃ Wy, Wy = W.alloc (.cells #[.func (.yield l) #[] #[]] 128) := ⟨_, rfl⟩
  have bWy : Below W.heap.size W Wy := by rw [hWy]; exact below_alloc (Below.refl _ _) _
  have sWy : Wy.heap.size = W.heap.size + 1 := by rw [hWy]; simp
  have gB : Wy.heap[Bg]? = some (.cells #[.int .i64 n, va, vb, vc] 25 (0, 0)) := (bWy.block _ (lt_of_heap hB')).trans hB'
  have gC : Wy.heap[Bc]? = some (.cells #[.func (.func 86) #[] #[]] 109 (0, 0)) := (bWy.block _ (lt_of_heap hC')).trans hC'
  have gY : Wy.heap[W.heap.size]? = some (.cells #[.func (.yield l) #[] #[]] 128 (0, 0)) := by rw [hWy]; exact heap_new _ _
  have cB : Wy.cell? ⟨Bg, 0, none⟩ = some (.int .i64 n) := cell_of gB (i := 0) rfl
  have j0 : J [] Wy := hJ _ _ _ none h0 (by rw [hWy]; exact World.grownBy_alloc _ _ _) (fun _ h => by cases h)
  have lowY : Below w0.heap.size w0 Wy := below_on (below_on hb hW) bWy
  have key : ∀ X, Chg T Wy X → X.heap[Bg]? = some (.cells #[.int .i64 n, va, vb, vc] 25 (0, 0)) ∧ X.heap[Bc]? = some (.cells #[.func (.func 86) #[] #[]] 109 (0, 0)) ∧ X.heap[W.heap.size]? = some (.cells #[.func (.yield l) #[] #[]] 128 (0, 0)) ∧ Below w0.heap.size w0 X := fun X hX =>
    ⟨hX.heap gB (fun h => (hT _ h).2.1 rfl), hX.heap gC (fun h => (hT _ h).2.2 rfl), hX.heap gY (fun h => by have := hTW _ h; omega), Chg.below lowY hX (fun i hi => (hT i hi).1) lowY.size⟩
  have HK := hide key
  have HY := hide hY
  have HJ := hide hJ
  have H0 := hide j0
  have HGD := hide hgd
  have HG := hide hg
  have HT := hide hT
  have HTW := hide hTW
  have HSY := hide sWy
  clear key hY hJ h0 j0 hg hB hC hB' hC' gB gC gY hT hTW hb hW bWy lowY sWy hgd
  refine callsIn_of_wp_marks Try.func89 rfl trivial ?_ rfl
  simp only [Try.ntmps89, List.size_toArray, List.length_cons, List.length_nil, Nat.reduceAdd, Nat.reduceSub, Array.replicate_succ, Array.replicate_zero, List.push_toArray, List.append_toArray, List.nil_append, List.cons_append]
  rw [hWy] at cB
  gi_wp2
  rw [← hWy] at *
  clear hWy cB
  refine wpIn_loop (fun a' wr => ∃ (v e : Nat) (ds : List Deferred) (u4 u5 u6 u10 u11 u12 u13 u14 u15 u16 u17 u18 u19 u20 u21 u22 u23 u24 u25 u26 : Value), v ≤ n ∧ at_ st v = (e : Int) ∧ a' = { tmps := #[.func (.yield l) #[] #[], .pointer (some ⟨Bg, 0, none⟩), .pointer (some ⟨Bc, 0, none⟩), .pointer (some ⟨W.heap.size, 0, none⟩), u4, u5, u6, .pointer (some ⟨Bg, 0, none⟩), .int .i64 n, .int .i64 (v : Int), u10, u11, u12, u13, u14, u15, u16, u17, u18, u19, u20, u21, u22, u23, u24, u25, u26], defers := ds } ∧ J (upto (edgeAt n st tl wt) e) wr ∧ MarksAt W.heap.size wr ds ∧ Chg T Wy wr) (fun a' _ => n - (RowKit.intOf (a'.tmps.getD 9 undef)).toNat) ?start ?round
  case start =>
    exact ⟨0, 0, [], _, _, _, _, _, _, _, _, _, _, _, _, _, _, _, _, _, _, _, _, Nat.zero_le _, HGD.out.zero, rfl, H0.out, trivial, Chg.refl _ _⟩
  case round =>
    rintro _ wr ⟨v, e, ds, u4, u5, u6, u10, u11, u12, u13, u14, u15, u16, u17, u18, u19, u20, u21, u22, u23, u24, u25, u26, hvn, he, rfl, hj, hmk, hch⟩
    obtain ⟨k1, k2, k3, k4⟩ := HK.out wr hch
    by_cases hlt : v < n
    · have d0 := cellAl (.cells #[.int .i64 (v : Int)] 3) (show wr.cell? ⟨Bg, 0, none⟩ = some (.int .i64 n) from cell_of k1 (i := 0) rfl)
      have d1 := cellAl (.cells #[.int .i64 (v : Int)] 3) (show wr.cell? ⟨Bg, 1, none⟩ = some va from cell_of k1 (i := 1) rfl)
      have d2 := cellAl (.cells #[.int .i64 (v : Int)] 3) (show wr.cell? ⟨Bg, 2, none⟩ = some vb from cell_of k1 (i := 2) rfl)
      have d3 := cellAl (.cells #[.int .i64 (v : Int)] 3) (show wr.cell? ⟨Bg, 3, none⟩ = some vc from cell_of k1 (i := 3) rfl)
      have hvi : (v : Int) < (n : Int) := by omega
      obtain ⟨m, hm⟩ : ∃ m : Nat, at_ st (v + 1) = ((e + m : Nat) : Int) := ⟨(at_ st (v + 1) - e).toNat, by have := HGD.out.step v hlt; omega⟩
      have hme : e + m ≤ tl.length := by have := (HGD.out.range (v + 1) (by omega)).2; omega
      obtain ⟨X, hX⟩ : ∃ X, X = ((wr.alloc (.cells #[.int .i64 (v : Int)] 3)).alloc (.cells #[.int .i64 n, va, vb, vc] 25)).alloc (.cells #[.int .i64 (v : Int)] 3) := ⟨_, rfl⟩
      have bX : Below wr.heap.size wr X := by rw [hX]; exact below_alloc (below_alloc (below_alloc (Below.refl _ _) _) _) _
      have sX : X.heap.size = wr.heap.size + 3 := by rw [hX]; simp
      have x0 : X.heap[wr.heap.size]? = some (.cells #[.int .i64 (v : Int)] 3 (0, 0)) := by rw [hX]; exact (Below.heap_alloc _ _ _ (by simp; omega)).trans ((Below.heap_alloc _ _ _ (by simp)).trans (heap_new _ _))
      have x1 : X.heap[wr.heap.size + 1]? = some (.cells #[.int .i64 n, va, vb, vc] 25 (0, 0)) := by
        have := heap_new (wr.alloc (.cells #[.int .i64 (v : Int)] 3)) (.cells #[.int .i64 n, va, vb, vc] 25)
        rw [World.size_alloc] at this
        rw [hX]; exact (Below.heap_alloc _ _ _ (by simp)).trans this
      have x2 : X.heap[wr.heap.size + 1 + 1]? = some (.cells #[.int .i64 (v : Int)] 3 (0, 0)) := by
        have := heap_new ((wr.alloc (.cells #[.int .i64 (v : Int)] 3)).alloc (.cells #[.int .i64 n, va, vb, vc] 25)) (.cells #[.int .i64 (v : Int)] 3)
        rw [World.size_alloc, World.size_alloc] at this
        rw [hX]; exact this
      have cX : Chg T Wy X := hch.trans (Chg.of_below bX)
      have jX : J (upto (edgeAt n st tl wt) e) X := HJ.out _ _ _ none hj ⟨bX.os, bX.tape, bX.output, bX.size, fun k hk _ => bX.block k hk⟩ (fun _ h => by cases h)
      have mX : MarksAt W.heap.size X ds := hmk.kept fun D _ _ h => (bX.block _ (lt_of_heap h)).trans h
      have wWr : W.heap.size + 1 ≤ wr.heap.size := by have := hch.size; have := HSY.out; omega
      have hTX : ∀ k, T k → k < W.heap.size := HTW.out
      have hgiv := row1_gives T n va vb vc st tl wt v e m (wr.heap.size + 1) (wr.heap.size + 1 + 1) w0 X HG.out HGD.out hlt he hm hme (below_on k4 bX) (fun k hk => ⟨(HT.out k hk).1, by have := hTX k hk; omega, by have := hTX k hk; omega⟩) x1 x2
      have HGV := hide hgiv
      have HX := hide hX
      have HJX := hide jX
      have HMX := hide mX
      have HCX := hide cX
      have HSX := hide sX
      have HX0 := hide x0
      have HBX := hide bX
      clear hgiv bX sX x0 x1 x2 cX jX mX hj hmk hch k1 k2 k3 k4 H0 hTX
      gi_wp2_with (refine ⟨trivial, (fun h => by simp [Fence.wide] at h), ?_⟩; refine (row_any _ n va vb vc v _).mono ?_; rintro e9 w9 ⟨rfl, rfl⟩)
      rw [← hX]
      clear hX d0 d1 d2 d3
      refine rfw_law (T := T) (gf := 84) (lb := #[.pointer (some ⟨wr.heap.size + 1, 0, none⟩), .pointer (some ⟨wr.heap.size + 1 + 1, 0, none⟩)]) rfl (enters_of Try.func84 (by kernel_rfl) rfl) HGV.out.wide (Below.refl _ _) (fun k hk => by have := HTW.out k hk; have := HSX.out; omega) (fun _ => rfl)
        (fun pre Z => J (upto (edgeAt n st tl wt) (e + pre.length)) Z ∧ Chg T X Z)
        (fun pre A B row hs hgr hr => ⟨HJ.out _ _ _ row hs.1 hgr (fun r h => ⟨by have := (hr r h).1; have := HSX.out; omega, (hr r h).2⟩), hs.2.grown hgr fun k hk => .inr (hr k hk).1⟩)
        ⟨HJX.out, Chg.refl _ _⟩
        (fun x a' _ => a' = { tmps := #[.func (.yield l) #[] #[], .pointer (some ⟨Bg, 0, none⟩), .pointer (some ⟨Bc, 0, none⟩), .pointer (some ⟨W.heap.size, 0, none⟩), .pointer (some ⟨wr.heap.size, 0, none⟩), .int .i64 x.1, .int .u64 x.2, .pointer (some ⟨Bg, 0, none⟩), .int .i64 n, .int .i64 (v : Int), .bool true, .int .i64 (v : Int), .agg #[.int .i64 n, va, vb, vc], .int .i64 (v : Int), .func (.func 84) #[] #[.pointer (some ⟨wr.heap.size + 1, 0, none⟩), .pointer (some ⟨wr.heap.size + 1 + 1, 0, none⟩)], .int .i64 x.1, .int .u64 x.2, u17, u18, u19, u20, u21, u22, u23, u24, u25, u26], defers := [] }) (fun _ _ _ _ _ _ hs _ _ => hs) ?assign ?body ?done
      case assign =>
        rintro l2 pre x Z K hi hK
        dsimp only [encR]
        gi_wp2
        exact hK _ _ (Chg.refl _ _) hi rfl
      case body =>
        rintro l2 pre x a' Z ⟨hj, hc⟩ rfl hp
        obtain ⟨hpl, hpe, hxe⟩ := upto_at hp
        have hs : src st n (e + pre.length) = v := by
          exact src_eq HGD.out hlt (by rw [he]; omega) (by rw [hm]; omega)
        have hxx : edgeAt n st tl wt (e + pre.length) = ((v : Int), x.1, x.2) := by unfold edgeAt; rw [hs, hxe]; rfl
        have hcZ : Chg T Wy Z := HCX.out.trans hc
        obtain ⟨k1, k2, k3, k4⟩ := HK.out Z hcZ
        have k5 : Z.heap[wr.heap.size]? = some (.cells #[.int .i64 (v : Int)] 3 (0, 0)) := hc.heap HX0.out (fun h => by have := HTW.out _ h; omega)
        have HYY : Hid (∀ X1, Below Z.drew.heap.size Z.drew X1 → YieldAt Fence.wide 0 Try.prog l #[.agg #[.int .i64 (v : Int), .int .i64 x.1, .int .u64 x.2]] X1 (fun e' W' => e' = .returned (.bool true) ∧ J (upto (edgeAt n st tl wt) (e + (pre.length + 1))) W' ∧ Chg T X1 W')) := fun X1 hb1 => by
          have h1 := HY.out (upto (edgeAt n st tl wt) (e + pre.length)) (edgeAt n st tl wt (e + pre.length)) X1 (HJ.out _ _ _ none hj ⟨hb1.os, hb1.tape, hb1.output, hb1.size, fun k hk _ => hb1.block k hk⟩ (fun _ h => by cases h)) (by rw [← upto_succ]; exact upto_pre _ (by omega))
          rw [← upto_succ, hxx] at h1
          rw [← Nat.add_assoc]
          exact h1
        have HC := hide hc
        have cy : Z.cell? ⟨W.heap.size, 0, none⟩ = some (.func (.yield l) #[] #[]) := cell_of k3 (i := 0) rfl
        have cc : Z.cell? ⟨Bc, 0, none⟩ = some (.func (.func 86) #[] #[]) := cell_of k2 (i := 0) rfl
        have cv : Z.cell? ⟨wr.heap.size, 0, none⟩ = some (.int .i64 (v : Int)) := cell_of k5 (i := 0) rfl
        have HCL : Hid (∀ X1, Below Z.drew.heap.size Z.drew X1 → X1.cell? ⟨W.heap.size, 0, none⟩ = some (.func (.yield l) #[] #[]) ∧ Chg T Z X1) := fun X1 hb1 => ⟨(below_cell hb1 (block_of_cell cy)).trans cy, ((Chg.refl T Z).drew).trans (Chg.of_below hb1)⟩
        obtain ⟨x1, x2⟩ := x
        simp only at HYY ⊢
        have hmix : Try.prog.follows .mixedOrders = true := by kernel_rfl
        clear hj hc hcZ k1 k2 k3 k4 k5 hs hxx hpl hpe hxe hp HK HY HJ HGD HG HT HTW HSY HGV HX HJX HMX HCX HX0 HBX he hm hme
        gi_wp2
        refine wpIn_region_any hmix (any_in l2 ?nd _ _ _ _ ?main)
        case nd =>
          intro i o h c
          rcases i with _ | _ | _ | _ | _ | _ | _ | _ | _ | i <;> simp at h <;> (subst h) <;> simp
        show wpAnyIn _ _ _ _ _ _ 9 #[false, false, false, false, false, false, false, false, false] _ Z.drew
        refine wpAnyIn_take (i := 3) (v := .int .i64 x1) rfl rfl (by kernel_rfl) (by kernel_rfl) (by kernel_rfl) (fun _ _ _ h => h) ⟨Or.inl ⟨by rfl, ?_⟩, fun _ => rfl⟩ ?_
        · intro w; go_simp; try rfl
        refine wpAnyIn_take (i := 4) (v := .int .u64 x2) rfl rfl (by kernel_rfl) (by kernel_rfl) (by kernel_rfl) (fun _ _ _ h => h) ⟨Or.inl ⟨by rfl, ?_⟩, fun _ => rfl⟩ ?_
        · intro w; go_simp; try rfl
        refine wpAnyIn_ready (rs := [0, 1, 2]) (by kernel_rfl) (by simp) ?_
        refine AllReadyIn.cons rfl (fun K hK => ?_) ?_
        · go_simp
          refine hK _ _ ?_
          clear hK K
          refine wpAnyIn_ready (rs := [1, 2]) (by kernel_rfl) (by simp) ?_
          refine AllReadyIn.cons rfl (fun K hK => ?_) ?_
          · go_simp
            refine hK _ _ ?_
            clear hK K
            refine wpAnyIn_ready (rs := [2]) (by kernel_rfl) (by simp) ?_
            refine AllReadyIn.cons rfl (fun K hK => ?_) ?_
            · go_simp
              refine hK _ _ ?_
              clear hK K
              refine wpAnyIn_take (i := 5) (v := .agg #[.int .i64 (v : Int), .int .i64 x1, .int .u64 x2]) rfl rfl (by kernel_rfl) (by kernel_rfl) (by kernel_rfl) (fun _ _ _ h => h) ⟨Or.inl ⟨by rfl, ?_⟩, fun _ => rfl⟩ ?_
              · intro w; go_simp; try rfl
              refine wpAnyIn_ready (rs := [6]) (by kernel_rfl) (by simp) ?_
              refine AllReadyIn.cons rfl (fun K hK => ?_) ?_
              · go_simp
                (with_reducible refine And.intro ?_ (And.intro ?_ ?_)); exact trivial; (first | rfl | (intro h; simp [Fence.wide] at h)); refine (ident_any _ (v : Int) x1 x2 _).mono ?_; rintro e9 X1 ⟨rfl, hb1⟩; obtain ⟨cy1, hcc1⟩ := HCL.out X1 hb1; obtain ⟨fn, tmps, assign, body, hy, hR⟩ := HYY.out X1 hb1; have HR := hide hR; have HC1 := hide hcc1; clear hR hcc1 hb1; try dsimp only
                refine hK _ _ ?_
                clear hK K
                refine wpAnyIn_ready (rs := [7]) (by kernel_rfl) (by simp) ?_
                refine AllReadyIn.cons rfl (fun K hK => ?_) ?_
                · go_simp
                  (with_reducible refine And.intro ?_ ?_); (first | rfl | (intro h; simp [Fence.wide] at h)); refine (round_any HR.out _).mono ?_; rintro e9 X2 ⟨rfl, hj2, hc2⟩; have HJ2 := hide hj2; have HC2 := hide hc2; clear hj2 hc2 hy HR; try dsimp only
                  refine hK _ _ ?_
                  clear hK K
                  refine wpAnyIn_take (i := 8) (v := .bool false) rfl rfl (by kernel_rfl) (by kernel_rfl) (by kernel_rfl) (fun _ _ _ h => h) ⟨Or.inl ⟨by rfl, ?_⟩, fun _ => rfl⟩ ?_
                  · intro w; go_simp; try rfl
                  refine wpAnyIn_done (by kernel_rfl) ?_ _
                  (gi_wp2; first | exact ⟨rfl, HC1.out.trans HC2.out, HJ2.out, HC.out.trans (HC1.out.trans HC2.out)⟩ | exact ⟨HC1.out.trans HC2.out, HJ2.out, HC.out.trans (HC1.out.trans HC2.out)⟩)
                exact AllReadyIn.nil
              exact AllReadyIn.nil
            exact AllReadyIn.nil
          refine AllReadyIn.cons rfl (fun K hK => ?_) ?_
          · go_simp
            refine hK _ _ ?_
            clear hK K
            refine wpAnyIn_take (i := 5) (v := .agg #[.int .i64 (v : Int), .int .i64 x1, .int .u64 x2]) rfl rfl (by kernel_rfl) (by kernel_rfl) (by kernel_rfl) (fun _ _ _ h => h) ⟨Or.inl ⟨by rfl, ?_⟩, fun _ => rfl⟩ ?_
            · intro w; go_simp; try rfl
            refine wpAnyIn_ready (rs := [1]) (by kernel_rfl) (by simp) ?_
            refine AllReadyIn.cons rfl (fun K hK => ?_) ?_
            · go_simp
              refine hK _ _ ?_
              clear hK K
              refine wpAnyIn_ready (rs := [6]) (by kernel_rfl) (by simp) ?_
              refine AllReadyIn.cons rfl (fun K hK => ?_) ?_
              · go_simp
                (with_reducible refine And.intro ?_ (And.intro ?_ ?_)); exact trivial; (first | rfl | (intro h; simp [Fence.wide] at h)); refine (ident_any _ (v : Int) x1 x2 _).mono ?_; rintro e9 X1 ⟨rfl, hb1⟩; obtain ⟨cy1, hcc1⟩ := HCL.out X1 hb1; obtain ⟨fn, tmps, assign, body, hy, hR⟩ := HYY.out X1 hb1; have HR := hide hR; have HC1 := hide hcc1; clear hR hcc1 hb1; try dsimp only
                refine hK _ _ ?_
                clear hK K
                refine wpAnyIn_ready (rs := [7]) (by kernel_rfl) (by simp) ?_
                refine AllReadyIn.cons rfl (fun K hK => ?_) ?_
                · go_simp
                  (with_reducible refine And.intro ?_ ?_); (first | rfl | (intro h; simp [Fence.wide] at h)); refine (round_any HR.out _).mono ?_; rintro e9 X2 ⟨rfl, hj2, hc2⟩; have HJ2 := hide hj2; have HC2 := hide hc2; clear hj2 hc2 hy HR; try dsimp only
                  refine hK _ _ ?_
                  clear hK K
                  refine wpAnyIn_take (i := 8) (v := .bool false) rfl rfl (by kernel_rfl) (by kernel_rfl) (by kernel_rfl) (fun _ _ _ h => h) ⟨Or.inl ⟨by rfl, ?_⟩, fun _ => rfl⟩ ?_
                  · intro w; go_simp; try rfl
                  refine wpAnyIn_done (by kernel_rfl) ?_ _
                  (gi_wp2; first | exact ⟨rfl, HC1.out.trans HC2.out, HJ2.out, HC.out.trans (HC1.out.trans HC2.out)⟩ | exact ⟨HC1.out.trans HC2.out, HJ2.out, HC.out.trans (HC1.out.trans HC2.out)⟩)
                exact AllReadyIn.nil
              exact AllReadyIn.nil
            exact AllReadyIn.nil
          exact AllReadyIn.nil
        refine AllReadyIn.cons rfl (fun K hK => ?_) ?_
        · go_simp
          refine hK _ _ ?_
          clear hK K
          refine wpAnyIn_ready (rs := [0, 2]) (by kernel_rfl) (by simp) ?_
          refine AllReadyIn.cons rfl (fun K hK => ?_) ?_
          · go_simp
            refine hK _ _ ?_
            clear hK K
            refine wpAnyIn_ready (rs := [2]) (by kernel_rfl) (by simp) ?_
            refine AllReadyIn.cons rfl (fun K hK => ?_) ?_
            · go_simp
              refine hK _ _ ?_
              clear hK K
              refine wpAnyIn_take (i := 5) (v := .agg #[.int .i64 (v : Int), .int .i64 x1, .int .u64 x2]) rfl rfl (by kernel_rfl) (by kernel_rfl) (by kernel_rfl) (fun _ _ _ h => h) ⟨Or.inl ⟨by rfl, ?_⟩, fun _ => rfl⟩ ?_
              · intro w; go_simp; try rfl
              refine wpAnyIn_ready (rs := [6]) (by kernel_rfl) (by simp) ?_
              refine AllReadyIn.cons rfl (fun K hK => ?_) ?_
              · go_simp
                (with_reducible refine And.intro ?_ (And.intro ?_ ?_)); exact trivial; (first | rfl | (intro h; simp [Fence.wide] at h)); refine (ident_any _ (v : Int) x1 x2 _).mono ?_; rintro e9 X1 ⟨rfl, hb1⟩; obtain ⟨cy1, hcc1⟩ := HCL.out X1 hb1; obtain ⟨fn, tmps, assign, body, hy, hR⟩ := HYY.out X1 hb1; have HR := hide hR; have HC1 := hide hcc1; clear hR hcc1 hb1; try dsimp only
                refine hK _ _ ?_
                clear hK K
                refine wpAnyIn_ready (rs := [7]) (by kernel_rfl) (by simp) ?_
                refine AllReadyIn.cons rfl (fun K hK => ?_) ?_
                · go_simp
                  (with_reducible refine And.intro ?_ ?_); (first | rfl | (intro h; simp [Fence.wide] at h)); refine (round_any HR.out _).mono ?_; rintro e9 X2 ⟨rfl, hj2, hc2⟩; have HJ2 := hide hj2; have HC2 := hide hc2; clear hj2 hc2 hy HR; try dsimp only
                  refine hK _ _ ?_
                  clear hK K
                  refine wpAnyIn_take (i := 8) (v := .bool false) rfl rfl (by kernel_rfl) (by kernel_rfl) (by kernel_rfl) (fun _ _ _ h => h) ⟨Or.inl ⟨by rfl, ?_⟩, fun _ => rfl⟩ ?_
                  · intro w; go_simp; try rfl
                  refine wpAnyIn_done (by kernel_rfl) ?_ _
                  (gi_wp2; first | exact ⟨rfl, HC1.out.trans HC2.out, HJ2.out, HC.out.trans (HC1.out.trans HC2.out)⟩ | exact ⟨HC1.out.trans HC2.out, HJ2.out, HC.out.trans (HC1.out.trans HC2.out)⟩)
                exact AllReadyIn.nil
              exact AllReadyIn.nil
            exact AllReadyIn.nil
          refine AllReadyIn.cons rfl (fun K hK => ?_) ?_
          · go_simp
            refine hK _ _ ?_
            clear hK K
            refine wpAnyIn_take (i := 5) (v := .agg #[.int .i64 (v : Int), .int .i64 x1, .int .u64 x2]) rfl rfl (by kernel_rfl) (by kernel_rfl) (by kernel_rfl) (fun _ _ _ h => h) ⟨Or.inl ⟨by rfl, ?_⟩, fun _ => rfl⟩ ?_
            · intro w; go_simp; try rfl
            refine wpAnyIn_ready (rs := [0, 6]) (by kernel_rfl) (by simp) ?_
            refine AllReadyIn.cons rfl (fun K hK => ?_) ?_
            · go_simp
              refine hK _ _ ?_
              clear hK K
              refine wpAnyIn_ready (rs := [6]) (by kernel_rfl) (by simp) ?_
              refine AllReadyIn.cons rfl (fun K hK => ?_) ?_
              · go_simp
                (with_reducible refine And.intro ?_ (And.intro ?_ ?_)); exact trivial; (first | rfl | (intro h; simp [Fence.wide] at h)); refine (ident_any _ (v : Int) x1 x2 _).mono ?_; rintro e9 X1 ⟨rfl, hb1⟩; obtain ⟨cy1, hcc1⟩ := HCL.out X1 hb1; obtain ⟨fn, tmps, assign, body, hy, hR⟩ := HYY.out X1 hb1; have HR := hide hR; have HC1 := hide hcc1; clear hR hcc1 hb1; try dsimp only
                refine hK _ _ ?_
                clear hK K
                refine wpAnyIn_ready (rs := [7]) (by kernel_rfl) (by simp) ?_
                refine AllReadyIn.cons rfl (fun K hK => ?_) ?_
                · go_simp
                  (with_reducible refine And.intro ?_ ?_); (first | rfl | (intro h; simp [Fence.wide] at h)); refine (round_any HR.out _).mono ?_; rintro e9 X2 ⟨rfl, hj2, hc2⟩; have HJ2 := hide hj2; have HC2 := hide hc2; clear hj2 hc2 hy HR; try dsimp only
                  refine hK _ _ ?_
                  clear hK K
                  refine wpAnyIn_take (i := 8) (v := .bool false) rfl rfl (by kernel_rfl) (by kernel_rfl) (by kernel_rfl) (fun _ _ _ h => h) ⟨Or.inl ⟨by rfl, ?_⟩, fun _ => rfl⟩ ?_
                  · intro w; go_simp; try rfl
                  refine wpAnyIn_done (by kernel_rfl) ?_ _
                  (gi_wp2; first | exact ⟨rfl, HC1.out.trans HC2.out, HJ2.out, HC.out.trans (HC1.out.trans HC2.out)⟩ | exact ⟨HC1.out.trans HC2.out, HJ2.out, HC.out.trans (HC1.out.trans HC2.out)⟩)
                exact AllReadyIn.nil
              exact AllReadyIn.nil
            refine AllReadyIn.cons rfl (fun K hK => ?_) ?_
            · go_simp
              (with_reducible refine And.intro ?_ (And.intro ?_ ?_)); exact trivial; (first | rfl | (intro h; simp [Fence.wide] at h)); refine (ident_any _ (v : Int) x1 x2 _).mono ?_; rintro e9 X1 ⟨rfl, hb1⟩; obtain ⟨cy1, hcc1⟩ := HCL.out X1 hb1; obtain ⟨fn, tmps, assign, body, hy, hR⟩ := HYY.out X1 hb1; have HR := hide hR; have HC1 := hide hcc1; clear hR hcc1 hb1; try dsimp only
              refine hK _ _ ?_
              clear hK K
              refine wpAnyIn_ready (rs := [0]) (by kernel_rfl) (by simp) ?_
              refine AllReadyIn.cons rfl (fun K hK => ?_) ?_
              · go_simp
                refine hK _ _ ?_
                clear hK K
                refine wpAnyIn_ready (rs := [7]) (by kernel_rfl) (by simp) ?_
                refine AllReadyIn.cons rfl (fun K hK => ?_) ?_
                · go_simp
                  (with_reducible refine And.intro ?_ ?_); (first | rfl | (intro h; simp [Fence.wide] at h)); refine (round_any HR.out _).mono ?_; rintro e9 X2 ⟨rfl, hj2, hc2⟩; have HJ2 := hide hj2; have HC2 := hide hc2; clear hj2 hc2 hy HR; try dsimp only
                  refine hK _ _ ?_
                  clear hK K
                  refine wpAnyIn_take (i := 8) (v := .bool false) rfl rfl (by kernel_rfl) (by kernel_rfl) (by kernel_rfl) (fun _ _ _ h => h) ⟨Or.inl ⟨by rfl, ?_⟩, fun _ => rfl⟩ ?_
                  · intro w; go_simp; try rfl
                  refine wpAnyIn_done (by kernel_rfl) ?_ _
                  (gi_wp2; first | exact ⟨rfl, HC1.out.trans HC2.out, HJ2.out, HC.out.trans (HC1.out.trans HC2.out)⟩ | exact ⟨HC1.out.trans HC2.out, HJ2.out, HC.out.trans (HC1.out.trans HC2.out)⟩)
                exact AllReadyIn.nil
              exact AllReadyIn.nil
            exact AllReadyIn.nil
          exact AllReadyIn.nil
        refine AllReadyIn.cons rfl (fun K hK => ?_) ?_
        · go_simp
          refine hK _ _ ?_
          clear hK K
          refine wpAnyIn_take (i := 5) (v := .agg #[.int .i64 (v : Int), .int .i64 x1, .int .u64 x2]) rfl rfl (by kernel_rfl) (by kernel_rfl) (by kernel_rfl) (fun _ _ _ h => h) ⟨Or.inl ⟨by rfl, ?_⟩, fun _ => rfl⟩ ?_
          · intro w; go_simp; try rfl
          refine wpAnyIn_ready (rs := [0, 1]) (by kernel_rfl) (by simp) ?_
          refine AllReadyIn.cons rfl (fun K hK => ?_) ?_
          · go_simp
            refine hK _ _ ?_
            clear hK K
            refine wpAnyIn_ready (rs := [1]) (by kernel_rfl) (by simp) ?_
            refine AllReadyIn.cons rfl (fun K hK => ?_) ?_
            · go_simp
              refine hK _ _ ?_
              clear hK K
              refine wpAnyIn_ready (rs := [6]) (by kernel_rfl) (by simp) ?_
              refine AllReadyIn.cons rfl (fun K hK => ?_) ?_
              · go_simp
                (with_reducible refine And.intro ?_ (And.intro ?_ ?_)); exact trivial; (first | rfl | (intro h; simp [Fence.wide] at h)); refine (ident_any _ (v : Int) x1 x2 _).mono ?_; rintro e9 X1 ⟨rfl, hb1⟩; obtain ⟨cy1, hcc1⟩ := HCL.out X1 hb1; obtain ⟨fn, tmps, assign, body, hy, hR⟩ := HYY.out X1 hb1; have HR := hide hR; have HC1 := hide hcc1; clear hR hcc1 hb1; try dsimp only
                refine hK _ _ ?_
                clear hK K
                refine wpAnyIn_ready (rs := [7]) (by kernel_rfl) (by simp) ?_
                refine AllReadyIn.cons rfl (fun K hK => ?_) ?_
                · go_simp
                  (with_reducible refine And.intro ?_ ?_); (first | rfl | (intro h; simp [Fence.wide] at h)); refine (round_any HR.out _).mono ?_; rintro e9 X2 ⟨rfl, hj2, hc2⟩; have HJ2 := hide hj2; have HC2 := hide hc2; clear hj2 hc2 hy HR; try dsimp only
                  refine hK _ _ ?_
                  clear hK K
                  refine wpAnyIn_take (i := 8) (v := .bool false) rfl rfl (by kernel_rfl) (by kernel_rfl) (by kernel_rfl) (fun _ _ _ h => h) ⟨Or.inl ⟨by rfl, ?_⟩, fun _ => rfl⟩ ?_
                  · intro w; go_simp; try rfl
                  refine wpAnyIn_done (by kernel_rfl) ?_ _
                  (gi_wp2; first | exact ⟨rfl, HC1.out.trans HC2.out, HJ2.out, HC.out.trans (HC1.out.trans HC2.out)⟩ | exact ⟨HC1.out.trans HC2.out, HJ2.out, HC.out.trans (HC1.out.trans HC2.out)⟩)
                exact AllReadyIn.nil
              exact AllReadyIn.nil
            exact AllReadyIn.nil
          refine AllReadyIn.cons rfl (fun K hK => ?_) ?_
          · go_simp
            refine hK _ _ ?_
            clear hK K
            refine wpAnyIn_ready (rs := [0, 6]) (by kernel_rfl) (by simp) ?_
            refine AllReadyIn.cons rfl (fun K hK => ?_) ?_
            · go_simp
              refine hK _ _ ?_
              clear hK K
              refine wpAnyIn_ready (rs := [6]) (by kernel_rfl) (by simp) ?_
              refine AllReadyIn.cons rfl (fun K hK => ?_) ?_
              · go_simp
                (with_reducible refine And.intro ?_ (And.intro ?_ ?_)); exact trivial; (first | rfl | (intro h; simp [Fence.wide] at h)); refine (ident_any _ (v : Int) x1 x2 _).mono ?_; rintro e9 X1 ⟨rfl, hb1⟩; obtain ⟨cy1, hcc1⟩ := HCL.out X1 hb1; obtain ⟨fn, tmps, assign, body, hy, hR⟩ := HYY.out X1 hb1; have HR := hide hR; have HC1 := hide hcc1; clear hR hcc1 hb1; try dsimp only
                refine hK _ _ ?_
                clear hK K
                refine wpAnyIn_ready (rs := [7]) (by kernel_rfl) (by simp) ?_
                refine AllReadyIn.cons rfl (fun K hK => ?_) ?_
                · go_simp
                  (with_reducible refine And.intro ?_ ?_); (first | rfl | (intro h; simp [Fence.wide] at h)); refine (round_any HR.out _).mono ?_; rintro e9 X2 ⟨rfl, hj2, hc2⟩; have HJ2 := hide hj2; have HC2 := hide hc2; clear hj2 hc2 hy HR; try dsimp only
                  refine hK _ _ ?_
                  clear hK K
                  refine wpAnyIn_take (i := 8) (v := .bool false) rfl rfl (by kernel_rfl) (by kernel_rfl) (by kernel_rfl) (fun _ _ _ h => h) ⟨Or.inl ⟨by rfl, ?_⟩, fun _ => rfl⟩ ?_
                  · intro w; go_simp; try rfl
                  refine wpAnyIn_done (by kernel_rfl) ?_ _
                  (gi_wp2; first | exact ⟨rfl, HC1.out.trans HC2.out, HJ2.out, HC.out.trans (HC1.out.trans HC2.out)⟩ | exact ⟨HC1.out.trans HC2.out, HJ2.out, HC.out.trans (HC1.out.trans HC2.out)⟩)
                exact AllReadyIn.nil
              exact AllReadyIn.nil
            refine AllReadyIn.cons rfl (fun K hK => ?_) ?_
            · go_simp
              (with_reducible refine And.intro ?_ (And.intro ?_ ?_)); exact trivial; (first | rfl | (intro h; simp [Fence.wide] at h)); refine (ident_any _ (v : Int) x1 x2 _).mono ?_; rintro e9 X1 ⟨rfl, hb1⟩; obtain ⟨cy1, hcc1⟩ := HCL.out X1 hb1; obtain ⟨fn, tmps, assign, body, hy, hR⟩ := HYY.out X1 hb1; have HR := hide hR; have HC1 := hide hcc1; clear hR hcc1 hb1; try dsimp only
              refine hK _ _ ?_
              clear hK K
              refine wpAnyIn_ready (rs := [0]) (by kernel_rfl) (by simp) ?_
              refine AllReadyIn.cons rfl (fun K hK => ?_) ?_
              · go_simp
                refine hK _ _ ?_
                clear hK K
                refine wpAnyIn_ready (rs := [7]) (by kernel_rfl) (by simp) ?_
                refine AllReadyIn.cons rfl (fun K hK => ?_) ?_
                · go_simp
                  (with_reducible refine And.intro ?_ ?_); (first | rfl | (intro h; simp [Fence.wide] at h)); refine (round_any HR.out _).mono ?_; rintro e9 X2 ⟨rfl, hj2, hc2⟩; have HJ2 := hide hj2; have HC2 := hide hc2; clear hj2 hc2 hy HR; try dsimp only
                  refine hK _ _ ?_
                  clear hK K
                  refine wpAnyIn_take (i := 8) (v := .bool false) rfl rfl (by kernel_rfl) (by kernel_rfl) (by kernel_rfl) (fun _ _ _ h => h) ⟨Or.inl ⟨by rfl, ?_⟩, fun _ => rfl⟩ ?_
                  · intro w; go_simp; try rfl
                  refine wpAnyIn_done (by kernel_rfl) ?_ _
                  (gi_wp2; first | exact ⟨rfl, HC1.out.trans HC2.out, HJ2.out, HC.out.trans (HC1.out.trans HC2.out)⟩ | exact ⟨HC1.out.trans HC2.out, HJ2.out, HC.out.trans (HC1.out.trans HC2.out)⟩)
                exact AllReadyIn.nil
              exact AllReadyIn.nil
            exact AllReadyIn.nil
          exact AllReadyIn.nil
        exact AllReadyIn.nil
      case done =>
        rintro D Z hD ⟨hj, hc⟩ hK
        rw [upto_len] at hj
        have hW0 : W.heap.size ≤ D := by have := HSX.out; omega
        have hmk2 : MarksAt W.heap.size Z ({ target := .collected D, args := #[] } :: ds) := by
          refine ⟨⟨D, rfl, hW0, hK, fun D' hD' => ?_⟩, HMX.out.kept fun D' hb' hm' hw' => hc.heap hw' (fun h => by have := HTW.out _ h; omega)⟩
          have := HMX.out.lt D' hD'
          omega
        have HJ9 := hide hj
        have HM9 := hide hmk2
        have HC9 := hide (HCX.out.trans hc)
        clear hj hc hK hmk2
        gi_wp2
        exact ⟨⟨v + 1, e + m, _, _, _, _, _, _, _, _, _, _, _, _, _, _, _, _, _, _, _, _, _, by omega, hm, rfl, HJ9.out, HM9.out, HC9.out⟩, by simp [RowKit.intOf]; omega⟩
    · obtain rfl : v = n := by omega
      have hem : e = tl.length := by have := HGD.out.last; omega
      subst hem
      have HJ9 := hide hj
      have HM9 := hide hmk
      clear hj hmk hch k1 k2 k3 k4
      gi_wp2
      exact leave_marks HJ.out (by kernel_rfl) _ _ HM9.out HJ9.out
end Go.Proofs.Ytmagigmcbegmiaa

/- graph.listed, graph.Edges: all edges, row by row. -/
namespace Go.Proofs.Ytmagigmcbegmiaa
open Go.RowKit Go.Lib
set_option linter.unusedVariables false

def eObj (m : Nat) : Obj := .cells (madeCells (Value.agg #[.int .i64 0, .int .i64 0, .int .u64 0]).cells (m * 3)) 50
theorem run_makeE (m : Nat) (hm : m ≤ 4194304) (w : World) :
    (Instr.makeSlice 45 (.int .i64 0) (.int .i64 m)).run Try.prog w = .ok (.slice (some ⟨w.heap.size, 0, none⟩) 0 m) (w.alloc (eObj m)) := by
  obtain ⟨i0, hi, hz0, hz1, hz2⟩ := info_parts Try.infoE
  have h := run_make (P := Try.prog) w 45 50 i0 (.agg #[.int .i64 0, .int .i64 0, .int .u64 0]) Try.underlying45 hi hz0 .i64 .i64 0 m (by omega) (by omega) (by rw [hz2]; omega) (by omega)
  rw [hz1] at h
  simp only [Int.toNat_natCast] at h
  exact h
theorem made_owns {X : World} {R m base : Nat} (h : X.heap[R]? = some (eObj m)) (hb : base ≤ R) (hm : m ≤ 4194304) : X.ownsRow base 50 3 (.slice (some ⟨R, 0, none⟩) 0 m) 0 [] :=
  ⟨by simp, .inr ⟨R, m, _, rfl, hb, h, Nat.zero_le _, by unfold maxLen; omega, by simp [madeCells], by simp⟩⟩
/-- AppendSeq of all edges, from any world behind w. -/
theorem list_call (n : Nat) (va vb vc : Value) (st tl wt : List Int) (w X : World) (R Bg Bc : Nat) (hg : GIs w n va vb vc st tl wt) (hgd : Good n st tl wt) (hb : Below w.heap.size w X) (hR : X.heap[R]? = some (eObj tl.length)) (hRw : w.heap.size ≤ R) (h1 : R ≠ Bg) (h2 : R ≠ Bc)
    (hB : X.heap[Bg]? = some (.cells #[.int .i64 n, va, vb, vc] 25 (0, 0))) (hC : X.heap[Bc]? = some (.cells #[.func (.func 86) #[] #[]] 109 (0, 0))) :
    Calls Try.prog 87 #[.slice (some ⟨R, 0, none⟩) 0 tl.length, .func (.func 89) #[] #[.pointer (some ⟨Bg, 0, none⟩), .pointer (some ⟨Bc, 0, none⟩)]] X fun e w' => e = .returned (.slice (some ⟨R, 0, none⟩) tl.length tl.length) ∧ EAt w' (.slice (some ⟨R, 0, none⟩) tl.length tl.length) (upto (edgeAt n st tl wt) tl.length) ∧ Below w.heap.size w w' ∧ w.heap.size ≤ R := by
  have hl : (upto (edgeAt n st tl wt) tl.length).length = tl.length := upto_len _ _
  have := lt_of_heap hB
  have := lt_of_heap hC
  have hs := edges1_gives (fun k => k = R ∨ k = X.heap.size) n va vb vc st tl wt Bg Bc w X hg hgd hb (fun k hk => by have := hb.size; rcases hk with rfl | rfl <;> exact ⟨by omega, by omega, by omega⟩) hB hC
  have hc := appendSeq_any 0 R tl.length w.heap.size 89 _ _ X (enters_of Try.func89 (by kernel_rfl) rfl) (made_owns hR hRw hgd.m_le) (by rw [hl]; exact Nat.le_refl _) hs
  rw [hl] at hc
  refine (callsIn_wide.1 hc).mono ?_
  rintro e w' ⟨rfl, ho, hch⟩
  refine ⟨rfl, ?_, Chg.below hb hch (fun i hi => by subst hi; exact hRw) hb.size, hRw⟩
  have ho' : w'.ownsRow w.heap.size 50 3 (.slice (some ⟨R, 0, none⟩) tl.length tl.length) (upto (edgeAt n st tl wt) tl.length).length (eCells (upto (edgeAt n st tl wt) tl.length)) := by rw [hl]; exact ho
  exact EAt.of_owns ho'
theorem three_new (w : World) (a b c : Array Value) (r s t : TypeId) : (((w.alloc (.cells a r)).alloc (.cells b s)).alloc (.cells c t)).drew.heap[w.heap.size]? = some (.cells a r (0, 0)) ∧ (((w.alloc (.cells a r)).alloc (.cells b s)).alloc (.cells c t)).drew.heap[w.heap.size + 1]? = some (.cells b s (0, 0)) ∧ (((w.alloc (.cells a r)).alloc (.cells b s)).alloc (.cells c t)).drew.heap[w.heap.size + 1 + 1]? = some (.cells c t (0, 0)) ∧ Below w.heap.size w (((w.alloc (.cells a r)).alloc (.cells b s)).alloc (.cells c t)).drew := by
  refine ⟨?_, ?_, ?_, below_drew (below_alloc (below_alloc (below_alloc (Below.refl _ _) _) _) _)⟩
  · exact (Below.heap_alloc _ _ _ (by simp; omega)).trans ((Below.heap_alloc _ _ _ (by simp)).trans (heap_new _ _))
  · have := heap_new (w.alloc (.cells a r)) (.cells b s)
    rw [World.size_alloc] at this
    exact (Below.heap_alloc _ _ _ (by simp)).trans this
  · have := heap_new ((w.alloc (.cells a r)).alloc (.cells b s)) (.cells c t)
    rw [World.size_alloc, World.size_alloc] at this
    exact this
set_option maxRecDepth 100000 in
set_option maxHeartbeats 4000000 in
theorem listed_any (n : Nat) (va vb vc : Value) (st tl wt : List Int) (w : World) (hg : GIs w n va vb vc st tl wt) (hgd : Good n st tl wt) :
    Calls Try.prog 60 #[gAgg n va vb vc] w fun e w' => ∃ R, e = .returned (.slice (some ⟨R, 0, none⟩) tl.length tl.length) ∧ EAt w' (.slice (some ⟨R, 0, none⟩) tl.length tl.length) (upto (edgeAt n st tl wt) tl.length) ∧ Below w.heap.size w w' ∧ w.heap.size ≤ R := by
  obtain ⟨ao, ca, rfl⟩ := hg.s.shape
  obtain ⟨bo, cb, rfl⟩ := hg.t.shape
  obtain ⟨co, cc, rfl⟩ := hg.u.shape
  have hml := hgd.m_le
  obtain ⟨c0, c1, c2, c3, hb1, hs1⟩ := boxed w (.int .i64 n) (.slice ao st.length ca) (.slice bo tl.length cb) (.slice co wt.length cc)
  have hmk := run_makeE tl.length hml
  have HL := hide (fun X R Bg Bc hb hR hRw h1 h2 hB hC => list_call n (.slice ao st.length ca) (.slice bo tl.length cb) (.slice co wt.length cc) st tl wt w X R Bg Bc hg hgd hb hR hRw h1 h2 hB hC)
  have HB := hide hb1
  unfold gAgg
  clear hg hgd hb1
  go_enter Try.func60, Try.ntmps60
  go_wp2
  generalize (w.alloc (.cells #[.int .i64 n, .slice ao st.length ca, .slice bo tl.length cb, .slice co wt.length cc] 25)) = w1 at c0 c1 c2 c3 hs1 HB ⊢
  have HLA := hide (HL.out (((w1.alloc (eObj tl.length)).alloc (.cells #[.int .i64 n, .slice ao st.length ca, .slice bo tl.length cb, .slice co wt.length cc] 25)).alloc (.cells #[.func (.func 86) #[] #[]] 109)).drew w1.heap.size (w1.heap.size + 1) (w1.heap.size + 1 + 1) (below_on HB.out (three_new w1 _ _ _ 50 25 109).2.2.2) (three_new w1 _ _ _ 50 25 109).1 HB.out.size (by omega) (by omega) (three_new w1 _ _ _ 50 25 109).2.1 (three_new w1 _ _ _ 50 25 109).2.2.1)
  have HLB := hide (HL.out (((w1.alloc (.cells #[.int .i64 n, .slice ao st.length ca, .slice bo tl.length cb, .slice co wt.length cc] 25)).alloc (.cells #[.func (.func 86) #[] #[]] 109)).alloc (eObj tl.length)).drew (w1.heap.size + 1 + 1) w1.heap.size (w1.heap.size + 1) (below_on HB.out (three_new w1 _ _ _ 25 109 50).2.2.2) (three_new w1 _ _ _ 25 109 50).2.2.1 (by have := HB.out.size; omega) (by omega) (by omega) (three_new w1 _ _ _ 25 109 50).1 (three_new w1 _ _ _ 25 109 50).2.1)
  clear HL HB
  go_region_with (first
    | (go_at_call 65; refine (callsIn_wide.1 (edgesI_any 0 n (.slice ao st.length ca) (.slice bo tl.length cb) (.slice co wt.length cc) (.int .i64 0) _)).mono ?_; rintro e9 w9 ⟨rfl, rfl⟩)
    | (go_at_call 87; with_reducible refine HLA.out.mono ?_; rintro e9 w9 ⟨rfl, hE, hbE, hlE⟩; have HE := hide hE; have HBE := hide hbE; have HLE := hide hlE; clear hE hbE hlE)
    | (go_at_call 87; with_reducible refine HLB.out.mono ?_; rintro e9 w9 ⟨rfl, hE, hbE, hlE⟩; have HE := hide hE; have HBE := hide hbE; have HLE := hide hlE; clear hE hbE hlE))
  all_goals
    go_wp2
    go_ret
    exact ⟨_, rfl, HE.out, HBE.out, HLE.out⟩
end Go.Proofs.Ytmagigmcbegmiaa

/- graph.Edges of a graph. -/
namespace Go.Proofs.Ytmagigmcbegmiaa
open Go.RowKit Go.Lib
set_option linter.unusedVariables false
structure ME (w x : World) (N : Int) (va vb vc : Value) : Prop where
  bg : x.heap[w.heap.size]? = some (.cells #[.int .i64 N, va, vb, vc] 25 (0, 0))
  rs : x.heap[w.heap.size + 1]? = some (.cells #[.int .i64 0, .slice none 0 0] 47 (0, 0))
  bel : Below w.heap.size w x
theorem ME.start (w : World) (N : Int) (va vb vc : Value) : ME w ((w.alloc (.cells #[.int .i64 N, va, vb, vc] 25)).alloc (.cells #[.int .i64 0, .slice none 0 0] 47)) N va vb vc := by
  have hs : (w.alloc (.cells #[.int .i64 N, va, vb, vc] 25)).heap.size = w.heap.size + 1 := by simp
  refine ⟨?_, ?_, below_alloc (below_alloc (Below.refl _ _) _) _⟩
  · exact (Below.heap_alloc _ _ _ (by rw [hs]; omega)).trans (heap_new _ _)
  · have := heap_new (w.alloc (.cells #[.int .i64 N, va, vb, vc] 25)) (.cells #[.int .i64 0, .slice none 0 0] 47)
    rw [hs] at this; exact this
theorem ME.below {w x x' : World} {N : Int} {va vb vc : Value} (h : ME w x N va vb vc) (hb : Below x.heap.size x x') : ME w x' N va vb vc :=
  ⟨(hb.block _ (lt_of_heap h.bg)).trans h.bg, (hb.block _ (lt_of_heap h.rs)).trans h.rs, below_on h.bel hb⟩
theorem ME.drew {w x : World} {N : Int} {va vb vc : Value} (h : ME w x N va vb vc) : ME w x.drew N va vb vc := h.below (below_drew (Below.refl _ _))
theorem ME.put {w x : World} {N : Int} {va vb vc : Value} (h : ME w x N va vb vc) (y0 y1 : Value) :
    ((x.setCell ⟨w.heap.size + 1, 0, none⟩ y0).setCell ⟨w.heap.size + 1, 1, none⟩ y1).heap[w.heap.size + 1]? = some (.cells #[y0, y1] 47 (0, 0)) ∧
    Below w.heap.size w ((x.setCell ⟨w.heap.size + 1, 0, none⟩ y0).setCell ⟨w.heap.size + 1, 1, none⟩ y1) ∧
    ∀ k i, k ≠ w.heap.size + 1 → ((x.setCell ⟨w.heap.size + 1, 0, none⟩ y0).setCell ⟨w.heap.size + 1, 1, none⟩ y1).cell? ⟨k, i, none⟩ = x.cell? ⟨k, i, none⟩ := by
  refine ⟨by rw [heap_set (heap_set h.rs _) _]; rfl, ?_, fun k i hk => ?_⟩
  · exact (h.bel.setCell (p := ⟨w.heap.size + 1, 0, none⟩) (by simp) _).setCell (p := ⟨w.heap.size + 1, 1, none⟩) (by simp) _
  · have e : ((x.setCell ⟨w.heap.size + 1, 0, none⟩ y0).setCell ⟨w.heap.size + 1, 1, none⟩ y1).heap[k]? = x.heap[k]? := by
      rw [Below.heap_setCell _ _ _ _ (by exact hk), Below.heap_setCell _ _ _ _ (by exact hk)]
    simp only [World.cell?, e]
theorem EAt.cells {w w' : World} {R c : Nat} {l : List Ed3} (h : EAt w (.slice (some ⟨R, 0, none⟩) l.length c) l) (hs : ∀ i, w'.cell? ⟨R, i, none⟩ = w.cell? ⟨R, i, none⟩) : EAt w' (.slice (some ⟨R, 0, none⟩) l.length c) l := by
  obtain ⟨ao, c', hv, h1, h2, h3⟩ := h
  cases hv
  refine ⟨_, c, rfl, h1, h2, fun i hi => ?_⟩
  obtain ⟨g, o, he, p, q, r⟩ := h3 i hi
  cases he
  exact ⟨R, 0, rfl, (hs _).trans p, (hs _).trans q, (hs _).trans r⟩
theorem Try.results29 : Try.f29.results = #[.cell 2 47, .tmp 3] := by kernel_rfl
def EdgesW (w : World) (n : Nat) (st tl wt : List Int) (e : Ending) (w' : World) : Prop :=
  ∃ R, e = .returned (.tuple #[.agg #[.int .i64 n, .slice (some ⟨R, 0, none⟩) tl.length tl.length], .int .i64 0]) ∧ EAt w' (.slice (some ⟨R, 0, none⟩) tl.length tl.length) (upto (edgeAt n st tl wt) tl.length) ∧ Below w.heap.size w w' ∧ w.heap.size ≤ R
set_option maxRecDepth 100000 in
set_option maxHeartbeats 4000000 in
theorem edges_good (n : Nat) (va vb vc : Value) (st tl wt : List Int) (w : World) (hg : GIs w n va vb vc st tl wt) (hgd : Good n st tl wt) (hchk : (chk n st tl wt).1 = 0) :
    Calls Try.prog 29 #[gAgg n va vb vc] w (EdgesW w n st tl wt) := by
  obtain ⟨ao, ca, rfl⟩ := hg.s.shape
  obtain ⟨bo, cb, rfl⟩ := hg.t.shape
  obtain ⟨co, cc, rfl⟩ := hg.u.shape
  have hml := hgd.m_le
  have hn := hgd.n_le
  obtain ⟨⟨r1, r2⟩, hrr⟩ : ∃ r, chk n st tl wt = r := ⟨_, rfl⟩
  rw [hrr] at hchk
  simp only at hchk
  subst hchk
  have hck := (fun W h => check_all n (.slice ao st.length ca) (.slice bo tl.length cb) (.slice co wt.length cc) st tl wt W h (by have := hgd.s_len; omega) (by omega) (by have := hgd.w_len; omega))
  rw [hrr] at hck
  have HCK := hide hck
  have HLI := hide (fun W h => listed_any n (.slice ao st.length ca) (.slice bo tl.length cb) (.slice co wt.length cc) st tl wt W h hgd)
  have HK1 := hide (ME.start w n (.slice ao st.length ca) (.slice bo tl.length cb) (.slice co wt.length cc))
  have HG := hide hg
  have c0 := cell_of HK1.out.bg (i := 0) rfl
  have c1 := cell_of HK1.out.bg (i := 1) rfl
  have c2 := cell_of HK1.out.bg (i := 2) rfl
  have c3 := cell_of HK1.out.bg (i := 3) rfl
  unfold gAgg at HCK HLI ⊢
  clear hg hgd hck hrr
  go_enter Try.func29, Try.ntmps29
  go_wp2_with fail
  generalize ((w.alloc (.cells #[.int .i64 n, .slice ao st.length ca, .slice bo tl.length cb, .slice co wt.length cc] 25)).alloc (.cells #[.int .i64 0, .slice none 0 0] 47)) = w1 at c0 c1 c2 c3 HK1 ⊢
  refine (HCK.out w1 (HG.out.below HK1.out.bel)).mono ?_
  rintro e w2 ⟨rfl, hb2⟩
  have HK2 := hide (HK1.out.below hb2)
  have HGR := hide (HG.out.below HK2.out.bel)
  have HLL := hide (HLI.out w2.drew (HGR.out.below (below_drew (Below.refl _ _))))
  have d0 := cell_of HK2.out.bg (i := 0) rfl
  have d1 := cell_of HK2.out.bg (i := 1) rfl
  have d2 := cell_of HK2.out.bg (i := 2) rfl
  have d3 := cell_of HK2.out.bg (i := 3) rfl
  clear c0 c1 c2 c3 HK1 hb2 HCK HLI HG
  go_wp2_with fail
  go_region_with (go_at_call 60; refine HLL.out.mono ?_; rintro e9 w3 ⟨R, rfl, hE, hb3, hR⟩; have HK3 := hide (HK2.out.drew.below hb3); have HE := hide hE; have HR := hide hR; have b0 := cell_of HK3.out.bg (i := 0) rfl; have b1 := cell_of HK3.out.rs (i := 0) rfl; have b2 := cell_of HK3.out.rs (i := 1) rfl; have b3 := free_of HK3.out.rs 0; have b4 := free_of HK3.out.rs 1; clear hE hb3 hR)
  all_goals
    go_wp2
    have hRs : w.heap.size + 1 < w2.heap.size := lt_of_heap HK2.out.rs
    have hRl : w2.heap.size ≤ R := HR.out
    have HPU := HK3.out.put (.int .i64 n) (.slice (some ⟨R, 0, none⟩) tl.length tl.length)
    have hE2 : EAt w3 (.slice (some ⟨R, 0, none⟩) (upto (edgeAt n st tl wt) tl.length).length tl.length) (upto (edgeAt n st tl wt) tl.length) := by rw [upto_len]; exact HE.out
    have hE3 := hE2.cells (fun i => HPU.2.2 R i (by omega))
    rw [upto_len] at hE3
    exact bodyPost_ret (results_cell2 Try.results29 _ _ (w.heap.size + 1) 47 _ (0, 0) _ rfl HPU.1 Try.underlying47 rfl (by kernel_rfl) (.int .i64 0) rfl) rfl ⟨R, rfl, hE3, HPU.2.1, by omega⟩
end Go.Proofs.Ytmagigmcbegmiaa
