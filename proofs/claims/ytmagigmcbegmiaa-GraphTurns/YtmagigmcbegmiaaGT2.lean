import Derived.Test.YtmagigmcbegmiaaGB
import Derived.Test.YtmagigmcbegmiaaReachP
import Derived.Test.YtmagigmcbegmiaaChecksWalk
import Derived.BigRegion
import Derived.BigQuiet
/- graph.edges with all edges turned. -/
namespace Go.Proofs.Ytmagigmcbegmiaa
open Go.RowKit Go.Lib Go.Shelf
set_option linter.unusedVariables false
attribute [local go_sem] Oper.semAt_some
theorem edgesT_any (n' : Nat) (N : Int) (va vb vc : Value) (w : World) : CallsIn Fence.wide n' Try.prog 65 #[gAgg N va vb vc, .func (.func 66) #[] #[]] w fun e w' => e = .returned (.func (.func 89) #[] #[.pointer (some ⟨w.heap.size, 0, none⟩), .pointer (some ⟨w.heap.size + 1, 0, none⟩)]) ∧ w' = (w.alloc (.cells #[.int .i64 N, va, vb, vc] 25)).alloc (.cells #[.func (.func 66) #[] #[]] 109) := by
  unfold gAgg
  refine callsIn_of_wp Try.func65 rfl trivial ?_ rfl
  simp only [Try.ntmps65, List.size_toArray, List.length_cons, List.length_nil, Nat.reduceAdd, Nat.reduceSub, Array.replicate_succ, Array.replicate_zero, List.push_toArray, List.append_toArray, List.nil_append, List.cons_append]
  gi_wp2
  go_ret
  exact ⟨rfl, rfl⟩
theorem Try.results66 : Try.f66.results = #[.cell 2 50] := by kernel_rfl
theorem swap_any (n' : Nat) (a b c : Int) (w : World) : CallsIn Fence.wide n' Try.prog 66 #[.agg #[.int .i64 a, .int .i64 b, .int .u64 c]] w fun e w' => e = .returned (.agg #[.int .i64 b, .int .i64 a, .int .u64 c]) ∧ Below w.heap.size w w' := by
  refine callsIn_of_wp Try.func66 rfl trivial ?_ rfl
  simp only [Try.ntmps66, List.size_toArray, List.length_cons, List.length_nil, Nat.reduceAdd, Nat.reduceSub, Array.replicate_succ, Array.replicate_zero, List.push_toArray, List.append_toArray, List.nil_append, List.cons_append]
  have hh : ((w.alloc (.cells #[.int .i64 a, .int .i64 b, .int .u64 c] 50)).alloc (.cells #[.int .i64 0, .int .i64 0, .int .u64 0] 50)).heap[w.heap.size]? = some (.cells #[.int .i64 a, .int .i64 b, .int .u64 c] 50 (0, 0)) := (Below.heap_alloc _ _ _ (by simp)).trans (heap_new w _)
  have q0 := cell_of hh (i := 0) rfl
  have q1 := cell_of hh (i := 1) rfl
  have q2 := cell_of hh (i := 2) rfl
  clear hh
  gi_wp2
  have hh := heap_new (w.alloc (.cells #[.int .i64 a, .int .i64 b, .int .u64 c] 50)) (.cells #[.int .i64 b, .int .i64 a, .int .u64 c] 50)
  rw [World.size_alloc] at hh
  exact bodyPost_ret (results_cell_row Try.results66 _ _ (w.heap.size + 1) 50 _ (0, 0) _ rfl hh Try.underlying50 rfl (by kernel_rfl)) rfl ⟨rfl, below_alloc (below_alloc (Below.refl _ _) _) _⟩
/-- The e-th edge, turned. -/
def turnAt (n : Nat) (st tl wt : List Int) (e : Nat) : Int × Int × Int := (at_ tl e, (src st n e : Nat), at_ wt e)
set_option maxRecDepth 100000 in
set_option maxHeartbeats 4000000 in
theorem edgesT_gives (T : Nat → Prop) (n : Nat) (va vb vc : Value) (st tl wt : List Int) (Bg Bc : Nat) (w0 w : World) (hg : GIs w0 n va vb vc st tl wt) (hgd : Good n st tl wt) (hb : Below w0.heap.size w0 w)
    (hT : ∀ k, T k → w0.heap.size ≤ k ∧ k ≠ Bg ∧ k ≠ Bc) (hB : w.heap[Bg]? = some (.cells #[.int .i64 n, va, vb, vc] 25 (0, 0))) (hC : w.heap[Bc]? = some (.cells #[.func (.func 66) #[] #[]] 109 (0, 0))) :
    Gw T Try.prog 89 #[.pointer (some ⟨Bg, 0, none⟩), .pointer (some ⟨Bc, 0, none⟩)] encE (upto (turnAt n st tl wt) tl.length) w := by
  intro l J W hW hTW hJ hY h0 n'
  have hn := hgd.n_le
  have hml := hgd.m_le
  have hB' := (hW.block _ (lt_of_heap hB)).trans hB
  have hC' := (hW.block _ (lt_of_heap hC)).trans hC
  obtain ⟨Wy, hWy⟩ : ∃ Wy, Wy = W.alloc (.cells #[.func (.yield l) #[] #[]] 128) := ⟨_, rfl⟩
  have bWy : Below W.heap.size W Wy := by rw [hWy]; exact below_alloc (Below.refl _ _) _
  have sWy : Wy.heap.size = W.heap.size + 1 := by rw [hWy]; simp
  have gB : Wy.heap[Bg]? = some (.cells #[.int .i64 n, va, vb, vc] 25 (0, 0)) := (bWy.block _ (lt_of_heap hB')).trans hB'
  have gC : Wy.heap[Bc]? = some (.cells #[.func (.func 66) #[] #[]] 109 (0, 0)) := (bWy.block _ (lt_of_heap hC')).trans hC'
  have gY : Wy.heap[W.heap.size]? = some (.cells #[.func (.yield l) #[] #[]] 128 (0, 0)) := by rw [hWy]; exact heap_new _ _
  have cB : Wy.cell? ⟨Bg, 0, none⟩ = some (.int .i64 n) := cell_of gB (i := 0) rfl
  have j0 : J [] Wy := hJ _ _ _ none h0 (by rw [hWy]; exact World.grownBy_alloc _ _ _) (fun _ h => by cases h)
  have lowY : Below w0.heap.size w0 Wy := below_on (below_on hb hW) bWy
  have key : ∀ X, Chg T Wy X → X.heap[Bg]? = some (.cells #[.int .i64 n, va, vb, vc] 25 (0, 0)) ∧ X.heap[Bc]? = some (.cells #[.func (.func 66) #[] #[]] 109 (0, 0)) ∧ X.heap[W.heap.size]? = some (.cells #[.func (.yield l) #[] #[]] 128 (0, 0)) ∧ Below w0.heap.size w0 X := fun X hX =>
    ⟨hX.heap gB (fun h => (hT _ h).2.1 rfl), hX.heap gC (fun h => (hT _ h).2.2 rfl), hX.heap gY (fun h => by have := hTW _ h; omega), Chg.below lowY hX (fun i hi => (hT i hi).1) lowY.size⟩
  have HK := hide key
  have HY := hide hY
  have HJ := hide hJ
  have H0 := hide j0
  have HGD := hide hgd
  have HG := hide hg
  have HT := hide hT
  have HTW := hide hTW
  have HSY := hide sWy
  clear key hY hJ h0 j0 hg hB hC hB' hC' gB gC gY hT hTW hb hW bWy lowY sWy hgd
  refine callsIn_of_wp_marks Try.func89 rfl trivial ?_ rfl
  simp only [Try.ntmps89, List.size_toArray, List.length_cons, List.length_nil, Nat.reduceAdd, Nat.reduceSub, Array.replicate_succ, Array.replicate_zero, List.push_toArray, List.append_toArray, List.nil_append, List.cons_append]
  rw [hWy] at cB
  gi_wp2
  rw [← hWy] at *
  clear hWy cB
  refine wpIn_loop (fun a' wr => ∃ (v e : Nat) (ds : List Deferred) (u4 u5 u6 u10 u11 u12 u13 u14 u15 u16 u17 u18 u19 u20 u21 u22 u23 u24 u25 u26 : Value), v ≤ n ∧ at_ st v = (e : Int) ∧ a' = { tmps := #[.func (.yield l) #[] #[], .pointer (some ⟨Bg, 0, none⟩), .pointer (some ⟨Bc, 0, none⟩), .pointer (some ⟨W.heap.size, 0, none⟩), u4, u5, u6, .pointer (some ⟨Bg, 0, none⟩), .int .i64 n, .int .i64 (v : Int), u10, u11, u12, u13, u14, u15, u16, u17, u18, u19, u20, u21, u22, u23, u24, u25, u26], defers := ds } ∧ J (upto (turnAt n st tl wt) e) wr ∧ MarksAt W.heap.size wr ds ∧ Chg T Wy wr) (fun a' _ => n - (RowKit.intOf (a'.tmps.getD 9 undef)).toNat) ?start ?round
  case start =>
    exact ⟨0, 0, [], _, _, _, _, _, _, _, _, _, _, _, _, _, _, _, _, _, _, _, _, Nat.zero_le _, HGD.out.zero, rfl, H0.out, trivial, Chg.refl _ _⟩
  case round =>
    rintro _ wr ⟨v, e, ds, u4, u5, u6, u10, u11, u12, u13, u14, u15, u16, u17, u18, u19, u20, u21, u22, u23, u24, u25, u26, hvn, he, rfl, hj, hmk, hch⟩
    obtain ⟨k1, k2, k3, k4⟩ := HK.out wr hch
    by_cases hlt : v < n
    · have d0 := cellAl (.cells #[.int .i64 (v : Int)] 3) (show wr.cell? ⟨Bg, 0, none⟩ = some (.int .i64 n) from cell_of k1 (i := 0) rfl)
      have d1 := cellAl (.cells #[.int .i64 (v : Int)] 3) (show wr.cell? ⟨Bg, 1, none⟩ = some va from cell_of k1 (i := 1) rfl)
      have d2 := cellAl (.cells #[.int .i64 (v : Int)] 3) (show wr.cell? ⟨Bg, 2, none⟩ = some vb from cell_of k1 (i := 2) rfl)
      have d3 := cellAl (.cells #[.int .i64 (v : Int)] 3) (show wr.cell? ⟨Bg, 3, none⟩ = some vc from cell_of k1 (i := 3) rfl)
      have hvi : (v : Int) < (n : Int) := by omega
      obtain ⟨m, hm⟩ : ∃ m : Nat, at_ st (v + 1) = ((e + m : Nat) : Int) := ⟨(at_ st (v + 1) - e).toNat, by have := HGD.out.step v hlt; omega⟩
      have hme : e + m ≤ tl.length := by have := (HGD.out.range (v + 1) (by omega)).2; omega
      obtain ⟨X, hX⟩ : ∃ X, X = ((wr.alloc (.cells #[.int .i64 (v : Int)] 3)).alloc (.cells #[.int .i64 n, va, vb, vc] 25)).alloc (.cells #[.int .i64 (v : Int)] 3) := ⟨_, rfl⟩
      have bX : Below wr.heap.size wr X := by rw [hX]; exact below_alloc (below_alloc (below_alloc (Below.refl _ _) _) _) _
      have sX : X.heap.size = wr.heap.size + 3 := by rw [hX]; simp
      have x0 : X.heap[wr.heap.size]? = some (.cells #[.int .i64 (v : Int)] 3 (0, 0)) := by rw [hX]; exact (Below.heap_alloc _ _ _ (by simp; omega)).trans ((Below.heap_alloc _ _ _ (by simp)).trans (heap_new _ _))
      have x1 : X.heap[wr.heap.size + 1]? = some (.cells #[.int .i64 n, va, vb, vc] 25 (0, 0)) := by
        have := heap_new (wr.alloc (.cells #[.int .i64 (v : Int)] 3)) (.cells #[.int .i64 n, va, vb, vc] 25)
        rw [World.size_alloc] at this
        rw [hX]; exact (Below.heap_alloc _ _ _ (by simp)).trans this
      have x2 : X.heap[wr.heap.size + 1 + 1]? = some (.cells #[.int .i64 (v : Int)] 3 (0, 0)) := by
        have := heap_new ((wr.alloc (.cells #[.int .i64 (v : Int)] 3)).alloc (.cells #[.int .i64 n, va, vb, vc] 25)) (.cells #[.int .i64 (v : Int)] 3)
        rw [World.size_alloc, World.size_alloc] at this
        rw [hX]; exact this
      have cX : Chg T Wy X := hch.trans (Chg.of_below bX)
      have jX : J (upto (turnAt n st tl wt) e) X := HJ.out _ _ _ none hj ⟨bX.os, bX.tape, bX.output, bX.size, fun k hk _ => bX.block k hk⟩ (fun _ h => by cases h)
      have mX : MarksAt W.heap.size X ds := hmk.kept fun D _ _ h => (bX.block _ (lt_of_heap h)).trans h
      have wWr : W.heap.size + 1 ≤ wr.heap.size := by have := hch.size; have := HSY.out; omega
      have hTX : ∀ k, T k → k < W.heap.size := HTW.out
      have hgiv := row1_gives T n va vb vc st tl wt v e m (wr.heap.size + 1) (wr.heap.size + 1 + 1) w0 X HG.out HGD.out hlt he hm hme (below_on k4 bX) (fun k hk => ⟨(HT.out k hk).1, by have := hTX k hk; omega, by have := hTX k hk; omega⟩) x1 x2
      have HGV := hide hgiv
      have HX := hide hX
      have HJX := hide jX
      have HMX := hide mX
      have HCX := hide cX
      have HSX := hide sX
      have HX0 := hide x0
      have HBX := hide bX
      clear hgiv bX sX x0 x1 x2 cX jX mX hj hmk hch k1 k2 k3 k4 H0 hTX
      gi_wp2_with (refine ⟨trivial, (fun h => by simp [Fence.wide] at h), ?_⟩; refine (row_any _ n va vb vc v _).mono ?_; rintro e9 w9 ⟨rfl, rfl⟩)
      rw [← hX]
      clear hX d0 d1 d2 d3
      refine rfw_law (T := T) (gf := 84) (lb := #[.pointer (some ⟨wr.heap.size + 1, 0, none⟩), .pointer (some ⟨wr.heap.size + 1 + 1, 0, none⟩)]) rfl (enters_of Try.func84 (by kernel_rfl) rfl) HGV.out.wide (Below.refl _ _) (fun k hk => by have := HTW.out k hk; have := HSX.out; omega) (fun _ => rfl)
        (fun pre Z => J (upto (turnAt n st tl wt) (e + pre.length)) Z ∧ Chg T X Z)
        (fun pre A B row hs hgr hr => ⟨HJ.out _ _ _ row hs.1 hgr (fun r h => ⟨by have := (hr r h).1; have := HSX.out; omega, (hr r h).2⟩), hs.2.grown hgr fun k hk => .inr (hr k hk).1⟩)
        ⟨HJX.out, Chg.refl _ _⟩
        (fun x a' _ => a' = { tmps := #[.func (.yield l) #[] #[], .pointer (some ⟨Bg, 0, none⟩), .pointer (some ⟨Bc, 0, none⟩), .pointer (some ⟨W.heap.size, 0, none⟩), .pointer (some ⟨wr.heap.size, 0, none⟩), .int .i64 x.1, .int .u64 x.2, .pointer (some ⟨Bg, 0, none⟩), .int .i64 n, .int .i64 (v : Int), .bool true, .int .i64 (v : Int), .agg #[.int .i64 n, va, vb, vc], .int .i64 (v : Int), .func (.func 84) #[] #[.pointer (some ⟨wr.heap.size + 1, 0, none⟩), .pointer (some ⟨wr.heap.size + 1 + 1, 0, none⟩)], .int .i64 x.1, .int .u64 x.2, u17, u18, u19, u20, u21, u22, u23, u24, u25, u26], defers := [] }) (fun _ _ _ _ _ _ hs _ _ => hs) ?assign ?body ?done
      case assign =>
        rintro l2 pre x Z K hi hK
        dsimp only [encR]
        gi_wp2
        exact hK _ _ (Chg.refl _ _) hi rfl
      case body =>
        rintro l2 pre x a' Z ⟨hj, hc⟩ rfl hp
        obtain ⟨hpl, hpe, hxe⟩ := upto_at hp
        have hs : src st n (e + pre.length) = v := by
          exact src_eq HGD.out hlt (by rw [he]; omega) (by rw [hm]; omega)
        have hxx : turnAt n st tl wt (e + pre.length) = (x.1, (v : Int), x.2) := by unfold turnAt; rw [hs, hxe]; rfl
        have hcZ : Chg T Wy Z := HCX.out.trans hc
        obtain ⟨k1, k2, k3, k4⟩ := HK.out Z hcZ
        have k5 : Z.heap[wr.heap.size]? = some (.cells #[.int .i64 (v : Int)] 3 (0, 0)) := hc.heap HX0.out (fun h => by have := HTW.out _ h; omega)
        have HYY : Hid (∀ X1, Below Z.drew.heap.size Z.drew X1 → YieldAt Fence.wide 0 Try.prog l #[.agg #[.int .i64 x.1, .int .i64 (v : Int), .int .u64 x.2]] X1 (fun e' W' => e' = .returned (.bool true) ∧ J (upto (turnAt n st tl wt) (e + (pre.length + 1))) W' ∧ Chg T X1 W')) := fun X1 hb1 => by
          have h1 := HY.out (upto (turnAt n st tl wt) (e + pre.length)) (turnAt n st tl wt (e + pre.length)) X1 (HJ.out _ _ _ none hj ⟨hb1.os, hb1.tape, hb1.output, hb1.size, fun k hk _ => hb1.block k hk⟩ (fun _ h => by cases h)) (by rw [← upto_succ]; exact upto_pre _ (by omega))
          rw [← upto_succ, hxx] at h1
          rw [← Nat.add_assoc]
          exact h1
        have HC := hide hc
        have cy : Z.cell? ⟨W.heap.size, 0, none⟩ = some (.func (.yield l) #[] #[]) := cell_of k3 (i := 0) rfl
        have cc : Z.cell? ⟨Bc, 0, none⟩ = some (.func (.func 66) #[] #[]) := cell_of k2 (i := 0) rfl
        have cv : Z.cell? ⟨wr.heap.size, 0, none⟩ = some (.int .i64 (v : Int)) := cell_of k5 (i := 0) rfl
        have HCL : Hid (∀ X1, Below Z.drew.heap.size Z.drew X1 → X1.cell? ⟨W.heap.size, 0, none⟩ = some (.func (.yield l) #[] #[]) ∧ Chg T Z X1) := fun X1 hb1 => ⟨(below_cell hb1 (block_of_cell cy)).trans cy, ((Chg.refl T Z).drew).trans (Chg.of_below hb1)⟩
        obtain ⟨x1, x2⟩ := x
        simp only at HYY ⊢
        have hmix : Try.prog.follows .mixedOrders = true := by kernel_rfl
        clear hj hc hcZ k1 k2 k3 k4 k5 hs hxx hpl hpe hxe hp HK HY HJ HGD HG HT HTW HSY HGV HX HJX HMX HCX HX0 HBX he hm hme
        gi_wp2
        refine wpIn_region_any hmix (any_in l2 ?nd _ _ _ _ ?main)
        case nd =>
          intro i o h c
          rcases i with _ | _ | _ | _ | _ | _ | _ | _ | _ | i <;> simp at h <;> (subst h) <;> simp
        show wpAnyIn _ _ _ _ _ _ 9 #[false, false, false, false, false, false, false, false, false] _ Z.drew
        refine wpAnyIn_take (i := 3) (v := .int .i64 x1) rfl rfl (by kernel_rfl) (by kernel_rfl) (by kernel_rfl) (fun _ _ _ h => h) ⟨Or.inl ⟨by rfl, ?_⟩, fun _ => rfl⟩ ?_
        · intro w; go_simp; try rfl
        refine wpAnyIn_take (i := 4) (v := .int .u64 x2) rfl rfl (by kernel_rfl) (by kernel_rfl) (by kernel_rfl) (fun _ _ _ h => h) ⟨Or.inl ⟨by rfl, ?_⟩, fun _ => rfl⟩ ?_
        · intro w; go_simp; try rfl
        refine wpAnyIn_ready (rs := [0, 1, 2]) (by kernel_rfl) (by simp) ?_
        refine AllReadyIn.cons rfl (fun K hK => ?_) ?_
        · go_simp
          refine hK _ _ ?_
          clear hK K
          refine wpAnyIn_ready (rs := [1, 2]) (by kernel_rfl) (by simp) ?_
          refine AllReadyIn.cons rfl (fun K hK => ?_) ?_
          · go_simp
            refine hK _ _ ?_
            clear hK K
            refine wpAnyIn_ready (rs := [2]) (by kernel_rfl) (by simp) ?_
            refine AllReadyIn.cons rfl (fun K hK => ?_) ?_
            · go_simp
              refine hK _ _ ?_
              clear hK K
              refine wpAnyIn_take (i := 5) (v := .agg #[.int .i64 (v : Int), .int .i64 x1, .int .u64 x2]) rfl rfl (by kernel_rfl) (by kernel_rfl) (by kernel_rfl) (fun _ _ _ h => h) ⟨Or.inl ⟨by rfl, ?_⟩, fun _ => rfl⟩ ?_
              · intro w; go_simp; try rfl
              refine wpAnyIn_ready (rs := [6]) (by kernel_rfl) (by simp) ?_
              refine AllReadyIn.cons rfl (fun K hK => ?_) ?_
              · go_simp
                (with_reducible refine And.intro ?_ (And.intro ?_ ?_)); exact trivial; (first | rfl | (intro h; simp [Fence.wide] at h)); refine (swap_any _ (v : Int) x1 x2 _).mono ?_; rintro e9 X1 ⟨rfl, hb1⟩; obtain ⟨cy1, hcc1⟩ := HCL.out X1 hb1; obtain ⟨fn, tmps, assign, body, hy, hR⟩ := HYY.out X1 hb1; have HR := hide hR; have HC1 := hide hcc1; clear hR hcc1 hb1; try dsimp only
                refine hK _ _ ?_
                clear hK K
                refine wpAnyIn_ready (rs := [7]) (by kernel_rfl) (by simp) ?_
                refine AllReadyIn.cons rfl (fun K hK => ?_) ?_
                · go_simp
                  (with_reducible refine And.intro ?_ ?_); (first | rfl | (intro h; simp [Fence.wide] at h)); refine (round_any HR.out _).mono ?_; rintro e9 X2 ⟨rfl, hj2, hc2⟩; have HJ2 := hide hj2; have HC2 := hide hc2; clear hj2 hc2 hy HR; try dsimp only
                  refine hK _ _ ?_
                  clear hK K
                  refine wpAnyIn_take (i := 8) (v := .bool false) rfl rfl (by kernel_rfl) (by kernel_rfl) (by kernel_rfl) (fun _ _ _ h => h) ⟨Or.inl ⟨by rfl, ?_⟩, fun _ => rfl⟩ ?_
                  · intro w; go_simp; try rfl
                  refine wpAnyIn_done (by kernel_rfl) ?_ _
                  (gi_wp2; first | exact ⟨rfl, HC1.out.trans HC2.out, HJ2.out, HC.out.trans (HC1.out.trans HC2.out)⟩ | exact ⟨HC1.out.trans HC2.out, HJ2.out, HC.out.trans (HC1.out.trans HC2.out)⟩)
                exact AllReadyIn.nil
              exact AllReadyIn.nil
            exact AllReadyIn.nil
          refine AllReadyIn.cons rfl (fun K hK => ?_) ?_
          · go_simp
            refine hK _ _ ?_
            clear hK K
            refine wpAnyIn_take (i := 5) (v := .agg #[.int .i64 (v : Int), .int .i64 x1, .int .u64 x2]) rfl rfl (by kernel_rfl) (by kernel_rfl) (by kernel_rfl) (fun _ _ _ h => h) ⟨Or.inl ⟨by rfl, ?_⟩, fun _ => rfl⟩ ?_
            · intro w; go_simp; try rfl
            refine wpAnyIn_ready (rs := [1]) (by kernel_rfl) (by simp) ?_
            refine AllReadyIn.cons rfl (fun K hK => ?_) ?_
            · go_simp
              refine hK _ _ ?_
              clear hK K
              refine wpAnyIn_ready (rs := [6]) (by kernel_rfl) (by simp) ?_
              refine AllReadyIn.cons rfl (fun K hK => ?_) ?_
              · go_simp
                (with_reducible refine And.intro ?_ (And.intro ?_ ?_)); exact trivial; (first | rfl | (intro h; simp [Fence.wide] at h)); refine (swap_any _ (v : Int) x1 x2 _).mono ?_; rintro e9 X1 ⟨rfl, hb1⟩; obtain ⟨cy1, hcc1⟩ := HCL.out X1 hb1; obtain ⟨fn, tmps, assign, body, hy, hR⟩ := HYY.out X1 hb1; have HR := hide hR; have HC1 := hide hcc1; clear hR hcc1 hb1; try dsimp only
                refine hK _ _ ?_
                clear hK K
                refine wpAnyIn_ready (rs := [7]) (by kernel_rfl) (by simp) ?_
                refine AllReadyIn.cons rfl (fun K hK => ?_) ?_
                · go_simp
                  (with_reducible refine And.intro ?_ ?_); (first | rfl | (intro h; simp [Fence.wide] at h)); refine (round_any HR.out _).mono ?_; rintro e9 X2 ⟨rfl, hj2, hc2⟩; have HJ2 := hide hj2; have HC2 := hide hc2; clear hj2 hc2 hy HR; try dsimp only
                  refine hK _ _ ?_
                  clear hK K
                  refine wpAnyIn_take (i := 8) (v := .bool false) rfl rfl (by kernel_rfl) (by kernel_rfl) (by kernel_rfl) (fun _ _ _ h => h) ⟨Or.inl ⟨by rfl, ?_⟩, fun _ => rfl⟩ ?_
                  · intro w; go_simp; try rfl
                  refine wpAnyIn_done (by kernel_rfl) ?_ _
                  (gi_wp2; first | exact ⟨rfl, HC1.out.trans HC2.out, HJ2.out, HC.out.trans (HC1.out.trans HC2.out)⟩ | exact ⟨HC1.out.trans HC2.out, HJ2.out, HC.out.trans (HC1.out.trans HC2.out)⟩)
                exact AllReadyIn.nil
              exact AllReadyIn.nil
            exact AllReadyIn.nil
          exact AllReadyIn.nil
        refine AllReadyIn.cons rfl (fun K hK => ?_) ?_
        · go_simp
          refine hK _ _ ?_
          clear hK K
          refine wpAnyIn_ready (rs := [0, 2]) (by kernel_rfl) (by simp) ?_
          refine AllReadyIn.cons rfl (fun K hK => ?_) ?_
          · go_simp
            refine hK _ _ ?_
            clear hK K
            refine wpAnyIn_ready (rs := [2]) (by kernel_rfl) (by simp) ?_
            refine AllReadyIn.cons rfl (fun K hK => ?_) ?_
            · go_simp
              refine hK _ _ ?_
              clear hK K
              refine wpAnyIn_take (i := 5) (v := .agg #[.int .i64 (v : Int), .int .i64 x1, .int .u64 x2]) rfl rfl (by kernel_rfl) (by kernel_rfl) (by kernel_rfl) (fun _ _ _ h => h) ⟨Or.inl ⟨by rfl, ?_⟩, fun _ => rfl⟩ ?_
              · intro w; go_simp; try rfl
              refine wpAnyIn_ready (rs := [6]) (by kernel_rfl) (by simp) ?_
              refine AllReadyIn.cons rfl (fun K hK => ?_) ?_
              · go_simp
                (with_reducible refine And.intro ?_ (And.intro ?_ ?_)); exact trivial; (first | rfl | (intro h; simp [Fence.wide] at h)); refine (swap_any _ (v : Int) x1 x2 _).mono ?_; rintro e9 X1 ⟨rfl, hb1⟩; obtain ⟨cy1, hcc1⟩ := HCL.out X1 hb1; obtain ⟨fn, tmps, assign, body, hy, hR⟩ := HYY.out X1 hb1; have HR := hide hR; have HC1 := hide hcc1; clear hR hcc1 hb1; try dsimp only
                refine hK _ _ ?_
                clear hK K
                refine wpAnyIn_ready (rs := [7]) (by kernel_rfl) (by simp) ?_
                refine AllReadyIn.cons rfl (fun K hK => ?_) ?_
                · go_simp
                  (with_reducible refine And.intro ?_ ?_); (first | rfl | (intro h; simp [Fence.wide] at h)); refine (round_any HR.out _).mono ?_; rintro e9 X2 ⟨rfl, hj2, hc2⟩; have HJ2 := hide hj2; have HC2 := hide hc2; clear hj2 hc2 hy HR; try dsimp only
                  refine hK _ _ ?_
                  clear hK K
                  refine wpAnyIn_take (i := 8) (v := .bool false) rfl rfl (by kernel_rfl) (by kernel_rfl) (by kernel_rfl) (fun _ _ _ h => h) ⟨Or.inl ⟨by rfl, ?_⟩, fun _ => rfl⟩ ?_
                  · intro w; go_simp; try rfl
                  refine wpAnyIn_done (by kernel_rfl) ?_ _
                  (gi_wp2; first | exact ⟨rfl, HC1.out.trans HC2.out, HJ2.out, HC.out.trans (HC1.out.trans HC2.out)⟩ | exact ⟨HC1.out.trans HC2.out, HJ2.out, HC.out.trans (HC1.out.trans HC2.out)⟩)
                exact AllReadyIn.nil
              exact AllReadyIn.nil
            exact AllReadyIn.nil
          refine AllReadyIn.cons rfl (fun K hK => ?_) ?_
          · go_simp
            refine hK _ _ ?_
            clear hK K
            refine wpAnyIn_take (i := 5) (v := .agg #[.int .i64 (v : Int), .int .i64 x1, .int .u64 x2]) rfl rfl (by kernel_rfl) (by kernel_rfl) (by kernel_rfl) (fun _ _ _ h => h) ⟨Or.inl ⟨by rfl, ?_⟩, fun _ => rfl⟩ ?_
            · intro w; go_simp; try rfl
            refine wpAnyIn_ready (rs := [0, 6]) (by kernel_rfl) (by simp) ?_
            refine AllReadyIn.cons rfl (fun K hK => ?_) ?_
            · go_simp
              refine hK _ _ ?_
              clear hK K
              refine wpAnyIn_ready (rs := [6]) (by kernel_rfl) (by simp) ?_
              refine AllReadyIn.cons rfl (fun K hK => ?_) ?_
              · go_simp
                (with_reducible refine And.intro ?_ (And.intro ?_ ?_)); exact trivial; (first | rfl | (intro h; simp [Fence.wide] at h)); refine (swap_any _ (v : Int) x1 x2 _).mono ?_; rintro e9 X1 ⟨rfl, hb1⟩; obtain ⟨cy1, hcc1⟩ := HCL.out X1 hb1; obtain ⟨fn, tmps, assign, body, hy, hR⟩ := HYY.out X1 hb1; have HR := hide hR; have HC1 := hide hcc1; clear hR hcc1 hb1; try dsimp only
                refine hK _ _ ?_
                clear hK K
                refine wpAnyIn_ready (rs := [7]) (by kernel_rfl) (by simp) ?_
                refine AllReadyIn.cons rfl (fun K hK => ?_) ?_
                · go_simp
                  (with_reducible refine And.intro ?_ ?_); (first | rfl | (intro h; simp [Fence.wide] at h)); refine (round_any HR.out _).mono ?_; rintro e9 X2 ⟨rfl, hj2, hc2⟩; have HJ2 := hide hj2; have HC2 := hide hc2; clear hj2 hc2 hy HR; try dsimp only
                  refine hK _ _ ?_
                  clear hK K
                  refine wpAnyIn_take (i := 8) (v := .bool false) rfl rfl (by kernel_rfl) (by kernel_rfl) (by kernel_rfl) (fun _ _ _ h => h) ⟨Or.inl ⟨by rfl, ?_⟩, fun _ => rfl⟩ ?_
                  · intro w; go_simp; try rfl
                  refine wpAnyIn_done (by kernel_rfl) ?_ _
                  (gi_wp2; first | exact ⟨rfl, HC1.out.trans HC2.out, HJ2.out, HC.out.trans (HC1.out.trans HC2.out)⟩ | exact ⟨HC1.out.trans HC2.out, HJ2.out, HC.out.trans (HC1.out.trans HC2.out)⟩)
                exact AllReadyIn.nil
              exact AllReadyIn.nil
            refine AllReadyIn.cons rfl (fun K hK => ?_) ?_
            · go_simp
              (with_reducible refine And.intro ?_ (And.intro ?_ ?_)); exact trivial; (first | rfl | (intro h; simp [Fence.wide] at h)); refine (swap_any _ (v : Int) x1 x2 _).mono ?_; rintro e9 X1 ⟨rfl, hb1⟩; obtain ⟨cy1, hcc1⟩ := HCL.out X1 hb1; obtain ⟨fn, tmps, assign, body, hy, hR⟩ := HYY.out X1 hb1; have HR := hide hR; have HC1 := hide hcc1; clear hR hcc1 hb1; try dsimp only
              refine hK _ _ ?_
              clear hK K
              refine wpAnyIn_ready (rs := [0]) (by kernel_rfl) (by simp) ?_
              refine AllReadyIn.cons rfl (fun K hK => ?_) ?_
              · go_simp
                refine hK _ _ ?_
                clear hK K
                refine wpAnyIn_ready (rs := [7]) (by kernel_rfl) (by simp) ?_
                refine AllReadyIn.cons rfl (fun K hK => ?_) ?_
                · go_simp
                  (with_reducible refine And.intro ?_ ?_); (first | rfl | (intro h; simp [Fence.wide] at h)); refine (round_any HR.out _).mono ?_; rintro e9 X2 ⟨rfl, hj2, hc2⟩; have HJ2 := hide hj2; have HC2 := hide hc2; clear hj2 hc2 hy HR; try dsimp only
                  refine hK _ _ ?_
                  clear hK K
                  refine wpAnyIn_take (i := 8) (v := .bool false) rfl rfl (by kernel_rfl) (by kernel_rfl) (by kernel_rfl) (fun _ _ _ h => h) ⟨Or.inl ⟨by rfl, ?_⟩, fun _ => rfl⟩ ?_
                  · intro w; go_simp; try rfl
                  refine wpAnyIn_done (by kernel_rfl) ?_ _
                  (gi_wp2; first | exact ⟨rfl, HC1.out.trans HC2.out, HJ2.out, HC.out.trans (HC1.out.trans HC2.out)⟩ | exact ⟨HC1.out.trans HC2.out, HJ2.out, HC.out.trans (HC1.out.trans HC2.out)⟩)
                exact AllReadyIn.nil
              exact AllReadyIn.nil
            exact AllReadyIn.nil
          exact AllReadyIn.nil
        refine AllReadyIn.cons rfl (fun K hK => ?_) ?_
        · go_simp
          refine hK _ _ ?_
          clear hK K
          refine wpAnyIn_take (i := 5) (v := .agg #[.int .i64 (v : Int), .int .i64 x1, .int .u64 x2]) rfl rfl (by kernel_rfl) (by kernel_rfl) (by kernel_rfl) (fun _ _ _ h => h) ⟨Or.inl ⟨by rfl, ?_⟩, fun _ => rfl⟩ ?_
          · intro w; go_simp; try rfl
          refine wpAnyIn_ready (rs := [0, 1]) (by kernel_rfl) (by simp) ?_
          refine AllReadyIn.cons rfl (fun K hK => ?_) ?_
          · go_simp
            refine hK _ _ ?_
            clear hK K
            refine wpAnyIn_ready (rs := [1]) (by kernel_rfl) (by simp) ?_
            refine AllReadyIn.cons rfl (fun K hK => ?_) ?_
            · go_simp
              refine hK _ _ ?_
              clear hK K
              refine wpAnyIn_ready (rs := [6]) (by kernel_rfl) (by simp) ?_
              refine AllReadyIn.cons rfl (fun K hK => ?_) ?_
              · go_simp
                (with_reducible refine And.intro ?_ (And.intro ?_ ?_)); exact trivial; (first | rfl | (intro h; simp [Fence.wide] at h)); refine (swap_any _ (v : Int) x1 x2 _).mono ?_; rintro e9 X1 ⟨rfl, hb1⟩; obtain ⟨cy1, hcc1⟩ := HCL.out X1 hb1; obtain ⟨fn, tmps, assign, body, hy, hR⟩ := HYY.out X1 hb1; have HR := hide hR; have HC1 := hide hcc1; clear hR hcc1 hb1; try dsimp only
                refine hK _ _ ?_
                clear hK K
                refine wpAnyIn_ready (rs := [7]) (by kernel_rfl) (by simp) ?_
                refine AllReadyIn.cons rfl (fun K hK => ?_) ?_
                · go_simp
                  (with_reducible refine And.intro ?_ ?_); (first | rfl | (intro h; simp [Fence.wide] at h)); refine (round_any HR.out _).mono ?_; rintro e9 X2 ⟨rfl, hj2, hc2⟩; have HJ2 := hide hj2; have HC2 := hide hc2; clear hj2 hc2 hy HR; try dsimp only
                  refine hK _ _ ?_
                  clear hK K
                  refine wpAnyIn_take (i := 8) (v := .bool false) rfl rfl (by kernel_rfl) (by kernel_rfl) (by kernel_rfl) (fun _ _ _ h => h) ⟨Or.inl ⟨by rfl, ?_⟩, fun _ => rfl⟩ ?_
                  · intro w; go_simp; try rfl
                  refine wpAnyIn_done (by kernel_rfl) ?_ _
                  (gi_wp2; first | exact ⟨rfl, HC1.out.trans HC2.out, HJ2.out, HC.out.trans (HC1.out.trans HC2.out)⟩ | exact ⟨HC1.out.trans HC2.out, HJ2.out, HC.out.trans (HC1.out.trans HC2.out)⟩)
                exact AllReadyIn.nil
              exact AllReadyIn.nil
            exact AllReadyIn.nil
          refine AllReadyIn.cons rfl (fun K hK => ?_) ?_
          · go_simp
            refine hK _ _ ?_
            clear hK K
            refine wpAnyIn_ready (rs := [0, 6]) (by kernel_rfl) (by simp) ?_
            refine AllReadyIn.cons rfl (fun K hK => ?_) ?_
            · go_simp
              refine hK _ _ ?_
              clear hK K
              refine wpAnyIn_ready (rs := [6]) (by kernel_rfl) (by simp) ?_
              refine AllReadyIn.cons rfl (fun K hK => ?_) ?_
              · go_simp
                (with_reducible refine And.intro ?_ (And.intro ?_ ?_)); exact trivial; (first | rfl | (intro h; simp [Fence.wide] at h)); refine (swap_any _ (v : Int) x1 x2 _).mono ?_; rintro e9 X1 ⟨rfl, hb1⟩; obtain ⟨cy1, hcc1⟩ := HCL.out X1 hb1; obtain ⟨fn, tmps, assign, body, hy, hR⟩ := HYY.out X1 hb1; have HR := hide hR; have HC1 := hide hcc1; clear hR hcc1 hb1; try dsimp only
                refine hK _ _ ?_
                clear hK K
                refine wpAnyIn_ready (rs := [7]) (by kernel_rfl) (by simp) ?_
                refine AllReadyIn.cons rfl (fun K hK => ?_) ?_
                · go_simp
                  (with_reducible refine And.intro ?_ ?_); (first | rfl | (intro h; simp [Fence.wide] at h)); refine (round_any HR.out _).mono ?_; rintro e9 X2 ⟨rfl, hj2, hc2⟩; have HJ2 := hide hj2; have HC2 := hide hc2; clear hj2 hc2 hy HR; try dsimp only
                  refine hK _ _ ?_
                  clear hK K
                  refine wpAnyIn_take (i := 8) (v := .bool false) rfl rfl (by kernel_rfl) (by kernel_rfl) (by kernel_rfl) (fun _ _ _ h => h) ⟨Or.inl ⟨by rfl, ?_⟩, fun _ => rfl⟩ ?_
                  · intro w; go_simp; try rfl
                  refine wpAnyIn_done (by kernel_rfl) ?_ _
                  (gi_wp2; first | exact ⟨rfl, HC1.out.trans HC2.out, HJ2.out, HC.out.trans (HC1.out.trans HC2.out)⟩ | exact ⟨HC1.out.trans HC2.out, HJ2.out, HC.out.trans (HC1.out.trans HC2.out)⟩)
                exact AllReadyIn.nil
              exact AllReadyIn.nil
            refine AllReadyIn.cons rfl (fun K hK => ?_) ?_
            · go_simp
              (with_reducible refine And.intro ?_ (And.intro ?_ ?_)); exact trivial; (first | rfl | (intro h; simp [Fence.wide] at h)); refine (swap_any _ (v : Int) x1 x2 _).mono ?_; rintro e9 X1 ⟨rfl, hb1⟩; obtain ⟨cy1, hcc1⟩ := HCL.out X1 hb1; obtain ⟨fn, tmps, assign, body, hy, hR⟩ := HYY.out X1 hb1; have HR := hide hR; have HC1 := hide hcc1; clear hR hcc1 hb1; try dsimp only
              refine hK _ _ ?_
              clear hK K
              refine wpAnyIn_ready (rs := [0]) (by kernel_rfl) (by simp) ?_
              refine AllReadyIn.cons rfl (fun K hK => ?_) ?_
              · go_simp
                refine hK _ _ ?_
                clear hK K
                refine wpAnyIn_ready (rs := [7]) (by kernel_rfl) (by simp) ?_
                refine AllReadyIn.cons rfl (fun K hK => ?_) ?_
                · go_simp
                  (with_reducible refine And.intro ?_ ?_); (first | rfl | (intro h; simp [Fence.wide] at h)); refine (round_any HR.out _).mono ?_; rintro e9 X2 ⟨rfl, hj2, hc2⟩; have HJ2 := hide hj2; have HC2 := hide hc2; clear hj2 hc2 hy HR; try dsimp only
                  refine hK _ _ ?_
                  clear hK K
                  refine wpAnyIn_take (i := 8) (v := .bool false) rfl rfl (by kernel_rfl) (by kernel_rfl) (by kernel_rfl) (fun _ _ _ h => h) ⟨Or.inl ⟨by rfl, ?_⟩, fun _ => rfl⟩ ?_
                  · intro w; go_simp; try rfl
                  refine wpAnyIn_done (by kernel_rfl) ?_ _
                  (gi_wp2; first | exact ⟨rfl, HC1.out.trans HC2.out, HJ2.out, HC.out.trans (HC1.out.trans HC2.out)⟩ | exact ⟨HC1.out.trans HC2.out, HJ2.out, HC.out.trans (HC1.out.trans HC2.out)⟩)
                exact AllReadyIn.nil
              exact AllReadyIn.nil
            exact AllReadyIn.nil
          exact AllReadyIn.nil
        exact AllReadyIn.nil
      case done =>
        rintro D Z hD ⟨hj, hc⟩ hK
        rw [upto_len] at hj
        have hW0 : W.heap.size ≤ D := by have := HSX.out; omega
        have hmk2 : MarksAt W.heap.size Z ({ target := .collected D, args := #[] } :: ds) := by
          refine ⟨⟨D, rfl, hW0, hK, fun D' hD' => ?_⟩, HMX.out.kept fun D' hb' hm' hw' => hc.heap hw' (fun h => by have := HTW.out _ h; omega)⟩
          have := HMX.out.lt D' hD'
          omega
        have HJ9 := hide hj
        have HM9 := hide hmk2
        have HC9 := hide (HCX.out.trans hc)
        clear hj hc hK hmk2
        gi_wp2
        exact ⟨⟨v + 1, e + m, _, _, _, _, _, _, _, _, _, _, _, _, _, _, _, _, _, _, _, _, _, by omega, hm, rfl, HJ9.out, HM9.out, HC9.out⟩, by simp [RowKit.intOf]; omega⟩
    · obtain rfl : v = n := by omega
      have hem : e = tl.length := by have := HGD.out.last; omega
      subst hem
      have HJ9 := hide hj
      have HM9 := hide hmk
      clear hj hmk hch k1 k2 k3 k4
      gi_wp2
      exact leave_marks HJ.out (by kernel_rfl) _ _ HM9.out HJ9.out
end Go.Proofs.Ytmagigmcbegmiaa

/- graph.Turn of a graph. -/
namespace Go.Proofs.Ytmagigmcbegmiaa
open Go.RowKit Go.Lib
set_option linter.unusedVariables false
structure MT (w x : World) (N : Int) (va vb vc : Value) : Prop where
  bg : x.heap[w.heap.size]? = some (.cells #[.int .i64 N, va, vb, vc] 25 (0, 0))
  rs : x.heap[w.heap.size + 1]? = some (.cells #[.int .i64 0, .slice none 0 0, .slice none 0 0, .slice none 0 0] 25 (0, 0))
  bel : Below w.heap.size w x
theorem MT.start (w : World) (N : Int) (va vb vc : Value) : MT w ((w.alloc (.cells #[.int .i64 N, va, vb, vc] 25)).alloc (.cells #[.int .i64 0, .slice none 0 0, .slice none 0 0, .slice none 0 0] 25)) N va vb vc := by
  have hs : (w.alloc (.cells #[.int .i64 N, va, vb, vc] 25)).heap.size = w.heap.size + 1 := by simp
  refine ⟨?_, ?_, below_alloc (below_alloc (Below.refl _ _) _) _⟩
  · exact (Below.heap_alloc _ _ _ (by rw [hs]; omega)).trans (heap_new _ _)
  · have := heap_new (w.alloc (.cells #[.int .i64 N, va, vb, vc] 25)) (.cells #[.int .i64 0, .slice none 0 0, .slice none 0 0, .slice none 0 0] 25)
    rw [hs] at this; exact this
theorem MT.below {w x x' : World} {N : Int} {va vb vc : Value} (h : MT w x N va vb vc) (hb : Below x.heap.size x x') : MT w x' N va vb vc :=
  ⟨(hb.block _ (lt_of_heap h.bg)).trans h.bg, (hb.block _ (lt_of_heap h.rs)).trans h.rs, below_on h.bel hb⟩
theorem MT.drew {w x : World} {N : Int} {va vb vc : Value} (h : MT w x N va vb vc) : MT w x.drew N va vb vc := h.below (below_drew (Below.refl _ _))
theorem MT.put {w x : World} {N : Int} {va vb vc : Value} (h : MT w x N va vb vc) (y0 y1 y2 y3 : Value) :
    ((((x.setCell ⟨w.heap.size + 1, 0, none⟩ y0).setCell ⟨w.heap.size + 1, 1, none⟩ y1).setCell ⟨w.heap.size + 1, 2, none⟩ y2).setCell ⟨w.heap.size + 1, 3, none⟩ y3).heap[w.heap.size + 1]? = some (.cells #[y0, y1, y2, y3] 25 (0, 0)) ∧
    Below w.heap.size w ((((x.setCell ⟨w.heap.size + 1, 0, none⟩ y0).setCell ⟨w.heap.size + 1, 1, none⟩ y1).setCell ⟨w.heap.size + 1, 2, none⟩ y2).setCell ⟨w.heap.size + 1, 3, none⟩ y3) ∧
    ∀ k, k ≠ w.heap.size + 1 → ((((x.setCell ⟨w.heap.size + 1, 0, none⟩ y0).setCell ⟨w.heap.size + 1, 1, none⟩ y1).setCell ⟨w.heap.size + 1, 2, none⟩ y2).setCell ⟨w.heap.size + 1, 3, none⟩ y3).heap[k]? = x.heap[k]? := by
  refine ⟨by rw [heap_set (heap_set (heap_set (heap_set h.rs _) _) _) _]; rfl, ?_, fun k hk => ?_⟩
  · exact (((h.bel.setCell (p := ⟨w.heap.size + 1, 0, none⟩) (by simp) _).setCell (p := ⟨w.heap.size + 1, 1, none⟩) (by simp) _).setCell (p := ⟨w.heap.size + 1, 2, none⟩) (by simp) _).setCell (p := ⟨w.heap.size + 1, 3, none⟩) (by simp) _
  · rw [Below.heap_setCell _ _ _ _ (by exact hk), Below.heap_setCell _ _ _ _ (by exact hk), Below.heap_setCell _ _ _ _ (by exact hk), Below.heap_setCell _ _ _ _ (by exact hk)]
theorem good_chk' {n : Nat} {st tl wt : List Int} (h : Good n st tl wt) : (chk n st tl wt).1 = 0 := by
  have hf : Fits (n : Int) tl.length := ⟨by omega, by have := h.n_le; omega, h.m_le⟩
  unfold chk
  rw [if_pos hf, if_pos ⟨by rw [h.s_len]; omega, h.w_len⟩]
  have h1 : chkRows (n : Int).toNat tl.length st = none := by
    unfold chkRows
    exact first_none fun i hi => by
      rw [Int.toNat_natCast] at hi ⊢
      simpa [badRow] using h.rows i hi
  rw [h1]
  simp only [chkEdges]
  rw [first_none (p := badEdge (n : Int).toNat tl wt) fun e he => by
    rw [Int.toNat_natCast]
    simpa [badEdge] using h.edges e he]
theorem results_cell2 {P : Program} {fn : Func} {p u : Tmp} {ty : TypeId} (h : fn.results = #[.cell p ty, .tmp u]) (tmps : Array Value) (w : World) (g : Nat) (t : TypeId) (cs : Array Value) (fr : Nat × Nat) (d : TypeDesc)
    (hp : tmps.getD p undef = .pointer (some ⟨g, 0, none⟩)) (hg : w.heap[g]? = some (.cells cs t fr))
    (hu : P.underlying ty = some d) (hd : (match d with | .struct _ | .array _ _ => true | _ => false) = true) (hi : (P.info? ty).map (·.size) = some cs.size) (x : Value) (hx : tmps.getD u undef = x) :
    (results fn tmps).run P w = .ok (.tuple #[.agg cs, x]) w := by
  subst hx
  have hp' : tmps[p]?.getD undef = .pointer (some ⟨g, 0, none⟩) := by simpa using hp
  simp only [results, h]
  simp [Result.andThen, hp', asAddr, run_loadVar_row w g t ty cs fr d hg hu hd hi]
theorem tov_lt' {n : Nat} {st tl wt : List Int} (h : Good n st tl wt) {e : Nat} (he : e < tl.length) : tov tl e < n ∧ at_ tl e = (tov tl e : Int) := by
  have := h.vtx e he
  unfold tov
  omega
theorem Try.results33 : Try.f33.results = #[.cell 2 25, .tmp 3] := by kernel_rfl
def TurnW (w : World) (n : Nat) (st tl wt : List Int) (e : Ending) (w' : World) : Prop :=
  ∃ va vb vc st' tl' wt' nx, e = .returned (.tuple #[gAgg n va vb vc, .int .i64 0]) ∧ GIs w' n va vb vc st' tl' wt' ∧ Summed n tl.length (tov tl) n st' ∧ Laying n tl.length (tov tl) (src st n) (fun e => at_ wt e) tl.length nx tl' wt' ∧ Below w.heap.size w w'
/-- The two boxes behind which the function of the turned edges goes. -/
theorem turn_seq (n : Nat) (va vb vc : Value) (st tl wt : List Int) (w0 x x' : World) (hg : GIs w0 n va vb vc st tl wt) (hgd : Good n st tl wt) (hb : Below w0.heap.size w0 x)
    (hx : x' = (x.alloc (.cells #[.int .i64 n, va, vb, vc] 25)).alloc (.cells #[.func (.func 66) #[] #[]] 109)) :
    ∀ Tt : Nat → Prop, (∀ k, Tt k → x'.heap.size ≤ k) → Gw Tt Try.prog 89 #[.pointer (some ⟨x.heap.size, 0, none⟩), .pointer (some ⟨x.heap.size + 1, 0, none⟩)] encE (upto (fEd (tov tl) (src st n) (fun e => at_ wt e)) tl.length) x' := by
  intro Tt hT
  have hs : x'.heap.size = x.heap.size + 2 := by rw [hx]; simp
  have e1 : upto (fEd (tov tl) (src st n) (fun e => at_ wt e)) tl.length = upto (turnAt n st tl wt) tl.length := upto_congr fun i hi => by
    unfold fEd turnAt
    rw [(tov_lt' hgd hi).2]
  rw [e1]
  have hB : x'.heap[x.heap.size]? = some (.cells #[.int .i64 n, va, vb, vc] 25 (0, 0)) := by
    rw [hx]; exact (Below.heap_alloc _ _ _ (by simp)).trans (heap_new _ _)
  have hC : x'.heap[x.heap.size + 1]? = some (.cells #[.func (.func 66) #[] #[]] 109 (0, 0)) := by
    have := heap_new (x.alloc (.cells #[.int .i64 n, va, vb, vc] 25)) (.cells #[.func (.func 66) #[] #[]] 109)
    rw [World.size_alloc] at this
    rw [hx]; exact this
  exact edgesT_gives Tt n va vb vc st tl wt x.heap.size (x.heap.size + 1) w0 x' hg hgd (by rw [hx]; exact below_alloc (below_alloc hb _) _) (fun k hk => by have := hT k hk; have := hb.size; omega) hB hC
set_option maxRecDepth 100000 in
set_option maxHeartbeats 4000000 in
theorem turn_good (n : Nat) (va vb vc : Value) (st tl wt : List Int) (w : World) (hg : GIs w n va vb vc st tl wt) (hgd : Good n st tl wt) (hwn : ∀ e, 0 ≤ at_ wt e) :
    Calls Try.prog 33 #[gAgg n va vb vc] w (TurnW w n st tl wt) := by
  obtain ⟨ao, ca, rfl⟩ := hg.s.shape
  obtain ⟨bo, cb, rfl⟩ := hg.t.shape
  obtain ⟨co, cc, rfl⟩ := hg.u.shape
  have hml := hgd.m_le
  have hn := hgd.n_le
  have hchk := good_chk' hgd
  obtain ⟨⟨r1, r2⟩, hrr⟩ : ∃ r, chk n st tl wt = r := ⟨_, rfl⟩
  rw [hrr] at hchk
  simp only at hchk
  subst hchk
  have hck := (fun W h => check_all n (.slice ao st.length ca) (.slice bo tl.length cb) (.slice co wt.length cc) st tl wt W h (by have := hgd.s_len; omega) (by omega) (by have := hgd.w_len; omega))
  rw [hrr] at hck
  have HCK := hide hck
  have HSQ := hide (fun x x' hb hx => turn_seq n (.slice ao st.length ca) (.slice bo tl.length cb) (.slice co wt.length cc) st tl wt w x x' hg hgd hb hx)
  have HAR := hide (fun x lb hs => callsIn_wide.1 (arrange_any 0 n tl.length 89 (enters_of Try.func89 (by kernel_rfl) rfl) lb (tov tl) (src st n) (fun e => at_ wt e) x hn hml (fun i hi => (tov_lt' hgd hi).1) (fun i hi => src_lt hgd hi) (fun i hi => ⟨hwn i, (hgd.vtx i hi).2.2⟩) hs))
  have HK1 := hide (MT.start w n (.slice ao st.length ca) (.slice bo tl.length cb) (.slice co wt.length cc))
  have HG := hide hg
  have c0 := cell_of HK1.out.bg (i := 0) rfl
  have c1 := cell_of HK1.out.bg (i := 1) rfl
  have c2 := cell_of HK1.out.bg (i := 2) rfl
  have c3 := cell_of HK1.out.bg (i := 3) rfl
  unfold gAgg at HCK ⊢
  clear hg hck hrr
  go_enter Try.func33, Try.ntmps33
  go_wp2_with fail
  generalize ((w.alloc (.cells #[.int .i64 n, .slice ao st.length ca, .slice bo tl.length cb, .slice co wt.length cc] 25)).alloc (.cells #[.int .i64 0, .slice none 0 0, .slice none 0 0, .slice none 0 0] 25)) = w1 at c0 c1 c2 c3 HK1 ⊢
  refine (HCK.out w1 (HG.out.below HK1.out.bel)).mono ?_
  rintro e w2 ⟨rfl, hb2⟩
  have HK2 := hide (HK1.out.below hb2)
  have HS2 := hide (fun x' hx => HSQ.out w2.drew x' HK2.out.drew.bel hx)
  have d0 := cell_of HK2.out.bg (i := 0) rfl
  have d1 := cell_of HK2.out.bg (i := 1) rfl
  have d2 := cell_of HK2.out.bg (i := 2) rfl
  have d3 := cell_of HK2.out.bg (i := 3) rfl
  clear c0 c1 c2 c3 HK1 hb2 HCK HG HSQ hwn
  have HGD := hide hgd
  clear hgd
  go_wp2_with fail
  go_region_with (first
    | (go_at_call 65; refine (callsIn_wide.1 (edgesT_any 0 n (.slice ao st.length ca) (.slice bo tl.length cb) (.slice co wt.length cc) _)).mono ?_; rintro e9 w9 ⟨rfl, hw9⟩; have HS9 := hide (HS2.out w9 hw9); have HK9 := hide (show MT w w9 n (.slice ao st.length ca) (.slice bo tl.length cb) (.slice co wt.length cc) from HK2.out.drew.below (by rw [hw9]; exact below_alloc (below_alloc (Below.refl _ _) _) _)); have f0 := cell_of HK9.out.bg (i := 0) rfl; clear hw9)
    | (go_at_call 61; refine (HAR.out _ _ HS9.out).mono ?_; rintro e8 w8 ⟨va8, vb8, vc8, st8, tl8, wt8, nx8, rfl, hGI, hSm, hLy, hb8⟩; obtain ⟨ao8, ca8, rfl⟩ := (hGI w8 (fun _ _ => rfl)).s.shape; obtain ⟨bo8, cb8, rfl⟩ := (hGI w8 (fun _ _ => rfl)).t.shape; obtain ⟨co8, cc8, rfl⟩ := (hGI w8 (fun _ _ => rfl)).u.shape; have HK8 := hide (HK9.out.below hb8); have HGI := hide hGI; have HSM := hide hSm; have HLY := hide hLy; have b0 := cell_of HK8.out.bg (i := 0) rfl; have r0 := cell_of HK8.out.rs (i := 0) rfl; have r1 := cell_of HK8.out.rs (i := 1) rfl; have r2 := cell_of HK8.out.rs (i := 2) rfl; have r3 := cell_of HK8.out.rs (i := 3) rfl; have q0 := free_of HK8.out.rs 0; have q1 := free_of HK8.out.rs 1; have q2 := free_of HK8.out.rs 2; have q3 := free_of HK8.out.rs 3; clear hGI hSm hLy hb8; unfold gAgg))
  all_goals
    go_wp2
    have hlt : w.heap.size + 1 < w9.heap.size := lt_of_heap HK9.out.rs
    have HPU := HK8.out.put (.int .i64 n) (.slice ao8 st8.length ca8) (.slice bo8 tl8.length cb8) (.slice co8 wt8.length cc8)
    exact bodyPost_ret (results_cell2 Try.results33 _ _ (w.heap.size + 1) 25 _ (0, 0) _ rfl HPU.1 Try.underlying25 rfl (by kernel_rfl) (.int .i64 0) rfl) rfl ⟨_, _, _, _, _, _, _, rfl, HGI.out _ (fun k hk => HPU.2.2 k (by omega)), HSM.out, HLY.out, HPU.2.1⟩
end Go.Proofs.Ytmagigmcbegmiaa
