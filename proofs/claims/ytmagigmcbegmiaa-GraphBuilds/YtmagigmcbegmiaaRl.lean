/- graph.Relabel of a graph, by an order of its vertices. -/
import Derived.Test.YtmagigmcbegmiaaRe
import Derived.BigRegion
import Derived.BigQuiet
namespace Go.Proofs.Ytmagigmcbegmiaa
open Go.RowKit Go.Lib
set_option linter.unusedVariables false
theorem Try.results32 : Try.f32.results = #[.cell 4 25, .tmp 5] := by kernel_rfl
def rF (P : Nat → Nat) (n : Nat) (st : List Int) (e : Nat) : Nat := P (src st n e)
def rT (P : Nat → Nat) (tl : List Int) (e : Nat) : Nat := P (tov tl e)
def RelW (w : World) (n : Nat) (P : Nat → Nat) (st tl wt : List Int) (e : Ending) (w' : World) : Prop :=
  ∃ va vb vc st' tl' wt' nx, e = .returned (.tuple #[gAgg n va vb vc, .int .i64 0]) ∧ GIs w' n va vb vc st' tl' wt' ∧ Summed n tl.length (rF P n st) n st' ∧ Laying n tl.length (rF P n st) (rT P tl) (fun e => at_ wt e) tl.length nx tl' wt' ∧ Below w.heap.size w w'
theorem ren_seq (n : Nat) (va vb vc : Value) (st tl wt : List Int) (P : Nat → Nat) (Bn A : Nat) (w0 x x' : World) (hg : GIs w0 n va vb vc st tl wt) (hgd : Good n st tl wt) (hb : Below w0.heap.size w0 x)
    (hN : x.heap[Bn]? = some (.cells #[.slice (some ⟨A, 0, none⟩) n n] 22 (0, 0))) (hAr : Arr x A (tab n (fun v => (P v : Int))))
    (hx : x' = (x.alloc (.cells #[.int .i64 n, va, vb, vc] 25)).alloc (.cells #[.func (.func 64) #[] #[.pointer (some ⟨Bn, 0, none⟩)]] 109)) :
    ∀ Tt : Nat → Prop, (∀ k, Tt k → x'.heap.size ≤ k) → Gw Tt Try.prog 89 #[.pointer (some ⟨x.heap.size, 0, none⟩), .pointer (some ⟨x.heap.size + 1, 0, none⟩)] encE (upto (fEd (rF P n st) (rT P tl) (fun e => at_ wt e)) tl.length) x' := by
  intro Tt hT
  have hs : x'.heap.size = x.heap.size + 2 := by rw [hx]; simp
  have e1 : upto (fEd (rF P n st) (rT P tl) (fun e => at_ wt e)) tl.length = upto (renAt P n st tl wt) tl.length := upto_congr fun i hi => by
    unfold fEd renAt rF rT tov
    rfl
  rw [e1]
  have hbx : Below x.heap.size x x' := by rw [hx]; exact below_alloc (below_alloc (Below.refl _ _) _) _
  have hB : x'.heap[x.heap.size]? = some (.cells #[.int .i64 n, va, vb, vc] 25 (0, 0)) := by
    rw [hx]; exact (Below.heap_alloc _ _ _ (by simp)).trans (heap_new _ _)
  have hC : x'.heap[x.heap.size + 1]? = some (.cells #[.func (.func 64) #[] #[.pointer (some ⟨Bn, 0, none⟩)]] 109 (0, 0)) := by
    have := heap_new (x.alloc (.cells #[.int .i64 n, va, vb, vc] 25)) (.cells #[.func (.func 64) #[] #[.pointer (some ⟨Bn, 0, none⟩)]] 109)
    rw [World.size_alloc] at this
    rw [hx]; exact this
  have l1 := lt_of_heap hN
  have l2 := lt_of_heap hAr
  exact edgesN_gives Tt n va vb vc st tl wt x.heap.size (x.heap.size + 1) Bn A P w0 x' hg hgd (below_on hb hbx) ((hbx.block _ l1).trans hN) ((hbx.block _ l2).trans hAr) (fun k hk => by have := hT k hk; omega) (fun k hk => by have := hT k hk; have := hb.size; omega) hB hC
set_option maxRecDepth 100000 in
set_option maxHeartbeats 4000000 in
theorem relabel_good (n : Nat) (va vb vc : Value) (st tl wt : List Int) (ov : Value) (o : List Int) (P : Nat → Nat) (w : World) (hg : GIs w n va vb vc st tl wt) (hgd : Good n st tl wt) (hwn : ∀ e, 0 ≤ at_ wt e) (hp : Prm n o P) (ho : RowAt .i64 w ov o) :
    Calls Try.prog 32 #[gAgg n va vb vc, ov] w (RelW w n P st tl wt) := by
  obtain ⟨ao, ca, rfl⟩ := hg.s.shape
  obtain ⟨bo, cb, rfl⟩ := hg.t.shape
  obtain ⟨co, cc, rfl⟩ := hg.u.shape
  have hml := hgd.m_le
  have hn := hgd.n_le
  have hchk := good_chk' hgd
  obtain ⟨⟨r1, r2⟩, hrr⟩ : ∃ r, chk n st tl wt = r := ⟨_, rfl⟩
  rw [hrr] at hchk
  simp only at hchk
  subst hchk
  have hck := (fun W h => check_all n (.slice ao st.length ca) (.slice bo tl.length cb) (.slice co wt.length cc) st tl wt W h (by have := hgd.s_len; omega) (by omega) (by have := hgd.w_len; omega))
  rw [hrr] at hck
  have HCK := hide hck
  have HSQ := hide (fun Bn A x x' hb hN hA hx => ren_seq n (.slice ao st.length ca) (.slice bo tl.length cb) (.slice co wt.length cc) st tl wt P Bn A w x x' hg hgd hb hN hA hx)
  have HAR := hide (fun x lb hs => callsIn_wide.1 (arrange_any 0 n tl.length 89 (enters_of Try.func89 (by kernel_rfl) rfl) lb (rF P n st) (rT P tl) (fun e => at_ wt e) x hn hml (fun i hi => (hp.pos _ (src_lt hgd hi)).1) (fun i hi => (hp.pos _ (tov_lt' hgd hi).1).1) (fun i hi => ⟨hwn i, (hgd.vtx i hi).2.2⟩) hs))
  have HNU : Hid (∀ X, Below w.heap.size w X → Calls Try.prog 63 #[.int .i64 n, ov] X (NumW X n P)) := fun X hX => numbers_good n hn ov o P X hp (ho.below hX)
  have HK1 := hide (MT.start w n (.slice ao st.length ca) (.slice bo tl.length cb) (.slice co wt.length cc))
  have HG := hide hg
  have c0 := cell_of HK1.out.bg (i := 0) rfl
  have c1 := cell_of HK1.out.bg (i := 1) rfl
  have c2 := cell_of HK1.out.bg (i := 2) rfl
  have c3 := cell_of HK1.out.bg (i := 3) rfl
  unfold gAgg at HCK ⊢
  clear hg hck hrr hp ho
  go_enter Try.func32, Try.ntmps32
  go_wp2_with fail
  generalize ((w.alloc (.cells #[.int .i64 n, .slice ao st.length ca, .slice bo tl.length cb, .slice co wt.length cc] 25)).alloc (.cells #[.int .i64 0, .slice none 0 0, .slice none 0 0, .slice none 0 0] 25)) = w1 at c0 c1 c2 c3 HK1 ⊢
  refine (HCK.out w1 (HG.out.below HK1.out.bel)).mono ?_
  rintro e w2 ⟨rfl, hb2⟩
  have HK2 := hide (HK1.out.below hb2)
  have d0 := cell_of HK2.out.bg (i := 0) rfl
  clear c0 c1 c2 c3 HK1 hb2 HCK HG hwn
  have HGD := hide hgd
  clear hgd
  go_wp2_with fail
  refine (HNU.out _ HK2.out.bel).mono ?_
  rintro e w3 ⟨A, rfl, hA, hb3, hAl⟩
  have HK3 := hide (HK2.out.below hb3)
  have HA3 := hide hA
  clear d0 hA hb3 hAl HNU
  go_upto_region 5 with fail
  obtain ⟨w4, hw4⟩ : ∃ w4, w4 = w3.alloc (.cells #[.slice (some ⟨A, 0, none⟩) n n] 22) := ⟨_, rfl⟩
  have hb4 : Below w3.heap.size w3 w4 := by rw [hw4]; exact below_alloc (Below.refl _ _) _
  have hN4 : w4.heap[w3.heap.size]? = some (.cells #[.slice (some ⟨A, 0, none⟩) n n] 22 (0, 0)) := by rw [hw4]; exact heap_new _ _
  rw [← hw4]
  obtain ⟨Bn, hBn⟩ : ∃ Bn, Bn = w3.heap.size := ⟨_, rfl⟩
  rw [← hBn] at hN4 ⊢
  have HK4 := hide (HK3.out.below hb4)
  have HN4 := hide hN4
  have HA4 : Hid (Arr w4 A (tab n (fun v => (P v : Int)))) := (hb4.block _ (lt_of_heap HA3.out)).trans HA3.out
  have HS2 := hide (fun x' hx => HSQ.out Bn A w4.drew x' HK4.out.drew.bel HN4.out HA4.out hx)
  have d0 := cell_of HK4.out.bg (i := 0) rfl
  have d1 := cell_of HK4.out.bg (i := 1) rfl
  have d2 := cell_of HK4.out.bg (i := 2) rfl
  have d3 := cell_of HK4.out.bg (i := 3) rfl
  clear hw4 hb4 hN4 hBn HA3 HK3 HSQ HA4 HN4
  go_wp2_with fail
  go_region_with (first
    | (go_at_call 65; refine (callsIn_wide.1 (edgesN_any 0 n (.slice ao st.length ca) (.slice bo tl.length cb) (.slice co wt.length cc) Bn _)).mono ?_; rintro e9 w9 ⟨rfl, hw9⟩; have HS9 := hide (HS2.out w9 hw9); have HK9 := hide (show MT w w9 n (.slice ao st.length ca) (.slice bo tl.length cb) (.slice co wt.length cc) from HK4.out.drew.below (by rw [hw9]; exact below_alloc (below_alloc (Below.refl _ _) _) _)); have f0 := cell_of HK9.out.bg (i := 0) rfl; clear hw9)
    | (go_at_call 61; refine (HAR.out _ _ HS9.out).mono ?_; rintro e8 w8 ⟨va8, vb8, vc8, st8, tl8, wt8, nx8, rfl, hGI, hSm, hLy, hb8⟩; obtain ⟨ao8, ca8, rfl⟩ := (hGI w8 (fun _ _ => rfl)).s.shape; obtain ⟨bo8, cb8, rfl⟩ := (hGI w8 (fun _ _ => rfl)).t.shape; obtain ⟨co8, cc8, rfl⟩ := (hGI w8 (fun _ _ => rfl)).u.shape; have HK8 := hide (HK9.out.below hb8); have HGI := hide hGI; have HSM := hide hSm; have HLY := hide hLy; have b0 := cell_of HK8.out.bg (i := 0) rfl; have r0 := cell_of HK8.out.rs (i := 0) rfl; have r1 := cell_of HK8.out.rs (i := 1) rfl; have r2 := cell_of HK8.out.rs (i := 2) rfl; have r3 := cell_of HK8.out.rs (i := 3) rfl; have q0 := free_of HK8.out.rs 0; have q1 := free_of HK8.out.rs 1; have q2 := free_of HK8.out.rs 2; have q3 := free_of HK8.out.rs 3; clear hGI hSm hLy hb8; unfold gAgg))
  all_goals
    go_wp2
    have hlt : w.heap.size + 1 < w9.heap.size := lt_of_heap HK9.out.rs
    have HPU := HK8.out.put (.int .i64 n) (.slice ao8 st8.length ca8) (.slice bo8 tl8.length cb8) (.slice co8 wt8.length cc8)
    exact bodyPost_ret (results_cell2 Try.results32 _ _ (w.heap.size + 1) 25 _ (0, 0) _ rfl HPU.1 Try.underlying25 rfl (by kernel_rfl) (.int .i64 0) rfl) rfl ⟨_, _, _, _, _, _, _, rfl, HGI.out _ (fun k hk => HPU.2.2 k (by omega)), HSM.out, HLY.out, HPU.2.1⟩
end Go.Proofs.Ytmagigmcbegmiaa
