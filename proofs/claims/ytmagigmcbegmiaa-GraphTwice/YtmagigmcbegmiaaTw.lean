/- graph.sorted, graph.Sort. -/
import Derived.Test.YtmagigmcbegmiaaTs
import Derived.Test.YtmagigmcbegmiaaGT2
import Derived.Deep.RegionHeld3
import Derived.BigRegion
import Derived.BigQuiet
namespace Go.Proofs.Ytmagigmcbegmiaa
open Go.RowKit Go.Lib Go.Shelf
set_option linter.unusedVariables false
set_option linter.unusedSimpArgs false
theorem part_runK (t : TypeId) (k : Nat) (ht : Try.prog.underlying t = some (.slice (Try.prog.elem t))) (hs : ∀ w, (sizeOf (Try.prog.elem t)).run Try.prog w = .ok k w) (ao : Option Addr) (n c p m : Nat) (hp : p + m ≤ c) (w : World) :
    (Instr.sliceAt t (.slice ao n c) (some (.int .i64 (p : Int))) (some (.int .i64 ((p : Int) + (m : Int)))) none).run Try.prog w = .ok (.slice (if c = p then ao else ao.map (·.add (p * k))) m (c - p)) w := by
  have e1 : ((p : Int) + (m : Int)).toNat = p + m := by omega
  have h := run_slice_lh (P := Try.prog) (w := w) t ao n c ht .i64 .i64 (p : Int) ((p : Int) + (m : Int)) (by omega) (by omega) (by omega)
  rw [run_sliceAt_slice (h := ht), h, hs]
  simp [sliced, e1]
theorem sortPart_any (v : Int) (A C : List Ed3) (d : List Pq) (R c : Nat) (so : Option Addr) (w : World) (h : EArr w R (A ++ d.map (mkE v) ++ C)) (hl : d.length ≤ 4194304) (hso : 0 < d.length → so = some ⟨R, A.length * 3, none⟩) :
    Calls Try.prog 93 #[.slice so d.length c, .func (.func 94) #[] #[]] w fun e w' => e = .returned (.tuple #[]) ∧ EArr w' R (A ++ (psrt d).map (mkE v) ++ C) ∧ Chg (fun k => k = R) w w' := by
  rcases Nat.eq_zero_or_pos d.length with h0 | h0
  · obtain rfl : d = [] := List.eq_nil_of_length_eq_zero h0
    have hc := AnyF.slices_SortFunc_none Try.sortEd so c (.func (.func 94) #[] #[]) w
    change Calls Try.prog 93 _ _ _ at hc
    refine hc.mono ?_
    rintro e w' ⟨rfl, rfl⟩
    exact ⟨rfl, by simpa [psrt] using h, Chg.refl _ _⟩
  · rw [hso h0]
    exact sortRow_any v A C d R c w h (by omega)
/-- AppendSeq of all edges, from any world behind w: a block of its own. -/
theorem list_own (n : Nat) (va vb vc : Value) (st tl wt : List Int) (w X : World) (R Bg Bc : Nat) (hg : GIs w n va vb vc st tl wt) (hgd : Good n st tl wt) (hb : Below w.heap.size w X) (hR : X.heap[R]? = some (eObj tl.length)) (hRw : w.heap.size ≤ R) (h1 : R ≠ Bg) (h2 : R ≠ Bc)
    (hB : X.heap[Bg]? = some (.cells #[.int .i64 n, va, vb, vc] 25 (0, 0))) (hC : X.heap[Bc]? = some (.cells #[.func (.func 86) #[] #[]] 109 (0, 0))) :
    Calls Try.prog 87 #[.slice (some ⟨R, 0, none⟩) 0 tl.length, .func (.func 89) #[] #[.pointer (some ⟨Bg, 0, none⟩), .pointer (some ⟨Bc, 0, none⟩)]] X fun e w' => e = .returned (.slice (some ⟨R, 0, none⟩) tl.length tl.length) ∧ EArr w' R (rowsE n st tl wt) ∧ Below w.heap.size w w' ∧ w.heap.size ≤ R := by
  have hl : (upto (edgeAt n st tl wt) tl.length).length = tl.length := upto_len _ _
  have := lt_of_heap hB
  have := lt_of_heap hC
  have hs := edges1_gives (fun k => k = R ∨ k = X.heap.size) n va vb vc st tl wt Bg Bc w X hg hgd hb (fun k hk => by have := hb.size; rcases hk with rfl | rfl <;> exact ⟨by omega, by omega, by omega⟩) hB hC
  have hc := appendSeq_any 0 R tl.length w.heap.size 89 _ _ X (enters_of Try.func89 (by kernel_rfl) rfl) (made_owns hR hRw hgd.m_le) (by rw [hl]; exact Nat.le_refl _) hs
  rw [hl] at hc
  refine (callsIn_wide.1 hc).mono ?_
  rintro e w' ⟨rfl, ho, hch⟩
  exact ⟨rfl, (EArr.of_owns ho).1, Chg.below hb hch (fun i hi => by subst hi; exact hRw) hb.size, hRw⟩
set_option maxRecDepth 100000 in
set_option maxHeartbeats 4000000 in
theorem listed_own (n : Nat) (va vb vc : Value) (st tl wt : List Int) (w : World) (hg : GIs w n va vb vc st tl wt) (hgd : Good n st tl wt) :
    Calls Try.prog 60 #[gAgg n va vb vc] w fun e w' => ∃ R, e = .returned (.slice (some ⟨R, 0, none⟩) tl.length tl.length) ∧ EArr w' R (rowsE n st tl wt) ∧ Below w.heap.size w w' ∧ w.heap.size ≤ R := by
  obtain ⟨ao, ca, rfl⟩ := hg.s.shape
  obtain ⟨bo, cb, rfl⟩ := hg.t.shape
  obtain ⟨co, cc, rfl⟩ := hg.u.shape
  have hml := hgd.m_le
  obtain ⟨c0, c1, c2, c3, hb1, hs1⟩ := boxed w (.int .i64 n) (.slice ao st.length ca) (.slice bo tl.length cb) (.slice co wt.length cc)
  have hmk := run_makeE tl.length hml
  have HL := hide (fun X R Bg Bc hb hR hRw h1 h2 hB hC => list_own n (.slice ao st.length ca) (.slice bo tl.length cb) (.slice co wt.length cc) st tl wt w X R Bg Bc hg hgd hb hR hRw h1 h2 hB hC)
  have HB := hide hb1
  unfold gAgg
  clear hg hgd hb1
  go_enter Try.func60, Try.ntmps60
  go_wp2
  generalize (w.alloc (.cells #[.int .i64 n, .slice ao st.length ca, .slice bo tl.length cb, .slice co wt.length cc] 25)) = w1 at c0 c1 c2 c3 hs1 HB ⊢
  have HLA := hide (HL.out (((w1.alloc (eObj tl.length)).alloc (.cells #[.int .i64 n, .slice ao st.length ca, .slice bo tl.length cb, .slice co wt.length cc] 25)).alloc (.cells #[.func (.func 86) #[] #[]] 109)).drew w1.heap.size (w1.heap.size + 1) (w1.heap.size + 1 + 1) (below_on HB.out (three_new w1 _ _ _ 50 25 109).2.2.2) (three_new w1 _ _ _ 50 25 109).1 HB.out.size (by omega) (by omega) (three_new w1 _ _ _ 50 25 109).2.1 (three_new w1 _ _ _ 50 25 109).2.2.1)
  have HLB := hide (HL.out (((w1.alloc (.cells #[.int .i64 n, .slice ao st.length ca, .slice bo tl.length cb, .slice co wt.length cc] 25)).alloc (.cells #[.func (.func 86) #[] #[]] 109)).alloc (eObj tl.length)).drew (w1.heap.size + 1 + 1) w1.heap.size (w1.heap.size + 1) (below_on HB.out (three_new w1 _ _ _ 25 109 50).2.2.2) (three_new w1 _ _ _ 25 109 50).2.2.1 (by have := HB.out.size; omega) (by omega) (by omega) (three_new w1 _ _ _ 25 109 50).1 (three_new w1 _ _ _ 25 109 50).2.1)
  clear HL HB
  go_region_with (first
    | (go_at_call 65; refine (callsIn_wide.1 (edgesI_any 0 n (.slice ao st.length ca) (.slice bo tl.length cb) (.slice co wt.length cc) (.int .i64 0) _)).mono ?_; rintro e9 w9 ⟨rfl, rfl⟩)
    | (go_at_call 87; with_reducible refine HLA.out.mono ?_; rintro e9 w9 ⟨rfl, hE, hbE, hlE⟩; have HE := hide hE; have HBE := hide hbE; have HLE := hide hlE; clear hE hbE hlE)
    | (go_at_call 87; with_reducible refine HLB.out.mono ?_; rintro e9 w9 ⟨rfl, hE, hbE, hlE⟩; have HE := hide hE; have HBE := hide hbE; have HLE := hide hlE; clear hE hbE hlE))
  all_goals
    go_wp2
    go_ret
    exact ⟨_, rfl, HE.out, HBE.out, HLE.out⟩
end Go.Proofs.Ytmagigmcbegmiaa
