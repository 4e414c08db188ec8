/- graph.row's function, which may be stopped early; what Row's iterators give. -/
import Derived.Test.YtmagigmcbegmiaaCopy
import Derived.Test.YtmagigmcbegmiaaRIter
namespace Go.Proofs.Ytmagigmcbegmiaa
open Go Go.RowKit Go.Lib Go.Shelf
set_option linter.unusedVariables false
set_option linter.unusedSimpArgs false
attribute [local go_sem] Oper.semAt_some
/-- What lies in the blocks from B to E stays. -/
def KeepR (B E : Nat) (W W' : World) : Prop := W.heap.size ≤ W'.heap.size ∧ ∀ k, B ≤ k → k < E → W'.heap[k]? = W.heap[k]?
theorem KeepR.refl (B E : Nat) (W : World) : KeepR B E W W := ⟨Nat.le_refl _, fun _ _ _ => rfl⟩
theorem keepR_t {B E : Nat} {X Y Z : World} (h : KeepR B E X Y) (k : KeepR B E Y Z) : KeepR B E X Z := ⟨Nat.le_trans h.1 k.1, fun i h1 h2 => (k.2 i h1 h2).trans (h.2 i h1 h2)⟩
theorem keepR_b {B E : Nat} {w : World} (h : E ≤ w.heap.size) (W : World) (l : Nat) (o o' : Obj) (hl : w.heap.size ≤ l) (_ : W.heap[l]? = some o) (_ : o.isCells = false) (_ : o.isWalk = false) : KeepR B E W (W.putObj l o') :=
  ⟨by simp, fun k _ hk => World.putObj_heap_other (by omega)⟩
theorem KeepR.heap {B E : Nat} {X Y : World} (h : KeepR B E X Y) {k : Nat} {o : Obj} (hk : X.heap[k]? = some o) (h1 : B ≤ k) (h2 : k < E) : Y.heap[k]? = some o := (h.2 k h1 h2).trans hk
theorem KeepR.owns {B E : Nat} {X Y : World} {e : TypeId} {v : Value} {n : Nat} {cs : List Value} (h : KeepR B E X Y) (hE : X.heap.size ≤ E) (hr : X.ownsRow B e 1 v n cs) : Y.ownsRow B e 1 v n cs := by
  obtain ⟨h0, hn | ⟨g, cap, cur, rfl, hg, hc, r⟩⟩ := hr
  · exact ⟨h0, .inl hn⟩
  · exact ⟨h0, .inr ⟨g, cap, cur, rfl, hg, h.heap hc hg (Nat.lt_of_lt_of_le (lt_of_heap hc) hE), r⟩⟩
theorem KeepR.of_below {B : Nat} {X Y : World} (h : Below X.heap.size X Y) : KeepR B X.heap.size X Y := ⟨h.size, fun k _ hk => h.block k hk⟩
theorem KeepR.drewR (B E : Nat) (X : World) : KeepR B E X X.drew := ⟨Nat.le_refl _, fun _ _ _ => rfl⟩
/-- The graph of one row that Row keeps: a block each from B on. -/
structure Alone (B Bg Bv Bs m : Nat) (vb vc : Value) (tl wt : List Int) (X : World) : Prop where
  g : X.heap[Bg]? = some (.cells #[.int .i64 1, .slice (some ⟨Bs, 0, none⟩) 2 2, vb, vc] 25 (0, 0))
  v : X.heap[Bv]? = some (.cells #[.int .i64 0] 3 (0, 0))
  s : X.heap[Bs]? = some (.cells #[.int .i64 0, .int .i64 m] 3 (0, 0))
  t : X.ownsRow B 3 1 vb m (tl.map (Value.int .i64))
  u : X.ownsRow B 48 1 vc m (wt.map (Value.int .u64))
  tn : tl.length = m
  un : wt.length = m
  bg : B ≤ Bg
  bv : B ≤ Bv
  bs : B ≤ Bs
theorem Alone.keep {B E Bg Bv Bs m : Nat} {vb vc : Value} {tl wt : List Int} {X Y : World} (h : Alone B Bg Bv Bs m vb vc tl wt X) (k : KeepR B E X Y) (hE : X.heap.size ≤ E) : Alone B Bg Bv Bs m vb vc tl wt Y :=
  ⟨k.heap h.g h.bg (Nat.lt_of_lt_of_le (lt_of_heap h.g) hE), k.heap h.v h.bv (Nat.lt_of_lt_of_le (lt_of_heap h.v) hE), k.heap h.s h.bs (Nat.lt_of_lt_of_le (lt_of_heap h.s) hE), k.owns hE h.t, k.owns hE h.u, h.tn, h.un, h.bg, h.bv, h.bs⟩
/-- The edges of such a row. -/
def rAt (tl wt : List Int) (i : Nat) : Int × Int := (at_ tl i, at_ wt i)
theorem Alone.tAt {B Bg Bv Bs m : Nat} {vb vc : Value} {tl wt : List Int} {X : World} (h : Alone B Bg Bv Bs m vb vc tl wt X) : RowAt .i64 X vb tl := RowAt.of_owns (by rw [h.tn]; exact h.t)
theorem Alone.uAt {B Bg Bv Bs m : Nat} {vb vc : Value} {tl wt : List Int} {X : World} (h : Alone B Bg Bv Bs m vb vc tl wt X) : RowAt .u64 X vc wt := RowAt.of_owns (by rw [h.un]; exact h.u)
theorem yes_no {e : Ending} {X Y : Prop} (h : (e = .returned (.bool true) ∧ X) ∨ (e = .returned (.bool false) ∧ Y)) : ∃ b : Bool, e = .returned (.bool b) ∧ ((b = true ∧ X) ∨ (b = false ∧ Y)) := by
  rcases h with ⟨h1, h2⟩ | ⟨h1, h2⟩
  · exact ⟨true, h1, .inl ⟨rfl, h2⟩⟩
  · exact ⟨false, h1, .inr ⟨rfl, h2⟩⟩
set_option maxRecDepth 100000 in
set_option maxHeartbeats 4000000 in
theorem row84_stops (B Bg Bv Bs m : Nat) (vb vc : Value) (tl wt : List Int) (w : World) (hA : Alone B Bg Bv Bs m vb vc tl wt w) (hm : m ≤ 4194304) (N : Nat) :
    SeqStopsK Fence.wide N Try.prog 84 #[.pointer (some ⟨Bg, 0, none⟩), .pointer (some ⟨Bv, 0, none⟩)] encR (KeepR B w.heap.size) (fun xs => xs = upto (rAt tl wt) m) (fun pre => ∃ k, k < m ∧ pre = upto (rAt tl wt) (k + 1)) m w := by
  intro l J Jx W hW hJ hJx hY h0
  obtain ⟨bo, cb, rfl⟩ := hA.tAt.shape
  obtain ⟨co, cc, rfl⟩ := hA.uAt.shape
  have HA := hide (fun X (hX : KeepR B w.heap.size w X) => hA.keep hX (Nat.le_refl _))
  have HTN := hide hA.tn
  have HUN := hide hA.un
  have HY := hide hY
  have HJ := hide hJ
  have hWc : KeepR B w.heap.size w W := KeepR.of_below hW
  have HW := hide hWc
  have H0 := hide h0
  have key : ∀ X, KeepR B w.heap.size w X → X.cell? ⟨Bg, 1, none⟩ = some (.slice (some ⟨Bs, 0, none⟩) 2 2) ∧ X.cell? ⟨Bv, 0, none⟩ = some (.int .i64 0) ∧ X.cell? ⟨Bs, 0, none⟩ = some (.int .i64 0) ∧ X.cell? ⟨Bs, 1, none⟩ = some (.int .i64 m) ∧ X.cell? ⟨Bg, 2, none⟩ = some (.slice bo tl.length cb) ∧ X.cell? ⟨Bg, 3, none⟩ = some (.slice co wt.length cc) := fun X hX =>
    ⟨cell_of (HA.out X hX).g rfl, cell_of (HA.out X hX).v rfl, cell_of (HA.out X hX).s rfl, cell_of (HA.out X hX).s rfl, cell_of (HA.out X hX).g rfl, cell_of (HA.out X hX).g rfl⟩
  have HK := hide key
  have HGT := hide (fun X (h : KeepR B w.heap.size w X) i (hi : i < tl.length) => (HA.out X h).tAt.cellAt i hi)
  have HGU := hide (fun X (h : KeepR B w.heap.size w X) i (hi : i < wt.length) => (HA.out X h).uAt.cellAt i hi)
  refine callsIn_of_wp Try.func84 rfl trivial ?_ rfl
  obtain ⟨c1, c2, k3, k4, c3, c4⟩ := key W hWc
  clear key hY hJ hA h0 hWc hW hJx c3 c4 k4
  simp only [Try.ntmps84, List.size_toArray, List.length_cons, List.length_nil, Nat.reduceAdd, Nat.reduceSub, Array.replicate_succ, Array.replicate_zero, List.push_toArray, List.append_toArray, List.nil_append, List.cons_append]
  gi_wp2
  gi_loopw [4] (fun t wr => ∃ i : Nat, t = .int .i64 (i : Int) ∧ i ≤ m ∧ J (upto (rAt tl wt) i) wr ∧ KeepR B w.heap.size w wr) (fun t _ => m - (RowKit.intOf t).toNat)
  case atStart => exact ⟨0, rfl, Nat.zero_le _, H0.out, HW.out⟩
  case round =>
    obtain ⟨i, rfl, him, hj, hbr⟩ := hrel
    obtain ⟨c1, c2, k3, k4, c3, c4⟩ := HK.out wr hbr
    by_cases hlt : i < m
    · obtain ⟨gt, ot, ct', hst', hct, d2⟩ := HGT.out wr hbr i (by rw [HTN.out]; exact hlt)
      simp only [Value.slice.injEq, true_and] at hst'
      obtain ⟨rfl, rfl⟩ := hst'
      obtain ⟨gu, ou, cu', hsu, hcu, d3⟩ := HGU.out wr hbr i (by rw [HUN.out]; exact hlt)
      simp only [Value.slice.injEq, true_and] at hsu
      obtain ⟨rfl, rfl⟩ := hsu
      obtain ⟨fn, tmps, assign, body, hy, hR⟩ := HY.out (upto (rAt tl wt) i) (rAt tl wt i) wr.drew (HJ.out _ _ _ none hj (drew_grown wr) (fun _ h => by cases h)) (by rw [upto_len]; exact hlt)
      rw [← upto_succ] at hR
      simp only [encR, rAt] at hy
      have HR := hide hR
      have HBR := hide hbr
      obtain ⟨x, hx⟩ : ∃ x, x = at_ tl i := ⟨_, rfl⟩
      obtain ⟨y, hyy⟩ : ∃ y, y = at_ wt i := ⟨_, rfl⟩
      rw [← hx, ← hyy] at hy
      rw [← hx] at d2
      rw [← hyy] at d3
      rw [HTN.out] at c3
      rw [HUN.out] at c4
      clear hR hj hbr hx hyy hct hcu
      have hpq : (i : Int) < (m : Int) := by omega
      have hpn : i < 10000000 := by omega
      gi_wp2
      have hmix : Try.prog.follows .mixedOrders = true := by kernel_rfl
      gi_region_with_o (refine ⟨(fun h => by simp [Fence.wide] at h), (round_any HR.out _).mono ?_⟩; rintro e W' hor; obtain ⟨bb, rfl, hbb⟩ := yes_no hor; have HBB := hide hbb; clear hbb hor hy HR d2 d3 k3 k4 c1 c2 c3 c4)
      all_goals
        rcases HBB.out with ⟨rfl, hj', hb'⟩ | ⟨rfl, hj'⟩
        · have HJ' := hide hj'
          have HB' := hide hb'
          clear hj' hb' HBB
          gi_wp2
          exact ⟨⟨i + 1, by simp, by omega, HJ'.out, keepR_t HBR.out (keepR_t (KeepR.drewR _ _ _) HB'.out)⟩, by simp [RowKit.intOf]; omega⟩
        · have HJ' := hide hj'
          clear hj' HBB
          gi_wp2
          refine bodyPost_ret (results_none rfl _ _ _) rfl ?_
          exact ⟨⟨_, rfl⟩, .inr ⟨_, ⟨i, hlt, rfl⟩, HJ'.out⟩⟩
    · obtain rfl : i = m := by omega
      have HJ2 := hide hj
      clear hj
      gi_wp2
      go_end0
      exact ⟨⟨_, rfl⟩, .inl ⟨_, rfl, HJ2.out⟩⟩
end Go.Proofs.Ytmagigmcbegmiaa
