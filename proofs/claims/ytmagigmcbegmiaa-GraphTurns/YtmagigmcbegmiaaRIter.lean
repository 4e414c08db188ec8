/- A range over a function; graph.row's function. -/
import Derived.RangeFuncNested
import Derived.RangeFuncBound
import Derived.RangeFuncCalls
import Derived.RangeFuncLeaves
import Derived.Shelf.Abstract
import Derived.Shelf.RegionOpen
import Derived.WalkKit
import Derived.OwnWalkIn
import Derived.TacticsInMore
import Derived.LoopNIn
import Derived.LoopIn
import Derived.Maps.AppendAt
import Derived.Deep.CutRange
import Derived.Deep.AppendLies
import Derived.BigRegion
import Derived.BigQuiet
import Derived.Test.YtmagigmcbegmiaaRB
/- A range over a function whose iterator itself ranges over a function: such an iterator turns the records of its own loops, so what the caller keeps must abide that; T: the blocks that a round may turn. -/
namespace Go.Proofs.Ytmagigmcbegmiaa
open Go Go.RowKit
set_option linter.unusedVariables false

/-- An iterator that gives S to the end, whatever the caller keeps that abides new memory and turns of records that were laid since. -/
def Gv {α : Type} (T : Nat → Prop) (P : Program) (g : Nat) (lb : Array Value) (encs : α → Array Value) (S : List α) (w : World) : Prop :=
  ∀ (l : Nat) (J : List α → World → Prop) (W : World), Below w.heap.size w W → OwnFrom W.heap.size J →
    (∀ pre x W1, J pre W1 → pre ++ [x] <+: S → YieldAt Fence.wide 0 P l (encs x) W1 fun e W' => e = .returned (.bool true) ∧ J (pre ++ [x]) W' ∧ Chg T W1 W') →
    J [] W → ∀ n, CallsIn Fence.wide n P g (#[.func (.yield l) #[] #[]] ++ lb) W fun e W' => (∃ v, e = .returned v) ∧ J S W'
theorem chg_put {T : Nat → Prop} {X : World} {k : Nat} {o : Obj} : Chg (fun i => T i ∨ i = k) X (X.putObj k o) :=
  ⟨rfl, rfl, rfl, by simp, fun i _ ht => World.putObj_heap_other (fun e => ht (.inr e))⟩

theorem rf_law {α : Type} {T : Nat → Prop} {P : Program} {n : Nat} {g : Operand} {ps : Array Tmp} {assign body : Code} {Q : Exit → Act → World → Prop} {a : Act} {w : World} {gf : Nat} {lb : Array Value}
    (hg : a.eval g = .func (.func gf) #[] lb) (eg : ∀ args w, (callFunc gf args).run P w = .ok (.enter gf args) w)
    {encs : α → Array Value} {S : List α} {w0 : World} (hseq : Gv T P gf lb encs S w0) (hb0 : Below w0.heap.size w0 w) (hT : ¬ T w.heap.size ∧ ¬ T (w.heap.size + 1)) (hps : ∀ x, (encs x).size = ps.size)
    (I : List α → World → Prop) (hI : OwnFrom w.heap.size I) (h0 : I [] w) (Ax : α → Act → World → Prop) (hAx : ∀ x a', OwnFrom w.heap.size (fun (_ : Unit) W => Ax x a' W))
    (hassign : ∀ (l : Nat) (pre : List α) (x : α) (W : World) (K : Act → World → Prop), I pre W → (∀ a' W', Chg T W W' → I pre W' → Ax x a' W' → K a' W') → assign.wpIn (Fence.wide.inRound l) 0 P (Exit.then K (fun _ _ _ => False)) { tmps := (ps.zip (encs x)).foldl (fun t (p, v) => t.setIfInBounds p v) a.tmps, defers := [] } W)
    (hbody : ∀ (l : Nat) (pre : List α) (x : α) (a' : Act) (W : World), w.heap.size + 2 ≤ W.heap.size → I pre W → Ax x a' W → pre ++ [x] <+: S → body.wpIn (Fence.wide.inRound l) 0 P (fun e _ W' => e = .normal ∧ Chg T W W' ∧ I (pre ++ [x]) W') a' W)
    (hdone : ∀ (D : Nat) (W : World), w.heap.size ≤ D → I S W → W.heap[D]? = some (.deferred (some [])) → Q .normal { a with defers := { target := .collected D, args := #[] } :: a.defers } W) :
    (Code.rangeFunc g ps assign body).wpIn Fence.wide n P Q a w := by
  refine wpIn_rangeFunc fun fn hfn => ?_
  obtain ⟨D, hD⟩ : ∃ D, D = w.heap.size := ⟨_, rfl⟩
  obtain ⟨rd, hrd⟩ : ∃ rd : Loop, rd = { state := .ready, pending := none, fn, tmps := a.tmps, params := ps, assign, body, defers := D } := ⟨_, rfl⟩
  obtain ⟨W1, hW1⟩ : ∃ W1, W1 = (w.alloc (.deferred (some []))).alloc (.loop rd) := ⟨_, rfl⟩
  have s1 : W1.heap.size = D + 2 := by rw [hW1, hD]; simp
  have b1 : Below w.heap.size w W1 := by rw [hW1]; exact ((Below.refl _ w).alloc (Nat.le_refl _) _).alloc (by simp) _
  have l1 : W1.heap[D + 1]? = some (.loop rd) := by
    have := World.alloc_heap_new (w.alloc (.deferred (some []))) (.loop rd)
    rw [World.size_alloc, ← hW1, ← hD] at this
    exact this
  have d1 : W1.heap[D]? = some (.deferred (some [])) := by
    rw [hW1, hD]; exact (Below.heap_alloc _ _ _ (by simp)).trans (World.alloc_heap_new w _)
  have i1 : I [] W1 := by rw [hW1]; exact hI.alloc _ (hI.alloc _ h0)
  have nT0 : ¬ T D := by rw [hD]; exact hT.1
  have nT1 : ¬ T (D + 1) := by rw [hD]; exact hT.2
  have call := hseq (D + 1) (fun pre W => I pre W ∧ W.heap[D + 1]? = some (.loop rd) ∧ W.heap[D]? = some (.deferred (some []))) W1 (hb0.trans (b1.mono hb0.size))
    (fun s X Y row hs gr hr => by
      have far : ∀ k, k < D + 2 → row ≠ some k := fun k hk e => by have := (hr k e).1; omega
      refine ⟨hI s X Y row hs.1 gr (fun r e => ⟨by have := (hr r e).1; omega, (hr r e).2⟩), ?_, ?_⟩
      · exact (gr.block _ (Array.getElem?_eq_some_iff.1 hs.2.1).1 (fun e => far (D + 1) (by omega) e.symm)).trans hs.2.1
      · exact (gr.block _ (Array.getElem?_eq_some_iff.1 hs.2.2).1 (fun e => far D (by omega) e.symm)).trans hs.2.2)
    (fun pre x X ⟨hi, hl, hd⟩ hp => by
      have hy := run_yield (P := P) (args := encs x) hl (by rw [hrd]; exact hps x)
      rw [hrd] at hy
      refine ⟨fn, _, assign, body, hy, roundIn_of_wpIn (F := Fence.wide) hfn (hassign _ pre x X _ hi ?_)⟩
      clear hy
      intro a' Y cY iY xY
      have lY := cY.heap hl nT1
      have dY := cY.heap hd nT0
      have hlt : D + 1 < Y.heap.size := (Array.getElem?_eq_some_iff.1 lY).1
      refine ⟨_, run_beginRound lY (by rw [hrd]), ?_⟩
      obtain ⟨X2, hX2⟩ : ∃ X2, X2 = Y.putObj (D + 1) (.loop { rd with state := .busy }) := ⟨_, rfl⟩
      rw [← hX2]
      have l2 : X2.heap[D + 1]? = some (.loop { rd with state := .busy }) := by rw [hX2]; exact World.putObj_heap_same hlt
      have d2 : X2.heap[D]? = some (.deferred (some [])) := by rw [hX2]; exact (World.putObj_heap_other (by omega)).trans dY
      have i2 : I pre X2 := by rw [hX2]; exact hI.putObj _ iY (by omega) lY rfl
      have x2 : Ax x a' X2 := by rw [hX2]; exact (hAx x a').putObj (s := ()) _ xY (by omega) lY rfl
      have c2 : Chg (fun i => T i ∨ i = D + 1) X X2 := by
        rw [hX2]; exact (cY.mono fun i h => .inl h).trans chg_put
      refine wpIn_mono (hbody _ pre x a' X2 (by rw [hX2]; simp; omega) i2 x2 hp) ?_
      rintro e a3 X3 ⟨rfl, c3, i3⟩
      have l3 := c3.heap l2 nT1
      have d3 := c3.heap d2 nT0
      have hr := run_endRound (P := P) none l3
      have hlt3 := (Array.getElem?_eq_some_iff.1 l3).1
      have e1 : (X3.putObj (D + 1) (.loop { ({ rd with state := .busy } : Loop) with state := if (none : Option Code).isNone = true then .ready else .done, pending := none })).heap[D + 1]? = some (.loop rd) := by
        rw [World.putObj_heap_same hlt3, hrd]; rfl
      refine ⟨_, _, hr, rfl, ⟨hI.putObj _ i3 (by omega) l3 rfl, e1, (World.putObj_heap_other (by omega)).trans d3⟩, ?_⟩
      have c4 := c2.trans ((c3.mono fun i h => .inl h).trans (chg_put (k := D + 1) (o := .loop { ({ rd with state := .busy } : Loop) with state := if (none : Option Code).isNone = true then .ready else .done, pending := none })))
      exact ⟨c4.os, c4.tape, c4.output, c4.size, fun i hi ht => by
        by_cases ei : i = D + 1
        · subst ei
          exact e1.trans hl.symm
        · exact c4.block i hi (fun h => h.elim ht ei)⟩)
    ⟨i1, l1, d1⟩ (n - 1)
  have hin : (Instr.enterLoop fn a.tmps ps assign body Fence.wide.round).run P w = .ok (D + 1, [{ target := .collected D, args := #[] }]) W1 := by
    have := run_enterLoop_outer (P := P) (w := w) fn a.tmps ps assign body
    rw [hW1, hrd, hD]; exact this
  have hres : (resolve a.eval (rangeCall g (D + 1)) 0).run P W1 = .ok { target := .fn (.func gf) lb, args := #[.func (.yield (D + 1)) #[] #[]] } W1 := by
    simp only [resolve, hg]; simp [go_sem]
  have hinv : (invoke (Target.fn (.func gf) lb) #[.func (.yield (D + 1)) #[] #[]]).run P W1 = .ok (.enter gf (#[.func (.yield (D + 1)) #[] #[]] ++ lb)) W1 := by
    simp [invoke, go_sem, eg]
  have hfin : ∀ e W2, ((∃ v, e = Ending.returned v) ∧ I S W2 ∧ W2.heap[D + 1]? = some (.loop rd) ∧ W2.heap[D]? = some (.deferred (some []))) → rangePost Fence.wide n P (D + 1) Q { a with defers := [{ target := .collected D, args := #[] }] ++ a.defers } e W2 := by
    rintro e W2 ⟨⟨v, rfl⟩, hi, hl, hd⟩
    have hr := run_endLoop (P := P) hl (by rw [hrd]; simp)
    have hp : rd.pending = none := by rw [hrd]
    rw [hp] at hr
    exact ⟨none, _, hr, hdone D _ (by omega) (hI.putObj _ hi (by omega) hl rfl) ((World.putObj_heap_other (by omega)).trans hd)⟩
  exact ⟨D + 1, _, W1, _, W1, gf, _, W1, hin, hres, fun _ _ => trivial, hinv, fun h => by simp [Fence.wide] at h, call.mono hfin⟩
/-- Marks of loops that are over: one block each, none twice. -/
def MarksAt (B : Nat) (w : World) : List Deferred → Prop
  | [] => True
  | d :: ds => (∃ D, d = { target := .collected D, args := #[] } ∧ B ≤ D ∧ w.heap[D]? = some (.deferred (some [])) ∧ ∀ D', { target := .collected D', args := #[] } ∈ ds → D' ≠ D) ∧ MarksAt B w ds
theorem MarksAt.kept {B : Nat} {w w' : World} {ds : List Deferred} (h : MarksAt B w ds) (hk : ∀ D, B ≤ D → ({ target := .collected D, args := #[] } : Deferred) ∈ ds → w.heap[D]? = some (.deferred (some [])) → w'.heap[D]? = some (.deferred (some []))) : MarksAt B w' ds := by
  induction ds with
  | nil => trivial
  | cons d ds ih =>
    obtain ⟨⟨D, rfl, h1, h2, h3⟩, h4⟩ := h
    exact ⟨⟨D, rfl, h1, hk D h1 (by simp) h2, h3⟩, ih h4 fun D' hb hm => hk D' hb (by simp [hm])⟩
theorem MarksAt.lt {B : Nat} {w : World} {ds : List Deferred} (h : MarksAt B w ds) : ∀ D, ({ target := .collected D, args := #[] } : Deferred) ∈ ds → D < w.heap.size := by
  induction ds with
  | nil => intro D hD; cases hD
  | cons d ds ih =>
    obtain ⟨⟨D, rfl, h1, h2, h3⟩, h4⟩ := h
    intro D' hD
    rcases List.mem_cons.1 hD with e | e
    · cases e; exact (Array.getElem?_eq_some_iff.1 h2).1
    · exact ih h4 D' e
/-- A function without results leaves, its marks taken up. -/
theorem leave_marks {P : Program} {fn : Func} {tmps : Array Value} {n : Nat} {α : Type} {B : Nat} {J : α → World → Prop} {s : α} (hJ : OwnFrom B J) (hres : fn.results = #[]) : ∀ (ds : List Deferred) (w : World), MarksAt B w ds → J s w → LeavesInM Fence.wide n P fn tmps (fun e W' => (∃ v, e = .returned v) ∧ J s W') ds .returning w := by
  intro ds
  induction ds with
  | nil => intro w _ hj; exact ⟨_, results_none hres _ _ _, ⟨_, rfl⟩, hj⟩
  | cons d ds ih =>
    intro w ⟨⟨D, hd, h1, h2, h3⟩, h4⟩ hj
    subst hd
    refine ⟨by simp, .inl ⟨D, _, rfl, run_takeDeferred h2, ih _ (h4.kept fun D' _ hm hw => ?_) (hJ.putObj _ hj h1 h2 rfl)⟩⟩
    exact (World.putObj_heap_other (h3 D' hm)).trans hw
end Go.Proofs.Ytmagigmcbegmiaa

/- graph.row's function: the edges of one vertex. -/
namespace Go.Proofs.Ytmagigmcbegmiaa
open Go.RowKit Go.Lib Go.Shelf
set_option linter.unusedVariables false
attribute [local go_sem] Oper.semAt_some

theorem drew_grown (w : World) : w.grownBy w.drew none := ⟨rfl, rfl, rfl, Nat.le_refl _, fun _ _ _ => rfl⟩
theorem round_any {m : Nat} {P : Program} {l : Nat} {f : FuncId} {tmps : Array Value} {x y : Code} {W : World} {R : Ending → World → Prop} (h : RoundIn Fence.wide m P l f tmps x y W R) (m' : Nat) : RoundIn Fence.wide m' P l f tmps x y W R := ⟨h.1, fun c cs _ => h.2 c cs (fun d hd => by simp [Fence.wide] at hd)⟩
/-- The first k of what h tells. -/
def upto {α : Type} (h : Nat → α) (k : Nat) : List α := (List.range k).map h
theorem upto_len {α : Type} (h : Nat → α) (k : Nat) : (upto h k).length = k := by simp [upto]
theorem upto_succ {α : Type} (h : Nat → α) (k : Nat) : upto h (k + 1) = upto h k ++ [h k] := by simp [upto, List.range_succ]
theorem upto_zero {α : Type} (h : Nat → α) : upto h 0 = [] := rfl
theorem upto_pre {α : Type} (h : Nat → α) {j k : Nat} (hj : j ≤ k) : upto h j <+: upto h k := by
  induction k with
  | zero => obtain rfl : j = 0 := by omega
            exact List.prefix_refl _
  | succ k ih =>
    rcases Nat.lt_or_ge j (k + 1) with h1 | h1
    · rw [upto_succ]
      exact (ih (by omega)).trans (List.prefix_append _ _)
    · obtain rfl : j = k + 1 := by omega
      exact List.prefix_refl _
theorem upto_at {α : Type} {h : Nat → α} {m : Nat} {pre : List α} {x : α} (H : pre ++ [x] <+: upto h m) : pre.length < m ∧ pre = upto h pre.length ∧ x = h pre.length := by
  have hl := H.length_le
  rw [upto_len, List.length_append, List.length_singleton] at hl
  have h2 : upto h (pre.length + 1) <+: upto h m := upto_pre h (by omega)
  have he : pre ++ [x] = upto h (pre.length + 1) := (List.prefix_of_prefix_length_le H h2 (by rw [upto_len]; simp)).eq_of_length (by rw [upto_len]; simp)
  rw [upto_succ] at he
  obtain ⟨e1, e2⟩ := List.append_inj he (by rw [upto_len])
  exact ⟨by omega, e1, by simpa using e2⟩
/-- The edges of a row. -/
def rowAt (tl wt : List Int) (e1 : Nat) (i : Nat) : Int × Int := (at_ tl (e1 + i), at_ wt (e1 + i))
def encR (x : Int × Int) : Array Value := #[.int .i64 x.1, .int .u64 x.2]
set_option maxRecDepth 100000 in
set_option maxHeartbeats 4000000 in
theorem row1_gives (T : Nat → Prop) (n : Nat) (va vb vc : Value) (st tl wt : List Int) (v e1 m Bg Bv : Nat) (w0 w : World) (hg : GIs w0 n va vb vc st tl wt) (hgd : Good n st tl wt) (hv : v < n) (h1 : at_ st v = (e1 : Int)) (h2 : at_ st (v + 1) = ((e1 + m : Nat) : Int))
    (hm : e1 + m ≤ tl.length) (hb : Below w0.heap.size w0 w) (hT : ∀ k, T k → w0.heap.size ≤ k ∧ k ≠ Bg ∧ k ≠ Bv)
    (hB : w.heap[Bg]? = some (.cells #[.int .i64 n, va, vb, vc] 25 (0, 0))) (hV : w.heap[Bv]? = some (.cells #[.int .i64 v] 3 (0, 0))) :
    Gv T Try.prog 84 #[.pointer (some ⟨Bg, 0, none⟩), .pointer (some ⟨Bv, 0, none⟩)] encR (upto (rowAt tl wt e1) m) w := by
  intro l J W hW hJ hY h0 n'
  have hn := hgd.n_le
  have hml := hgd.m_le
  have hsl := hgd.s_len
  have hwl := hgd.w_len
  obtain ⟨ga, oa, ca, rfl, hca, hcm, hcell⟩ := hg.s.spot (by intro e; rw [e] at hsl; simp at hsl)
  obtain ⟨bo, cb, rfl⟩ := hg.t.shape
  obtain ⟨co, cc, rfl⟩ := hg.u.shape
  have hga : ga < w0.heap.size := block_of_cell (hcell 0 (by omega))
  have low : ∀ X, Chg T w X → Below w0.heap.size w0 X := fun X hX => Chg.below hb hX (fun i hi => (hT i hi).1) hb.size
  have key : ∀ X, Chg T w X → X.heap[Bg]? = some (.cells #[.int .i64 n, .slice (some ⟨ga, oa, none⟩) st.length ca, .slice bo tl.length cb, .slice co wt.length cc] 25 (0, 0)) ∧ X.heap[Bv]? = some (.cells #[.int .i64 v] 3 (0, 0)) ∧ X.cell? ⟨ga, oa + v, none⟩ = some (.int .i64 (e1 : Int)) ∧ X.cell? ⟨ga, oa + (v + 1), none⟩ = some (.int .i64 ((e1 + m : Nat) : Int)) := fun X hX =>
    ⟨hX.heap hB (fun h => (hT _ h).2.1 rfl), hX.heap hV (fun h => (hT _ h).2.2 rfl), by rw [← h1]; exact (below_cell (low X hX) hga).trans (hcell v (by omega)), by rw [← h2]; exact (below_cell (low X hX) hga).trans (hcell (v + 1) (by omega))⟩
  have HK := hide key
  have HGT := hide (fun W (h : Chg T w W) i (hi : i < tl.length) => (hg.t.below (low W h)).cellAt i hi)
  have HGU := hide (fun W (h : Chg T w W) i (hi : i < wt.length) => (hg.u.below (low W h)).cellAt i hi)
  have HY := hide hY
  have HJ := hide hJ
  refine callsIn_of_wp Try.func84 rfl trivial ?_ rfl
  have hWc : Chg T w W := Chg.of_below hW
  obtain ⟨k1, k2, k3, k4⟩ := key W hWc
  have c1 := cell_of k1 (i := 1) rfl
  have c2 := cell_of k2 (i := 0) rfl
  have hvn : (v : Int) < (st.length : Int) := by omega
  have hvn1 : (v : Int) + 1 < (st.length : Int) := by omega
  have H0 := hide h0
  have HW := hide hWc
  clear key low hY hJ hg hcell h0 k1 k2 hB hV hgd hT hb hW hWc
  simp only [Try.ntmps84, List.size_toArray, List.length_cons, List.length_nil, Nat.reduceAdd, Nat.reduceSub, Array.replicate_succ, Array.replicate_zero, List.push_toArray, List.append_toArray, List.nil_append, List.cons_append]
  gi_wp2
  gi_loopw [4] (fun t wr => ∃ i : Nat, t = .int .i64 ((e1 + i : Nat) : Int) ∧ i ≤ m ∧ J (upto (rowAt tl wt e1) i) wr ∧ Chg T w wr) (fun t _ => e1 + m - (RowKit.intOf t).toNat)
  case atStart => exact ⟨0, rfl, Nat.zero_le _, H0.out, HW.out⟩
  case round =>
    obtain ⟨i, rfl, him, hj, hbr⟩ := hrel
    obtain ⟨k1, k2, k3, k4⟩ := HK.out wr hbr
    have c1 := cell_of k1 (i := 1) rfl
    have c2 := cell_of k2 (i := 0) rfl
    have c3 := cell_of k1 (i := 2) rfl
    have c4 := cell_of k1 (i := 3) rfl
    by_cases hlt : i < m
    · obtain ⟨gt, ot, ct', hst', hct, d2⟩ := HGT.out wr hbr (e1 + i) (by omega)
      simp only [Value.slice.injEq, true_and] at hst'
      obtain ⟨rfl, rfl⟩ := hst'
      obtain ⟨gu, ou, cu', hsu, hcu, d3⟩ := HGU.out wr hbr (e1 + i) (by omega)
      simp only [Value.slice.injEq, true_and] at hsu
      obtain ⟨rfl, rfl⟩ := hsu
      obtain ⟨fn, tmps, assign, body, hy, hR⟩ := HY.out (upto (rowAt tl wt e1) i) (rowAt tl wt e1 i) wr.drew (HJ.out _ _ _ none hj (drew_grown wr) (fun _ h => by cases h)) (by rw [← upto_succ]; exact upto_pre _ hlt)
      rw [← upto_succ] at hR
      simp only [encR, rowAt] at hy
      have HR := hide hR
      have HBR := hide hbr
      obtain ⟨x, hx⟩ : ∃ x, x = at_ tl (e1 + i) := ⟨_, rfl⟩
      obtain ⟨y, hyy⟩ : ∃ y, y = at_ wt (e1 + i) := ⟨_, rfl⟩
      rw [← hx, ← hyy] at hy
      rw [← hx] at d2
      rw [← hyy] at d3
      clear hR hj hbr k1 k2 hx hyy hct hcu
      obtain ⟨p, hp⟩ : ∃ p, p = e1 + i := ⟨_, rfl⟩
      obtain ⟨q, hq⟩ : ∃ q, q = e1 + m := ⟨_, rfl⟩
      rw [← hq] at k4
      rw [← hp] at d2 d3 ⊢
      have hpq : (p : Int) < (q : Int) := by omega
      have hpt : (p : Int) < (tl.length : Int) := by omega
      have hpw : (p : Int) < (wt.length : Int) := by omega
      have hpn : p < 10000000 := by omega
      have HP := hide hp
      have HQ := hide hq
      clear hp hq
      gi_wp2
      have hmix : Try.prog.follows .mixedOrders = true := by kernel_rfl
      gi_region_with_o (refine ⟨(fun h => by simp [Fence.wide] at h), (round_any HR.out _).mono ?_⟩; rintro e W' ⟨rfl, hj', hb'⟩; have HJ' := hide hj'; have HB' := hide hb'; clear hj' hb' hy HR d2 d3 k3 k4 c1 c2 c3 c4)
      all_goals gi_wp2
      all_goals exact ⟨⟨i + 1, by have := HP.out; simp; omega, by omega, HJ'.out, HBR.out.drew.trans HB'.out⟩, by have := HP.out; have := HQ.out; simp [RowKit.intOf]; omega⟩
    · obtain rfl : i = m := by omega
      have HJ2 := hide hj
      clear hj
      gi_wp2
      go_end0
      exact ⟨⟨_, rfl⟩, HJ2.out⟩
end Go.Proofs.Ytmagigmcbegmiaa

/- Regions and calls in a round; graph.row. -/
namespace Go.Proofs.Ytmagigmcbegmiaa
open Go.RowKit Go.Lib Go.Shelf
set_option linter.unusedVariables false
attribute [local go_sem] Oper.semAt_some
theorem box_kept {X Y : World} {row : Option Nat} {B : Nat} {cs : Array Value} {t : TypeId} {fr : Nat × Nat} (h : X.heap[B]? = some (.cells cs t fr)) (hg : X.grownBy Y row) (hr : ∀ r, row = some r → ∃ o : Obj, X.heap[r]? = some o ∧ o.isCells = false) : Y.heap[B]? = some (.cells cs t fr) :=
  (hg.block B (lt_of_heap h) (fun e => by obtain ⟨o, ho, hc⟩ := hr B e.symm; rw [h] at ho; cases ho; cases hc)).trans h
theorem row_any (n' : Nat) (N : Int) (va vb vc : Value) (v : Int) (w : World) : CallsIn Fence.wide n' Try.prog 51 #[gAgg N va vb vc, .int .i64 v] w fun e w' => e = .returned (.func (.func 84) #[] #[.pointer (some ⟨w.heap.size, 0, none⟩), .pointer (some ⟨w.heap.size + 1, 0, none⟩)]) ∧ w' = (w.alloc (.cells #[.int .i64 N, va, vb, vc] 25)).alloc (.cells #[.int .i64 v] 3) := by
  unfold gAgg
  refine callsIn_of_wp Try.func51 rfl trivial ?_ rfl
  simp only [Try.ntmps51, List.size_toArray, List.length_cons, List.length_nil, Nat.reduceAdd, Nat.reduceSub, Array.replicate_succ, Array.replicate_zero, List.push_toArray, List.append_toArray, List.nil_append, List.cons_append]
  gi_wp2
  go_ret
  exact ⟨rfl, rfl⟩
theorem cellAl {X : World} {b i : Nat} {v : Value} (o : Obj) (h : X.cell? ⟨b, i, none⟩ = some v) : (X.alloc o).cell? ⟨b, i, none⟩ = some v := (below_cell ((Below.refl _ _).alloc (Nat.le_refl _) _) (block_of_cell h)).trans h
theorem round_in {m : Nat} {P : Program} {l l2 : Nat} {f : FuncId} {tmps : Array Value} {x y : Code} {W : World} {R : Ending → World → Prop} (h : RoundIn Fence.wide m P l f tmps x y W R) (m' : Nat) : RoundIn (Fence.wide.inRound l2) m' P l f tmps x y W R := round_any h m'
/-- In a round an operation that is no defer statement goes as outside of it. -/
theorem op_in {F : Fence} {n : Nat} {P : Program} {Q : Exit → Act → World → Prop} {o : Oper} {a : Act} {w : World} {K : Act → World → Prop} (l : Nat) (ho : ∀ c, o.op ≠ .defer c) (h : o.wpIn F n P a w K Q) : o.wpIn (F.inRound l) n P a w K Q := by
  unfold Oper.wpIn at h ⊢
  refine ⟨h.1, ?_⟩
  have h2 := h.2
  rw [Oper.semAt_plain F _ _ ho] at h2
  rw [Oper.semAt_plain (F.inRound l) _ _ ho]
  generalize (execOp a.eval o).run P w = r at h2 ⊢
  cases r with
  | ok x w' => cases x <;> exact h2
  | halt x w' => cases x <;> exact h2
theorem any_in {F : Fence} {n : Nat} {P : Program} {Q : Exit → Act → World → Prop} {md : Region.Mode} {ops : Array Oper} (l : Nat) (hd : ∀ (i : Nat) (o : Oper), ops[i]? = some o → ∀ c, o.op ≠ .defer c) : ∀ (fuel : Nat) (listed : Array Bool) (a : Act) (w : World), wpAnyIn F n P md ops Q fuel listed a w → wpAnyIn (F.inRound l) n P md ops Q fuel listed a w := by
  intro fuel
  induction fuel with
  | zero => intro listed a w h; exact h
  | succ fuel ih =>
    intro listed a w h
    refine ⟨h.1, fun i hi => ?_⟩
    have h2 := wpOpIn_mono (fun a w => ih (listed.setIfInBounds i true) a w) (h.2 i hi)
    unfold wpOpIn at h2 ⊢
    split
    · rename_i e; simp only [e] at h2; exact h2
    · rename_i o e
      simp only [e] at h2
      split
      · rename_i hw; simp only [hw, if_true] at h2; exact op_in l (hd i o e) h2
      · rename_i hw; simp only [hw] at h2; exact h2
end Go.Proofs.Ytmagigmcbegmiaa
