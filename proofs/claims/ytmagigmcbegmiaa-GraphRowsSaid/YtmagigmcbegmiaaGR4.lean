/- What Row's iterators give; row: what Row goes through, stopped behind most edges. -/
import Derived.Test.YtmagigmcbegmiaaGR3
import Derived.Test.YtmagigmcbegmiaaGOf
import Derived.RangeFuncNested
namespace Go.Proofs.Ytmagigmcbegmiaa
open Go Go.RowKit Go.Lib Go.Shelf
set_option linter.unusedVariables false
set_option linter.unusedSimpArgs false
attribute [local go_sem] Oper.semAt_some
/-- A function value that gives S, as often as one likes, stopped or not, as long as the blocks from B on stay. -/
def SeqOf (B : Nat) (w : World) (gf : Nat) (lb : Array Value) (S : List (Int × Int)) : Prop :=
  (∀ args X, (callFunc gf args).run Try.prog X = .ok (.enter gf args) X) ∧ ∀ N, SeqStopsK Fence.wide N Try.prog gf lb encR (KeepR B w.heap.size) (fun xs => xs = S) (fun pre => ∃ k, k < S.length ∧ pre = S.take (k + 1)) S.length w
theorem upto_take {α : Type} (h : Nat → α) (k m : Nat) (hk : k ≤ m) : upto h k = (upto h m).take k := by
  unfold upto
  rw [← List.map_take, List.take_range, Nat.min_eq_left hk]
theorem seq_alone {B Bg Bv Bs m : Nat} {vb vc : Value} {tl wt : List Int} {w : World} (hA : Alone B Bg Bv Bs m vb vc tl wt w) (hm : m ≤ 4194304) : SeqOf B w 84 #[.pointer (some ⟨Bg, 0, none⟩), .pointer (some ⟨Bv, 0, none⟩)] (upto (rAt tl wt) m) := by
  refine ⟨enters_of Try.func84 (by kernel_rfl) rfl, fun N => ?_⟩
  have h := row84_stops B Bg Bv Bs m vb vc tl wt w hA hm N
  rw [upto_len]
  have e : (fun pre => ∃ k, k < m ∧ pre = (upto (rAt tl wt) m).take (k + 1)) = (fun pre => ∃ k, k < m ∧ pre = upto (rAt tl wt) (k + 1)) := by
    funext pre
    refine propext ⟨?_, ?_⟩
    · rintro ⟨k, hk, rfl⟩; exact ⟨k, hk, (upto_take _ _ _ hk).symm⟩
    · rintro ⟨k, hk, rfl⟩; exact ⟨k, hk, upto_take _ _ _ hk⟩
  rw [e]
  exact h
/-- The function that gives nothing. -/
theorem seq_none (B : Nat) (w : World) : SeqOf B w 57 #[] [] := by
  refine ⟨enters_of Try.func57 (by kernel_rfl) rfl, fun N => ?_⟩
  intro l J Jx W hW hJ hJx hY h0
  refine callsIn_of_wp Try.func57 rfl trivial ?_ rfl
  simp only [Try.ntmps57, List.size_toArray, List.length_cons, List.length_nil, Nat.reduceAdd, Nat.reduceSub, Array.replicate_succ, Array.replicate_zero, List.push_toArray, List.append_toArray, List.nil_append, List.cons_append]
  gi_wp2
  go_end0
  exact ⟨⟨_, rfl⟩, .inl ⟨[], rfl, h0⟩⟩
/-- What Row may answer. -/
def RowPost (X : World) (S : List (Int × Int)) (e : Ending) (w' : World) : Prop := ∃ gf lb, e = .returned (.func (.func gf) #[] lb) ∧ SeqOf X.heap.size w' gf lb S ∧ Below X.heap.size X w'

theorem eql_func_nil (f : Fn) (p q : Array Value) (w : World) : (binOp .eql 65 (.func f p q) .nilFunc).run Try.prog w = .ok (.bool false) w := by
  have h : ∀ d : Nat, (Op.equalIn (d + 1) 65 (.func f p q) .nilFunc).run Try.prog w = .ok false w := fun d => by
    simp [Op.equalIn, run_underlying Try.underlying65]
  simp only [binOp]
  simp [Op.equal, Op.maxDepth, h 9999]
/-- The edges of a row's first ones. -/
def edS (v : Int) (S : List (Int × Int)) : List Ed3 := S.map fun x => (v, x.1, x.2)
theorem own_slice3 {X : World} {B t sz k : Nat} {v : Value} {xs : List Value} (h : X.ownsRow B t sz v k xs) : ∃ lo lc, v = .slice lo k lc := by
  obtain ⟨_, h2 | ⟨g, c, cur, hv, _⟩⟩ := h
  · exact ⟨none, 0, by rw [h2.1, h2.2]⟩
  · exact ⟨_, _, hv⟩
/-- row's memory: the boxes of v, of most, of the list; the list. -/
structure R6 (w x : World) (E : Nat) (v most : Int) (lv : Value) (pre : List (Int × Int)) : Prop where
  bv : Boxed x (w.heap.size + 1) 3 (.int .i64 v)
  bm : Boxed x (w.heap.size + 1 + 1) 3 (.int .i64 most)
  bl : Boxed x (w.heap.size + 1 + 1 + 1) 45 lv
  own : x.ownsRow E 50 3 lv pre.length (eCells (edS v pre))
  few : (pre.length : Int) ≤ most
  bel : Below w.heap.size w x
  sz : E ≤ x.heap.size
theorem own3_kept {X Y : World} {row : Option Nat} {base : Nat} {t : TypeId} {sz k : Nat} {v : Value} {xs : List Value} (h : X.ownsRow base t sz v k xs) (hg : X.grownBy Y row) (hr : ∀ r, row = some r → ∃ o : Obj, X.heap[r]? = some o ∧ o.isCells = false) : Y.ownsRow base t sz v k xs := by
  obtain ⟨h1, h2 | ⟨g, c, cur, hv, hb, hh, r1⟩⟩ := h
  · exact ⟨h1, .inl h2⟩
  · exact ⟨h1, .inr ⟨g, c, cur, hv, hb, box_kept hh hg hr, r1⟩⟩
theorem own3_set {X : World} {base b i : Nat} {t : TypeId} {sz k : Nat} {v u : Value} {xs : List Value} (h : X.ownsRow base t sz v k xs) (hb : b < base) : (X.setCell ⟨b, i, none⟩ u).ownsRow base t sz v k xs := by
  obtain ⟨h1, h2 | ⟨g, c, cur, hv, hg, hh, r1⟩⟩ := h
  · exact ⟨h1, .inl h2⟩
  · exact ⟨h1, .inr ⟨g, c, cur, hv, hg, (Below.heap_setCell _ _ _ _ (show g ≠ b by omega)).trans hh, r1⟩⟩
theorem R6.kept {w X Y : World} {E : Nat} {v most : Int} {lv : Value} {pre : List (Int × Int)} {row : Option Nat} (h : R6 w X E v most lv pre) (hE : w.heap.size ≤ E) (hg : X.grownBy Y row) (hr : ∀ r, row = some r → E ≤ r ∧ ∃ o : Obj, X.heap[r]? = some o ∧ o.isCells = false) : R6 w Y E v most lv pre :=
  ⟨box_kept h.bv hg (fun r e => (hr r e).2), box_kept h.bm hg (fun r e => (hr r e).2), box_kept h.bl hg (fun r e => (hr r e).2), own3_kept h.own hg (fun r e => (hr r e).2), h.few, h.bel.grown hg h.bel.size (fun k e => Nat.le_trans hE (hr k e).1), Nat.le_trans h.sz hg.size⟩
theorem edS_len (v : Int) (S : List (Int × Int)) : (edS v S).length = S.length := by simp [edS]
theorem edS_snoc (v : Int) (S : List (Int × Int)) (x : Int × Int) : edS v (S ++ [x]) = edS v S ++ [(v, x.1, x.2)] := by simp [edS]
theorem R6.mid {w W w1 : World} {E : Nat} {v most : Int} {lv : Value} {pre : List (Int × Int)} {o : Obj} (h : R6 w W E v most lv pre) (hE : w.heap.size + 4 ≤ E) (hg : (W.alloc o).grownBy w1 lv.ownBlock) : w1.heap[w.heap.size + 1 + 1 + 1]? = some (.cells #[lv] 45 (0, 0)) := by
  have hl := fun g e => (h.own.lt g e).1
  have hsz := h.sz
  exact (hg.block _ (by simp; omega) (fun e => by have := hl _ e.symm; omega)).trans ((Below.heap_alloc _ _ _ (by omega)).trans h.bl)
theorem R6.step {w W w1 : World} {E k : Nat} {v most : Int} {lv lv' : Value} {pre : List (Int × Int)} {x : Int × Int} {o : Obj} (h : R6 w W E v most lv pre) (hk : pre.length = k) (hE : w.heap.size + 4 ≤ E)
    (ho : w1.ownsRow E 50 3 lv' (k + 1) (eCells (edS v pre) ++ [.int .i64 v, .int .i64 x.1, .int .u64 x.2])) (hg : (W.alloc o).grownBy w1 lv.ownBlock) (hf : (k : Int) + 1 ≤ most) :
    R6 w (w1.setCell ⟨w.heap.size + 1 + 1 + 1, 0, none⟩ lv') E v most lv' (pre ++ [x]) ∧ KeepsFrom E W (w1.setCell ⟨w.heap.size + 1 + 1 + 1, 0, none⟩ lv') ∧ KeepR (w.heap.size + 4) E W (w1.setCell ⟨w.heap.size + 1 + 1 + 1, 0, none⟩ lv') := by
  have hl := fun g e => (h.own.lt g e).1
  have hsz := h.sz
  have ne : ∀ b, b < E → some b ≠ lv.ownBlock := fun b hb e => by have := hl b e.symm; omega
  have gs := hg.size
  simp only [World.size_alloc] at gs
  have blk : ∀ b, b < E → w1.heap[b]? = W.heap[b]? := fun b hb => (hg.block b (by simp; omega) (ne b hb)).trans (Below.heap_alloc _ _ _ (by omega))
  have b1 : Boxed w1 (w.heap.size + 1) 3 (.int .i64 v) := (blk _ (by omega)).trans h.bv
  have b2 : Boxed w1 (w.heap.size + 1 + 1) 3 (.int .i64 most) := (blk _ (by omega)).trans h.bm
  have b3 : Boxed w1 (w.heap.size + 1 + 1 + 1) 45 lv := (blk _ (by omega)).trans h.bl
  refine ⟨⟨(Below.heap_setCell _ _ _ _ (by show w.heap.size + 1 ≠ w.heap.size + 1 + 1 + 1; omega)).trans b1, (Below.heap_setCell _ _ _ _ (by show w.heap.size + 1 + 1 ≠ w.heap.size + 1 + 1 + 1; omega)).trans b2, b3.set _, own3_set ?_ (by omega), by simp; omega, ?_, by simp [World.setCell]; omega⟩, ⟨by simp [World.setCell]; omega, fun b ob hb hw hc => ?_⟩, ⟨by simp [World.setCell]; omega, fun b h1 h2 => ?_⟩⟩
  · rw [edS_snoc, eCells_snoc]; simp only [List.length_append, List.length_singleton, hk]; exact ho
  · have hb1 : Below w.heap.size w w1 := (h.bel.alloc h.bel.size o).grown hg (by simp; have := h.bel.size; omega) (fun k e => by have := hl k e; omega)
    exact hb1.setCell (p := ⟨w.heap.size + 1 + 1 + 1, 0, none⟩) (by show w.heap.size ≤ w.heap.size + 1 + 1 + 1; omega) _
  · refine (Below.heap_setCell _ _ _ _ (by show b ≠ w.heap.size + 1 + 1 + 1; omega)).trans ?_
    by_cases e : lv.ownBlock = some b
    · exfalso
      obtain ⟨_, h2 | ⟨g, c, cur, hv, hgb, hh, _⟩⟩ := h.own
      · rw [h2.1] at e; cases e
      · rw [hv] at e
        simp [Value.ownBlock] at e
        subst e
        rw [hw] at hh
        cases hh
        cases hc
    · exact (hg.block b (by simp; have := lt_of_heap hw; omega) (fun e' => e e'.symm)).trans ((Below.heap_alloc _ _ _ (lt_of_heap hw)).trans hw)
  · exact (Below.heap_setCell _ _ _ _ (by show b ≠ w.heap.size + 1 + 1 + 1; omega)).trans (blk b h2)
set_option maxRecDepth 100000 in
set_option maxHeartbeats 2000000 in
theorem row26_any (N : Int) (ao bo co : Option Addr) (na nb nc ca cb cc : Nat) (v most : Int) (S : List (Int × Int)) (w : World) (hS : S.length ≤ 4194304) (hmost : 0 ≤ most)
    (hC : ∀ X, Below w.heap.size w X → Calls Try.prog 28 #[.agg #[.int .i64 N, .slice ao na ca, .slice bo nb cb, .slice co nc cc], .int .i64 v] X (RowPost X S)) :
    Calls Try.prog 26 #[.agg #[.int .i64 N, .slice ao na ca, .slice bo nb cb, .slice co nc cc], .int .i64 v, .int .i64 most] w fun e w' => ∃ lo lc, e = .returned (.slice lo (S.take most.toNat).length lc) ∧ EAt w' (.slice lo (S.take most.toNat).length lc) (edS v (S.take most.toNat)) ∧ Below w.heap.size w w' := by
  obtain ⟨i0, hi, hz0, hz1, hz2⟩ := info_parts3 Try.info50'
  have HC := hide hC
  have q65 := eql_func_nil
  clear hC
  refine (callsIn_wide (n := 6)).1 ?_
  refine callsIn_of_wp_marks Try.func26 rfl trivial ?_ rfl
  simp only [Try.ntmps26, List.size_toArray, List.length_cons, List.length_nil, Nat.reduceAdd, Nat.reduceSub, Array.replicate_succ, Array.replicate_zero, List.push_toArray, List.append_toArray, List.nil_append, List.cons_append]
  gi_wp2_with (refine ⟨trivial, ?_⟩; refine (callsIn_wide.2 (HC.out _ (by repeat (first | exact Below.refl _ _ | (with_reducible apply below_alloc))))).mono ?_; rintro e w2 ⟨gf, lb, rfl, hseq, hb2⟩; have HSQ := hide hseq; have HB2 := hide hb2; clear hseq hb2)
  obtain ⟨X0, hX0⟩ : ∃ X0, X0 = (((w.alloc (.cells #[.int .i64 N, .slice ao na ca, .slice bo nb cb, .slice co nc cc] 25)).alloc (.cells #[.int .i64 v] 3)).alloc (.cells #[.int .i64 most] 3)).alloc (.cells #[.slice none 0 0] 45) := ⟨_, rfl⟩
  rw [← hX0] at HSQ HB2
  have sX : X0.heap.size = w.heap.size + 4 := by rw [hX0]; simp
  have bX : Below w.heap.size w X0 := by rw [hX0]; exact below_alloc (below_alloc (below_alloc (below_alloc (Below.refl _ _) _) _) _) _
  have x1 : Boxed X0 (w.heap.size + 1) 3 (.int .i64 v) := by rw [hX0]; exact up_alloc _ (up_alloc _ (heap_n1 _ _ _))
  have x2 : Boxed X0 (w.heap.size + 1 + 1) 3 (.int .i64 most) := by
    rw [hX0]
    have := heap_n1 (w.alloc (.cells #[.int .i64 N, .slice ao na ca, .slice bo nb cb, .slice co nc cc] 25)) (.cells #[.int .i64 v] 3) (.cells #[.int .i64 most] 3)
    rw [World.size_alloc] at this
    exact up_alloc _ this
  have x3 : Boxed X0 (w.heap.size + 1 + 1 + 1) 45 (.slice none 0 0) := by
    rw [hX0]
    have := heap_n1 ((w.alloc (.cells #[.int .i64 N, .slice ao na ca, .slice bo nb cb, .slice co nc cc] 25)).alloc (.cells #[.int .i64 v] 3)) (.cells #[.int .i64 most] 3) (.cells #[.slice none 0 0] 45)
    rw [World.size_alloc, World.size_alloc] at this
    exact this
  have hb2 := HB2.out
  have hE : w.heap.size + 4 ≤ w2.heap.size := by have := hb2.size; omega
  have h60 : R6 w w2 w2.heap.size v most (.slice none 0 0) [] := ⟨up_bel hb2 x1, up_bel hb2 x2, up_bel hb2 x3, World.ownsRow_nil _ _ _ _, by simpa using hmost, below_on bX hb2, Nat.le_refl _⟩
  obtain ⟨hent, hstp⟩ := HSQ.out
  rw [sX] at hstp
  have H60 := hide h60
  clear hX0 sX bX x1 x2 x3 hb2 h60 HSQ HB2 HC X0 q65
  have HE := hide hE
  refine wpIn_rangeFunc_ownG rfl (by decide) (gf := gf) (lb := lb) rfl trivial hent (hstp _) (fun h k => keepR_t h k) (keepR_b (Nat.le_refl _)) (Below.refl _ _) (fun _ => rfl)
    (fun pre X => ∃ lv, R6 w X w2.heap.size v most lv pre)
    (fun c pre X => c = .exit 0 ∧ ∃ lv pre' y, pre = pre' ++ [y] ∧ R6 w X w2.heap.size v most lv pre' ∧ most ≤ (pre'.length : Int))
    (fun s A B row hs hg hr => by obtain ⟨lv, h⟩ := hs; exact ⟨lv, h.kept (by have := HE.out; omega) hg hr⟩)
    (fun c s A B row hs hg hr => by obtain ⟨hc, lv, pre', y, h1, h2, h3⟩ := hs; exact ⟨hc, lv, pre', y, h1, h2.kept (by have := HE.out; omega) hg hr, h3⟩)
    ⟨_, H60.out⟩
    (fun x => { tmps := #[.agg #[.int .i64 N, .slice ao na ca, .slice bo nb cb, .slice co nc cc], .int .i64 v, .int .i64 most, .pointer (some ⟨w.heap.size, 0, none⟩), .pointer (some ⟨w.heap.size + 1, 0, none⟩), .pointer (some ⟨w.heap.size + 1 + 1, 0, none⟩), .slice none 0 0, .pointer (some ⟨w.heap.size + 1 + 1 + 1, 0, none⟩), .func (.func gf) #[] lb, .int .i64 x.1, .int .u64 x.2, .agg #[.int .i64 N, .slice ao na ca, .slice bo nb cb, .slice co nc cc], .int .i64 v, .func (.func gf) #[] lb, .func (.func gf) #[] lb, .bool false, undef, undef, .func (.func gf) #[] lb, .int .i64 x.1, .int .u64 x.2, undef, undef, undef, undef, undef, undef, undef, undef, undef, undef, undef, undef], defers := [] }) ?assign ?body ?done ?stop
  case assign =>
    rintro l x X K hK
    dsimp only [encR]
    gi_wp2
    exact hK
  case body =>
    rintro l pre x X ⟨lv, h6⟩ hlen
    obtain ⟨x1, x2⟩ := x
    simp only
    have hl3 := own_slice3 h6.own
    obtain ⟨lo, lc, rfl⟩ := hl3
    have cl : X.cell? ⟨w.heap.size + 1 + 1 + 1, 0, none⟩ = some (.slice lo pre.length lc) := cell_of h6.bl (i := 0) rfl
    have cm : X.cell? ⟨w.heap.size + 1 + 1, 0, none⟩ = some (.int .i64 most) := cell_of h6.bm (i := 0) rfl
    have cv : X.cell? ⟨w.heap.size + 1, 0, none⟩ = some (.int .i64 v) := cell_of h6.bv (i := 0) rfl
    have H6 := hide h6
    clear h6 hstp hent
    by_cases hge : most ≤ (pre.length : Int)
    · gi_wp2
      exact ⟨KeepsFrom.refl _ _, rfl, _, pre, _, rfl, H6.out, hge⟩
    · obtain ⟨k, hk⟩ : ∃ k, pre.length = k := ⟨_, rfl⟩
      have h6k := H6.out
      rw [hk] at h6k
      have ho := h6k.own
      rw [hk] at cl hge hlen ho
      have HK := hide hk
      clear H6
      have H6 := hide h6k
      clear h6k
      have HO := hide ho
      have hk4 : k ≤ 4194304 := by omega
      have HSZ := hide H6.out.sz
      clear hk ho
      gi_wp2_with (gi_at_builtin; refine wpListIn_append_own _ rfl _ _ 45 rfl w2.heap.size 50 i0 (.agg #[.int .i64 0, .int .i64 0, .int .u64 0]) 3 24 Try.underlying45 hi hz0 hz1 hz2 rfl (by decide) _ k _ rfl (HO.out.alloc _) ⟨X.heap.size, 0, none⟩ 1 1 [.int .i64 v, .int .i64 x1, .int .u64 x2] rfl rfl (three_cells X _ _ _ _) (by simp [Value.oneCell']) (by unfold maxLen; omega) (by omega) (by have := HSZ.out; simp; omega) ?_; intro v' w1 hown1 hgrow1 _; obtain ⟨g', cap', rfl⟩ := ownsRow_succ hown1; have hb3 := H6.out.mid HE.out hgrow1; have cx1 := cell_of hb3 (i := 0) rfl; have fx1 := free_of hb3 0; have HST := hide (H6.out.step (x := (x1, x2)) HK.out HE.out hown1 hgrow1 (by omega)); clear hb3 hown1 hgrow1)
      exact ⟨HST.out.2.1, HST.out.2.2, _, HST.out.1⟩
  case done =>
    rintro D xs Z hD rfl ⟨lv, h6⟩ hK
    obtain ⟨lo, lc, rfl⟩ := own_slice3 h6.own
    have cl : Z.cell? ⟨w.heap.size + 1 + 1 + 1, 0, none⟩ = some (.slice lo xs.length lc) := cell_of h6.bl (i := 0) rfl
    have H6 := hide (h6.kept (by have := HE.out; omega) (grownBy_putObj' Z D (.deferred none)) (fun r e => by cases e; exact ⟨hD, _, hK, rfl⟩))
    have e : xs.take most.toNat = xs := List.take_of_length_le (by have := h6.few; omega)
    have HEQ := hide e
    have HKK := hide hK
    clear h6 hstp hent hK e
    gi_wp2
    refine ⟨by simp, .inl ⟨_, _, rfl, run_takeDeferred HKK.out, ?_⟩⟩
    refine ⟨_, results_tmp rfl _ _ _, lo, lc, (by rw [HEQ.out]; rfl), ?_, H6.out.bel⟩
    rw [HEQ.out]
    have ho := EAt.of_owns (l := edS v xs) (by rw [edS_len]; exact H6.out.own)
    exact ho
  case stop =>
    rintro D c pre Z hD ⟨k, hk, rfl⟩ ⟨rfl, lv, pre', y, hpre, h6, hms⟩ hK
    have hpl : pre'.length = k := by
      have := congrArg List.length hpre
      simp at this
      omega
    have hpe : pre' = S.take k := by
      have h1 : (S.take (k + 1)).take k = S.take k := by rw [List.take_take, Nat.min_eq_left (Nat.le_succ k)]
      have h2 : (pre' ++ [y]).take k = pre' := by rw [← hpl]; exact List.take_left
      rw [← h1, hpre, h2]
    have hmk : most.toNat = k := by have := h6.few; omega
    obtain ⟨lo, lc, rfl⟩ := own_slice3 h6.own
    have cl : Z.cell? ⟨w.heap.size + 1 + 1 + 1, 0, none⟩ = some (.slice lo pre'.length lc) := cell_of h6.bl (i := 0) rfl
    have H6 := hide (h6.kept (by have := HE.out; omega) (grownBy_putObj' Z D (.deferred none)) (fun r e => by cases e; exact ⟨hD, _, hK, rfl⟩))
    have e : S.take most.toNat = pre' := by rw [hmk, hpe]
    have HEQ := hide e
    have HKK := hide hK
    clear h6 hstp hent hK e hpe hpl hpre hmk hms
    gi_wp2
    refine ⟨by simp, .inl ⟨_, _, rfl, run_takeDeferred HKK.out, ?_⟩⟩
    refine ⟨_, results_tmp rfl _ _ _, lo, lc, (by rw [HEQ.out]; rfl), ?_, H6.out.bel⟩
    rw [HEQ.out]
    have ho := EAt.of_owns (l := edS v pre') (by rw [edS_len]; exact H6.out.own)
    exact ho
end Go.Proofs.Ytmagigmcbegmiaa
