/- graph.arrange: the walk. -/
import Derived.Test.YtmagigmcbegmiaaGA1
import Derived.Deep.RegionHeld3
import Derived.Deep.Draws
namespace Go.Proofs.Ytmagigmcbegmiaa
open Go.RowKit Go.Lib Go.Shelf
set_option linter.unusedVariables false
attribute [local go_sem] Oper.semAt_some
theorem cd_drew (X : World) (a : Addr) : X.drew.cell? a = X.cell? a := rfl
theorem cAl {X : World} {b i : Nat} {v : Value} (o : Obj) (h : X.cell? ⟨b, i, none⟩ = some v) : (X.alloc o).cell? ⟨b, i, none⟩ = some v := cellAl o h
theorem run_makeI (k : Nat) (hk : k ≤ 4194305) (w : World) :
    (Instr.makeSlice 22 (.int .i64 k) (.int .i64 k)).run Try.prog w = .ok (.slice (some ⟨w.heap.size, 0, none⟩) k k) (w.alloc (.cells (madeCells #[.int .i64 0] k) 3)) := by
  obtain ⟨i0, hi, hz0, hz1, hz2⟩ := info_parts Try.info3
  have h := run_make (P := Try.prog) w 22 3 i0 (.int .i64 0) Try.underlying22 hi hz0 .i64 .i64 k k (by omega) (Int.le_refl _) (by rw [hz2]; omega) (by omega)
  rw [hz1] at h
  simp only [Int.toNat_natCast, Nat.mul_one] at h
  exact h
theorem run_makeU (k : Nat) (hk : k ≤ 4194305) (w : World) :
    (Instr.makeSlice 23 (.int .i64 k) (.int .i64 k)).run Try.prog w = .ok (.slice (some ⟨w.heap.size, 0, none⟩) k k) (w.alloc (.cells (madeCells #[.int .u64 0] k) 48)) := by
  obtain ⟨i0, hi, hz0, hz1, hz2⟩ := info_parts Try.info48
  have h := run_make (P := Try.prog) w 23 48 i0 (.int .u64 0) Try.underlying23 hi hz0 .i64 .i64 k k (by omega) (Int.le_refl _) (by rw [hz2]; omega) (by omega)
  rw [hz1] at h
  simp only [Int.toNat_natCast, Nat.mul_one] at h
  exact h
theorem tally_zero (n : Nat) (F : Nat → Nat) : Tally n F 0 (tab (n + 1) (fun _ => 0)) := by
  refine ⟨tab_length _ _, by rw [tab_at _ _ _ (by omega)], fun v hv => ?_⟩
  rw [tab_at _ _ _ (by omega)]
  rfl
/-- A list that was made, whose block is known where it is not empty. -/
def NO (w : World) (ao : Option Addr) (s : List Int) : Prop := s = [] ∨ ∃ G, ao = some ⟨G, 0, none⟩ ∧ NX w G s
theorem ownsI_shape {w : World} {base : Nat} {v : Value} {s : List Int} (h : w.ownsRow base 3 1 v s.length (s.map (Value.int .i64))) : ∃ ao cp, v = .slice ao s.length cp ∧ s.length ≤ cp ∧ NO w ao s ∧ ∀ k, ao = some ⟨k, 0, none⟩ → base ≤ k ∧ k < w.heap.size := by
  obtain ⟨h1, ⟨rfl, h2⟩ | ⟨g, cap, cur, rfl, hg, hh, hnc, hcm, hcur, htake⟩⟩ := h
  · exact ⟨none, 0, by rw [h2], by omega, .inl (List.eq_nil_of_length_eq_zero h2), fun k hk => by cases hk⟩
  · refine ⟨some ⟨g, 0, none⟩, cap, rfl, hnc, .inr ⟨g, rfl, cur, hh, ?_⟩, fun k hk => by cases hk; exact ⟨hg, lt_of_heap hh⟩⟩
    rw [Nat.mul_one] at htake
    exact htake
theorem cloneI_any (g o c n : Nat) (xs : List Int) (w : World) (hr : RowAt .i64 w (.slice (some ⟨g, o, none⟩) xs.length c) xs) (hx : xs.length = n) (hl : n ≤ 4194305) :
    Calls Try.prog 58 #[.slice (some ⟨g, o, none⟩) n c] w fun e w' => ∃ ao cp, e = .returned (.slice ao n cp) ∧ n ≤ cp ∧ NO w' ao xs ∧ (∀ k, ao = some ⟨k, 0, none⟩ → w.heap.size ≤ k ∧ k < w'.heap.size) ∧ Below w.heap.size w w' := by
  subst hx
  refine (cloneInts_any g o c xs w hr hl).mono ?_
  rintro e w' ⟨v, rfl, ho, hb⟩
  obtain ⟨ao, cp, rfl, h1, h2, h3⟩ := ownsI_shape ho
  exact ⟨ao, cp, rfl, h1, h2, h3, hb⟩
theorem cellS {X : World} {b o b' o' : Nat} {v u : Value} (h : X.cell? ⟨b, o, none⟩ = some v) (hne : b ≠ b') : (X.setCell ⟨b', o', none⟩ u).cell? ⟨b, o, none⟩ = some v := by
  simp only [World.cell?, Below.heap_setCell _ _ _ _ (show b ≠ (⟨b', o', none⟩ : Addr).block from hne)]
  exact h
theorem four_new' (w : World) (o1 o2 o3 o4 : Obj) : ((((w.alloc o1).alloc o2).alloc o3).alloc o4).heap[w.heap.size]? = some o1 ∧ ((((w.alloc o1).alloc o2).alloc o3).alloc o4).heap[w.heap.size + 1]? = some o2 ∧ ((((w.alloc o1).alloc o2).alloc o3).alloc o4).heap[w.heap.size + 1 + 1]? = some o3 ∧ ((((w.alloc o1).alloc o2).alloc o3).alloc o4).heap[w.heap.size + 1 + 1 + 1]? = some o4 ∧ Below w.heap.size w ((((w.alloc o1).alloc o2).alloc o3).alloc o4) := by
  refine ⟨?_, ?_, ?_, ?_, below_alloc (below_alloc (below_alloc (below_alloc (Below.refl _ _) _) _) _) _⟩
  · exact (Below.heap_alloc _ _ _ (by first | (simp; done) | (simp; omega))).trans ((Below.heap_alloc _ _ _ (by first | (simp; done) | (simp; omega))).trans ((Below.heap_alloc _ _ _ (by first | (simp; done) | (simp; omega))).trans (heap_new _ _)))
  · have := heap_new (w.alloc o1) o2
    rw [World.size_alloc] at this
    exact (Below.heap_alloc _ _ _ (by first | (simp; done) | (simp; omega))).trans ((Below.heap_alloc _ _ _ (by first | (simp; done) | (simp; omega))).trans this)
  · have := heap_new ((w.alloc o1).alloc o2) o3
    rw [World.size_alloc, World.size_alloc] at this
    exact (Below.heap_alloc _ _ _ (by first | (simp; done) | (simp; omega))).trans this
  · have := heap_new (((w.alloc o1).alloc o2).alloc o3) o4
    rw [World.size_alloc, World.size_alloc, World.size_alloc] at this
    exact this
theorem NO.chg {w w' : World} {ao : Option Addr} {s : List Int} {S : Nat → Prop} (h : NO w ao s) (hc : Chg S w w') (hn : ∀ G, ¬ S G) : NO w' ao s := by
  rcases h with h | ⟨G, h1, cur, h2, h3⟩
  · exact .inl h
  · exact .inr ⟨G, h1, cur, hc.heap h2 (hn G), h3⟩
theorem NO.kept {X Y : World} {ao : Option Addr} {s : List Int} {row : Option Nat} (h : NO X ao s) (hg : X.grownBy Y row) (hr : ∀ r, row = some r → ∃ o : Obj, X.heap[r]? = some o ∧ o.isCells = false) : NO Y ao s := by
  rcases h with h | ⟨G, h1, cur, h2, h3⟩
  · exact .inl h
  · exact .inr ⟨G, h1, cur, box_kept h2 hg hr, h3⟩
theorem arru_new {w : World} {g n : Nat} (h : w.heap[g]? = some (.cells (madeCells #[.int .u64 0] n) 48 (0, 0))) : ArrU w g (tab n (fun _ => 0)) := by
  unfold ArrU
  rw [h]
  congr 2
  apply Array.ext
  · simp [madeCells, uCells, tab]
  · intro i h1 h2
    have h3 : i % 1 = 0 := Nat.mod_one i
    simp [madeCells, uCells, tab, h3]
theorem lay_zero {n m : Nat} {F T : Nat → Nat} {W : Nat → Int} {l : List Int} (hs : Summed n m F n l) (hF : ∀ i, i < m → F i < n) : Laying n m F T W 0 l (tab m (fun _ => 0)) (tab m (fun _ => 0)) := by
  refine ⟨hs.1, fun v hv => ?_, tab_length _ _, tab_length _ _, fun j hj => by omega, fun j hj => by omega, fun e he => ?_, fun e he => ?_⟩
  · rw [hs.2.1 v (by omega)]; simp [outs, cnt]
  · rw [tab_at _ _ _ he]; have := hF e he; omega
  · rw [tab_at _ _ _ he]; omega
def fEd (F T : Nat → Nat) (W : Nat → Int) (i : Nat) : Int × Int × Int := ((F i : Nat), (T i : Nat), W i)
def ArrW (w : World) (n m : Nat) (F T : Nat → Nat) (W : Nat → Int) (e : Ending) (w' : World) : Prop :=
  ∃ va vb vc st tl wt nx, e = .returned (gAgg n va vb vc) ∧ (∀ Z : World, (∀ k, w.heap.size ≤ k → Z.heap[k]? = w'.heap[k]?) → GIs Z n va vb vc st tl wt) ∧ Summed n m F n st ∧ Laying n m F T W m nx tl wt ∧ Below w.heap.size w w'
theorem below_putObj {B : Nat} {a w : World} (h : Below B a w) {k : Nat} (hk : B ≤ k) (o : Obj) : Below B a (w.putObj k o) :=
  ⟨h.os, h.tape, h.output, by have := h.size; simp; omega, fun i hi => (World.putObj_heap_other (by omega)).trans (h.block i hi)⟩
theorem Try.results61 : Try.f61.results = #[.cell 4 25] := by kernel_rfl
theorem arr_finish {w Z : World} {n m D D2 Gt Gw : Nat} {l tl wt nx : List Int} {F T : Nat → Nat} {W : Nat → Int} {y0 y1 y2 y3 : Value} (hn : n ≤ 1048576) (hm : m ≤ 4194304)
    (z0 : Z.heap[w.heap.size]? = some (.cells #[y0, y1, y2, y3] 25 (0, 0))) (zD : Z.heap[D]? = some (.deferred (some []))) (zD2 : Z.heap[D2]? = some (.deferred (some [])))
    (zs : Arr Z (w.heap.size + 1) l) (h2 : Arr Z Gt tl) (h3 : ArrU Z Gw wt) (hs : Summed n m F n l) (hy : Laying n m F T W m nx tl wt) (hb : Below w.heap.size w Z)
    (d1 : w.heap.size + 3 ≤ D) (d2 : w.heap.size + 3 ≤ D2) (d3 : D ≠ D2) (g1 : w.heap.size + 3 ≤ Gt) (g2 : w.heap.size + 3 ≤ Gw) :
    ((((Z.setCell ⟨w.heap.size, 0, none⟩ (.int .i64 n)).setCell ⟨w.heap.size, 1, none⟩ (.slice (some ⟨w.heap.size + 1, 0, none⟩) (n + 1) (n + 1))).setCell ⟨w.heap.size, 2, none⟩ (.slice (some ⟨Gt, 0, none⟩) m m)).setCell ⟨w.heap.size, 3, none⟩ (.slice (some ⟨Gw, 0, none⟩) m m)).heap[D2]? = some (.deferred (some [])) ∧
    (((((Z.setCell ⟨w.heap.size, 0, none⟩ (.int .i64 n)).setCell ⟨w.heap.size, 1, none⟩ (.slice (some ⟨w.heap.size + 1, 0, none⟩) (n + 1) (n + 1))).setCell ⟨w.heap.size, 2, none⟩ (.slice (some ⟨Gt, 0, none⟩) m m)).setCell ⟨w.heap.size, 3, none⟩ (.slice (some ⟨Gw, 0, none⟩) m m)).putObj D2 (.deferred none)).heap[D]? = some (.deferred (some [])) ∧
    ((((((Z.setCell ⟨w.heap.size, 0, none⟩ (.int .i64 n)).setCell ⟨w.heap.size, 1, none⟩ (.slice (some ⟨w.heap.size + 1, 0, none⟩) (n + 1) (n + 1))).setCell ⟨w.heap.size, 2, none⟩ (.slice (some ⟨Gt, 0, none⟩) m m)).setCell ⟨w.heap.size, 3, none⟩ (.slice (some ⟨Gw, 0, none⟩) m m)).putObj D2 (.deferred none)).putObj D (.deferred none)).heap[w.heap.size]? = some (.cells #[.int .i64 n, .slice (some ⟨w.heap.size + 1, 0, none⟩) (n + 1) (n + 1), .slice (some ⟨Gt, 0, none⟩) m m, .slice (some ⟨Gw, 0, none⟩) m m] 25 (0, 0)) ∧
    ArrW w n m F T W (.returned (.agg #[.int .i64 n, .slice (some ⟨w.heap.size + 1, 0, none⟩) (n + 1) (n + 1), .slice (some ⟨Gt, 0, none⟩) m m, .slice (some ⟨Gw, 0, none⟩) m m])) ((((((Z.setCell ⟨w.heap.size, 0, none⟩ (.int .i64 n)).setCell ⟨w.heap.size, 1, none⟩ (.slice (some ⟨w.heap.size + 1, 0, none⟩) (n + 1) (n + 1))).setCell ⟨w.heap.size, 2, none⟩ (.slice (some ⟨Gt, 0, none⟩) m m)).setCell ⟨w.heap.size, 3, none⟩ (.slice (some ⟨Gw, 0, none⟩) m m)).putObj D2 (.deferred none)).putObj D (.deferred none)) := by
  have hk : ∀ k, k ≠ w.heap.size → ((((Z.setCell ⟨w.heap.size, 0, none⟩ (.int .i64 n)).setCell ⟨w.heap.size, 1, none⟩ (.slice (some ⟨w.heap.size + 1, 0, none⟩) (n + 1) (n + 1))).setCell ⟨w.heap.size, 2, none⟩ (.slice (some ⟨Gt, 0, none⟩) m m)).setCell ⟨w.heap.size, 3, none⟩ (.slice (some ⟨Gw, 0, none⟩) m m)).heap[k]? = Z.heap[k]? := fun k hk => by
    rw [Below.heap_setCell _ _ _ _ (by show k ≠ w.heap.size; exact hk), Below.heap_setCell _ _ _ _ (by show k ≠ w.heap.size; exact hk), Below.heap_setCell _ _ _ _ (by show k ≠ w.heap.size; exact hk), Below.heap_setCell _ _ _ _ (by show k ≠ w.heap.size; exact hk)]
  have h4 : ((((Z.setCell ⟨w.heap.size, 0, none⟩ (.int .i64 n)).setCell ⟨w.heap.size, 1, none⟩ (.slice (some ⟨w.heap.size + 1, 0, none⟩) (n + 1) (n + 1))).setCell ⟨w.heap.size, 2, none⟩ (.slice (some ⟨Gt, 0, none⟩) m m)).setCell ⟨w.heap.size, 3, none⟩ (.slice (some ⟨Gw, 0, none⟩) m m)).heap[w.heap.size]? = some (.cells #[.int .i64 n, .slice (some ⟨w.heap.size + 1, 0, none⟩) (n + 1) (n + 1), .slice (some ⟨Gt, 0, none⟩) m m, .slice (some ⟨Gw, 0, none⟩) m m] 25 (0, 0)) := by
    rw [heap_set (heap_set (heap_set (heap_set z0 _) _) _) _]; rfl
  have h5 : Below w.heap.size w ((((Z.setCell ⟨w.heap.size, 0, none⟩ (.int .i64 n)).setCell ⟨w.heap.size, 1, none⟩ (.slice (some ⟨w.heap.size + 1, 0, none⟩) (n + 1) (n + 1))).setCell ⟨w.heap.size, 2, none⟩ (.slice (some ⟨Gt, 0, none⟩) m m)).setCell ⟨w.heap.size, 3, none⟩ (.slice (some ⟨Gw, 0, none⟩) m m)) := (((hb.setCell (p := ⟨w.heap.size, 0, none⟩) (Nat.le_refl _) _).setCell (p := ⟨w.heap.size, 1, none⟩) (Nat.le_refl _) _).setCell (p := ⟨w.heap.size, 2, none⟩) (Nat.le_refl _) _).setCell (p := ⟨w.heap.size, 3, none⟩) (Nat.le_refl _) _
  generalize ((((Z.setCell ⟨w.heap.size, 0, none⟩ (.int .i64 n)).setCell ⟨w.heap.size, 1, none⟩ (.slice (some ⟨w.heap.size + 1, 0, none⟩) (n + 1) (n + 1))).setCell ⟨w.heap.size, 2, none⟩ (.slice (some ⟨Gt, 0, none⟩) m m)).setCell ⟨w.heap.size, 3, none⟩ (.slice (some ⟨Gw, 0, none⟩) m m)) = Y at hk h4 h5 ⊢
  have hp : ∀ k, k ≠ D → k ≠ D2 → ((Y.putObj D2 (.deferred none)).putObj D (.deferred none)).heap[k]? = Y.heap[k]? := fun k h1 h2 => (World.putObj_heap_other h1).trans (World.putObj_heap_other h2)
  have hne : ∀ {k o}, Z.heap[k]? = some o → (∃ c t f, o = .cells c t f) → k ≠ D ∧ k ≠ D2 := by
    rintro k o h ⟨c, t, f, rfl⟩
    exact ⟨by rintro rfl; rw [h] at zD; simp at zD, by rintro rfl; rw [h] at zD2; simp at zD2⟩
  have q0 := hne z0 ⟨_, _, _, rfl⟩
  have q1 := hne zs ⟨_, _, _, rfl⟩
  have q2 := hne h2 ⟨_, _, _, rfl⟩
  have q3 := hne h3 ⟨_, _, _, rfl⟩
  refine ⟨(hk _ (by omega)).trans zD2, (World.putObj_heap_other d3).trans ((hk _ (by omega)).trans zD), (hp _ q0.1 q0.2).trans h4, _, _, _, l, tl, wt, nx, rfl, fun Z' hZ => ⟨?_, ?_, ?_⟩, hs, hy, below_putObj (below_putObj h5 (by omega) _) (by omega) _⟩
  · exact Arr.row (l := l) ((hZ _ (by omega)).trans <| (hp _ q1.1 q1.2).trans ((hk _ (by omega)).trans zs)) hs.1 (by omega)
  · exact Arr.row (l := tl) ((hZ _ (by omega)).trans <| (hp _ q2.1 q2.2).trans ((hk _ (by omega)).trans h2)) hy.tlen (by omega)
  · exact ArrU.row (l := wt) ((hZ _ (by omega)).trans <| (hp _ q3.1 q3.2).trans ((hk _ (by omega)).trans h3)) hy.wlen (by omega)
set_option maxRecDepth 100000 in
set_option maxHeartbeats 8000000 in
theorem arrange_any (n' n m gf : Nat) (heg : ∀ args w, (callFunc gf args).run Try.prog w = .ok (.enter gf args) w) (lb : Array Value) (F T : Nat → Nat) (W : Nat → Int) (w : World) (hn : n ≤ 1048576) (hm : m ≤ 4194304) (hF : ∀ i, i < m → F i < n) (hT : ∀ i, i < m → T i < n) (hW : ∀ i, i < m → 0 ≤ W i ∧ W i ≤ 4294967295)
    (hseq : ∀ Tt : Nat → Prop, (∀ k, Tt k → w.heap.size ≤ k) → Gw Tt Try.prog gf lb encE (upto (fEd F T W) m) w) :
    CallsIn Fence.wide n' Try.prog 61 #[.int .i64 n, .func (.func gf) #[] lb] w (ArrW w n m F T W) := by
  have hmk1 := run_makeI (n + 1) (by omega)
  have e1 : ((n + 1 : Nat) : Int) = (n : Int) + 1 := by omega
  rw [e1] at hmk1
  refine callsIn_of_wp_marks Try.func61 rfl trivial ?_ rfl
  simp only [Try.ntmps61, List.size_toArray, List.length_cons, List.length_nil, Nat.reduceAdd, Nat.reduceSub, Array.replicate_succ, Array.replicate_zero, List.push_toArray, List.append_toArray, List.nil_append, List.cons_append]
  gi_wp2
  obtain ⟨wA, hwA⟩ : ∃ wA, wA = ((w.alloc (.cells #[.int .i64 0, .slice none 0 0, .slice none 0 0, .slice none 0 0] 25)).alloc (.cells (madeCells #[.int .i64 0] (n + 1)) 3)).alloc (.cells #[.slice (some ⟨w.heap.size + 1, 0, none⟩) (n + 1) (n + 1)] 22) := ⟨_, rfl⟩
  have bA : Below w.heap.size w wA := by rw [hwA]; exact below_alloc (below_alloc (below_alloc (Below.refl _ _) _) _) _
  have sA : wA.heap.size = w.heap.size + 3 := by rw [hwA]; simp
  have r0 : wA.heap[w.heap.size]? = some (.cells #[.int .i64 0, .slice none 0 0, .slice none 0 0, .slice none 0 0] 25 (0, 0)) := by rw [hwA]; exact (Below.heap_alloc _ _ _ (by simp; omega)).trans ((Below.heap_alloc _ _ _ (by simp)).trans (heap_new _ _))
  have r1 : Arr wA (w.heap.size + 1) (tab (n + 1) (fun _ => 0)) := by
    refine arr_new ?_
    have := heap_new (w.alloc (.cells #[.int .i64 0, .slice none 0 0, .slice none 0 0, .slice none 0 0] 25)) (.cells (madeCells #[.int .i64 0] (n + 1)) 3)
    rw [World.size_alloc] at this
    rw [hwA]; exact (Below.heap_alloc _ _ _ (by simp)).trans this
  have r2 : wA.heap[w.heap.size + 1 + 1]? = some (.cells #[.slice (some ⟨w.heap.size + 1, 0, none⟩) (n + 1) (n + 1)] 22 (0, 0)) := by
    have := heap_new ((w.alloc (.cells #[.int .i64 0, .slice none 0 0, .slice none 0 0, .slice none 0 0] 25)).alloc (.cells (madeCells #[.int .i64 0] (n + 1)) 3)) (.cells #[.slice (some ⟨w.heap.size + 1, 0, none⟩) (n + 1) (n + 1)] 22)
    rw [World.size_alloc, World.size_alloc] at this
    rw [hwA]; exact this
  rw [← hwA]
  clear hwA hmk1 e1
  refine rfw_law (T := fun k => k = w.heap.size + 1) (gf := gf) (lb := lb) rfl (heg) (hseq (fun k => k = w.heap.size + 1) (fun k hk => by omega)) bA (fun k hk => by omega) (fun _ => rfl)
    (fun pre X => ∃ l, Arr X (w.heap.size + 1) l ∧ Tally n F pre.length l ∧ X.heap[w.heap.size + 1 + 1]? = some (.cells #[.slice (some ⟨w.heap.size + 1, 0, none⟩) (n + 1) (n + 1)] 22 (0, 0)) ∧ Chg (fun k => k = w.heap.size + 1) wA X)
    (fun pre A B row hs hgr hr => by obtain ⟨l, h1, h2, h3, h4⟩ := hs; exact ⟨l, box_kept h1 hgr (fun r h => (hr r h).2), h2, box_kept h3 hgr (fun r h => (hr r h).2), h4.grown hgr fun k hk => .inr (hr k hk).1⟩)
    ⟨_, r1, tally_zero n F, r2, Chg.refl _ _⟩
    (fun x a' Z => ∃ Bx, wA.heap.size ≤ Bx ∧ Z.heap[Bx]? = some (.cells #[.int .i64 x.1, .int .i64 x.2.1, .int .u64 x.2.2] 50 (0, 0)) ∧ a' = { tmps := #[.int .i64 n, .func (.func gf) #[] lb, undef, undef, .pointer (some ⟨w.heap.size, 0, none⟩), .pointer (some ⟨w.heap.size + 1 + 1, 0, none⟩), .pointer (some ⟨Bx, 0, none⟩), undef, undef, undef, undef, undef, undef, .int .i64 n, .int .i64 (n + 1), .slice (some ⟨w.heap.size + 1, 0, none⟩) (n + 1) (n + 1), .func (.func gf) #[] lb, .agg #[.int .i64 x.1, .int .i64 x.2.1, .int .u64 x.2.2], undef, undef, undef, undef, undef, undef, undef, undef, undef, undef, undef, undef, undef, undef, undef, undef, undef, undef, undef, undef, undef, undef, undef, undef, undef, undef, undef, undef, undef, undef, undef, undef, undef, undef, undef, undef, undef, undef, undef, undef, undef, undef, undef, undef, undef, undef, undef, undef, undef, undef, undef, undef, undef, undef, undef, undef, undef, undef, undef, undef, undef, undef, undef, undef, undef, undef, undef], defers := [] })
    (fun x a' _ A B row hs hgr hr => by obtain ⟨Bx, h1, h2, h3⟩ := hs; exact ⟨Bx, h1, box_kept h2 hgr (fun r h => (hr r h).2), h3⟩) ?assign ?body ?done
  case assign =>
    rintro l1 pre x Z K ⟨l, h1, h2, h3, h4⟩ hK
    dsimp only [encE]
    gi_wp2
    exact hK _ _ ((Chg.refl _ Z).alloc _) ⟨l, (Below.heap_alloc _ _ _ (lt_of_heap h1)).trans h1, h2, (Below.heap_alloc _ _ _ (lt_of_heap h3)).trans h3, h4.alloc _⟩ ⟨Z.heap.size, h4.size, heap_new _ _, rfl⟩
  case body =>
    rintro l1 pre x a' Z ⟨l, h1, h2, h3, h4⟩ ⟨Bx, hBx, hxx, rfl⟩ hp
    obtain ⟨hpl, hpe, hxe⟩ := upto_at hp
    obtain ⟨x1, x2, x3⟩ := x
    have hF1 := hF pre.length hpl
    have hx1 : x1 = (F pre.length : Nat) := by have := congrArg Prod.fst hxe; exact this
    simp only at hxx ⊢
    have HT2 := hide h2.step
    have hl1 := h2.1
    have hv := h2.2.2 (F pre.length) hF1
    have hvb : outs F (F pre.length) pre.length ≤ pre.length := cnt_le _ _
    have HA := hide h1
    have HC := hide h4
    have c5 : Z.cell? ⟨w.heap.size + 1 + 1, 0, none⟩ = some (.slice (some ⟨w.heap.size + 1, 0, none⟩) (n + 1) (n + 1)) := cell_of h3 (i := 0) rfl
    have cx : Z.cell? ⟨Bx, 0, none⟩ = some (.int .i64 ((F pre.length : Nat) : Int)) := by rw [← hx1]; exact cell_of hxx (i := 0) rfl
    have cl := h1.cell (F pre.length + 1) (by omega)
    rw [hv] at cl
    have cf := h1.free (F pre.length + 1)
    have HB5 := hide h3
    obtain ⟨f, hf⟩ : ∃ f, f = F pre.length := ⟨_, rfl⟩
    obtain ⟨o, ho⟩ : ∃ o, o = outs F (F pre.length) pre.length := ⟨_, rfl⟩
    rw [← ho] at hvb hv cl
    rw [← hf] at cx cl cf hF1 hv
    have hfn : (f : Int) + 1 < ((n : Int) + 1) := by omega
    have HFF := hide hf
    have HHV := hide hv
    clear hf ho hv h1 h2 h3 h4 hxx hxe hpe hp hseq r0 r1 r2
    gi_wp2
    have d := (Chg.refl (fun k => k = w.heap.size + 1) Z).setCell (p := ⟨w.heap.size + 1, f + 1, none⟩) rfl (.int .i64 ((o : Int) + 1))
    refine ⟨d, l.set (f + 1) ((o : Int) + 1), HA.out.put (f + 1) _, ?_, (Below.heap_setCell _ _ _ _ (show w.heap.size + 1 + 1 ≠ w.heap.size + 1 by omega)).trans HB5.out, HC.out.trans d⟩
    have h9 := HT2.out (by rw [← HFF.out]; exact hF1)
    rw [← HFF.out, HHV.out] at h9
    exact h9
  case done =>
    rintro D Z hD ⟨l, h1, h2, h3, h4⟩ hK
    rw [upto_len] at h2
    have g0 := h4.heap r0 (by omega)
    have H0 : Hid (∃ l, Arr Z (w.heap.size + 1) l ∧ Summed n m F 0 l ∧ Z.heap[w.heap.size + 1 + 1]? = some (.cells #[.slice (some ⟨w.heap.size + 1, 0, none⟩) (n + 1) (n + 1)] 22 (0, 0)) ∧ Z.heap[w.heap.size]? = some (.cells #[.int .i64 0, .slice none 0 0, .slice none 0 0, .slice none 0 0] 25 (0, 0)) ∧ Z.heap[D]? = some (.deferred (some [])) ∧ Below w.heap.size w Z) :=
      ⟨l, h1, h2.summed, h3, g0, hK, Chg.below bA h4 (fun i hi => by omega) bA.size⟩
    have hDw : w.heap.size + 3 ≤ D := by omega
    clear h1 h2 h3 h4 g0 hK r0 r1 r2 bA sA hD
    gi_wp2
    gi_loopw [27] (fun t wr => ∃ v : Nat, t = .int .i64 v ∧ v ≤ n ∧ ∃ l, Arr wr (w.heap.size + 1) l ∧ Summed n m F v l ∧ wr.heap[w.heap.size + 1 + 1]? = some (.cells #[.slice (some ⟨w.heap.size + 1, 0, none⟩) (n + 1) (n + 1)] 22 (0, 0)) ∧ wr.heap[w.heap.size]? = some (.cells #[.int .i64 0, .slice none 0 0, .slice none 0 0, .slice none 0 0] 25 (0, 0)) ∧ wr.heap[D]? = some (.deferred (some [])) ∧ Below w.heap.size w wr) (fun t _ => n - (RowKit.intOf t).toNat)
    case atStart => exact ⟨0, rfl, Nat.zero_le _, H0.out⟩
    case round =>
      obtain ⟨v, rfl, hvn, l, h1, h2, h3, h4, h5, h6⟩ := hrel
      have hl1 := h2.1
      by_cases hlt : v < n
      · have hvi : (v : Int) < (n : Int) := by omega
        have hvi2 : (v : Int) + 1 < (n : Int) + 1 := by omega
        have hvi3 : (v : Int) < (n : Int) + 1 := by omega
        have c5 : wr.cell? ⟨w.heap.size + 1 + 1, 0, none⟩ = some (.slice (some ⟨w.heap.size + 1, 0, none⟩) (n + 1) (n + 1)) := cell_of h3 (i := 0) rfl
        have a1 := h2.2.1 v (Nat.le_refl _)
        have a2 := h2.2.2 v (Nat.le_refl _) hlt
        have b1 : begins F m v ≤ m := cnt_le _ _
        have b2 : outs F v m ≤ m := cnt_le _ _
        have cv := h1.cell v (by omega)
        have cw := h1.cell (v + 1) (by omega)
        have cf := h1.free (v + 1)
        have HS2 := hide (h2.step hlt)
        rw [a1, a2] at HS2
        rw [a1] at cv
        rw [a2] at cw
        have HA := hide h1; have H3 := hide h3; have H4 := hide h4; have H5 := hide h5; have H6 := hide h6
        obtain ⟨p, hp⟩ : ∃ p, p = begins F m v := ⟨_, rfl⟩
        obtain ⟨o, ho⟩ : ∃ o, o = outs F v m := ⟨_, rfl⟩
        rw [← hp] at b1 cv HS2
        rw [← ho] at b2 cw HS2
        clear a1 a2 hp ho h1 h2 h3 h4 h5 h6 hseq H0
        gi_wp2
        gi_region
        gi_wp2
        refine ⟨⟨v + 1, by simp, by omega, l.set (v + 1) ((o : Int) + p), (HA.out.put (v + 1) _), HS2.out, ?_, ?_, ?_, ?_⟩, by simp [RowKit.intOf]; omega⟩
        · exact (Below.heap_setCell _ _ _ _ (show w.heap.size + 1 + 1 ≠ w.heap.size + 1 by omega)).trans H3.out
        · exact (Below.heap_setCell _ _ _ _ (show w.heap.size ≠ w.heap.size + 1 by omega)).trans H4.out
        · exact (Below.heap_setCell _ _ _ _ (show D ≠ w.heap.size + 1 by omega)).trans H5.out
        · exact below_drew (H6.out.setCell (p := ⟨w.heap.size + 1, v + 1, none⟩) (by simp) _)
      · obtain rfl : n = v := by omega
        have c5 : wr.cell? ⟨w.heap.size + 1 + 1, 0, none⟩ = some (.slice (some ⟨w.heap.size + 1, 0, none⟩) (n + 1) (n + 1)) := cell_of h3 (i := 0) rfl
        have hr : RowAt .i64 wr (.slice (some ⟨w.heap.size + 1, 0, none⟩) (l.take n).length (n + 1)) (l.take n) := by
          refine ⟨_, _, rfl, by rw [List.length_take]; omega, by omega, (fun h => by cases h), fun a ha i hi => ?_⟩
          cases ha
          rw [List.length_take] at hi
          have := h1.cell i (by omega)
          rw [Addr.add_lit]
          simp only [Nat.zero_add]
          rw [this]
          simp only [at_, List.getD, List.getElem?_take_of_lt (show i < n by omega)]
        have hcl := cloneI_any (w.heap.size + 1) 0 (n + 1) n (l.take n) wr hr (by rw [List.length_take]; omega) (by omega)
        have HCL := hide hcl
        have HA := hide h1; have H2 := hide h2; have H3 := hide h3; have H4 := hide h4; have H5 := hide h5; have H6 := hide h6
        clear hcl hr h1 h2 h3 h4 h5 h6 H0
        have cn := HA.out.cell n (by omega)
        rw [H2.out.2.1 n (Nat.le_refl _), begins_all hF] at cn
        have HCN := hide cn
        clear cn
        gi_wp2_with (refine ⟨trivial, (by first | rfl | (intro h; simp [Fence.wide] at h)), ?_⟩; refine (callsIn_wide.2 HCL.out).mono ?_; rintro e9 wC ⟨ao, cp, rfl, hcp, hNO, haob, hbC⟩; have HNO := hide hNO; have HAB := hide haob; have HBC := hide hbC; have HCP := hide hcp; clear hbC hNO haob hcp)
        have hmI := run_makeI m (by omega)
        have hmU := run_makeU m (by omega)
        have k5 : wC.cell? ⟨w.heap.size + 1 + 1, 0, none⟩ = some (.slice (some ⟨w.heap.size + 1, 0, none⟩) (n + 1) (n + 1)) := (below_cell HBC.out (block_of_cell c5)).trans c5
        have kn : wC.cell? ⟨w.heap.size + 1, n, none⟩ = some (.int .i64 m) := (below_cell HBC.out (block_of_cell HCN.out)).trans HCN.out
        have j5 := (below_cell (below_alloc (Below.refl wC.heap.size wC) (.cells #[.slice ao n cp] 22)) (block_of_cell k5)).trans k5
        have jn := (below_cell (below_alloc (Below.refl wC.heap.size wC) (.cells #[.slice ao n cp] 22)) (block_of_cell kn)).trans kn
        have hs8 : wC.heap.size < (wC.alloc (.cells #[.slice ao n cp] 22)).heap.size := by simp
        have hni : (n : Int) < (n : Int) + 1 := by omega
        generalize hwD : wC.alloc (.cells #[.slice ao n cp] 22) = wD at j5 jn hs8 ⊢
        have hb5 : w.heap.size + 1 + 1 < wD.heap.size := block_of_cell j5
        have hbn : w.heap.size + 1 < wD.heap.size := block_of_cell jn
        refine wpIn_mono (Q := fun e a' w' => e = .normal ∧ ∃ (Gt Gw B9 B10 : Nat) (u46 u47 u48 u49 u51 u52 u53 u54 : Value), a' = { tmps := #[.int .i64 n, .func (.func gf) #[] lb, undef, undef, .pointer (some ⟨w.heap.size, 0, none⟩), .pointer (some ⟨w.heap.size + 1 + 1, 0, none⟩), undef, u7, .pointer (some ⟨wC.heap.size, 0, none⟩), .pointer (some ⟨B9, 0, none⟩), .pointer (some ⟨B10, 0, none⟩), undef, undef, .int .i64 n, .int .i64 (n + 1), .slice (some ⟨w.heap.size + 1, 0, none⟩) (n + 1) (n + 1), .func (.func gf) #[] lb, undef, undef, undef, undef, undef, undef, undef, undef, undef, .int .i64 n, .int .i64 n, .bool false, u29, u30, u31, u32, u33, u34, u35, u36, u37, u38, u39, u40, u41, .slice (some ⟨w.heap.size + 1, 0, none⟩) (n + 1) (n + 1), .int .i64 n, .slice (some ⟨w.heap.size + 1, 0, none⟩) n (n + 1), .slice ao n cp, u46, u47, u48, u49, .slice (some ⟨Gt, 0, none⟩) m m, u51, u52, u53, u54, .slice (some ⟨Gw, 0, none⟩) m m, undef, undef, undef, undef, undef, undef, undef, undef, undef, undef, undef, undef, undef, undef, undef, undef, undef, undef, undef, undef, undef, undef, undef, undef, undef, undef, undef, undef, undef], defers := [{ target := .collected D, args := #[] }] } ∧ (wD.heap.size ≤ Gt ∧ wD.heap.size ≤ Gw ∧ wD.heap.size ≤ B9 ∧ wD.heap.size ≤ B10) ∧ w'.heap[Gt]? = some (.cells (madeCells #[.int .i64 0] m) 3) ∧ w'.heap[Gw]? = some (.cells (madeCells #[.int .u64 0] m) 48) ∧ w'.heap[B9]? = some (.cells #[.slice (some ⟨Gt, 0, none⟩) m m] 22) ∧ w'.heap[B10]? = some (.cells #[.slice (some ⟨Gw, 0, none⟩) m m] 23) ∧ Below wD.heap.size wD w') ?reg ?go
        case reg =>
          refine wpIn_wide.2 ?_
          go_region_held3 (fun x => x.cell? ⟨w.heap.size + 1 + 1, 0, none⟩ = some (.slice (some ⟨w.heap.size + 1, 0, none⟩) (n + 1) (n + 1)) ∧ x.cell? ⟨w.heap.size + 1, n, none⟩ = some (.int .i64 m)) (first | exact ⟨j5, jn⟩ | (refine ⟨(cd_drew _ _).trans ?_, (cd_drew _ _).trans ?_⟩ <;> (repeat (first | exact j5 | exact jn | (refine cAl _ ?_) | (refine cellS ?_ (by simp; omega))))) | go_keep) (fail)
          all_goals
            refine ⟨rfl, _, _, _, _, _, _, _, _, _, _, _, _, rfl, ⟨by omega, by omega, by omega, by omega⟩, ?_, ?_, ?_, ?_, below_drew (four_new' wD _ _ _ _).2.2.2.2⟩
            all_goals first | exact (four_new' wD _ _ _ _).1 | exact (four_new' wD _ _ _ _).2.1 | exact (four_new' wD _ _ _ _).2.2.1 | exact (four_new' wD _ _ _ _).2.2.2.1
        case go =>
          rintro e a' wE ⟨rfl, Gt, Gw, B9, B10, u46, u47, u48, u49, u51, u52, u53, u54, rfl, ⟨q1, q2, q3, q4⟩, e1, e2, e3, e4, bE⟩
          have b8 : wE.heap[wC.heap.size]? = some (.cells #[.slice ao n cp] 22 (0, 0)) := by
            refine (bE.block _ (by rw [← hwD]; simp)).trans ?_
            rw [← hwD]; exact heap_new _ _
          have bD : Below wr.heap.size wr wD := by rw [← hwD]; exact below_alloc HBC.out _
          have bWE : Below wr.heap.size wr wE := below_on bD bE
          have bWw : Below w.heap.size w wE := below_on H6.out bWE
          have sCD : wD.heap.size = wC.heap.size + 1 := by rw [← hwD]; simp
          have hCr := HBC.out.size
          have aT : Arr wE Gt (tab m (fun _ => 0)) := arr_new e1
          have aW : ArrU wE Gw (tab m (fun _ => 0)) := arru_new e2
          have nE : NO wE ao (l.take n) := HNO.out.chg (Chg.of_below (S := fun _ => False) (below_on (by rw [← hwD]; exact below_alloc (Below.refl _ _) _) bE)) (fun _ h => h)
          have hT2 : ∀ k, (ao = some ⟨k, 0, none⟩ ∨ k = Gt ∨ k = Gw) → wr.heap.size ≤ k ∧ k ≠ wC.heap.size ∧ k ≠ B9 ∧ k ≠ B10 ∧ k < wE.heap.size := by
            rintro k (h | rfl | rfl)
            · have := HAB.out k h
              have := bE.size
              exact ⟨by omega, by omega, by omega, by omega, by omega⟩
            · exact ⟨by omega, by omega, by rintro rfl; rw [e1] at e3; simp at e3, by rintro rfl; rw [e1] at e4; simp at e4, lt_of_heap e1⟩
            · exact ⟨by omega, by omega, by rintro rfl; rw [e2] at e3; simp at e3, by rintro rfl; rw [e2] at e4; simp at e4, lt_of_heap e2⟩
          have hwr : w.heap.size + 2 < wr.heap.size := by have := lt_of_heap H3.out; omega
          gi_wp2
          refine rfw_law (T := fun k => ao = some ⟨k, 0, none⟩ ∨ k = Gt ∨ k = Gw) (gf := gf) (lb := lb) rfl (heg) (hseq _ (fun k hk => by have := (hT2 k hk).1; omega)) bWw (fun k hk => (hT2 k hk).2.2.2.2) (fun _ => rfl)
            (fun pre X => ∃ nx tl wt, NO X ao (nx.take n) ∧ Arr X Gt tl ∧ ArrU X Gw wt ∧ Laying n m F T W pre.length nx tl wt ∧ Chg (fun k => ao = some ⟨k, 0, none⟩ ∨ k = Gt ∨ k = Gw) wE X)
            (fun pre A B row hs hgr hr => by obtain ⟨nx, tl, wt, h1, h2, h3, h4, h5⟩ := hs; exact ⟨nx, tl, wt, h1.kept hgr (fun r h => (hr r h).2), box_kept h2 hgr (fun r h => (hr r h).2), box_kept h3 hgr (fun r h => (hr r h).2), h4, h5.grown hgr fun k hk => .inr (hr k hk).1⟩)
            ⟨l, _, _, nE, aT, aW, lay_zero H2.out hF, Chg.refl _ _⟩
            (fun x a' Z => ∃ Bx, wE.heap.size ≤ Bx ∧ Z.heap[Bx]? = some (.cells #[.int .i64 x.1, .int .i64 x.2.1, .int .u64 x.2.2] 50 (0, 0)) ∧ a' = { tmps := #[.int .i64 n, .func (.func gf) #[] lb, undef, undef, .pointer (some ⟨w.heap.size, 0, none⟩), .pointer (some ⟨w.heap.size + 1 + 1, 0, none⟩), undef, u7, .pointer (some ⟨wC.heap.size, 0, none⟩), .pointer (some ⟨B9, 0, none⟩), .pointer (some ⟨B10, 0, none⟩), .pointer (some ⟨Bx, 0, none⟩), undef, .int .i64 n, .int .i64 (n + 1), .slice (some ⟨w.heap.size + 1, 0, none⟩) (n + 1) (n + 1), .func (.func gf) #[] lb, undef, undef, undef, undef, undef, undef, undef, undef, undef, .int .i64 n, .int .i64 n, .bool false, u29, u30, u31, u32, u33, u34, u35, u36, u37, u38, u39, u40, u41, .slice (some ⟨w.heap.size + 1, 0, none⟩) (n + 1) (n + 1), .int .i64 n, .slice (some ⟨w.heap.size + 1, 0, none⟩) n (n + 1), .slice ao n cp, u46, u47, u48, u49, .slice (some ⟨Gt, 0, none⟩) m m, u51, u52, u53, u54, .slice (some ⟨Gw, 0, none⟩) m m, .func (.func gf) #[] lb, .agg #[.int .i64 x.1, .int .i64 x.2.1, .int .u64 x.2.2], undef, undef, undef, undef, undef, undef, undef, undef, undef, undef, undef, undef, undef, undef, undef, undef, undef, undef, undef, undef, undef, undef, undef, undef, undef, undef, undef], defers := [] })
            (fun x a' _ A B row hs hgr hr => by obtain ⟨Bx, h1, h2, h3⟩ := hs; exact ⟨Bx, h1, box_kept h2 hgr (fun r h => (hr r h).2), h3⟩) ?assign2 ?body2 ?done2
          case assign2 =>
            rintro l1 pre x Z K ⟨nx, tl, wt, h1, h2, h3, h4, h5⟩ hK
            dsimp only [encE]
            gi_wp2
            exact hK _ _ ((Chg.refl _ Z).alloc _) ⟨nx, tl, wt, h1.chg (Chg.of_below (S := fun _ => False) (below_alloc (Below.refl _ _) _)) (fun _ h => h), (Below.heap_alloc _ _ _ (lt_of_heap h2)).trans h2, (Below.heap_alloc _ _ _ (lt_of_heap h3)).trans h3, h4, h5.alloc _⟩ ⟨Z.heap.size, h5.size, heap_new _ _, rfl⟩
          case body2 =>
            rintro l1 pre x a' Z ⟨nx, tl, wt, h1, h2, h3, h4, h5⟩ ⟨Bx, hBx, hxx, rfl⟩ hp
            obtain ⟨hpl, hpe, hxe⟩ := upto_at hp
            have hF1 := hF pre.length hpl
            have hpp := place_lt (F := F) hpl
            obtain ⟨x1, x2, x3⟩ := x
            have hx1 : x1 = (F pre.length : Nat) := by have := congrArg Prod.fst hxe; exact this
            have hx2 : x2 = (T pre.length : Nat) := by have := congrArg (fun q => q.2.1) hxe; exact this
            have hx3 : x3 = W pre.length := by have := congrArg (fun q => q.2.2) hxe; exact this
            simp only at hxx ⊢
            have hnl := h4.nlen
            have htl := h4.tlen
            have hwl := h4.wlen
            rcases h1 with h1 | ⟨G, hao, hNX⟩
            · have h9 := congrArg List.length h1; rw [List.length_take, hnl] at h9; simp only [List.length_nil] at h9; omega
            have hGb := HAB.out G hao
            have hst := h4.step hpl hF1 (hT _ hpl) (hW _ hpl)
            have hat := h4.at hF1
            have hkZ : ∀ k o, wE.heap[k]? = some o → (¬ (ao = some ⟨k, 0, none⟩ ∨ k = Gt ∨ k = Gw)) → Z.heap[k]? = some o := fun k o h hn => h5.heap h hn
            have z8 := hkZ _ _ b8 (fun ht => (hT2 _ ht).2.1 rfl)
            have z9 := hkZ _ _ e3 (fun ht => (hT2 _ ht).2.2.1 rfl)
            have z10 := hkZ _ _ e4 (fun ht => (hT2 _ ht).2.2.2.1 rfl)
            have hGtw : Gt ≠ Gw := by rintro rfl; rw [e1] at e2; simp at e2
            have n1 : G ≠ Gt := by omega
            have n2 : G ≠ Gw := by omega
            have hEs := bE.size
            have lt9 := lt_of_heap e3
            have lt10 := lt_of_heap e4
            have ltT := lt_of_heap e1
            have ltW := lt_of_heap e2
            have hB9 : B9 ≠ Gt := by rintro rfl; rw [e1] at e3; simp at e3
            have hB10 : B10 ≠ Gt := by rintro rfl; rw [e1] at e4; simp at e4
            have hB9w : B9 ≠ Gw := by rintro rfl; rw [e2] at e3; simp at e3
            have hB10w : B10 ≠ Gw := by rintro rfl; rw [e2] at e4; simp at e4
            have hfl : F pre.length < (nx.take n).length := by rw [List.length_take]; omega
            have cG := hNX.at hfl
            have hatk : at_ (nx.take n) (F pre.length) = at_ nx (F pre.length) := by unfold at_; rw [List.getElem?_take_of_lt hF1]
            rw [hatk, hat] at cG
            rw [hat] at hst
            obtain ⟨p, hp9⟩ : ∃ p, p = place F m pre.length := ⟨_, rfl⟩
            rw [← hp9] at hst cG hpp
            obtain ⟨f, hf9⟩ : ∃ f, f = F pre.length := ⟨_, rfl⟩
            rw [← hf9] at hst hx1 hfl hF1
            rw [← hx2, ← hx3] at hst
            subst hx1
            -- the worlds behind each store
            have HFIN : Hid (Chg (fun k => ao = some ⟨k, 0, none⟩ ∨ k = Gt ∨ k = Gw) Z (((Z.drew.setCell ⟨Gt, p, none⟩ (.int .i64 x2)).setCell ⟨Gw, p, none⟩ (.int .u64 x3)).setCell ⟨G, f, none⟩ (.int .i64 ((p : Int) + 1))) ∧ ∃ nx tl wt, NO (((Z.drew.setCell ⟨Gt, p, none⟩ (.int .i64 x2)).setCell ⟨Gw, p, none⟩ (.int .u64 x3)).setCell ⟨G, f, none⟩ (.int .i64 ((p : Int) + 1))) ao (nx.take n) ∧ Arr (((Z.drew.setCell ⟨Gt, p, none⟩ (.int .i64 x2)).setCell ⟨Gw, p, none⟩ (.int .u64 x3)).setCell ⟨G, f, none⟩ (.int .i64 ((p : Int) + 1))) Gt tl ∧ ArrU (((Z.drew.setCell ⟨Gt, p, none⟩ (.int .i64 x2)).setCell ⟨Gw, p, none⟩ (.int .u64 x3)).setCell ⟨G, f, none⟩ (.int .i64 ((p : Int) + 1))) Gw wt ∧ Laying n m F T W (pre.length + 1) nx tl wt ∧ Chg (fun k => ao = some ⟨k, 0, none⟩ ∨ k = Gt ∨ k = Gw) wE (((Z.drew.setCell ⟨Gt, p, none⟩ (.int .i64 x2)).setCell ⟨Gw, p, none⟩ (.int .u64 x3)).setCell ⟨G, f, none⟩ (.int .i64 ((p : Int) + 1)))) := by
              have d := (((Chg.refl (fun k => ao = some ⟨k, 0, none⟩ ∨ k = Gt ∨ k = Gw) Z).drew.setCell (p := ⟨Gt, p, none⟩) (.inr (.inl rfl)) (.int .i64 x2)).setCell (p := ⟨Gw, p, none⟩) (.inr (.inr rfl)) (.int .u64 x3)).setCell (p := ⟨G, f, none⟩) (.inl hao) (.int .i64 ((p : Int) + 1))
              refine ⟨d, _, _, _, .inr ⟨G, hao, ?_⟩, ?_, ?_, hst, h5.trans d⟩
              · rw [List.take_set]
                have hN0 : NX Z.drew G (nx.take n) := hNX
                exact ((hN0.other n1).other n2).put f _
              · have hA0 : Arr Z.drew Gt tl := h2
                exact (Below.heap_setCell _ _ _ _ (Ne.symm n1)).trans ((Below.heap_setCell _ _ _ _ hGtw).trans (hA0.put p x2))
              · have hA0 : ArrU (Z.drew.setCell ⟨Gt, p, none⟩ (.int .i64 x2)) Gw wt := (Below.heap_setCell _ _ _ _ (Ne.symm hGtw)).trans h3
                exact (Below.heap_setCell _ _ _ _ (Ne.symm n2)).trans (hA0.put p x3)
            subst hao
            have HFIN2 : Hid (Chg (fun k => G = k ∨ k = Gt ∨ k = Gw) Z (((Z.setCell ⟨Gt, p, none⟩ (.int .i64 x2)).setCell ⟨Gw, p, none⟩ (.int .u64 x3)).setCell ⟨G, f, none⟩ (.int .i64 ((p : Int) + 1))).drew ∧ ∃ nx, NO (((Z.setCell ⟨Gt, p, none⟩ (.int .i64 x2)).setCell ⟨Gw, p, none⟩ (.int .u64 x3)).setCell ⟨G, f, none⟩ (.int .i64 ((p : Int) + 1))).drew (some ⟨G, 0, none⟩) (nx.take n) ∧ ∃ x, Arr (((Z.setCell ⟨Gt, p, none⟩ (.int .i64 x2)).setCell ⟨Gw, p, none⟩ (.int .u64 x3)).setCell ⟨G, f, none⟩ (.int .i64 ((p : Int) + 1))).drew Gt x ∧ ∃ x_1, ArrU (((Z.setCell ⟨Gt, p, none⟩ (.int .i64 x2)).setCell ⟨Gw, p, none⟩ (.int .u64 x3)).setCell ⟨G, f, none⟩ (.int .i64 ((p : Int) + 1))).drew Gw x_1 ∧ Laying n m F T W (pre.length + 1) nx x x_1 ∧ Chg (fun k => G = k ∨ k = Gt ∨ k = Gw) wE (((Z.setCell ⟨Gt, p, none⟩ (.int .i64 x2)).setCell ⟨Gw, p, none⟩ (.int .u64 x3)).setCell ⟨G, f, none⟩ (.int .i64 ((p : Int) + 1))).drew) := by
              obtain ⟨d, nx', tl', wt', a1, a2, a3, a4, a5⟩ := HFIN.out
              have hP : (fun k => some (⟨G, 0, none⟩ : Addr) = some ⟨k, 0, none⟩ ∨ k = Gt ∨ k = Gw) = (fun k => G = k ∨ k = Gt ∨ k = Gw) := by funext k; simp
              have hX : (((Z.drew.setCell ⟨Gt, p, none⟩ (.int .i64 x2)).setCell ⟨Gw, p, none⟩ (.int .u64 x3)).setCell ⟨G, f, none⟩ (.int .i64 ((p : Int) + 1))) = (((Z.setCell ⟨Gt, p, none⟩ (.int .i64 x2)).setCell ⟨Gw, p, none⟩ (.int .u64 x3)).setCell ⟨G, f, none⟩ (.int .i64 ((p : Int) + 1))).drew := by first | rfl | simp
              rw [hP, hX] at d a5
              rw [hX] at a1 a2 a3
              exact ⟨d, nx', a1, tl', a2, wt', a3, a4, a5⟩
            have c8 : Z.cell? ⟨wC.heap.size, 0, none⟩ = some (.slice (some ⟨G, 0, none⟩) n cp) := cell_of z8 (i := 0) rfl
            have c9 : Z.cell? ⟨B9, 0, none⟩ = some (.slice (some ⟨Gt, 0, none⟩) m m) := cell_of z9 (i := 0) rfl
            have c10 : Z.cell? ⟨B10, 0, none⟩ = some (.slice (some ⟨Gw, 0, none⟩) m m) := cell_of z10 (i := 0) rfl
            have x0 : Z.cell? ⟨Bx, 0, none⟩ = some (.int .i64 (f : Int)) := cell_of hxx (i := 0) rfl
            have y0 : Z.cell? ⟨Bx, 1, none⟩ = some (.int .i64 x2) := cell_of hxx (i := 1) rfl
            have w0 : Z.cell? ⟨Bx, 2, none⟩ = some (.int .u64 x3) := cell_of hxx (i := 2) rfl
            have t0 := h2.cell p (by omega)
            have t1 := h2.free p
            have s0 := h3.cell p (by omega)
            have s1 := h3.free p
            have g1 := hNX.free f
            have c10' : (Z.drew.setCell ⟨Gt, p, none⟩ (.int .i64 x2)).cell? ⟨B10, 0, none⟩ = some (.slice (some ⟨Gw, 0, none⟩) m m) := cellS (X := Z.drew) c10 hB10
            have w0' : (Z.drew.setCell ⟨Gt, p, none⟩ (.int .i64 x2)).cell? ⟨Bx, 2, none⟩ = some (.int .u64 x3) := cellS (X := Z.drew) w0 (by omega)
            have s0' : (Z.drew.setCell ⟨Gt, p, none⟩ (.int .i64 x2)).cell? ⟨Gw, p, none⟩ = some (.int .u64 (at_ wt p)) := cellS (X := Z.drew) s0 (Ne.symm hGtw)
            have c8' : ((Z.drew.setCell ⟨Gt, p, none⟩ (.int .i64 x2)).setCell ⟨Gw, p, none⟩ (.int .u64 x3)).cell? ⟨wC.heap.size, 0, none⟩ = some (.slice (some ⟨G, 0, none⟩) n cp) := cellS (cellS (X := Z.drew) c8 (by omega)) (by omega)
            have x0' : ((Z.drew.setCell ⟨Gt, p, none⟩ (.int .i64 x2)).setCell ⟨Gw, p, none⟩ (.int .u64 x3)).cell? ⟨Bx, 0, none⟩ = some (.int .i64 (f : Int)) := cellS (cellS (X := Z.drew) x0 (by omega)) (by omega)
            have g0' : ((Z.drew.setCell ⟨Gt, p, none⟩ (.int .i64 x2)).setCell ⟨Gw, p, none⟩ (.int .u64 x3)).cell? ⟨G, f, none⟩ = some (.int .i64 (p : Int)) := cellS (cellS (X := Z.drew) (by rw [hf9]; exact cG) n1) n2
            rw [← hf9] at cG
            have hfi : (f : Int) < (n : Int) := by omega
            have hpm : (p : Int) < (m : Int) := by omega
            have hmix : Try.prog.follows .mixedOrders = true := by kernel_rfl
            clear h2 h3 h4 h5 hst hat hatk hNX hkZ z8 z9 z10 hxx hxe hpe hp hseq e1 e2 e3 e4 b8 aT aW nE hT2 bE bD bWE bWw HNO HAB HBC HA H2 H3 H4 H5 H6 HCL HCN hf9 hp9 hx2 hx3
            gi_wp2
            refine wpIn_region_any hmix (any_in l1 ?nd _ _ _ _ ?main)
            case nd =>
              intro i o h c
              rcases i with _ | _ | _ | _ | _ | _ | _ | _ | _ | _ | _ | _ | i <;> simp at h <;> (subst h) <;> simp
            show wpAnyIn _ _ _ _ _ _ 12 #[false, false, false, false, false, false, false, false, false, false, false, false] _ Z.drew
            refine wpAnyIn_take (i := 1) (v := .int .i64 (p : Int)) rfl rfl (by kernel_rfl) (by kernel_rfl) (by kernel_rfl) (fun _ _ _ h => h) ⟨Or.inl ⟨by rfl, ?_⟩, fun _ => rfl⟩ ?_
            · intro w; go_simp; try rfl
            refine wpAnyIn_take (i := 3) (v := .int .i64 (p : Int)) rfl rfl (by kernel_rfl) (by kernel_rfl) (by kernel_rfl) (fun _ _ _ h => h) ⟨Or.inl ⟨by rfl, ?_⟩, fun _ => rfl⟩ ?_
            · intro w; go_simp; try rfl
            refine wpAnyIn_take (i := 4) (v := .pointer (some ⟨Bx, 1, none⟩)) rfl rfl (by kernel_rfl) (by kernel_rfl) (by kernel_rfl) (fun _ _ _ h => h) ⟨Or.inl ⟨by rfl, ?_⟩, fun _ => rfl⟩ ?_
            · intro w; go_simp; try rfl
            refine wpAnyIn_take (i := 6) (v := .pointer (some ⟨Bx, 2, none⟩)) rfl rfl (by kernel_rfl) (by kernel_rfl) (by kernel_rfl) (fun _ _ _ h => h) ⟨Or.inl ⟨by rfl, ?_⟩, fun _ => rfl⟩ ?_
            · intro w; go_simp; try rfl
            refine wpAnyIn_ready (rs := [0, 2, 5, 7]) (by kernel_rfl) (by simp) ?_
            refine AllReadyIn.cons rfl (fun K hK => ?_) ?_
            · go_simp
              refine hK _ _ ?_
              clear hK K
              refine wpAnyIn_ready (rs := [2, 5, 7]) (by kernel_rfl) (by simp) ?_
              refine AllReadyIn.cons rfl (fun K hK => ?_) ?_
              · go_simp
                refine hK _ _ ?_
                clear hK K
                refine wpAnyIn_ready (rs := [5, 7]) (by kernel_rfl) (by simp) ?_
                refine AllReadyIn.cons rfl (fun K hK => ?_) ?_
                · go_simp
                  refine hK _ _ ?_
                  clear hK K
                  refine wpAnyIn_take (i := 8) (v := .pointer (some ⟨Gt, p, none⟩)) rfl rfl (by kernel_rfl) (by kernel_rfl) (by kernel_rfl) (fun _ _ _ h => h) ⟨Or.inl ⟨by rfl, ?_⟩, fun _ => rfl⟩ ?_
                  · intro w; go_simp; try rfl
                  refine wpAnyIn_ready (rs := [7, 9]) (by kernel_rfl) (by simp) ?_
                  refine AllReadyIn.cons rfl (fun K hK => ?_) ?_
                  · go_simp
                    refine hK _ _ ?_
                    clear hK K
                    refine wpAnyIn_ready (rs := [9]) (by kernel_rfl) (by simp) ?_
                    refine AllReadyIn.cons rfl (fun K hK => ?_) ?_
                    · go_simp
                      refine hK _ _ ?_
                      clear hK K
                      refine wpAnyIn_take (i := 10) (v := .pointer (some ⟨Gw, p, none⟩)) rfl rfl (by kernel_rfl) (by kernel_rfl) (by kernel_rfl) (fun _ _ _ h => h) ⟨Or.inl ⟨by rfl, ?_⟩, fun _ => rfl⟩ ?_
                      · intro w; go_simp; try rfl
                      refine wpAnyIn_ready (rs := [11]) (by kernel_rfl) (by simp) ?_
                      refine AllReadyIn.cons rfl (fun K hK => ?_) ?_
                      · go_simp
                        refine hK _ _ ?_
                        clear hK K
                        refine wpAnyIn_done (by kernel_rfl) ?_ _
                        (gi_wp2; exact HFIN2.out)
                      exact AllReadyIn.nil
                    exact AllReadyIn.nil
                  refine AllReadyIn.cons rfl (fun K hK => ?_) ?_
                  · go_simp
                    refine hK _ _ ?_
                    clear hK K
                    refine wpAnyIn_ready (rs := [7]) (by kernel_rfl) (by simp) ?_
                    refine AllReadyIn.cons rfl (fun K hK => ?_) ?_
                    · go_simp
                      refine hK _ _ ?_
                      clear hK K
                      refine wpAnyIn_take (i := 10) (v := .pointer (some ⟨Gw, p, none⟩)) rfl rfl (by kernel_rfl) (by kernel_rfl) (by kernel_rfl) (fun _ _ _ h => h) ⟨Or.inl ⟨by rfl, ?_⟩, fun _ => rfl⟩ ?_
                      · intro w; go_simp; try rfl
                      refine wpAnyIn_ready (rs := [11]) (by kernel_rfl) (by simp) ?_
                      refine AllReadyIn.cons rfl (fun K hK => ?_) ?_
                      · go_simp
                        refine hK _ _ ?_
                        clear hK K
                        refine wpAnyIn_done (by kernel_rfl) ?_ _
                        (gi_wp2; exact HFIN2.out)
                      exact AllReadyIn.nil
                    exact AllReadyIn.nil
                  exact AllReadyIn.nil
                refine AllReadyIn.cons rfl (fun K hK => ?_) ?_
                · go_simp
                  refine hK _ _ ?_
                  clear hK K
                  refine wpAnyIn_ready (rs := [5]) (by kernel_rfl) (by simp) ?_
                  refine AllReadyIn.cons rfl (fun K hK => ?_) ?_
                  · go_simp
                    refine hK _ _ ?_
                    clear hK K
                    refine wpAnyIn_take (i := 8) (v := .pointer (some ⟨Gt, p, none⟩)) rfl rfl (by kernel_rfl) (by kernel_rfl) (by kernel_rfl) (fun _ _ _ h => h) ⟨Or.inl ⟨by rfl, ?_⟩, fun _ => rfl⟩ ?_
                    · intro w; go_simp; try rfl
                    refine wpAnyIn_ready (rs := [9]) (by kernel_rfl) (by simp) ?_
                    refine AllReadyIn.cons rfl (fun K hK => ?_) ?_
                    · go_simp
                      refine hK _ _ ?_
                      clear hK K
                      refine wpAnyIn_take (i := 10) (v := .pointer (some ⟨Gw, p, none⟩)) rfl rfl (by kernel_rfl) (by kernel_rfl) (by kernel_rfl) (fun _ _ _ h => h) ⟨Or.inl ⟨by rfl, ?_⟩, fun _ => rfl⟩ ?_
                      · intro w; go_simp; try rfl
                      refine wpAnyIn_ready (rs := [11]) (by kernel_rfl) (by simp) ?_
                      refine AllReadyIn.cons rfl (fun K hK => ?_) ?_
                      · go_simp
                        refine hK _ _ ?_
                        clear hK K
                        refine wpAnyIn_done (by kernel_rfl) ?_ _
                        (gi_wp2; exact HFIN2.out)
                      exact AllReadyIn.nil
                    exact AllReadyIn.nil
                  exact AllReadyIn.nil
                exact AllReadyIn.nil
              refine AllReadyIn.cons rfl (fun K hK => ?_) ?_
              · go_simp
                refine hK _ _ ?_
                clear hK K
                refine wpAnyIn_take (i := 8) (v := .pointer (some ⟨Gt, p, none⟩)) rfl rfl (by kernel_rfl) (by kernel_rfl) (by kernel_rfl) (fun _ _ _ h => h) ⟨Or.inl ⟨by rfl, ?_⟩, fun _ => rfl⟩ ?_
                · intro w; go_simp; try rfl
                refine wpAnyIn_ready (rs := [2, 7, 9]) (by kernel_rfl) (by simp) ?_
                refine AllReadyIn.cons rfl (fun K hK => ?_) ?_
                · go_simp
                  refine hK _ _ ?_
                  clear hK K
                  refine wpAnyIn_ready (rs := [7, 9]) (by kernel_rfl) (by simp) ?_
                  refine AllReadyIn.cons rfl (fun K hK => ?_) ?_
                  · go_simp
                    refine hK _ _ ?_
                    clear hK K
                    refine wpAnyIn_ready (rs := [9]) (by kernel_rfl) (by simp) ?_
                    refine AllReadyIn.cons rfl (fun K hK => ?_) ?_
                    · go_simp
                      refine hK _ _ ?_
                      clear hK K
                      refine wpAnyIn_take (i := 10) (v := .pointer (some ⟨Gw, p, none⟩)) rfl rfl (by kernel_rfl) (by kernel_rfl) (by kernel_rfl) (fun _ _ _ h => h) ⟨Or.inl ⟨by rfl, ?_⟩, fun _ => rfl⟩ ?_
                      · intro w; go_simp; try rfl
                      refine wpAnyIn_ready (rs := [11]) (by kernel_rfl) (by simp) ?_
                      refine AllReadyIn.cons rfl (fun K hK => ?_) ?_
                      · go_simp
                        refine hK _ _ ?_
                        clear hK K
                        refine wpAnyIn_done (by kernel_rfl) ?_ _
                        (gi_wp2; exact HFIN2.out)
                      exact AllReadyIn.nil
                    exact AllReadyIn.nil
                  refine AllReadyIn.cons rfl (fun K hK => ?_) ?_
                  · go_simp
                    refine hK _ _ ?_
                    clear hK K
                    refine wpAnyIn_ready (rs := [7]) (by kernel_rfl) (by simp) ?_
                    refine AllReadyIn.cons rfl (fun K hK => ?_) ?_
                    · go_simp
                      refine hK _ _ ?_
                      clear hK K
                      refine wpAnyIn_take (i := 10) (v := .pointer (some ⟨Gw, p, none⟩)) rfl rfl (by kernel_rfl) (by kernel_rfl) (by kernel_rfl) (fun _ _ _ h => h) ⟨Or.inl ⟨by rfl, ?_⟩, fun _ => rfl⟩ ?_
                      · intro w; go_simp; try rfl
                      refine wpAnyIn_ready (rs := [11]) (by kernel_rfl) (by simp) ?_
                      refine AllReadyIn.cons rfl (fun K hK => ?_) ?_
                      · go_simp
                        refine hK _ _ ?_
                        clear hK K
                        refine wpAnyIn_done (by kernel_rfl) ?_ _
                        (gi_wp2; exact HFIN2.out)
                      exact AllReadyIn.nil
                    exact AllReadyIn.nil
                  exact AllReadyIn.nil
                refine AllReadyIn.cons rfl (fun K hK => ?_) ?_
                · go_simp
                  refine hK _ _ ?_
                  clear hK K
                  refine wpAnyIn_ready (rs := [2, 9]) (by kernel_rfl) (by simp) ?_
                  refine AllReadyIn.cons rfl (fun K hK => ?_) ?_
                  · go_simp
                    refine hK _ _ ?_
                    clear hK K
                    refine wpAnyIn_ready (rs := [9]) (by kernel_rfl) (by simp) ?_
                    refine AllReadyIn.cons rfl (fun K hK => ?_) ?_
                    · go_simp
                      refine hK _ _ ?_
                      clear hK K
                      refine wpAnyIn_take (i := 10) (v := .pointer (some ⟨Gw, p, none⟩)) rfl rfl (by kernel_rfl) (by kernel_rfl) (by kernel_rfl) (fun _ _ _ h => h) ⟨Or.inl ⟨by rfl, ?_⟩, fun _ => rfl⟩ ?_
                      · intro w; go_simp; try rfl
                      refine wpAnyIn_ready (rs := [11]) (by kernel_rfl) (by simp) ?_
                      refine AllReadyIn.cons rfl (fun K hK => ?_) ?_
                      · go_simp
                        refine hK _ _ ?_
                        clear hK K
                        refine wpAnyIn_done (by kernel_rfl) ?_ _
                        (gi_wp2; exact HFIN2.out)
                      exact AllReadyIn.nil
                    exact AllReadyIn.nil
                  refine AllReadyIn.cons rfl (fun K hK => ?_) ?_
                  · go_simp
                    refine hK _ _ ?_
                    clear hK K
                    refine wpAnyIn_ready (rs := [2]) (by kernel_rfl) (by simp) ?_
                    refine AllReadyIn.cons rfl (fun K hK => ?_) ?_
                    · go_simp
                      refine hK _ _ ?_
                      clear hK K
                      refine wpAnyIn_take (i := 10) (v := .pointer (some ⟨Gw, p, none⟩)) rfl rfl (by kernel_rfl) (by kernel_rfl) (by kernel_rfl) (fun _ _ _ h => h) ⟨Or.inl ⟨by rfl, ?_⟩, fun _ => rfl⟩ ?_
                      · intro w; go_simp; try rfl
                      refine wpAnyIn_ready (rs := [11]) (by kernel_rfl) (by simp) ?_
                      refine AllReadyIn.cons rfl (fun K hK => ?_) ?_
                      · go_simp
                        refine hK _ _ ?_
                        clear hK K
                        refine wpAnyIn_done (by kernel_rfl) ?_ _
                        (gi_wp2; exact HFIN2.out)
                      exact AllReadyIn.nil
                    exact AllReadyIn.nil
                  exact AllReadyIn.nil
                refine AllReadyIn.cons rfl (fun K hK => ?_) ?_
                · go_simp
                  refine hK _ _ ?_
                  clear hK K
                  refine wpAnyIn_ready (rs := [2, 7]) (by kernel_rfl) (by simp) ?_
                  refine AllReadyIn.cons rfl (fun K hK => ?_) ?_
                  · go_simp
                    refine hK _ _ ?_
                    clear hK K
                    refine wpAnyIn_ready (rs := [7]) (by kernel_rfl) (by simp) ?_
                    refine AllReadyIn.cons rfl (fun K hK => ?_) ?_
                    · go_simp
                      refine hK _ _ ?_
                      clear hK K
                      refine wpAnyIn_take (i := 10) (v := .pointer (some ⟨Gw, p, none⟩)) rfl rfl (by kernel_rfl) (by kernel_rfl) (by kernel_rfl) (fun _ _ _ h => h) ⟨Or.inl ⟨by rfl, ?_⟩, fun _ => rfl⟩ ?_
                      · intro w; go_simp; try rfl
                      refine wpAnyIn_ready (rs := [11]) (by kernel_rfl) (by simp) ?_
                      refine AllReadyIn.cons rfl (fun K hK => ?_) ?_
                      · go_simp
                        refine hK _ _ ?_
                        clear hK K
                        refine wpAnyIn_done (by kernel_rfl) ?_ _
                        (gi_wp2; exact HFIN2.out)
                      exact AllReadyIn.nil
                    exact AllReadyIn.nil
                  refine AllReadyIn.cons rfl (fun K hK => ?_) ?_
                  · go_simp
                    refine hK _ _ ?_
                    clear hK K
                    refine wpAnyIn_ready (rs := [2]) (by kernel_rfl) (by simp) ?_
                    refine AllReadyIn.cons rfl (fun K hK => ?_) ?_
                    · go_simp
                      refine hK _ _ ?_
                      clear hK K
                      refine wpAnyIn_take (i := 10) (v := .pointer (some ⟨Gw, p, none⟩)) rfl rfl (by kernel_rfl) (by kernel_rfl) (by kernel_rfl) (fun _ _ _ h => h) ⟨Or.inl ⟨by rfl, ?_⟩, fun _ => rfl⟩ ?_
                      · intro w; go_simp; try rfl
                      refine wpAnyIn_ready (rs := [11]) (by kernel_rfl) (by simp) ?_
                      refine AllReadyIn.cons rfl (fun K hK => ?_) ?_
                      · go_simp
                        refine hK _ _ ?_
                        clear hK K
                        refine wpAnyIn_done (by kernel_rfl) ?_ _
                        (gi_wp2; exact HFIN2.out)
                      exact AllReadyIn.nil
                    exact AllReadyIn.nil
                  exact AllReadyIn.nil
                exact AllReadyIn.nil
              refine AllReadyIn.cons rfl (fun K hK => ?_) ?_
              · go_simp
                refine hK _ _ ?_
                clear hK K
                refine wpAnyIn_ready (rs := [2, 5]) (by kernel_rfl) (by simp) ?_
                refine AllReadyIn.cons rfl (fun K hK => ?_) ?_
                · go_simp
                  refine hK _ _ ?_
                  clear hK K
                  refine wpAnyIn_ready (rs := [5]) (by kernel_rfl) (by simp) ?_
                  refine AllReadyIn.cons rfl (fun K hK => ?_) ?_
                  · go_simp
                    refine hK _ _ ?_
                    clear hK K
                    refine wpAnyIn_take (i := 8) (v := .pointer (some ⟨Gt, p, none⟩)) rfl rfl (by kernel_rfl) (by kernel_rfl) (by kernel_rfl) (fun _ _ _ h => h) ⟨Or.inl ⟨by rfl, ?_⟩, fun _ => rfl⟩ ?_
                    · intro w; go_simp; try rfl
                    refine wpAnyIn_ready (rs := [9]) (by kernel_rfl) (by simp) ?_
                    refine AllReadyIn.cons rfl (fun K hK => ?_) ?_
                    · go_simp
                      refine hK _ _ ?_
                      clear hK K
                      refine wpAnyIn_take (i := 10) (v := .pointer (some ⟨Gw, p, none⟩)) rfl rfl (by kernel_rfl) (by kernel_rfl) (by kernel_rfl) (fun _ _ _ h => h) ⟨Or.inl ⟨by rfl, ?_⟩, fun _ => rfl⟩ ?_
                      · intro w; go_simp; try rfl
                      refine wpAnyIn_ready (rs := [11]) (by kernel_rfl) (by simp) ?_
                      refine AllReadyIn.cons rfl (fun K hK => ?_) ?_
                      · go_simp
                        refine hK _ _ ?_
                        clear hK K
                        refine wpAnyIn_done (by kernel_rfl) ?_ _
                        (gi_wp2; exact HFIN2.out)
                      exact AllReadyIn.nil
                    exact AllReadyIn.nil
                  exact AllReadyIn.nil
                refine AllReadyIn.cons rfl (fun K hK => ?_) ?_
                · go_simp
                  refine hK _ _ ?_
                  clear hK K
                  refine wpAnyIn_take (i := 8) (v := .pointer (some ⟨Gt, p, none⟩)) rfl rfl (by kernel_rfl) (by kernel_rfl) (by kernel_rfl) (fun _ _ _ h => h) ⟨Or.inl ⟨by rfl, ?_⟩, fun _ => rfl⟩ ?_
                  · intro w; go_simp; try rfl
                  refine wpAnyIn_ready (rs := [2, 9]) (by kernel_rfl) (by simp) ?_
                  refine AllReadyIn.cons rfl (fun K hK => ?_) ?_
                  · go_simp
                    refine hK _ _ ?_
                    clear hK K
                    refine wpAnyIn_ready (rs := [9]) (by kernel_rfl) (by simp) ?_
                    refine AllReadyIn.cons rfl (fun K hK => ?_) ?_
                    · go_simp
                      refine hK _ _ ?_
                      clear hK K
                      refine wpAnyIn_take (i := 10) (v := .pointer (some ⟨Gw, p, none⟩)) rfl rfl (by kernel_rfl) (by kernel_rfl) (by kernel_rfl) (fun _ _ _ h => h) ⟨Or.inl ⟨by rfl, ?_⟩, fun _ => rfl⟩ ?_
                      · intro w; go_simp; try rfl
                      refine wpAnyIn_ready (rs := [11]) (by kernel_rfl) (by simp) ?_
                      refine AllReadyIn.cons rfl (fun K hK => ?_) ?_
                      · go_simp
                        refine hK _ _ ?_
                        clear hK K
                        refine wpAnyIn_done (by kernel_rfl) ?_ _
                        (gi_wp2; exact HFIN2.out)
                      exact AllReadyIn.nil
                    exact AllReadyIn.nil
                  refine AllReadyIn.cons rfl (fun K hK => ?_) ?_
                  · go_simp
                    refine hK _ _ ?_
                    clear hK K
                    refine wpAnyIn_ready (rs := [2]) (by kernel_rfl) (by simp) ?_
                    refine AllReadyIn.cons rfl (fun K hK => ?_) ?_
                    · go_simp
                      refine hK _ _ ?_
                      clear hK K
                      refine wpAnyIn_take (i := 10) (v := .pointer (some ⟨Gw, p, none⟩)) rfl rfl (by kernel_rfl) (by kernel_rfl) (by kernel_rfl) (fun _ _ _ h => h) ⟨Or.inl ⟨by rfl, ?_⟩, fun _ => rfl⟩ ?_
                      · intro w; go_simp; try rfl
                      refine wpAnyIn_ready (rs := [11]) (by kernel_rfl) (by simp) ?_
                      refine AllReadyIn.cons rfl (fun K hK => ?_) ?_
                      · go_simp
                        refine hK _ _ ?_
                        clear hK K
                        refine wpAnyIn_done (by kernel_rfl) ?_ _
                        (gi_wp2; exact HFIN2.out)
                      exact AllReadyIn.nil
                    exact AllReadyIn.nil
                  exact AllReadyIn.nil
                exact AllReadyIn.nil
              exact AllReadyIn.nil
            refine AllReadyIn.cons rfl (fun K hK => ?_) ?_
            · go_simp
              refine hK _ _ ?_
              clear hK K
              refine wpAnyIn_ready (rs := [0, 5, 7]) (by kernel_rfl) (by simp) ?_
              refine AllReadyIn.cons rfl (fun K hK => ?_) ?_
              · go_simp
                refine hK _ _ ?_
                clear hK K
                refine wpAnyIn_ready (rs := [5, 7]) (by kernel_rfl) (by simp) ?_
                refine AllReadyIn.cons rfl (fun K hK => ?_) ?_
                · go_simp
                  refine hK _ _ ?_
                  clear hK K
                  refine wpAnyIn_take (i := 8) (v := .pointer (some ⟨Gt, p, none⟩)) rfl rfl (by kernel_rfl) (by kernel_rfl) (by kernel_rfl) (fun _ _ _ h => h) ⟨Or.inl ⟨by rfl, ?_⟩, fun _ => rfl⟩ ?_
                  · intro w; go_simp; try rfl
                  refine wpAnyIn_ready (rs := [7, 9]) (by kernel_rfl) (by simp) ?_
                  refine AllReadyIn.cons rfl (fun K hK => ?_) ?_
                  · go_simp
                    refine hK _ _ ?_
                    clear hK K
                    refine wpAnyIn_ready (rs := [9]) (by kernel_rfl) (by simp) ?_
                    refine AllReadyIn.cons rfl (fun K hK => ?_) ?_
                    · go_simp
                      refine hK _ _ ?_
                      clear hK K
                      refine wpAnyIn_take (i := 10) (v := .pointer (some ⟨Gw, p, none⟩)) rfl rfl (by kernel_rfl) (by kernel_rfl) (by kernel_rfl) (fun _ _ _ h => h) ⟨Or.inl ⟨by rfl, ?_⟩, fun _ => rfl⟩ ?_
                      · intro w; go_simp; try rfl
                      refine wpAnyIn_ready (rs := [11]) (by kernel_rfl) (by simp) ?_
                      refine AllReadyIn.cons rfl (fun K hK => ?_) ?_
                      · go_simp
                        refine hK _ _ ?_
                        clear hK K
                        refine wpAnyIn_done (by kernel_rfl) ?_ _
                        (gi_wp2; exact HFIN2.out)
                      exact AllReadyIn.nil
                    exact AllReadyIn.nil
                  refine AllReadyIn.cons rfl (fun K hK => ?_) ?_
                  · go_simp
                    refine hK _ _ ?_
                    clear hK K
                    refine wpAnyIn_ready (rs := [7]) (by kernel_rfl) (by simp) ?_
                    refine AllReadyIn.cons rfl (fun K hK => ?_) ?_
                    · go_simp
                      refine hK _ _ ?_
                      clear hK K
                      refine wpAnyIn_take (i := 10) (v := .pointer (some ⟨Gw, p, none⟩)) rfl rfl (by kernel_rfl) (by kernel_rfl) (by kernel_rfl) (fun _ _ _ h => h) ⟨Or.inl ⟨by rfl, ?_⟩, fun _ => rfl⟩ ?_
                      · intro w; go_simp; try rfl
                      refine wpAnyIn_ready (rs := [11]) (by kernel_rfl) (by simp) ?_
                      refine AllReadyIn.cons rfl (fun K hK => ?_) ?_
                      · go_simp
                        refine hK _ _ ?_
                        clear hK K
                        refine wpAnyIn_done (by kernel_rfl) ?_ _
                        (gi_wp2; exact HFIN2.out)
                      exact AllReadyIn.nil
                    exact AllReadyIn.nil
                  exact AllReadyIn.nil
                refine AllReadyIn.cons rfl (fun K hK => ?_) ?_
                · go_simp
                  refine hK _ _ ?_
                  clear hK K
                  refine wpAnyIn_ready (rs := [5]) (by kernel_rfl) (by simp) ?_
                  refine AllReadyIn.cons rfl (fun K hK => ?_) ?_
                  · go_simp
                    refine hK _ _ ?_
                    clear hK K
                    refine wpAnyIn_take (i := 8) (v := .pointer (some ⟨Gt, p, none⟩)) rfl rfl (by kernel_rfl) (by kernel_rfl) (by kernel_rfl) (fun _ _ _ h => h) ⟨Or.inl ⟨by rfl, ?_⟩, fun _ => rfl⟩ ?_
                    · intro w; go_simp; try rfl
                    refine wpAnyIn_ready (rs := [9]) (by kernel_rfl) (by simp) ?_
                    refine AllReadyIn.cons rfl (fun K hK => ?_) ?_
                    · go_simp
                      refine hK _ _ ?_
                      clear hK K
                      refine wpAnyIn_take (i := 10) (v := .pointer (some ⟨Gw, p, none⟩)) rfl rfl (by kernel_rfl) (by kernel_rfl) (by kernel_rfl) (fun _ _ _ h => h) ⟨Or.inl ⟨by rfl, ?_⟩, fun _ => rfl⟩ ?_
                      · intro w; go_simp; try rfl
                      refine wpAnyIn_ready (rs := [11]) (by kernel_rfl) (by simp) ?_
                      refine AllReadyIn.cons rfl (fun K hK => ?_) ?_
                      · go_simp
                        refine hK _ _ ?_
                        clear hK K
                        refine wpAnyIn_done (by kernel_rfl) ?_ _
                        (gi_wp2; exact HFIN2.out)
                      exact AllReadyIn.nil
                    exact AllReadyIn.nil
                  exact AllReadyIn.nil
                exact AllReadyIn.nil
              refine AllReadyIn.cons rfl (fun K hK => ?_) ?_
              · go_simp
                refine hK _ _ ?_
                clear hK K
                refine wpAnyIn_ready (rs := [0, 7]) (by kernel_rfl) (by simp) ?_
                refine AllReadyIn.cons rfl (fun K hK => ?_) ?_
                · go_simp
                  refine hK _ _ ?_
                  clear hK K
                  refine wpAnyIn_take (i := 8) (v := .pointer (some ⟨Gt, p, none⟩)) rfl rfl (by kernel_rfl) (by kernel_rfl) (by kernel_rfl) (fun _ _ _ h => h) ⟨Or.inl ⟨by rfl, ?_⟩, fun _ => rfl⟩ ?_
                  · intro w; go_simp; try rfl
                  refine wpAnyIn_ready (rs := [7, 9]) (by kernel_rfl) (by simp) ?_
                  refine AllReadyIn.cons rfl (fun K hK => ?_) ?_
                  · go_simp
                    refine hK _ _ ?_
                    clear hK K
                    refine wpAnyIn_ready (rs := [9]) (by kernel_rfl) (by simp) ?_
                    refine AllReadyIn.cons rfl (fun K hK => ?_) ?_
                    · go_simp
                      refine hK _ _ ?_
                      clear hK K
                      refine wpAnyIn_take (i := 10) (v := .pointer (some ⟨Gw, p, none⟩)) rfl rfl (by kernel_rfl) (by kernel_rfl) (by kernel_rfl) (fun _ _ _ h => h) ⟨Or.inl ⟨by rfl, ?_⟩, fun _ => rfl⟩ ?_
                      · intro w; go_simp; try rfl
                      refine wpAnyIn_ready (rs := [11]) (by kernel_rfl) (by simp) ?_
                      refine AllReadyIn.cons rfl (fun K hK => ?_) ?_
                      · go_simp
                        refine hK _ _ ?_
                        clear hK K
                        refine wpAnyIn_done (by kernel_rfl) ?_ _
                        (gi_wp2; exact HFIN2.out)
                      exact AllReadyIn.nil
                    exact AllReadyIn.nil
                  refine AllReadyIn.cons rfl (fun K hK => ?_) ?_
                  · go_simp
                    refine hK _ _ ?_
                    clear hK K
                    refine wpAnyIn_ready (rs := [7]) (by kernel_rfl) (by simp) ?_
                    refine AllReadyIn.cons rfl (fun K hK => ?_) ?_
                    · go_simp
                      refine hK _ _ ?_
                      clear hK K
                      refine wpAnyIn_take (i := 10) (v := .pointer (some ⟨Gw, p, none⟩)) rfl rfl (by kernel_rfl) (by kernel_rfl) (by kernel_rfl) (fun _ _ _ h => h) ⟨Or.inl ⟨by rfl, ?_⟩, fun _ => rfl⟩ ?_
                      · intro w; go_simp; try rfl
                      refine wpAnyIn_ready (rs := [11]) (by kernel_rfl) (by simp) ?_
                      refine AllReadyIn.cons rfl (fun K hK => ?_) ?_
                      · go_simp
                        refine hK _ _ ?_
                        clear hK K
                        refine wpAnyIn_done (by kernel_rfl) ?_ _
                        (gi_wp2; exact HFIN2.out)
                      exact AllReadyIn.nil
                    exact AllReadyIn.nil
                  exact AllReadyIn.nil
                refine AllReadyIn.cons rfl (fun K hK => ?_) ?_
                · go_simp
                  refine hK _ _ ?_
                  clear hK K
                  refine wpAnyIn_ready (rs := [0]) (by kernel_rfl) (by simp) ?_
                  refine AllReadyIn.cons rfl (fun K hK => ?_) ?_
                  · go_simp
                    refine hK _ _ ?_
                    clear hK K
                    refine wpAnyIn_take (i := 8) (v := .pointer (some ⟨Gt, p, none⟩)) rfl rfl (by kernel_rfl) (by kernel_rfl) (by kernel_rfl) (fun _ _ _ h => h) ⟨Or.inl ⟨by rfl, ?_⟩, fun _ => rfl⟩ ?_
                    · intro w; go_simp; try rfl
                    refine wpAnyIn_ready (rs := [9]) (by kernel_rfl) (by simp) ?_
                    refine AllReadyIn.cons rfl (fun K hK => ?_) ?_
                    · go_simp
                      refine hK _ _ ?_
                      clear hK K
                      refine wpAnyIn_take (i := 10) (v := .pointer (some ⟨Gw, p, none⟩)) rfl rfl (by kernel_rfl) (by kernel_rfl) (by kernel_rfl) (fun _ _ _ h => h) ⟨Or.inl ⟨by rfl, ?_⟩, fun _ => rfl⟩ ?_
                      · intro w; go_simp; try rfl
                      refine wpAnyIn_ready (rs := [11]) (by kernel_rfl) (by simp) ?_
                      refine AllReadyIn.cons rfl (fun K hK => ?_) ?_
                      · go_simp
                        refine hK _ _ ?_
                        clear hK K
                        refine wpAnyIn_done (by kernel_rfl) ?_ _
                        (gi_wp2; exact HFIN2.out)
                      exact AllReadyIn.nil
                    exact AllReadyIn.nil
                  exact AllReadyIn.nil
                exact AllReadyIn.nil
              refine AllReadyIn.cons rfl (fun K hK => ?_) ?_
              · go_simp
                refine hK _ _ ?_
                clear hK K
                refine wpAnyIn_ready (rs := [0, 5]) (by kernel_rfl) (by simp) ?_
                refine AllReadyIn.cons rfl (fun K hK => ?_) ?_
                · go_simp
                  refine hK _ _ ?_
                  clear hK K
                  refine wpAnyIn_ready (rs := [5]) (by kernel_rfl) (by simp) ?_
                  refine AllReadyIn.cons rfl (fun K hK => ?_) ?_
                  · go_simp
                    refine hK _ _ ?_
                    clear hK K
                    refine wpAnyIn_take (i := 8) (v := .pointer (some ⟨Gt, p, none⟩)) rfl rfl (by kernel_rfl) (by kernel_rfl) (by kernel_rfl) (fun _ _ _ h => h) ⟨Or.inl ⟨by rfl, ?_⟩, fun _ => rfl⟩ ?_
                    · intro w; go_simp; try rfl
                    refine wpAnyIn_ready (rs := [9]) (by kernel_rfl) (by simp) ?_
                    refine AllReadyIn.cons rfl (fun K hK => ?_) ?_
                    · go_simp
                      refine hK _ _ ?_
                      clear hK K
                      refine wpAnyIn_take (i := 10) (v := .pointer (some ⟨Gw, p, none⟩)) rfl rfl (by kernel_rfl) (by kernel_rfl) (by kernel_rfl) (fun _ _ _ h => h) ⟨Or.inl ⟨by rfl, ?_⟩, fun _ => rfl⟩ ?_
                      · intro w; go_simp; try rfl
                      refine wpAnyIn_ready (rs := [11]) (by kernel_rfl) (by simp) ?_
                      refine AllReadyIn.cons rfl (fun K hK => ?_) ?_
                      · go_simp
                        refine hK _ _ ?_
                        clear hK K
                        refine wpAnyIn_done (by kernel_rfl) ?_ _
                        (gi_wp2; exact HFIN2.out)
                      exact AllReadyIn.nil
                    exact AllReadyIn.nil
                  exact AllReadyIn.nil
                refine AllReadyIn.cons rfl (fun K hK => ?_) ?_
                · go_simp
                  refine hK _ _ ?_
                  clear hK K
                  refine wpAnyIn_ready (rs := [0]) (by kernel_rfl) (by simp) ?_
                  refine AllReadyIn.cons rfl (fun K hK => ?_) ?_
                  · go_simp
                    refine hK _ _ ?_
                    clear hK K
                    refine wpAnyIn_take (i := 8) (v := .pointer (some ⟨Gt, p, none⟩)) rfl rfl (by kernel_rfl) (by kernel_rfl) (by kernel_rfl) (fun _ _ _ h => h) ⟨Or.inl ⟨by rfl, ?_⟩, fun _ => rfl⟩ ?_
                    · intro w; go_simp; try rfl
                    refine wpAnyIn_ready (rs := [9]) (by kernel_rfl) (by simp) ?_
                    refine AllReadyIn.cons rfl (fun K hK => ?_) ?_
                    · go_simp
                      refine hK _ _ ?_
                      clear hK K
                      refine wpAnyIn_take (i := 10) (v := .pointer (some ⟨Gw, p, none⟩)) rfl rfl (by kernel_rfl) (by kernel_rfl) (by kernel_rfl) (fun _ _ _ h => h) ⟨Or.inl ⟨by rfl, ?_⟩, fun _ => rfl⟩ ?_
                      · intro w; go_simp; try rfl
                      refine wpAnyIn_ready (rs := [11]) (by kernel_rfl) (by simp) ?_
                      refine AllReadyIn.cons rfl (fun K hK => ?_) ?_
                      · go_simp
                        refine hK _ _ ?_
                        clear hK K
                        refine wpAnyIn_done (by kernel_rfl) ?_ _
                        (gi_wp2; exact HFIN2.out)
                      exact AllReadyIn.nil
                    exact AllReadyIn.nil
                  exact AllReadyIn.nil
                exact AllReadyIn.nil
              exact AllReadyIn.nil
            refine AllReadyIn.cons rfl (fun K hK => ?_) ?_
            · go_simp
              refine hK _ _ ?_
              clear hK K
              refine wpAnyIn_ready (rs := [0, 2, 7]) (by kernel_rfl) (by simp) ?_
              refine AllReadyIn.cons rfl (fun K hK => ?_) ?_
              · go_simp
                refine hK _ _ ?_
                clear hK K
                refine wpAnyIn_take (i := 8) (v := .pointer (some ⟨Gt, p, none⟩)) rfl rfl (by kernel_rfl) (by kernel_rfl) (by kernel_rfl) (fun _ _ _ h => h) ⟨Or.inl ⟨by rfl, ?_⟩, fun _ => rfl⟩ ?_
                · intro w; go_simp; try rfl
                refine wpAnyIn_ready (rs := [2, 7, 9]) (by kernel_rfl) (by simp) ?_
                refine AllReadyIn.cons rfl (fun K hK => ?_) ?_
                · go_simp
                  refine hK _ _ ?_
                  clear hK K
                  refine wpAnyIn_ready (rs := [7, 9]) (by kernel_rfl) (by simp) ?_
                  refine AllReadyIn.cons rfl (fun K hK => ?_) ?_
                  · go_simp
                    refine hK _ _ ?_
                    clear hK K
                    refine wpAnyIn_ready (rs := [9]) (by kernel_rfl) (by simp) ?_
                    refine AllReadyIn.cons rfl (fun K hK => ?_) ?_
                    · go_simp
                      refine hK _ _ ?_
                      clear hK K
                      refine wpAnyIn_take (i := 10) (v := .pointer (some ⟨Gw, p, none⟩)) rfl rfl (by kernel_rfl) (by kernel_rfl) (by kernel_rfl) (fun _ _ _ h => h) ⟨Or.inl ⟨by rfl, ?_⟩, fun _ => rfl⟩ ?_
                      · intro w; go_simp; try rfl
                      refine wpAnyIn_ready (rs := [11]) (by kernel_rfl) (by simp) ?_
                      refine AllReadyIn.cons rfl (fun K hK => ?_) ?_
                      · go_simp
                        refine hK _ _ ?_
                        clear hK K
                        refine wpAnyIn_done (by kernel_rfl) ?_ _
                        (gi_wp2; exact HFIN2.out)
                      exact AllReadyIn.nil
                    exact AllReadyIn.nil
                  refine AllReadyIn.cons rfl (fun K hK => ?_) ?_
                  · go_simp
                    refine hK _ _ ?_
                    clear hK K
                    refine wpAnyIn_ready (rs := [7]) (by kernel_rfl) (by simp) ?_
                    refine AllReadyIn.cons rfl (fun K hK => ?_) ?_
                    · go_simp
                      refine hK _ _ ?_
                      clear hK K
                      refine wpAnyIn_take (i := 10) (v := .pointer (some ⟨Gw, p, none⟩)) rfl rfl (by kernel_rfl) (by kernel_rfl) (by kernel_rfl) (fun _ _ _ h => h) ⟨Or.inl ⟨by rfl, ?_⟩, fun _ => rfl⟩ ?_
                      · intro w; go_simp; try rfl
                      refine wpAnyIn_ready (rs := [11]) (by kernel_rfl) (by simp) ?_
                      refine AllReadyIn.cons rfl (fun K hK => ?_) ?_
                      · go_simp
                        refine hK _ _ ?_
                        clear hK K
                        refine wpAnyIn_done (by kernel_rfl) ?_ _
                        (gi_wp2; exact HFIN2.out)
                      exact AllReadyIn.nil
                    exact AllReadyIn.nil
                  exact AllReadyIn.nil
                refine AllReadyIn.cons rfl (fun K hK => ?_) ?_
                · go_simp
                  refine hK _ _ ?_
                  clear hK K
                  refine wpAnyIn_ready (rs := [2, 9]) (by kernel_rfl) (by simp) ?_
                  refine AllReadyIn.cons rfl (fun K hK => ?_) ?_
                  · go_simp
                    refine hK _ _ ?_
                    clear hK K
                    refine wpAnyIn_ready (rs := [9]) (by kernel_rfl) (by simp) ?_
                    refine AllReadyIn.cons rfl (fun K hK => ?_) ?_
                    · go_simp
                      refine hK _ _ ?_
                      clear hK K
                      refine wpAnyIn_take (i := 10) (v := .pointer (some ⟨Gw, p, none⟩)) rfl rfl (by kernel_rfl) (by kernel_rfl) (by kernel_rfl) (fun _ _ _ h => h) ⟨Or.inl ⟨by rfl, ?_⟩, fun _ => rfl⟩ ?_
                      · intro w; go_simp; try rfl
                      refine wpAnyIn_ready (rs := [11]) (by kernel_rfl) (by simp) ?_
                      refine AllReadyIn.cons rfl (fun K hK => ?_) ?_
                      · go_simp
                        refine hK _ _ ?_
                        clear hK K
                        refine wpAnyIn_done (by kernel_rfl) ?_ _
                        (gi_wp2; exact HFIN2.out)
                      exact AllReadyIn.nil
                    exact AllReadyIn.nil
                  refine AllReadyIn.cons rfl (fun K hK => ?_) ?_
                  · go_simp
                    refine hK _ _ ?_
                    clear hK K
                    refine wpAnyIn_ready (rs := [2]) (by kernel_rfl) (by simp) ?_
                    refine AllReadyIn.cons rfl (fun K hK => ?_) ?_
                    · go_simp
                      refine hK _ _ ?_
                      clear hK K
                      refine wpAnyIn_take (i := 10) (v := .pointer (some ⟨Gw, p, none⟩)) rfl rfl (by kernel_rfl) (by kernel_rfl) (by kernel_rfl) (fun _ _ _ h => h) ⟨Or.inl ⟨by rfl, ?_⟩, fun _ => rfl⟩ ?_
                      · intro w; go_simp; try rfl
                      refine wpAnyIn_ready (rs := [11]) (by kernel_rfl) (by simp) ?_
                      refine AllReadyIn.cons rfl (fun K hK => ?_) ?_
                      · go_simp
                        refine hK _ _ ?_
                        clear hK K
                        refine wpAnyIn_done (by kernel_rfl) ?_ _
                        (gi_wp2; exact HFIN2.out)
                      exact AllReadyIn.nil
                    exact AllReadyIn.nil
                  exact AllReadyIn.nil
                refine AllReadyIn.cons rfl (fun K hK => ?_) ?_
                · go_simp
                  refine hK _ _ ?_
                  clear hK K
                  refine wpAnyIn_ready (rs := [2, 7]) (by kernel_rfl) (by simp) ?_
                  refine AllReadyIn.cons rfl (fun K hK => ?_) ?_
                  · go_simp
                    refine hK _ _ ?_
                    clear hK K
                    refine wpAnyIn_ready (rs := [7]) (by kernel_rfl) (by simp) ?_
                    refine AllReadyIn.cons rfl (fun K hK => ?_) ?_
                    · go_simp
                      refine hK _ _ ?_
                      clear hK K
                      refine wpAnyIn_take (i := 10) (v := .pointer (some ⟨Gw, p, none⟩)) rfl rfl (by kernel_rfl) (by kernel_rfl) (by kernel_rfl) (fun _ _ _ h => h) ⟨Or.inl ⟨by rfl, ?_⟩, fun _ => rfl⟩ ?_
                      · intro w; go_simp; try rfl
                      refine wpAnyIn_ready (rs := [11]) (by kernel_rfl) (by simp) ?_
                      refine AllReadyIn.cons rfl (fun K hK => ?_) ?_
                      · go_simp
                        refine hK _ _ ?_
                        clear hK K
                        refine wpAnyIn_done (by kernel_rfl) ?_ _
                        (gi_wp2; exact HFIN2.out)
                      exact AllReadyIn.nil
                    exact AllReadyIn.nil
                  refine AllReadyIn.cons rfl (fun K hK => ?_) ?_
                  · go_simp
                    refine hK _ _ ?_
                    clear hK K
                    refine wpAnyIn_ready (rs := [2]) (by kernel_rfl) (by simp) ?_
                    refine AllReadyIn.cons rfl (fun K hK => ?_) ?_
                    · go_simp
                      refine hK _ _ ?_
                      clear hK K
                      refine wpAnyIn_take (i := 10) (v := .pointer (some ⟨Gw, p, none⟩)) rfl rfl (by kernel_rfl) (by kernel_rfl) (by kernel_rfl) (fun _ _ _ h => h) ⟨Or.inl ⟨by rfl, ?_⟩, fun _ => rfl⟩ ?_
                      · intro w; go_simp; try rfl
                      refine wpAnyIn_ready (rs := [11]) (by kernel_rfl) (by simp) ?_
                      refine AllReadyIn.cons rfl (fun K hK => ?_) ?_
                      · go_simp
                        refine hK _ _ ?_
                        clear hK K
                        refine wpAnyIn_done (by kernel_rfl) ?_ _
                        (gi_wp2; exact HFIN2.out)
                      exact AllReadyIn.nil
                    exact AllReadyIn.nil
                  exact AllReadyIn.nil
                exact AllReadyIn.nil
              refine AllReadyIn.cons rfl (fun K hK => ?_) ?_
              · go_simp
                refine hK _ _ ?_
                clear hK K
                refine wpAnyIn_ready (rs := [0, 7]) (by kernel_rfl) (by simp) ?_
                refine AllReadyIn.cons rfl (fun K hK => ?_) ?_
                · go_simp
                  refine hK _ _ ?_
                  clear hK K
                  refine wpAnyIn_take (i := 8) (v := .pointer (some ⟨Gt, p, none⟩)) rfl rfl (by kernel_rfl) (by kernel_rfl) (by kernel_rfl) (fun _ _ _ h => h) ⟨Or.inl ⟨by rfl, ?_⟩, fun _ => rfl⟩ ?_
                  · intro w; go_simp; try rfl
                  refine wpAnyIn_ready (rs := [7, 9]) (by kernel_rfl) (by simp) ?_
                  refine AllReadyIn.cons rfl (fun K hK => ?_) ?_
                  · go_simp
                    refine hK _ _ ?_
                    clear hK K
                    refine wpAnyIn_ready (rs := [9]) (by kernel_rfl) (by simp) ?_
                    refine AllReadyIn.cons rfl (fun K hK => ?_) ?_
                    · go_simp
                      refine hK _ _ ?_
                      clear hK K
                      refine wpAnyIn_take (i := 10) (v := .pointer (some ⟨Gw, p, none⟩)) rfl rfl (by kernel_rfl) (by kernel_rfl) (by kernel_rfl) (fun _ _ _ h => h) ⟨Or.inl ⟨by rfl, ?_⟩, fun _ => rfl⟩ ?_
                      · intro w; go_simp; try rfl
                      refine wpAnyIn_ready (rs := [11]) (by kernel_rfl) (by simp) ?_
                      refine AllReadyIn.cons rfl (fun K hK => ?_) ?_
                      · go_simp
                        refine hK _ _ ?_
                        clear hK K
                        refine wpAnyIn_done (by kernel_rfl) ?_ _
                        (gi_wp2; exact HFIN2.out)
                      exact AllReadyIn.nil
                    exact AllReadyIn.nil
                  refine AllReadyIn.cons rfl (fun K hK => ?_) ?_
                  · go_simp
                    refine hK _ _ ?_
                    clear hK K
                    refine wpAnyIn_ready (rs := [7]) (by kernel_rfl) (by simp) ?_
                    refine AllReadyIn.cons rfl (fun K hK => ?_) ?_
                    · go_simp
                      refine hK _ _ ?_
                      clear hK K
                      refine wpAnyIn_take (i := 10) (v := .pointer (some ⟨Gw, p, none⟩)) rfl rfl (by kernel_rfl) (by kernel_rfl) (by kernel_rfl) (fun _ _ _ h => h) ⟨Or.inl ⟨by rfl, ?_⟩, fun _ => rfl⟩ ?_
                      · intro w; go_simp; try rfl
                      refine wpAnyIn_ready (rs := [11]) (by kernel_rfl) (by simp) ?_
                      refine AllReadyIn.cons rfl (fun K hK => ?_) ?_
                      · go_simp
                        refine hK _ _ ?_
                        clear hK K
                        refine wpAnyIn_done (by kernel_rfl) ?_ _
                        (gi_wp2; exact HFIN2.out)
                      exact AllReadyIn.nil
                    exact AllReadyIn.nil
                  exact AllReadyIn.nil
                refine AllReadyIn.cons rfl (fun K hK => ?_) ?_
                · go_simp
                  refine hK _ _ ?_
                  clear hK K
                  refine wpAnyIn_ready (rs := [0]) (by kernel_rfl) (by simp) ?_
                  refine AllReadyIn.cons rfl (fun K hK => ?_) ?_
                  · go_simp
                    refine hK _ _ ?_
                    clear hK K
                    refine wpAnyIn_take (i := 8) (v := .pointer (some ⟨Gt, p, none⟩)) rfl rfl (by kernel_rfl) (by kernel_rfl) (by kernel_rfl) (fun _ _ _ h => h) ⟨Or.inl ⟨by rfl, ?_⟩, fun _ => rfl⟩ ?_
                    · intro w; go_simp; try rfl
                    refine wpAnyIn_ready (rs := [9]) (by kernel_rfl) (by simp) ?_
                    refine AllReadyIn.cons rfl (fun K hK => ?_) ?_
                    · go_simp
                      refine hK _ _ ?_
                      clear hK K
                      refine wpAnyIn_take (i := 10) (v := .pointer (some ⟨Gw, p, none⟩)) rfl rfl (by kernel_rfl) (by kernel_rfl) (by kernel_rfl) (fun _ _ _ h => h) ⟨Or.inl ⟨by rfl, ?_⟩, fun _ => rfl⟩ ?_
                      · intro w; go_simp; try rfl
                      refine wpAnyIn_ready (rs := [11]) (by kernel_rfl) (by simp) ?_
                      refine AllReadyIn.cons rfl (fun K hK => ?_) ?_
                      · go_simp
                        refine hK _ _ ?_
                        clear hK K
                        refine wpAnyIn_done (by kernel_rfl) ?_ _
                        (gi_wp2; exact HFIN2.out)
                      exact AllReadyIn.nil
                    exact AllReadyIn.nil
                  exact AllReadyIn.nil
                exact AllReadyIn.nil
              refine AllReadyIn.cons rfl (fun K hK => ?_) ?_
              · go_simp
                refine hK _ _ ?_
                clear hK K
                refine wpAnyIn_ready (rs := [0, 2]) (by kernel_rfl) (by simp) ?_
                refine AllReadyIn.cons rfl (fun K hK => ?_) ?_
                · go_simp
                  refine hK _ _ ?_
                  clear hK K
                  refine wpAnyIn_take (i := 8) (v := .pointer (some ⟨Gt, p, none⟩)) rfl rfl (by kernel_rfl) (by kernel_rfl) (by kernel_rfl) (fun _ _ _ h => h) ⟨Or.inl ⟨by rfl, ?_⟩, fun _ => rfl⟩ ?_
                  · intro w; go_simp; try rfl
                  refine wpAnyIn_ready (rs := [2, 9]) (by kernel_rfl) (by simp) ?_
                  refine AllReadyIn.cons rfl (fun K hK => ?_) ?_
                  · go_simp
                    refine hK _ _ ?_
                    clear hK K
                    refine wpAnyIn_ready (rs := [9]) (by kernel_rfl) (by simp) ?_
                    refine AllReadyIn.cons rfl (fun K hK => ?_) ?_
                    · go_simp
                      refine hK _ _ ?_
                      clear hK K
                      refine wpAnyIn_take (i := 10) (v := .pointer (some ⟨Gw, p, none⟩)) rfl rfl (by kernel_rfl) (by kernel_rfl) (by kernel_rfl) (fun _ _ _ h => h) ⟨Or.inl ⟨by rfl, ?_⟩, fun _ => rfl⟩ ?_
                      · intro w; go_simp; try rfl
                      refine wpAnyIn_ready (rs := [11]) (by kernel_rfl) (by simp) ?_
                      refine AllReadyIn.cons rfl (fun K hK => ?_) ?_
                      · go_simp
                        refine hK _ _ ?_
                        clear hK K
                        refine wpAnyIn_done (by kernel_rfl) ?_ _
                        (gi_wp2; exact HFIN2.out)
                      exact AllReadyIn.nil
                    exact AllReadyIn.nil
                  refine AllReadyIn.cons rfl (fun K hK => ?_) ?_
                  · go_simp
                    refine hK _ _ ?_
                    clear hK K
                    refine wpAnyIn_ready (rs := [2]) (by kernel_rfl) (by simp) ?_
                    refine AllReadyIn.cons rfl (fun K hK => ?_) ?_
                    · go_simp
                      refine hK _ _ ?_
                      clear hK K
                      refine wpAnyIn_take (i := 10) (v := .pointer (some ⟨Gw, p, none⟩)) rfl rfl (by kernel_rfl) (by kernel_rfl) (by kernel_rfl) (fun _ _ _ h => h) ⟨Or.inl ⟨by rfl, ?_⟩, fun _ => rfl⟩ ?_
                      · intro w; go_simp; try rfl
                      refine wpAnyIn_ready (rs := [11]) (by kernel_rfl) (by simp) ?_
                      refine AllReadyIn.cons rfl (fun K hK => ?_) ?_
                      · go_simp
                        refine hK _ _ ?_
                        clear hK K
                        refine wpAnyIn_done (by kernel_rfl) ?_ _
                        (gi_wp2; exact HFIN2.out)
                      exact AllReadyIn.nil
                    exact AllReadyIn.nil
                  exact AllReadyIn.nil
                refine AllReadyIn.cons rfl (fun K hK => ?_) ?_
                · go_simp
                  refine hK _ _ ?_
                  clear hK K
                  refine wpAnyIn_ready (rs := [0]) (by kernel_rfl) (by simp) ?_
                  refine AllReadyIn.cons rfl (fun K hK => ?_) ?_
                  · go_simp
                    refine hK _ _ ?_
                    clear hK K
                    refine wpAnyIn_take (i := 8) (v := .pointer (some ⟨Gt, p, none⟩)) rfl rfl (by kernel_rfl) (by kernel_rfl) (by kernel_rfl) (fun _ _ _ h => h) ⟨Or.inl ⟨by rfl, ?_⟩, fun _ => rfl⟩ ?_
                    · intro w; go_simp; try rfl
                    refine wpAnyIn_ready (rs := [9]) (by kernel_rfl) (by simp) ?_
                    refine AllReadyIn.cons rfl (fun K hK => ?_) ?_
                    · go_simp
                      refine hK _ _ ?_
                      clear hK K
                      refine wpAnyIn_take (i := 10) (v := .pointer (some ⟨Gw, p, none⟩)) rfl rfl (by kernel_rfl) (by kernel_rfl) (by kernel_rfl) (fun _ _ _ h => h) ⟨Or.inl ⟨by rfl, ?_⟩, fun _ => rfl⟩ ?_
                      · intro w; go_simp; try rfl
                      refine wpAnyIn_ready (rs := [11]) (by kernel_rfl) (by simp) ?_
                      refine AllReadyIn.cons rfl (fun K hK => ?_) ?_
                      · go_simp
                        refine hK _ _ ?_
                        clear hK K
                        refine wpAnyIn_done (by kernel_rfl) ?_ _
                        (gi_wp2; exact HFIN2.out)
                      exact AllReadyIn.nil
                    exact AllReadyIn.nil
                  exact AllReadyIn.nil
                exact AllReadyIn.nil
              exact AllReadyIn.nil
            refine AllReadyIn.cons rfl (fun K hK => ?_) ?_
            · go_simp
              refine hK _ _ ?_
              clear hK K
              refine wpAnyIn_ready (rs := [0, 2, 5]) (by kernel_rfl) (by simp) ?_
              refine AllReadyIn.cons rfl (fun K hK => ?_) ?_
              · go_simp
                refine hK _ _ ?_
                clear hK K
                refine wpAnyIn_ready (rs := [2, 5]) (by kernel_rfl) (by simp) ?_
                refine AllReadyIn.cons rfl (fun K hK => ?_) ?_
                · go_simp
                  refine hK _ _ ?_
                  clear hK K
                  refine wpAnyIn_ready (rs := [5]) (by kernel_rfl) (by simp) ?_
                  refine AllReadyIn.cons rfl (fun K hK => ?_) ?_
                  · go_simp
                    refine hK _ _ ?_
                    clear hK K
                    refine wpAnyIn_take (i := 8) (v := .pointer (some ⟨Gt, p, none⟩)) rfl rfl (by kernel_rfl) (by kernel_rfl) (by kernel_rfl) (fun _ _ _ h => h) ⟨Or.inl ⟨by rfl, ?_⟩, fun _ => rfl⟩ ?_
                    · intro w; go_simp; try rfl
                    refine wpAnyIn_ready (rs := [9]) (by kernel_rfl) (by simp) ?_
                    refine AllReadyIn.cons rfl (fun K hK => ?_) ?_
                    · go_simp
                      refine hK _ _ ?_
                      clear hK K
                      refine wpAnyIn_take (i := 10) (v := .pointer (some ⟨Gw, p, none⟩)) rfl rfl (by kernel_rfl) (by kernel_rfl) (by kernel_rfl) (fun _ _ _ h => h) ⟨Or.inl ⟨by rfl, ?_⟩, fun _ => rfl⟩ ?_
                      · intro w; go_simp; try rfl
                      refine wpAnyIn_ready (rs := [11]) (by kernel_rfl) (by simp) ?_
                      refine AllReadyIn.cons rfl (fun K hK => ?_) ?_
                      · go_simp
                        refine hK _ _ ?_
                        clear hK K
                        refine wpAnyIn_done (by kernel_rfl) ?_ _
                        (gi_wp2; exact HFIN2.out)
                      exact AllReadyIn.nil
                    exact AllReadyIn.nil
                  exact AllReadyIn.nil
                refine AllReadyIn.cons rfl (fun K hK => ?_) ?_
                · go_simp
                  refine hK _ _ ?_
                  clear hK K
                  refine wpAnyIn_take (i := 8) (v := .pointer (some ⟨Gt, p, none⟩)) rfl rfl (by kernel_rfl) (by kernel_rfl) (by kernel_rfl) (fun _ _ _ h => h) ⟨Or.inl ⟨by rfl, ?_⟩, fun _ => rfl⟩ ?_
                  · intro w; go_simp; try rfl
                  refine wpAnyIn_ready (rs := [2, 9]) (by kernel_rfl) (by simp) ?_
                  refine AllReadyIn.cons rfl (fun K hK => ?_) ?_
                  · go_simp
                    refine hK _ _ ?_
                    clear hK K
                    refine wpAnyIn_ready (rs := [9]) (by kernel_rfl) (by simp) ?_
                    refine AllReadyIn.cons rfl (fun K hK => ?_) ?_
                    · go_simp
                      refine hK _ _ ?_
                      clear hK K
                      refine wpAnyIn_take (i := 10) (v := .pointer (some ⟨Gw, p, none⟩)) rfl rfl (by kernel_rfl) (by kernel_rfl) (by kernel_rfl) (fun _ _ _ h => h) ⟨Or.inl ⟨by rfl, ?_⟩, fun _ => rfl⟩ ?_
                      · intro w; go_simp; try rfl
                      refine wpAnyIn_ready (rs := [11]) (by kernel_rfl) (by simp) ?_
                      refine AllReadyIn.cons rfl (fun K hK => ?_) ?_
                      · go_simp
                        refine hK _ _ ?_
                        clear hK K
                        refine wpAnyIn_done (by kernel_rfl) ?_ _
                        (gi_wp2; exact HFIN2.out)
                      exact AllReadyIn.nil
                    exact AllReadyIn.nil
                  refine AllReadyIn.cons rfl (fun K hK => ?_) ?_
                  · go_simp
                    refine hK _ _ ?_
                    clear hK K
                    refine wpAnyIn_ready (rs := [2]) (by kernel_rfl) (by simp) ?_
                    refine AllReadyIn.cons rfl (fun K hK => ?_) ?_
                    · go_simp
                      refine hK _ _ ?_
                      clear hK K
                      refine wpAnyIn_take (i := 10) (v := .pointer (some ⟨Gw, p, none⟩)) rfl rfl (by kernel_rfl) (by kernel_rfl) (by kernel_rfl) (fun _ _ _ h => h) ⟨Or.inl ⟨by rfl, ?_⟩, fun _ => rfl⟩ ?_
                      · intro w; go_simp; try rfl
                      refine wpAnyIn_ready (rs := [11]) (by kernel_rfl) (by simp) ?_
                      refine AllReadyIn.cons rfl (fun K hK => ?_) ?_
                      · go_simp
                        refine hK _ _ ?_
                        clear hK K
                        refine wpAnyIn_done (by kernel_rfl) ?_ _
                        (gi_wp2; exact HFIN2.out)
                      exact AllReadyIn.nil
                    exact AllReadyIn.nil
                  exact AllReadyIn.nil
                exact AllReadyIn.nil
              refine AllReadyIn.cons rfl (fun K hK => ?_) ?_
              · go_simp
                refine hK _ _ ?_
                clear hK K
                refine wpAnyIn_ready (rs := [0, 5]) (by kernel_rfl) (by simp) ?_
                refine AllReadyIn.cons rfl (fun K hK => ?_) ?_
                · go_simp
                  refine hK _ _ ?_
                  clear hK K
                  refine wpAnyIn_ready (rs := [5]) (by kernel_rfl) (by simp) ?_
                  refine AllReadyIn.cons rfl (fun K hK => ?_) ?_
                  · go_simp
                    refine hK _ _ ?_
                    clear hK K
                    refine wpAnyIn_take (i := 8) (v := .pointer (some ⟨Gt, p, none⟩)) rfl rfl (by kernel_rfl) (by kernel_rfl) (by kernel_rfl) (fun _ _ _ h => h) ⟨Or.inl ⟨by rfl, ?_⟩, fun _ => rfl⟩ ?_
                    · intro w; go_simp; try rfl
                    refine wpAnyIn_ready (rs := [9]) (by kernel_rfl) (by simp) ?_
                    refine AllReadyIn.cons rfl (fun K hK => ?_) ?_
                    · go_simp
                      refine hK _ _ ?_
                      clear hK K
                      refine wpAnyIn_take (i := 10) (v := .pointer (some ⟨Gw, p, none⟩)) rfl rfl (by kernel_rfl) (by kernel_rfl) (by kernel_rfl) (fun _ _ _ h => h) ⟨Or.inl ⟨by rfl, ?_⟩, fun _ => rfl⟩ ?_
                      · intro w; go_simp; try rfl
                      refine wpAnyIn_ready (rs := [11]) (by kernel_rfl) (by simp) ?_
                      refine AllReadyIn.cons rfl (fun K hK => ?_) ?_
                      · go_simp
                        refine hK _ _ ?_
                        clear hK K
                        refine wpAnyIn_done (by kernel_rfl) ?_ _
                        (gi_wp2; exact HFIN2.out)
                      exact AllReadyIn.nil
                    exact AllReadyIn.nil
                  exact AllReadyIn.nil
                refine AllReadyIn.cons rfl (fun K hK => ?_) ?_
                · go_simp
                  refine hK _ _ ?_
                  clear hK K
                  refine wpAnyIn_ready (rs := [0]) (by kernel_rfl) (by simp) ?_
                  refine AllReadyIn.cons rfl (fun K hK => ?_) ?_
                  · go_simp
                    refine hK _ _ ?_
                    clear hK K
                    refine wpAnyIn_take (i := 8) (v := .pointer (some ⟨Gt, p, none⟩)) rfl rfl (by kernel_rfl) (by kernel_rfl) (by kernel_rfl) (fun _ _ _ h => h) ⟨Or.inl ⟨by rfl, ?_⟩, fun _ => rfl⟩ ?_
                    · intro w; go_simp; try rfl
                    refine wpAnyIn_ready (rs := [9]) (by kernel_rfl) (by simp) ?_
                    refine AllReadyIn.cons rfl (fun K hK => ?_) ?_
                    · go_simp
                      refine hK _ _ ?_
                      clear hK K
                      refine wpAnyIn_take (i := 10) (v := .pointer (some ⟨Gw, p, none⟩)) rfl rfl (by kernel_rfl) (by kernel_rfl) (by kernel_rfl) (fun _ _ _ h => h) ⟨Or.inl ⟨by rfl, ?_⟩, fun _ => rfl⟩ ?_
                      · intro w; go_simp; try rfl
                      refine wpAnyIn_ready (rs := [11]) (by kernel_rfl) (by simp) ?_
                      refine AllReadyIn.cons rfl (fun K hK => ?_) ?_
                      · go_simp
                        refine hK _ _ ?_
                        clear hK K
                        refine wpAnyIn_done (by kernel_rfl) ?_ _
                        (gi_wp2; exact HFIN2.out)
                      exact AllReadyIn.nil
                    exact AllReadyIn.nil
                  exact AllReadyIn.nil
                exact AllReadyIn.nil
              refine AllReadyIn.cons rfl (fun K hK => ?_) ?_
              · go_simp
                refine hK _ _ ?_
                clear hK K
                refine wpAnyIn_ready (rs := [0, 2]) (by kernel_rfl) (by simp) ?_
                refine AllReadyIn.cons rfl (fun K hK => ?_) ?_
                · go_simp
                  refine hK _ _ ?_
                  clear hK K
                  refine wpAnyIn_take (i := 8) (v := .pointer (some ⟨Gt, p, none⟩)) rfl rfl (by kernel_rfl) (by kernel_rfl) (by kernel_rfl) (fun _ _ _ h => h) ⟨Or.inl ⟨by rfl, ?_⟩, fun _ => rfl⟩ ?_
                  · intro w; go_simp; try rfl
                  refine wpAnyIn_ready (rs := [2, 9]) (by kernel_rfl) (by simp) ?_
                  refine AllReadyIn.cons rfl (fun K hK => ?_) ?_
                  · go_simp
                    refine hK _ _ ?_
                    clear hK K
                    refine wpAnyIn_ready (rs := [9]) (by kernel_rfl) (by simp) ?_
                    refine AllReadyIn.cons rfl (fun K hK => ?_) ?_
                    · go_simp
                      refine hK _ _ ?_
                      clear hK K
                      refine wpAnyIn_take (i := 10) (v := .pointer (some ⟨Gw, p, none⟩)) rfl rfl (by kernel_rfl) (by kernel_rfl) (by kernel_rfl) (fun _ _ _ h => h) ⟨Or.inl ⟨by rfl, ?_⟩, fun _ => rfl⟩ ?_
                      · intro w; go_simp; try rfl
                      refine wpAnyIn_ready (rs := [11]) (by kernel_rfl) (by simp) ?_
                      refine AllReadyIn.cons rfl (fun K hK => ?_) ?_
                      · go_simp
                        refine hK _ _ ?_
                        clear hK K
                        refine wpAnyIn_done (by kernel_rfl) ?_ _
                        (gi_wp2; exact HFIN2.out)
                      exact AllReadyIn.nil
                    exact AllReadyIn.nil
                  refine AllReadyIn.cons rfl (fun K hK => ?_) ?_
                  · go_simp
                    refine hK _ _ ?_
                    clear hK K
                    refine wpAnyIn_ready (rs := [2]) (by kernel_rfl) (by simp) ?_
                    refine AllReadyIn.cons rfl (fun K hK => ?_) ?_
                    · go_simp
                      refine hK _ _ ?_
                      clear hK K
                      refine wpAnyIn_take (i := 10) (v := .pointer (some ⟨Gw, p, none⟩)) rfl rfl (by kernel_rfl) (by kernel_rfl) (by kernel_rfl) (fun _ _ _ h => h) ⟨Or.inl ⟨by rfl, ?_⟩, fun _ => rfl⟩ ?_
                      · intro w; go_simp; try rfl
                      refine wpAnyIn_ready (rs := [11]) (by kernel_rfl) (by simp) ?_
                      refine AllReadyIn.cons rfl (fun K hK => ?_) ?_
                      · go_simp
                        refine hK _ _ ?_
                        clear hK K
                        refine wpAnyIn_done (by kernel_rfl) ?_ _
                        (gi_wp2; exact HFIN2.out)
                      exact AllReadyIn.nil
                    exact AllReadyIn.nil
                  exact AllReadyIn.nil
                refine AllReadyIn.cons rfl (fun K hK => ?_) ?_
                · go_simp
                  refine hK _ _ ?_
                  clear hK K
                  refine wpAnyIn_ready (rs := [0]) (by kernel_rfl) (by simp) ?_
                  refine AllReadyIn.cons rfl (fun K hK => ?_) ?_
                  · go_simp
                    refine hK _ _ ?_
                    clear hK K
                    refine wpAnyIn_take (i := 8) (v := .pointer (some ⟨Gt, p, none⟩)) rfl rfl (by kernel_rfl) (by kernel_rfl) (by kernel_rfl) (fun _ _ _ h => h) ⟨Or.inl ⟨by rfl, ?_⟩, fun _ => rfl⟩ ?_
                    · intro w; go_simp; try rfl
                    refine wpAnyIn_ready (rs := [9]) (by kernel_rfl) (by simp) ?_
                    refine AllReadyIn.cons rfl (fun K hK => ?_) ?_
                    · go_simp
                      refine hK _ _ ?_
                      clear hK K
                      refine wpAnyIn_take (i := 10) (v := .pointer (some ⟨Gw, p, none⟩)) rfl rfl (by kernel_rfl) (by kernel_rfl) (by kernel_rfl) (fun _ _ _ h => h) ⟨Or.inl ⟨by rfl, ?_⟩, fun _ => rfl⟩ ?_
                      · intro w; go_simp; try rfl
                      refine wpAnyIn_ready (rs := [11]) (by kernel_rfl) (by simp) ?_
                      refine AllReadyIn.cons rfl (fun K hK => ?_) ?_
                      · go_simp
                        refine hK _ _ ?_
                        clear hK K
                        refine wpAnyIn_done (by kernel_rfl) ?_ _
                        (gi_wp2; exact HFIN2.out)
                      exact AllReadyIn.nil
                    exact AllReadyIn.nil
                  exact AllReadyIn.nil
                exact AllReadyIn.nil
              exact AllReadyIn.nil
            exact AllReadyIn.nil
          case done2 =>
            rintro D2 Z hD2 ⟨nx, tl, wt, h1, h2, h3, h4, h5⟩ hK2
            rw [upto_len] at h4
            have hk : ∀ k o, wE.heap[k]? = some o → k < wr.heap.size → Z.heap[k]? = some o := fun k o h hl => h5.heap h (fun ht => by have := (hT2 _ ht).1; omega)
            have z5 := hk _ _ ((bWE.block _ (lt_of_heap H3.out)).trans H3.out) (lt_of_heap H3.out)
            have z0 := hk _ _ ((bWE.block _ (lt_of_heap H4.out)).trans H4.out) (lt_of_heap H4.out)
            have zD := hk _ _ ((bWE.block _ (lt_of_heap H5.out)).trans H5.out) (lt_of_heap H5.out)
            have zs : Arr Z (w.heap.size + 1) l := hk _ _ ((bWE.block _ (lt_of_heap HA.out)).trans HA.out) (lt_of_heap HA.out)
            have z9 := h5.heap e3 (fun ht => (hT2 _ ht).2.2.1 rfl)
            have z10 := h5.heap e4 (fun ht => (hT2 _ ht).2.2.2.1 rfl)
            have c5' := cell_of z5 (i := 0) rfl
            have c9 := cell_of z9 (i := 0) rfl
            have c10 := cell_of z10 (i := 0) rfl
            have y0 := cell_of z0 (i := 0) rfl
            have y1 := cell_of z0 (i := 1) rfl
            have y2 := cell_of z0 (i := 2) rfl
            have y3 := cell_of z0 (i := 3) rfl
            have v0 := free_of z0 0
            have v1 := free_of z0 1
            have v2 := free_of z0 2
            have v3 := free_of z0 3
            have HZ0 := hide z0; have HZD := hide zD; have HZS := hide zs; have HK2 := hide hK2; have H22 := hide h2; have H33 := hide h3; have H44 := hide h4; have H55 := hide h5
            have HT2 := hide hT2; have HBW := hide bWw
            clear z5 z0 zD zs z9 z10 hk hK2 h1 h2 h3 h4 h5 hseq
            have hT3 := HT2.out Gt (.inr (.inl rfl))
            have hT4 := HT2.out Gw (.inr (.inr rfl))
            have hDw2 : D < wr.heap.size := lt_of_heap H5.out
            have hEw : wr.heap.size ≤ wE.heap.size := bWE.size
            have hS9 := H2.out
            have HFN := hide (arr_finish (F := F) (T := T) (W := W) hn hm HZ0.out HZD.out HK2.out HZS.out H22.out H33.out hS9 H44.out (Chg.below HBW.out H55.out (fun i hi => by have := (HT2.out i hi).1; omega) HBW.out.size) hDw (by omega) (by omega) (by omega) (by omega))
            clear hT3 hT4 hS9
            gi_wp2
            refine ⟨by simp, .inl ⟨_, _, rfl, run_takeDeferred HFN.out.1, ?_⟩⟩
            refine ⟨by simp, .inl ⟨_, _, rfl, run_takeDeferred HFN.out.2.1, ?_⟩⟩
            exact ⟨_, results_cell_row Try.results61 _ _ w.heap.size 25 _ (0, 0) _ rfl HFN.out.2.2.1 Try.underlying25 rfl (by kernel_rfl), HFN.out.2.2.2⟩
end Go.Proofs.Ytmagigmcbegmiaa
