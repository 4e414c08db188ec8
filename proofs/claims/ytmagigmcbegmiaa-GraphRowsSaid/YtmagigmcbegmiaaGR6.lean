/- GraphRows: the walk. -/
import Derived.Test.YtmagigmcbegmiaaGR5
import Derived.Test.YtmagigmcbegmiaaGV
import Derived.Test.YtmagigmcbegmiaaGT2
import Derived.Deep.Cut
import Derived.BigQuiet
namespace Go.Proofs.Ytmagigmcbegmiaa
open Go Go.RowKit Go.Lib Go.Shelf
set_option linter.unusedVariables false
set_option linter.unusedSimpArgs false
attribute [local go_sem] Oper.semAt_some
theorem EAt.setBox {x : World} {lv : Value} {l : List Ed3} {b : Nat} {t : TypeId} {u u' : Value} (h : EAt x lv l) (hb : Boxed x b t u) : EAt (x.setCell ⟨b, 0, none⟩ u') lv l := by
  obtain ⟨ao, c, rfl, h1, h2, h3⟩ := h
  refine ⟨ao, c, rfl, h1, h2, fun i hi => ?_⟩
  obtain ⟨g, o, e, c0, c1, c2⟩ := h3 i hi
  have hne : g ≠ b := by
    intro e2
    subst e2
    unfold World.cell? at c1
    rw [show x.heap[g]? = _ from hb] at c1
    simp at c1
  exact ⟨g, o, e, (World.cell?_of_block (Below.heap_setCell _ _ _ _ hne)).trans c0, (World.cell?_of_block (Below.heap_setCell _ _ _ _ hne)).trans c1, (World.cell?_of_block (Below.heap_setCell _ _ _ _ hne)).trans c2⟩
/-- The law's memory: v's box, the graph's box; what built has made. -/
structure LR (w w1 x : World) (n : Nat) (va vb vc : Value) (u : Int) (lv : Value) (l : List Ed3) : Prop where
  bv : Boxed x w.heap.size 3 (.int .i64 u)
  bg : x.heap[w1.heap.size]? = some (.cells #[.int .i64 n, va, vb, vc] 25 (0, 0))
  kp : ∀ k, w.heap.size + 1 ≤ k → k < w1.heap.size → x.heap[k]? = w1.heap[k]?
  le : EAt x lv l
  bel : Below w.heap.size w x
  lt : w.heap.size < w1.heap.size
theorem LR.sz {w w1 x : World} {n : Nat} {va vb vc : Value} {u : Int} {lv : Value} {l : List Ed3} (h : LR w w1 x n va vb vc u lv l) : w1.heap.size < x.heap.size := lt_of_heap h.bg
theorem LR.below {w w1 x y : World} {n : Nat} {va vb vc : Value} {u : Int} {lv : Value} {l : List Ed3} (h : LR w w1 x n va vb vc u lv l) (hb : Below x.heap.size x y) : LR w w1 y n va vb vc u lv l :=
  ⟨up_bel hb h.bv, up_bel hb h.bg, fun k h1 h2 => (hb.block k (by have := h.sz; omega)).trans (h.kp k h1 h2), h.le.below hb, below_on h.bel hb, h.lt⟩
theorem LR.set {w w1 x : World} {n : Nat} {va vb vc : Value} {u : Int} {lv : Value} {l : List Ed3} (h : LR w w1 x n va vb vc u lv l) (u' : Int) : LR w w1 (x.setCell ⟨w.heap.size, 0, none⟩ (.int .i64 u')) n va vb vc u' lv l :=
  ⟨h.bv.set _, (Below.heap_setCell _ _ _ _ (by show w1.heap.size ≠ w.heap.size; have := h.lt; omega)).trans h.bg, fun k h1 h2 => (Below.heap_setCell _ _ _ _ (by show k ≠ w.heap.size; omega)).trans (h.kp k h1 h2), h.le.setBox h.bv, h.bel.setCell (p := ⟨w.heap.size, 0, none⟩) (Nat.le_refl _) _, h.lt⟩
theorem LR.gi {w w1 x : World} {n m : Nat} {va vb vc : Value} {u : Int} {lv : Value} {l l2 : List Ed3} {st tl wt nx : List Int} {B : Nat} (h : LR w w1 x n va vb vc u lv l) (hg : GMade n m l2 va vb vc st tl wt nx B w1) (hB : B = w.heap.size + 1) : GIs x n va vb vc st tl wt :=
  hg.gi x (by have := h.sz; omega) (fun k h1 h2 => h.kp k (by omega) h2)
theorem EAt.front {x : World} {ao : Option Addr} {c k : Nat} {l : List Ed3} (h : EAt x (.slice ao k c) l) (mo : Nat) (hm : mo ≤ l.length) : EAt x (.slice ao (l.take mo).length c) (l.take mo) := by
  obtain ⟨ao', c', he, h1, h2, h3⟩ := h
  simp only [Value.slice.injEq] at he
  obtain ⟨rfl, _, rfl⟩ := he
  refine ⟨ao, c, rfl, by simp; omega, h2, fun i hi => ?_⟩
  have hi2 : i < mo := by simp at hi; omega
  obtain ⟨g, o, e, c0, c1, c2⟩ := h3 i (by omega)
  have e2 : eAt (l.take mo) i = eAt l i := by simp [eAt, List.getElem?_take_of_lt hi2]
  rw [e2]
  exact ⟨g, o, e, c0, c1, c2⟩
/-- A range over Row's function, its edges not looked at, never left early. -/
theorem rf_out {body : Code} {Q : Exit → Act → World → Prop} {a : Act} {w : World} {g : Operand} {ps : Array Tmp} {gf : Nat} {lb : Array Value} {B n : Nat} {S : List (Int × Int)} (h1 : 1 ≤ n) (hg : a.eval g = .func (.func gf) #[] lb) (hsq : SeqOf B w gf lb S) (hps : ps.size = 2)
    (I : List (Int × Int) → World → Prop) (hI : OwnFrom w.heap.size I) (h0 : I [] w)
    (hbody : ∀ (l : Nat) (pre : List (Int × Int)) (x : Int × Int) (W : World), w.heap.size ≤ l → (∃ r, W.heap[l]? = some (.loop r)) → w.heap.size ≤ W.heap.size → I pre W → pre.length < S.length → body.wpIn (Fence.wide.inRound l) (n - 1 - 1) Try.prog (fun e _ W' => e = .normal ∧ KeepsFrom w.heap.size W W' ∧ KeepR B w.heap.size W W' ∧ I (pre ++ [x]) W') { tmps := (ps.zip (encR x)).foldl (fun t (p, v) => t.setIfInBounds p v) a.tmps, defers := [] } W)
    (hdone : ∀ (D : Nat) (W : World), w.heap.size ≤ D → I S W → W.heap[D]? = some (.deferred (some [])) → Q .normal { a with defers := { target := .collected D, args := #[] } :: a.defers } W) :
    (Code.rangeFunc g ps .skip body).wpIn Fence.wide n Try.prog Q a w := by
  refine wpIn_rangeFunc_ownH rfl h1 hg trivial hsq.1 (hsq.2 _) (fun h k => keepR_t h k) (keepR_b (Nat.le_refl _)) (Below.refl _ _) (fun _ => by rw [hps]; rfl) I (fun _ _ _ => False) hI (fun _ _ _ _ _ h => h.elim) h0
    (fun x a' _ => a' = { tmps := (ps.zip (encR x)).foldl (fun t (p, v) => t.setIfInBounds p v) a.tmps, defers := [] }) (fun _ _ _ _ _ _ h _ _ => h) ?_ ?_ ?_ ?_
  · intro l pre x W K hi hK
    generalize hA : ({ tmps := (ps.zip (encR x)).foldl (fun t (p, v) => t.setIfInBounds p v) a.tmps, defers := [] } : Act) = A at hK ⊢
    clear hA
    gi_wp2
    exact hK _ _ (KeepsFrom.refl _ _) (KeepR.refl _ _ _) hi rfl
  · rintro l pre x a' W hl hr hi rfl hlen
    have hsz : w.heap.size ≤ W.heap.size := by obtain ⟨r, hr⟩ := hr; have := lt_of_heap hr; omega
    refine wpIn_mono (hbody l pre x W hl hr hsz hi hlen) ?_
    rintro e a3 W3 ⟨rfl, h1, h2, h3⟩
    exact ⟨h1, h2, h3⟩
  · rintro D xs W hD rfl hi hK
    exact hdone D W hD hi hK
  · rintro D c pre W hD _ h
    exact h.elim
theorem rf_inn {body : Code} {Q : Exit → Act → World → Prop} {a : Act} {w : World} {g : Operand} {ps : Array Tmp} {gf : Nat} {lb : Array Value} {B n l₀ : Nat} {r₀ : Loop} {S : List (Int × Int)} (h1 : 1 ≤ n) (hl₀ : w.heap[l₀]? = some (.loop r₀)) (hg : a.eval g = .func (.func gf) #[] lb) (hsq : SeqOf B w gf lb S) (hps : ps.size = 2)
    (I : List (Int × Int) → World → Prop) (hI : OwnFrom w.heap.size I) (h0 : I [] w)
    (hbody : ∀ (l : Nat) (pre : List (Int × Int)) (x : Int × Int) (W : World), I pre W → pre.length < S.length → body.wpIn ((Fence.wide.inRound l₀).inRound l) (n - 1 - 1) Try.prog (fun e _ W' => e = .normal ∧ KeepsFrom w.heap.size W W' ∧ KeepR B w.heap.size W W' ∧ I (pre ++ [x]) W') { tmps := (ps.zip (encR x)).foldl (fun t (p, v) => t.setIfInBounds p v) a.tmps, defers := [] } W)
    (hdone : ∀ (W : World), I S W → Q .normal a W) :
    (Code.rangeFunc g ps .skip body).wpIn (Fence.wide.inRound l₀) n Try.prog Q a w := by
  refine wpIn_rangeFunc_ownN (F := Fence.wide.inRound l₀) (l₀ := l₀) (r₀ := r₀) rfl hl₀ h1 hg trivial hsq.1 ((hsq.2 _).inRound l₀) (fun h k => keepR_t h k) (keepR_b (Nat.le_refl _)) (Below.refl _ _) (fun _ => by rw [hps]; rfl) I (fun _ _ _ => False) hI (fun _ _ _ _ _ h => h.elim) h0
    (fun x a' _ => a' = { tmps := (ps.zip (encR x)).foldl (fun t (p, v) => t.setIfInBounds p v) a.tmps, defers := [] }) (fun _ _ _ _ _ _ h _ _ => h) ?_ ?_ ?_ ?_
  · intro l pre x W K hi hK
    generalize hA : ({ tmps := (ps.zip (encR x)).foldl (fun t (p, v) => t.setIfInBounds p v) a.tmps, defers := [] } : Act) = A at hK ⊢
    clear hA
    gi_wp2
    exact hK _ _ (KeepsFrom.refl _ _) (KeepR.refl _ _ _) hi rfl
  · rintro l pre x a' W hl hr hi rfl hlen
    refine wpIn_mono (hbody l pre x W hi hlen) ?_
    rintro e a3 W3 ⟨rfl, h1, h2, h3⟩
    exact ⟨h1, h2, h3⟩
  · rintro xs W rfl hi
    exact hdone W hi
  · rintro c pre W _ h
    exact h.elim
theorem keepsFrom_below {E : Nat} {X Y : World} (h : Below X.heap.size X Y) : KeepsFrom E X Y := ⟨h.size, fun k o _ hk _ => (h.block k (lt_of_heap hk)).trans hk⟩
theorem keepR_below {B E : Nat} {X Y : World} (h : Below X.heap.size X Y) (hE : E ≤ X.heap.size) : KeepR B E X Y := ⟨h.size, fun k _ hk => h.block k (by omega)⟩
theorem keepsFrom_set {E b : Nat} {Z : World} {t : TypeId} {u v : Value} (hb : Boxed Z b t u) : KeepsFrom E Z (Z.setCell ⟨b, 0, none⟩ v) := ⟨by simp [World.setCell], fun k o _ hk hc => by
  refine (Below.heap_setCell _ _ _ _ ?_).trans hk
  intro e
  have e2 : k = b := e
  subst e2
  rw [show Z.heap[k]? = _ from hb] at hk
  cases hk
  cases hc⟩
/-- How many pairs so far. -/
structure PR (w8 Z : World) (t : Nat) : Prop where
  bx : Boxed Z w8.heap.size 3 (.int .i64 t)
  bel : Below w8.heap.size w8 Z
theorem PR.kept {w8 X Y : World} {t : Nat} {row : Option Nat} {E : Nat} (h : PR w8 X t) (hE : w8.heap.size ≤ E) (hg : X.grownBy Y row) (hr : ∀ r, row = some r → E ≤ r ∧ ∃ o : Obj, X.heap[r]? = some o ∧ o.isCells = false) : PR w8 Y t :=
  ⟨box_kept h.bx hg (fun r e => (hr r e).2), h.bel.grown hg h.bel.size (fun k e => Nat.le_trans hE (hr k e).1)⟩
theorem PR.below {w8 X Y : World} {t : Nat} (h : PR w8 X t) (hb : Below X.heap.size X Y) : PR w8 Y t := ⟨up_bel hb h.bx, below_on h.bel hb⟩
theorem PR.set {w8 X : World} {t : Nat} (h : PR w8 X t) (t' : Nat) : PR w8 (X.setCell ⟨w8.heap.size, 0, none⟩ (.int .i64 t')) t' := ⟨h.bx.set _, h.bel.setCell (p := ⟨w8.heap.size, 0, none⟩) (Nat.le_refl _) _⟩
theorem keepR_set {B E b : Nat} {X : World} {u : Value} (hb : b < B) : KeepR B E X (X.setCell ⟨b, 0, none⟩ u) := ⟨by simp [World.setCell], fun k h1 _ => Below.heap_setCell _ _ _ _ (by show k ≠ b; omega)⟩
theorem ownFrom_keepR {β : Type} {B E M : Nat} {W : World} (hE : E ≤ M) (hW : E ≤ W.heap.size) : OwnFrom M (fun (_ : β) Z => KeepR B E W Z) := fun _ X Y row h hg hr =>
  ⟨Nat.le_trans h.1 hg.size, fun k h1 h2 => (hg.block k (by have := h.1; omega) (fun e => by have := (hr k e.symm).1; omega)).trans (h.2 k h1 h2)⟩
/-- What the law keeps up to its end. -/
structure FNm (w w1 w8 V : World) (n t D bb : Nat) (va vb vc : Value) (u : Int) (lv : Value) (l : List Ed3) (fv wv : Value) (few : List Ed3) : Prop where
  lr : LR w w1 V n va vb vc u lv l
  pr : PR w8 V t
  dk : V.heap[D]? = some (.deferred (some []))
  bd : V.heap[bb]? = some (.cells #[.int .i64 n, va, vb, .slice none 0 0] 25 (0, 0))
  fe : EAt V fv few
  we : EAt V wv few
theorem FNm.below {w w1 w8 V V' : World} {n t D bb : Nat} {va vb vc : Value} {u : Int} {lv : Value} {l : List Ed3} {fv wv : Value} {few : List Ed3} (h : FNm w w1 w8 V n t D bb va vb vc u lv l fv wv few) (hb : Below V.heap.size V V') : FNm w w1 w8 V' n t D bb va vb vc u lv l fv wv few :=
  ⟨h.lr.below hb, h.pr.below hb, up_bel hb h.dk, up_bel hb h.bd, h.fe.below hb, h.we.below hb⟩
theorem nil_row (k : IntKind) (w : World) : RowAt k w (.slice none 0 0) [] := ⟨none, 0, rfl, Nat.le_refl _, by omega, fun _ => rfl, fun a ha => by cases ha⟩
theorem chk_bad (N : Int) (st tl : List Int) (h : tl.length ≠ 0) : (chk N st tl []).1 ≠ 0 := by
  unfold chk
  by_cases hf : Fits N tl.length
  · rw [if_pos hf, if_neg (by intro e; have := e.2; simp at this; omega)]; decide
  · rw [if_neg hf]; decide
theorem chk_zero : (chk 0 [] [] []).1 ≠ 0 := by decide
set_option maxRecDepth 100000 in
set_option maxHeartbeats 2000000 in
theorem rows_law (nI : Int) (ev : Value) (es : List Ed3) (vI mostI : Int) (w : World) (hE : EAt w ev es) (hnn : ∀ i, i < es.length → 0 ≤ (eAt es i).2.2) :
    Calls Try.prog 6 #[.int .i64 nI, ev, .int .i64 vI, .int .i64 mostI] w fun e w' => e = .returned (.bool true) ∧ Below w.heap.size w w' := by
  have hb0 : Below w.heap.size w (w.alloc (.cells #[.int .i64 vI] 3)) := below_alloc (Below.refl _ _) _
  obtain ⟨n, hn1, hn2, hbu⟩ := built_any nI ev es (w.alloc (.cells #[.int .i64 vI] 3)) (hE.below hb0) hnn
  obtain ⟨va0, vc0, rfl, hrt⟩ := id hE
  clear hrt
  have HBU := hide hbu
  obtain ⟨m, hm⟩ : ∃ m, m = min es.length 300 := ⟨_, rfl⟩
  rw [← hm] at HBU
  have HM3 : Hid (m ≤ 300) := by have : m ≤ 300 := by omega
                                 exact this
  have HTK := hide (prL_takes es m hn1 hn2 HM3.out (fun j hj => hnn j (by omega)))
  have HN1 := hide hn1
  have HN2 := hide hn2
  clear hE hnn hbu hm hn1 hn2 hb0
  refine (callsIn_wide (n := 8)).1 ?_
  refine callsIn_of_wp_marks Try.func6 rfl trivial ?_ rfl
  refine wpIn_wide.2 ?_
  simp only [Try.ntmps6, List.size_toArray, List.length_cons, List.length_nil, Nat.reduceAdd, Nat.reduceSub, Array.replicate_succ, Array.replicate_zero, List.push_toArray, List.append_toArray, List.nil_append, List.cons_append]
  go_upto_region 4 with (first
    | (go_at_call 24; refine HBU.out.mono ?_; rintro e w1 ⟨ao, ca, bo, cb, co, cc, lo, lc, st, tl, wt, nx, rfl, hgm, hea, hb1⟩; have HGM := hide hgm; have HEL := hide hea; have HB1 := hide hb1; clear hgm hea hb1)
    | (go_at_call 25; refine (live_any _).mono ?_; rintro e w2 ⟨rfl, hb2⟩; have HB2 := hide hb2; clear hb2)
    | fail)
  have hsX : (w.alloc (.cells #[.int .i64 vI] 3)).heap.size = w.heap.size + 1 := by simp
  have hbx0 : Boxed (w.alloc (.cells #[.int .i64 vI] 3)) w.heap.size 3 (.int .i64 vI) := heap_n0 _ _
  have hlr1 : LR w w1 (w1.alloc (.cells #[.int .i64 n, .slice ao (n + 1) ca, .slice bo m cb, .slice co m cc] 25)) n (.slice ao (n + 1) ca) (.slice bo m cb) (.slice co m cc) vI (.slice lo m lc) (prL n es m) :=
    ⟨up_alloc _ (up_bel HB1.out hbx0), heap_n0 _ _, fun k h1 h2 => Below.heap_alloc _ _ _ h2, HEL.out.below (below_alloc (Below.refl _ _) _), below_alloc (below_on (below_alloc (Below.refl _ _) _) HB1.out) _, by have := HB1.out.size; omega⟩
  have HL2 := hide (hlr1.below HB2.out)
  clear hlr1 hbx0 HB2 HEL HBU HB1
  have HSX := hide hsX
  have htl := HGM.out.la.tlen
  have hwl := HGM.out.la.wlen
  have hsl := HGM.out.gd.s_len
  have HRG := hide (fun (x : World) (u : Int) (h : LR w w1 x n (.slice ao (n + 1) ca) (.slice bo m cb) (.slice co m cc) u (.slice lo m lc) (prL n es m)) => h.gi HGM.out HSX.out)
  have HRN := hide (fun (x : World) (u : Int) (h : LR w w1 x n (.slice ao (n + 1) ca) (.slice bo m cb) (.slice co m cc) u (.slice lo m lc) (prL n es m)) (hu : ¬ IsV n u) => row28_none n (n + 1) m m ao bo co ca cb cc st tl wt u x (HRG.out x u h) (by have := HN2.out; omega) (by have := HM3.out; omega) (by have := HM3.out; omega) (.inr hu))
  have HRY := hide (fun (x : World) (u : Nat) (h : LR w w1 x n (.slice ao (n + 1) ca) (.slice bo m cb) (.slice co m cc) u (.slice lo m lc) (prL n es m)) (hu : u < n) => row28_good n m ao bo co ca cb cc st tl wt u x (HRG.out x u h) HGM.out.gd (good_chk' HGM.out.gd) htl.symm hu)
  have HFI := hide (fun (u : Nat) (hu : u < n) => edS_fil HGM.out.su HGM.out.la HTK.out (prL_len n es m) u hu)
  clear htl hwl hsl hsX
  have c6 : w2.cell? ⟨w.heap.size, 0, none⟩ = some (.int .i64 vI) := cell_of HL2.out.bv (i := 0) rfl
  have c90 : w2.cell? ⟨w1.heap.size, 0, none⟩ = some (.int .i64 n) := cell_of HL2.out.bg (i := 0) rfl
  have c91 : w2.cell? ⟨w1.heap.size, 1, none⟩ = some (.slice ao (n + 1) ca) := cell_of HL2.out.bg (i := 1) rfl
  have c92 : w2.cell? ⟨w1.heap.size, 2, none⟩ = some (.slice bo m cb) := cell_of HL2.out.bg (i := 2) rfl
  have c93 : w2.cell? ⟨w1.heap.size, 3, none⟩ = some (.slice co m cc) := cell_of HL2.out.bg (i := 3) rfl
  go_cut [37] from 30 to 37 (fun t wx => t = .bool (decide (vI < 0 ∨ (n : Int) ≤ vI)) ∧ wx = w2)
  case first =>
    by_cases h0 : vI < 0
    · go_wp2_with fail
      go_meet
      case rel => exact ⟨congrArg Value.bool (decide_eq_true (p := vI < 0 ∨ (n : Int) ≤ vI) (by omega)).symm, rfl⟩
    · by_cases h1 : (n : Int) ≤ vI
      · go_wp2_with fail
        go_meet
        case rel => exact ⟨congrArg Value.bool (decide_eq_true (p := vI < 0 ∨ (n : Int) ≤ vI) (by omega)).symm, rfl⟩
      · go_wp2_with fail
        go_meet
        case rel => exact ⟨congrArg Value.bool (decide_eq_false (p := vI < 0 ∨ (n : Int) ≤ vI) (by omega)).symm, rfl⟩
  case rest =>
  obtain ⟨rfl, rfl⟩ := hcut
  go_upto_if 37 with fail
  go_cut [] from 37 to 52 (fun wx => ∃ u : Nat, u < n ∧ LR w w1 wx n (.slice ao (n + 1) ca) (.slice bo m cb) (.slice co m cc) u (.slice lo m lc) (prL n es m))
  case first =>
    by_cases hbad : vI < 0 ∨ (n : Int) ≤ vI
    · rw [decide_eq_true hbad]
      have hnv : ¬ IsV n vI := by unfold IsV; omega
      have HR := hide (row26_any n ao bo co (n + 1) m m ca cb cc vI 9 [] wc (by simp) (by decide) (fun X hX => HRN.out X vI (HL2.out.below hX) hnv))
      simp only [List.take_nil, List.length_nil] at HR
      have htm := tmod_in vI n (by have := HN1.out; omega)
      have hpr := prs_in vI n (by have := HN1.out; omega)
      have hn0 : ¬ n = 0 := by have := HN1.out; omega
      have hn0i : ¬ (n : Int) = 0 := by omega
      have hn0b : ((n : Int) == 0) = false := by simp [hn0]
      have hw1 : wrap64 (vI.tmod n + n) = vI.tmod n + n := IntWalk.wrap64_in _ (by have := HN2.out; omega)
      have HPR := hide hpr
      have HWW := hide hw1
      clear hbad hnv htm hpr
      go_upto_region 7 with (go_at_call 26; refine HR.out.mono ?_; rintro e w3 ⟨l3, k3, rfl, _, hb3⟩; have HL3 := hide (HL2.out.below hb3); clear hb3)
      clear c6 c90 c91 c92 c93
      have c6 : w3.cell? ⟨w.heap.size, 0, none⟩ = some (.int .i64 vI) := cell_of HL3.out.bv (i := 0) rfl
      have f6 := free_of HL3.out.bv 0
      have c90 : w3.cell? ⟨w1.heap.size, 0, none⟩ = some (.int .i64 n) := cell_of HL3.out.bg (i := 0) rfl
      go_region
      all_goals
        go_wp2_with fail
        go_meet
        case rel => exact ⟨(prs vI n).toNat, by have := HPR.out; omega, by rw [show (((prs vI n).toNat : Nat) : Int) = prs vI n by have := HPR.out; omega]; exact (HL3.out.set (prs vI n)).below (below_drew (Below.refl _ _))⟩
    · rw [decide_eq_false hbad]
      have hve : ((vI.toNat : Nat) : Int) = vI := by omega
      have HVE := hide hve
      have hvn : vI.toNat < n := by omega
      clear hve
      go_wp2_with fail
      go_meet
      case rel => exact ⟨vI.toNat, hvn, by rw [HVE.out]; exact HL2.out⟩
  case rest =>
  obtain ⟨u, hun, hlr⟩ := hcut
  clear c6 c90 c91 c92 c93 HRN
  have HL4 := hide hlr
  clear HL2 hlr
  obtain ⟨S, hS⟩ : ∃ S, S = rowS st tl wt u := ⟨_, rfl⟩
  obtain ⟨L, hL⟩ : ∃ L, L = fil (u : Int) (prL n es m) := ⟨_, rfl⟩
  have hSL : edS u S = L := by rw [hS, hL]; exact HFI.out u hun
  have hSl : S.length = L.length := by rw [← hSL, edS_len]
  have hd : (S.length : Int) = at_ st (u + 1) - at_ st u := by
    rw [hS]; unfold rowS; rw [upto_len]
    have := HGM.out.gd.step u hun
    omega
  have hS3 : S.length ≤ 300 := by
    have h1 := HGM.out.gd.range u (by omega)
    have h2 := HGM.out.gd.range (u + 1) (by omega)
    have h3 := HGM.out.la.tlen
    have := HM3.out
    omega
  have HRW := hide (fun (x : World) (h : LR w w1 x n (.slice ao (n + 1) ca) (.slice bo m cb) (.slice co m cc) u (.slice lo m lc) (prL n es m)) => by have := HRY.out x u h hun; rw [← hS] at this; exact this)
  have HR6 : Hid (∀ (mo : Nat) (x : World), LR w w1 x n (.slice ao (n + 1) ca) (.slice bo m cb) (.slice co m cc) u (.slice lo m lc) (prL n es m) → Calls Try.prog 26 #[.agg #[.int .i64 n, .slice ao (n + 1) ca, .slice bo m cb, .slice co m cc], .int .i64 u, .int .i64 mo] x fun e w' => ∃ lo lc, e = .returned (.slice lo (L.take mo).length lc) ∧ EAt w' (.slice lo (L.take mo).length lc) (L.take mo) ∧ Below x.heap.size x w') := fun mo x h => by
    have h1 := row26_any n ao bo co (n + 1) m m ca cb cc u mo S x (by omega) (by omega) (fun X hX => HRW.out X (h.below hX))
    have e1 : edS u (S.take mo) = L.take mo := by rw [← hSL]; unfold edS; rw [List.map_take]
    have e2 : (S.take mo).length = (L.take mo).length := by rw [← e1, edS_len]
    simp only [Int.toNat_natCast, e1, e2] at h1
    exact h1
  have HOF := hide (fun (x : World) (h : EAt x (.slice lo m lc) (prL n es m)) => of_any (.slice lo m lc) (prL n es m) u x h (by rw [prL_len]; have := HM3.out; omega))
  rw [← hL] at HOF
  have HD := hide hd
  have HS3 := hide hS3
  have HSl := hide hSl
  have hL3 : L.length ≤ 300 := by omega
  have h1000 : L.take 1000 = L := List.take_of_length_le (by omega)
  have HRK := hide (HR6.out 1000)
  rw [h1000] at HRK
  obtain ⟨k, hk⟩ : ∃ k, k = L.length := ⟨_, rfl⟩
  rw [← hk] at HOF HRK hL3
  have HKL := hide hk
  have HUN := hide hun
  clear hS hL hSL hSl hd hS3 h1000 hk HRY HFI
  have c6 : wc.cell? ⟨w.heap.size, 0, none⟩ = some (.int .i64 u) := cell_of HL4.out.bv (i := 0) rfl
  go_upto_region 9 with (go_at_call 27; refine (HOF.out _ HL4.out.le).mono ?_; rintro e w5 ⟨wo, wk, rfl, hew, hb5⟩; have HEW := hide hew; have HL5 := hide (HL4.out.below hb5); clear hew hb5)
  clear c6 HL4 HOF
  have c6 : w5.cell? ⟨w.heap.size, 0, none⟩ = some (.int .i64 u) := cell_of HL5.out.bv (i := 0) rfl
  have c90 : w5.cell? ⟨w1.heap.size, 0, none⟩ = some (.int .i64 n) := cell_of HL5.out.bg (i := 0) rfl
  have c91 : w5.cell? ⟨w1.heap.size, 1, none⟩ = some (.slice ao (n + 1) ca) := cell_of HL5.out.bg (i := 1) rfl
  have c92 : w5.cell? ⟨w1.heap.size, 2, none⟩ = some (.slice bo m cb) := cell_of HL5.out.bg (i := 2) rfl
  have c93 : w5.cell? ⟨w1.heap.size, 3, none⟩ = some (.slice co m cc) := cell_of HL5.out.bg (i := 3) rfl
  go_upto_region 11 with (first
    | (go_at_call 26; refine (HRK.out _ HL5.out).mono ?_; rintro e w6 ⟨l6, k6, rfl, he6, hb6⟩; have HE6 := hide he6; have HW6 := hide (HEW.out.below hb6); have HL6 := hide (HL5.out.below hb6); clear he6 hb6)
    | (go_at_call 23; refine (sameEdges_any _ _ L _ HE6.out HW6.out).mono ?_; rintro e w7 ⟨rfl, hb7⟩; have HW7 := hide (HW6.out.below hb7); have HL7 := hide (HL6.out.below hb7); clear hb7)
    | fail)
  clear c6 c90 c91 c92 c93 HL5 HL6 HE6 HW6 HEW HRK
  go_upto_if 63 with fail
  go_cut [3] from 62 to 63 (fun t wx => t = .int .i64 ((mostI.toNat : Nat) : Int) ∧ w7 = wx)
  case first =>
    by_cases h0 : mostI < 0
    · go_wp2_with fail
      go_meet
      case rel => exact ⟨congrArg (Value.int .i64) (by omega), rfl⟩
    · go_wp2_with fail
      go_meet
      case rel => exact ⟨congrArg (Value.int .i64) (by omega), rfl⟩
  case rest =>
  obtain ⟨rfl, rfl⟩ := hcut
  generalize mostI.toNat = mo
  have c6 : w7.cell? ⟨w.heap.size, 0, none⟩ = some (.int .i64 u) := cell_of HL7.out.bv (i := 0) rfl
  have c90 : w7.cell? ⟨w1.heap.size, 0, none⟩ = some (.int .i64 n) := cell_of HL7.out.bg (i := 0) rfl
  have c91 : w7.cell? ⟨w1.heap.size, 1, none⟩ = some (.slice ao (n + 1) ca) := cell_of HL7.out.bg (i := 1) rfl
  have c92 : w7.cell? ⟨w1.heap.size, 2, none⟩ = some (.slice bo m cb) := cell_of HL7.out.bg (i := 2) rfl
  have c93 : w7.cell? ⟨w1.heap.size, 3, none⟩ = some (.slice co m cc) := cell_of HL7.out.bg (i := 3) rfl
  obtain ⟨q, hq⟩ : ∃ q, q = (L.take mo).length := ⟨_, rfl⟩
  have HR7 := hide (HR6.out mo)
  rw [← hq] at HR7
  have HQ := hide hq
  clear HR6 hq
  go_upto_region 14 with (go_at_call 26; refine (HR7.out _ HL7.out).mono ?_; rintro e w8 ⟨fo, fk, rfl, he8, hb8⟩; have HF8 := hide he8; have HW8 := hide (HW7.out.below hb8); have HL8 := hide (HL7.out.below hb8); clear he8 hb8)
  clear c6 c90 c91 c92 c93 HL7 HW7 HR7
  have hq := HQ.out
  go_upto_if 71 with fail
  go_cut [12] from 68 to 74 (fun t wx => ∃ wo' wk', t = .slice wo' q wk' ∧ EAt wx (.slice wo' q wk') (L.take mo) ∧ w8 = wx)
  case first =>
    have hwc : k ≤ wk := by
      obtain ⟨_, c', he, h1, _⟩ := HW8.out
      simp only [Value.slice.injEq] at he
      have := HKL.out
      omega
    by_cases h0 : mo < k
    · have hq2 : q = mo := by have := HKL.out; simp at hq; omega
      have hmw : (mo : Int) ≤ (wk : Int) := by omega
      have h0i : (mo : Int) < (k : Int) := by omega
      have HEF := hide (HW8.out.front mo (by have := HKL.out; omega))
      rw [← hq] at HEF
      have HQ2 := hide hq2
      clear hq hq2
      go_wp2_with fail
      go_meet
      case rel => exact ⟨wo, wk, by rw [HQ2.out], HEF.out, rfl⟩
    · have e1 : L.take mo = L := List.take_of_length_le (by have := HKL.out; omega)
      have hq2 : q = k := by have := HKL.out; rw [hq, e1]; omega
      have h0i : ¬ (mo : Int) < (k : Int) := by omega
      have HE1 := hide e1
      have HQ2 := hide hq2
      clear hq e1 hq2
      go_wp2_with fail
      go_meet
      case rel => exact ⟨wo, wk, by rw [HQ2.out], by rw [HQ2.out, HE1.out]; exact HW8.out, rfl⟩
  case rest =>
  obtain ⟨wo', wk', rfl, hew, rfl⟩ := hcut
  have HEW := hide hew
  clear HW8 hew hq
  go_upto_region 17 with fail
  have hbx : Boxed (w8.alloc (.cells #[.int .i64 0] 3)) w8.heap.size 3 (.int .i64 0) := heap_n0 _ _
  have hb8 : Below w8.heap.size w8 (w8.alloc (.cells #[.int .i64 0] 3)) := below_alloc (Below.refl _ _) _
  have hs8 : (w8.alloc (.cells #[.int .i64 0] 3)).heap.size = w8.heap.size + 1 := by simp
  have HLp := hide (HL8.out.below hb8)
  have HBp := hide hb8
  have HXp := hide hbx
  have HSp := hide hs8
  have c6 : (w8.alloc (.cells #[.int .i64 0] 3)).cell? ⟨w.heap.size, 0, none⟩ = some (.int .i64 u) := cell_of HLp.out.bv (i := 0) rfl
  have c90 : (w8.alloc (.cells #[.int .i64 0] 3)).cell? ⟨w1.heap.size, 0, none⟩ = some (.int .i64 n) := cell_of HLp.out.bg (i := 0) rfl
  have c91 : (w8.alloc (.cells #[.int .i64 0] 3)).cell? ⟨w1.heap.size, 1, none⟩ = some (.slice ao (n + 1) ca) := cell_of HLp.out.bg (i := 1) rfl
  have c92 : (w8.alloc (.cells #[.int .i64 0] 3)).cell? ⟨w1.heap.size, 2, none⟩ = some (.slice bo m cb) := cell_of HLp.out.bg (i := 2) rfl
  have c93 : (w8.alloc (.cells #[.int .i64 0] 3)).cell? ⟨w1.heap.size, 3, none⟩ = some (.slice co m cc) := cell_of HLp.out.bg (i := 3) rfl
  clear hbx hb8 hs8
  generalize (w8.alloc (.cells #[.int .i64 0] 3)) = Wp at HLp HBp HXp HSp c6 c90 c91 c92 c93 ⊢
  go_wp2_with (go_at_call 28; refine (HRW.out _ HLp.out).mono ?_; rintro e W0 ⟨gf, lb, rfl, hseq, hb0⟩; have HSQ := hide hseq; have HB0 := hide hb0; clear hseq hb0)
  clear c6 c90 c91 c92 c93
  have hp0 : PR w8 W0 0 := PR.below ⟨HXp.out, HBp.out⟩ HB0.out
  have HP0 := hide hp0
  have hsz1 : Wp.heap.size ≤ W0.heap.size := HB0.out.size
  have hsz2 : w8.heap.size < Wp.heap.size := by have := HSp.out; omega
  obtain ⟨s, hs⟩ : ∃ s, s = S.length := ⟨_, rfl⟩
  have hs3 : s ≤ 300 := by have := HS3.out; omega
  have HSS := hide hs
  have HS8 := hide hsz1
  have HS9 := hide hsz2
  clear hs hp0 hsz1 hsz2
  refine (wpIn_wide (n := 8)).1 ?_
  refine rf_out (by decide) rfl HSQ.out rfl (fun pre Z => PR w8 Z (pre.length * s)) (fun pre X Y row h hg hr => h.kept (by have := HS8.out; have := HS9.out; omega) hg hr) (by simpa using HP0.out) ?body ?done
  case body =>
    rintro l pre x W hl ⟨r, hr⟩ hWs hpr hlen
    have HPR := hide hpr
    have HLW := hide (HL8.out.below hpr.bel)
    have HRR := hide hr
    have HLN := hide hlen
    have c6 : W.cell? ⟨w.heap.size, 0, none⟩ = some (.int .i64 u) := cell_of HLW.out.bv (i := 0) rfl
    have c90 : W.cell? ⟨w1.heap.size, 0, none⟩ = some (.int .i64 n) := cell_of HLW.out.bg (i := 0) rfl
    have c91 : W.cell? ⟨w1.heap.size, 1, none⟩ = some (.slice ao (n + 1) ca) := cell_of HLW.out.bg (i := 1) rfl
    have c92 : W.cell? ⟨w1.heap.size, 2, none⟩ = some (.slice bo m cb) := cell_of HLW.out.bg (i := 2) rfl
    have c93 : W.cell? ⟨w1.heap.size, 3, none⟩ = some (.slice co m cc) := cell_of HLW.out.bg (i := 3) rfl
    have HWS := hide hWs
    clear hpr hr hlen hl hWs
    dsimp only [encR]
    gi_wp2_with (refine ⟨trivial, ?_⟩; gi_at_call 28; refine (CallsIn.inRound l (callsIn_wide.2 (HRW.out _ HLW.out))).mono ?_; rintro e W2 ⟨gf2, lb2, rfl, hsq2, hb2⟩; have HSQ2 := hide hsq2; have HB2 := hide hb2; clear hsq2 hb2)
    obtain ⟨t, ht⟩ : ∃ t, t = pre.length * s := ⟨_, rfl⟩
    have ht9 : t ≤ 90000 := by
      rw [ht]
      have h1 : pre.length ≤ 300 := by have := HLN.out; have := HSS.out; omega
      exact Nat.mul_le_mul h1 hs3
    have hte : (pre ++ [x]).length * s = t + s := by rw [ht]; simp [Nat.add_mul]
    rw [← ht] at HPR
    have HTE := hide hte
    have hW2 := HB2.out.size
    have hWs := HWS.out
    have h8 := HS8.out
    have h9 := HS9.out
    have HX1 : Hid (w8.heap.size ≤ W2.heap.size ∧ W0.heap.size ≤ W2.heap.size ∧ W.heap.size ≤ W2.heap.size ∧ w8.heap.size < W.heap.size ∧ w8.heap.size < W0.heap.size) := ⟨by omega, by omega, by omega, by omega, by omega⟩
    have HP2 := hide (HPR.out.below HB2.out)
    clear c6 c90 c91 c92 c93 ht hte hW2 hWs h8 h9
    refine rf_inn (l₀ := l) (r₀ := r) (by decide) (up_bel HB2.out HRR.out) rfl HSQ2.out rfl
      (fun pre2 Z => PR w8 Z (t + pre2.length) ∧ KeepsFrom W0.heap.size W Z ∧ KeepR Wp.heap.size W0.heap.size W Z)
      (fun pre2 X Y row h hg hr => ⟨h.1.kept HX1.out.1 hg hr, ownFrom_keepsFrom (β := Unit) HX1.out.2.2.1 () X Y row h.2.1 hg hr, ownFrom_keepR (β := Unit) HX1.out.2.1 HWS.out () X Y row h.2.2 hg hr⟩)
      ⟨HP2.out, keepsFrom_below HB2.out, keepR_below HB2.out HWS.out⟩ ?body2 ?done2
    case body2 =>
      rintro l2 pre2 x2 Z ⟨hp2, hk2, hr2⟩ hlen2
      have c14 : Z.cell? ⟨w8.heap.size, 0, none⟩ = some (.int .i64 ((t + pre2.length : Nat) : Int)) := cell_of hp2.bx (i := 0) rfl
      have f14 := free_of hp2.bx 0
      obtain ⟨j, hj⟩ : ∃ j, j = t + pre2.length := ⟨_, rfl⟩
      have hj9 : j ≤ 90300 := by have := HSS.out; omega
      rw [← hj] at c14
      have hwj : wrap64 ((j : Int) + 1) = ((j + 1 : Nat) : Int) := by rw [IntWalk.wrap64_in _ (by omega)]; omega
      have HPZ := hide hp2
      have HKZ := hide hk2
      have HRZ := hide hr2
      have HJ := hide hj
      clear hp2 hk2 hr2 hj hlen2 hj9
      dsimp only [encR]
      gi_wp2
      have hfin : PR w8 (Z.setCell ⟨w8.heap.size, 0, none⟩ (.int .i64 ((j : Int) + 1))) (t + (pre2 ++ [x2]).length) := by
        have e1 : t + (pre2 ++ [x2]).length = j + 1 := by have := HJ.out; simp; omega
        rw [e1, show ((j : Int) + 1) = ((j + 1 : Nat) : Int) from rfl]
        exact HPZ.out.set (j + 1)
      exact ⟨keepsFrom_set HPZ.out.bx, keepR_set HX1.out.2.2.2.1, by simpa using hfin, HKZ.out.trans (keepsFrom_set HPZ.out.bx), keepR_t HRZ.out (keepR_set HS9.out)⟩
    case done2 =>
      rintro Z ⟨hp2, hk2, hr2⟩
      have HPZ := hide hp2
      have HKZ := hide hk2
      have HRZ := hide hr2
      clear hp2 hk2 hr2
      gi_wp2
      have hfin : PR w8 Z ((pre ++ [x]).length * s) := by rw [HTE.out, HSS.out]; exact HPZ.out
      exact ⟨HKZ.out, HRZ.out, by simpa using hfin⟩
  case done =>
    rintro D Z hD hpr hK
    have HPZ := hide hpr
    have HKD := hide hK
    have HDD := hide hD
    have hbz := hpr.bel
    have HLZ := hide (HL8.out.below hbz)
    have HWZ := hide (HEW.out.below hbz)
    have HFZ := hide (HF8.out.below hbz)
    have hgz := HRG.out Z u HLZ.out
    have hsl := HGM.out.gd.s_len
    obtain ⟨ga, oa, ca', hsa, hca, hcm, hcell⟩ := hgz.s.spot (by intro e; rw [e] at hsl; simp at hsl)
    simp only [Value.slice.injEq] at hsa
    obtain ⟨rfl, hsa2, rfl⟩ := hsa
    have d1 : Z.cell? ⟨ga, oa + u, none⟩ = some (.int .i64 (at_ st u)) := hcell u (by omega)
    have d2 : Z.cell? ⟨ga, oa + (u + 1), none⟩ = some (.int .i64 (at_ st (u + 1))) := hcell (u + 1) (by omega)
    have c6 : Z.cell? ⟨w.heap.size, 0, none⟩ = some (.int .i64 u) := cell_of HLZ.out.bv (i := 0) rfl
    have c90 : Z.cell? ⟨w1.heap.size, 0, none⟩ = some (.int .i64 n) := cell_of HLZ.out.bg (i := 0) rfl
    have c91 : Z.cell? ⟨w1.heap.size, 1, none⟩ = some (.slice (some ⟨ga, oa, none⟩) (n + 1) ca) := cell_of HLZ.out.bg (i := 1) rfl
    have c92 : Z.cell? ⟨w1.heap.size, 2, none⟩ = some (.slice bo m cb) := cell_of HLZ.out.bg (i := 2) rfl
    have c14 : Z.cell? ⟨w8.heap.size, 0, none⟩ = some (.int .i64 ((S.length * s : Nat) : Int)) := cell_of HPZ.out.bx (i := 0) rfl
    have r1 := HGM.out.gd.range u (by omega)
    have r2 := HGM.out.gd.range (u + 1) (by omega)
    have r3 := HGM.out.la.tlen
    have hdd := HD.out
    obtain ⟨x, hx⟩ : ∃ x, x = at_ st u := ⟨_, rfl⟩
    obtain ⟨y, hy⟩ : ∃ y, y = at_ st (u + 1) := ⟨_, rfl⟩
    rw [← hx] at d1 r1 hdd
    rw [← hy] at d2 r2 hdd
    have hm3 := HM3.out
    have hn2 := HN2.out
    have hwd : IntKind.i64.wrap (y - x) = (s : Int) := by rw [IntWalk.i64_in _ (by omega)]; have := HSS.out; omega
    have hwd64 : wrap64 (y - x) = (s : Int) := by rw [IntWalk.wrap64_in _ (by omega)]; have := HSS.out; omega
    have hwu : IntKind.i64.wrap ((u : Int) + 1) = (u : Int) + 1 := IntWalk.i64_in _ (by omega)
    have hui : (u : Int) < (n : Int) + 1 := by omega
    have hui1 : (u : Int) + 1 < (n : Int) + 1 := by omega
    have hun1 : u < n + 1 := by omega
    have hun2 : u + 1 < n + 1 := by omega
    have hcan : n + 1 ≤ ca := by omega
    rw [← HSS.out] at c14
    have HHX := hide hx
    clear hpr hK hD hbz hgz hsl hsa2 hcell r1 r2 r3 hdd hx hy hm3 hn2 hca
    dsimp only
    go_upto_region 20 with fail
    go_quiet (fail)
    go_upto_region 21 with fail
    obtain ⟨Y, hY⟩ : ∃ Y, Y = Z.drewN nq := ⟨_, rfl⟩
    have hbY : Below Z.heap.size Z Y := by rw [hY]; exact below_drewN (Below.refl _ _) _
    rw [← hY]
    have HPY := hide (HPZ.out.below hbY)
    have HKY := hide (up_bel hbY HKD.out)
    have HLY := hide (HLZ.out.below hbY)
    have HWY := hide (HWZ.out.below hbY)
    have HFY := hide (HFZ.out.below hbY)
    have HSY : Hid (Z.heap.size = Y.heap.size) := by rw [hY]; rfl
    clear hY hbY c6 c90 c91 c92 c14 d1 d2 HPZ HKD HLZ HWZ HFZ
    have c6 : Y.cell? ⟨w.heap.size, 0, none⟩ = some (.int .i64 u) := cell_of HLY.out.bv (i := 0) rfl
    have c90 : Y.cell? ⟨w1.heap.size, 0, none⟩ = some (.int .i64 n) := cell_of HLY.out.bg (i := 0) rfl
    have c91 : Y.cell? ⟨w1.heap.size, 1, none⟩ = some (.slice (some ⟨ga, oa, none⟩) (n + 1) ca) := cell_of HLY.out.bg (i := 1) rfl
    have c92 : Y.cell? ⟨w1.heap.size, 2, none⟩ = some (.slice bo m cb) := cell_of HLY.out.bg (i := 2) rfl
    go_upto_region 22 with fail
    have hfn : FNm w w1 w8 (Y.alloc (.cells #[.int .i64 n, .slice (some ⟨ga, oa, none⟩) (n + 1) ca, .slice bo m cb, .slice none 0 0] 25)) n (S.length * s) D Y.heap.size (.slice (some ⟨ga, oa, none⟩) (n + 1) ca) (.slice bo m cb) (.slice co m cc) u (.slice lo m lc) (prL n es m) (.slice fo q fk) (.slice wo' q wk') (L.take mo) :=
      have hb := below_alloc (Below.refl Y.heap.size Y) (.cells #[.int .i64 n, .slice (some ⟨ga, oa, none⟩) (n + 1) ca, .slice bo m cb, .slice none 0 0] 25)
      ⟨HLY.out.below hb, HPY.out.below hb, up_bel hb HKY.out, heap_n0 _ _, HFY.out.below hb, HWY.out.below hb⟩
    have HBD := hide (fun (V : World) (h : FNm w w1 w8 V n (S.length * s) D Y.heap.size (.slice (some ⟨ga, oa, none⟩) (n + 1) ca) (.slice bo m cb) (.slice co m cc) u (.slice lo m lc) (prL n es m) (.slice fo q fk) (.slice wo' q wk') (L.take mo)) (hm0 : m ≠ 0) =>
      row26_any n (some ⟨ga, oa, none⟩) bo none (n + 1) m 0 ca cb 0 u 9 [] V (by simp) (by decide) (fun X hX => row28_none n (n + 1) m 0 (some ⟨ga, oa, none⟩) bo none ca cb 0 st tl [] u X ⟨(HRG.out X u (h.lr.below hX)).s, (HRG.out X u (h.lr.below hX)).t, nil_row _ _⟩ (by have := HGM.out.gd.s_len; have := HN2.out; omega) (by have := HGM.out.la.tlen; have := HM3.out; omega) (by simp) (.inl (chk_bad _ _ _ (by rw [HGM.out.la.tlen]; exact hm0)))))
    have HZR := hide (fun (V : World) => row26_any 0 none none none 0 0 0 0 0 0 0 9 [] V (by simp) (by decide) (fun X hX => row28_none 0 0 0 0 none none none 0 0 0 [] [] [] 0 X ⟨nil_row _ _, nil_row _ _, nil_row _ _⟩ (by simp) (by simp) (by simp) (.inl chk_zero)))
    simp only [List.take_nil, List.length_nil] at HBD HZR
    have HFN := hide hfn
    have HBY : Hid (w8.heap.size ≤ Y.heap.size ∧ w.heap.size ≤ D) := ⟨HPY.out.bel.size, by have h1 := HDD.out; have h2 := HS8.out; have h3 := HS9.out; have h4 := HL8.out.bel.size; omega⟩
    have hss : (s : Int) * (s : Int) ≤ 90000 := by
      have h1 : s * s ≤ 300 * 300 := Nat.mul_le_mul hs3 hs3
      have h2 : ((s * s : Nat) : Int) ≤ 90000 := by omega
      rwa [Int.natCast_mul] at h2
    have hss0 : (0 : Int) ≤ (s : Int) * (s : Int) := Int.mul_nonneg (by omega) (by omega)
    have hwm : wrap64 ((s : Int) * (s : Int)) = (s : Int) * (s : Int) := IntWalk.wrap64_in _ (by omega)
    have HSC : Hid (((S.length * s : Nat) : Int) = (s : Int) * (s : Int)) := by
      have h : ((S.length * s : Nat) : Int) = (s : Int) * (s : Int) := by rw [← HSS.out, Int.natCast_mul]
      exact h
    clear hss hss0 hfn HLY HPY HKY HFY HWY c6 c90 c91 c92
    generalize (Y.alloc (.cells #[.int .i64 n, .slice (some ⟨ga, oa, none⟩) (n + 1) ca, .slice bo m cb, .slice none 0 0] 25)) = V at HFN ⊢
    obtain ⟨bb, hbb⟩ : ∃ bb, bb = Y.heap.size := ⟨_, rfl⟩
    rw [← hbb] at HFN HBD ⊢
    clear hbb
    by_cases hm0 : m = 0
    · have hm0i : ((m : Int) == 0) = true := by simp [hm0]
      have HM0 := hide hm0
      clear hm0
      go_wp2_with (first
        | (go_at_call 23; refine (sameEdges_any _ _ (L.take mo) _ HFN.out.fe HFN.out.we).mono ?_; rintro e V2 ⟨rfl, hb⟩; have HF2 := hide (HFN.out.below hb); clear hb; have e14 : V2.cell? ⟨w8.heap.size, 0, none⟩ = some (.int .i64 ((s : Int) * (s : Int))) := (by rw [← HSC.out]; exact cell_of HF2.out.pr.bx (i := 0) rfl); have e92 : V2.cell? ⟨w1.heap.size, 2, none⟩ = some (.slice bo m cb) := cell_of HF2.out.lr.bg (i := 2) rfl)
        | (go_at_call 26; refine (HZR.out _).mono ?_; rintro e V4 ⟨l4, k4, rfl, _, hb⟩; have HF4 := hide (HF2.out.below hb); clear hb)
        | fail)
      refine ⟨by simp, .inl ⟨_, _, rfl, run_takeDeferred HF4.out.dk, ?_⟩⟩
      exact ⟨_, results_tmp rfl _ _ _, rfl, HF4.out.lr.bel.trans (belowK_b (w := w) (Nat.le_refl _) V4 D _ _ HBY.out.2 HF4.out.dk rfl rfl)⟩
    · have hm0i : ((m : Int) == 0) = false := by simp [hm0]
      have HM0 := hide hm0
      go_wp2_with (first
        | (go_at_call 23; refine (sameEdges_any _ _ (L.take mo) _ HFN.out.fe HFN.out.we).mono ?_; rintro e V2 ⟨rfl, hb⟩; have HF2 := hide (HFN.out.below hb); clear hb; have e14 : V2.cell? ⟨w8.heap.size, 0, none⟩ = some (.int .i64 ((s : Int) * (s : Int))) := (by rw [← HSC.out]; exact cell_of HF2.out.pr.bx (i := 0) rfl); have e92 : V2.cell? ⟨w1.heap.size, 2, none⟩ = some (.slice bo m cb) := cell_of HF2.out.lr.bg (i := 2) rfl; have e6 : V2.cell? ⟨w.heap.size, 0, none⟩ = some (.int .i64 u) := cell_of HF2.out.lr.bv (i := 0) rfl; have b0 : V2.cell? ⟨bb, 0, none⟩ = some (.int .i64 n) := cell_of HF2.out.bd (i := 0) rfl; have b1 : V2.cell? ⟨bb, 1, none⟩ = some (.slice (some ⟨ga, oa, none⟩) (n + 1) ca) := cell_of HF2.out.bd (i := 1) rfl; have b2 : V2.cell? ⟨bb, 2, none⟩ = some (.slice bo m cb) := cell_of HF2.out.bd (i := 2) rfl; have b3 : V2.cell? ⟨bb, 3, none⟩ = some (.slice none 0 0) := cell_of HF2.out.bd (i := 3) rfl)
        | (go_at_call 26; have hq0 := HM0.out; refine (HBD.out _ HF2.out hq0).mono ?_; rintro e V3 ⟨l3, k3, rfl, _, hb⟩; have HF3 := hide (HF2.out.below hb); clear hb hq0 HM0)
        | (go_at_call 26; refine (HZR.out _).mono ?_; rintro e V4 ⟨l4, k4, rfl, _, hb⟩; have HF4 := hide (HF3.out.below hb); clear hb)
        | fail)
      refine ⟨by simp, .inl ⟨_, _, rfl, run_takeDeferred HF4.out.dk, ?_⟩⟩
      exact ⟨_, results_tmp rfl _ _ _, rfl, HF4.out.lr.bel.trans (belowK_b (w := w) (Nat.le_refl _) V4 D _ _ HBY.out.2 HF4.out.dk rfl rfl)⟩
end Go.Proofs.Ytmagigmcbegmiaa
