/- The program's operations, with its map of the open ones; Spans. -/
import Derived.Test.YtfoeljcgbfpknaaRf
import Derived.Deep.Cut
import Derived.Deep.CutBlock
import Derived.Maps.Own
import Derived.Maps.OwnOps
import Derived.Maps.OwnSet
import Derived.Maps.Views
namespace Go.Proofs.Ytfoeljcgbfpknaa
open Go.RowKit Go.Lib Go.Maps
set_option linter.unusedVariables false
set_option linter.unusedSimpArgs false
theorem law3 : Keyed Try.prog 3 := int_keyed Try.underlying3
theorem zero3 (w : World) : (zeroValue 3).run Try.prog w = .ok (.int .i64 0) w := by kernel_rfl
/-- Numbers that are ints. -/
def In64 (x : Int) : Prop := -9223372036854775808 ≤ x ∧ x ≤ 9223372036854775807
def Eok (evs : List Ev) : Prop := ∀ i, i < evs.length → In64 (evAt evs i).who
theorem In64.wf {x : Int} (h : In64 x) : (Lit.int .i64 x).wf = true := WalkArith.wf_i64 ⟨h.1, by have := h.2; omega⟩
/-- The map of the open ones: from who to the number of the span. -/
def MpI (W : World) (B n : Nat) (l : List Sp) : Prop :=
  ∃ D : DataW Unit, W.ownsMap Try.prog 3 (plainElem Try.prog 3) B n D ∧ ∀ who, has D (.int .i64 who) = (opn l who).isSome ∧ (∀ k, opn l who = some k → D.atKey (.int .i64 who) (.lit (.int .i64 0)) = .lit (.int .i64 (k : Int)))
theorem mp_start (w : World) : MpI (w.alloc (.map #[] 0)) w.heap.size 0 [] :=
  ⟨_, World.ownsMap_made _ _ _ _, fun who => ⟨rfl, fun k h => by simp [opn, opnTo] at h⟩⟩
theorem MpI.lt {W : World} {B n : Nat} {l : List Sp} (h : MpI W B n l) : B < W.heap.size := by obtain ⟨D, h1, _⟩ := h; exact h1.lt
theorem MpI.stay {W W' : World} {B n : Nat} {l : List Sp} (h : MpI W B n l) (hb : W'.heap[B]? = W.heap[B]?) : MpI W' B n l := by
  obtain ⟨D, ⟨es, clock, h1, r⟩, h2⟩ := h
  exact ⟨D, ⟨es, clock, hb.trans h1, r⟩, h2⟩
theorem MpI.below {W W' : World} {B n : Nat} {l : List Sp} (h : MpI W B n l) (hb : Below W.heap.size W W') : MpI W' B n l := h.stay (hb.block B h.lt)
theorem key_ne {a b : Int} (h : a ≠ b) : (Lit.int .i64 a) ≠ (Lit.int .i64 b) := fun e => h (by injection e)
theorem opn_born (l : List Sp) (i : Nat) (e : Ev) (who : Int) : opn (l ++ [born i e]) who = if e.who = who then some l.length else opn l who := by
  rw [opn_snoc]
  by_cases h : e.who = who
  · rw [if_pos (show (born i e).who = who from h), if_pos (show (born i e).en = -1 from rfl), if_pos h]
  · rw [if_neg (show ¬ (born i e).who = who from h), if_neg h]
theorem mp_put {D : DataW Unit} {l : List Sp} {e : Ev} (i : Nat) (hD : IsMap D) (hw : In64 e.who) (h : ∀ who, has D (.int .i64 who) = (opn l who).isSome ∧ (∀ k, opn l who = some k → D.atKey (.int .i64 who) (.lit (.int .i64 0)) = .lit (.int .i64 (k : Int)))) :
    ∀ who, has (D.put (.int .i64 e.who) (.lit (.int .i64 (l.length : Int)))) (.int .i64 who) = (opn (l ++ [born i e]) who).isSome ∧ (∀ k, opn (l ++ [born i e]) who = some k → (D.put (.int .i64 e.who) (.lit (.int .i64 (l.length : Int)))).atKey (.int .i64 who) (.lit (.int .i64 0)) = .lit (.int .i64 (k : Int))) := by
  intro who
  rw [opn_born]
  by_cases h1 : e.who = who
  · subst h1
    rw [if_pos rfl, has_put_same hD (by trivial), atKey_put_same hD (by trivial)]
    exact ⟨rfl, fun k hk => by simp at hk; subst hk; rfl⟩
  · rw [if_neg h1, has_put_other (key_ne fun e => h1 e.symm), atKey_put_other (key_ne fun e => h1 e.symm)]
    exact h who
theorem mp_del {D : DataW Unit} {l : List Sp} {e : Ev} {k : Nat} (i : Nat) (hk : opn l e.who = some k) (h : ∀ who, has D (.int .i64 who) = (opn l who).isSome ∧ (∀ k, opn l who = some k → D.atKey (.int .i64 who) (.lit (.int .i64 0)) = .lit (.int .i64 (k : Int)))) :
    ∀ who, has (D.del (.int .i64 e.who)) (.int .i64 who) = (opn (l.set k (shut i e (spAt l k))) who).isSome ∧ (∀ j, opn (l.set k (shut i e (spAt l k))) who = some j → (D.del (.int .i64 e.who)).atKey (.int .i64 who) (.lit (.int .i64 0)) = .lit (.int .i64 (j : Int))) := by
  intro who
  obtain ⟨h1, h2, h3, _⟩ := opn_some hk
  rw [opn_set hk (show (shut i e (spAt l k)).who = e.who from h2) (show (i : Int) ≠ -1 by omega)]
  by_cases h4 : who = e.who
  · subst h4
    rw [if_pos rfl, has_del_same]
    exact ⟨rfl, fun j hj => by cases hj⟩
  · rw [if_neg h4, has_del_other (key_ne h4), atKey_del_other (key_ne h4)]
    exact h who
set_option maxRecDepth 100000 in
theorem ends_pure (ins : Bool) (k : Int) (w : World) : Calls Try.prog 74 #[.bool ins, .int .i64 k] w fun e w' => e = .returned (.bool (ends ins k)) ∧ w' = w := by
  by_cases h6 : k = 6
  · subst h6
    go_enter Try.func74, Try.ntmps74
    go_wp2
    go_ret
    exact ⟨by cases ins <;> rfl, rfl⟩
  ·
    by_cases h2 : k = 2
    · subst h2
      go_enter Try.func74, Try.ntmps74
      go_wp2
      go_ret
      exact ⟨by cases ins <;> rfl, rfl⟩
    ·
      by_cases h4 : k = 4
      · subst h4
        go_enter Try.func74, Try.ntmps74
        go_wp2
        go_ret
        exact ⟨by cases ins <;> rfl, rfl⟩
      ·
        by_cases h5 : k = 5
        · subst h5
          go_enter Try.func74, Try.ntmps74
          go_wp2
          go_ret
          exact ⟨by cases ins <;> rfl, rfl⟩
        ·
          have hE : ends ins k = false := by unfold ends; rw [decide_eq_false (fun h => by omega)]
          rw [hE]
          go_enter Try.func74, Try.ntmps74
          go_wp2
          go_ret
          exact ⟨rfl, rfl⟩
theorem lit_inj {a b : Int} (h : (DataW.lit (.int .i64 a) : DataW Unit) = .lit (.int .i64 b)) : a = b := by injection h with h; injection h
/-- What operations answers. -/
def OpP (evs : List Ev) (w : World) (e : Ending) (w' : World) : Prop :=
  (∃ i : Nat, badAt evs = some i ∧ e = .returned (.tuple #[.slice none 0 0, .int .i64 (i : Int)]) ∧ Below w.heap.size w w') ∨
  (∃ v l last, badAt evs = none ∧ rn evs evs.length = some (l, last) ∧ e = .returned (.tuple #[v, .int .i64 (-1)]) ∧ SOwn w' w.heap.size v l ∧ Below w.heap.size w w')
/-- The memory of a round of operations: the map, the box of the event, the spans. -/
structure OpM (w wr W : World) (tm who kind key load : Int) (v : Value) (l lm : List Sp) (n : Nat) : Prop where
  bx : W.heap[wr.heap.size]? = some (.cells #[.int .i64 tm, .int .i64 who, .int .i64 kind, .int .u64 key, .int .u64 load] 87 (0, 0))
  own : SOwn W (w.heap.size + 1) v l
  mp : MpI W w.heap.size n lm
  bel : Below w.heap.size w W
  at' : ∀ g, v.ownBlock = some g → g < wr.heap.size
  lo : w.heap.size < wr.heap.size
theorem opm {w wr : World} {v : Value} {l : List Sp} {n : Nat} (tm who kind key load : Int) (h : SOwn wr (w.heap.size + 1) v l) (hb : Below w.heap.size w wr) (hm : MpI wr w.heap.size n l) : OpM w wr (wr.alloc (.cells #[.int .i64 tm, .int .i64 who, .int .i64 kind, .int .u64 key, .int .u64 load] 87)) tm who kind key load v l l n :=
  have h1 : Below wr.heap.size wr (wr.alloc (.cells #[.int .i64 tm, .int .i64 who, .int .i64 kind, .int .u64 key, .int .u64 load] 87)) := below_alloc (Below.refl _ _) _
  ⟨heap_new _ _, h.below h1, hm.below h1, below_on hb h1, fun g e => (h.lt g e).2, hm.lt⟩
section
variable {w wr W W' : World} {tm who kind key load : Int} {v : Value} {l lm : List Sp} {n : Nat}
theorem OpM.box (h : OpM w wr W tm who kind key load v l lm n) : W.cell? ⟨wr.heap.size, 0, none⟩ = some (.int .i64 tm) ∧ W.cell? ⟨wr.heap.size, 1, none⟩ = some (.int .i64 who) ∧ W.cell? ⟨wr.heap.size, 2, none⟩ = some (.int .i64 kind) ∧ W.cell? ⟨wr.heap.size, 3, none⟩ = some (.int .u64 key) ∧ W.cell? ⟨wr.heap.size, 4, none⟩ = some (.int .u64 load) :=
  ⟨cell_of h.bx rfl, cell_of h.bx rfl, cell_of h.bx rfl, cell_of h.bx rfl, cell_of h.bx rfl⟩
theorem OpM.on (h : OpM w wr W tm who kind key load v l lm n) (hb : Below W.heap.size W W') : OpM w wr W' tm who kind key load v l lm n :=
  ⟨(hb.block _ (lt_of_heap h.bx)).trans h.bx, h.own.below hb, h.mp.below hb, below_on h.bel hb, h.at', h.lo⟩
theorem OpM.far {g m c : Nat} (h : OpM w wr W tm who kind key load (.slice (some ⟨g, 0, none⟩) m c) l lm n) : ¬ g = wr.heap.size ∧ w.heap.size + 1 ≤ g := by
  have h1 := h.at' g rfl
  have h2 := (h.own.lt g rfl).1
  exact ⟨by omega, h2⟩
theorem OpM.put {D : DataW Unit} (h : OpM w wr W tm who kind key load v l l n) (hs : ∀ who, has D (.int .i64 who) = (opn l who).isSome ∧ (∀ k, opn l who = some k → D.atKey (.int .i64 who) (.lit (.int .i64 0)) = .lit (.int .i64 (k : Int)))) (hi : IsMap D) (hw : In64 who) (i : Nat)
    (hown : W'.ownsMap Try.prog 3 (plainElem Try.prog 3) w.heap.size (n + 1) (D.put (.int .i64 who) (.lit (.int .i64 (l.length : Int))))) (hg : W.grownBy W' (some w.heap.size)) : OpM w wr W' tm who kind key load v l (l ++ [born i ⟨tm, who, kind, key, load⟩]) (n + 1) := by
  have hlo := h.lo
  refine ⟨(hg.block _ (lt_of_heap h.bx) (fun e => by simp only [Option.some.injEq] at e; omega)).trans h.bx, h.own.stay (fun g e => hg.block g (h.own.lt g e).2 (fun e' => by simp only [Option.some.injEq] at e'; have := (h.own.lt g e).1; omega)), ⟨_, hown, mp_put (e := ⟨tm, who, kind, key, load⟩) i hi hw hs⟩, h.bel.grown hg h.bel.size (fun k e => by cases e; exact Nat.le_refl _), h.at', hlo⟩
theorem OpM.more {s : Sp} {v5 : Value} {p : Obj} (h : OpM w wr W tm who kind key load v l lm n) (hown : W'.ownsRow (w.heap.size + 1) 69 7 v5 (l.length + 1) (rCells Sp.arr l ++ s.arr.toList)) (hg : (W.alloc p).grownBy W' v.ownBlock) :
    SOwn W' (w.heap.size + 1) v5 (l ++ [s]) ∧ MpI W' w.heap.size n lm ∧ Below w.heap.size w W' := by
  have h1 := h.on (below_alloc (Below.refl _ _) p)
  refine ⟨SOwn.more hown, h1.mp.stay (hg.block _ h1.mp.lt (fun e => ?_)), h1.bel.grown hg h1.bel.size (fun k e => ?_)⟩
  · have := (h.own.lt _ e.symm).1; omega
  · have := (h.own.lt _ e).1; omega
theorem OpM.boxd (h : OpM w wr W tm who kind key load v l lm n) (hg : W.grownBy W' (some w.heap.size)) : W'.cell? ⟨wr.heap.size, 0, none⟩ = some (.int .i64 tm) ∧ W'.cell? ⟨wr.heap.size, 1, none⟩ = some (.int .i64 who) ∧ W'.cell? ⟨wr.heap.size, 2, none⟩ = some (.int .i64 kind) ∧ W'.cell? ⟨wr.heap.size, 3, none⟩ = some (.int .u64 key) ∧ W'.cell? ⟨wr.heap.size, 4, none⟩ = some (.int .u64 load) := by
  have hlo := h.lo
  have hb := (hg.block _ (lt_of_heap h.bx) (fun e => by simp only [Option.some.injEq] at e; omega)).trans h.bx
  exact ⟨cell_of hb rfl, cell_of hb rfl, cell_of hb rfl, cell_of hb rfl, cell_of hb rfl⟩
theorem OpM.boxm {p : Obj} (h : OpM w wr W tm who kind key load v l lm n) (hg : (W.alloc p).grownBy W' v.ownBlock) : W'.cell? ⟨wr.heap.size, 0, none⟩ = some (.int .i64 tm) ∧ W'.cell? ⟨wr.heap.size, 1, none⟩ = some (.int .i64 who) ∧ W'.cell? ⟨wr.heap.size, 2, none⟩ = some (.int .i64 kind) ∧ W'.cell? ⟨wr.heap.size, 3, none⟩ = some (.int .u64 key) ∧ W'.cell? ⟨wr.heap.size, 4, none⟩ = some (.int .u64 load) := by
  have h1 := h.on (below_alloc (Below.refl _ _) p)
  have hb := (hg.block _ (lt_of_heap h1.bx) (fun e => by have := h.at' _ e.symm; omega)).trans h1.bx
  exact ⟨cell_of hb rfl, cell_of hb rfl, cell_of hb rfl, cell_of hb rfl, cell_of hb rfl⟩
theorem OpM.ended {g m c : Nat} {l' : List Sp} (h : OpM w wr W tm who kind key load (.slice (some ⟨g, 0, none⟩) m c) l lm n) (hown : SOwn W' (w.heap.size + 1) (.slice (some ⟨g, 0, none⟩) m c) l') (hc : Chg (fun b => b = g) W W') : OpM w wr W' tm who kind key load (.slice (some ⟨g, 0, none⟩) m c) l' lm n := by
  have hf := h.far
  refine ⟨hc.heap h.bx (fun e => hf.1 e.symm), hown, h.mp.stay (hc.block _ h.mp.lt (by omega)), Chg.below h.bel hc (fun i e => by omega) h.bel.size, h.at', h.lo⟩
theorem OpM.dropped {D : DataW Unit} {g m c k : Nat} {l' : List Sp} (h : OpM w wr W tm who kind key load v l' l n) (hs : ∀ who, has D (.int .i64 who) = (opn l who).isSome ∧ (∀ k, opn l who = some k → D.atKey (.int .i64 who) (.lit (.int .i64 0)) = .lit (.int .i64 (k : Int)))) (i : Nat) (hk : opn l who = some k)
    (hown : W'.ownsMap Try.prog 3 (plainElem Try.prog 3) w.heap.size n (D.del (.int .i64 who))) (hg : W.grownBy W' (some w.heap.size)) : SOwn W' (w.heap.size + 1) v l' ∧ MpI W' w.heap.size (n + 1) (l.set k (shut i ⟨tm, who, kind, key, load⟩ (spAt l k))) ∧ Below w.heap.size w W' := by
  refine ⟨h.own.stay (fun g e => hg.block g (h.own.lt g e).2 (fun e' => by simp only [Option.some.injEq] at e'; have := (h.own.lt g e).1; omega)), ⟨_, hown.mono (Nat.le_succ _), mp_del (e := ⟨tm, who, kind, key, load⟩) i hk hs⟩, h.bel.grown hg h.bel.size (fun k e => by cases e; exact Nat.le_refl _)⟩
end
set_option maxRecDepth 100000 in
set_option maxHeartbeats 16000000 in
theorem operations_any (v : Value) (evs : List Ev) (w : World) (h : EAt w v evs) (hlen : evs.length ≤ 3518437208880) (hok : Eok evs) : Calls Try.prog 45 #[v] w (OpP evs w) := by
  obtain ⟨i0, hi0, hz0, hz1, hz2⟩ := info_parts Try.info69
  obtain ⟨ao, cap, rfl, hcap, h63⟩ := h.shape
  have H := hide h
  have HQ : Hid (∀ l last i, i < evs.length → rn evs i = some (l, last) → stp l last i (evAt evs i) = none → badAt evs = some i) := fun l last i a b c => rn_bad a b c
  have HEO := hide hok
  obtain ⟨n, hn⟩ : ∃ n, n = evs.length := ⟨_, rfl⟩
  have HN := hide hn
  rw [← hn] at hcap H HQ hlen ⊢
  clear h hn hok
  have HIS := hide isE_any
  unfold Ev.arr at HIS
  have hmm := @run_makeMap Try.prog
  go_enter Try.func45, Try.ntmps45
  go_wp2
  clear hmm
  go_loopw [2, 5, 13] (fun v t1 t2 wr => ∃ (i : Nat) (l : List Sp) (last : Int), i ≤ n ∧ t2 = .int .i64 (i : Int) ∧ t1 = .int .i64 last ∧ rn evs i = some (l, last) ∧ SOwn wr (w.heap.size + 1) v l ∧ MpI wr w.heap.size i l ∧ Below w.heap.size w wr) (fun _ _ t _ => n - (RowKit.intOf t).toNat)
  case atStart => exact ⟨0, [], 0, by omega, rfl, rfl, rfl, ROwn.nil _ _, mp_start w, below_alloc (Below.refl _ _) _⟩
  case round =>
    obtain ⟨i, l, last, hin, rfl, rfl, hrn, hso, hmp, hbel⟩ := hrel
    have HR := hide hrn
    have HS := hide hso
    have HB := hide hbel
    have HMP := hide hmp
    obtain ⟨la, lc, rfl, hlc, hl63⟩ := (hso.rat Sp.size).shape
    have hll := rn_len evs hrn
    clear hrn hso hbel hmp
    by_cases hlt : i < n
    · obtain ⟨g, o, rfl, hg, p⟩ := (H.out.below HB.out).at i (by have := HN.out; omega)
      have HE : Hid (evAt evs i = evs[i]'(by have := HN.out; omega)) := hide (by have := HN.out; simp [evAt, show i < evs.length by omega])
      rw [← HE.out] at p
      have hwh := HEO.out i (by have := HN.out; omega)
      obtain ⟨e, he⟩ : ∃ e, e = evAt evs i := ⟨_, rfl⟩
      rw [← he] at p hwh
      have HQi := hide (HQ.out l last i hlt HR.out)
      rw [← he] at HQi
      have HG : Hid (∀ l', stp l last i e = some l' → rn evs (i + 1) = some (l', e.tm)) := hide (by rw [he]; intro l'; exact rn_good HR.out)
      clear he HE HQ
      obtain ⟨tm, who, kind, key, load⟩ := e
      have p0 : wr.cell? ⟨g, o + i * 5, none⟩ = some (.int .i64 tm) := p 0 _ rfl
      have p1 : wr.cell? ⟨g, o + i * 5 + 1, none⟩ = some (.int .i64 who) := p 1 _ rfl
      have p2 : wr.cell? ⟨g, o + i * 5 + 2, none⟩ = some (.int .i64 kind) := p 2 _ rfl
      have p3 : wr.cell? ⟨g, o + i * 5 + 3, none⟩ = some (.int .u64 key) := p 3 _ rfl
      have p4 : wr.cell? ⟨g, o + i * 5 + 4, none⟩ = some (.int .u64 load) := p 4 _ rfl
      clear p
      have HWH := hide hwh
      have HWF := hide (In64.wf hwh)
      have HX := hide (opm tm who kind key load HS.out HB.out HMP.out)
      obtain ⟨D, hD1, hD2⟩ := HX.out.mp
      have hhas := (hD2 who).1
      have HAT := hide (hD2 who).2
      have HIE := hide (fun W => HIS.out ⟨tm, who, kind, key, load⟩ W)
      clear hD2 hwh
      have HST : Hid (stp l last i ⟨tm, who, kind, key, load⟩ = if (isE ⟨tm, who, kind, key, load⟩ && !decide (tm < last)) = true then (match opn l who with | none => if begs kind = true then some (l ++ [born i ⟨tm, who, kind, key, load⟩]) else none | some k => if ends (spAt l k).ins kind = true then some (l.set k (shut i ⟨tm, who, kind, key, load⟩ (spAt l k))) else none) else none) := hide (by unfold stp; rw [okE_is]; rfl)
      by_cases hie : isE ⟨tm, who, kind, key, load⟩ = true
      · by_cases htl : tm < last
        · have HB2 := hide (HQi.out (by rw [HST.out, hie, decide_eq_true htl]; rfl))
          rw [hie] at HIE
          clear HST HQi HG hie
          go_wp2_with (first
            | (at_lookup; refine wpList_lookup_own_ok_int _ rfl _ _ 106 rfl 3 3 .i64 law3 Try.underlying106 Try.underlying3 (zero3 _) w.heap.size i D rfl hD1 _ _ rfl (keyOf_int_mk Try.underlying3 HWF.out) ?_; intro c hat hwc; clear hat hwc)
            | (go_at_call 72; refine (HIE.out _).mono ?_; rintro e w2 ⟨rfl, hb2⟩; have HY := hide (HX.out.on hb2); obtain ⟨q0, q1, q2, q3, q4⟩ := HY.out.box; clear hb2 p0 p1 p2 p3 p4)
            | fail)
          go_ret2
          exact .inl ⟨i, HB2.out, rfl, HY.out.bel⟩
        · rw [hie, decide_eq_false htl] at HST
          rw [hie] at HIE
          clear hie
          have hST' := HST.out
          simp only [Bool.not_false, Bool.and_true, if_true] at hST'
          have HST' := hide hST'
          clear HST hST'
          have HBG := hide (fun W => begs_any kind W)
          have hsz : ((l.length + 1) + (l.length + 1) / 4 + 192) * 56 ≤ 281474976710656 := by omega
          rcases hop : opn l who with _ | k
          · rw [hop] at HST' hhas
            simp only [Option.isSome_none] at HST' hhas
            clear hop HAT
            by_cases hbg : begs kind = true
            · rw [hbg] at HBG
              have HG2 := hide (HG.out _ (by rw [HST'.out]; exact if_pos hbg))
              have HBO : Hid ((born i ⟨tm, who, kind, key, load⟩).arr = #[.int .i64 who, .bool (kind == 1), .int .u64 key, .int .u64 load, .int .i64 (i : Int), .int .i64 (-1), .int .i64 0]) := rfl
              clear HST' HQi HG hbg
              go_wp2_with (first
                | (at_lookup; refine wpList_lookup_own_ok_int _ rfl _ _ 106 rfl 3 3 .i64 law3 Try.underlying106 Try.underlying3 (zero3 _) w.heap.size i D rfl hD1 _ _ rfl (keyOf_int_mk Try.underlying3 HWF.out) ?_; rw [hhas]; intro c hat hwc; clear hat hwc)
                | (go_at_call 72; refine (HIE.out _).mono ?_; rintro e w2 ⟨rfl, hb2⟩; have HY := hide (HX.out.on hb2); obtain ⟨q0, q1, q2, q3, q4⟩ := HY.out.box; clear hb2 p0 p1 p2 p3 p4 hD1)
                | (go_at_call 73; refine (HBG.out _).mono ?_; rintro e w3 ⟨rfl, hb3⟩; have HZ := hide (HY.out.on hb3); clear q0 q1 q2 q3 q4; obtain ⟨q0, q1, q2, q3, q4⟩ := HZ.out.box; obtain ⟨D3, hD3, hE3⟩ := HZ.out.mp; have HE3 := hide hE3; clear hb3 HY hE3)
                | (at_mapUpdate; refine wpList_mapUpdate_own _ rfl _ _ _ 106 rfl 3 3 law3 Try.underlying106 _ w.heap.size i D3 rfl hD3 (by unfold maxLen; omega) _ _ _ rfl rfl (keyOf_int_mk Try.underlying3 HWF.out) _ [] (plainElem_int Try.underlying3 (WalkArith.wf_i64 (by omega))) ?_; intro w4 hown4 hgrow4; have HM4 := hide (HZ.out.put HE3.out hD3.isMap HWH.out i hown4 hgrow4); clear q0 q1 q2 q3 q4; obtain ⟨q0, q1, q2, q3, q4⟩ := HM4.out.box; clear hown4 hgrow4 hD3 HE3 HZ)
                | (at_builtin; refine wpList_append_own_wide _ rfl (.tmp 50) (.tmp 60) 22 rfl (w.heap.size + 1) 69 i0 _ 7 56 Try.underlying22 hi0 hz0 hz1 hz2 rfl (by decide) _ _ _ rfl (World.ownsRow.alloc HM4.out.own _) ⟨w4.heap.size, 0, none⟩ 1 1 (born i ⟨tm, who, kind, key, load⟩).arr.toList rfl rfl (arr_at w4 _ _) (by simp [Value.oneCell', born, Sp.arr]) (by unfold maxLen; omega) hsz (by have := lt_of_heap HM4.out.bx; have := HM4.out.lo; simp; omega) ?_; intro v5 w5 hown5 hgrow5 hq5; have HW := hide (HM4.out.more hown5 hgrow5); have HBX := hide (HM4.out.boxm hgrow5); clear q0 q1 q2 q3 q4; obtain ⟨q0, q1, q2, q3, q4⟩ := HBX.out; clear hown5 hgrow5 hq5)
                | fail)
              go_roundw
              case rel => exact ⟨i + 1, _, tm, hlt, by simp, rfl, HG2.out, HW.out.1, HW.out.2.1, HW.out.2.2⟩
              case measure => exact mdec hlt
            · rw [Bool.eq_false_iff.2 hbg] at HBG
              have HB2 := hide (HQi.out (by rw [HST'.out]; exact if_neg hbg))
              clear HST' HQi HG hbg
              go_wp2_with (first
                | (at_lookup; refine wpList_lookup_own_ok_int _ rfl _ _ 106 rfl 3 3 .i64 law3 Try.underlying106 Try.underlying3 (zero3 _) w.heap.size i D rfl hD1 _ _ rfl (keyOf_int_mk Try.underlying3 HWF.out) ?_; rw [hhas]; intro c hat hwc; clear hat hwc)
                | (go_at_call 72; refine (HIE.out _).mono ?_; rintro e w2 ⟨rfl, hb2⟩; have HY := hide (HX.out.on hb2); obtain ⟨q0, q1, q2, q3, q4⟩ := HY.out.box; clear hb2 p0 p1 p2 p3 p4 hD1)
                | (go_at_call 73; refine (HBG.out _).mono ?_; rintro e w3 ⟨rfl, hb3⟩; have HZ := hide (HY.out.on hb3); clear q0 q1 q2 q3 q4; obtain ⟨q0, q1, q2, q3, q4⟩ := HZ.out.box; obtain ⟨D3, hD3, hE3⟩ := HZ.out.mp; have HE3 := hide hE3; clear hb3 HY hE3)
                | fail)
              go_quiet (fail)
              go_wp2
              go_ret2
              exact .inl ⟨i, HB2.out, rfl, below_on HZ.out.bel (below_drewN _ _)⟩
          · obtain ⟨hkl, hkw, hke, _⟩ := opn_some hop
            have HOPN := hide hop
            have hckk := HAT.out k hop
            rw [hop] at HST' hhas
            simp only [Option.isSome_some] at HST' hhas
            clear hop hkw hke HAT
            have HCK := hide hckk
            clear hckk
            obtain ⟨gl, lc', hlv, _, _, hfg, _⟩ := HS.out.spot (by omega)
            simp only [Value.slice.injEq, true_and] at hlv
            obtain ⟨rfl, rfl⟩ := hlv
            have hkl2 : (k : Int) < (l.length : Int) := by omega
            have hk0 : (0 : Int) ≤ (k : Int) := by omega
            have hk0' : ¬ (k : Int) < 0 := by omega
            have HKL := hide hkl
            obtain ⟨s, hs⟩ : ∃ s, s = spAt l k := ⟨_, rfl⟩
            have HSK := hide (spAt_get hkl)
            rw [← hs] at HST' HSK
            have HSE := hide hs
            clear hs
            obtain ⟨sw, si, sk, sl, sb, se, sn⟩ := s
            have HRC : Hid (∀ W, SOwn W (w.heap.size + 1) (.slice (some ⟨gl, 0, none⟩) l.length lc) l → SpC W gl k sw si sk sl sb se sn) := fun W hW => spc hW HSK.out
            have HED := hide (fun W => ends_pure si kind W)
            have HEN : Hid (∀ W, SOwn W (w.heap.size + 1) (.slice (some ⟨gl, 0, none⟩) l.length lc) l → Calls Try.prog 75 #[.pointer (some ⟨gl, k * 7, none⟩), .int .i64 (i : Int), .agg #[.int .i64 tm, .int .i64 who, .int .i64 kind, .int .u64 key, .int .u64 load]] W fun x w' => x = .returned (.tuple #[]) ∧ SOwn w' (w.heap.size + 1) (.slice (some ⟨gl, 0, none⟩) l.length lc) (l.set k (shut i ⟨tm, who, kind, key, load⟩ (spAt l k))) ∧ Chg (fun b => b = gl) W w') := fun W hW => end_any (w.heap.size + 1) gl l.length lc l k i ⟨tm, who, kind, key, load⟩ W hW HKL.out
            by_cases hend : ends si kind = true
            · rw [hend] at HED
              have HG2 := hide (HG.out _ (by rw [HST'.out]; exact if_pos hend))
              rw [HSE.out] at HG2
              clear HST' HQi HG hend
              go_wp2_with (first
                | (at_lookup; refine wpList_lookup_own_ok_int _ rfl _ _ 106 rfl 3 3 .i64 law3 Try.underlying106 Try.underlying3 (zero3 _) w.heap.size i D rfl hD1 _ _ rfl (keyOf_int_mk Try.underlying3 HWF.out) ?_; rw [hhas]; intro c hat hwc; obtain rfl : c = (k : Int) := lit_inj (hat.symm.trans HCK.out); clear hat hwc)
                | (go_at_call 72; refine (HIE.out _).mono ?_; rintro e w2 ⟨rfl, hb2⟩; have HY := hide (HX.out.on hb2); obtain ⟨q0, q1, q2, q3, q4⟩ := HY.out.box; obtain ⟨r0, r1, r2, r3, r4, r5, r6⟩ := (HRC.out _ HY.out.own).cs; clear hb2 p0 p1 p2 p3 p4 hD1)
                | fail)
              go_quiet ((go_at_call 74; refine Calls.quiet_of_same (HED.out _)))
              have HYd := hide (HY.out.on (below_drewN w2 nq))
              generalize w2.drewN nq = w3 at HYd ⊢
              clear q0 q1 q2 q3 q4 r0 r1 r2 r3 r4 r5 r6 HY
              obtain ⟨q0, q1, q2, q3, q4⟩ := HYd.out.box
              go_wp2_with fail
              go_region_with ((go_at_call 75; refine (HEN.out _ (HYd.out.own.below (below_drew (Below.refl _ _)))).mono ?_; rintro e w4 ⟨rfl, hso4, hch4⟩; have HM4 := hide ((HYd.out.on (below_drew (Below.refl _ _))).ended hso4 hch4); clear hso4 hch4))
              all_goals
                clear q0 q1 q2 q3 q4
                obtain ⟨q0, q1, q2, q3, q4⟩ := HM4.out.box
                obtain ⟨D4, hD4, hE4⟩ := HM4.out.mp
                have HE4 := hide hE4
                clear hE4
                go_wp2_with (first
                  | (at_delete; refine wpList_delete_own _ rfl _ _ 106 3 rfl 3 law3 Try.underlying106 _ w.heap.size i D4 rfl hD4 _ _ rfl (keyOf_int_mk Try.underlying3 HWF.out) ?_; intro w5 hown5 hturn5; have HW := hide (HM4.out.dropped (g := 0) (m := 0) (c := 0) HE4.out i HOPN.out hown5 hturn5.grown); have HBX := hide (HM4.out.boxd hturn5.grown); clear q0 q1 q2 q3 q4; obtain ⟨q0, q1, q2, q3, q4⟩ := HBX.out; clear hown5 hturn5 hD4 HE4)
                  | fail)
                go_roundw
                case rel => exact ⟨i + 1, _, tm, hlt, by simp, rfl, HG2.out, HW.out.1, HW.out.2.1, HW.out.2.2⟩
                case measure => exact mdec hlt
            · rw [Bool.eq_false_iff.2 hend] at HED
              have HB2 := hide (HQi.out (by rw [HST'.out]; exact if_neg hend))
              clear HST' HQi HG hend
              go_wp2_with (first
                | (at_lookup; refine wpList_lookup_own_ok_int _ rfl _ _ 106 rfl 3 3 .i64 law3 Try.underlying106 Try.underlying3 (zero3 _) w.heap.size i D rfl hD1 _ _ rfl (keyOf_int_mk Try.underlying3 HWF.out) ?_; rw [hhas]; intro c hat hwc; obtain rfl : c = (k : Int) := lit_inj (hat.symm.trans HCK.out); clear hat hwc)
                | (go_at_call 72; refine (HIE.out _).mono ?_; rintro e w2 ⟨rfl, hb2⟩; have HY := hide (HX.out.on hb2); obtain ⟨q0, q1, q2, q3, q4⟩ := HY.out.box; obtain ⟨r0, r1, r2, r3, r4, r5, r6⟩ := (HRC.out _ HY.out.own).cs; clear hb2 p0 p1 p2 p3 p4 hD1)
                | fail)
              go_quiet ((go_at_call 74; refine Calls.quiet_of_same (HED.out _)))
              go_wp2
              go_ret2
              exact .inl ⟨i, HB2.out, rfl, below_on HY.out.bel (below_drewN _ _)⟩
      · have HB2 := hide (HQi.out (by rw [HST.out, Bool.eq_false_iff.2 hie]; rfl))
        rw [Bool.eq_false_iff.2 hie] at HIE
        clear HST HQi HG hie
        go_wp2_with (first
          | (at_lookup; refine wpList_lookup_own_ok_int _ rfl _ _ 106 rfl 3 3 .i64 law3 Try.underlying106 Try.underlying3 (zero3 _) w.heap.size i D rfl hD1 _ _ rfl (keyOf_int_mk Try.underlying3 HWF.out) ?_; intro c hat hwc; clear hat hwc)
          | (go_at_call 72; refine (HIE.out _).mono ?_; rintro e w2 ⟨rfl, hb2⟩; have HY := hide (HX.out.on hb2); clear hb2 p0 p1 p2 p3 p4)
          | fail)
        go_ret2
        exact .inl ⟨i, HB2.out, rfl, HY.out.bel⟩
    · obtain rfl : i = n := by omega
      have HBD := hide (bad_none (evs := evs) (by rw [← HN.out, HR.out]; rfl))
      go_wp2
      go_ret2
      exact .inr ⟨_, l, last, HBD.out, by rw [← HN.out]; exact HR.out, rfl, HS.out.base (Nat.le_succ _), HB.out⟩
end Go.Proofs.Ytfoeljcgbfpknaa
