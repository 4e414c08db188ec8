/- spread: a row gone over. -/
import Derived.Test.YtehlciejhegndaaWait
namespace Go.Proofs.Ytehlciejhegndaa
open Go.RowKit Go.Lib
set_option linter.unusedVariables false

/-- What a spread may turn. -/
def ST (w : World) (Q G : Nat) (v : Value) (k : Nat) : Prop := k = G ∨ QT w Q v k
/-- A step's blocks are a walk's blocks. -/
theorem st_step {w wr w' : World} {Q G : Nat} {v v1 v2 : Value} (h0 : Chg (ST w Q G v) w wr) (h1 : ∀ k, v1.ownBlock = some k → QT w Q v k) (hc : Chg (QT wr Q v1) wr w') (h2 : ∀ k, v2.ownBlock = some k → QT wr Q v1 k) :
    Chg (ST w Q G v) w w' ∧ ∀ k, v2.ownBlock = some k → QT w Q v k := by
  have hm : ∀ k, QT wr Q v1 k → QT w Q v k := fun k hk => by
    rcases hk with hk | hk | hk
    · exact .inl hk
    · exact h1 k hk
    · exact .inr (.inr (Nat.le_trans h0.size hk))
  exact ⟨h0.trans (hc.mono fun k hk => .inr (hm k hk)), fun k hk => hm k (h2 k hk)⟩
/-- A box of four cells that nothing turns. -/
theorem box_chg {w w' : World} {S : Nat → Prop} {X : Nat} {o : Obj} (h : w.heap[X]? = some o) (hc : Chg S w w') (hX : ¬ S X) : w'.heap[X]? = some o := hc.heap h hX

def SpreadPost (n : Nat) (st tl wt : List Int) (k : Int) (S : List Pr) (w : World) (Q B G V : Nat) (v : Value) (D : Nat → Bool) (b : Int) (M u : Nat) (e : Ending) (w' : World) : Prop :=
  e = .returned (.tuple #[]) ∧ ∃ v' q' L' P', SM w' Q B G V n v' q' L' ∧ Hp q' ∧ DJ n st tl wt k S L' q' (fun x => if x = u then true else D x) b P' none ∧ n + tl.length + q'.length = M + P' ∧ Chg (ST w Q G v) w w' ∧ ∀ k, v'.ownBlock = some k → QT w Q v k

/-- A spread under way, at the place i. -/
structure SI (n : Nat) (st tl wt : List Int) (k : Int) (S : List Pr) (w0 w1 wr : World) (Q B G V X M u : Nat) (v : Value) (D : Nat → Bool) (b : Int) (bx : Obj) (i : Nat) (v1 : Value) (q1 : List Pr) (L1 : List Int) (P1 : Nat) : Prop where
  sm : SM wr Q B G V n v1 q1 L1
  hp : Hp q1
  dj : DJ n st tl wt k S L1 q1 D b P1 (some (u, i))
  lo : at_ st u ≤ (i : Int)
  hi : (i : Int) ≤ at_ st (u + 1)
  hb : b = at_ L1 u
  cnt : n + tl.length + q1.length = M + P1
  chg : Chg (ST w1 Q G v) w1 wr
  own : ∀ k, v1.ownBlock = some k → QT w1 Q v k
  bel : Below w0.heap.size w0 wr
  box : wr.heap[X]? = some bx
/-- The walls between the blocks. -/
structure Walls (w0 w1 : World) (Q B G X : Nat) (v : Value) : Prop where
  q0 : w0.heap.size ≤ Q
  g0 : w0.heap.size ≤ G
  b0 : w0.heap.size ≤ B
  s0 : w0.heap.size ≤ w1.heap.size
  xQ : X ≠ Q
  xG : X ≠ G
  xv : v.ownBlock ≠ some X
  x1 : X < w1.heap.size
  vB : ∀ k, v.ownBlock = some k → B ≤ k
theorem Walls.old {w0 w1 : World} {Q B G X : Nat} {v : Value} (h : Walls w0 w1 Q B G X v) (k : Nat) (hk : k < w0.heap.size) : ¬ ST w1 Q G v k := by
  intro hs
  rcases hs with hs | hs | hs | hs
  · have := h.g0; omega
  · have := h.q0; omega
  · have := h.vB k hs; have := h.b0; omega
  · have := h.s0; omega
theorem Walls.box {w0 w1 : World} {Q B G X : Nat} {v : Value} (h : Walls w0 w1 Q B G X v) : ¬ ST w1 Q G v X := by
  intro hs
  rcases hs with hs | hs | hs | hs
  · exact h.xG hs
  · exact h.xQ hs
  · exact h.xv hs
  · have := h.x1; omega
theorem below_of_chg {w0 w w' : World} {S : Nat → Prop} (h : Below w0.heap.size w0 w) (hc : Chg S w w') (hS : ∀ k, k < w0.heap.size → ¬ S k) : Below w0.heap.size w0 w' :=
  h.trans ⟨hc.os, hc.tape, hc.output, hc.size, fun i hi => hc.block i (Nat.lt_of_lt_of_le hi h.size) (hS i hi)⟩
variable {n : Nat} {st tl wt : List Int} {k : Int} {S : List Pr} {w0 w1 wr w' : World} {Q B G V X M u : Nat} {v : Value} {D : Nat → Bool} {b : Int} {bx : Obj} {i : Nat} {v1 : Value} {q1 : List Pr} {L1 : List Int} {P1 : Nat}
theorem SI.drew (h : SI n st tl wt k S w0 w1 wr Q B G V X M u v D b bx i v1 q1 L1 P1) (m : Nat) : SI n st tl wt k S w0 w1 (wr.drewN m) Q B G V X M u v D b bx i v1 q1 L1 P1 := by
  have hb : Below wr.heap.size wr (wr.drewN m) := below_drewN (Below.refl _ _) m
  exact ⟨h.sm.below hb, h.hp, h.dj, h.lo, h.hi, h.hb, h.cnt, h.chg.trans (Chg.of_below hb), h.own, below_on h.bel hb, (hb.block X (lt_of_heap h.box)).trans h.box⟩
theorem SI.skip (hg : Good n st tl wt) (h : SI n st tl wt k S w0 w1 wr Q B G V X M u v D b bx i v1 q1 L1 P1) (hu : u < n) (hlt : (i : Int) < at_ st (u + 1)) (hx : ¬ ext k (at_ L1 u) (at_ wt i) < at_ L1 (tov tl i)) : SI n st tl wt k S w0 w1 wr Q B G V X M u v D b bx (i + 1) v1 q1 L1 P1 := by
  have him : i < tl.length := by have := (hg.range (u + 1) (by omega)).2; omega
  refine ⟨h.sm, h.hp, dj_skip h.dj him (src_eq hg hu h.lo hlt) hx, by have := h.lo; omega, by omega, h.hb, h.cnt, h.chg, h.own, h.bel, h.box⟩
theorem SI.lower (hg : Good n st tl wt) (hw : ∀ e, 0 ≤ at_ wt e) (hW : Walls w0 w1 Q B G X v) (h : SI n st tl wt k S w0 w1 wr Q B G V X M u v D b bx i v1 q1 L1 P1) (hu : u < n) (hlt : (i : Int) < at_ st (u + 1)) (hx : ext k (at_ L1 u) (at_ wt i) < at_ L1 (tov tl i))
    {v2 : Value} {q2 : List Pr} (hc : Chg (QT (wr.setCell ⟨G, tov tl i, none⟩ (.int .u64 (ext k (at_ L1 u) (at_ wt i)))) Q v1) (wr.setCell ⟨G, tov tl i, none⟩ (.int .u64 (ext k (at_ L1 u) (at_ wt i)))) w') (hsm : SM w' Q B G V n v2 q2 (L1.set (tov tl i) (ext k (at_ L1 u) (at_ wt i)))) (hp : Hp q2) (hl : q2.length = q1.length + 1)
    (hm : ∀ e, e ∈ q2 ↔ e ∈ q1 ∨ e = (at_ (L1.set (tov tl i) (ext k (at_ L1 u) (at_ wt i))) (tov tl i), (tov tl i : Int))) (ho : ∀ j, v2.ownBlock = some j → QT (wr.setCell ⟨G, tov tl i, none⟩ (.int .u64 (ext k (at_ L1 u) (at_ wt i)))) Q v1 j) :
    ∃ L2 P2, SI n st tl wt k S w0 w1 w' Q B G V X M u v D b bx (i + 1) v2 q2 L2 P2 := by
  have him : i < tl.length := by have := (hg.range (u + 1) (by omega)).2; omega
  have hvt : tov tl i < L1.length := by rw [h.dj.len]; exact (tov_lt hg him).1
  have he : at_ (L1.set (tov tl i) (ext k (at_ L1 u) (at_ wt i))) (tov tl i) = ext k (at_ L1 u) (at_ wt i) := by rw [at_set _ _ _ _ hvt, if_pos rfl]
  rw [he] at hm
  obtain ⟨d1, d2, d3⟩ := dj_lower hg hw h.dj hu him (src_eq hg hu h.lo hlt) rfl rfl hx h.hb hm hl
  have c1 : Chg (ST w1 Q G v) w1 (wr.setCell ⟨G, tov tl i, none⟩ (.int .u64 (ext k (at_ L1 u) (at_ wt i)))) := h.chg.setCell (p := ⟨G, tov tl i, none⟩) (.inl rfl) _
  obtain ⟨c2, o2⟩ := st_step c1 h.own hc ho
  refine ⟨_, P1 + 1, hsm, hp, d1, by have := h.lo; omega, by omega, by rw [d2]; exact h.hb, by have := h.cnt; omega, c2, o2, ?_, ?_⟩
  · have b1 : Below w0.heap.size w0 (wr.setCell ⟨G, tov tl i, none⟩ (.int .u64 (ext k (at_ L1 u) (at_ wt i)))) := h.bel.setCell (p := ⟨G, tov tl i, none⟩) hW.g0 _
    refine below_of_chg b1 hc fun j hj hs => ?_
    rcases hs with hs | hs | hs
    · exact hW.old j hj (.inr (.inl hs))
    · exact hW.old j hj (.inr (h.own j hs))
    · have := b1.size; omega
  · have hX := lt_of_heap h.box
    refine box_chg (S := QT (wr.setCell ⟨G, tov tl i, none⟩ (.int .u64 (ext k (at_ L1 u) (at_ wt i)))) Q v1) ?_ hc fun hs => ?_
    · rw [Below.heap_setCell _ _ _ _ hW.xG]; exact h.box
    · rcases hs with hs | hs | hs
      · exact hW.xQ hs
      · exact hW.box (.inr (h.own X hs))
      · simp [World.setCell] at hs; omega
end Go.Proofs.Ytehlciejhegndaa
