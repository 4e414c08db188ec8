import Derived.Test.YtiohimbifjlfdaaEg
import Derived.Test.YtiohimbifjlfdaaLaiO
import Derived.Test.YtiohimbifjlfdaaMt
import Derived.Test.YtiohimbifjlfdaaChecks
import Derived.Test.YtiohimbifjlfdaaTw
import Derived.Test.YtiohimbifjlfdaaKr
/- The document's Turn. -/
namespace Go.Proofs.Ytiohimbifjlfdaa
open Go.RowKit Go.Lib
set_option linter.unusedVariables false
set_option linter.unusedSimpArgs false
def swE (x : Ed3) : Ed3 := (x.2.1, x.1, x.2.2)
/-- The first k are turned. -/
def swL (l : List Ed3) (k : Nat) : List Ed3 := (List.range l.length).map (fun i => if i < k then swE (eAt l i) else eAt l i)
theorem swL_length (l : List Ed3) (k : Nat) : (swL l k).length = l.length := by simp [swL]
theorem swL_at {l : List Ed3} {k i : Nat} (h : i < l.length) : eAt (swL l k) i = if i < k then swE (eAt l i) else eAt l i := by simp [swL, eAt, h]
theorem swL_zero (l : List Ed3) : swL l 0 = l := by
  apply List.ext_getElem
  · simp [swL]
  · intro i h1 h2; simp [swL, eAt, h2]
theorem swL_next {l : List Ed3} {k : Nat} (h : k < l.length) : (swL l k).set k (swE (eAt l k)) = swL l (k + 1) := by
  apply List.ext_getElem
  · simp [swL]
  · intro i h1 h2
    have hi : i < l.length := by simpa [swL] using h2
    rw [List.getElem_set]
    simp only [swL, List.getElem_map, List.getElem_range]
    by_cases e : k = i
    · subst e; rw [if_pos rfl, if_pos (by omega)]
    · rw [if_neg e]
      by_cases h3 : i < k
      · rw [if_pos h3, if_pos (by omega)]
      · rw [if_neg h3, if_neg (by omega)]
/-- A row of edges of one's own. -/
def EW (w : World) (g : Nat) (l : List Ed3) : Prop := ∃ cs, w.heap[g]? = some (.cells cs 48 (0, 0)) ∧ ∀ i, i < l.length → cs[i * 3]? = some (.int .i64 (eAt l i).1) ∧ cs[i * 3 + 1]? = some (.int .i64 (eAt l i).2.1) ∧ cs[i * 3 + 2]? = some (.int .u64 (eAt l i).2.2)
theorem EW.cells {w : World} {g : Nat} {l : List Ed3} (h : EW w g l) {i : Nat} (hi : i < l.length) : w.cell? ⟨g, i * 3, none⟩ = some (.int .i64 (eAt l i).1) ∧ w.cell? ⟨g, i * 3 + 1, none⟩ = some (.int .i64 (eAt l i).2.1) ∧ w.cell? ⟨g, i * 3 + 2, none⟩ = some (.int .u64 (eAt l i).2.2) := by
  obtain ⟨cs, h1, h2⟩ := h
  obtain ⟨a, b, c⟩ := h2 i hi
  exact ⟨cell_of h1 a, cell_of h1 b, cell_of h1 c⟩
theorem EW.free {w : World} {g : Nat} {l : List Ed3} (h : EW w g l) (i : Nat) : w.frozen? ⟨g, i, none⟩ = false := by
  obtain ⟨cs, h1, _⟩ := h
  exact free_of h1 i
theorem EW.put {w : World} {g : Nat} {l : List Ed3} (h : EW w g l) {i : Nat} (hi : i < l.length) (a b : Int) : EW ((w.setCell ⟨g, i * 3, none⟩ (.int .i64 a)).setCell ⟨g, i * 3 + 1, none⟩ (.int .i64 b)) g (l.set i (a, b, (eAt l i).2.2)) := by
  obtain ⟨cs, h1, h2⟩ := h
  refine ⟨_, heap_set (heap_set h1 _) _, fun j hj => ?_⟩
  rw [List.length_set] at hj
  have hsz : i * 3 + 2 < cs.size := by
    have := (h2 i hi).2.2
    exact (Array.getElem?_eq_some_iff.1 this).1
  by_cases e : j = i
  · subst e
    have ea : eAt (l.set j (a, b, (eAt l j).2.2)) j = (a, b, (eAt l j).2.2) := by simp [eAt, hj]
    rw [ea]
    refine ⟨?_, ?_, ?_⟩
    · rw [Array.getElem?_setIfInBounds_ne (by omega), Array.getElem?_setIfInBounds_self_of_lt (by omega)]
    · rw [Array.getElem?_setIfInBounds_self_of_lt (by simp; omega)]
    · rw [Array.getElem?_setIfInBounds_ne (by omega), Array.getElem?_setIfInBounds_ne (by omega)]
      exact (h2 j hj).2.2
  · have ea : eAt (l.set i (a, b, (eAt l i).2.2)) j = eAt l j := by
      unfold eAt; rw [List.getElem?_set_ne (fun h => e h.symm)]
    rw [ea]
    obtain ⟨p, q, r⟩ := h2 j hj
    refine ⟨?_, ?_, ?_⟩
    · rw [Array.getElem?_setIfInBounds_ne (by omega), Array.getElem?_setIfInBounds_ne (by omega)]; exact p
    · rw [Array.getElem?_setIfInBounds_ne (by omega), Array.getElem?_setIfInBounds_ne (by omega)]; exact q
    · rw [Array.getElem?_setIfInBounds_ne (by omega), Array.getElem?_setIfInBounds_ne (by omega)]; exact r
theorem EW.of_owns {w : World} {base g n c : Nat} {l : List Ed3} (h : w.ownsRow base 48 3 (.slice (some ⟨g, 0, none⟩) n c) l.length (eCells l)) : EW w g l ∧ l.length ≤ c ∧ c ≤ 9223372036854775807 ∧ base ≤ g ∧ n = l.length := by
  obtain ⟨h1, ⟨he, _⟩ | ⟨g', cap, cur, he, hg, hh, hnc, hcm, hcur, htake⟩⟩ := h
  · simp at he
  · simp only [Value.slice.injEq, Option.some.injEq, Addr.mk.injEq, and_true] at he
    obtain ⟨rfl, rfl, rfl⟩ := he
    refine ⟨⟨cur, hh, fun k hk => ?_⟩, hnc, hcm, hg, rfl⟩
    obtain ⟨p, q, r⟩ := eCells_at l k hk
    have hx : ∀ j, j < l.length * 3 → cur[j]? = (eCells l)[j]? := fun j hj => by
      have : (cur.toList.take (l.length * 3))[j]? = (eCells l)[j]? := by rw [htake]
      rw [List.getElem?_take_of_lt hj] at this
      rw [← this]; simp
    exact ⟨(hx _ (by omega)).trans p, (hx _ (by omega)).trans q, (hx _ (by omega)).trans r⟩
theorem EW.eat {w : World} {g c : Nat} {l : List Ed3} (h : EW w g l) (hc : l.length ≤ c) (hc2 : c ≤ 9223372036854775807) : EAt w (.slice (some ⟨g, 0, none⟩) l.length c) l := by
  refine ⟨_, c, rfl, hc, hc2, fun i hi => ⟨g, 0, rfl, ?_⟩⟩
  obtain ⟨p, q, r⟩ := h.cells hi
  rw [Nat.zero_add]
  exact ⟨p, q, r⟩

/-- A row of edges, none or of one's own from B on. -/
def ER (w : World) (v : Value) (l : List Ed3) (B : Nat) : Prop := (v = .slice none 0 0 ∧ l = []) ∨ ∃ g c, v = .slice (some ⟨g, 0, none⟩) l.length c ∧ l.length ≤ c ∧ c ≤ 9223372036854775807 ∧ B ≤ g ∧ EW w g l
theorem ER.of_owns {w : World} {B : Nat} {v : Value} {l : List Ed3} (h : w.ownsRow B 48 3 v l.length (eCells l)) : ER w v l B := by
  have h0 := h
  obtain ⟨h1, ⟨rfl, hl⟩ | ⟨g, cap, cur, rfl, _⟩⟩ := h
  · exact .inl ⟨rfl, List.length_eq_zero_iff.1 hl⟩
  · obtain ⟨a, b, c, d, _⟩ := EW.of_owns h0
    exact .inr ⟨g, cap, rfl, b, c, d, a⟩
theorem ER.eat {w : World} {B : Nat} {v : Value} {l : List Ed3} (h : ER w v l B) : EAt w v l := by
  rcases h with ⟨rfl, rfl⟩ | ⟨g, c, rfl, h1, h2, _, h3⟩
  · exact ⟨none, 0, rfl, Nat.le_refl _, by omega, fun i hi => by simp at hi⟩
  · exact h3.eat h1 h2
theorem MT.far {w x : World} {N : Int} {va vb vc : Value} (h : MT w x N va vb vc) {g i : Nat} (hg : w.heap.size + 1 < g) (v : Value) : MT w (x.setCell ⟨g, i, none⟩ v) N va vb vc :=
  ⟨(Below.heap_setCell _ _ _ _ (by show _ ≠ g; omega)).trans h.bg, (Below.heap_setCell _ _ _ _ (by show _ ≠ g; omega)).trans h.rs, h.bel.setCell (p := ⟨g, i, none⟩) (by show _ ≤ g; omega) v⟩
theorem EW.drew {w : World} {g : Nat} {l : List Ed3} (h : EW w g l) : EW w.drew g l := h

def TurnR (w : World) (n : Nat) (st tl wt : List Int) (e : Ending) (w' : World) : Prop :=
  ∃ va vb vc st' tl' wt' nx L, e = .returned (.tuple #[gAgg n va vb vc, .int .i64 0]) ∧ GIs w' n va vb vc st' tl' wt' ∧ L = swL (gEdges n st tl wt tl.length) tl.length ∧ Summed n tl.length (eFrom L) n st' ∧ Laying n tl.length (eFrom L) (eTo L) (eWt L) tl.length nx tl' wt' ∧ Below w.heap.size w w'
theorem sw_takes {n : Nat} {st tl wt : List Int} (hg : Good n st tl wt) (hw : ∀ e, 0 ≤ at_ wt e) : Takes n (swL (gEdges n st tl wt tl.length) tl.length) := by
  have hl : (swL (gEdges n st tl wt tl.length) tl.length).length = tl.length := by rw [swL_length, gEdges_length]
  have ha : ∀ i, i < tl.length → eAt (swL (gEdges n st tl wt tl.length) tl.length) i = (at_ tl i, (src st n i : Int), at_ wt i) := fun i hi => by
    rw [swL_at (by rw [gEdges_length]; exact hi), if_pos hi, gEdges_at hi]; rfl
  refine ⟨hg.n_le, by rw [hl]; exact hg.m_le, fun i hi => ?_, fun i hi => ?_, fun i hi => ?_⟩
  · rw [hl] at hi; rw [ha i hi]; have := hg.vtx i hi; exact ⟨this.1, this.2.1⟩
  · rw [hl] at hi; rw [ha i hi]; have := src_lt hg hi; exact ⟨by simp, by simp; omega⟩
  · rw [hl] at hi; rw [ha i hi]; have := hg.vtx i hi; exact ⟨hw i, this.2.2⟩
end Go.Proofs.Ytiohimbifjlfdaa

/- A turned graph, plainly. -/
namespace Go.Proofs.Ytiohimbifjlfdaa
set_option linter.unusedVariables false
theorem inj_surj : ∀ (m : Nat) (f : Nat → Nat), (∀ i, i < m → f i < m) → (∀ i j, i < m → j < m → f i = f j → i = j) → ∀ y, y < m → ∃ i, i < m ∧ f i = y := by
  intro m
  induction m with
  | zero => intro f _ _ y hy; omega
  | succ m ih =>
    intro f hlt hinj y hy
    have hg : ∀ y, y < m → ∃ i, i < m ∧ (if f i = m then f m else f i) = y := by
      refine ih (fun i => if f i = m then f m else f i) (fun i hi => ?_) (fun i j hi hj he => ?_)
      · show (if f i = m then f m else f i) < m
        have h1 := hlt i (by omega)
        have h2 := hlt m (by omega)
        split
        · rename_i e
          have : f m ≠ m := fun h => by have := hinj i m (by omega) (by omega) (by omega); omega
          omega
        · omega
      · split at he <;> split at he
        · exact hinj i j (by omega) (by omega) (by omega)
        · have := hinj m j (by omega) (by omega) he; omega
        · have := hinj i m (by omega) (by omega) he; omega
        · exact hinj i j (by omega) (by omega) he
    by_cases hm : y = m
    · by_cases h : f m = m
      · exact ⟨m, by omega, by omega⟩
      · obtain ⟨i, hi, he⟩ := hg (f m) (by have := hlt m (by omega); omega)
        split at he
        · rename_i e; exact ⟨i, by omega, by omega⟩
        · have := hinj i m (by omega) (by omega) he; omega
    · obtain ⟨i, hi, he⟩ := hg y (by omega)
      split at he
      · exact ⟨m, by omega, he⟩
      · exact ⟨i, by omega, he⟩
theorem flip_of {n : Nat} {st tl wt st' tl' wt' nx : List Int} {F T : Nat → Nat} {W : Nat → Int} (hg : Good n st tl wt) (hF : ∀ e, e < tl.length → F e = tN tl e) (hT : ∀ e, e < tl.length → T e = src st n e) (hs : Summed n tl.length F n st') (h : Laying n tl.length F T W tl.length nx tl' wt') :
    Good n st' tl' wt' ∧ ∀ x y, EE n (sN st') (tN tl') x y ↔ EE n (sN st) (tN tl) y x := by
  have hFn : ∀ i, i < tl.length → F i < n := fun i hi => by rw [hF i hi]; have := hg.vtx i hi; unfold tN; omega
  have hgd := h.good hs hFn hg.n_le hg.m_le
  have hE := fun i (hi : i < tl.length) => h.edge hs hFn hg.n_le hg.m_le hi
  refine ⟨hgd, fun x y => ?_⟩
  rw [ee_iff hgd, ee_iff hg]
  constructor
  · rintro ⟨e', he', h1, h2⟩
    rw [h.tlen] at he'
    obtain ⟨e, he, hp⟩ := inj_surj tl.length (place F tl.length) (fun i hi => place_lt hi) (fun i j hi hj hij => by
      rcases Nat.lt_trichotomy i j with h1 | h1 | h1
      · exact absurd hij (place_inj hj h1)
      · exact h1
      · exact absurd hij.symm (place_inj hi h1)) e' he'
    obtain ⟨q1, q2, q3, q4⟩ := hE e he
    rw [hp] at q1 q2 q3
    refine ⟨e, he, ?_, ?_⟩
    · rw [← hT e he, ← h2]; unfold tN; rw [q3]; omega
    · rw [← hF e he, ← h1, q2]
  · rintro ⟨e, he, h1, h2⟩
    obtain ⟨q1, q2, q3, q4⟩ := hE e he
    refine ⟨_, q1, ?_, ?_⟩
    · rw [q2, hF e he, h2]
    · unfold tN; rw [q3, hT e he, h1]; omega
theorem rc_flip {E F : Nat → Nat → Prop} (h : ∀ x y, F x y ↔ E y x) {a b : Nat} : Rc F a b ↔ Rc E b a := by
  constructor
  · intro hr
    induction hr with
    | refl => exact .refl _
    | head e _ ih => exact ih.trans (.one ((h _ _).1 e))
  · intro hr
    induction hr with
    | refl => exact .refl _
    | head e _ ih => exact ih.trans (.one ((h _ _).2 e))
theorem sw_from {n : Nat} {st tl wt : List Int} {e : Nat} (he : e < tl.length) : eFrom (swL (gEdges n st tl wt tl.length) tl.length) e = tN tl e ∧ eTo (swL (gEdges n st tl wt tl.length) tl.length) e = src st n e := by
  have ha : eAt (swL (gEdges n st tl wt tl.length) tl.length) e = (at_ tl e, (src st n e : Int), at_ wt e) := by
    rw [swL_at (by rw [gEdges_length]; exact he), if_pos he, gEdges_at he]; rfl
  unfold eFrom eTo
  rw [ha]
  exact ⟨rfl, by simp⟩
end Go.Proofs.Ytiohimbifjlfdaa
