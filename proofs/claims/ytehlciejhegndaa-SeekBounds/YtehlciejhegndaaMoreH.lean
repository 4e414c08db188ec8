import Derived.Test.YtehlciejhegndaaSrc
import Derived.Test.YtehlciejhegndaaFound
import Derived.Test.YtehlciejhegndaaSRow
import Derived.Test.YtehlciejhegndaaFrom
import Derived.Test.YtehlciejhegndaaLists
import Derived.Test.YtehlciejhegndaaSearch
import Derived.Test.YtehlciejhegndaaStG
/- The reference's laid: counting sort. Plain. -/
namespace Go.Proofs.Ytehlciejhegndaa
set_option linter.unusedVariables false
/-- How many below m there are of which p holds. -/
def cnt (p : Nat → Prop) [DecidablePred p] : Nat → Nat
  | 0 => 0
  | i + 1 => cnt p i + (if p i then 1 else 0)
theorem cnt_le (p : Nat → Prop) [DecidablePred p] (m : Nat) : cnt p m ≤ m := by
  induction m with
  | zero => exact Nat.le_refl _
  | succ m ih => unfold cnt; split <;> omega
theorem cnt_all {p : Nat → Prop} [DecidablePred p] {m : Nat} (h : ∀ i, i < m → p i) : cnt p m = m := by
  induction m with
  | zero => rfl
  | succ m ih => unfold cnt; rw [ih (fun i hi => h i (by omega)), if_pos (h m (by omega))]
theorem cnt_none {p : Nat → Prop} [DecidablePred p] {m : Nat} (h : ∀ i, i < m → ¬ p i) : cnt p m = 0 := by
  induction m with
  | zero => rfl
  | succ m ih => unfold cnt; rw [ih (fun i hi => h i (by omega)), if_neg (h m (by omega))]
theorem cnt_grow {p : Nat → Prop} [DecidablePred p] {i m : Nat} (h : i ≤ m) : cnt p i ≤ cnt p m := by
  induction m with
  | zero => have : i = 0 := by omega
            subst this; exact Nat.le_refl _
  | succ m ih =>
    rcases Nat.lt_or_ge m i with h1 | h1
    · have : i = m + 1 := by omega
      subst this; exact Nat.le_refl _
    · have := ih h1
      show _ ≤ cnt p m + _
      omega
theorem cnt_lt {p : Nat → Prop} [DecidablePred p] {i m : Nat} (h : i < m) (hp : p i) : cnt p i < cnt p m := by
  have h1 : cnt p (i + 1) ≤ cnt p m := cnt_grow h
  have h2 : cnt p (i + 1) = cnt p i + 1 := by show cnt p i + _ = _; rw [if_pos hp]
  omega
section
variable {n m : Nat} {F T : Nat → Nat} {W : Nat → Int}
/-- How many edges begin at a vertex below v. -/
def begins (F : Nat → Nat) (m v : Nat) : Nat := cnt (fun i => F i < v) m
/-- How many of the first i edges begin at v. -/
def outs (F : Nat → Nat) (v i : Nat) : Nat := cnt (fun j => F j = v) i
theorem begins_succ (F : Nat → Nat) (m v : Nat) : begins F m (v + 1) = begins F m v + outs F v m := by
  unfold begins outs
  induction m with
  | zero => rfl
  | succ m ih =>
    show cnt _ m + _ = cnt _ m + _ + (cnt _ m + _)
    rw [ih]
    by_cases h : F m < v
    · rw [if_pos (by omega), if_pos h, if_neg (by omega)]; omega
    · by_cases h1 : F m = v
      · rw [if_pos (by omega), if_neg h, if_pos h1]; omega
      · rw [if_neg (by omega), if_neg h, if_neg h1]; omega
theorem begins_zero (F : Nat → Nat) (m : Nat) : begins F m 0 = 0 := cnt_none fun i _ => by omega
theorem begins_all (h : ∀ i, i < m → F i < n) : begins F m n = m := cnt_all h
theorem begins_mono {u v : Nat} (h : u ≤ v) : begins F m u ≤ begins F m v := by
  induction v with
  | zero => have : u = 0 := by omega
            subst this; exact Nat.le_refl _
  | succ v ih =>
    rcases Nat.lt_or_ge v u with h1 | h1
    · have : u = v + 1 := by omega
      subst this; exact Nat.le_refl _
    · have := ih h1
      rw [begins_succ]; omega
theorem outs_succ (F : Nat → Nat) (v i : Nat) : outs F v (i + 1) = outs F v i + (if F i = v then 1 else 0) := rfl
/-- Where the edge i is laid. -/
def place (F : Nat → Nat) (m i : Nat) : Nat := begins F m (F i) + outs F (F i) i
theorem place_row {i : Nat} (h : i < m) : begins F m (F i) ≤ place F m i ∧ place F m i < begins F m (F i + 1) := by
  have : outs F (F i) i < outs F (F i) m := cnt_lt (p := fun j => F j = F i) h rfl
  unfold place
  rw [begins_succ]
  omega
theorem place_lt {i : Nat} (h : i < m) : place F m i < m := Nat.lt_of_lt_of_le (place_row h).2 (cnt_le _ m)
theorem place_inj {i j : Nat} (hi : i < m) (hj : j < i) : place F m j ≠ place F m i := by
  intro e
  have h1 := place_row (F := F) hi
  have h2 := place_row (F := F) (m := m) (i := j) (by omega)
  rcases Nat.lt_trichotomy (F i) (F j) with h | h | h
  · have := begins_mono (F := F) (m := m) (u := F i + 1) (v := F j) h
    omega
  · have h3 : outs F (F i) j < outs F (F i) i := cnt_lt (p := fun l => F l = F i) hj h.symm
    unfold place at e
    rw [← h] at e
    omega
  · have := begins_mono (F := F) (m := m) (u := F j + 1) (v := F i) h
    omega
theorem at_put {l : List Int} {a i : Nat} {x : Int} (h : a < l.length) : at_ (l.set a x) i = if i = a then x else at_ l i := by
  unfold at_
  by_cases e : i = a
  · subst e; rw [if_pos rfl, List.getElem?_set_self h]; rfl
  · rw [if_neg e, List.getElem?_set_ne (fun q => e q.symm)]
/-- The first loop: how many of the first i begin at each vertex, a place further. -/
def Tally (n : Nat) (F : Nat → Nat) (i : Nat) (l : List Int) : Prop := l.length = n + 1 ∧ at_ l 0 = 0 ∧ ∀ v, v < n → at_ l (v + 1) = (outs F v i : Int)
theorem Tally.step {i : Nat} {l : List Int} (h : Tally n F i l) (hF : F i < n) : Tally n F (i + 1) (l.set (F i + 1) (at_ l (F i + 1) + 1)) := by
  obtain ⟨h1, h2, h3⟩ := h
  refine ⟨by rw [List.length_set]; exact h1, by rw [at_put (by omega), if_neg (by omega)]; exact h2, fun v hv => ?_⟩
  rw [at_put (by omega), outs_succ]
  by_cases e : v = F i
  · subst e; rw [if_pos rfl, if_pos rfl, h3 _ hv]; omega
  · rw [if_neg (by omega), if_neg (fun q => e q.symm), h3 _ hv]; omega
/-- The second loop: summed up to v. -/
def Summed (n m : Nat) (F : Nat → Nat) (v : Nat) (l : List Int) : Prop := l.length = n + 1 ∧ (∀ u, u ≤ v → at_ l u = (begins F m u : Int)) ∧ ∀ u, v ≤ u → u < n → at_ l (u + 1) = (outs F u m : Int)
theorem Tally.summed {l : List Int} (h : Tally n F m l) : Summed n m F 0 l :=
  ⟨h.1, fun u hu => by have : u = 0 := by omega
                       subst this; rw [begins_zero]; exact h.2.1, fun u _ hu => h.2.2 u hu⟩
theorem Summed.step {v : Nat} {l : List Int} (h : Summed n m F v l) (hv : v < n) : Summed n m F (v + 1) (l.set (v + 1) (at_ l (v + 1) + at_ l v)) := by
  obtain ⟨h1, h2, h3⟩ := h
  refine ⟨by rw [List.length_set]; exact h1, fun u hu => ?_, fun u h4 hu => ?_⟩
  · rw [at_put (by omega)]
    by_cases e : u = v + 1
    · subst e; rw [if_pos rfl, h3 v (Nat.le_refl _) hv, h2 v (Nat.le_refl _), begins_succ]; omega
    · rw [if_neg e]; exact h2 u (by omega)
  · rw [at_put (by omega), if_neg (by omega)]; exact h3 u (by omega) hu
/-- The third loop: the first i are laid. -/
structure Laying (n m : Nat) (F T : Nat → Nat) (W : Nat → Int) (i : Nat) (nx tl wt : List Int) : Prop where
  nlen : nx.length = n + 1
  nxa : ∀ v, v < n → at_ nx v = (begins F m v + outs F v i : Nat)
  tlen : tl.length = m
  wlen : wt.length = m
  tla : ∀ j, j < i → at_ tl (place F m j) = T j
  wta : ∀ j, j < i → at_ wt (place F m j) = W j
  tin : ∀ e, e < m → 0 ≤ at_ tl e ∧ at_ tl e < n
  win : ∀ e, e < m → 0 ≤ at_ wt e ∧ at_ wt e ≤ 4294967295
theorem Laying.at {i : Nat} {nx tl wt : List Int} (h : Laying n m F T W i nx tl wt) (hF : F i < n) : at_ nx (F i) = (place F m i : Int) := h.nxa _ hF
theorem Laying.step {i : Nat} {nx tl wt : List Int} (h : Laying n m F T W i nx tl wt) (hi : i < m) (hF : F i < n) (hT : T i < n) (hW : 0 ≤ W i ∧ W i ≤ 4294967295) :
    Laying n m F T W (i + 1) (nx.set (F i) (at_ nx (F i) + 1)) (tl.set (place F m i) (T i)) (wt.set (place F m i) (W i)) := by
  have hp := place_lt (F := F) hi
  have h1 := h.nlen
  have h2 := h.tlen
  have h3 := h.wlen
  refine ⟨by rw [List.length_set]; exact h1, fun v hv => ?_, by rw [List.length_set]; exact h2, by rw [List.length_set]; exact h3, fun j hj => ?_, fun j hj => ?_, fun e he => ?_, fun e he => ?_⟩
  · rw [at_put (by omega), outs_succ]
    by_cases e : v = F i
    · subst e; rw [if_pos rfl, if_pos rfl, h.nxa _ hv]; omega
    · rw [if_neg e, if_neg (fun q => e q.symm), h.nxa _ hv]; omega
  · rw [at_put (by omega)]
    by_cases e : j = i
    · subst e; rw [if_pos rfl]
    · rw [if_neg (place_inj hi (by omega))]; exact h.tla j (by omega)
  · rw [at_put (by omega)]
    by_cases e : j = i
    · subst e; rw [if_pos rfl]
    · rw [if_neg (place_inj hi (by omega))]; exact h.wta j (by omega)
  · rw [at_put (by omega)]
    split
    · omega
    · exact h.tin e he
  · rw [at_put (by omega)]
    split
    · exact hW
    · exact h.win e he
/-- What was laid is a graph, and each edge lies in it. -/
theorem Laying.good {st nx tl wt : List Int} (hs : Summed n m F n st) (h : Laying n m F T W m nx tl wt) (hF : ∀ i, i < m → F i < n) (hn : n ≤ 1048576) (hm : m ≤ 4194304) : Good n st tl wt where
  n_le := hn
  m_le := by rw [h.tlen]; exact hm
  s_len := hs.1
  w_len := by rw [h.wlen, h.tlen]
  rows i hi := by
    have h1 := hs.2.1 i (by omega)
    have h2 : begins F m i ≤ m := cnt_le _ m
    have h3 : ahead st i ≤ at_ st i := by
      unfold ahead
      by_cases e : i = 0
      · rw [if_pos e, h1]; omega
      · rw [if_neg e, h1, hs.2.1 (i - 1) (by omega)]
        have := begins_mono (F := F) (m := m) (u := i - 1) (v := i) (by omega)
        omega
    unfold BadRow
    rw [h.tlen]
    rintro (h4 | h4 | h4 | h4)
    · omega
    · omega
    · obtain ⟨e, h5⟩ := h4
      subst e; rw [h1, begins_zero] at h5; exact h5 rfl
    · obtain ⟨e, h5⟩ := h4
      subst e; rw [h1, begins_all hF] at h5; exact h5 rfl
  edges e he := by
    rw [h.tlen] at he
    unfold edgeNo
    rw [if_pos (show IsV n (at_ tl e) from h.tin e he), if_neg (by have := (h.win e he).2; omega)]
theorem Laying.edge {st nx tl wt : List Int} (hs : Summed n m F n st) (h : Laying n m F T W m nx tl wt) (hF : ∀ i, i < m → F i < n) (hn : n ≤ 1048576) (hm : m ≤ 4194304) {i : Nat} (hi : i < m) :
    place F m i < tl.length ∧ src st n (place F m i) = F i ∧ at_ tl (place F m i) = T i ∧ at_ wt (place F m i) = W i := by
  have hr := place_row (F := F) hi
  have hf := hF i hi
  refine ⟨by rw [h.tlen]; exact place_lt hi, src_eq (h.good hs hF hn hm) hf ?_ ?_, h.tla i hi, h.wta i hi⟩
  · rw [hs.2.1 _ (by omega)]; omega
  · rw [hs.2.1 _ (by omega)]; omega
end
end Go.Proofs.Ytehlciejhegndaa

/- RouteMore: with more edges and more starts no label is greater; with a start that has the label already none changes. Plain. -/
namespace Go.Proofs.Ytehlciejhegndaa
set_option linter.unusedVariables false
section
variable {n : Nat} {st tl wt st' tl' wt' : List Int} {k : Int} {S S' : List Pr} {L M : List Int}
/-- Each edge and each start of the one is an edge and a start of the other. -/
structure Wider (n : Nat) (st tl wt : List Int) (S : List Pr) (st' tl' wt' : List Int) (S' : List Pr) : Prop where
  ed : ∀ e, e < tl.length → ∃ e', e' < tl'.length ∧ src st' n e' = src st n e ∧ tov tl' e' = tov tl e ∧ at_ wt' e' = at_ wt e
  sd : ∀ j, j < S.length → ∃ j', j' < S'.length ∧ sAt S' j' = sAt S j
theorem Came.wider (h : Wider n st tl wt S st' tl' wt' S') {v : Nat} {x : Int} (c : Came n st tl wt k S v x) : Came n st' tl' wt' k S' v x := by
  induction c with
  | start j v x hj hv hs =>
    obtain ⟨j', h1, h2⟩ := h.sd j hj
    exact .start j' v x h1 hv (h2.trans hs)
  | edge e x he hx _ ih =>
    obtain ⟨e', h1, h2, h3, h4⟩ := h.ed e he
    rw [← h3, ← h4]
    exact .edge e' x h1 hx (by rw [h2]; exact ih)
theorem Found.below (h : Wider n st tl wt S st' tl' wt' S') (hf : Found n st tl wt k S L) (hg : Found n st' tl' wt' k S' M)
    (hw : ∀ e, 0 ≤ at_ wt' e ∧ at_ wt' e ≤ 18446744073709551615) (hS : ∀ j, j < S'.length → 0 ≤ (sAt S' j).2 ∧ (sAt S' j).2 ≤ 18446744073709551615) {v : Nat} (hv : v < n) : at_ M v ≤ at_ L v := by
  by_cases hn : at_ L v = Nev
  · rw [hn]; exact (hg.rng v hv).2
  · exact (hg.le hw hS (Came.wider h (hf.came v hv hn))).1
theorem sAt_left {T : List Pr} {j : Nat} (hj : j < S.length) : sAt (S ++ T) j = sAt S j := by
  unfold sAt
  rw [List.getElem?_append_left hj]
theorem sAt_end {a : Pr} : sAt (S ++ [a]) S.length = a := by
  unfold sAt
  rw [List.getElem?_append_right (Nat.le_refl _), Nat.sub_self]
  rfl
theorem wider_start (T : List Pr) : Wider n st tl wt S st tl wt (S ++ T) where
  ed e he := ⟨e, he, rfl, rfl, rfl⟩
  sd j hj := ⟨j, by rw [List.length_append]; omega, sAt_left hj⟩
/-- A start more that has the label which its vertex has already: the labels are still found. -/
theorem Found.same (hf : Found n st tl wt k S M) {v : Nat} (hv : v < n) : Found n st tl wt k (S ++ [((v : Int), at_ M v)]) M where
  len := hf.len
  rng := hf.rng
  bell := hf.bell
  att u hu hn := by
    rcases hf.att u hu hn with ⟨j, h1, h2⟩ | h1
    · exact .inl ⟨j, by rw [List.length_append]; omega, by rw [sAt_left h1, h2]⟩
    · exact .inr h1
  sts j hj := by
    rw [List.length_append, List.length_singleton] at hj
    rcases Nat.lt_or_ge j S.length with h1 | h1
    · rw [sAt_left h1]; exact hf.sts j h1
    · have : j = S.length := by omega
      subst this
      rw [sAt_end]
      exact ⟨v, hv, rfl, Int.le_refl _⟩
  came u hu hn := Came.wider (wider_start _) (hf.came u hu hn)
theorem Found.again (hf : Found n st tl wt k S M) {v : Nat} (hv : v < n) (hg : Found n st tl wt k (S ++ [((v : Int), at_ M v)]) L)
    (hw : ∀ e, 0 ≤ at_ wt e ∧ at_ wt e ≤ 18446744073709551615) (hS : ∀ j, j < S.length → 0 ≤ (sAt S j).2 ∧ (sAt S j).2 ≤ 18446744073709551615) : L = M := by
  refine hg.only (hf.same hv) hw fun j hj => ?_
  rw [List.length_append, List.length_singleton] at hj
  rcases Nat.lt_or_ge j S.length with h1 | h1
  · rw [sAt_left h1]; exact hS j h1
  · have : j = S.length := by omega
    subst this
    rw [sAt_end]
    have := hf.rng v hv
    exact ⟨this.1, Int.le_trans this.2 (by unfold Nev; omega)⟩
end
end Go.Proofs.Ytehlciejhegndaa

/- A list of edges in memory; what the reference's Build asks of it. -/
namespace Go.Proofs.Ytehlciejhegndaa
open Go.RowKit Go.Lib
set_option linter.unusedVariables false
/-- An edge: from, to, weight. -/
abbrev Ed3 : Type := Int × Int × Int
def eAt (l : List Ed3) (i : Nat) : Ed3 := l[i]?.getD (0, 0, 0)
def ERow (w : World) (v : Value) (l : List Ed3) : Prop :=
  (v = .slice none 0 0 ∧ l = []) ∨ ∃ g c, v = .slice (some ⟨g, 0, none⟩) l.length c ∧ l.length ≤ c ∧ c ≤ 9223372036854775807 ∧
    ∀ i, i < l.length → w.cell? ⟨g, i * 3, none⟩ = some (.int .i64 (eAt l i).1) ∧ w.cell? ⟨g, i * 3 + 1, none⟩ = some (.int .i64 (eAt l i).2.1) ∧ w.cell? ⟨g, i * 3 + 2, none⟩ = some (.int .u64 (eAt l i).2.2)
theorem ERow.below {w w' : World} {v : Value} {l : List Ed3} (h : ERow w v l) (hb : Below w.heap.size w w') : ERow w' v l := by
  rcases h with h | ⟨g, c, rfl, h1, h2, h3⟩
  · exact .inl h
  · refine .inr ⟨g, c, rfl, h1, h2, fun i hi => ?_⟩
    obtain ⟨p, q, r⟩ := h3 i hi
    have hl : g < w.heap.size := block_of_cell p
    exact ⟨(below_cell hb hl).trans p, (below_cell hb hl).trans q, (below_cell hb hl).trans r⟩
theorem ERow.nil (w : World) : ERow w (.slice none 0 0) [] := .inl ⟨rfl, rfl⟩
/-- The edges' cells. -/
def eCells (l : List Ed3) : List Value := l.flatMap fun p => [.int .i64 p.1, .int .i64 p.2.1, .int .u64 p.2.2]
theorem eCells_length (l : List Ed3) : (eCells l).length = l.length * 3 := by
  induction l with
  | nil => rfl
  | cons a l ih => simp [eCells] at ih ⊢; omega
theorem eCells_at (l : List Ed3) (i : Nat) (h : i < l.length) : (eCells l)[i * 3]? = some (.int .i64 (eAt l i).1) ∧ (eCells l)[i * 3 + 1]? = some (.int .i64 (eAt l i).2.1) ∧ (eCells l)[i * 3 + 2]? = some (.int .u64 (eAt l i).2.2) := by
  induction l generalizing i with
  | nil => simp at h
  | cons a l ih =>
    cases i with
    | zero => simp [eCells, eAt]
    | succ i =>
      have := ih i (by simpa using h)
      have e : eCells (a :: l) = [.int .i64 a.1, .int .i64 a.2.1, .int .u64 a.2.2] ++ eCells l := by simp [eCells]
      rw [e, show (i + 1) * 3 = i * 3 + 3 by omega]
      simp only [eAt, List.getElem?_cons_succ] at this ⊢
      refine ⟨?_, ?_, ?_⟩
      · rw [List.getElem?_append_right (by simp)]; simpa using this.1
      · rw [List.getElem?_append_right (by simp)]; simpa using this.2.1
      · rw [List.getElem?_append_right (by simp)]; simpa using this.2.2
theorem eCells_snoc (l : List Ed3) (p : Ed3) : eCells (l ++ [p]) = eCells l ++ [.int .i64 p.1, .int .i64 p.2.1, .int .u64 p.2.2] := by simp [eCells]
theorem ERow.of_owns {w : World} {base : Nat} {t : TypeId} {v : Value} {l : List Ed3} (h : w.ownsRow base t 3 v l.length (eCells l)) : ERow w v l := by
  obtain ⟨h1, h2⟩ := h
  rcases h2 with ⟨rfl, hn⟩ | ⟨g, cap, cur, rfl, hg, hh, hnc, hcm, hcur, htake⟩
  · exact .inl ⟨rfl, List.eq_nil_of_length_eq_zero hn⟩
  · refine .inr ⟨g, cap, rfl, hnc, hcm, fun i hi => ?_⟩
    obtain ⟨p, q, r⟩ := eCells_at l i hi
    rw [← htake] at p q r
    rw [List.getElem?_take_of_lt (by omega)] at p q r
    simp only [World.cell?, hh]
    exact ⟨by simpa using p, by simpa using q, by simpa using r⟩

/-- The edges that RouteMore makes of a graph: the first i of it. -/
def gEdges (n : Nat) (st tl wt : List Int) (i : Nat) : List Ed3 := (List.range i).map fun e => ((src st n e : Int), at_ tl e, at_ wt e)
theorem gEdges_length (n : Nat) (st tl wt : List Int) (i : Nat) : (gEdges n st tl wt i).length = i := by simp [gEdges]
theorem gEdges_succ (n : Nat) (st tl wt : List Int) (i : Nat) : gEdges n st tl wt (i + 1) = gEdges n st tl wt i ++ [((src st n i : Int), at_ tl i, at_ wt i)] := by simp [gEdges, List.range_succ]
theorem gEdges_at {n : Nat} {st tl wt : List Int} {i e : Nat} (h : e < i) : eAt (gEdges n st tl wt i) e = ((src st n e : Int), at_ tl e, at_ wt e) := by simp [eAt, gEdges, h]
theorem eAt_left {l t : List Ed3} {i : Nat} (h : i < l.length) : eAt (l ++ t) i = eAt l i := by
  unfold eAt
  rw [List.getElem?_append_left h]
theorem eAt_end {l : List Ed3} {a : Ed3} : eAt (l ++ [a]) l.length = a := by
  unfold eAt
  rw [List.getElem?_append_right (Nat.le_refl _), Nat.sub_self]
  rfl
def eFrom (l : List Ed3) (i : Nat) : Nat := (eAt l i).1.toNat
def eTo (l : List Ed3) (i : Nat) : Nat := (eAt l i).2.1.toNat
def eWt (l : List Ed3) (i : Nat) : Int := (eAt l i).2.2
/-- What Build takes. -/
structure Takes (n : Nat) (l : List Ed3) : Prop where
  n_le : n ≤ 1048576
  m_le : l.length ≤ 4194304
  efr : ∀ i, i < l.length → 0 ≤ (eAt l i).1 ∧ (eAt l i).1 < n
  eto : ∀ i, i < l.length → 0 ≤ (eAt l i).2.1 ∧ (eAt l i).2.1 < n
  ewt : ∀ i, i < l.length → 0 ≤ (eAt l i).2.2 ∧ (eAt l i).2.2 ≤ 4294967295
/-- The graph with one edge more is wider. -/
theorem wider_edge {n : Nat} {st tl wt st' to' wt' nx : List Int} {S : List Pr} {more : Ed3} (hg : Good n st tl wt) (l : List Ed3) (hl : l = gEdges n st tl wt tl.length ++ [more]) (ht : Takes n l)
    (hs : Summed n l.length (eFrom l) n st') (h : Laying n l.length (eFrom l) (eTo l) (eWt l) l.length nx to' wt') : Wider n st tl wt S st' to' wt' S ∧ Good n st' to' wt' := by
  have hF : ∀ i, i < l.length → eFrom l i < n := fun i hi => by have := ht.efr i hi; unfold eFrom; omega
  have hlen : l.length = tl.length + 1 := by rw [hl, List.length_append, gEdges_length]; rfl
  refine ⟨⟨fun e he => ?_, fun j hj => ⟨j, hj, rfl⟩⟩, h.good hs hF ht.n_le ht.m_le⟩
  have hi : e < l.length := by omega
  obtain ⟨h1, h2, h3, h4⟩ := h.edge hs hF ht.n_le ht.m_le hi
  have he2 : eAt l e = ((src st n e : Int), at_ tl e, at_ wt e) := by rw [hl, eAt_left (by rw [gEdges_length]; exact he), gEdges_at he]
  refine ⟨_, h1, ?_, ?_, ?_⟩
  · rw [h2]; unfold eFrom; rw [he2]; simp
  · unfold tov; rw [h3]; unfold eTo; rw [he2]; exact Int.toNat_natCast _
  · rw [h4]; unfold eWt; rw [he2]
end Go.Proofs.Ytehlciejhegndaa

/- The reference's laid: counting sort. The walk. -/
namespace Go.Proofs.Ytehlciejhegndaa
open Go.RowKit Go.Lib
set_option linter.unusedVariables false
/-- laid's memory: its result's place, the list of starts, the graph. -/
structure LM (w wr : World) (X n : Nat) (vb vc : Value) (s : List Int) : Prop where
  res : wr.heap[w.heap.size]? = some (.cells #[.int .i64 0, .slice none 0 0, .slice none 0 0, .slice none 0 0] 25 (0, 0))
  arr : Arr wr (w.heap.size + 1) s
  box : wr.heap[X]? = some (.cells #[.int .i64 n, .slice (some ⟨w.heap.size + 1, 0, none⟩) (n + 1) (n + 1), vb, vc] 25 (0, 0))
  lt : w.heap.size + 1 < X
  bel : Below w.heap.size w wr
theorem LM.start {w w2 : World} {n : Nat} (hown : w2.ownsRow w.heap.size 3 1 (.slice (some ⟨(w.alloc (.cells #[.int .i64 0, .slice none 0 0, .slice none 0 0, .slice none 0 0] 25)).heap.size, 0, none⟩) (n + 1) (n + 1)) (n + 1) (madeCells (Value.int .i64 0).cells ((n + 1) * 1)).toList)
    (hgrow : (w.alloc (.cells #[.int .i64 0, .slice none 0 0, .slice none 0 0, .slice none 0 0] 25)).grownBy w2 none) :
    LM w (w2.alloc (.cells #[.int .i64 n, .slice (some ⟨w.heap.size + 1, 0, none⟩) (n + 1) (n + 1), .slice none 0 0, .slice none 0 0] 25)) w2.heap.size n (.slice none 0 0) (.slice none 0 0) (tab (n + 1) fun _ => 0) := by
  have hs1 : (w.alloc (.cells #[.int .i64 0, .slice none 0 0, .slice none 0 0, .slice none 0 0] 25)).heap.size = w.heap.size + 1 := by simp
  have hb1 : Below w.heap.size w (w.alloc (.cells #[.int .i64 0, .slice none 0 0, .slice none 0 0, .slice none 0 0] 25)) := (Below.refl _ _).alloc (Nat.le_refl _) _
  have hr1 : (w.alloc (.cells #[.int .i64 0, .slice none 0 0, .slice none 0 0, .slice none 0 0] 25)).heap[w.heap.size]? = some (.cells #[.int .i64 0, .slice none 0 0, .slice none 0 0, .slice none 0 0] 25 (0, 0)) := heap_new _ _
  rw [hs1] at hown
  generalize (w.alloc (.cells #[.int .i64 0, .slice none 0 0, .slice none 0 0, .slice none 0 0] 25)) = w1 at hs1 hb1 hr1 hgrow
  have hb2 : Below w1.heap.size w1 w2 := (Below.refl _ _).grown hgrow (Nat.le_refl _) (by intro k hk; cases hk)
  have hA := arr_made hown
  have hl := lt_of_heap hA
  have hb3 : Below w2.heap.size w2 (w2.alloc (.cells #[.int .i64 n, .slice (some ⟨w.heap.size + 1, 0, none⟩) (n + 1) (n + 1), .slice none 0 0, .slice none 0 0] 25)) := (Below.refl _ _).alloc (Nat.le_refl _) _
  exact ⟨(hb3.block _ (by omega)).trans ((hb2.block _ (by omega)).trans hr1), (hb3.block _ hl).trans hA, heap_new _ _, hl, below_on (below_on hb1 hb2) hb3⟩
theorem LM.put {w wr : World} {X n : Nat} {vb vc : Value} {s : List Int} (h : LM w wr X n vb vc s) (k : Nat) (x : Int) : LM w (wr.setCell ⟨w.heap.size + 1, k, none⟩ (.int .i64 x)).drew X n vb vc (s.set k x) where
  res := (Below.heap_setCell _ _ _ _ (by show w.heap.size ≠ w.heap.size + 1; omega)).trans h.res
  arr := h.arr.put k x
  box := (Below.heap_setCell _ _ _ _ (by have := h.lt; show X ≠ w.heap.size + 1; omega)).trans h.box
  lt := h.lt
  bel := (h.bel.setCell (p := ⟨w.heap.size + 1, k, none⟩) (Nat.le_succ _) _).drew
theorem LM.below {w wr w' : World} {X n : Nat} {vb vc : Value} {s : List Int} (h : LM w wr X n vb vc s) (hb : Below wr.heap.size wr w') : LM w w' X n vb vc s where
  res := (hb.block _ (lt_of_heap h.res)).trans h.res
  arr := (hb.block _ (lt_of_heap h.arr)).trans h.arr
  box := (hb.block _ (lt_of_heap h.box)).trans h.box
  lt := h.lt
  bel := below_on h.bel hb
theorem LM.setTo {w wr : World} {X n : Nat} {vb vc : Value} {s : List Int} (h : LM w wr X n vb vc s) (v : Value) : LM w (wr.setCell ⟨X, 2, none⟩ v) X n v vc s where
  res := (Below.heap_setCell _ _ _ _ (by have := h.lt; show w.heap.size ≠ X; omega)).trans h.res
  arr := (Below.heap_setCell _ _ _ _ (by have := h.lt; show w.heap.size + 1 ≠ X; omega)).trans h.arr
  box := by rw [heap_set h.box]; rfl
  lt := h.lt
  bel := h.bel.setCell (p := ⟨X, 2, none⟩) (by have := h.lt; show w.heap.size ≤ X; omega) _
theorem LM.setWt {w wr : World} {X n : Nat} {vb vc : Value} {s : List Int} (h : LM w wr X n vb vc s) (v : Value) : LM w (wr.setCell ⟨X, 3, none⟩ v) X n vb v s where
  res := (Below.heap_setCell _ _ _ _ (by have := h.lt; show w.heap.size ≠ X; omega)).trans h.res
  arr := (Below.heap_setCell _ _ _ _ (by have := h.lt; show w.heap.size + 1 ≠ X; omega)).trans h.arr
  box := by rw [heap_set h.box]; rfl
  lt := h.lt
  bel := h.bel.setCell (p := ⟨X, 3, none⟩) (by have := h.lt; show w.heap.size ≤ X; omega) _
/-- A row of numbers in a block that may be longer. -/
def NX (w : World) (G : Nat) (s : List Int) : Prop := ∃ cur, w.heap[G]? = some (.cells cur 3 (0, 0)) ∧ cur.toList.take s.length = s.map (Value.int .i64)
theorem NX.at {w : World} {G : Nat} {s : List Int} (h : NX w G s) {i : Nat} (hi : i < s.length) : w.cell? ⟨G, i, none⟩ = some (.int .i64 (at_ s i)) := by
  obtain ⟨cur, h1, h2⟩ := h
  refine cell_of h1 ?_
  have h3 : (cur.toList.take s.length)[i]? = some (.int .i64 (at_ s i)) := by rw [h2]; simp [at_, hi]
  rw [List.getElem?_take_of_lt hi] at h3
  simpa using h3
theorem NX.free {w : World} {G : Nat} {s : List Int} (h : NX w G s) (i : Nat) : w.frozen? ⟨G, i, none⟩ = false := by
  obtain ⟨cur, h1, h2⟩ := h
  exact free_of h1 i
theorem NX.put {w : World} {G : Nat} {s : List Int} (h : NX w G s) (i : Nat) (x : Int) : NX (w.setCell ⟨G, i, none⟩ (.int .i64 x)) G (s.set i x) := by
  obtain ⟨cur, h1, h2⟩ := h
  refine ⟨_, heap_set h1 _, ?_⟩
  rw [List.length_set, Array.toList_setIfInBounds, List.take_set, h2, List.map_set]
theorem nx_of {w : World} {fr n : Nat} {v : Value} {s : List Int} (h : w.ownsRow fr 3 1 v s.length (s.map (Value.int .i64))) (hs : s.length = n + 1) : ∃ G cp, v = .slice (some ⟨G, 0, none⟩) (n + 1) cp ∧ fr ≤ G ∧ n + 1 ≤ cp ∧ NX w G s := by
  obtain ⟨h1, ⟨rfl, hn⟩ | ⟨g, cap, cur, rfl, hg, hh, hnc, hcm, hcur, htake⟩⟩ := h
  · omega
  · exact ⟨g, cap, by rw [hs], hg, by omega, cur, hh, by simpa using htake⟩
/-- The third loop's memory. -/
structure LN (w wr : World) (X n m G T U : Nat) (s nx tl wt : List Int) : Prop where
  lm : LM w wr X n (.slice (some ⟨T, 0, none⟩) m m) (.slice (some ⟨U, 0, none⟩) m m) s
  nxt : NX wr G nx
  tla : Arr wr T tl
  wta : ArrU wr U wt
  o1 : X < G
  o2 : G < T
  o3 : T < U
theorem LM.other {w wr : World} {X n b k : Nat} {vb vc v : Value} {s : List Int} (h : LM w wr X n vb vc s) (hb : X < b) : LM w (wr.setCell ⟨b, k, none⟩ v) X n vb vc s where
  res := (Below.heap_setCell _ _ _ _ (by have := h.lt; show w.heap.size ≠ b; omega)).trans h.res
  arr := (Below.heap_setCell _ _ _ _ (by have := h.lt; show w.heap.size + 1 ≠ b; omega)).trans h.arr
  box := (Below.heap_setCell _ _ _ _ (by have := h.lt; show X ≠ b; omega)).trans h.box
  lt := h.lt
  bel := h.bel.setCell (p := ⟨b, k, none⟩) (by have := h.lt; show w.heap.size ≤ b; omega) _
theorem NX.other {w : World} {G b k : Nat} {v : Value} {s : List Int} (h : NX w G s) (hb : G ≠ b) : NX (w.setCell ⟨b, k, none⟩ v) G s := by
  obtain ⟨cur, h1, h2⟩ := h
  exact ⟨cur, (Below.heap_setCell _ _ _ _ (by show G ≠ b; exact hb)).trans h1, h2⟩
theorem LN.step {w wr : World} {X n m G T U f k : Nat} {s nx tl wt : List Int} {x y z : Int} (h : LN w wr X n m G T U s nx tl wt) :
    LN w (((wr.setCell ⟨G, f, none⟩ (.int .i64 x)).setCell ⟨T, k, none⟩ (.int .i64 y)).setCell ⟨U, k, none⟩ (.int .u64 z)).drew.drew X n m G T U s (nx.set f x) (tl.set k y) (wt.set k z) := by
  have h1 := h.o1
  have h2 := h.o2
  have h3 := h.o3
  have a1 : LM w (((wr.setCell ⟨G, f, none⟩ (.int .i64 x)).setCell ⟨T, k, none⟩ (.int .i64 y)).setCell ⟨U, k, none⟩ (.int .u64 z)) X n (.slice (some ⟨T, 0, none⟩) m m) (.slice (some ⟨U, 0, none⟩) m m) s := ((h.lm.other h1).other (by omega)).other (by omega)
  have a2 : NX (((wr.setCell ⟨G, f, none⟩ (.int .i64 x)).setCell ⟨T, k, none⟩ (.int .i64 y)).setCell ⟨U, k, none⟩ (.int .u64 z)) G (nx.set f x) := ((h.nxt.put f x).other (by omega)).other (by omega)
  have b3 : Arr (wr.setCell ⟨G, f, none⟩ (.int .i64 x)) T tl := (Below.heap_setCell _ _ _ _ (by show T ≠ G; omega)).trans h.tla
  have a3 : Arr (((wr.setCell ⟨G, f, none⟩ (.int .i64 x)).setCell ⟨T, k, none⟩ (.int .i64 y)).setCell ⟨U, k, none⟩ (.int .u64 z)) T (tl.set k y) := (Below.heap_setCell _ _ _ _ (by show T ≠ U; omega)).trans (b3.put k y)
  have b4 : ArrU (wr.setCell ⟨G, f, none⟩ (.int .i64 x)) U wt := (Below.heap_setCell _ _ _ _ (by show U ≠ G; omega)).trans h.wta
  have c4 : ArrU ((wr.setCell ⟨G, f, none⟩ (.int .i64 x)).setCell ⟨T, k, none⟩ (.int .i64 y)) U wt := (Below.heap_setCell _ _ _ _ (by show U ≠ T; omega)).trans b4
  exact ⟨⟨a1.res, a1.arr, a1.box, a1.lt, ⟨a1.bel.os, a1.bel.tape, a1.bel.output, a1.bel.size, a1.bel.block⟩⟩, a2, a3, c4.put k z, h1, h2, h3⟩
theorem LN.start {w w4 w5 w6 : World} {X n m G : Nat} {s : List Int} (H4 : LM w w4 X n (.slice none 0 0) (.slice none 0 0) s) (HN : NX w4 G s) (hXG : X < G)
    (hown5 : w5.ownsRow w4.heap.size 3 1 (.slice (some ⟨w4.heap.size, 0, none⟩) m m) m (madeCells (Value.int .i64 0).cells (m * 1)).toList) (hgrow5 : w4.grownBy w5 none)
    (hown6 : w6.ownsRow w5.heap.size 26 1 (.slice (some ⟨(w5.setCell ⟨X, 2, none⟩ (.slice (some ⟨w4.heap.size, 0, none⟩) m m)).heap.size, 0, none⟩) m m) m (madeCells (Value.int .u64 0).cells (m * 1)).toList)
    (hgrow6 : (w5.setCell ⟨X, 2, none⟩ (.slice (some ⟨w4.heap.size, 0, none⟩) m m)).grownBy w6 none) :
    LN w (w6.setCell ⟨X, 3, none⟩ (.slice (some ⟨w5.heap.size, 0, none⟩) m m)) X n m G w4.heap.size w5.heap.size s s (tab m fun _ => 0) (tab m fun _ => 0) := by
  have hb5 : Below w4.heap.size w4 w5 := (Below.refl _ _).grown hgrow5 (Nat.le_refl _) (by intro k hk; cases hk)
  have hb6 : Below (w5.setCell ⟨X, 2, none⟩ (.slice (some ⟨w4.heap.size, 0, none⟩) m m)).heap.size (w5.setCell ⟨X, 2, none⟩ (.slice (some ⟨w4.heap.size, 0, none⟩) m m)) w6 := (Below.refl _ _).grown hgrow6 (Nat.le_refl _) (by intro k hk; cases hk)
  have hsz : (w5.setCell ⟨X, 2, none⟩ (.slice (some ⟨w4.heap.size, 0, none⟩) m m)).heap.size = w5.heap.size := by simp [World.setCell]
  have hX4 := lt_of_heap H4.box
  have hG4 : G < w4.heap.size := by obtain ⟨cur, h1, h2⟩ := HN; exact lt_of_heap h1
  have hA5 := arr_made hown5
  have hT5 := lt_of_heap hA5
  have H6 := ((H4.below hb5).setTo (.slice (some ⟨w4.heap.size, 0, none⟩) m m)).below hb6
  have hA6 := arru_made hown6
  rw [hsz] at hA6 hb6
  have k5 : ∀ k, k ≠ X → k < w5.heap.size → w6.heap[k]? = w5.heap[k]? := fun k hk hl => (hb6.block k hl).trans (Below.heap_setCell _ _ _ _ (by show k ≠ X; exact hk))
  refine ⟨H6.setWt _, ?_, ?_, ?_, hXG, hG4, hT5⟩
  · refine NX.other ?_ (by omega)
    obtain ⟨cur, h1, h2⟩ := HN
    exact ⟨cur, (k5 G (by omega) (by have := hb5.size; omega)).trans ((hb5.block G hG4).trans h1), h2⟩
  · exact (Below.heap_setCell _ _ _ _ (by show w4.heap.size ≠ X; omega)).trans ((k5 _ (by omega) hT5).trans hA5)
  · exact (Below.heap_setCell _ _ _ _ (by show w5.heap.size ≠ X; omega)).trans hA6
theorem Laying.start {n m : Nat} {F T : Nat → Nat} {W : Nat → Int} {s : List Int} (hs : Summed n m F n s) (hF : ∀ i, i < m → F i < n) : Laying n m F T W 0 s (tab m fun _ => 0) (tab m fun _ => 0) where
  nlen := hs.1
  nxa v hv := hs.2.1 v (by omega)
  tlen := tab_length _ _
  wlen := tab_length _ _
  tla j hj := by omega
  wta j hj := by omega
  tin e he := by rw [tab_at _ _ _ he]; have := hF e he; omega
  win e he := by rw [tab_at _ _ _ he]; omega
/-- A list in a new block. -/
def NewAt (w : World) (v : Value) : Prop := ∃ g n c, v = .slice (some ⟨g, 0, none⟩) n c ∧ w.heap.size ≤ g
def LaidPost (n : Nat) (l : List Ed3) (w : World) (e : Ending) (w' : World) : Prop :=
  ∃ va vb vc st to' wt nx, e = .returned (gAgg n va vb vc) ∧ GIs w' n va vb vc st to' wt ∧ Summed n l.length (eFrom l) n st ∧ Laying n l.length (eFrom l) (eTo l) (eWt l) l.length nx to' wt ∧ Below w.heap.size w w' ∧ NewAt w va ∧ NewAt w vb ∧ NewAt w vc
theorem LN.finish {w wr : World} {X n m G T U : Nat} {s nx tl wt : List Int} {l : List Ed3} (h : LN w wr X n m G T U s nx tl wt) (hs : Summed n m (eFrom l) n s) (hy : Laying n m (eFrom l) (eTo l) (eWt l) m nx tl wt) (hm : m = l.length) (hn : n ≤ 1048576) (hml : m ≤ 4194304) :
    ((((wr.setCell ⟨w.heap.size, 0, none⟩ (.int .i64 n)).setCell ⟨w.heap.size, 1, none⟩ (.slice (some ⟨w.heap.size + 1, 0, none⟩) (n + 1) (n + 1))).setCell ⟨w.heap.size, 2, none⟩ (.slice (some ⟨T, 0, none⟩) m m)).setCell ⟨w.heap.size, 3, none⟩ (.slice (some ⟨U, 0, none⟩) m m)).heap[w.heap.size]? = some (.cells #[.int .i64 n, .slice (some ⟨w.heap.size + 1, 0, none⟩) (n + 1) (n + 1), .slice (some ⟨T, 0, none⟩) m m, .slice (some ⟨U, 0, none⟩) m m] 25 (0, 0)) ∧ LaidPost n l w (.returned (.agg #[.int .i64 n, .slice (some ⟨w.heap.size + 1, 0, none⟩) (n + 1) (n + 1), .slice (some ⟨T, 0, none⟩) m m, .slice (some ⟨U, 0, none⟩) m m])) ((((wr.setCell ⟨w.heap.size, 0, none⟩ (.int .i64 n)).setCell ⟨w.heap.size, 1, none⟩ (.slice (some ⟨w.heap.size + 1, 0, none⟩) (n + 1) (n + 1))).setCell ⟨w.heap.size, 2, none⟩ (.slice (some ⟨T, 0, none⟩) m m)).setCell ⟨w.heap.size, 3, none⟩ (.slice (some ⟨U, 0, none⟩) m m)) := by
  have h0 := h.lm.lt
  have h1 := h.o1
  have h2 := h.o2
  have h3 := h.o3
  have hk : ∀ k, k ≠ w.heap.size → ((((wr.setCell ⟨w.heap.size, 0, none⟩ (.int .i64 n)).setCell ⟨w.heap.size, 1, none⟩ (.slice (some ⟨w.heap.size + 1, 0, none⟩) (n + 1) (n + 1))).setCell ⟨w.heap.size, 2, none⟩ (.slice (some ⟨T, 0, none⟩) m m)).setCell ⟨w.heap.size, 3, none⟩ (.slice (some ⟨U, 0, none⟩) m m)).heap[k]? = wr.heap[k]? := fun k hk => by
    rw [Below.heap_setCell _ _ _ _ (by show k ≠ w.heap.size; exact hk), Below.heap_setCell _ _ _ _ (by show k ≠ w.heap.size; exact hk), Below.heap_setCell _ _ _ _ (by show k ≠ w.heap.size; exact hk), Below.heap_setCell _ _ _ _ (by show k ≠ w.heap.size; exact hk)]
  refine ⟨by rw [heap_set (heap_set (heap_set (heap_set h.lm.res _) _) _) _]; rfl, _, _, _, s, tl, wt, nx, rfl, ⟨?_, ?_, ?_⟩, by rw [← hm]; exact hs, by rw [← hm]; exact hy, ?_, ⟨_, _, _, rfl, by omega⟩, ⟨_, _, _, rfl, by omega⟩, ⟨_, _, _, rfl, by omega⟩⟩
  · exact Arr.row (l := s) ((hk _ (by omega)).trans h.lm.arr) hs.1 (by omega)
  · exact Arr.row (l := tl) ((hk _ (by omega)).trans h.tla) hy.tlen (by omega)
  · exact ArrU.row (l := wt) ((hk _ (by omega)).trans h.wta) hy.wlen (by omega)
  · exact (((h.lm.bel.setCell (p := ⟨w.heap.size, 0, none⟩) (Nat.le_refl _) _).setCell (p := ⟨w.heap.size, 1, none⟩) (Nat.le_refl _) _).setCell (p := ⟨w.heap.size, 2, none⟩) (Nat.le_refl _) _).setCell (p := ⟨w.heap.size, 3, none⟩) (Nat.le_refl _) _
theorem LM.edge {w wr : World} {X n g c : Nat} {vb vc : Value} {s : List Int} {l : List Ed3} (h : LM w wr X n vb vc s) (hr : ERow w (.slice (some ⟨g, 0, none⟩) l.length c) l) {i : Nat} (hi : i < l.length) :
    wr.cell? ⟨g, i * 3, none⟩ = some (.int .i64 (eAt l i).1) ∧ wr.cell? ⟨g, i * 3 + 1, none⟩ = some (.int .i64 (eAt l i).2.1) ∧ wr.cell? ⟨g, i * 3 + 2, none⟩ = some (.int .u64 (eAt l i).2.2) := by
  rcases hr.below h.bel with ⟨h1, _⟩ | ⟨g', c', h1, _, _, h2⟩
  · simp at h1
  · simp only [Value.slice.injEq, Option.some.injEq, Addr.mk.injEq, true_and, and_true] at h1
    obtain ⟨rfl, _⟩ := h1
    exact h2 i hi
set_option maxRecDepth 100000 in
set_option maxHeartbeats 4000000 in
theorem laid_any (n : Nat) (g c : Nat) (l : List Ed3) (w : World) (hc : l.length ≤ c) (hr : ERow w (.slice (some ⟨g, 0, none⟩) l.length c) l) (ht : Takes n l) :
    Calls Try.prog 119 #[.int .i64 n, .slice (some ⟨g, 0, none⟩) l.length c] w (LaidPost n l w) := by
  obtain ⟨i0, hi, hz0, hz1, hz2⟩ := info_parts Try.info3
  obtain ⟨i1, hj, hy0, hy1, hy2⟩ := info_parts Try.info26
  have hn := ht.n_le
  have hm := ht.m_le
  obtain ⟨m, hme⟩ : ∃ m, m = l.length := ⟨_, rfl⟩
  rw [← hme] at hm hc ⊢
  have HR := hide hr
  have HT := hide ht
  have HM := hide hme
  clear hr ht hme
  go_enter Try.func119, Try.ntmps119
  go_wp2_with (at_make; refine wpList_make_full _ rfl _ _ 22 rfl w.heap.size 3 i0 (.int .i64 0) 1 Try.underlying22 hi hz0 hz1 _ _ _ _ (n + 1) rfl rfl (by omega) (by omega) (by rw [hz2]; omega) (by unfold maxLen; omega) (by simp) ?_; intro w2 hown hgrow)
  have HL0 : Hid (LM w (w2.alloc (.cells #[.int .i64 n, .slice (some ⟨w.heap.size + 1, 0, none⟩) (n + 1) (n + 1), .slice none 0 0, .slice none 0 0] 25)) w2.heap.size n (.slice none 0 0) (.slice none 0 0) (tab (n + 1) fun _ => 0)) := LM.start hown hgrow
  clear hown hgrow
  generalize hX : w2.heap.size = X at HL0 ⊢
  generalize (w2.alloc (.cells #[.int .i64 n, .slice (some ⟨w.heap.size + 1, 0, none⟩) (n + 1) (n + 1), .slice none 0 0, .slice none 0 0] 25)) = w3 at HL0 ⊢
  clear hX w2
  go_loopw [6] (fun t wr => ∃ (i : Nat) (s : List Int), i ≤ m ∧ t = .int .i64 i ∧ Tally n (eFrom l) i s ∧ LM w wr X n (.slice none 0 0) (.slice none 0 0) s) (fun t _ => m - (RowKit.intOf t).toNat)
  case atStart => exact ⟨0, tab (n + 1) (fun _ => 0), by omega, rfl, ⟨tab_length _ _, tab_at _ _ _ (by omega), fun v hv => tab_at (n + 1) (fun _ => 0) (v + 1) (by omega)⟩, HL0.out⟩
  case round =>
    obtain ⟨i, s, him, rfl, hT, hL⟩ := hrel
    clear HL0
    by_cases hlt : i < m
    · have b1 := cell_of hL.box (i := 1) rfl
      have HE := hide (HT.out.efr i (by rw [← HM.out]; exact hlt))
      obtain ⟨f, hf⟩ : ∃ f, f = eFrom l i := ⟨_, rfl⟩
      have hfn : f < n := by have := HE.out; unfold eFrom at hf; omega
      have e1 : wr.cell? ⟨g, i * 3, none⟩ = some (.int .i64 (f : Int)) := by
        rw [(hL.edge HR.out (by rw [← HM.out]; exact hlt)).1, hf]; unfold eFrom; rw [Int.toNat_of_nonneg HE.out.1]
      have s1 := hL.arr.cell (f + 1) (by rw [hT.1]; omega)
      have fr := hL.arr.free (f + 1)
      obtain ⟨y, hy, hym⟩ : ∃ y : Nat, at_ s (f + 1) = (y : Int) ∧ y ≤ m := ⟨_, hT.2.2 f hfn, Nat.le_trans (cnt_le _ _) him⟩
      rw [hy] at s1
      have hXB := hL.lt
      have HXL := hide hL; have HXT := hide hT; have HF := hide hf; have HY := hide hy
      clear hL hT hf hy
      go_wp2
      go_region
      go_wp2
      refine ⟨⟨i + 1, s.set (f + 1) ((y : Int) + 1), by omega, by simp, ?_, HXL.out.put _ _⟩, by simp [RowKit.intOf]; omega⟩
      have := HXT.out.step (by rw [← HF.out]; exact hfn)
      rw [← HF.out, HY.out] at this
      exact this
    · obtain rfl : m = i := by omega
      have HL1 := hide hL; have HS1 := hide hT.summed
      clear hL hT
      go_wp2
      go_loopw [7] (fun t wr => ∃ (v : Nat) (s : List Int), v ≤ n ∧ t = .int .i64 v ∧ Summed n m (eFrom l) v s ∧ LM w wr X n (.slice none 0 0) (.slice none 0 0) s) (fun t _ => n - (RowKit.intOf t).toNat)
      case atStart => exact ⟨0, _, by omega, rfl, HS1.out, HL1.out⟩
      case round =>
        obtain ⟨v, s, hvn, rfl, hT, hL⟩ := hrel
        clear HL1 HS1
        by_cases hlt : v < n
        · have b1 := cell_of hL.box (i := 1) rfl
          have s0 := hL.arr.cell v (by rw [hT.1]; omega)
          have s1 := hL.arr.cell (v + 1) (by rw [hT.1]; omega)
          have fr := hL.arr.free (v + 1)
          obtain ⟨x, hx, hxm⟩ : ∃ x : Nat, at_ s v = (x : Int) ∧ x ≤ m := ⟨_, hT.2.1 v (Nat.le_refl _), cnt_le _ _⟩
          obtain ⟨y, hy, hym⟩ : ∃ y : Nat, at_ s (v + 1) = (y : Int) ∧ y ≤ m := ⟨_, hT.2.2 v (Nat.le_refl _) hlt, cnt_le _ _⟩
          rw [hx] at s0
          rw [hy] at s1
          have hXB := hL.lt
          have HXL := hide hL; have HXT := hide hT; have HX := hide hx; have HY := hide hy
          clear hL hT hx hy
          go_wp2
          go_region
          go_wp2
          refine ⟨⟨v + 1, s.set (v + 1) ((y : Int) + (x : Int)), by omega, by simp, ?_, HXL.out.put _ _⟩, by simp [RowKit.intOf]; omega⟩
          have := HXT.out.step hlt
          rw [HX.out, HY.out] at this
          exact this
        · obtain rfl : n = v := by omega
          have hba := below_alloc (Below.refl wr.heap.size wr) (.cells #[] 3)
          have b1 := (below_cell (o := 1) hba (lt_of_heap hL.box)).trans (cell_of hL.box (i := 1) rfl)
          have HRW := hide ((hL.arr.row hT.1 (by omega)).below hba)
          have hsl := hT.1
          have HL2 := hide hL; have HS2 := hide hT
          clear hL hT hba
          go_wp2_with (first
            | (at_builtin; refine wpList_fresh rfl (.tmp 52) (.tmp 54) 22 rfl .i64 3 i0 (.int .i64 0) 8 Try.underlying22 hi hz0 hz1 hz2 rfl wr.heap.size _ (own_new _ 3 wr.heap.size rfl) (by simp) _ s rfl rfl HRW.out (by omega) (by unfold maxLen; omega) ?_; intro v4 w4 hown4 hbel4; obtain ⟨G, cp, rfl, hGX, hcp, hN4⟩ := nx_of hown4 hsl; have HN4 := hide hN4; clear hN4 hown4; have H4 := hide (HL2.out.below (below_on (below_alloc (Below.refl wr.heap.size wr) (.cells #[] 3)) hbel4)))
            | (at_make; refine wpList_make_full _ rfl _ _ 22 rfl w4.heap.size 3 i0 (.int .i64 0) 1 Try.underlying22 hi hz0 hz1 _ _ _ _ m rfl rfl rfl rfl (by rw [hz2]; omega) (by unfold maxLen; omega) (Nat.le_refl _) ?_; intro w5 hown5 hgrow5; have H5 := hide (H4.out.below ((Below.refl _ _).grown hgrow5 (Nat.le_refl _) (by intro k hk; cases hk))); have c5 := cell_of H5.out.box (i := 2) rfl; have f5 := free_of H5.out.box 2)
            | (at_make; refine wpList_make_full _ rfl _ _ 23 rfl w5.heap.size 26 i1 (.int .u64 0) 1 Try.underlying23 hj hy0 hy1 _ _ _ _ m rfl rfl rfl rfl (by rw [hy2]; omega) (by unfold maxLen; omega) (by simp) ?_; intro w6 hown6 hgrow6; have H6 := hide ((H5.out.setTo (.slice (some ⟨w4.heap.size, 0, none⟩) m m)).below ((Below.refl _ _).grown hgrow6 (Nat.le_refl _) (by intro k hk; cases hk))); have c6 := cell_of H6.out.box (i := 3) rfl; have f6 := free_of H6.out.box 3))
          have HLN := hide (LN.start H4.out HN4.out (Nat.lt_of_lt_of_le (lt_of_heap HL2.out.box) hGX) hown5 hgrow5 hown6 hgrow6)
          clear hown5 hgrow5 hown6 hgrow6 c5 f5 c6 f6 b1 H6 H5 H4 HN4 HRW hGX hbel4
          generalize w4.heap.size = T at HLN ⊢
          generalize w5.heap.size = U at HLN ⊢
          generalize (w6.setCell ⟨X, 3, none⟩ (.slice (some ⟨U, 0, none⟩) m m)) = w7 at HLN ⊢
          have HFA : Hid (∀ i, i < m → eFrom l i < n) := fun i hi => by have := HT.out.efr i (by rw [← HM.out]; exact hi); unfold eFrom; omega
          go_loopw [9] (fun t wr => ∃ (i : Nat) (nx tl wt : List Int), i ≤ m ∧ t = .int .i64 i ∧ Laying n m (eFrom l) (eTo l) (eWt l) i nx tl wt ∧ LN w wr X n m G T U s nx tl wt) (fun t _ => m - (RowKit.intOf t).toNat)
          case atStart => exact ⟨0, s, tab m fun _ => 0, tab m fun _ => 0, by omega, rfl, Laying.start HS2.out HFA.out, HLN.out⟩
          case round =>
            obtain ⟨i, nx, tl, wt, him, rfl, hY, hN⟩ := hrel
            clear HLN
            by_cases hlt : i < m
            · have hil : i < l.length := by rw [← HM.out]; exact hlt
              obtain ⟨e0, e1, e2⟩ := hN.lm.edge HR.out hil
              obtain ⟨f, hf⟩ : ∃ f, f = eFrom l i := ⟨_, rfl⟩
              obtain ⟨k, hk⟩ : ∃ k, k = place (eFrom l) m i := ⟨_, rfl⟩
              have hfn : f < n := by rw [hf]; exact HFA.out i hlt
              have hkm : k < m := by rw [hk]; exact place_lt hlt
              rw [show (eAt l i).1 = (f : Int) by rw [hf]; unfold eFrom; rw [Int.toNat_of_nonneg (HT.out.efr i hil).1]] at e0
              rw [show (eAt l i).2.1 = ((eTo l i : Nat) : Int) by unfold eTo; rw [Int.toNat_of_nonneg (HT.out.eto i hil).1]] at e1
              rw [show (eAt l i).2.2 = eWt l i from rfl] at e2
              have hat : at_ nx f = (k : Int) := by rw [hf, hk]; exact hY.at (by rw [← hf]; exact hfn)
              have n0 := hN.nxt.at (i := f) (by rw [hY.nlen]; omega)
              rw [hat] at n0
              have n1 := hN.nxt.free f
              have t0 := hN.tla.cell k (by rw [hY.tlen]; exact hkm)
              have t1 := hN.tla.free k
              have u0 := hN.wta.cell k (by rw [hY.wlen]; exact hkm)
              have u1 := hN.wta.free k
              have b2 := cell_of hN.lm.box (i := 2) rfl
              have b3 := cell_of hN.lm.box (i := 3) rfl
              have hgw : g < w.heap.size := by
                rcases HR.out with ⟨h1, _⟩ | ⟨g', c', h1, _, _, h2⟩
                · simp at h1
                · simp only [Value.slice.injEq, Option.some.injEq, Addr.mk.injEq, true_and, and_true] at h1
                  obtain ⟨rfl, _⟩ := h1
                  exact block_of_cell (h2 i hil).1
              have o0 := hN.lm.lt
              have o1 := hN.o1
              have o2 := hN.o2
              have o3 := hN.o3
              have d1 : ¬ G = X := by omega
              have d2 : ¬ G = g := by omega
              have d3 : ¬ G = T := by omega
              have d4 : ¬ G = U := by omega
              have d5 : ¬ T = X := by omega
              have d6 : ¬ T = g := by omega
              have d7 : ¬ T = U := by omega
              have d8 : ¬ X = G := by omega
              have d9 : ¬ g = G := by omega
              have d10 : ¬ T = G := by omega
              have d11 : ¬ U = G := by omega
              have d12 : ¬ X = T := by omega
              have d13 : ¬ g = T := by omega
              have d14 : ¬ U = T := by omega
              have HST := hide (hY.step hlt (HFA.out i hlt) (by have := HT.out.eto i hil; unfold eTo; omega) (HT.out.ewt i hil))
              rw [← hf, ← hk, hat] at HST
              have HNN := hide hN
              clear hY hN hf hk hat
              generalize eTo l i = x at e1 HST
              generalize eWt l i = z at e2 HST
              go_wp2
              go_region
              go_wp2
              go_region
              go_wp2
              exact ⟨⟨i + 1, _, _, _, by omega, by simp, HST.out, HNN.out.step⟩, by simp [RowKit.intOf]; omega⟩
            · obtain rfl : m = i := by omega
              have HY := hide hY; have HNN := hide hN
              have b0 := cell_of hN.lm.box (i := 0) rfl
              have b1 := cell_of hN.lm.box (i := 1) rfl
              have b2 := cell_of hN.lm.box (i := 2) rfl
              have b3 := cell_of hN.lm.box (i := 3) rfl
              have r0 := cell_of hN.lm.res (i := 0) rfl
              have r1 := cell_of hN.lm.res (i := 1) rfl
              have r2 := cell_of hN.lm.res (i := 2) rfl
              have r3 := cell_of hN.lm.res (i := 3) rfl
              have q0 := free_of hN.lm.res 0
              have q1 := free_of hN.lm.res 1
              have q2 := free_of hN.lm.res 2
              have q3 := free_of hN.lm.res 3
              have o0 := hN.lm.lt
              have d1 : ¬ X = w.heap.size := by omega
              have d2 : ¬ w.heap.size = X := by omega
              clear hY hN
              have HE := hide (HNN.out.finish HS2.out HY.out HM.out hn hm)
              go_wp2
              exact bodyPost_ret (results_cell_row Try.results119 _ _ w.heap.size 25 _ (0, 0) _ rfl HE.out.1 Try.underlying25 rfl (by kernel_rfl)) rfl HE.out.2
end Go.Proofs.Ytehlciejhegndaa

/- The reference's Build; the law's below. -/
namespace Go.Proofs.Ytehlciejhegndaa
open Go.RowKit Go.Lib
set_option linter.unusedVariables false
theorem results_cell3 {P : Program} {fn : Func} {p u v : Tmp} {ty : TypeId} (h : fn.results = #[.cell p ty, .tmp u, .tmp v]) (tmps : Array Value) (w : World) (g : Nat) (t : TypeId) (cs : Array Value) (fr : Nat × Nat) (d : TypeDesc)
    (hp : tmps.getD p undef = .pointer (some ⟨g, 0, none⟩)) (hg : w.heap[g]? = some (.cells cs t fr))
    (hu : P.underlying ty = some d) (hd : (match d with | .struct _ | .array _ _ => true | _ => false) = true) (hi : (P.info? ty).map (·.size) = some cs.size) (x y : Value) (hx : tmps.getD u undef = x) (hy : tmps.getD v undef = y) :
    (results fn tmps).run P w = .ok (.tuple #[.agg cs, x, y]) w := by
  subst hx hy
  have hp' : tmps[p]?.getD undef = .pointer (some ⟨g, 0, none⟩) := by simpa using hp
  simp only [results, h]
  simp [Result.andThen, hp', asAddr, run_loadVar_row w g t ty cs fr d hg hu hd hi]
def zeroG : Value := .agg #[.int .i64 0, .slice none 0 0, .slice none 0 0, .slice none 0 0]
def BuildPost (n : Nat) (l : List Ed3) (w : World) (e : Ending) (w' : World) : Prop :=
  (∃ f p : Int, e = .returned (.tuple #[zeroG, .int .i64 f, .int .i64 p]) ∧ f ≠ 0 ∧ Below w.heap.size w w') ∨
  (Takes n l ∧ ∃ va vb vc st to' wt nx, e = .returned (.tuple #[gAgg n va vb vc, .int .i64 0, .int .i64 0]) ∧ GIs w' n va vb vc st to' wt ∧ Summed n l.length (eFrom l) n st ∧ Laying n l.length (eFrom l) (eTo l) (eWt l) l.length nx to' wt ∧ Below w.heap.size w w')
/-- Build's memory: the roads, the result. -/
structure BM (w wr : World) (n g len c : Nat) : Prop where
  box : wr.heap[w.heap.size]? = some (.cells #[.int .i64 n, .slice (some ⟨g, 0, none⟩) len c] 0 (0, 0))
  res : wr.heap[w.heap.size + 1]? = some (.cells #[.int .i64 0, .slice none 0 0, .slice none 0 0, .slice none 0 0] 25 (0, 0))
  bel : Below w.heap.size w wr
theorem BM.start (w : World) (n g len c : Nat) : BM w ((w.alloc (.cells #[.int .i64 n, .slice (some ⟨g, 0, none⟩) len c] 0)).alloc (.cells #[.int .i64 0, .slice none 0 0, .slice none 0 0, .slice none 0 0] 25)) n g len c := by
  have hs : (w.alloc (.cells #[.int .i64 n, .slice (some ⟨g, 0, none⟩) len c] 0)).heap.size = w.heap.size + 1 := by simp
  refine ⟨?_, ?_, below_alloc (below_alloc (Below.refl _ _) _) _⟩
  · rw [heap_alloc_old _ _ (by rw [hs]; omega)]; exact heap_new _ _
  · have := heap_new (w.alloc (.cells #[.int .i64 n, .slice (some ⟨g, 0, none⟩) len c] 0)) (.cells #[.int .i64 0, .slice none 0 0, .slice none 0 0, .slice none 0 0] 25)
    rw [hs] at this; exact this
theorem BM.below {w wr w' : World} {n g len c : Nat} (h : BM w wr n g len c) (hb : Below wr.heap.size wr w') : BM w w' n g len c :=
  ⟨(hb.block _ (lt_of_heap h.box)).trans h.box, (hb.block _ (lt_of_heap h.res)).trans h.res, below_on h.bel hb⟩
theorem BM.put {w wr : World} {n g len c : Nat} (h : BM w wr n g len c) (y0 y1 y2 y3 : Value) :
    ((((wr.setCell ⟨w.heap.size + 1, 0, none⟩ y0).setCell ⟨w.heap.size + 1, 1, none⟩ y1).setCell ⟨w.heap.size + 1, 2, none⟩ y2).setCell ⟨w.heap.size + 1, 3, none⟩ y3).heap[w.heap.size + 1]? = some (.cells #[y0, y1, y2, y3] 25 (0, 0)) ∧
    Below w.heap.size w ((((wr.setCell ⟨w.heap.size + 1, 0, none⟩ y0).setCell ⟨w.heap.size + 1, 1, none⟩ y1).setCell ⟨w.heap.size + 1, 2, none⟩ y2).setCell ⟨w.heap.size + 1, 3, none⟩ y3) ∧
    ∀ k, k ≠ w.heap.size + 1 → ((((wr.setCell ⟨w.heap.size + 1, 0, none⟩ y0).setCell ⟨w.heap.size + 1, 1, none⟩ y1).setCell ⟨w.heap.size + 1, 2, none⟩ y2).setCell ⟨w.heap.size + 1, 3, none⟩ y3).heap[k]? = wr.heap[k]? := by
  refine ⟨by rw [heap_set (heap_set (heap_set (heap_set h.res _) _) _) _]; rfl, ?_, fun k hk => ?_⟩
  · exact (((h.bel.setCell (p := ⟨w.heap.size + 1, 0, none⟩) (by simp) _).setCell (p := ⟨w.heap.size + 1, 1, none⟩) (by simp) _).setCell (p := ⟨w.heap.size + 1, 2, none⟩) (by simp) _).setCell (p := ⟨w.heap.size + 1, 3, none⟩) (by simp) _
  · rw [Below.heap_setCell _ _ _ _ (by exact hk), Below.heap_setCell _ _ _ _ (by exact hk), Below.heap_setCell _ _ _ _ (by exact hk), Below.heap_setCell _ _ _ _ (by exact hk)]
theorem RowAt.set4 {k : IntKind} {w : World} {g n c Z : Nat} {y0 y1 y2 y3 : Value} {xs : List Int} (h : RowAt k w (.slice (some ⟨g, 0, none⟩) n c) xs) (hz : Z ≠ g) :
    RowAt k ((((w.setCell ⟨Z, 0, none⟩ y0).setCell ⟨Z, 1, none⟩ y1).setCell ⟨Z, 2, none⟩ y2).setCell ⟨Z, 3, none⟩ y3) (.slice (some ⟨g, 0, none⟩) n c) xs :=
  (((h.setOther Z 0 y0 fun a ha => by cases ha; exact fun e => hz e.symm).setOther Z 1 y1 fun a ha => by cases ha; exact fun e => hz e.symm).setOther Z 2 y2 fun a ha => by cases ha; exact fun e => hz e.symm).setOther Z 3 y3 fun a ha => by cases ha; exact fun e => hz e.symm
theorem ERow.cellAt {w : World} {g c : Nat} {l : List Ed3} (hr : ERow w (.slice (some ⟨g, 0, none⟩) l.length c) l) {i : Nat} (hi : i < l.length) :
    w.cell? ⟨g, i * 3, none⟩ = some (.int .i64 (eAt l i).1) ∧ w.cell? ⟨g, i * 3 + 1, none⟩ = some (.int .i64 (eAt l i).2.1) ∧ w.cell? ⟨g, i * 3 + 2, none⟩ = some (.int .u64 (eAt l i).2.2) := by
  rcases hr with ⟨h1, _⟩ | ⟨g', c', h1, _, _, h2⟩
  · simp at h1
  · simp only [Value.slice.injEq, Option.some.injEq, Addr.mk.injEq, true_and, and_true] at h1
    obtain ⟨rfl, _⟩ := h1
    exact h2 i hi
def Fine (n : Nat) (l : List Ed3) (i : Nat) : Prop := (0 ≤ (eAt l i).1 ∧ (eAt l i).1 < n) ∧ (0 ≤ (eAt l i).2.1 ∧ (eAt l i).2.1 < n) ∧ (eAt l i).2.2 ≤ 4294967295
end Go.Proofs.Ytehlciejhegndaa
