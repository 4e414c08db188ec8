/- The reference's laid: counting sort. Plain. -/
import Derived.Test.YtdbphlafbehklaaSrc
namespace Go.Proofs.Ytdbphlafbehklaa
set_option linter.unusedVariables false
/-- How many below m there are of which p holds. -/
def cnt (p : Nat → Prop) [DecidablePred p] : Nat → Nat
  | 0 => 0
  | i + 1 => cnt p i + (if p i then 1 else 0)
theorem cnt_le (p : Nat → Prop) [DecidablePred p] (m : Nat) : cnt p m ≤ m := by
  induction m with
  | zero => exact Nat.le_refl _
  | succ m ih => unfold cnt; split <;> omega
theorem cnt_all {p : Nat → Prop} [DecidablePred p] {m : Nat} (h : ∀ i, i < m → p i) : cnt p m = m := by
  induction m with
  | zero => rfl
  | succ m ih => unfold cnt; rw [ih (fun i hi => h i (by omega)), if_pos (h m (by omega))]
theorem cnt_none {p : Nat → Prop} [DecidablePred p] {m : Nat} (h : ∀ i, i < m → ¬ p i) : cnt p m = 0 := by
  induction m with
  | zero => rfl
  | succ m ih => unfold cnt; rw [ih (fun i hi => h i (by omega)), if_neg (h m (by omega))]
theorem cnt_grow {p : Nat → Prop} [DecidablePred p] {i m : Nat} (h : i ≤ m) : cnt p i ≤ cnt p m := by
  induction m with
  | zero => have : i = 0 := by omega
            subst this; exact Nat.le_refl _
  | succ m ih =>
    rcases Nat.lt_or_ge m i with h1 | h1
    · have : i = m + 1 := by omega
      subst this; exact Nat.le_refl _
    · have := ih h1
      show _ ≤ cnt p m + _
      omega
theorem cnt_lt {p : Nat → Prop} [DecidablePred p] {i m : Nat} (h : i < m) (hp : p i) : cnt p i < cnt p m := by
  have h1 : cnt p (i + 1) ≤ cnt p m := cnt_grow h
  have h2 : cnt p (i + 1) = cnt p i + 1 := by show cnt p i + _ = _; rw [if_pos hp]
  omega
section
variable {n m : Nat} {F T : Nat → Nat} {W : Nat → Int}
/-- How many edges begin at a vertex below v. -/
def begins (F : Nat → Nat) (m v : Nat) : Nat := cnt (fun i => F i < v) m
/-- How many of the first i edges begin at v. -/
def outs (F : Nat → Nat) (v i : Nat) : Nat := cnt (fun j => F j = v) i
theorem begins_succ (F : Nat → Nat) (m v : Nat) : begins F m (v + 1) = begins F m v + outs F v m := by
  unfold begins outs
  induction m with
  | zero => rfl
  | succ m ih =>
    show cnt _ m + _ = cnt _ m + _ + (cnt _ m + _)
    rw [ih]
    by_cases h : F m < v
    · rw [if_pos (by omega), if_pos h, if_neg (by omega)]; omega
    · by_cases h1 : F m = v
      · rw [if_pos (by omega), if_neg h, if_pos h1]; omega
      · rw [if_neg (by omega), if_neg h, if_neg h1]; omega
theorem begins_zero (F : Nat → Nat) (m : Nat) : begins F m 0 = 0 := cnt_none fun i _ => by omega
theorem begins_all (h : ∀ i, i < m → F i < n) : begins F m n = m := cnt_all h
theorem begins_mono {u v : Nat} (h : u ≤ v) : begins F m u ≤ begins F m v := by
  induction v with
  | zero => have : u = 0 := by omega
            subst this; exact Nat.le_refl _
  | succ v ih =>
    rcases Nat.lt_or_ge v u with h1 | h1
    · have : u = v + 1 := by omega
      subst this; exact Nat.le_refl _
    · have := ih h1
      rw [begins_succ]; omega
theorem outs_succ (F : Nat → Nat) (v i : Nat) : outs F v (i + 1) = outs F v i + (if F i = v then 1 else 0) := rfl
/-- Where the edge i is laid. -/
def place (F : Nat → Nat) (m i : Nat) : Nat := begins F m (F i) + outs F (F i) i
theorem place_row {i : Nat} (h : i < m) : begins F m (F i) ≤ place F m i ∧ place F m i < begins F m (F i + 1) := by
  have : outs F (F i) i < outs F (F i) m := cnt_lt (p := fun j => F j = F i) h rfl
  unfold place
  rw [begins_succ]
  omega
theorem place_lt {i : Nat} (h : i < m) : place F m i < m := Nat.lt_of_lt_of_le (place_row h).2 (cnt_le _ m)
theorem place_inj {i j : Nat} (hi : i < m) (hj : j < i) : place F m j ≠ place F m i := by
  intro e
  have h1 := place_row (F := F) hi
  have h2 := place_row (F := F) (m := m) (i := j) (by omega)
  rcases Nat.lt_trichotomy (F i) (F j) with h | h | h
  · have := begins_mono (F := F) (m := m) (u := F i + 1) (v := F j) h
    omega
  · have h3 : outs F (F i) j < outs F (F i) i := cnt_lt (p := fun l => F l = F i) hj h.symm
    unfold place at e
    rw [← h] at e
    omega
  · have := begins_mono (F := F) (m := m) (u := F j + 1) (v := F i) h
    omega
theorem at_put {l : List Int} {a i : Nat} {x : Int} (h : a < l.length) : at_ (l.set a x) i = if i = a then x else at_ l i := by
  unfold at_
  by_cases e : i = a
  · subst e; rw [if_pos rfl, List.getElem?_set_self h]; rfl
  · rw [if_neg e, List.getElem?_set_ne (fun q => e q.symm)]
/-- The first loop: how many of the first i begin at each vertex, a place further. -/
def Tally (n : Nat) (F : Nat → Nat) (i : Nat) (l : List Int) : Prop := l.length = n + 1 ∧ at_ l 0 = 0 ∧ ∀ v, v < n → at_ l (v + 1) = (outs F v i : Int)
theorem Tally.step {i : Nat} {l : List Int} (h : Tally n F i l) (hF : F i < n) : Tally n F (i + 1) (l.set (F i + 1) (at_ l (F i + 1) + 1)) := by
  obtain ⟨h1, h2, h3⟩ := h
  refine ⟨by rw [List.length_set]; exact h1, by rw [at_put (by omega), if_neg (by omega)]; exact h2, fun v hv => ?_⟩
  rw [at_put (by omega), outs_succ]
  by_cases e : v = F i
  · subst e; rw [if_pos rfl, if_pos rfl, h3 _ hv]; omega
  · rw [if_neg (by omega), if_neg (fun q => e q.symm), h3 _ hv]; omega
/-- The second loop: summed up to v. -/
def Summed (n m : Nat) (F : Nat → Nat) (v : Nat) (l : List Int) : Prop := l.length = n + 1 ∧ (∀ u, u ≤ v → at_ l u = (begins F m u : Int)) ∧ ∀ u, v ≤ u → u < n → at_ l (u + 1) = (outs F u m : Int)
theorem Tally.summed {l : List Int} (h : Tally n F m l) : Summed n m F 0 l :=
  ⟨h.1, fun u hu => by have : u = 0 := by omega
                       subst this; rw [begins_zero]; exact h.2.1, fun u _ hu => h.2.2 u hu⟩
theorem Summed.step {v : Nat} {l : List Int} (h : Summed n m F v l) (hv : v < n) : Summed n m F (v + 1) (l.set (v + 1) (at_ l (v + 1) + at_ l v)) := by
  obtain ⟨h1, h2, h3⟩ := h
  refine ⟨by rw [List.length_set]; exact h1, fun u hu => ?_, fun u h4 hu => ?_⟩
  · rw [at_put (by omega)]
    by_cases e : u = v + 1
    · subst e; rw [if_pos rfl, h3 v (Nat.le_refl _) hv, h2 v (Nat.le_refl _), begins_succ]; omega
    · rw [if_neg e]; exact h2 u (by omega)
  · rw [at_put (by omega), if_neg (by omega)]; exact h3 u (by omega) hu
/-- The third loop: the first i are laid. -/
structure Laying (n m : Nat) (F T : Nat → Nat) (W : Nat → Int) (i : Nat) (nx to wt : List Int) : Prop where
  nlen : nx.length = n + 1
  nxa : ∀ v, v < n → at_ nx v = (begins F m v + outs F v i : Nat)
  tlen : to.length = m
  wlen : wt.length = m
  tla : ∀ j, j < i → at_ to (place F m j) = T j
  wta : ∀ j, j < i → at_ wt (place F m j) = W j
  tin : ∀ e, e < m → 0 ≤ at_ to e ∧ at_ to e < n
  win : ∀ e, e < m → 0 ≤ at_ wt e ∧ at_ wt e ≤ 4294967295
theorem Laying.at {i : Nat} {nx to wt : List Int} (h : Laying n m F T W i nx to wt) (hF : F i < n) : at_ nx (F i) = (place F m i : Int) := h.nxa _ hF
theorem Laying.step {i : Nat} {nx to wt : List Int} (h : Laying n m F T W i nx to wt) (hi : i < m) (hF : F i < n) (hT : T i < n) (hW : 0 ≤ W i ∧ W i ≤ 4294967295) :
    Laying n m F T W (i + 1) (nx.set (F i) (at_ nx (F i) + 1)) (to.set (place F m i) (T i)) (wt.set (place F m i) (W i)) := by
  have hp := place_lt (F := F) hi
  have h1 := h.nlen
  have h2 := h.tlen
  have h3 := h.wlen
  refine ⟨by rw [List.length_set]; exact h1, fun v hv => ?_, by rw [List.length_set]; exact h2, by rw [List.length_set]; exact h3, fun j hj => ?_, fun j hj => ?_, fun e he => ?_, fun e he => ?_⟩
  · rw [at_put (by omega), outs_succ]
    by_cases e : v = F i
    · subst e; rw [if_pos rfl, if_pos rfl, h.nxa _ hv]; omega
    · rw [if_neg e, if_neg (fun q => e q.symm), h.nxa _ hv]; omega
  · rw [at_put (by omega)]
    by_cases e : j = i
    · subst e; rw [if_pos rfl]
    · rw [if_neg (place_inj hi (by omega))]; exact h.tla j (by omega)
  · rw [at_put (by omega)]
    by_cases e : j = i
    · subst e; rw [if_pos rfl]
    · rw [if_neg (place_inj hi (by omega))]; exact h.wta j (by omega)
  · rw [at_put (by omega)]
    split
    · omega
    · exact h.tin e he
  · rw [at_put (by omega)]
    split
    · exact hW
    · exact h.win e he
/-- What was laid is a graph, and each edge lies in it. -/
theorem Laying.good {st nx to wt : List Int} (hs : Summed n m F n st) (h : Laying n m F T W m nx to wt) (hF : ∀ i, i < m → F i < n) (hn : n ≤ 1048576) (hm : m ≤ 4194304) : Good n st to wt where
  n_le := hn
  m_le := by rw [h.tlen]; exact hm
  s_len := hs.1
  w_len := by rw [h.wlen, h.tlen]
  rows i hi := by
    have h1 := hs.2.1 i (by omega)
    have h2 : begins F m i ≤ m := cnt_le _ m
    have h3 : ahead st i ≤ at_ st i := by
      unfold ahead
      by_cases e : i = 0
      · rw [if_pos e, h1]; omega
      · rw [if_neg e, h1, hs.2.1 (i - 1) (by omega)]
        have := begins_mono (F := F) (m := m) (u := i - 1) (v := i) (by omega)
        omega
    unfold BadRow
    rw [h.tlen]
    rintro (h4 | h4 | h4 | h4)
    · omega
    · omega
    · obtain ⟨e, h5⟩ := h4
      subst e; rw [h1, begins_zero] at h5; exact h5 rfl
    · obtain ⟨e, h5⟩ := h4
      subst e; rw [h1, begins_all hF] at h5; exact h5 rfl
  edges e he := by
    rw [h.tlen] at he
    unfold edgeNo
    rw [if_pos (show IsV n (at_ to e) from h.tin e he), if_neg (by have := (h.win e he).2; omega)]
theorem Laying.edge {st nx to wt : List Int} (hs : Summed n m F n st) (h : Laying n m F T W m nx to wt) (hF : ∀ i, i < m → F i < n) (hn : n ≤ 1048576) (hm : m ≤ 4194304) {i : Nat} (hi : i < m) :
    place F m i < to.length ∧ src st n (place F m i) = F i ∧ at_ to (place F m i) = T i ∧ at_ wt (place F m i) = W i := by
  have hr := place_row (F := F) hi
  have hf := hF i hi
  refine ⟨by rw [h.tlen]; exact place_lt hi, src_eq (h.good hs hF hn hm) hf ?_ ?_, h.tla i hi, h.wta i hi⟩
  · rw [hs.2.1 _ (by omega)]; omega
  · rw [hs.2.1 _ (by omega)]; omega
end
end Go.Proofs.Ytdbphlafbehklaa
