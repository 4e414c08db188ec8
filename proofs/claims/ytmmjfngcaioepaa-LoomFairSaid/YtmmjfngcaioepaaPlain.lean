/- Fair, in plain words: how often a number stands among so many, where it stands last. -/
namespace Go.Proofs.Ytmmjfngcaioepaa

/-- How often v stands among the k from s on. -/
def wc (f : Nat → Nat) (v s : Nat) : Nat → Nat
  | 0 => 0
  | k + 1 => wc f v s k + if f (s + k) = v then 1 else 0
theorem wc_front (f : Nat → Nat) (v s k : Nat) : wc f v s (k + 1) = (if f s = v then 1 else 0) + wc f v (s + 1) k := by
  induction k with
  | zero => simp [wc]
  | succ k ih =>
    rw [wc, ih]
    simp only [wc]
    rw [show s + 1 + k = s + (k + 1) by omega]
    omega
theorem wc_le (f : Nat → Nat) (v s k : Nat) : wc f v s k ≤ k := by
  induction k with
  | zero => simp [wc]
  | succ k ih => simp only [wc]; split <;> omega
theorem wc_zero (f : Nat → Nat) (v s k : Nat) : wc f v s k = 0 ↔ ∀ j, j < k → f (s + j) ≠ v := by
  induction k with
  | zero => simp [wc]
  | succ k ih =>
    simp only [wc]
    constructor
    · intro h j hj
      rcases Nat.lt_or_ge j k with hl | hl
      · exact ih.1 (by omega) j hl
      · obtain rfl : j = k := by omega
        intro e; rw [if_pos e] at h; omega
    · intro h
      rw [if_neg (h k (by omega)), ih.2 (fun j hj => h j (by omega))]

/-- The place behind the last v among the first i; 0: there is none. -/
def lst (f : Nat → Nat) (v : Nat) : Nat → Nat
  | 0 => 0
  | i + 1 => if f i = v then i + 1 else lst f v i
theorem lst_le (f : Nat → Nat) (v i : Nat) : lst f v i ≤ i := by
  induction i with
  | zero => simp [lst]
  | succ i ih => simp only [lst]; split <;> omega
theorem lst_iff (f : Nat → Nat) (v s i : Nat) : lst f v i ≤ s ↔ ∀ j, s ≤ j → j < i → f j ≠ v := by
  induction i with
  | zero => simp [lst]
  | succ i ih =>
    simp only [lst]
    constructor
    · intro h j h1 h2 e
      rcases Nat.lt_or_ge j i with hl | hl
      · split at h
        · omega
        · exact ih.1 h j h1 hl e
      · obtain rfl : j = i := by omega
        rw [if_pos e] at h
        omega
    · intro h
      split
      · rename_i e
        rcases Nat.lt_or_ge i s with hl | hl
        · omega
        · exact absurd e (h i hl (by omega))
      · exact ih.2 (fun j h1 h2 => h j h1 (by omega))

/-- Every row of w that ends at i at the latest .. : all n stand in the row that ends at i. -/
def Full (f : Nat → Nat) (n w i : Nat) : Prop := ∀ v, v < n → wc f v (i + 1 - w) w ≠ 0
def Fairs (f : Nat → Nat) (n w L : Nat) : Prop := ∀ i, w ≤ i + 1 → i < L → Full f n w i

theorem full_lst (f : Nat → Nat) (n w i : Nat) (h : w ≤ i + 1) : Full f n w i ↔ ∀ v, v < n → ¬ lst f v (i + 1) ≤ i + 1 - w := by
  unfold Full
  constructor
  · intro H v hv hl
    refine H v hv ((wc_zero f v (i + 1 - w) w).2 fun j hj => (lst_iff f v (i + 1 - w) (i + 1)).1 hl (i + 1 - w + j) (by omega) (by omega))
  · intro H v hv hz
    refine H v hv ((lst_iff f v (i + 1 - w) (i + 1)).2 fun j h1 h2 => ?_)
    have := (wc_zero f v (i + 1 - w) w).1 hz (j - (i + 1 - w)) (by omega)
    rw [show i + 1 - w + (j - (i + 1 - w)) = j by omega] at this
    exact this

/-- A list of n numbers, one of each. -/
def tab (n : Nat) (g : Nat → Int) : List Int := (List.range n).map g
theorem tab_length (n : Nat) (g : Nat → Int) : (tab n g).length = n := by simp [tab]
theorem tab_at (n : Nat) (g : Nat → Int) (i : Nat) (h : i < n) : (tab n g)[i]?.getD 0 = g i := by simp [tab, h]
theorem tab_set (n : Nat) (g : Nat → Int) (a : Nat) (x : Int) : (tab n g).set a x = tab n (fun v => if v = a then x else g v) := by
  apply List.ext_getElem
  · simp [tab]
  · intro i h1 h2
    simp only [List.getElem_set, tab, List.getElem_map, List.getElem_range]
    by_cases e : a = i
    · rw [if_pos e, if_pos e.symm]
    · rw [if_neg e, if_neg (fun h => e h.symm)]
theorem tab_congr {n : Nat} {g h : Nat → Int} (e : ∀ v, v < n → g v = h v) : tab n g = tab n h := by
  apply List.ext_getElem
  · simp [tab]
  · intro i h1 h2
    simp only [tab, List.getElem_map, List.getElem_range]
    exact e i (by simpa [tab] using h1)

/-- How many of the first n are 0. -/
def zeros (n : Nat) (g : Nat → Int) : Nat := (tab n g).count 0
theorem zeros_le (n : Nat) (g : Nat → Int) : zeros n g ≤ n := by
  have := List.count_le_length (a := (0 : Int)) (l := tab n g)
  rw [tab_length] at this
  exact this
theorem zeros_pos (n : Nat) (g : Nat → Int) : 0 < zeros n g ↔ ∃ v, v < n ∧ g v = 0 := by
  unfold zeros
  rw [List.count_pos_iff]
  simp [tab]
theorem zeros_set (n : Nat) (g : Nat → Int) (a : Nat) (x : Int) (h : a < n) : zeros n (fun v => if v = a then x else g v) = zeros n g - (if g a = 0 then 1 else 0) + (if x = 0 then 1 else 0) := by
  unfold zeros
  rw [← tab_set, List.count_set (by rw [tab_length]; exact h)]
  have e : (tab n g)[a]'(by rw [tab_length]; exact h) = g a := by simp [tab]
  rw [e]
  simp only [beq_iff_eq]
theorem zeros_congr {n : Nat} {g h : Nat → Int} (e : ∀ v, v < n → g v = h v) : zeros n g = zeros n h := by unfold zeros; rw [tab_congr e]
theorem zeros_const (n : Nat) : zeros n (fun _ => 0) = n := by
  unfold zeros tab
  induction n with
  | zero => rfl
  | succ n ih => rw [List.range_succ, List.map_append, List.count_append, ih]; simp
end Go.Proofs.Ytmmjfngcaioepaa
