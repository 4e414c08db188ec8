/- DiceOrders: what the walk wants. -/
import Derived.Test.YtglgflibpgmilaaRefNew
import Derived.Test.YtglgflibpgmilaaDiceMakesWalk
namespace Go.Proofs.Ytglgflibpgmilaa
open Go.RowKit Go.Lib

/-- The numbers 0 to n - 1, each once. -/
structure Fine (n : Nat) (l : List Int) : Prop where
  len : l.length = n
  at_ : ∀ i, i < n → ∃ x : Nat, l[i]?.getD 0 = (x : Int) ∧ x < n
  one : ∀ i j, i < n → j < n → l[i]?.getD 0 = l[j]?.getD 0 → i = j
theorem fine_iota (n : Nat) : Fine n (iota n) := by
  have h : ∀ i, i < n → (iota n)[i]?.getD 0 = (i : Int) := by
    intro i hi
    simp [iota, List.getElem?_range hi]
  refine ⟨iota_length n, fun i hi => ⟨i, h i hi, hi⟩, fun i j hi hj e => ?_⟩
  rw [h i hi, h j hj] at e
  omega
theorem swap_at (l : List Int) (i j k : Nat) (hk : k < l.length) : (swap l i j)[k]?.getD 0 = if j = k then l[i]?.getD 0 else if i = k then l[j]?.getD 0 else l[k]?.getD 0 := by
  unfold swap
  rw [List.getElem?_set, List.getElem?_set]
  by_cases h1 : j = k
  · subst h1; simp [hk]
  · by_cases h2 : i = k
    · subst h2; simp [h1, hk]
    · simp [h1, h2]
theorem fine_swap {n : Nat} {l : List Int} (h : Fine n l) (i j : Nat) (hi : i < n) (hj : j < n) : Fine n (swap l i j) := by
  have hl := h.len
  refine ⟨by rw [swap_length]; exact hl, fun k hk => ?_, fun k m hk hm e => ?_⟩
  · rw [swap_at l i j k (by omega)]
    split
    · exact h.at_ i hi
    · split
      · exact h.at_ j hj
      · exact h.at_ k hk
  · rw [swap_at l i j k (by omega), swap_at l i j m (by omega)] at e
    split at e
    · split at e
      · omega
      · split at e
        · have := h.one i j hi hj e; omega
        · have := h.one i m hi hm e; omega
    · split at e
      · split at e
        · have := h.one j i hj hi e; omega
        · split at e
          · omega
          · have := h.one j m hj hm e; omega
      · split at e
        · have := h.one k i hk hi e; omega
        · split at e
          · have := h.one k j hk hj e; omega
          · exact h.one k m hk hm e
theorem fine_shuf {n : Nat} (i : Nat) (hi : i ≤ n - 1) : ∀ (ws : List Int) (s : St) (l : List Int), Words ws → Fine n l → Fine n (shuf i ws s l).2.2 := by
  induction i with
  | zero => intro ws s l _ h; exact h
  | succ i ih =>
    intro ws s l hw h
    have hx := drawn_bounds hw s
    have hp := pick_lt (drawn ws s) (i + 2) hx.1 hx.2 (by omega)
    exact ih (by omega) ws.tail _ _ hw.tail (fine_swap h (i + 1) _ (by omega) (by omega))

/-- Which numbers were met ahead of the place i. -/
def met (l : List Int) (i j : Nat) : Bool := (List.range i).any fun k => l[k]?.getD 0 == (j : Int)
theorem met_zero (l : List Int) (j : Nat) : met l 0 j = false := rfl
theorem met_succ (l : List Int) (i j : Nat) : met l (i + 1) j = (met l i j || (l[i]?.getD 0 == (j : Int))) := by
  simp [met, List.range_succ]
theorem met_no {n : Nat} {l : List Int} (h : Fine n l) (i x : Nat) (hi : i < n) (hx : l[i]?.getD 0 = (x : Int)) : met l i x = false := by
  unfold met
  rw [List.any_eq_false]
  intro k hk
  rw [List.mem_range] at hk
  simp only [beq_iff_eq]
  intro e
  have := h.one k i (by omega) hi (by rw [e, hx])
  omega

def SeenAt (w : World) (g n : Nat) (f : Nat → Bool) : Prop := w.heap[g]? = some (.cells ((List.range n).map fun j => Value.bool (f j)).toArray 4 (0, 0))
theorem SeenAt.cell {w : World} {g n : Nat} {f : Nat → Bool} (h : SeenAt w g n f) (j : Nat) (hj : j < n) : w.cell? ⟨g, j, none⟩ = some (.bool (f j)) := by
  refine cell_of h ?_
  simp [List.getElem?_range hj]
theorem SeenAt.free {w : World} {g n : Nat} {f : Nat → Bool} (h : SeenAt w g n f) (j : Nat) : w.frozen? ⟨g, j, none⟩ = false := free_of h j
theorem SeenAt.set {w : World} {g n : Nat} {l : List Int} {i x : Nat} (h : SeenAt w g n (met l i)) (hx : l[i]?.getD 0 = (x : Int)) : SeenAt (w.setCell ⟨g, x, none⟩ (.bool true)) g n (met l (i + 1)) := by
  unfold SeenAt
  rw [heap_set h]
  congr 2
  apply Array.ext_getElem?
  intro k
  rw [Array.getElem?_setIfInBounds]
  by_cases hk : k < n
  · by_cases e : x = k
    · subst e
      simp [hk, met_succ, hx]
    · have e2 : ((x : Int) == (k : Int)) = false := by simp; omega
      simp [e, List.getElem?_range hk, met_succ, hx, e2]
  · simp [List.getElem?_eq_none (l := List.range n) (i := k) (by simp; omega)]
    omega
theorem made_seen {w : World} {B g n : Nat} {l : List Int} (h : w.ownsRow B 4 1 (.slice (some ⟨g, 0, none⟩) n n) n (madeCells (Value.bool false).cells (n * 1)).toList) : SeenAt w g n (met l 0) := by
  obtain ⟨hl, ⟨he, _⟩ | ⟨g', cap, cur, he, hg, hh, hnc, hcm, hcur, htake⟩⟩ := h
  · cases he
  · simp only [Value.slice.injEq, Option.some.injEq, true_and] at he
    obtain ⟨h1, rfl⟩ := he
    injection h1 with h1
    subst h1
    unfold SeenAt
    rw [hh]
    congr 2
    apply Array.ext'
    rw [List.take_of_length_le (by simp; omega)] at htake
    rw [htake]
    apply List.ext_getElem
    · simp [madeCells]
    · intro i h1 h2
      simp [madeCells, Value.cells, Nat.mod_one, met_zero]

/-- A list whose first numbers were written over. -/
def neg (n : Nat) (l : List Int) (k : Nat) : List Int := (List.range n).map fun i => if i < k then -3 else l[i]?.getD 0
theorem neg_zero {n : Nat} {l : List Int} (h : l.length = n) : neg n l 0 = l := by
  apply List.ext_getElem
  · simp [neg, h]
  · intro i h1 h2
    simp [neg, List.getElem?_eq_getElem h2]
theorem neg_length (n : Nat) (l : List Int) (k : Nat) : (neg n l k).length = n := by simp [neg]
theorem neg_succ (n : Nat) (l : List Int) (k : Nat) : (neg n l k).set k (-3) = neg n l (k + 1) := by
  apply List.ext_getElem
  · simp [neg]
  · intro i h1 h2
    simp only [List.getElem_set, neg, List.getElem_map, List.getElem_range]
    by_cases e : k = i
    · subst e; simp
    · rw [if_neg e]
      by_cases h : i < k
      · rw [if_pos h, if_pos (by omega)]
      · rw [if_neg h, if_neg (by omega)]
theorem neg_full (n : Nat) (l : List Int) : neg n l n = List.replicate n (-3) := by
  apply List.ext_getElem
  · simp [neg]
  · intro i h1 h2
    simp [neg_length] at h1
    simp [neg, h1]

/-- A block of its own. -/
theorem Arr.owned {w : World} {B g n : Nat} {l : List Int} (h : Arr w g l) (hl : l.length = n) (hB : B ≤ g) (hn : n ≤ 1048576) : w.ownsRow B 3 1 (.slice (some ⟨g, 0, none⟩) n n) n (l.map (Value.int .i64)) := by
  refine ⟨by simp [hl], .inr ⟨g, n, ints l, rfl, hB, h, Nat.le_refl _, by unfold maxLen; omega, by simp [ints, hl], ?_⟩⟩
  rw [List.take_of_length_le (by simp [ints, hl])]
  simp [ints]

theorem RowAt.keep {k : IntKind} {w w' : World} {v : Value} {xs : List Int} {g B : Nat} (h : RowAt k w v xs) (hv : ∀ a l c, v = .slice (some a) l c → B ≤ a.block) (hg : g < B) (hk : ∀ i, i < w.heap.size → i ≠ g → w'.heap[i]? = w.heap[i]?) : RowAt k w' v xs := by
  obtain ⟨ao, c, rfl, h1, h2, h3, h4⟩ := h
  refine ⟨ao, c, rfl, h1, h2, h3, fun a ha i hi => ?_⟩
  subst ha
  have hc := h4 a rfl i hi
  have hb := hv a _ _ rfl
  have hbl : (a.add i).block = a.block := by unfold Addr.add; split <;> rfl
  rw [World.cell?_of_block (w := w)]
  · exact hc
  · rw [hbl]
    refine hk a.block ?_ (by omega)
    rcases Nat.lt_or_ge a.block w.heap.size with h | h
    · exact h
    · exfalso
      unfold World.cell? at hc
      rw [hbl] at hc
      simp [Array.getElem?_eq_none h] at hc
end Go.Proofs.Ytglgflibpgmilaa
