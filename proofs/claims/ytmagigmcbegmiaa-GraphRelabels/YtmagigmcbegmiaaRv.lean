/- GraphRelabels: a list of ints of one's own; an order with two places changed is an order; the order back. -/
import Derived.Test.YtmagigmcbegmiaaBz
namespace Go.Proofs.Ytmagigmcbegmiaa
open Go.RowKit Go.Lib
set_option linter.unusedVariables false
set_option linter.unusedSimpArgs false
/-- A list of ints at the head of a block. -/
def OwI (w : World) (g : Nat) (o : List Int) (ex : List Value) : Prop := w.heap[g]? = some (.cells ((o.map (Value.int .i64)) ++ ex).toArray 3 (0, 0))
section
variable {w : World} {g : Nat} {o : List Int} {ex : List Value}
theorem OwI.cell (h : OwI w g o ex) (i : Nat) (hi : i < o.length) : w.cell? ⟨g, i, none⟩ = some (.int .i64 (at_ o i)) := by
  refine cell_of h (i := i) ?_
  simp [at_, hi, List.getElem?_append]
theorem OwI.free (h : OwI w g o ex) (i : Nat) : w.frozen? ⟨g, i, none⟩ = false := free_of h i
theorem OwI.put (h : OwI w g o ex) (i : Nat) (hi : i < o.length) (x : Int) : OwI (w.setCell ⟨g, i, none⟩ (.int .i64 x)) g (o.set i x) ex := by
  unfold OwI at h ⊢
  rw [heap_set h]
  congr 2
  rw [List.map_set]
  apply Array.ext'
  simp [Array.toList_setIfInBounds, List.set_append, hi]
theorem OwI.below (h : OwI w g o ex) {w' : World} (hb : Below w.heap.size w w') : OwI w' g o ex := (hb.block _ (lt_of_heap h)).trans h
theorem OwI.row (h : OwI w g o ex) (hc : o.length + ex.length ≤ 9223372036854775807) : RowAt .i64 w (.slice (some ⟨g, 0, none⟩) o.length (o.length + ex.length)) o := by
  refine ⟨some ⟨g, 0, none⟩, o.length + ex.length, rfl, by omega, by exact hc, (fun e => by cases e), ?_⟩
  intro a ha i hi
  cases ha
  rw [Addr.add_lit, Nat.zero_add]
  have := h.cell i hi
  rw [this]
  simp [at_, hi]
theorem OwI.of_owns {B : Nat} {v : Value} (h : w.ownsRow B 3 1 v o.length (o.map (Value.int .i64))) (ho : 0 < o.length) : ∃ g ex, v = .slice (some ⟨g, 0, none⟩) o.length (o.length + ex.length) ∧ OwI w g o ex ∧ B ≤ g ∧ o.length + ex.length ≤ 9223372036854775807 := by
  obtain ⟨h0, ⟨rfl, hn⟩ | ⟨g, cap, cur, rfl, hg, hb, h1, h2, h3, h4⟩⟩ := h
  · omega
  · have hs : cur.toList.length = cap := by
      have := h3
      simp only [Nat.mul_one] at this
      rw [Array.length_toList]; first | exact this | exact this.1 | omega
    refine ⟨g, cur.toList.drop o.length, ?_, ?_, hg, ?_⟩
    · have : cap = o.length + (cur.toList.drop o.length).length := by
        rw [List.length_drop, hs]; omega
      rw [← this]
    · unfold OwI
      rw [hb]
      congr 2
      rw [← h4, Nat.mul_one, List.take_append_drop]
    · rw [List.length_drop, hs]
      unfold maxLen at h2
      omega
end
/-- Two places changed. -/
def swp (o : List Int) (a b : Nat) : List Int := (o.set a (at_ o b)).set b (at_ o a)
theorem at_set {o : List Int} {i k : Nat} {x : Int} (hi : i < o.length) : at_ (o.set i x) k = if k = i then x else at_ o k := by
  unfold at_
  rw [List.getElem?_set]
  by_cases h : i = k
  · subst h; simp [hi]
  · rw [if_neg h, if_neg (fun h2 => h h2.symm)]
theorem prm_swap {n : Nat} {o : List Int} {P : Nat → Nat} (h : Prm n o P) {a b : Nat} (ha : a < n) (hb : b < n) : ∃ P', Prm n (swp o a b) P' := by
  obtain ⟨x, hx, hxn, hxP⟩ := h.rng a ha
  obtain ⟨y, hy, hyn, hyP⟩ := h.rng b hb
  have hl := h.len
  have hat : ∀ k, at_ (swp o a b) k = if k = b then (x : Int) else if k = a then (y : Int) else at_ o k := fun k => by
    unfold swp
    rw [at_set (by rw [List.length_set]; omega), at_set (by omega), hx, hy]
  refine ⟨fun v => if v = x then b else if v = y then a else P v, ?_, ?_, ?_⟩
  · unfold swp; rw [List.length_set, List.length_set]; exact hl
  · intro i hi
    rw [hat]
    by_cases h1 : i = b
    · exact ⟨x, by rw [if_pos h1], hxn, by simp [h1]⟩
    · rw [if_neg h1]
      by_cases h2 : i = a
      · refine ⟨y, by rw [if_pos h2], hyn, ?_⟩
        have : y ≠ x := fun he => by subst he; omega
        simp [this, h2]
      · rw [if_neg h2]
        obtain ⟨v, hv, hvn, hvP⟩ := h.rng i hi
        refine ⟨v, hv, hvn, ?_⟩
        have h3 : v ≠ x := fun he => by subst he; omega
        have h4 : v ≠ y := fun he => by subst he; omega
        simp [h3, h4, hvP]
  · intro v hv
    by_cases h1 : v = x
    · subst h1
      refine ⟨by simp [hb], ?_⟩
      rw [hat]
      simp
    · by_cases h2 : v = y
      · subst h2
        have hab : a ≠ b := fun he => by subst he; omega
        refine ⟨by simp [h1, ha], ?_⟩
        rw [hat]
        simp [h1, hab]
      · have hp := h.pos v hv
        have h3 : P v ≠ a := fun he => by rw [he, hx] at hp; omega
        have h4 : P v ≠ b := fun he => by rw [he, hy] at hp; omega
        refine ⟨by simp [h1, h2, hp.1], ?_⟩
        rw [hat]
        simp [h1, h2, h3, h4, hp.2]
/-- All in their own order. -/
theorem prm_id (n : Nat) : Prm n (tab n (fun v => (v : Int))) id :=
  ⟨tab_length _ _, fun i hi => ⟨i, tab_at n _ i hi, hi, rfl⟩, fun v hv => ⟨hv, tab_at n _ v hv⟩⟩
/-- The order back. -/
theorem prm_back {n : Nat} {o : List Int} {P : Nat → Nat} (h : Prm n o P) : Prm n (tab n (fun v => (P v : Int))) (fun v => (at_ o v).toNat) ∧ (∀ v, v < n → (at_ o v).toNat < n) ∧ ∀ v, v < n → (at_ o (P v)).toNat = v := by
  have h1 : ∀ v, v < n → (at_ o v).toNat < n ∧ P (at_ o v).toNat = v := fun v hv => by
    obtain ⟨u, hu, hun, huP⟩ := h.rng v hv
    rw [hu, Int.toNat_natCast]
    exact ⟨hun, huP⟩
  have h2 : ∀ v, v < n → (at_ o (P v)).toNat = v := fun v hv => by rw [(h.pos v hv).2]; exact Int.toNat_natCast _
  refine ⟨⟨tab_length _ _, fun i hi => ⟨P i, tab_at n _ i hi, (h.pos i hi).1, h2 i hi⟩, fun v hv => ⟨(h1 v hv).1, ?_⟩⟩, fun v hv => (h1 v hv).1, h2⟩
  rw [tab_at n _ _ (h1 v hv).1, (h1 v hv).2]
end Go.Proofs.Ytmagigmcbegmiaa
