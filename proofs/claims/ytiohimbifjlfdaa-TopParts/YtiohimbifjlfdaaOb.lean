/- The order under way, plainly. -/
import Derived.Test.YtiohimbifjlfdaaOrHp
namespace Go.Proofs.Ytiohimbifjlfdaa
set_option linter.unusedVariables false
/-- How many of the first k edges go to v. -/
def cb (tl : List Int) (k : Nat) (v : Int) : Nat := (List.range k).countP fun e => decide (at_ tl e = v)
theorem cb_zero (tl : List Int) (v : Int) : cb tl 0 v = 0 := rfl
theorem cb_succ (tl : List Int) (k : Nat) (v : Int) : cb tl (k + 1) v = cb tl k v + (if at_ tl k = v then 1 else 0) := by
  unfold cb
  rw [List.range_succ, List.countP_append]
  simp only [List.countP_cons, List.countP_nil, Nat.zero_add]
  by_cases h : at_ tl k = v
  · simp [h]
  · simp [h]
theorem cb_le (tl : List Int) (k : Nat) (v : Int) : cb tl k v ≤ k := by
  unfold cb
  refine Nat.le_trans List.countP_le_length ?_
  simp
theorem cb_all (n : Nat) (st tl : List Int) (v : Int) : cb tl tl.length v = cn tl (dn n st []) v := by
  unfold cb cn
  refine List.countP_congr fun e _ => ?_
  simp [dn]
/-- A list of n numbers, each by its place. -/
theorem tab_up {n : Nat} {f g : Int → Nat} {a : Nat} (d : Int) (h : ∀ v : Nat, v < n → (g (v : Int) : Int) = (f (v : Int) : Int) + (if v = a then d else 0)) (ha : a < n) : (tab n (fun v => (f (v : Int) : Int))).set a (at_ (tab n (fun v => (f (v : Int) : Int))) a + d) = tab n (fun v => (g (v : Int) : Int)) := by
  rw [tab_set, tab_at _ _ _ ha]
  refine tab_congr fun v hv => ?_
  have := h v hv
  by_cases e : v = a
  · subst e; rw [if_pos rfl]; rw [if_pos rfl] at this; omega
  · rw [if_neg e]; rw [if_neg e] at this; omega
/-- Distinct ones, just those of P. -/
def QM (P : Int → Prop) (q : List Int) : Prop := q.Nodup ∧ ∀ v, v ∈ q ↔ P v
theorem QM.push {P : Int → Prop} {q q' : List Int} {x : Int} (h : QM P q) (hp : q'.Perm (x :: q)) (hx : ¬ P x) : QM (fun v => P v ∨ v = x) q' := by
  refine ⟨hp.nodup_iff.2 (List.nodup_cons.2 ⟨fun hm => hx ((h.2 x).1 hm), h.1⟩), fun v => ?_⟩
  rw [hp.mem_iff, List.mem_cons, h.2 v]
  exact or_comm
theorem QM.pop {P : Int → Prop} {q q' : List Int} {x : Int} (h : QM P q) (hp : q.Perm (x :: q')) : QM (fun v => P v ∧ v ≠ x) q' := by
  have hn := List.nodup_cons.1 (hp.nodup_iff.1 h.1)
  refine ⟨hn.2, fun v => ?_⟩
  show v ∈ q' ↔ P v ∧ v ≠ x
  rw [← h.2 v, hp.mem_iff, List.mem_cons]
  constructor
  · intro hv; exact ⟨.inr hv, fun e => hn.1 (e ▸ hv)⟩
  · rintro ⟨h1 | h1, h2⟩
    · exact absurd h1 h2
    · exact h1
theorem QM.congr {P R : Int → Prop} {q : List Int} (h : QM P q) (e : ∀ v, P v ↔ R v) : QM R q := ⟨h.1, fun v => (h.2 v).trans (e v)⟩
theorem QM.len {P : Int → Prop} {q : List Int} {n : Nat} (h : QM P q) (hp : ∀ v, P v → 0 ≤ v ∧ v < (n : Int)) : q.length ≤ n := Go.Proofs.Ytiohimbifjlfdaa.few n (fun v hv => hp v ((h.2 v).1 hv)) h.1
section
variable {n : Nat} {st tl wt : List Int}
/-- One more edge is done: who can come now. -/
theorem rdy_next (hg : Good n st tl wt) {l l' : List Int} {u p : Nat} (hp : p < tl.length) (hs : src st n p = u) (hu : ¬ (u : Int) ∈ l) (x : Int) :
    Rdy n tl (dp n st l u (p + 1)) l' x ↔ Rdy n tl (dp n st l u p) l' x ∨ (x = at_ tl p ∧ cn tl (dp n st l u (p + 1)) x = 0 ∧ ¬ x ∈ l') := by
  have hc := cn_step n st tl l u p hg hp hs hu x
  have hv := hg.vtx p hp
  unfold Rdy
  by_cases e : at_ tl p = x
  · rw [if_pos e] at hc
    constructor
    · rintro ⟨h1, h2, h3⟩; exact .inr ⟨e.symm, h3, h2⟩
    · rintro (⟨h1, h2, h3⟩ | ⟨h1, h2, h3⟩)
      · omega
      · exact ⟨by rw [← e]; exact ⟨hv.1, hv.2.1⟩, h3, h2⟩
  · rw [if_neg e] at hc
    constructor
    · rintro ⟨h1, h2, h3⟩; exact .inl ⟨h1, h2, by omega⟩
    · rintro (⟨h1, h2, h3⟩ | ⟨h1, _⟩)
      · exact ⟨h1, h2, by omega⟩
      · exact absurd h1.symm e
/-- Those that have come have no edges left, u too. -/
theorem came_zero (hg : Good n st tl wt) {l : List Int} {u p : Nat} (h : Sq n st tl (l ++ [(u : Int)])) {v : Int} (hv : v ∈ l ++ [(u : Int)]) : cn tl (dp n st l u p) v = 0 := by
  have h1 : cn tl (dn n st l) v = 0 := by
    rcases List.mem_append.1 hv with h2 | h2
    · exact Sq.zero n st tl (Sq.front n st tl h) v h2
    · rw [List.mem_singleton.1 h2]; exact (Sq.last n st tl h).1.2.2
  have h2 := cn_le tl (dn n st l) (dp n st l u p) v (fun e he => by simp only [dp, dn] at he ⊢; simp [he])
  omega
theorem not_came (hg : Good n st tl wt) {l : List Int} {u p : Nat} (h : Sq n st tl (l ++ [(u : Int)])) (hp : p < tl.length) (hs : src st n p = u) : ¬ at_ tl p ∈ l ++ [(u : Int)] := fun hm => by
  have h1 := came_zero hg (p := p) h hm
  have hu : ¬ (u : Int) ∈ l := (Sq.last n st tl h).1.2.1
  have h2 := cn_step n st tl l u p hg hp hs hu (at_ tl p)
  rw [if_pos rfl] at h2
  omega
theorem rdy_start (hg : Good n st tl wt) {l : List Int} {u p : Nat} (hp : at_ st u = (p : Int)) (x : Int) : Rdy n tl (dp n st l u p) (l ++ [(u : Int)]) x ↔ Rdy n tl (dn n st l) l x ∧ x ≠ (u : Int) := by
  unfold Rdy
  rw [cn_congr tl x (dp_start n st tl l u hg p hp)]
  simp only [List.mem_append, List.mem_singleton]
  constructor
  · rintro ⟨h1, h2, h3⟩; exact ⟨⟨h1, fun h => h2 (.inl h), h3⟩, fun h => h2 (.inr h)⟩
  · rintro ⟨⟨h1, h2, h3⟩, h4⟩; exact ⟨h1, fun h => h.elim h2 h4, h3⟩
theorem rdy_end (hg : Good n st tl wt) {l : List Int} {u p : Nat} (hp : at_ st (u + 1) = (p : Int)) (x : Int) : Rdy n tl (dp n st l u p) (l ++ [(u : Int)]) x ↔ Rdy n tl (dn n st (l ++ [(u : Int)])) (l ++ [(u : Int)]) x := by
  unfold Rdy
  rw [cn_congr tl x (dp_end n st tl l u hg p hp)]
theorem tab_cn {D E : Nat → Bool} (h : ∀ e, e < tl.length → D e = E e) : tab n (fun v => (cn tl D (v : Int) : Int)) = tab n (fun v => (cn tl E (v : Int) : Int)) := tab_congr fun v _ => by rw [cn_congr tl (v : Int) h]
theorem tab_down (hg : Good n st tl wt) {l : List Int} {u p a : Nat} (hp : p < tl.length) (hs : src st n p = u) (hu : ¬ (u : Int) ∈ l) (ha : at_ tl p = (a : Int)) :
    (tab n (fun v => (cn tl (dp n st l u p) (v : Int) : Int))).set a ((cn tl (dp n st l u p) (a : Int) : Int) - 1) = tab n (fun v => (cn tl (dp n st l u (p + 1)) (v : Int) : Int)) ∧ (cn tl (dp n st l u p) (a : Int) : Int) - 1 = (cn tl (dp n st l u (p + 1)) (a : Int) : Int) := by
  have hv := hg.vtx p hp
  have han : a < n := by omega
  have hc := cn_step n st tl l u p hg hp hs hu
  constructor
  · have h := tab_up (n := n) (f := cn tl (dp n st l u p)) (g := cn tl (dp n st l u (p + 1))) (a := a) (-1) (fun v hv => by
      have h1 := hc (v : Int)
      by_cases e : v = a
      · rw [if_pos e]; rw [if_pos (by rw [ha, e])] at h1; omega
      · rw [if_neg e]; rw [if_neg (by rw [ha]; omega)] at h1; omega) han
    rw [tab_at _ _ _ han] at h
    exact h
  · have h1 := hc (a : Int)
    rw [if_pos ha] at h1
    omega
theorem tab_count (hg : Good n st tl wt) {k a : Nat} (hk : k < tl.length) (ha : at_ tl k = (a : Int)) :
    (tab n (fun v => (cb tl k (v : Int) : Int))).set a ((cb tl k (a : Int) : Int) + 1) = tab n (fun v => (cb tl (k + 1) (v : Int) : Int)) := by
  have hv := hg.vtx k hk
  have han : a < n := by omega
  have h := tab_up (n := n) (f := cb tl k) (g := cb tl (k + 1)) (a := a) 1 (fun v hv => by
    have h1 := cb_succ tl k (v : Int)
    by_cases e : v = a
    · rw [if_pos e]; rw [if_pos (by rw [ha, e])] at h1; omega
    · rw [if_neg e]; rw [if_neg (by rw [ha]; omega)] at h1; omega) han
  rw [tab_at _ _ _ han] at h
  exact h
end
end Go.Proofs.Ytiohimbifjlfdaa
