/- Circles, plainly. -/
import Derived.Test.YtacmlilcamkndaaKw
namespace Go.Proofs.Ytacmlilcamkndaa
set_option linter.unusedVariables false
section
variable {n : Nat} {st tl wt L : List Int}
/-- The entries of the edges of D. -/
def EN (n : Nat) (st tl L : List Int) (D : Nat → Prop) (fr pl : Nat → Int) : Prop :=
  ∀ v, v < n → (pl v = -1 ∧ fr v = -1 ∧ ∀ e, e < tl.length → D e → ¬ (src st n e : Int) ∈ L → at_ tl e ≠ (v : Int)) ∨ ∃ e : Nat, e < tl.length ∧ pl v = (e : Int) ∧ fr v = (src st n e : Int) ∧ at_ tl e = (v : Int) ∧ ¬ (src st n e : Int) ∈ L
theorem EN.start : EN n st tl L (fun _ => False) (fun _ => -1) (fun _ => -1) := fun v _ => .inl ⟨rfl, rfl, fun e _ h => h.elim⟩
theorem EN.congr {D E : Nat → Prop} {fr pl : Nat → Int} (h : EN n st tl L D fr pl) (k : ∀ e, e < tl.length → ¬ (src st n e : Int) ∈ L → E e → D e) : EN n st tl L E fr pl := fun v hv => by
  rcases h v hv with ⟨h1, h2, h3⟩ | h1
  · exact .inl ⟨h1, h2, fun e he hE hl => h3 e he (k e he hl hE) hl⟩
  · exact .inr h1
theorem EN.put {D : Nat → Prop} {fr pl : Nat → Int} {p a : Nat} (h : EN n st tl L D fr pl) (hp : p < tl.length) (ha : at_ tl p = (a : Int)) (hl : ¬ (src st n p : Int) ∈ L) :
    EN n st tl L (fun e => D e ∨ e = p) (fun v => if v = a then (src st n p : Int) else fr v) (fun v => if v = a then (p : Int) else pl v) := fun v hv => by
  by_cases e : v = a
  · right
    refine ⟨p, hp, by simp [e], by simp [e], by rw [ha, e], hl⟩
  · rcases h v hv with ⟨h1, h2, h3⟩ | ⟨q, h1, h2, h3, h4, h5⟩
    · left
      refine ⟨by simp [e, h1], by simp [e, h2], fun x hx hD hl2 => ?_⟩
      rcases hD with hD | hD
      · exact h3 x hx hD hl2
      · subst hD; rw [ha]; intro hc; exact e (by omega)
    · exact .inr ⟨q, h1, by simp [e, h2], by simp [e, h3], h4, h5⟩
/-- All entries. -/
def EF (n : Nat) (st tl L : List Int) (fr pl : Nat → Int) : Prop := EN n st tl L (fun _ => True) fr pl
/-- One that has not come has an edge from such a one. -/
theorem entry_ex (hf : Fin n st tl L) {x : Nat} (hx : x < n) (hl : ¬ (x : Int) ∈ L) : ∃ e, e < tl.length ∧ at_ tl e = (x : Int) ∧ ¬ (src st n e : Int) ∈ L := by
  have h1 : ¬ Rdy n tl (dn n st L) L (x : Int) := hf.2 _
  have h2 : cn tl (dn n st L) (x : Int) ≠ 0 := fun h => h1 ⟨⟨by omega, by omega⟩, hl, h⟩
  have h3 : 0 < cn tl (dn n st L) (x : Int) := Nat.pos_of_ne_zero h2
  unfold cn at h3
  rw [List.countP_pos_iff] at h3
  obtain ⟨e, he, hq⟩ := h3
  simp only [Bool.and_eq_true, decide_eq_true_eq, Bool.not_eq_true', dn, decide_eq_false_iff_not] at hq
  exact ⟨e, List.mem_range.1 he, hq.1, hq.2⟩
/-- What one that has not come goes to has not come either. -/
theorem entry_not (hf : Fin n st tl L) {e : Nat} (he : e < tl.length) (hl : ¬ (src st n e : Int) ∈ L) : ¬ at_ tl e ∈ L := fun hm => by
  have h1 := Sq.zero n st tl hf.1 _ hm
  unfold cn at h1
  rw [List.countP_eq_zero] at h1
  have := h1 e (List.mem_range.2 he)
  simp [dn, hl] at this
/-- v's edge, and whence it comes. -/
structure At (n : Nat) (st tl L : List Int) (v e u : Nat) : Prop where
  e_lt : e < tl.length
  u_lt : u < n
  v_lt : v < n
  tlv : at_ tl e = (v : Int)
  srv : src st n e = u
  vL : ¬ (v : Int) ∈ L
  uL : ¬ (u : Int) ∈ L
theorem EF.at (hg : Good n st tl wt) (hf : Fin n st tl L) {fr pl : Nat → Int} (h : EF n st tl L fr pl) {v : Nat} (hv : v < n) (hl : ¬ (v : Int) ∈ L) : ∃ e u : Nat, pl v = (e : Int) ∧ fr v = (u : Int) ∧ At n st tl L v e u := by
  rcases h v hv with ⟨h1, h2, h3⟩ | ⟨e, h1, h2, h3, h4, h5⟩
  · obtain ⟨e, he, ht, hs⟩ := entry_ex hf hv hl
    exact absurd ht (h3 e he trivial hs)
  · exact ⟨e, src st n e, h2, h3, h1, src_lt hg h1, hv, h4, rfl, hl, h5⟩
theorem EF.some (hf : Fin n st tl L) {fr pl : Nat → Int} (h : EF n st tl L fr pl) {v : Nat} (hv : v < n) (hp : pl v ≠ -1) : ¬ (v : Int) ∈ L := by
  rcases h v hv with ⟨h1, _, _⟩ | ⟨e, h1, h2, h3, h4, h5⟩
  · exact absurd h1 hp
  · rw [← h4]; exact entry_not hf h1 h5
theorem left_ex (hl : L.length < n) : ∃ x : Nat, x < n ∧ ¬ (x : Int) ∈ L := by
  apply Classical.byContradiction
  intro hc
  have h1 : ∀ x : Nat, x < n → (x : Int) ∈ L := fun x hx => Classical.byContradiction fun h => hc ⟨x, hx, h⟩
  have h2 : ((List.range n).map (fun (i : Nat) => (i : Int))).Nodup := by
    rw [List.nodup_iff_pairwise_ne, List.pairwise_map]
    refine List.Pairwise.imp ?_ (List.nodup_iff_pairwise_ne.1 (List.nodup_range (n := n)))
    intro a b hab he
    exact hab (by omega)
  have h3 := h2.length_le_of_subset (l₂ := L) (fun x hx => by obtain ⟨i, hi, rfl⟩ := List.mem_map.1 hx; exact h1 i (List.mem_range.1 hi))
  simp at h3
  omega
/-- Again and again. -/
def itr (f : Nat → Nat) (v : Nat) : Nat → Nat
  | 0 => v
  | k + 1 => f (itr f v k)
theorem itr_add (f : Nat → Nat) (v a b : Nat) : itr f (itr f v a) b = itr f v (a + b) := by
  induction b with
  | zero => rfl
  | succ b ih => show f (itr f (itr f v a) b) = f (itr f v (a + b)); rw [ih]
/-- Edges round: x goes back by f, each by its own edge g. -/
structure Rd (n : Nat) (st tl L : List Int) (f g : Nat → Nat) : Prop where
  at_ : ∀ v, v < n → ¬ (v : Int) ∈ L → At n st tl L v (g v) (f v)
theorem Rd.itr {f g : Nat → Nat} (h : Rd n st tl L f g) {v : Nat} (hv : v < n) (hl : ¬ (v : Int) ∈ L) : ∀ k, itr f v k < n ∧ ¬ (itr f v k : Int) ∈ L
  | 0 => ⟨hv, hl⟩
  | k + 1 => by
    obtain ⟨h1, h2⟩ := h.itr hv hl k
    have := h.at_ _ h1 h2
    exact ⟨this.u_lt, this.uL⟩
theorem round_back {f : Nat → Nat} {v j k : Nat} (hjk : j < k) (h : itr f v j = itr f v k) : ∃ d, 1 ≤ d ∧ itr f (itr f v k) d = itr f v k := ⟨k - j, by omega, by
  rw [← h, itr_add, show j + (k - j) = k by omega, h]⟩
/-- A circle, as the document asks for it. -/
structure Ci (n : Nat) (st tl c : List Int) : Prop where
  pos : 0 < c.length
  few : c.length ≤ n
  edge : ∀ a, a < c.length → ∃ e : Nat, Go.Proofs.Ytacmlilcamkndaa.at_ c a = (e : Int) ∧ e < tl.length
  apart : ∀ a b, a < c.length → b < c.length → src st n (Go.Proofs.Ytacmlilcamkndaa.at_ c a).toNat = src st n (Go.Proofs.Ytacmlilcamkndaa.at_ c b).toNat → a = b
  next : ∀ a, a < c.length → Go.Proofs.Ytacmlilcamkndaa.at_ tl (Go.Proofs.Ytacmlilcamkndaa.at_ c a).toNat = (src st n (Go.Proofs.Ytacmlilcamkndaa.at_ c ((a + 1) % c.length)).toNat : Int)
theorem at_reverse (l : List Int) (a : Nat) (h : a < l.length) : at_ l.reverse a = at_ l (l.length - 1 - a) := by
  unfold at_
  rw [List.getElem?_reverse h]
/-- The edges of a round, turned. -/
theorem ci_made (hg : Good n st tl wt) {f g : Nat → Nat} (h : Rd n st tl L f g) {v t : Nat} (hv : v < n) (hl : ¬ (v : Int) ∈ L) (ht : 1 ≤ t) (hr : itr f v t = v) (hm : ∀ x, 1 ≤ x → x < t → itr f v x ≠ v) :
    Ci n st tl (tab t (fun a => (g (itr f v a) : Int))).reverse := by
  have hlen : (tab t (fun a => (g (itr f v a) : Int))).reverse.length = t := by rw [List.length_reverse, tab_length]
  have hA : ∀ b, b < t → at_ (tab t (fun a => (g (itr f v a) : Int))).reverse b = (g (itr f v (t - 1 - b)) : Int) := fun b hb => by
    rw [at_reverse _ _ (by rw [tab_length]; exact hb), tab_length, tab_at _ _ _ (by omega)]
  have hS : ∀ b, b < t → src st n (at_ (tab t (fun a => (g (itr f v a) : Int))).reverse b).toNat = itr f v (t - b) := fun b hb => by
    rw [hA b hb, Int.toNat_natCast]
    obtain ⟨h1, h2⟩ := h.itr hv hl (t - 1 - b)
    rw [(h.at_ _ h1 h2).srv]
    show itr f v (t - 1 - b + 1) = _
    congr 1; omega
  have hD : ∀ a b, 1 ≤ a → a < b → b ≤ t → itr f v a ≠ itr f v b := fun a b h1 h2 h3 he => by
    have h4 : itr f (itr f v a) (t - b) = itr f (itr f v b) (t - b) := by rw [he]
    rw [itr_add, itr_add, show b + (t - b) = t by omega, hr] at h4
    exact hm (a + (t - b)) (by omega) (by omega) h4
  have hap : ∀ a b, a < t → b < t → itr f v (t - a) = itr f v (t - b) → a = b := fun a b ha hb he => by
    rcases Nat.lt_trichotomy a b with h1 | h1 | h1
    · exact absurd he.symm (hD (t - b) (t - a) (by omega) (by omega) (by omega))
    · exact h1
    · exact absurd he (hD (t - a) (t - b) (by omega) (by omega) (by omega))
  refine ⟨by rw [hlen]; omega, ?_, ?_, ?_, ?_⟩
  · rw [hlen]
    have h5 : ((List.range t).map (fun a => (itr f v (t - a) : Int))).Nodup := by
      rw [List.nodup_iff_pairwise_ne, List.pairwise_map]
      refine List.Pairwise.imp_of_mem ?_ (List.nodup_iff_pairwise_ne.1 (List.nodup_range (n := t)))
      intro a b ha hb hab he
      exact hab (hap a b (List.mem_range.1 ha) (List.mem_range.1 hb) (by omega))
    have h6 := few n (fun x hx => by
      obtain ⟨a, ha, rfl⟩ := List.mem_map.1 hx
      have := (h.itr hv hl (t - a)).1
      omega) h5
    simpa using h6
  · intro a ha
    rw [hlen] at ha
    obtain ⟨h1, h2⟩ := h.itr hv hl (t - 1 - a)
    exact ⟨_, hA a ha, (h.at_ _ h1 h2).e_lt⟩
  · intro a b ha hb he
    rw [hlen] at ha hb
    rw [hS a ha, hS b hb] at he
    exact hap a b ha hb he
  · intro a ha
    rw [hlen] at ha ⊢
    rw [hS _ (Nat.mod_lt _ (by omega)), hA a ha, Int.toNat_natCast]
    obtain ⟨h1, h2⟩ := h.itr hv hl (t - 1 - a)
    rw [(h.at_ _ h1 h2).tlv]
    by_cases e : a + 1 < t
    · rw [Nat.mod_eq_of_lt e, show t - (a + 1) = t - 1 - a by omega]
    · have e2 : a + 1 = t := by omega
      rw [e2, Nat.mod_self, Nat.sub_zero, hr, show t - 1 - a = 0 by omega]
      rfl
end
end Go.Proofs.Ytacmlilcamkndaa
