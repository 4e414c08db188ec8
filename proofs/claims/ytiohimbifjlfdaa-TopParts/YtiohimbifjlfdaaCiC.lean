import Derived.Test.YtiohimbifjlfdaaKw
import Derived.Test.YtiohimbifjlfdaaRpR
import Derived.Test.YtiohimbifjlfdaaOfRh
/- Circles, plainly. -/
namespace Go.Proofs.Ytiohimbifjlfdaa
set_option linter.unusedVariables false
section
variable {n : Nat} {st tl wt L : List Int}
/-- The entries of the edges of D. -/
def EN (n : Nat) (st tl L : List Int) (D : Nat → Prop) (fr pl : Nat → Int) : Prop :=
  ∀ v, v < n → (pl v = -1 ∧ fr v = -1 ∧ ∀ e, e < tl.length → D e → ¬ (src st n e : Int) ∈ L → at_ tl e ≠ (v : Int)) ∨ ∃ e : Nat, e < tl.length ∧ pl v = (e : Int) ∧ fr v = (src st n e : Int) ∧ at_ tl e = (v : Int) ∧ ¬ (src st n e : Int) ∈ L
theorem EN.start : EN n st tl L (fun _ => False) (fun _ => -1) (fun _ => -1) := fun v _ => .inl ⟨rfl, rfl, fun e _ h => h.elim⟩
theorem EN.congr {D E : Nat → Prop} {fr pl : Nat → Int} (h : EN n st tl L D fr pl) (k : ∀ e, e < tl.length → ¬ (src st n e : Int) ∈ L → E e → D e) : EN n st tl L E fr pl := fun v hv => by
  rcases h v hv with ⟨h1, h2, h3⟩ | h1
  · exact .inl ⟨h1, h2, fun e he hE hl => h3 e he (k e he hl hE) hl⟩
  · exact .inr h1
theorem EN.put {D : Nat → Prop} {fr pl : Nat → Int} {p a : Nat} (h : EN n st tl L D fr pl) (hp : p < tl.length) (ha : at_ tl p = (a : Int)) (hl : ¬ (src st n p : Int) ∈ L) :
    EN n st tl L (fun e => D e ∨ e = p) (fun v => if v = a then (src st n p : Int) else fr v) (fun v => if v = a then (p : Int) else pl v) := fun v hv => by
  by_cases e : v = a
  · right
    refine ⟨p, hp, by simp [e], by simp [e], by rw [ha, e], hl⟩
  · rcases h v hv with ⟨h1, h2, h3⟩ | ⟨q, h1, h2, h3, h4, h5⟩
    · left
      refine ⟨by simp [e, h1], by simp [e, h2], fun x hx hD hl2 => ?_⟩
      rcases hD with hD | hD
      · exact h3 x hx hD hl2
      · subst hD; rw [ha]; intro hc; exact e (by omega)
    · exact .inr ⟨q, h1, by simp [e, h2], by simp [e, h3], h4, h5⟩
/-- All entries. -/
def EF (n : Nat) (st tl L : List Int) (fr pl : Nat → Int) : Prop := EN n st tl L (fun _ => True) fr pl
/-- One that has not come has an edge from such a one. -/
theorem entry_ex (hf : Fin n st tl L) {x : Nat} (hx : x < n) (hl : ¬ (x : Int) ∈ L) : ∃ e, e < tl.length ∧ at_ tl e = (x : Int) ∧ ¬ (src st n e : Int) ∈ L := by
  have h1 : ¬ Rdy n tl (dn n st L) L (x : Int) := hf.2 _
  have h2 : cn tl (dn n st L) (x : Int) ≠ 0 := fun h => h1 ⟨⟨by omega, by omega⟩, hl, h⟩
  have h3 : 0 < cn tl (dn n st L) (x : Int) := Nat.pos_of_ne_zero h2
  unfold cn at h3
  rw [List.countP_pos_iff] at h3
  obtain ⟨e, he, hq⟩ := h3
  simp only [Bool.and_eq_true, decide_eq_true_eq, Bool.not_eq_true', dn, decide_eq_false_iff_not] at hq
  exact ⟨e, List.mem_range.1 he, hq.1, hq.2⟩
/-- What one that has not come goes to has not come either. -/
theorem entry_not (hf : Fin n st tl L) {e : Nat} (he : e < tl.length) (hl : ¬ (src st n e : Int) ∈ L) : ¬ at_ tl e ∈ L := fun hm => by
  have h1 := Sq.zero n st tl hf.1 _ hm
  unfold cn at h1
  rw [List.countP_eq_zero] at h1
  have := h1 e (List.mem_range.2 he)
  simp [dn, hl] at this
/-- v's edge, and whence it comes. -/
structure At (n : Nat) (st tl L : List Int) (v e u : Nat) : Prop where
  e_lt : e < tl.length
  u_lt : u < n
  v_lt : v < n
  tlv : at_ tl e = (v : Int)
  srv : src st n e = u
  vL : ¬ (v : Int) ∈ L
  uL : ¬ (u : Int) ∈ L
theorem EF.at (hg : Good n st tl wt) (hf : Fin n st tl L) {fr pl : Nat → Int} (h : EF n st tl L fr pl) {v : Nat} (hv : v < n) (hl : ¬ (v : Int) ∈ L) : ∃ e u : Nat, pl v = (e : Int) ∧ fr v = (u : Int) ∧ At n st tl L v e u := by
  rcases h v hv with ⟨h1, h2, h3⟩ | ⟨e, h1, h2, h3, h4, h5⟩
  · obtain ⟨e, he, ht, hs⟩ := entry_ex hf hv hl
    exact absurd ht (h3 e he trivial hs)
  · exact ⟨e, src st n e, h2, h3, h1, src_lt hg h1, hv, h4, rfl, hl, h5⟩
theorem EF.some (hf : Fin n st tl L) {fr pl : Nat → Int} (h : EF n st tl L fr pl) {v : Nat} (hv : v < n) (hp : pl v ≠ -1) : ¬ (v : Int) ∈ L := by
  rcases h v hv with ⟨h1, _, _⟩ | ⟨e, h1, h2, h3, h4, h5⟩
  · exact absurd h1 hp
  · rw [← h4]; exact entry_not hf h1 h5
theorem left_ex (hl : L.length < n) : ∃ x : Nat, x < n ∧ ¬ (x : Int) ∈ L := by
  apply Classical.byContradiction
  intro hc
  have h1 : ∀ x : Nat, x < n → (x : Int) ∈ L := fun x hx => Classical.byContradiction fun h => hc ⟨x, hx, h⟩
  have h2 : ((List.range n).map (fun (i : Nat) => (i : Int))).Nodup := by
    rw [List.nodup_iff_pairwise_ne, List.pairwise_map]
    refine List.Pairwise.imp ?_ (List.nodup_iff_pairwise_ne.1 (List.nodup_range (n := n)))
    intro a b hab he
    exact hab (by omega)
  have h3 := h2.length_le_of_subset (l₂ := L) (fun x hx => by obtain ⟨i, hi, rfl⟩ := List.mem_map.1 hx; exact h1 i (List.mem_range.1 hi))
  simp at h3
  omega
/-- Again and again. -/
def itr (f : Nat → Nat) (v : Nat) : Nat → Nat
  | 0 => v
  | k + 1 => f (itr f v k)
theorem itr_add (f : Nat → Nat) (v a b : Nat) : itr f (itr f v a) b = itr f v (a + b) := by
  induction b with
  | zero => rfl
  | succ b ih => show f (itr f (itr f v a) b) = f (itr f v (a + b)); rw [ih]
/-- Edges round: x goes back by f, each by its own edge g. -/
structure Rd (n : Nat) (st tl L : List Int) (f g : Nat → Nat) : Prop where
  at_ : ∀ v, v < n → ¬ (v : Int) ∈ L → At n st tl L v (g v) (f v)
theorem Rd.itr {f g : Nat → Nat} (h : Rd n st tl L f g) {v : Nat} (hv : v < n) (hl : ¬ (v : Int) ∈ L) : ∀ k, itr f v k < n ∧ ¬ (itr f v k : Int) ∈ L
  | 0 => ⟨hv, hl⟩
  | k + 1 => by
    obtain ⟨h1, h2⟩ := h.itr hv hl k
    have := h.at_ _ h1 h2
    exact ⟨this.u_lt, this.uL⟩
theorem round_back {f : Nat → Nat} {v j k : Nat} (hjk : j < k) (h : itr f v j = itr f v k) : ∃ d, 1 ≤ d ∧ itr f (itr f v k) d = itr f v k := ⟨k - j, by omega, by
  rw [← h, itr_add, show j + (k - j) = k by omega, h]⟩
/-- A circle, as the document asks for it. -/
structure Ci (n : Nat) (st tl c : List Int) : Prop where
  pos : 0 < c.length
  few : c.length ≤ n
  edge : ∀ a, a < c.length → ∃ e : Nat, Go.Proofs.Ytiohimbifjlfdaa.at_ c a = (e : Int) ∧ e < tl.length
  apart : ∀ a b, a < c.length → b < c.length → src st n (Go.Proofs.Ytiohimbifjlfdaa.at_ c a).toNat = src st n (Go.Proofs.Ytiohimbifjlfdaa.at_ c b).toNat → a = b
  next : ∀ a, a < c.length → Go.Proofs.Ytiohimbifjlfdaa.at_ tl (Go.Proofs.Ytiohimbifjlfdaa.at_ c a).toNat = (src st n (Go.Proofs.Ytiohimbifjlfdaa.at_ c ((a + 1) % c.length)).toNat : Int)
theorem at_reverse (l : List Int) (a : Nat) (h : a < l.length) : at_ l.reverse a = at_ l (l.length - 1 - a) := by
  unfold at_
  rw [List.getElem?_reverse h]
/-- The edges of a round, turned. -/
theorem ci_made (hg : Good n st tl wt) {f g : Nat → Nat} (h : Rd n st tl L f g) {v t : Nat} (hv : v < n) (hl : ¬ (v : Int) ∈ L) (ht : 1 ≤ t) (hr : itr f v t = v) (hm : ∀ x, 1 ≤ x → x < t → itr f v x ≠ v) :
    Ci n st tl (tab t (fun a => (g (itr f v a) : Int))).reverse := by
  have hlen : (tab t (fun a => (g (itr f v a) : Int))).reverse.length = t := by rw [List.length_reverse, tab_length]
  have hA : ∀ b, b < t → at_ (tab t (fun a => (g (itr f v a) : Int))).reverse b = (g (itr f v (t - 1 - b)) : Int) := fun b hb => by
    rw [at_reverse _ _ (by rw [tab_length]; exact hb), tab_length, tab_at _ _ _ (by omega)]
  have hS : ∀ b, b < t → src st n (at_ (tab t (fun a => (g (itr f v a) : Int))).reverse b).toNat = itr f v (t - b) := fun b hb => by
    rw [hA b hb, Int.toNat_natCast]
    obtain ⟨h1, h2⟩ := h.itr hv hl (t - 1 - b)
    rw [(h.at_ _ h1 h2).srv]
    show itr f v (t - 1 - b + 1) = _
    congr 1; omega
  have hD : ∀ a b, 1 ≤ a → a < b → b ≤ t → itr f v a ≠ itr f v b := fun a b h1 h2 h3 he => by
    have h4 : itr f (itr f v a) (t - b) = itr f (itr f v b) (t - b) := by rw [he]
    rw [itr_add, itr_add, show b + (t - b) = t by omega, hr] at h4
    exact hm (a + (t - b)) (by omega) (by omega) h4
  have hap : ∀ a b, a < t → b < t → itr f v (t - a) = itr f v (t - b) → a = b := fun a b ha hb he => by
    rcases Nat.lt_trichotomy a b with h1 | h1 | h1
    · exact absurd he.symm (hD (t - b) (t - a) (by omega) (by omega) (by omega))
    · exact h1
    · exact absurd he (hD (t - a) (t - b) (by omega) (by omega) (by omega))
  refine ⟨by rw [hlen]; omega, ?_, ?_, ?_, ?_⟩
  · rw [hlen]
    have h5 : ((List.range t).map (fun a => (itr f v (t - a) : Int))).Nodup := by
      rw [List.nodup_iff_pairwise_ne, List.pairwise_map]
      refine List.Pairwise.imp_of_mem ?_ (List.nodup_iff_pairwise_ne.1 (List.nodup_range (n := t)))
      intro a b ha hb hab he
      exact hab (hap a b (List.mem_range.1 ha) (List.mem_range.1 hb) (by omega))
    have h6 := few n (fun x hx => by
      obtain ⟨a, ha, rfl⟩ := List.mem_map.1 hx
      have := (h.itr hv hl (t - a)).1
      omega) h5
    simpa using h6
  · intro a ha
    rw [hlen] at ha
    obtain ⟨h1, h2⟩ := h.itr hv hl (t - 1 - a)
    exact ⟨_, hA a ha, (h.at_ _ h1 h2).e_lt⟩
  · intro a b ha hb he
    rw [hlen] at ha hb
    rw [hS a ha, hS b hb] at he
    exact hap a b ha hb he
  · intro a ha
    rw [hlen] at ha ⊢
    rw [hS _ (Nat.mod_lt _ (by omega)), hA a ha, Int.toNat_natCast]
    obtain ⟨h1, h2⟩ := h.itr hv hl (t - 1 - a)
    rw [(h.at_ _ h1 h2).tlv]
    by_cases e : a + 1 < t
    · rw [Nat.mod_eq_of_lt e, show t - (a + 1) = t - 1 - a by omega]
    · have e2 : a + 1 = t := by omega
      rw [e2, Nat.mod_self, Nat.sub_zero, hr, show t - 1 - a = 0 by omega]
      rfl
end
end Go.Proofs.Ytiohimbifjlfdaa

/- slices.Reverse of a row at the head of a block. -/
namespace Go.Proofs.Ytiohimbifjlfdaa
open Go.RowKit Go.Lib
set_option linter.unusedVariables false
set_option linter.unusedSimpArgs false
/-- A row at the head of a block, of numbers that may be written over. -/
def RowW (w : World) (g : Nat) (l : List Int) : Prop := ∃ cs, w.heap[g]? = some (.cells cs 3 (0, 0)) ∧ l.length ≤ cs.size ∧ ∀ k, k < l.length → cs[k]? = some (.int .i64 (at_ l k))
theorem RowW.cell {w : World} {g : Nat} {l : List Int} (h : RowW w g l) (k : Nat) (hk : k < l.length) : w.cell? ⟨g, k, none⟩ = some (.int .i64 (at_ l k)) := by
  obtain ⟨cs, h1, h2, h3⟩ := h
  exact cell_of h1 (h3 k hk)
theorem RowW.free {w : World} {g : Nat} {l : List Int} (h : RowW w g l) (k : Nat) : w.frozen? ⟨g, k, none⟩ = false := by
  obtain ⟨cs, h1, h2, h3⟩ := h
  exact free_of h1 k
theorem RowW.put {w : World} {g : Nat} {l : List Int} (h : RowW w g l) (k : Nat) (hk : k < l.length) (x : Int) : RowW (w.setCell ⟨g, k, none⟩ (.int .i64 x)) g (l.set k x) := by
  obtain ⟨cs, h1, h2, h3⟩ := h
  refine ⟨_, heap_set h1 _, by simpa using h2, fun i hi => ?_⟩
  rw [List.length_set] at hi
  by_cases e : i = k
  · subst e
    rw [Array.getElem?_setIfInBounds_self_of_lt (by omega)]
    simp [at_, hk]
  · rw [Array.getElem?_setIfInBounds_ne (fun h => e h.symm), h3 i hi]
    simp only [at_]
    rw [List.getElem?_set_ne (fun h => e h.symm)]
theorem RowW.row {w : World} {g c : Nat} {l : List Int} (h : RowW w g l) (hc : l.length ≤ c) (hc2 : c ≤ 9223372036854775807) : RowAt .i64 w (.slice (some ⟨g, 0, none⟩) l.length c) l := by
  refine ⟨_, c, rfl, hc, hc2, (fun e => by cases e), fun a ha i hi => ?_⟩
  cases ha
  rw [Addr.add_lit, Nat.zero_add, h.cell i hi]
  rfl
theorem RowW.of_owns {w : World} {base g n c : Nat} {l : List Int} (h : w.ownsRow base 3 1 (.slice (some ⟨g, 0, none⟩) n c) l.length (l.map (Value.int .i64))) : RowW w g l ∧ l.length ≤ c ∧ c ≤ 9223372036854775807 ∧ base ≤ g ∧ n = l.length := by
  have hr := RowAt.of_owns h
  obtain ⟨h1, ⟨he, _⟩ | ⟨g', cap, cur, he, hg, hh, hnc, hcm, hcur, htake⟩⟩ := h
  · simp at he
  · simp only [Value.slice.injEq, Option.some.injEq, Addr.mk.injEq, and_true] at he
    obtain ⟨rfl, rfl, rfl⟩ := he
    refine ⟨⟨cur, hh, by omega, fun k hk => ?_⟩, hnc, hcm, hg, rfl⟩
    have : (cur.toList.take (l.length * 1))[k]? = (l.map (Value.int .i64))[k]? := by rw [htake]
    rw [List.getElem?_take_of_lt (by omega)] at this
    have e : cur[k]? = cur.toList[k]? := by simp
    rw [e, this]
    simp [at_, hk]

/-- A list of which the i outermost on both sides have changed places. -/
def revUp (l : List Int) (i : Nat) : List Int := tab l.length (fun k => if k < i ∨ l.length - 1 - k < i then at_ l (l.length - 1 - k) else at_ l k)
theorem revUp_length (l : List Int) (i : Nat) : (revUp l i).length = l.length := tab_length _ _
theorem tab_self (l : List Int) : tab l.length (fun k => at_ l k) = l := by
  apply List.ext_getElem
  · simp [tab]
  · intro i h1 h2
    simp [tab, at_, h2]
theorem revUp_zero (l : List Int) : revUp l 0 = l := by
  unfold revUp
  rw [tab_congr (h := fun k => at_ l k) (fun k hk => by rw [if_neg (by omega)]), tab_self]
theorem revUp_next (l : List Int) (i : Nat) (h : 2 * i + 1 < l.length) :
    ((revUp l i).set i (at_ (revUp l i) (l.length - 1 - i))).set (l.length - 1 - i) (at_ (revUp l i) i) = revUp l (i + 1) := by
  unfold revUp
  rw [tab_at _ _ _ (by omega), tab_at _ _ _ (by omega), tab_set, tab_set]
  apply tab_congr
  intro k hk
  by_cases e1 : k = l.length - 1 - i
  · subst e1
    rw [if_pos rfl, if_neg (by omega), if_pos (by omega), show l.length - 1 - (l.length - 1 - i) = i by omega]
  · rw [if_neg e1]
    by_cases e2 : k = i
    · subst e2
      rw [if_pos rfl, if_neg (by omega), if_pos (by omega)]
    · rw [if_neg e2]
      by_cases e3 : k < i ∨ l.length - 1 - k < i
      · rw [if_pos e3, if_pos (by omega)]
      · rw [if_neg e3, if_neg (by omega)]
theorem revUp_end (l : List Int) (i : Nat) (h : l.length ≤ 2 * i + 1) : revUp l i = l.reverse := by
  unfold revUp
  apply List.ext_getElem
  · simp [tab]
  · intro k h1 h2
    have hk : k < l.length := by simpa [tab] using h1
    simp only [tab, List.getElem_map, List.getElem_range, List.getElem_reverse]
    by_cases e : k < i ∨ l.length - 1 - k < i
    · rw [if_pos e]; simp [at_, show l.length - 1 - k < l.length by omega]
    · rw [if_neg e]
      have : l.length - 1 - k = k := by omega
      simp [at_, hk, this]
theorem RowW.drew {w : World} {g : Nat} {l : List Int} (h : RowW w g l) : RowW w.drew g l := h

set_option maxRecDepth 100000 in
set_option maxHeartbeats 4000000 in
theorem reverse_any (g c : Nat) (l : List Int) (w : World) (B : Nat) (hB : B ≤ g) (h : RowW w g l) (hl : l.length ≤ 1048576) (hc : l.length ≤ c) (hc2 : c ≤ 9223372036854775807) :
    Calls Try.prog 51 #[.slice (some ⟨g, 0, none⟩) l.length c] w fun e w' => e = .returned (.tuple #[]) ∧ RowW w' g l.reverse ∧ Below B w w' := by
  have HN := hide (fun i h => revUp_next l i h)
  have HE := hide (fun i h => revUp_end l i h)
  have HLN := hide (fun i => revUp_length l i)
  have HZ := hide (show RowW w g (revUp l 0) by rw [revUp_zero]; exact h)
  obtain ⟨n, hn⟩ : ∃ n, n = l.length := ⟨_, rfl⟩
  rw [← hn] at HN HE HLN hl hc ⊢
  clear h hn
  go_enter Try.func51, Try.ntmps51
  go_wp2
  go_loopw [2, 3] (fun t u wr => ∃ i : Nat, 2 * i ≤ n + 1 ∧ t = .int .i64 i ∧ u = .int .i64 ((n : Int) - 1 - (i : Int)) ∧ RowW wr g (revUp l i) ∧ Below B w wr) (fun t _ _ => n - (RowKit.intOf t).toNat)
  case atStart => exact ⟨0, by omega, rfl, by simp, HZ.out, Below.refl _ _⟩
  case round =>
    obtain ⟨i, hi, rfl, rfl, hR, hL⟩ := hrel
    by_cases hlt : 2 * i + 1 < n
    · have hln := HLN.out i
      have f0 := hR.free i
      have f1 := hR.free (n - 1 - i)
      have x0 := hR.cell i (by omega)
      have x1 := hR.cell (n - 1 - i) (by omega)
      have hR2 := (hR.put i (by omega) (at_ (revUp l i) (n - 1 - i))).put (n - 1 - i) (by rw [List.length_set]; omega) (at_ (revUp l i) i)
      rw [HN.out i hlt] at hR2
      have HR := hide hR2; have HL := hide hL
      obtain ⟨a, ha⟩ : ∃ a, a = at_ (revUp l i) i := ⟨_, rfl⟩
      obtain ⟨b, hb⟩ : ∃ b, b = at_ (revUp l i) (n - 1 - i) := ⟨_, rfl⟩
      rw [← ha] at x0 HR
      rw [← hb] at x1 HR
      obtain ⟨j, hj⟩ : ∃ j, j = n - 1 - i := ⟨_, rfl⟩
      rw [← hj] at x1 f1 HR
      have hji : (n : Int) - 1 - (i : Int) = (j : Int) := by omega
      have hij : i < j := by omega
      have hjn : j < n := by omega
      have hne : ¬ i = j := by omega
      have HJ := hide hj
      rw [hji]
      clear hR hR2 hL ha hb hln hj hji
      go_wp2
      go_region
      all_goals
        go_wp2
        refine ⟨⟨i + 1, by have := HJ.out; omega, by simp, by congr 1; have := HJ.out; simp; omega, HR.out.drew, ?_⟩, by simp [RowKit.intOf]; omega⟩
        exact ((HL.out.setCell (p := ⟨g, i, none⟩) hB _).setCell (p := ⟨g, j, none⟩) hB _).drew
    · have HR := hide hR; have HL := hide hL
      rw [HE.out i (by omega)] at HR
      clear hR hL
      go_wp2
      first | go_end0 | refine bodyPost_ret (results_none rfl _ _ _) rfl ?_
      exact ⟨rfl, HR.out, HL.out⟩
end Go.Proofs.Ytiohimbifjlfdaa

/- entries. -/
namespace Go.Proofs.Ytiohimbifjlfdaa
open Go.RowKit Go.Lib
set_option linter.unusedVariables false
set_option linter.unusedSimpArgs false
def ent (n : Nat) (fr pl : Nat → Int) : List Int := tab (n * 2) (fun k => if k % 2 = 0 then fr (k / 2) else pl (k / 2))
theorem ent_len (n : Nat) (fr pl : Nat → Int) : (ent n fr pl).length = n * 2 := tab_length _ _
theorem ent_fr {n v : Nat} (fr pl : Nat → Int) (hv : v < n) : at_ (ent n fr pl) (v * 2) = fr v := by
  unfold ent; rw [tab_at _ _ _ (by omega), if_pos (by omega), show v * 2 / 2 = v by omega]
theorem ent_pl {n v : Nat} (fr pl : Nat → Int) (hv : v < n) : at_ (ent n fr pl) (v * 2 + 1) = pl v := by
  unfold ent; rw [tab_at _ _ _ (by omega), if_neg (by omega), show (v * 2 + 1) / 2 = v by omega]
theorem ent_put (n a : Nat) (fr pl : Nat → Int) (x y : Int) : ((ent n fr pl).set (a * 2) x).set (a * 2 + 1) y = ent n (fun v => if v = a then x else fr v) (fun v => if v = a then y else pl v) := by
  unfold ent
  rw [tab_set, tab_set]
  refine tab_congr fun k hk => ?_
  by_cases h1 : k = a * 2 + 1
  · rw [if_pos h1, if_neg (by omega)]; exact (if_pos (by omega)).symm
  · rw [if_neg h1]
    by_cases h2 : k = a * 2
    · rw [if_pos h2, if_pos (by omega)]; exact (if_pos (by omega)).symm
    · rw [if_neg h2]
      by_cases h3 : k % 2 = 0
      · rw [if_pos h3, if_pos h3]; exact (if_neg (by omega)).symm
      · rw [if_neg h3, if_neg h3]; exact (if_neg (by omega)).symm
theorem ent_start (n : Nat) : tab (n * 2) (fun _ => (-1 : Int)) = ent n (fun _ => -1) (fun _ => -1) := by
  unfold ent
  exact tab_congr fun k _ => by split <;> rfl
structure XM (w wr : World) (gb : Array Value) (C E n : Nat) (K : Nat → Bool) (fr pl : Nat → Int) : Prop where
  bel : Below w.heap.size w wr
  box : wr.heap[w.heap.size]? = some (.cells gb 28 (0, 0))
  car : BArr wr C (btab n K)
  ent : E2 wr E (ent n fr pl)
  wC : w.heap.size < C
  CE : C < E
theorem XM.put {w wr : World} {gb : Array Value} {C E n : Nat} {K : Nat → Bool} {fr pl : Nat → Int} (h : XM w wr gb C E n K fr pl) (a : Nat) (x y : Int) : XM w ((wr.setCell ⟨E, a * 2, none⟩ (.int .i64 x)).setCell ⟨E, a * 2 + 1, none⟩ (.int .i64 y)) gb C E n K (fun v => if v = a then x else fr v) (fun v => if v = a then y else pl v) := by
  have h1 := h.wC; have h2 := h.CE
  have hc : Chg (fun k => k = E) wr ((wr.setCell ⟨E, a * 2, none⟩ (.int .i64 x)).setCell ⟨E, a * 2 + 1, none⟩ (.int .i64 y)) := ((Chg.refl (fun k => k = E) wr).setCell (p := ⟨E, a * 2, none⟩) rfl _).setCell (p := ⟨E, a * 2 + 1, none⟩) rfl _
  have he := (h.ent.put (a * 2) x).put (a * 2 + 1) y
  rw [ent_put] at he
  exact ⟨Chg.below h.bel hc (fun k hk => by omega) h.bel.size, hc.heap h.box (by omega), hc.heap h.car (by omega), he, h1, h2⟩
set_option maxRecDepth 100000 in
set_option maxHeartbeats 8000000 in
theorem entries_any (n : Nat) (va vb vc cv : Value) (st tl wt L : List Int) (w : World) (hgi : GIs w n va vb vc st tl wt) (hg : Good n st tl wt) (hcv : RowAt .i64 w cv L) (hL : ∀ v, v ∈ L → 0 ≤ v ∧ v < (n : Int)) (hn0 : 0 < n) (hLn : L.length ≤ n) :
    Calls Try.prog 48 #[gAgg n va vb vc, cv] w fun e w' => ∃ E fr pl, e = .returned (.slice (some ⟨E, 0, none⟩) n n) ∧ E2 w' E (ent n fr pl) ∧ EF n st tl L fr pl ∧ w.heap.size ≤ E ∧ Below w.heap.size w w' := by
  obtain ⟨i4, hi4, hz4, hs4, hy4⟩ := info_parts Try.info4
  have hnl := hg.n_le
  have hml := hg.m_le
  obtain ⟨ga, oa, ca, rfl, hca, _⟩ := hgi.s.cellAt 0 (by rw [hg.s_len]; omega)
  obtain ⟨bo, cb_, rfl⟩ := hgi.t.shape
  obtain ⟨lo, lc, rfl⟩ := hcv.shape
  have HG := hide hg; have HS := hide hgi.s; have HT := hide hgi.t; have HV := hide hcv; have HLR := hide hL
  obtain ⟨m, hm⟩ : ∃ m, m = tl.length := ⟨_, rfl⟩
  obtain ⟨kl, hkl⟩ : ∃ k, k = L.length := ⟨_, rfl⟩
  have HM := hide hm; have HKL := hide hkl
  have hsl := hg.s_len
  have hcb : m ≤ cb_ := by
    obtain ⟨_, _, he, h1, _⟩ := hgi.t
    simp only [Value.slice.injEq] at he
    obtain ⟨_, _, rfl⟩ := he
    omega
  have hlc : kl ≤ lc := by
    obtain ⟨_, _, he, h1, _⟩ := hcv
    simp only [Value.slice.injEq] at he
    obtain ⟨_, _, rfl⟩ := he
    omega
  rw [hsl] at hca HS ⊢
  rw [← hm] at hml HT ⊢
  rw [← hkl] at HV hLn ⊢
  have HCB := hide hcb; have HCA := hide hca; have HNL := hide hnl; have HML := hide hml; have HLC := hide hlc; have HLN := hide hLn
  clear hgi hg hm hsl hcv hL hkl hcb hca hlc
  unfold gAgg
  have hbox := heap_new w (.cells #[.int .i64 n, .slice (some ⟨ga, oa, none⟩) (n + 1) ca, .slice bo m cb_, vc] 28)
  have c0 := cell_of hbox (i := 0) rfl
  have HB0 : Hid (Below w.heap.size w (w.alloc (.cells #[.int .i64 n, .slice (some ⟨ga, oa, none⟩) (n + 1) ca, .slice bo m cb_, vc] 28))) := below_alloc (Below.refl _ _) _
  have HBX := hide hbox
  clear hbox
  go_enter Try.func48, Try.ntmps48
  go_upto_region 1 with fail
  have HW1 : Hid (w.heap.size < (w.alloc (.cells #[.int .i64 n, .slice (some ⟨ga, oa, none⟩) (n + 1) ca, .slice bo m cb_, vc] 28)).heap.size) := by simp [hide]
  generalize (w.alloc (.cells #[.int .i64 n, .slice (some ⟨ga, oa, none⟩) (n + 1) ca, .slice bo m cb_, vc] 28)) = w1 at c0 HB0 HBX HW1 ⊢
  go_upto_region 2 with (first
    | (at_make; refine wpList_make_full _ rfl _ _ 42 rfl w1.heap.size 4 i4 (.bool false) 1 Try.underlying42 hi4 hz4 hs4 _ _ _ _ n rfl rfl rfl rfl (by rw [hy4]; omega) (by unfold maxLen; omega) (Nat.le_refl _) ?_; intro w2 hown hgrow)
    | fail)
  have hb2 : Below w1.heap.size w1 w2 := (Below.refl _ _).grown hgrow (Nat.le_refl _) (by intro j hj; cases hj)
  have HX : Hid (X0 w w2 #[.int .i64 n, .slice (some ⟨ga, oa, none⟩) (n + 1) ca, .slice bo m cb_, vc] w1.heap.size n (fun _ => false)) := ⟨below_on HB0.out hb2, (hb2.block _ HW1.out).trans HBX.out, barr_made hown, HW1.out⟩
  generalize w1.heap.size = C at HX ⊢
  clear hown hgrow hb2 HB0 HBX HW1 c0
  go_wp2_with fail
  go_loopw [16] (fun t wr => ∃ k : Nat, k ≤ kl ∧ t = .int .i64 k ∧ X0 w wr #[.int .i64 n, .slice (some ⟨ga, oa, none⟩) (n + 1) ca, .slice bo m cb_, vc] C n (fun v => decide ((v : Int) ∈ L.take k))) (fun t _ => kl - (RowKit.intOf t).toNat)
  case atStart => exact ⟨0, Nat.zero_le _, rfl, by
    have := HX.out
    rw [show (fun _ : Nat => false) = (fun v : Nat => decide ((v : Int) ∈ L.take 0)) from funext fun v => by simp] at this
    exact this⟩
  case round =>
    obtain ⟨k, hk, rfl, hx⟩ := hrel
    have HXR := hide hx
    clear hx HX
    by_cases hlt : k < kl
    · obtain ⟨gl, ol, cc, he, hcc, hx⟩ := (HV.out.below HXR.out.bel).cellAt k (by have := HKL.out; omega)
      simp only [Value.slice.injEq] at he
      obtain ⟨rfl, hlen, hcc2⟩ := he
      subst hcc2
      have hkL : k < L.length := by have := HKL.out; omega
      have hmem := HLR.out (at_ L k) (at_mem hkL)
      obtain ⟨a, ha⟩ : ∃ a : Nat, at_ L k = (a : Int) := ⟨(at_ L k).toNat, by omega⟩
      have han : a < n := by omega
      rw [ha] at hx
      have y0 := HXR.out.car.cell a han
      have yf := HXR.out.car.free a
      have HX2 : Hid (X0 w (wr.setCell ⟨C, a, none⟩ (.bool true)) #[.int .i64 n, .slice (some ⟨ga, oa, none⟩) (n + 1) ca, .slice bo m cb_, vc] C n (fun v => decide ((v : Int) ∈ L.take (k + 1)))) := by
        have := HXR.out.put a true
        rw [show (fun v : Nat => if v = a then true else decide ((v : Int) ∈ L.take k)) = (fun v : Nat => decide ((v : Int) ∈ L.take (k + 1))) from funext fun v => by
          have e1 : L[k] = (a : Int) := by rw [← ha]; simp [at_, hkL]
          rw [List.take_succ_eq_append_getElem hkL, e1]
          by_cases e : v = a
          · subst e; simp
          · have : ¬ (v : Int) = (a : Int) := by omega
            simp [e, this]] at this
        exact this
      have hkm : (k : Int) + 1 ≤ 9223372036854775807 := by have := HLN.out; omega
      have hkc : (k : Int) < lc := by have := HLC.out; omega
      clear hlen hcc ha hmem hkL
      go_wp2_with fail
      go_roundw
      case rel => exact ⟨k + 1, Nat.succ_le_of_lt hlt, by go_num, HX2.out⟩
      case measure => exact mdec hlt
    · have hkk : kl = k := by omega
      subst hkk
      have HX1 : Hid (X0 w wr #[.int .i64 n, .slice (some ⟨ga, oa, none⟩) (n + 1) ca, .slice bo m cb_, vc] C n (fun v => decide ((v : Int) ∈ L))) := by
        have := HXR.out
        rw [show L.take kl = L from List.take_of_length_le (by have := HKL.out; omega)] at this
        exact this
      clear HXR hlt hk
      have c0 := cell_of HX1.out.box (i := 0) rfl
      have hbox0 := block_of_cell c0
      have c0' : (wr.alloc (.cells #[.int .i64 (-1), .int .i64 (-1)] 95)).cell? ⟨w.heap.size, 0, none⟩ = some (.int .i64 (n : Int)) := Lib.cell?_alloc_some _ c0
      have HRp := hide (repeat_any n wr.heap.size hn0 HNL.out (wr.alloc (.cells #[.int .i64 (-1), .int .i64 (-1)] 95)) (cell_of (heap_new _ _) rfl) (cell_of (heap_new _ _) rfl))
      have hsz : (wr.alloc (.cells #[.int .i64 (-1), .int .i64 (-1)] 95)).heap.size = wr.heap.size + 1 := by simp
      rw [hsz] at HRp
      go_wp2_with fail
      refine HRp.out.mono ?_
      rintro e w4 ⟨rfl, he2, hb4⟩
      have HX3 : Hid (XM w w4 #[.int .i64 n, .slice (some ⟨ga, oa, none⟩) (n + 1) ca, .slice bo m cb_, vc] C (wr.heap.size + 1) n (fun v => decide ((v : Int) ∈ L)) (fun _ => -1) (fun _ => -1)) := by
        rw [ent_start] at he2
        have hb5 : Below wr.heap.size wr w4 := (below_alloc (Below.refl _ _) _ : Below wr.heap.size wr (wr.alloc (.cells #[.int .i64 (-1), .int .i64 (-1)] 95))).trans (hb4.mono (by omega))
        have h6 := HX1.out
        exact ⟨below_on h6.bel hb5, (hb5.block _ (lt_of_heap h6.box)).trans h6.box, (hb5.block _ (lt_of_heap h6.car)).trans h6.car, he2, h6.wC, by have := lt_of_heap h6.car; omega⟩
      have HwE : Hid (w.heap.size ≤ wr.heap.size + 1) := by have := HX1.out.bel.size; show _ ≤ _; omega
      clear he2 hb4 c0 c0' hbox0 HX1 HRp
      generalize wr.heap.size + 1 = E at HX3 HwE ⊢
      have b0 := cell_of HX3.out.box (i := 0) rfl
      go_wp2_with fail
      clear b0
      go_loopw [31] (fun t wr => ∃ u : Nat, u ≤ n ∧ t = .int .i64 u ∧ ∃ fr pl, XM w wr #[.int .i64 n, .slice (some ⟨ga, oa, none⟩) (n + 1) ca, .slice bo m cb_, vc] C E n (fun v => decide ((v : Int) ∈ L)) fr pl ∧ EN n st tl L (fun e => src st n e < u) fr pl) (fun t _ => n - (RowKit.intOf t).toNat)
      case atStart => exact ⟨0, Nat.zero_le _, rfl, _, _, HX3.out, EN.start.congr fun e _ _ h => by omega⟩
      case round =>
        obtain ⟨u, hu, rfl, fr, pl, hx, hen⟩ := hrel
        have HXR := hide hx; have HEN := hide hen
        clear hx hen HX3
        by_cases hlt : u < n
        · obtain ⟨p, hp⟩ : ∃ p : Nat, at_ st u = (p : Int) := ⟨(at_ st u).toNat, by have := HG.out.range u (by omega); omega⟩
          obtain ⟨r, hr⟩ : ∃ r : Nat, at_ st (u + 1) = ((p + r : Nat) : Int) := ⟨(at_ st (u + 1)).toNat - p, by have := HG.out.step u hlt; have := HG.out.range (u + 1) (by omega); omega⟩
          have hpr : p + r ≤ m := by have := HG.out.range (u + 1) (by omega); have := HM.out; omega
          have HSRC : Hid (∀ j, j < r → src st n (p + j) = u) := fun j hj => src_eq HG.out hlt (by rw [hp]; omega) (by rw [hr]; omega)
          have HP_ := hide hp; have HR_ := hide hr
          obtain ⟨ga2, oa2, ca2, he1, hca1, hx1⟩ := HS.out.cellAt u (by rw [HG.out.s_len]; omega)
          obtain ⟨ga3, oa3, ca3, he2, _, hx2⟩ := HS.out.cellAt (u + 1) (by rw [HG.out.s_len]; omega)
          simp only [Value.slice.injEq, Option.some.injEq, Addr.mk.injEq, and_true] at he1 he2
          obtain ⟨⟨rfl, rfl⟩, hq7, rfl⟩ := he1
          obtain ⟨⟨rfl, rfl⟩, hq8, rfl⟩ := he2
          rw [hp] at hx1
          rw [hr] at hx2
          have HX2 := hide hx2
          have s1 : wr.cell? ⟨ga, oa + u, none⟩ = some (.int .i64 (p : Int)) := (below_cell HXR.out.bel (block_of_cell hx1)).trans hx1
          have b1 := cell_of HXR.out.box (i := 1) rfl
          have hua : (u : Int) < ca := by have := HCA.out; omega
          have hua1 : (u : Int) + 1 < ca := by have := HCA.out; omega
          have hu1 : (u : Int) + 1 ≤ 9223372036854775807 := by have := HNL.out; omega
          have HEN1 : Hid (EN n st tl L (fun e => src st n e < u ∨ (src st n e = u ∧ e < p + 0)) fr pl) := HEN.out.congr fun e he hl h => by
            rcases h with h | ⟨h, h2⟩
            · exact h
            · have := (src_spec HG.out he).1
              rw [h, HP_.out] at this
              omega
          clear hq7 hq8 hca1 hp hr hx1 hx2 HEN
          go_wp2_with fail
          clear s1 b1
          go_loopw [10] (fun t wr => ∃ j : Nat, j ≤ r ∧ t = .int .i64 ((p + j : Nat) : Int) ∧ ∃ fr pl, XM w wr #[.int .i64 n, .slice (some ⟨ga, oa, none⟩) (n + 1) ca, .slice bo m cb_, vc] C E n (fun v => decide ((v : Int) ∈ L)) fr pl ∧ EN n st tl L (fun e => src st n e < u ∨ (src st n e = u ∧ e < p + j)) fr pl) (fun t _ => p + r - (RowKit.intOf t).toNat)
          case atStart => exact ⟨0, Nat.zero_le _, rfl, _, _, HXR.out, HEN1.out⟩
          case round =>
            obtain ⟨j, hj, rfl, fr2, pl2, hx, hen⟩ := hrel
            have HXJ := hide hx; have HEJ := hide hen
            clear hx hen HXR HEN1
            have b1 := cell_of HXJ.out.box (i := 1) rfl
            have b2 := cell_of HXJ.out.box (i := 2) rfl
            have s2 : wr.cell? ⟨ga, oa + (u + 1), none⟩ = some (.int .i64 ((p + r : Nat) : Int)) := (below_cell HXJ.out.bel (block_of_cell HX2.out)).trans HX2.out
            have y1 := HXJ.out.car.cell u hlt
            obtain ⟨e0, he0⟩ : ∃ e0 : Nat, e0 = p + j := ⟨_, rfl⟩
            obtain ⟨pr, hpr2⟩ : ∃ pr : Nat, pr = p + r := ⟨_, rfl⟩
            rw [← hpr2] at s2
            rw [← he0]
            by_cases hju : j < r ∧ ¬ (u : Int) ∈ L
            · obtain ⟨hjr, huL⟩ := hju
              rw [decide_eq_false huL] at y1
              obtain ⟨gs, os_, cs, he, hcc, hx⟩ := (HT.out.below HXJ.out.bel).cellAt (p + j) (by have := HM.out; omega)
              simp only [Value.slice.injEq] at he
              obtain ⟨rfl, hlen9, hcc2⟩ := he
              subst hcc2
              have hpm : p + j < tl.length := by have := HM.out; omega
              obtain ⟨a, ha⟩ : ∃ a : Nat, at_ tl (p + j) = (a : Int) := ⟨(at_ tl (p + j)).toNat, by have := HG.out.vtx (p + j) hpm; omega⟩
              have han : a < n := by have := HG.out.vtx (p + j) hpm; omega
              rw [ha, ← he0] at hx
              have z0 := HXJ.out.ent.cell (a * 2) (by rw [ent_len]; omega)
              have z1 := HXJ.out.ent.cell (a * 2 + 1) (by rw [ent_len]; omega)
              have f0 := HXJ.out.ent.free (a * 2)
              have f1 := HXJ.out.ent.free (a * 2 + 1)
              have HPU := hide (HXJ.out.put a (u : Int) (e0 : Int))
              have HEP : Hid (EN n st tl L (fun e => src st n e < u ∨ (src st n e = u ∧ e < p + (j + 1))) (fun v => if v = a then (u : Int) else fr2 v) (fun v => if v = a then (e0 : Int) else pl2 v)) := by
                have h1 := HEJ.out.put hpm ha (by rw [HSRC.out j hjr]; exact huL)
                rw [HSRC.out j hjr, ← he0] at h1
                refine h1.congr fun e he hl h => ?_
                rcases h with h | ⟨h, h2⟩
                · exact .inl (.inl h)
                · by_cases e1 : e = e0
                  · exact .inr e1
                  · exact .inl (.inr ⟨h, by omega⟩)
              have hem : (e0 : Int) + 1 ≤ 9223372036854775807 := by have := HML.out; omega
              have hec : (e0 : Int) < cb_ := by have := HCB.out; omega
              have helt : (e0 : Int) < (pr : Int) := by omega
              have helt2 : e0 < pr := by omega
              have hem2 : e0 < m := by omega
              have HMS : Hid (p + r - (e0 + 1) < p + r - e0) := by show _ < _; omega
              have HE0 := hide he0
              clear hlen9 hcc ha hpm he0 hpr2 huL
              go_wp2_with fail
              go_roundw
              case rel => exact ⟨j + 1, Nat.succ_le_of_lt hjr, by have := HE0.out; go_num, _, _, HPU.out, HEP.out⟩
              case measure =>
                have := HMS.out
                simp [RowKit.intOf]
                omega
            · have HEU : Hid (EN n st tl L (fun e => src st n e < u + 1) fr2 pl2) := HEJ.out.congr fun e he hl h => by
                by_cases e1 : src st n e = u
                · right
                  refine ⟨e1, ?_⟩
                  have huL : ¬ (u : Int) ∈ L := by rw [← e1]; exact hl
                  have hjr : j = r := by
                    have : ¬ j < r := fun h => hju ⟨h, huL⟩
                    omega
                  have := (src_spec HG.out he).2
                  rw [e1, HR_.out] at this
                  omega
                · left; omega
              have hend : (e0 : Int) < (pr : Int) → (u : Int) ∈ L := fun h => Classical.byContradiction fun hc => hju ⟨by omega, hc⟩
              by_cases helt : (e0 : Int) < (pr : Int)
              · rw [decide_eq_true (hend helt)] at y1
                clear hju hend he0 hpr2
                go_wp2_with fail
                exact ⟨⟨u + 1, Nat.succ_le_of_lt hlt, by go_num, _, _, HXJ.out, HEU.out⟩, mdec hlt⟩
              · have hd : decide ((e0 : Int) < (pr : Int)) = false := decide_eq_false helt
                clear hju hend he0 hpr2
                go_wp2_with fail
                exact ⟨⟨u + 1, Nat.succ_le_of_lt hlt, by go_num, _, _, HXJ.out, HEU.out⟩, mdec hlt⟩
        · have HEFn : Hid (EF n st tl L fr pl) := HEN.out.congr fun e he hl _ => by have := src_lt HG.out he; omega
          go_wp2_with fail
          go_ret
          exact ⟨E, fr, pl, rfl, HXR.out.ent, HEFn.out, HwE.out, HXR.out.bel⟩
end Go.Proofs.Ytiohimbifjlfdaa

/- IndexFunc over the entries. -/
namespace Go.Proofs.Ytiohimbifjlfdaa
open Go.RowKit Go.Lib
set_option linter.unusedVariables false
set_option linter.unusedSimpArgs false
set_option maxRecDepth 100000 in
set_option maxHeartbeats 2000000 in
theorem has_any (x y : Int) (w : World) :
    Calls Try.prog 50 #[.agg #[.int .i64 x, .int .i64 y]] w fun e w' => e = .returned (.bool (!decide (y = -1))) ∧ Below w.heap.size w w' := by
  have hbox := heap_new w (.cells #[.int .i64 x, .int .i64 y] 95)
  have c1 := cell_of hbox (i := 1) rfl
  have HB : Hid (Below w.heap.size w (w.alloc (.cells #[.int .i64 x, .int .i64 y] 95))) := below_alloc (Below.refl _ _) _
  clear hbox
  go_enter Try.func50, Try.ntmps50
  go_wp2_with fail
  go_ret
  refine ⟨?_, HB.out⟩
  show Ending.returned (Value.bool (y != -1)) = _
  by_cases h : y = -1 <;> simp [h]
set_option maxRecDepth 100000 in
set_option maxHeartbeats 4000000 in
theorem index_any (n E : Nat) (fr pl : Nat → Int) (w : World) (hn : (n : Int) ≤ 1048576) (he : E2 w E (ent n fr pl)) (hx : ∃ v, v < n ∧ pl v ≠ -1) :
    Calls Try.prog 49 #[.slice (some ⟨E, 0, none⟩) n n, fnv 50] w fun e w' => ∃ v : Nat, e = .returned (.int .i64 v) ∧ v < n ∧ pl v ≠ -1 ∧ Below w.heap.size w w' := by
  have HE := hide he; have HX := hide hx; have HN := hide hn
  have HH := hide (fun a b v => has_any a b v)
  clear he hx
  unfold fnv
  go_enter Try.func49, Try.ntmps49
  go_wp2_with fail
  go_loopw [8] (fun t wr => ∃ k : Nat, k ≤ n ∧ t = .int .i64 k ∧ (∀ v, v < k → pl v = -1) ∧ Below w.heap.size w wr) (fun t _ => n - (RowKit.intOf t).toNat)
  case atStart => exact ⟨0, Nat.zero_le _, rfl, fun v hv => by omega, Below.refl _ _⟩
  case round =>
    obtain ⟨k, hk, rfl, hno, hb⟩ := hrel
    have HNO := hide hno; have HB := hide hb
    clear hno hb
    by_cases hlt : k < n
    · have he2 : E2 wr E (ent n fr pl) := (HB.out.block _ (lt_of_heap HE.out)).trans HE.out
      have y0 := he2.cell (k * 2) (by rw [ent_len]; omega)
      have y1 := he2.cell (k * 2 + 1) (by rw [ent_len]; omega)
      rw [ent_fr _ _ hlt] at y0
      rw [ent_pl _ _ hlt] at y1
      have HC := hide (HH.out (fr k) (pl k) wr)
      generalize fr k = x at y0 HC
      obtain ⟨y, hy⟩ : ∃ y, y = pl k := ⟨_, rfl⟩
      have HY := hide hy
      rw [← hy] at y1 HC
      clear he2 hy
      go_wp2_with fail
      refine HC.out.mono ?_
      rintro e w2 ⟨rfl, hb2⟩
      have HB2 := hide (below_on HB.out hb2)
      clear hb2
      by_cases hc : y = -1
      · have hcd : (!decide (y = -1)) = false := by simp [hc]
        rw [hcd]
        clear hcd
        go_wp2_with fail
        go_roundw
        case rel => exact ⟨k + 1, Nat.succ_le_of_lt hlt, by go_num, fun v hv => by
          by_cases e : v = k
          · subst e; have := HY.out; omega
          · exact HNO.out v (by omega), HB2.out⟩
        case measure => exact mdec hlt
      · have hcd : (!decide (y = -1)) = true := by simp [hc]
        rw [hcd]
        clear hcd
        go_wp2_with fail
        go_ret
        exact ⟨k, rfl, hlt, by have := HY.out; omega, HB2.out⟩
    · exfalso
      obtain ⟨v, h1, h2⟩ := HX.out
      exact h2 (HNO.out v (by omega))
end Go.Proofs.Ytiohimbifjlfdaa

/- circleBehind. -/
namespace Go.Proofs.Ytiohimbifjlfdaa
open Go.RowKit Go.Lib
set_option linter.unusedVariables false
set_option linter.unusedSimpArgs false
theorem least_round {f : Nat → Nat} {v : Nat} : ∀ d, 1 ≤ d → itr f v d = v → ∃ t, 1 ≤ t ∧ itr f v t = v ∧ ∀ x, 1 ≤ x → x < t → itr f v x ≠ v := by
  intro d
  induction d using Nat.strongRecOn with
  | _ d ih =>
    intro h1 h2
    by_cases h : ∃ x, 1 ≤ x ∧ x < d ∧ itr f v x = v
    · obtain ⟨x, h3, h4, h5⟩ := h
      exact ih x h4 h3 h5
    · exact ⟨d, h1, h2, fun x h3 h4 h5 => h ⟨x, h3, h4, h5⟩⟩
/-- Which have been met. -/
def met (f : Nat → Nat) (v k x : Nat) : Bool := (List.range k).any (fun i => decide (itr f v i = x))
theorem met_iff {f : Nat → Nat} {v k x : Nat} : met f v k x = true ↔ ∃ i, i < k ∧ itr f v i = x := by simp [met]
theorem met_zero (f : Nat → Nat) (v : Nat) : met f v 0 = fun _ => false := funext fun x => by simp [met]
theorem met_next {f : Nat → Nat} {v k a : Nat} (h : a = itr f v k) : (fun x => if x = a then true else met f v k x) = met f v (k + 1) := funext fun x => by
  simp only [met, List.range_succ, List.any_append, List.any_cons, List.any_nil, Bool.or_false]
  by_cases e : x = a
  · rw [if_pos e, ← h, e]; simp
  · rw [if_neg e, ← h, decide_eq_false (fun h => e h.symm)]; simp
structure CM (w wr : World) (E C n : Nat) (fr pl : Nat → Int) (K : Nat → Bool) : Prop where
  bel : Below w.heap.size w wr
  ent : E2 wr E (ent n fr pl)
  car : BArr wr C (btab n K)
  wE : w.heap.size ≤ E
  EC : E < C
theorem CM.put {w wr : World} {E C n : Nat} {fr pl : Nat → Int} {K : Nat → Bool} (h : CM w wr E C n fr pl K) (i : Nat) (b : Bool) : CM w (wr.setCell ⟨C, i, none⟩ (.bool b)) E C n fr pl (fun v => if v = i then b else K v) := by
  have h1 := h.wE; have h2 := h.EC
  have hc : Chg (fun k => k = C) wr (wr.setCell ⟨C, i, none⟩ (.bool b)) := (Chg.refl (fun k => k = C) wr).setCell (p := ⟨C, i, none⟩) rfl _
  exact ⟨Chg.below h.bel hc (fun k hk => by omega) h.bel.size, hc.heap h.ent (by omega), h.car.put i b, h1, h2⟩
structure CN (w wr : World) (E n : Nat) (fr pl : Nat → Int) (cv : Value) (l : List Int) : Prop where
  bel : Below w.heap.size w wr
  ent : E2 wr E (ent n fr pl)
  own : wr.ownsRow (E + 1) 3 1 cv l.length (ivs l)
  wE : w.heap.size ≤ E
section
variable {w wr : World} {E n : Nat} {fr pl : Nat → Int} {cv : Value} {l : List Int}
theorem CN.own_lt (h : CN w wr E n fr pl cv l) : ∀ k, cv.ownBlock = some k → E + 1 ≤ k ∧ k < wr.heap.size := fun k hk => World.ownsRow.lt h.own k hk
theorem CN.came (h : CN w wr E n fr pl cv l) {o : Obj} {x : Int} {g cap : Nat} {w2 : World} (hown : w2.ownsRow (E + 1) 3 1 (.slice (some ⟨g, 0, none⟩) (l.length + 1) cap) (l.length + 1) (ivs l ++ [.int .i64 x])) (hgrow : (wr.alloc o).grownBy w2 cv.ownBlock) :
    CN w w2 E n fr pl (.slice (some ⟨g, 0, none⟩) (l ++ [x]).length cap) (l ++ [x]) := by
  have hwE := h.wE
  have hc : Chg (fun k => cv.ownBlock = some k) wr w2 := ((Chg.refl _ wr).alloc o).grown hgrow (fun k hk => .inl hk)
  have hno : ∀ k, k ≤ E → ¬ cv.ownBlock = some k := fun k hk h3 => by have := h.own_lt k h3; omega
  refine ⟨Chg.below h.bel hc (fun k hk => by have := h.own_lt k hk; omega) h.bel.size, hc.heap h.ent (hno _ (Nat.le_refl _)), ?_, hwE⟩
  rw [List.length_append, List.length_singleton, show ivs (l ++ [x]) = ivs l ++ [.int .i64 x] by simp [ivs]]
  exact hown
end
theorem tab_more (n : Nat) (f : Nat → Int) : tab (n + 1) f = tab n f ++ [f n] := by simp [tab, List.range_succ]
set_option maxRecDepth 100000 in
set_option maxHeartbeats 8000000 in
theorem behind_any (n : Nat) (va vb vc cv : Value) (st tl wt L : List Int) (w : World) (hgi : GIs w n va vb vc st tl wt) (hg : Good n st tl wt) (hcv : RowAt .i64 w cv L) (hf : Fin n st tl L) (hLn : L.length < n) (hL : ∀ v, v ∈ L → 0 ≤ v ∧ v < (n : Int)) :
    Calls Try.prog 22 #[gAgg n va vb vc, cv] w fun e w' => ∃ v c, e = .returned v ∧ RowAt .i64 w' v c ∧ Ci n st tl c ∧ Below w.heap.size w w' := by
  obtain ⟨i4, hi4, hz4, hs4, hy4⟩ := info_parts Try.info4
  obtain ⟨i3, hi3, hz3, hs3, hy3⟩ := info_parts Try.info3q
  have hnl := hg.n_le
  have HG := hide hg
  have HNL := hide hnl
  have HF := hide hf
  have HLX := hide (left_ex hLn)
  have hbox := heap_new w (.cells #[.int .i64 n, va, vb, vc] 28)
  have c0 := cell_of hbox (i := 0) rfl
  have c1 := cell_of hbox (i := 1) rfl
  have c2 := cell_of hbox (i := 2) rfl
  have c3 := cell_of hbox (i := 3) rfl
  have hB0 : Below w.heap.size w (w.alloc (.cells #[.int .i64 n, va, vb, vc] 28)) := below_alloc (Below.refl _ _) _
  have HC := hide (entries_any n va vb vc cv st tl wt L _ (hgi.below hB0) hg (hcv.below hB0) hL (by omega) (by omega))
  have HB0 := hide hB0
  have HBX := hide hbox
  unfold gAgg at HC ⊢
  clear hgi hg hcv hf hLn hL hbox hB0
  go_enter Try.func22, Try.ntmps22
  go_wp2_with fail
  refine HC.out.mono ?_
  rintro e w2 ⟨E, fr, pl, rfl, he2, hef, hwE, hb2⟩
  have HEF := hide hef
  have hbx2 : w2.heap[w.heap.size]? = some (.cells #[.int .i64 n, va, vb, vc] 28 (0, 0)) := (hb2.block _ (by simp)).trans HBX.out
  have HE2 := hide he2
  have HWE : Hid (w.heap.size ≤ E) := by simp at hwE; show _ ≤ _; omega
  have HB2 := hide (below_on HB0.out hb2)
  have HBX2 := hide hbx2
  have hix : ∃ v, v < n ∧ pl v ≠ -1 := by
    obtain ⟨x, h1, h2⟩ := HLX.out
    obtain ⟨e, u, h3, _⟩ := EF.at HG.out HF.out hef h1 h2
    exact ⟨x, h1, by omega⟩
  have HI := hide (index_any n E fr pl w2 (by omega) he2 hix)
  unfold fnv at HI
  clear c0 c1 c2 c3 hef he2 hwE hb2 hbx2 hix HC HB0 HBX HLX
  go_wp2_with fail
  refine HI.out.mono ?_
  rintro e w3 ⟨v0, rfl, hv0, hp0, hb3⟩
  have HV0 : Hid (¬ (v0 : Int) ∈ L) := EF.some HF.out HEF.out hv0 hp0
  have HB3 := hide (below_on HB2.out hb3)
  have HE3 : Hid (E2 w3 E (ent n fr pl)) := (hb3.block _ (lt_of_heap HE2.out)).trans HE2.out
  have HBX3 : Hid (w3.heap[w.heap.size]? = some (.cells #[.int .i64 n, va, vb, vc] 28 (0, 0))) := (hb3.block _ (lt_of_heap HBX2.out)).trans HBX2.out
  obtain ⟨f, hfd⟩ : ∃ f : Nat → Nat, f = fun v => (fr v).toNat := ⟨_, rfl⟩
  obtain ⟨g, hgd⟩ : ∃ g : Nat → Nat, g = fun v => (pl v).toNat := ⟨_, rfl⟩
  have HRD : Hid (Rd n st tl L f g ∧ ∀ v, v < n → ¬ (v : Int) ∈ L → fr v = (f v : Int) ∧ pl v = (g v : Int)) := by
    refine ⟨⟨fun v h1 h2 => ?_⟩, fun v h1 h2 => ?_⟩
    · obtain ⟨e, u, h3, h4, h5⟩ := EF.at HG.out HF.out HEF.out h1 h2
      rw [hfd, hgd]; simp only [h3, h4, Int.toNat_natCast]; exact h5
    · obtain ⟨e, u, h3, h4, h5⟩ := EF.at HG.out HF.out HEF.out h1 h2
      rw [hfd, hgd]; simp only [h3, h4, Int.toNat_natCast]; exact ⟨trivial, trivial⟩
  have b0 := cell_of HBX3.out (i := 0) rfl
  clear hb3 HB2 HE2 HBX2 HI HEF hfd hgd hp0
  go_upto_region 4 with (first
    | (at_make; refine wpList_make_full _ rfl _ _ 42 rfl w3.heap.size 4 i4 (.bool false) 1 Try.underlying42 hi4 hz4 hs4 _ _ _ _ n rfl rfl rfl rfl (by rw [hy4]; omega) (by unfold maxLen; omega) (Nat.le_refl _) ?_; intro w4 hown hgrow)
    | fail)
  have hb4 : Below w3.heap.size w3 w4 := (Below.refl _ _).grown hgrow (Nat.le_refl _) (by intro j hj; cases hj)
  have HX : Hid (CM w w4 E w3.heap.size n fr pl (met f v0 0)) := by
    rw [met_zero]
    exact ⟨below_on HB3.out hb4, (hb4.block _ (lt_of_heap HE3.out)).trans HE3.out, barr_made hown, HWE.out, lt_of_heap HE3.out⟩
  generalize w3.heap.size = C at HX ⊢
  clear hown hgrow hb4 HB3 HE3 HBX3 b0
  go_loopw [6] (fun t wr => ∃ k : Nat, t = .int .i64 (itr f v0 k) ∧ CM w wr E C n fr pl (met f v0 k)) (fun _ wr => offs wr C)
  case atStart => exact ⟨0, rfl, HX.out⟩
  case round =>
    obtain ⟨k, rfl, hx⟩ := hrel
    have HXR := hide hx
    clear hx HX
    obtain ⟨hvn, hvL⟩ := HRD.out.1.itr hv0 HV0.out k
    obtain ⟨v, hv⟩ : ∃ v, v = itr f v0 k := ⟨_, rfl⟩
    have HV := hide hv
    rw [← hv] at hvn hvL ⊢
    have y0 := HXR.out.car.cell v hvn
    have yf := HXR.out.car.free v
    obtain ⟨hfr, hpl⟩ := HRD.out.2 v hvn hvL
    have HVL := hide hvL
    clear hv hvL
    by_cases hm : met f v0 k v = true
    · rw [hm] at y0
      obtain ⟨j, hjk, hj⟩ := met_iff.1 hm
      obtain ⟨d, hd1, hd2⟩ := round_back (f := f) (v := v0) hjk (by rw [hj]; exact HV.out)
      rw [← HV.out] at hd2
      obtain ⟨t, ht1, ht2, ht3⟩ := least_round d hd1 hd2
      have HT1 := hide ht1; have HT2 := hide ht2; have HT3 := hide ht3
      clear hj hjk hd1 hd2 ht1 ht2 ht3
      have z0 := HXR.out.ent.cell (v * 2) (by rw [ent_len]; omega)
      have z1 := HXR.out.ent.cell (v * 2 + 1) (by rw [ent_len]; omega)
      rw [ent_fr _ _ hvn, hfr] at z0
      rw [ent_pl _ _ hvn, hpl] at z1
      have z0' : (wr.alloc (.cells #[.int .i64 (g v : Int)] 3)).cell? ⟨E, v * 2, none⟩ = some (.int .i64 (f v : Int)) := Lib.cell?_alloc_some _ z0
      have HN1 : Hid (CN w (wr.alloc (.cells #[.int .i64 (g v : Int)] 3)) E n fr pl (.slice (some ⟨wr.heap.size, 0, none⟩) 1 1) (tab 1 (fun a => (g (itr f v a) : Int)))) := by
        have h1 := HXR.out
        have hb : Below wr.heap.size wr (wr.alloc (.cells #[.int .i64 (g v : Int)] 3)) := below_alloc (Below.refl _ _) _
        refine ⟨below_on h1.bel hb, (hb.block _ (lt_of_heap h1.ent)).trans h1.ent, ⟨by simp [ivs, tab], .inr ⟨wr.heap.size, 1, _, by rw [tab_length], lt_of_heap h1.ent, heap_new _ _, by rw [tab_length]; exact Nat.le_refl _, by unfold maxLen; omega, by simp, by simp [ivs, tab, itr]⟩⟩, h1.wE⟩
      clear hm hfr hpl
      go_wp2_with fail
      have HCI := hide (ci_made HG.out HRD.out.1 hvn HVL.out HT1.out HT2.out HT3.out)
      have HTN : Hid (t ≤ n) := by
        have := HCI.out.few
        rw [List.length_reverse, tab_length] at this
        exact this
      clear z0 z1 z0' y0 yf HXR
      go_loopw [8, 9] (fun c x wr => ∃ i : Nat, 1 ≤ i ∧ i ≤ t ∧ x = .int .i64 (itr f v i) ∧ CN w wr E n fr pl c (tab i (fun a => (g (itr f v a) : Int)))) (fun c _ _ => t - lenV c)
      case atStart => exact ⟨1, Nat.le_refl _, HT1.out, rfl, HN1.out⟩
      case round =>
        obtain ⟨i, hi1, hit, rfl, hx⟩ := hrel
        have HXR := hide hx
        have HLN := hide (lenV_own hx.own)
        rw [tab_length] at HLN
        clear hx HN1
        obtain ⟨u, hu⟩ : ∃ u, u = itr f v i := ⟨_, rfl⟩
        have HU := hide hu
        rw [← hu]
        by_cases hlt : i < t
        · have huv : ¬ (u : Int) = (v : Int) := fun h => HT3.out i hi1 hlt (by rw [← hu]; omega)
          obtain ⟨hun, huL⟩ := HRD.out.1.itr hvn HVL.out i
          rw [← hu] at hun huL
          obtain ⟨hfr, hpl⟩ := HRD.out.2 u hun huL
          have z1 := HXR.out.ent.cell (u * 2 + 1) (by rw [ent_len]; omega)
          rw [ent_pl _ _ hun, hpl] at z1
          have HOA := hide (own_chg (S := fun _ => False) HXR.out.own ((Chg.refl _ wr).alloc (.cells #[.int .i64 (g u : Int)] 3)) (fun _ _ h => h))
          rw [tab_length] at HOA
          have hEs : E + 1 ≤ wr.heap.size := Nat.succ_le_of_lt (lt_of_heap HXR.out.ent)
          have HFR := hide hfr
          clear hu huL hfr hpl
          go_upto_region 10 with (first
            | (at_builtin; refine wpList_append_lies _ rfl (.tmp 50) (.tmp 56) 25 rfl (E + 1) 3 i3 (.int .i64 0) 1 8 Try.underlying25 hi3 hz3 hs3 hy3 rfl (by omega) _ i (ivs (tab i (fun a => (g (itr f v a) : Int)))) rfl HOA.out ⟨wr.heap.size, 0, none⟩ 1 1 [.int .i64 (g u : Int)] rfl rfl (one_at wr _ _) (by simp [Value.oneCell']) (by omega) (by unfold maxLen; have := HTN.out; have := HNL.out; omega) (by have := HTN.out; have := HNL.out; omega) (by simp; omega) (wr.heap.size + 1) (by simp) ?_; intro g8 cap8 w8 hown hgrow hat hltg)
            | fail)
          have HX8 : Hid (CN w w8 E n fr pl (.slice (some ⟨g8, 0, none⟩) (i + 1) cap8) (tab (i + 1) (fun a => (g (itr f v a) : Int)))) := by
            have := HXR.out.came (x := (g u : Int)) (by rw [tab_length]; exact hown) hgrow
            have e : tab i (fun a => (g (itr f v a) : Int)) ++ [(g u : Int)] = tab (i + 1) (fun a => (g (itr f v a) : Int)) := by rw [tab_more, HU.out]
            rw [e, tab_length] at this
            exact this
          clear hown hgrow hat hltg HOA
          have y0 := HX8.out.ent.cell (u * 2) (by rw [ent_len]; omega)
          rw [ent_fr _ _ hun, HFR.out] at y0
          go_wp2_with fail
          refine ⟨⟨i + 1, Nat.succ_le_succ (Nat.zero_le _), hlt, ?_, HX8.out⟩, ?_⟩
          · rw [HU.out]; rfl
          · have := HLN.out
            show t - (i + 1) < t - lenV u8
            omega
        · have hite : i = t := by omega
          subst hite
          have huv : u = v := by rw [hu]; exact HT2.out
          have hbv : ((u : Int) != (v : Int)) = false := by rw [huv]; simp
          clear huv
          obtain ⟨g9, c9, he9⟩ : ∃ g9 c9, u8 = .slice (some ⟨g9, 0, none⟩) i c9 := by
            obtain ⟨_, ⟨rfl, h0⟩ | ⟨g9, cap, cur, he, _⟩⟩ := HXR.out.own
            · rw [tab_length] at h0; omega
            · rw [tab_length] at he; exact ⟨g9, cap, he⟩
          subst he9
          obtain ⟨r1, r2, r3, r4, r5⟩ := RowW.of_owns HXR.out.own
          have HRV := hide (reverse_any g9 c9 _ wr w.heap.size (by have := HXR.out.wE; omega) r1 (by rw [tab_length]; have := HTN.out; have := HNL.out; omega) r2 r3)
          rw [tab_length] at HRV
          have HR2 := hide r2; have HR3 := hide r3
          clear r1 r2 r3 r4 r5 hu hit hlt hi1
          go_wp2_with fail
          refine HRV.out.mono ?_
          rintro e w9 ⟨rfl, hw9, hb9⟩
          have HW9 := hide (hw9.row (c := c9) (by rw [List.length_reverse]; exact HR2.out) HR3.out)
          rw [List.length_reverse, tab_length] at HW9
          have HB9 := hide (HXR.out.bel.trans hb9)
          clear hw9 hb9 HRV
          go_wp2_with fail
          go_ret
          exact ⟨_, _, rfl, HW9.out, HCI.out, HB9.out⟩
    · have hm : met f v0 k v = false := by simpa using hm
      rw [hm] at y0
      have z0 : (wr.setCell ⟨C, v, none⟩ (.bool true)).cell? ⟨E, v * 2, none⟩ = some (.int .i64 (f v : Int)) := by
        have := (HXR.out.put v true).ent.cell (v * 2) (by rw [ent_len]; omega)
        rw [ent_fr _ _ hvn, hfr] at this
        exact this
      have HX2 : Hid (CM w (wr.setCell ⟨C, v, none⟩ (.bool true)) E C n fr pl (met f v0 (k + 1))) := by
        have := HXR.out.put v true
        rw [met_next HV.out] at this
        exact this
      have HME : Hid (offs (wr.setCell ⟨C, v, none⟩ (.bool true)) C < offs wr C) := by
        have h1 := offs_of (HXR.out.put v true).car
        have h2 := offs_of HXR.out.car
        have h3 := off_less hvn hm
        show _ < _
        omega
      clear hfr hpl hm
      go_wp2_with fail
      go_roundw
      case rel => exact ⟨k + 1, by rw [HV.out]; rfl, HX2.out⟩
      case measure => exact HME.out
end Go.Proofs.Ytiohimbifjlfdaa

/- Circle. -/
namespace Go.Proofs.Ytiohimbifjlfdaa
open Go.RowKit Go.Lib
set_option linter.unusedVariables false
set_option linter.unusedSimpArgs false
theorem chk_not (N : Int) (st tl wt : List Int) : (chk N st tl wt).1 ≠ 33 := by
  unfold chk
  split
  · split
    · split
      · simp
      · unfold chkEdges
        split
        · simp only [edgeNo]
          split
          · split <;> simp
          · simp
        · simp
    · simp
  · simp
/-- What Circle answers: list, whether there is one, number. -/
def CA (N : Int) (st tl wt c : List Int) (b : Bool) (E : Int) : Prop :=
  ((ordA N st tl wt).2 ≠ 0 ∧ (ordA N st tl wt).2 ≠ 33 ∧ E = (ordA N st tl wt).2 ∧ b = false ∧ c = []) ∨
  ((ordA N st tl wt).2 = 0 ∧ E = 0 ∧ b = false ∧ c = [] ∧ ((ordA N st tl wt).1.length : Int) = N) ∨
  ((ordA N st tl wt).2 = 33 ∧ E = 0 ∧ b = true ∧ ∃ n : Nat, N = n ∧ Good n st tl wt ∧ Ci n st tl c)
set_option maxHeartbeats 4000000 in
set_option maxRecDepth 100000 in
theorem circle_any (N : Int) (va vb vc : Value) (st tl wt : List Int) (w : World) (hg : GIs w N va vb vc st tl wt) (hst : st.length ≤ 17592186044416) (hto : tl.length ≤ 17592186044416) (hwt : wt.length ≤ 17592186044416) :
    Calls Try.prog 10 #[gAgg N va vb vc] w fun e w' => ∃ cv c b E, e = .returned (.tuple #[cv, .bool b, .int .i64 E]) ∧ RowAt .i64 w' cv c ∧ CA N st tl wt c b E ∧ Below w.heap.size w w' := by
  obtain ⟨W, hW⟩ : ∃ W, W = w.alloc (.cells #[.int .i64 N, va, vb, vc] 28) := ⟨_, rfl⟩
  have hbW : Below w.heap.size w W := by rw [hW]; exact below_alloc (Below.refl _ _) _
  have hA : W.heap[w.heap.size]? = some (.cells #[.int .i64 N, va, vb, vc] 28 (0, 0)) := by rw [hW]; exact heap_new _ _
  have HA := hide hA; have HBW := hide hbW; have HG := hide hg
  have HCk := hide (check_all N va vb vc st tl wt W (hg.below hbW) hst hto hwt)
  have HK : Hid (∀ X, Below W.heap.size W X → X.cell? ⟨w.heap.size, 0, none⟩ = some (.int .i64 N) ∧ X.cell? ⟨w.heap.size, 1, none⟩ = some va ∧ X.cell? ⟨w.heap.size, 2, none⟩ = some vb ∧ X.cell? ⟨w.heap.size, 3, none⟩ = some vc) := fun X hX => ⟨box_keep hA hX rfl, box_keep hA hX rfl, box_keep hA hX rfl, box_keep hA hX rfl⟩
  obtain ⟨r1, r2, hr⟩ : ∃ r1 r2, (r1, r2) = chk N st tl wt := ⟨_, _, rfl⟩
  have HR := hide hr
  unfold ChkPost at HCk
  rw [← hr] at HCk
  clear hg hA hbW hr
  unfold gAgg at *
  go_enter Try.func10, Try.ntmps10
  go_upto_region 1 with fail
  rw [← hW]
  clear hW
  obtain ⟨p0, p1, p2, p3⟩ := HK.out _ (Below.refl _ _)
  go_wp2_with fail
  refine HCk.out.mono ?_
  rintro e w1 ⟨rfl, hb1⟩
  have HB1 := hide hb1
  clear p0 p1 p2 p3
  obtain ⟨p0, p1, p2, p3⟩ := HK.out _ hb1
  clear hb1
  by_cases hz : r1 = 0
  · subst hz
    have hc0 : (chk N st tl wt).1 = 0 := by rw [← HR.out]
    obtain ⟨n, rfl, hgood⟩ := chk_good hc0
    have HGd := hide hgood
    have HFw := hide (forwards_any n va vb vc st tl wt w1 ((HG.out.below HBW.out).below HB1.out) hgood)
    unfold gAgg at HFw
    have HC0 := hide hc0
    clear hc0 hgood
    go_wp2_with fail
    refine HFw.out.mono ?_
    rintro e w2 ⟨cv, l, rfl, hfin, hrow, hb2⟩
    have HB2 := hide (below_on HB1.out hb2); have HFin := hide hfin; have HRow := hide hrow
    obtain ⟨co, cc, rfl⟩ := hrow.shape
    clear p0 p1 p2 p3 hb2 hfin hrow
    obtain ⟨p0, p1, p2, p3⟩ := HK.out _ HB2.out
    by_cases hlt : l.length < n
    · have HAns := hide (ordA_few HC0.out HFin.out hlt)
      have hlti : ¬ (l.length : Int) = (n : Int) := by omega
      have HBh := hide (behind_any n va vb vc _ st tl wt l w2 ((HG.out.below HBW.out).below HB2.out) HGd.out HRow.out HFin.out hlt (Sq.rng n st tl HFin.out.1).1)
      unfold gAgg at HBh
      obtain ⟨k, hk⟩ : ∃ k, k = l.length := ⟨_, rfl⟩
      rw [← hk] at hlti hlt HBh ⊢
      clear hk
      go_wp2_with fail
      refine HBh.out.mono ?_
      rintro e w3 ⟨cv, c, rfl, hrow, hci, hb3⟩
      have HR3 := hide hrow; have HCI := hide hci; have HB3 := hide (below_on HB2.out hb3)
      clear hrow hci hb3 p0 p1 p2 p3
      go_wp2_with fail
      go_ret3
      refine ⟨_, _, _, _, rfl, HR3.out, .inr (.inr ⟨?_, rfl, rfl, n, rfl, HGd.out, HCI.out⟩), below_on HBW.out HB3.out⟩
      rw [HAns.out]
    · have HAns := hide (ordA_all HC0.out HFin.out hlt)
      have hle := Sq.len n st tl HFin.out.1
      have hlti : (l.length : Int) = (n : Int) := by omega
      have HLT := hide hlti
      obtain ⟨k, hk⟩ : ∃ k, k = l.length := ⟨_, rfl⟩
      rw [← hk] at hlti hlt ⊢
      have hkb : ((k : Int) == (n : Int)) = true := by simpa using hlti
      clear hk hle hlti hlt
      go_wp2_with fail
      go_ret3
      refine ⟨_, _, _, _, rfl, RowAt.nil _ _, .inr (.inl ⟨?_, rfl, rfl, rfl, ?_⟩), below_on HBW.out HB2.out⟩
      · rw [HAns.out]
      · rw [HAns.out]; exact HLT.out
  · have HAns : Hid (ordA N st tl wt = ([], r1)) := by
      rw [ordA_bad (by rw [← HR.out]; exact hz), ← HR.out]
      exact hide rfl
    have hzb : (r1 != 0) = true := by simpa using hz
    go_wp2_with fail
    go_ret3
    refine ⟨_, _, _, _, rfl, RowAt.nil _ _, .inl ⟨?_, ?_, ?_, rfl, rfl⟩, below_on HBW.out HB1.out⟩
    · rw [HAns.out]; exact hz
    · rw [HAns.out]; have := chk_not N st tl wt; rw [← HR.out] at this; exact this
    · rw [HAns.out]
end Go.Proofs.Ytiohimbifjlfdaa
