import Derived.Test.YtdjkidgkeekenaaNp
/- Safra's detection, plainly: what holds at every step. -/
namespace Go.Proofs.Ytdjkidgkeekenaa
open Go.RowKit Go.Lib
set_option linter.unusedVariables false
set_option linter.unusedSimpArgs false
/-- The sum of the balances of the first p. -/
def bS (ds : Nat → Nd) (p : Nat) : Int := sumF (fun j => (ds j).bal) p
/-- No node is active, nothing is under way. -/
def Quiet (n : Nat) (ds : Nat → Nd) (c : Nat → Int) : Prop := ∀ j, j < n → (ds j).active = false ∧ c (4 + j) = 0
/-- Safra's invariant: the nodes from p on are reckoned into the count Q; ek: the colour that the token comes with. -/
structure Saf (n K : Nat) (ds : Nat → Nd) (c : Nat → Int) (p : Nat) (ek Q : Int) : Prop where
  pn : p ≤ n
  qw : c 2 = wr Q
  qb : -(((n - p : Nat) : Int) * K) ≤ Q ∧ Q ≤ ((n - p : Nat) : Int) * K
  saf : ((∀ j, p ≤ j → j < n → (ds j).active = false) ∧ Q + bS ds p = bS ds n) ∨ 0 < Q + bS ds p ∨ (∃ j, j < p ∧ (ds j).black = true) ∨ ek ≠ 0
/-- The token's part, while the node t has it. -/
def Tok (n K : Nat) (ds : Nat → Nd) (c : Nat → Int) (t : Nat) : Prop :=
  ((ds t).ph ≠ 9 ∧ (ds t).ph ≠ 10 ∧ (∃ Q, Saf n K ds c (t + 1) (c 3) Q) ∧ ((ds t).ph = 7 → (ds t).q = c 2) ∧ ((ds t).ph = 8 → (ds t).q = c 2 ∧ (ds t).k = c 3)) ∨
  ((ds t).ph = 9 ∧ 0 < t ∧ ∃ Q, Saf n K ds c t (ds t).put9 Q) ∨
  ((ds t).ph = 10 ∧ 0 < t ∧ ∃ Q, Saf n K ds c t (c 3) Q) ∨
  (((ds t).ph = 9 ∨ (ds t).ph = 10) ∧ t = 0 ∧ c 2 = 0)
structure TX (n K : Nat) (ds : Nat → Nd) (c : Nat → Int) : Prop where
  tok : ∃ t, t < n ∧ c 1 = (t : Int) ∧ (∀ j, j < n → j ≠ t → (ds j).ph ≤ 5) ∧ Tok n K ds c t
  a2 : ∀ j, j < n → (ds j).ph = 2 → (ds j).active = true
  m4 : ∀ j, j < n → (ds j).ph = 4 → (ds j).m ≤ c (4 + j)
  c0 : c 0 = 0 ∨ c 0 = 1
  p0 : ∀ j, j < n → (ds j).ph = 0 → c 0 = 1
  p11 : ∀ j, j < n → (ds j).ph = 11 → j = 0
  dq : (c 0 = 1 ∨ (ds 0).ph = 11) → Quiet n ds c
theorem upd_self {α : Type} (f : Nat → α) (i : Nat) : upd f i (f i) = f := by
  funext j; unfold upd; split
  · rename_i e; rw [e]
  · rfl
theorem bS_upd (ds : Nat → Nd) (i : Nat) (d : Nd) : ∀ p, bS (upd ds i d) p = bS ds p + (if i < p then d.bal - (ds i).bal else 0)
  | 0 => by simp [bS, sumF]
  | p + 1 => by
    have h := bS_upd ds i d p
    unfold bS at h ⊢
    unfold sumF
    rw [h]
    by_cases e : p = i
    · subst e
      simp [upd]
      omega
    · have e2 : (upd ds i d p) = ds p := upd_other _ _ e
      simp only [e2]
      by_cases e3 : i < p
      · rw [if_pos e3, if_pos (by omega)]; omega
      · rw [if_neg e3, if_neg (by omega)]; omega
section
variable {n K : Nat} {ds : Nat → Nd} {c c' : Nat → Int} {p : Nat} {ek ek' Q : Int}
theorem le_mulK {a K : Nat} : ((a : Int) * (K : Int)) ≤ (a : Int) * ((K + 1 : Nat) : Int) := Int.mul_le_mul_of_nonneg_left (by omega) (by omega)
theorem Saf.up (h : Saf n K ds c p ek Q) : -(((n - p : Nat) : Int) * ((K + 1 : Nat) : Int)) ≤ Q ∧ Q ≤ ((n - p : Nat) : Int) * ((K + 1 : Nat) : Int) := by
  have h1 := h.qb
  have h2 := le_mulK (a := n - p) (K := K)
  omega
/-- Nothing that the invariant speaks of has got worse. -/
theorem Saf.same (h : Saf n K ds c p ek Q) (i : Nat) (d : Nd) (hb : d.bal = (ds i).bal) (ha : d.active = true → (ds i).active = true) (hk : (ds i).black = true → d.black = true) (hc : c' 2 = c 2) (he : ek' = ek) : Saf n (K + 1) (upd ds i d) c' p ek' Q := by
  have e : ∀ q, bS (upd ds i d) q = bS ds q := fun q => by rw [bS_upd, hb]; split <;> omega
  refine ⟨h.pn, by rw [hc]; exact h.qw, h.up, ?_⟩
  rw [e, e, he]
  rcases h.saf with ⟨h1, h2⟩ | h1 | ⟨j, h1, h2⟩ | h1
  · refine .inl ⟨fun j hp hj => ?_, h2⟩
    unfold upd
    split
    · rename_i e; subst e
      have := h1 _ hp hj
      cases hd : d.active with
      | false => rfl
      | true => rw [ha hd] at this; cases this
    · exact h1 j hp hj
  · exact .inr (.inl h1)
  · refine .inr (.inr (.inl ⟨j, h1, ?_⟩))
    unfold upd
    split
    · rename_i e; subst e; exact hk h2
    · exact h2
  · exact .inr (.inr (.inr h1))
/-- A message is sent. -/
theorem Saf.send (h : Saf n K ds c p ek Q) (i : Nat) (d : Nd) (hin : i < n) (hb : d.bal = (ds i).bal + 1) (hai : (ds i).active = true) (hk : d.black = (ds i).black) (hc : c' 2 = c 2) (he : ek' = ek) : Saf n (K + 1) (upd ds i d) c' p ek' Q := by
  refine ⟨h.pn, by rw [hc]; exact h.qw, h.up, ?_⟩
  rw [bS_upd, bS_upd, hb, if_pos hin, he]
  have hpn := h.pn
  rcases h.saf with ⟨h1, h2⟩ | h1 | ⟨j, h1, h2⟩ | h1
  · have hip : i < p := by
      rcases Nat.lt_or_ge i p with e | e
      · exact e
      · have := h1 i e hin; rw [hai] at this; cases this
    rw [if_pos hip]
    refine .inl ⟨fun j hp hj => ?_, by omega⟩
    rw [upd_other _ _ (by omega)]
    exact h1 j hp hj
  · refine .inr (.inl ?_)
    split <;> omega
  · refine .inr (.inr (.inl ⟨j, h1, ?_⟩))
    unfold upd
    split
    · rename_i e; subst e; rw [hk]; exact h2
    · exact h2
  · exact .inr (.inr (.inr h1))
/-- A message is taken. -/
theorem Saf.take (h : Saf n K ds c p ek Q) (i : Nat) (d : Nd) (hin : i < n) (hb : d.bal = (ds i).bal - 1) (hk : d.black = true) (hB : 0 < bS ds n) (hc : c' 2 = c 2) (he : ek' = ek) : Saf n (K + 1) (upd ds i d) c' p ek' Q := by
  refine ⟨h.pn, by rw [hc]; exact h.qw, h.up, ?_⟩
  rw [bS_upd, bS_upd, hb, if_pos hin, he]
  by_cases hip : i < p
  · exact .inr (.inr (.inl ⟨i, hip, by rw [upd_same]; exact hk⟩))
  · rw [if_neg hip]
    rcases h.saf with ⟨h1, h2⟩ | h1 | ⟨j, h1, h2⟩ | h1
    · exact .inr (.inl (by omega))
    · exact .inr (.inl (by omega))
    · refine .inr (.inr (.inl ⟨j, h1, ?_⟩))
      rw [upd_other _ _ (by omega)]
      exact h2
    · exact .inr (.inr (.inr h1))
end
section
variable {n K : Nat} {ds : Nat → Nd} {c c' : Nat → Int} {i t : Nat} {d : Nd}
theorem Tok.keep (h : Tok n K ds c t) (h5 : (ds i).ph ≤ 5) (d6 : d.ph ≤ 6) (e2 : c' 2 = c 2) (e3 : c' 3 = c 3) (hS : ∀ p ek Q, Saf n K ds c p ek Q → Saf n (K + 1) (upd ds i d) c' p ek Q) : Tok n (K + 1) (upd ds i d) c' t := by
  unfold Tok at h ⊢
  by_cases e : t = i
  · subst e
    rw [upd_same]
    rcases h with ⟨_, _, ⟨Q, hq⟩, _, _⟩ | ⟨h1, _⟩ | ⟨h1, _⟩ | ⟨h1, _⟩
    · exact .inl ⟨by omega, by omega, ⟨Q, by rw [e3]; exact hS _ _ _ hq⟩, fun q => by omega, fun q => by omega⟩
    · omega
    · omega
    · omega
  · rw [upd_other _ _ e, e2, e3]
    rcases h with ⟨a, b, ⟨Q, hq⟩, f, g⟩ | ⟨h1, h2, ⟨Q, hq⟩⟩ | ⟨h1, h2, ⟨Q, hq⟩⟩ | h1
    · exact .inl ⟨a, b, ⟨Q, hS _ _ _ hq⟩, f, g⟩
    · exact .inr (.inl ⟨h1, h2, Q, hS _ _ _ hq⟩)
    · exact .inr (.inr (.inl ⟨h1, h2, Q, hS _ _ _ hq⟩))
    · exact .inr (.inr (.inr h1))
/-- A step of the first five kinds. -/
theorem TX.small (h : TX n K ds c) (hi : i < n) (h5 : (ds i).ph ≤ 5) (d6 : d.ph ≤ 6) (d6' : d.ph = 6 → c 1 = (i : Int)) (e0 : c' 0 = c 0) (e1 : c' 1 = c 1) (e2 : c' 2 = c 2) (e3 : c' 3 = c 3) (hS : ∀ p ek Q, Saf n K ds c p ek Q → Saf n (K + 1) (upd ds i d) c' p ek Q)
    (h2 : d.ph = 2 → d.active = true) (h4 : d.ph = 4 → d.m ≤ c' (4 + i)) (hm : ∀ j, j ≠ i → c (4 + j) ≤ c' (4 + j)) (h0 : d.ph = 0 → c 0 = 1) (hq : Quiet n ds c → Quiet n (upd ds i d) c') : TX n (K + 1) (upd ds i d) c' := by
  obtain ⟨t, ht, ht1, hto, htk⟩ := h.tok
  refine ⟨⟨t, ht, by rw [e1]; exact ht1, fun j hj hne => ?_, htk.keep h5 d6 e2 e3 hS⟩, fun j hj hp => ?_, fun j hj hp => ?_, by rw [e0]; exact h.c0, fun j hj hp => ?_, fun j hj hp => ?_, fun hd => hq (h.dq ?_)⟩
  · by_cases e : j = i
    · subst e
      rw [upd_same]
      rcases Nat.lt_or_ge d.ph 6 with q | q
      · omega
      · have := d6' (by omega)
        rw [ht1] at this
        omega
    · rw [upd_other _ _ e]; exact hto j hj hne
  · by_cases e : j = i
    · subst e; rw [upd_same] at hp ⊢; exact h2 hp
    · rw [upd_other _ _ e] at hp ⊢; exact h.a2 j hj hp
  · by_cases e : j = i
    · subst e; rw [upd_same] at hp ⊢; exact h4 hp
    · rw [upd_other _ _ e] at hp ⊢
      exact Int.le_trans (h.m4 j hj hp) (hm j e)
  · rw [e0]
    by_cases e : j = i
    · subst e; rw [upd_same] at hp; exact h0 hp
    · rw [upd_other _ _ e] at hp; exact h.p0 j hj hp
  · by_cases e : j = i
    · subst e; rw [upd_same] at hp; omega
    · rw [upd_other _ _ e] at hp; exact h.p11 j hj hp
  · rw [e0] at hd
    rcases hd with hd | hd
    · exact .inl hd
    · by_cases e : 0 = i
      · subst e; rw [upd_same] at hd; omega
      · rw [upd_other _ _ e] at hd; exact .inr hd
theorem bS_mail {cs : Nat → Int} (h : bS ds n = sumF (fun j => cs (4 + j)) n) (hp : ∀ j, j < n → 0 ≤ cs (4 + j)) {j : Nat} (hj : j < n) (hx : 0 < cs (4 + j)) : 0 < bS ds n := by
  have h1 := (sumF_pos (f := fun j => cs (4 + j)) (n := n) hp).2 j hj
  omega
theorem quiet_upd (hq : Quiet n ds c) (ha : d.active = false) (hc : ∀ j, j < n → c' (4 + j) = c (4 + j)) : Quiet n (upd ds i d) c' := fun j hj => by
  refine ⟨?_, by rw [hc j hj]; exact (hq j hj).2⟩
  by_cases e : j = i
  · subst e; rw [upd_same]; exact ha
  · rw [upd_other _ _ e]; exact (hq j hj).1
/-- What is known of the sums and the sizes. -/
structure TS (n K : Nat) (ds : Nat → Nd) (c : Nat → Int) : Prop where
  wf : ∀ j, j < n → Wf n j K (ds j)
  sum : bS ds n = sumF (fun j => c (4 + j)) n
  wd : ∀ j, j < 4 + n → W64 (c j)
  ml : ∀ j, j < n → c (4 + j) ≤ 64 * (K : Int)
  n64 : n ≤ 64
  K1 : K ≤ 1099511627776
theorem TX.step1 (h : TX n K ds c) (hs : TS n K ds c) (hi : i < n) (hp : (ds i).ph = 1) : TX n (K + 1) (upd ds i ((ds i).next (c (ds i).cell))) (upd c (ds i).cell ((ds i).acc (c (ds i).cell)).left) := by
  have hc : (ds i).cell = 0 := by simp only [Nd.cell, hp]
  have hl : ((ds i).acc (c 0)).left = c 0 := by simp only [Nd.acc, hp]
  rw [hc, hl, upd_self]
  have hn : (ds i).next (c 0) = if c 0 ≠ 0 then { ds i with ph := 0 } else if (ds i).active = true ∧ 0 < (ds i).left ∧ (ds i).sent < (ds i).sends.length then { ds i with ph := 2 } else { ds i with ph := 3, active := false } := by simp only [Nd.next, hp]
  rw [hn]
  split
  · rename_i e
    have e1 : c 0 = 1 := by rcases h.c0 with q | q; exact absurd q e; exact q
    exact h.small hi (by omega) (by simp) (by simp) rfl rfl rfl rfl (fun p ek Q q => q.same i _ rfl id id rfl rfl) (by simp) (by simp) (fun j _ => Int.le_refl _) (fun _ => e1) (fun q => quiet_upd q (q i hi).1 fun j _ => rfl)
  · split
    · rename_i e
      exact h.small hi (by omega) (by simp) (by simp) rfl rfl rfl rfl (fun p ek Q q => q.same i _ rfl id id rfl rfl) (fun _ => e.1) (by simp) (fun j _ => Int.le_refl _) (by simp) (fun q => quiet_upd q (q i hi).1 fun j _ => rfl)
    · exact h.small hi (by omega) (by simp) (by simp) rfl rfl rfl rfl (fun p ek Q q => q.same i _ rfl (by simp) id rfl rfl) (by simp) (by simp) (fun j _ => Int.le_refl _) (by simp) (fun q => quiet_upd q rfl fun j _ => rfl)
theorem TX.step2 (h : TX n K ds c) (hs : TS n K ds c) (hi : i < n) (hp : (ds i).ph = 2) : TX n (K + 1) (upd ds i ((ds i).next (c (ds i).cell))) (upd c (ds i).cell ((ds i).acc (c (ds i).cell)).left) := by
  have hw := hs.wf i hi
  have hcl := hw.cell
  have hc : (ds i).cell = (ds i).tgt := by simp only [Nd.cell, hp]
  rw [hc] at hcl
  have ht4 : 4 ≤ (ds i).tgt := by unfold Nd.tgt; omega
  have hl : ((ds i).acc (c (ds i).tgt)).left = wr (c (ds i).tgt + 1) := by simp only [Nd.acc, hp]
  rw [hc, hl]
  have hn : (ds i).next (c (ds i).tgt) = { ds i with ph := 1, sent := (ds i).sent + 1, bal := (ds i).bal + 1, left := (ds i).left - 1 } := by simp only [Nd.next, hp]
  rw [hn]
  obtain ⟨r, hr⟩ : ∃ r, (ds i).tgt = 4 + r := ⟨(ds i).tgt - 4, by omega⟩
  rw [hr] at hcl ⊢
  have hb := hs.ml r (by omega)
  have h0 := hs.wd (4 + r) hcl
  have hK := hs.K1
  have hwr : wr (c (4 + r) + 1) = c (4 + r) + 1 := wr_id (by unfold W64 at h0 ⊢; omega)
  rw [hwr]
  have ha := h.a2 i hi hp
  exact h.small hi (by omega) (by simp) (by simp) (upd_other _ _ (by omega)) (upd_other _ _ (by omega)) (upd_other _ _ (by omega)) (upd_other _ _ (by omega))
    (fun p ek Q q => q.send i _ hi rfl ha rfl (upd_other _ _ (by omega)) rfl) (by simp) (by simp) (fun j _ => by unfold upd; split; (rename_i e; rw [show j = r by omega]; omega); exact Int.le_refl _) (by simp)
    (fun q => by have := (q i hi).1; rw [ha] at this; cases this)
theorem TX.step3 (h : TX n K ds c) (hs : TS n K ds c) (hi : i < n) (hp : (ds i).ph = 3) : TX n (K + 1) (upd ds i ((ds i).next (c (ds i).cell))) (upd c (ds i).cell ((ds i).acc (c (ds i).cell)).left) := by
  have hw := hs.wf i hi
  have hwho := hw.who
  have hc : (ds i).cell = 4 + i := by simp only [Nd.cell, hp]; omega
  have hl : ((ds i).acc (c (4 + i))).left = c (4 + i) := by simp only [Nd.acc, hp]
  rw [hc, hl, upd_self]
  have hn : (ds i).next (c (4 + i)) = { ds i with ph := if c (4 + i) = 0 then 5 else 4, m := c (4 + i) } := by simp only [Nd.next, hp]
  rw [hn]
  exact h.small hi (by omega) (by simp; split <;> omega) (by simp; split <;> simp) rfl rfl rfl rfl (fun p ek Q q => q.same i _ rfl id id rfl rfl) (by simp; split <;> simp) (fun _ => Int.le_refl _) (fun j _ => Int.le_refl _) (by simp; split <;> simp) (fun q => quiet_upd q (q i hi).1 fun j _ => rfl)
theorem TX.step4 (h : TX n K ds c) (hs : TS n K ds c) (hi : i < n) (hp : (ds i).ph = 4) : TX n (K + 1) (upd ds i ((ds i).next (c (ds i).cell))) (upd c (ds i).cell ((ds i).acc (c (ds i).cell)).left) := by
  have hw := hs.wf i hi
  have hwho := hw.who
  have hc : (ds i).cell = 4 + i := by simp only [Nd.cell, hp]; omega
  have hl : ((ds i).acc (c (4 + i))).left = if c (4 + i) = (ds i).m then (ds i).m - 1 else c (4 + i) := by simp only [Nd.acc, hp]
  have hn : (ds i).next (c (4 + i)) = if c (4 + i) = (ds i).m then { ds i with ph := 1, bal := (ds i).bal - 1, black := true, active := true, left := min ((ds i).left + (ds i).burst) (ds i).sends.length } else { ds i with ph := 1 } := by simp only [Nd.next, hp]
  rw [hc, hl, hn]
  have hm := hw.p4 hp
  by_cases e : c (4 + i) = (ds i).m
  · rw [if_pos e, if_pos e]
    have hB := bS_mail hs.sum (fun j hj => (hs.wd (4 + j) (by omega)).1) hi (by omega)
    exact h.small hi (by omega) (by simp) (by simp) (upd_other _ _ (by omega)) (upd_other _ _ (by omega)) (upd_other _ _ (by omega)) (upd_other _ _ (by omega))
      (fun p ek Q q => q.take i _ hi rfl rfl hB (upd_other _ _ (by omega)) rfl) (by simp) (by simp) (fun j hj => by rw [upd_other _ _ (by omega)]; exact Int.le_refl _) (by simp)
      (fun q => by have := (q i hi).2; omega)
  · rw [if_neg e, if_neg e, upd_self]
    exact h.small hi (by omega) (by simp) (by simp) rfl rfl rfl rfl (fun p ek Q q => q.same i _ rfl id id rfl rfl) (by simp) (by simp) (fun j _ => Int.le_refl _) (by simp) (fun q => quiet_upd q (q i hi).1 fun j _ => rfl)
theorem TX.step5 (h : TX n K ds c) (hs : TS n K ds c) (hi : i < n) (hp : (ds i).ph = 5) : TX n (K + 1) (upd ds i ((ds i).next (c (ds i).cell))) (upd c (ds i).cell ((ds i).acc (c (ds i).cell)).left) := by
  have hwho := (hs.wf i hi).who
  have hc : (ds i).cell = 1 := by simp only [Nd.cell, hp]
  have hl : ((ds i).acc (c 1)).left = c 1 := by simp only [Nd.acc, hp]
  rw [hc, hl, upd_self]
  have hn : (ds i).next (c 1) = { ds i with ph := if c 1 = ((ds i).who : Int) then 6 else 1 } := by simp only [Nd.next, hp]
  rw [hn]
  exact h.small hi (by omega) (by simp; split <;> omega) (fun q => by simp only at q; split at q <;> (try rename_i e; rw [hwho] at e); exact e; omega) rfl rfl rfl rfl (fun p ek Q q => q.same i _ rfl id id rfl rfl) (by simp; split <;> simp) (by simp; split <;> simp) (fun j _ => Int.le_refl _) (by simp; split <;> simp) (fun q => quiet_upd q (q i hi).1 fun j _ => rfl)
/-- Who is beyond the first five kinds has the token. -/
theorem TX.holds (h : TX n K ds c) (hi : i < n) (h6 : 6 ≤ (ds i).ph) : c 1 = (i : Int) ∧ (∀ j, j < n → j ≠ i → (ds j).ph ≤ 5) ∧ Tok n K ds c i := by
  obtain ⟨t, ht, ht1, hto, htk⟩ := h.tok
  have e : i = t := by
    rcases Nat.decEq i t with e | e
    · have := hto i hi e; omega
    · exact e
  subst e
  exact ⟨ht1, hto, htk⟩
theorem TX.big (h : TX n K ds c) (hi : i < n) (h6 : 6 ≤ (ds i).ph) (htok : ∃ t, t < n ∧ c' 1 = (t : Int) ∧ (∀ j, j < n → j ≠ t → (upd ds i d j).ph ≤ 5) ∧ Tok n (K + 1) (upd ds i d) c' t) (d2 : d.ph ≠ 2) (d4 : d.ph ≠ 4) (e4 : ∀ j, c' (4 + j) = c (4 + j))
    (c0' : c' 0 = 0 ∨ c' 0 = 1) (cc : c 0 = 1 → c' 0 = 1) (p0' : d.ph = 0 → c' 0 = 1) (p11' : d.ph = 11 → i = 0) (hdq : (c' 0 = 1 ∨ d.ph = 11) → Quiet n ds c) (ha : d.active = (ds i).active) : TX n (K + 1) (upd ds i d) c' := by
  have hh := (h.holds hi h6).2.1
  refine ⟨htok, fun j hj hp => ?_, fun j hj hp => ?_, c0', fun j hj hp => ?_, fun j hj hp => ?_, fun hd => ?_⟩
  · by_cases e : j = i
    · subst e; rw [upd_same] at hp; exact absurd hp d2
    · rw [upd_other _ _ e] at hp ⊢; exact h.a2 j hj hp
  · by_cases e : j = i
    · subst e; rw [upd_same] at hp; exact absurd hp d4
    · rw [upd_other _ _ e] at hp ⊢; rw [e4]; exact h.m4 j hj hp
  · by_cases e : j = i
    · subst e; rw [upd_same] at hp; exact p0' hp
    · rw [upd_other _ _ e] at hp; exact cc (h.p0 j hj hp)
  · by_cases e : j = i
    · subst e; rw [upd_same] at hp; exact p11' hp
    · rw [upd_other _ _ e] at hp; exact h.p11 j hj hp
  · have hq : Quiet n ds c := by
      rcases hd with hd | hd
      · exact hdq (.inl hd)
      · by_cases e : 0 = i
        · subst e; rw [upd_same] at hd; exact hdq (.inr hd)
        · rw [upd_other _ _ e] at hd
          have := hh 0 (by omega) e
          omega
    exact quiet_upd hq (by rw [ha]; exact (hq i hi).1) (fun j _ => e4 j)
theorem c0_of (h : TX n K ds c) (hi : i < n) (h6 : 6 ≤ (ds i).ph) : (c 0 = 1 → Quiet n ds c) := fun e => h.dq (.inl e)
/-- While the token stays where it is. -/
theorem here (h : TX n K ds c) (hi : i < n) (h6 : 6 ≤ (ds i).ph) (e1 : c' 1 = c 1) (hk : Tok n (K + 1) (upd ds i d) c' i) : ∃ t, t < n ∧ c' 1 = (t : Int) ∧ (∀ j, j < n → j ≠ t → (upd ds i d j).ph ≤ 5) ∧ Tok n (K + 1) (upd ds i d) c' t := by
  obtain ⟨h1, h2, _⟩ := h.holds hi h6
  exact ⟨i, hi, by rw [e1]; exact h1, fun j hj e => by rw [upd_other _ _ e]; exact h2 j hj e, hk⟩
theorem TX.step6 (h : TX n K ds c) (hs : TS n K ds c) (hi : i < n) (hp : (ds i).ph = 6) : TX n (K + 1) (upd ds i ((ds i).next (c (ds i).cell))) (upd c (ds i).cell ((ds i).acc (c (ds i).cell)).left) := by
  have hc : (ds i).cell = 2 := by simp only [Nd.cell, hp]
  have hl : ((ds i).acc (c 2)).left = c 2 := by simp only [Nd.acc, hp]
  rw [hc, hl, upd_self]
  have hn : (ds i).next (c 2) = { ds i with ph := 7, q := c 2 } := by simp only [Nd.next, hp]
  rw [hn]
  have hk := (h.holds hi (by omega)).2.2
  refine h.big hi (by omega) (here h hi (by omega) rfl ?_) (by simp) (by simp) (fun _ => rfl) h.c0 id (by simp) (by simp) (fun e => h.dq (by rcases e with e | e; exact .inl e; cases e)) rfl
  rcases hk with ⟨_, _, ⟨Q, hq⟩, _, _⟩ | ⟨h1, _⟩ | ⟨h1, _⟩ | ⟨h1, _⟩
  · unfold Tok
    rw [upd_same]
    exact .inl ⟨by simp, by simp, ⟨Q, hq.same i _ rfl id id rfl rfl⟩, fun _ => rfl, fun q => by cases q⟩
  all_goals omega
theorem TX.step7 (h : TX n K ds c) (hs : TS n K ds c) (hi : i < n) (hp : (ds i).ph = 7) : TX n (K + 1) (upd ds i ((ds i).next (c (ds i).cell))) (upd c (ds i).cell ((ds i).acc (c (ds i).cell)).left) := by
  have hc : (ds i).cell = 3 := by simp only [Nd.cell, hp]
  have hl : ((ds i).acc (c 3)).left = c 3 := by simp only [Nd.acc, hp]
  rw [hc, hl, upd_self]
  have hn : (ds i).next (c 3) = { ds i with ph := if (ds i).done (c 3) = true then 11 else 8, k := c 3 } := by simp only [Nd.next, hp]
  rw [hn]
  have hw := hs.wf i hi
  have hpas := hw.p3 (by omega)
  have hk := (h.holds hi (by omega)).2.2
  obtain ⟨Q, hq, h7⟩ : ∃ Q, Saf n K ds c (i + 1) (c 3) Q ∧ (ds i).q = c 2 := by
    rcases hk with ⟨_, _, ⟨Q, hq⟩, h7, _⟩ | ⟨h1, _⟩ | ⟨h1, _⟩ | ⟨h1, _⟩
    · exact ⟨Q, hq, h7 hp⟩
    all_goals omega
  have htk : Tok n (K + 1) (upd ds i { ds i with ph := if (ds i).done (c 3) = true then 11 else 8, k := c 3 }) c i := by
    unfold Tok
    rw [upd_same]
    exact .inl ⟨by simp; split <;> omega, by simp; split <;> omega, ⟨Q, hq.same i _ rfl id id rfl rfl⟩, fun q => by simp only at q; split at q <;> omega, fun _ => ⟨h7, rfl⟩⟩
  by_cases e : (ds i).done (c 3) = true
  · have hd := e
    simp only [Nd.done, decide_eq_true_eq] at hd
    obtain ⟨d1, d2, d3, d4⟩ := hd
    have hwho := hw.who
    have hi0 : i = 0 := by omega
    have hquiet : Quiet n ds c := by
      subst hi0
      have hb := hw.ba
      have hqb := hq.qb
      have hK := hs.K1
      have hn64 := hs.n64
      have hbb : bS ds (0 + 1) = (ds 0).bal := by simp [bS, sumF]
      have hz : Q + (ds 0).bal = 0 := by
        rw [h7, hq.qw, wr_add] at d4
        have e2 : wr (Q + wr (ds 0).bal) = wr (Q + (ds 0).bal) := by rw [Int.add_comm Q, wr_add, Int.add_comm]
        rw [e2] at d4
        have hm : ((n - (0 + 1) : Nat) : Int) * (K : Int) ≤ 64 * 1099511627776 := Int.mul_le_mul (by omega) (by omega) (by omega) (by omega)
        have e3 : wr (Q + (ds 0).bal) = (Q + (ds 0).bal) % 18446744073709551616 := rfl
        rw [e3] at d4
        omega
      rcases hq.saf with ⟨h1, h2⟩ | h1 | ⟨j, h1, h2⟩ | h1
      · have hB : bS ds n = 0 := by rw [← h2, hbb]; exact hz
        intro j hj
        refine ⟨?_, ?_⟩
        · rcases Nat.eq_zero_or_pos j with e5 | e5
          · subst e5; exact hpas
          · exact h1 j (by omega) hj
        · have h3 := hs.sum
          have h4 := (sumF_pos (f := fun j => c (4 + j)) (n := n) (fun j hj => (hs.wd (4 + j) (by omega)).1)).2 j hj
          have h5 := (hs.wd (4 + j) (by omega)).1
          have h6 : c (4 + j) ≤ sumF (fun j => c (4 + j)) n := h4
          omega
      · rw [hbb] at h1; omega
      · have : j = 0 := by omega
        subst this
        rw [d3] at h2; cases h2
      · exact absurd d2 h1
    exact h.big hi (by omega) (here h hi (by omega) rfl htk) (by simp [e]) (by simp [e]) (fun _ => rfl) h.c0 id (by simp [e]) (fun _ => hi0) (fun _ => hquiet) rfl
  · exact h.big hi (by omega) (here h hi (by omega) rfl htk) (by simp [e]) (by simp [e]) (fun _ => rfl) h.c0 id (by simp [e]) (by simp [e]) (fun q => h.dq (by rcases q with q | q; exact .inl q; simp [e] at q)) rfl
theorem TX.step8 (h : TX n K ds c) (hs : TS n K ds c) (hi : i < n) (hp : (ds i).ph = 8) : TX n (K + 1) (upd ds i ((ds i).next (c (ds i).cell))) (upd c (ds i).cell ((ds i).acc (c (ds i).cell)).left) := by
  have hc : (ds i).cell = 2 := by simp only [Nd.cell, hp]
  have hl : ((ds i).acc (c 2)).left = (ds i).put8 := by simp only [Nd.acc, hp]
  rw [hc, hl]
  have hn : (ds i).next (c 2) = { ds i with ph := 9 } := by simp only [Nd.next, hp]
  rw [hn]
  have hw := hs.wf i hi
  have hwho := hw.who
  have hpas := hw.p3 (by omega)
  have hk := (h.holds hi (by omega)).2.2
  obtain ⟨Q, hq, h8, h9⟩ : ∃ Q, Saf n K ds c (i + 1) (c 3) Q ∧ (ds i).q = c 2 ∧ (ds i).k = c 3 := by
    rcases hk with ⟨_, _, ⟨Q, hq⟩, _, h8⟩ | ⟨h1, _⟩ | ⟨h1, _⟩ | ⟨h1, _⟩
    · exact ⟨Q, hq, h8 hp⟩
    all_goals omega
  refine h.big hi (by omega) (here h hi (by omega) (upd_other _ _ (by omega)) ?_) (by simp) (by simp) (fun _ => upd_other _ _ (by omega)) (by rw [upd_other _ _ (by omega)]; exact h.c0) (fun e => by rw [upd_other _ _ (by omega)]; exact e) (by simp) (by simp) (fun e => h.dq (by
    rcases e with e | e
    · rw [upd_other _ _ (by omega)] at e; exact .inl e
    · cases e)) rfl
  unfold Tok
  rw [upd_same]
  by_cases h0 : i = 0
  · exact .inr (.inr (.inr ⟨.inl rfl, h0, by rw [upd_same]; unfold Nd.put8; rw [if_pos (by omega)]⟩))
  · refine .inr (.inl ⟨rfl, by omega, Q + (ds i).bal, ?_⟩)
    have hb := hw.ba
    have hqb := hq.qb
    have hpn := hq.pn
    have hbs : ∀ p, bS (upd ds i { ds i with ph := 9 }) p = bS ds p := fun p => by rw [bS_upd]; simp
    have hbi : bS ds (i + 1) = bS ds i + (ds i).bal := rfl
    refine ⟨by omega, ?_, ?_, ?_⟩
    · rw [upd_same]
      unfold Nd.put8
      rw [if_neg (by omega), h8, hq.qw, wr_add, Int.add_comm Q, wr_add, Int.add_comm]
    · obtain ⟨m, hm⟩ : ∃ m, n - (i + 1) = m := ⟨_, rfl⟩
      rw [hm] at hqb
      have e1 : n - i = m + 1 := by omega
      rw [e1]
      have e2 : ((m + 1 : Nat) : Int) * ((K + 1 : Nat) : Int) = (m : Int) * K + K + (m : Int) + 1 := by
        rw [Int.natCast_add, Int.natCast_add, Int.add_mul, Int.mul_add]; simp; omega
      rw [e2]
      omega
    · rw [hbs, hbs]
      have hput : (ds i).black = true ∨ c 3 ≠ 0 → ({ ds i with ph := 9 } : Nd).put9 ≠ 0 := fun q => by
        unfold Nd.put9
        simp only
        rw [if_pos ⟨by omega, by rw [h9]; rcases q with q | q; exact .inr q; exact .inl q⟩]
        decide
      rcases hq.saf with ⟨h1, h2⟩ | h1 | ⟨j, h1, h2⟩ | h1
      · refine .inl ⟨fun j hj1 hj2 => ?_, by omega⟩
        by_cases e : j = i
        · subst e; rw [upd_same]; exact hpas
        · rw [upd_other _ _ e]; exact h1 j (by omega) hj2
      · exact .inr (.inl (by omega))
      · by_cases e : j = i
        · subst e; exact .inr (.inr (.inr (hput (.inl h2))))
        · exact .inr (.inr (.inl ⟨j, by omega, by rw [upd_other _ _ e]; exact h2⟩))
      · exact .inr (.inr (.inr (hput (.inr h1))))
theorem TX.step9 (h : TX n K ds c) (hs : TS n K ds c) (hi : i < n) (hp : (ds i).ph = 9) : TX n (K + 1) (upd ds i ((ds i).next (c (ds i).cell))) (upd c (ds i).cell ((ds i).acc (c (ds i).cell)).left) := by
  have hc : (ds i).cell = 3 := by simp only [Nd.cell, hp]
  have hl : ((ds i).acc (c 3)).left = (ds i).put9 := by simp only [Nd.acc, hp]
  rw [hc, hl]
  have hn : (ds i).next (c 3) = { ds i with ph := 10, black := false } := by simp only [Nd.next, hp]
  rw [hn]
  have hk := (h.holds hi (by omega)).2.2
  refine h.big hi (by omega) (here h hi (by omega) (upd_other _ _ (by omega)) ?_) (by simp) (by simp) (fun _ => upd_other _ _ (by omega)) (by rw [upd_other _ _ (by omega)]; exact h.c0) (fun e => by rw [upd_other _ _ (by omega)]; exact e) (by simp) (by simp) (fun e => h.dq (by
    rcases e with e | e
    · rw [upd_other _ _ (by omega)] at e; exact .inl e
    · cases e)) rfl
  unfold Tok
  rw [upd_same]
  rcases hk with ⟨q, _⟩ | ⟨_, h1, Q, hq⟩ | ⟨q, _⟩ | ⟨_, h1, h2⟩
  · exact absurd hp q
  · refine .inr (.inr (.inl ⟨rfl, h1, Q, ?_⟩))
    have hbs : ∀ p, bS (upd ds i { ds i with ph := 10, black := false }) p = bS ds p := fun p => by rw [bS_upd]; simp
    refine ⟨hq.pn, by rw [upd_other _ _ (by omega)]; exact hq.qw, hq.up, ?_⟩
    rw [hbs, hbs, upd_same]
    rcases hq.saf with ⟨h3, h4⟩ | h3 | ⟨j, h3, h4⟩ | h3
    · refine .inl ⟨fun j hj1 hj2 => ?_, h4⟩
      by_cases e : j = i
      · subst e; rw [upd_same]; exact h3 j hj1 hj2
      · rw [upd_other _ _ e]; exact h3 j hj1 hj2
    · exact .inr (.inl h3)
    · exact .inr (.inr (.inl ⟨j, h3, by rw [upd_other _ _ (by omega)]; exact h4⟩))
    · exact .inr (.inr (.inr h3))
  · omega
  · exact .inr (.inr (.inr ⟨.inr rfl, h1, by rw [upd_other _ _ (by omega)]; exact h2⟩))
theorem TX.step10 (h : TX n K ds c) (hs : TS n K ds c) (hi : i < n) (hp : (ds i).ph = 10) : TX n (K + 1) (upd ds i ((ds i).next (c (ds i).cell))) (upd c (ds i).cell ((ds i).acc (c (ds i).cell)).left) := by
  have hc : (ds i).cell = 1 := by simp only [Nd.cell, hp]
  have hl : ((ds i).acc (c 1)).left = (ds i).put10 := by simp only [Nd.acc, hp]
  rw [hc, hl]
  have hn : (ds i).next (c 1) = { ds i with ph := 1 } := by simp only [Nd.next, hp]
  rw [hn]
  have hw := hs.wf i hi
  have hwho := hw.who
  have hnn := hw.nn
  obtain ⟨_, ho, hk⟩ := h.holds hi (by omega)
  have hbs : ∀ p, bS (upd ds i { ds i with ph := 1 }) p = bS ds p := fun p => by rw [bS_upd]; simp
  have hph : ∀ j, j < n → (upd ds i { ds i with ph := 1 } j).ph ≤ 5 := fun j hj => by
    by_cases e : j = i
    · subst e; rw [upd_same]; show (1 : Nat) ≤ 5; omega
    · rw [upd_other _ _ e]; exact ho j hj e
  refine h.big hi (by omega) ?_ (by simp) (by simp) (fun _ => upd_other _ _ (by omega)) (by rw [upd_other _ _ (by omega)]; exact h.c0) (fun e => by rw [upd_other _ _ (by omega)]; exact e) (by simp) (by simp) (fun e => h.dq (by
    rcases e with e | e
    · rw [upd_other _ _ (by omega)] at e; exact .inl e
    · cases e)) rfl
  rcases hk with ⟨_, q, _⟩ | ⟨q, _⟩ | ⟨_, h1, Q, hq⟩ | ⟨_, h1, h2⟩
  · exact absurd hp q
  · omega
  · refine ⟨i - 1, by omega, ?_, fun j hj _ => hph j hj, ?_⟩
    · rw [upd_same]; unfold Nd.put10; rw [if_neg (by omega)]; omega
    · have h5 := hph (i - 1) (by omega)
      refine .inl ⟨by omega, by omega, ⟨Q, ?_⟩, fun q => by omega, fun q => by omega⟩
      rw [show i - 1 + 1 = i by omega, upd_other c _ (show 3 ≠ 1 by omega)]
      exact hq.same i _ rfl id id (upd_other _ _ (by omega)) rfl
  · refine ⟨n - 1, by omega, ?_, fun j hj _ => hph j hj, ?_⟩
    · rw [upd_same]; unfold Nd.put10; rw [if_pos (by omega)]; omega
    · have h5 := hph (n - 1) (by omega)
      refine .inl ⟨by omega, by omega, ⟨0, ?_⟩, fun q => by omega, fun q => by omega⟩
      rw [show n - 1 + 1 = n by omega]
      refine ⟨Nat.le_refl _, by rw [upd_other _ _ (by omega), h2]; rfl, by simp, .inl ⟨fun j h3 h4 => by omega, by omega⟩⟩
theorem TX.step11 (h : TX n K ds c) (hs : TS n K ds c) (hi : i < n) (hp : (ds i).ph = 11) : TX n (K + 1) (upd ds i ((ds i).next (c (ds i).cell))) (upd c (ds i).cell ((ds i).acc (c (ds i).cell)).left) := by
  have hc : (ds i).cell = 0 := by simp only [Nd.cell, hp]
  have hl : ((ds i).acc (c 0)).left = 1 := by simp only [Nd.acc, hp]
  rw [hc, hl]
  have hn : (ds i).next (c 0) = { ds i with ph := 0 } := by simp only [Nd.next, hp]
  rw [hn]
  have hi0 := h.p11 i hi hp
  have hk := (h.holds hi (by omega)).2.2
  refine h.big hi (by omega) (here h hi (by omega) (upd_other _ _ (by omega)) ?_) (by simp) (by simp) (fun _ => upd_other _ _ (by omega)) (.inr (upd_same _ _ _)) (fun _ => upd_same _ _ _) (fun _ => upd_same _ _ _) (by simp) (fun _ => h.dq (.inr (by rw [← hi0]; exact hp))) rfl
  rcases hk with ⟨_, _, ⟨Q, hq⟩, _, _⟩ | ⟨h1, _⟩ | ⟨h1, _⟩ | ⟨h1, _⟩
  · unfold Tok
    rw [upd_same]
    exact .inl ⟨by simp, by simp, ⟨Q, hq.same i _ rfl id id (upd_other _ _ (by omega)) (upd_other _ _ (by omega))⟩, (fun q => by cases q), (fun q => by cases q)⟩
  all_goals omega
theorem TX.step (h : TX n K ds c) (hs : TS n K ds c) (hi : i < n) (h0 : (ds i).ph ≠ 0) : TX n (K + 1) (upd ds i ((ds i).next (c (ds i).cell))) (upd c (ds i).cell ((ds i).acc (c (ds i).cell)).left) := by
  have hp := (hs.wf i hi).ph
  have : (ds i).ph = 1 ∨ (ds i).ph = 2 ∨ (ds i).ph = 3 ∨ (ds i).ph = 4 ∨ (ds i).ph = 5 ∨ (ds i).ph = 6 ∨ (ds i).ph = 7 ∨ (ds i).ph = 8 ∨ (ds i).ph = 9 ∨ (ds i).ph = 10 ∨ (ds i).ph = 11 := by omega
  rcases this with e | e | e | e | e | e | e | e | e | e | e
  · exact h.step1 hs hi e
  · exact h.step2 hs hi e
  · exact h.step3 hs hi e
  · exact h.step4 hs hi e
  · exact h.step5 hs hi e
  · exact h.step6 hs hi e
  · exact h.step7 hs hi e
  · exact h.step8 hs hi e
  · exact h.step9 hs hi e
  · exact h.step10 hs hi e
  · exact h.step11 hs hi e
end
end Go.Proofs.Ytdjkidgkeekenaa

/- Nodes in turns come to their end: how soon. -/
namespace Go.Proofs.Ytdjkidgkeekenaa
open Go.RowKit Go.Lib
set_option linter.unusedVariables false
set_option linter.unusedSimpArgs false
abbrev Cir := (Nat → Nd) × List Int
/-- A pick of the node i. -/
def stp (σ : Cir) (i : Nat) : Cir := if (σ.1 i).ph = 0 then σ else (upd σ.1 i ((σ.1 i).next (nth σ.2 (σ.1 i).cell)), σ.2.set (σ.1 i).cell ((σ.1 i).acc (nth σ.2 (σ.1 i).cell)).left)
structure Inv (n K : Nat) (σ : Cir) : Prop where
  sys : Sys n K σ.1 σ.2
  tx : TX n K σ.1 (nth σ.2)
theorem nth_upd (cs : List Int) (i : Nat) (x : Int) (hi : i < cs.length) : nth (cs.set i x) = upd (nth cs) i x := by
  funext j
  rw [nth_set _ _ _ _ hi]
  rfl
theorem Saf.mono {n K p : Nat} {ds : Nat → Nd} {c : Nat → Int} {ek Q : Int} (h : Saf n K ds c p ek Q) : Saf n (K + 1) ds c p ek Q := ⟨h.pn, h.qw, h.up, h.saf⟩
theorem TX.mono {n K : Nat} {ds : Nat → Nd} {c : Nat → Int} (h : TX n K ds c) : TX n (K + 1) ds c := by
  obtain ⟨t, ht, ht1, hto, htk⟩ := h.tok
  refine ⟨⟨t, ht, ht1, hto, ?_⟩, h.a2, h.m4, h.c0, h.p0, h.p11, h.dq⟩
  rcases htk with ⟨a, b, ⟨Q, hq⟩, f, g⟩ | ⟨h1, h2, ⟨Q, hq⟩⟩ | ⟨h1, h2, ⟨Q, hq⟩⟩ | h1
  · exact .inl ⟨a, b, ⟨Q, hq.mono⟩, f, g⟩
  · exact .inr (.inl ⟨h1, h2, Q, hq.mono⟩)
  · exact .inr (.inr (.inl ⟨h1, h2, Q, hq.mono⟩))
  · exact .inr (.inr (.inr h1))
section
variable {n K i : Nat} {σ : Cir}
theorem Inv.ts (h : Inv n K σ) (hn : n ≤ 64) (hK : K ≤ 1099511627776) : TS n K σ.1 (nth σ.2) := ⟨h.sys.wf, h.sys.sum, h.sys.wd, fun j hj => h.sys.mail hn hj, hn, hK⟩
theorem Inv.step (h : Inv n K σ) (hn : n ≤ 64) (hK : K ≤ 1099511627776) (hi : i < n) : Inv n (K + 1) (stp σ i) := by
  unfold stp
  split
  · exact ⟨h.sys.mono (Nat.le_succ K), h.tx.mono⟩
  · rename_i h0
    refine ⟨h.sys.step hn hK hi h0, ?_⟩
    have hc := (h.sys.wf i hi).cell
    rw [show nth (σ.2.set (σ.1 i).cell ((σ.1 i).acc (nth σ.2 (σ.1 i).cell)).left) = _ from nth_upd _ _ _ (by rw [h.sys.len]; exact hc)]
    exact h.tx.step (h.ts hn hK) hi h0
end
/-- A node that can send. -/
def Nd.able (d : Nd) : Prop := d.active = true ∧ 0 < d.left ∧ d.sent < d.sends.length
/-- What is still to be sent, and to be taken. -/
def Ev (n : Nat) (σ : Cir) : Int := sumF (fun j => 2 * (((σ.1 j).sends.length : Int) - (σ.1 j).sent) + nth σ.2 (4 + j)) n
/-- A node that will send or take. -/
def Ur (d : Nd) (m : Int) : Prop := d.ph = 2 ∨ (d.ph = 1 ∧ d.able) ∨ 0 < m
/-- How soon. -/
noncomputable def rk (d : Nd) (m : Int) : Nat :=
  open Classical in
  if d.ph = 1 then (if d.able then 2 else 3) else if d.ph = 2 then 1 else if d.ph = 3 then 2 else if d.ph = 4 then (if d.m = m then 1 else 4) else 14 - d.ph
/-- What a step does: an event, or nothing that others see but the token. -/
theorem stp_kinds {n K i : Nat} {σ : Cir} (h : Inv n K σ) (hn : n ≤ 64) (hK : K ≤ 1099511627776) (hi : i < n) :
    (Ev n (stp σ i) = Ev n σ - 1 ∧ ((σ.1 i).ph = 2 ∨ (σ.1 i).ph = 4)) ∨ (Ev n (stp σ i) = Ev n σ ∧ (∀ j, nth (stp σ i).2 (4 + j) = nth σ.2 (4 + j)) ∧ (∀ j, j ≠ i → (stp σ i).1 j = σ.1 j) ∧ ((stp σ i).1 i).bal = (σ.1 i).bal ∧ ((stp σ i).1 i).sent = (σ.1 i).sent ∧ ((stp σ i).1 i).sends = (σ.1 i).sends ∧ (σ.1 i).ph ≠ 2 ∧ ((σ.1 i).ph = 4 → nth σ.2 (4 + i) ≠ (σ.1 i).m) ∧ (((stp σ i).1 i).black = true → (σ.1 i).black = true)) := by
  by_cases h0 : (σ.1 i).ph = 0
  · have e : stp σ i = σ := if_pos h0
    rw [e]
    exact .inr ⟨rfl, fun _ => rfl, fun _ _ => rfl, rfl, rfl, rfl, by omega, fun q => by omega, id⟩
  have e : stp σ i = (upd σ.1 i ((σ.1 i).next (nth σ.2 (σ.1 i).cell)), σ.2.set (σ.1 i).cell ((σ.1 i).acc (nth σ.2 (σ.1 i).cell)).left) := if_neg h0
  have hw := h.sys.wf i hi
  have hcl := hw.cell
  have hwho := hw.who
  have hlen : (σ.1 i).cell < σ.2.length := by rw [h.sys.len]; exact hcl
  have hp := hw.ph
  -- whatever is no event
  have quiet : ∀ d, d = (σ.1 i).next (nth σ.2 (σ.1 i).cell) → (∀ j, nth (σ.2.set (σ.1 i).cell ((σ.1 i).acc (nth σ.2 (σ.1 i).cell)).left) (4 + j) = nth σ.2 (4 + j)) → d.bal = (σ.1 i).bal → d.sent = (σ.1 i).sent → d.sends = (σ.1 i).sends → (σ.1 i).ph ≠ 2 → ((σ.1 i).ph = 4 → nth σ.2 (4 + i) ≠ (σ.1 i).m) → (d.black = true → (σ.1 i).black = true) → (Ev n (stp σ i) = Ev n σ ∧ (∀ j, nth (stp σ i).2 (4 + j) = nth σ.2 (4 + j)) ∧ (∀ j, j ≠ i → (stp σ i).1 j = σ.1 j) ∧ ((stp σ i).1 i).bal = (σ.1 i).bal ∧ ((stp σ i).1 i).sent = (σ.1 i).sent ∧ ((stp σ i).1 i).sends = (σ.1 i).sends ∧ (σ.1 i).ph ≠ 2 ∧ ((σ.1 i).ph = 4 → nth σ.2 (4 + i) ≠ (σ.1 i).m) ∧ (((stp σ i).1 i).black = true → (σ.1 i).black = true)) := by
    intro d hd hm hb hs hl h2 h4 hk
    have e1 : (stp σ i).1 i = d := by rw [e, hd]; exact upd_same _ _ _
    have e2 : ∀ j, j ≠ i → (stp σ i).1 j = σ.1 j := fun j hj => by rw [e]; exact upd_other _ _ hj
    have e3 : ∀ j, nth (stp σ i).2 (4 + j) = nth σ.2 (4 + j) := by rw [e]; exact hm
    refine ⟨?_, e3, e2, by rw [e1]; exact hb, by rw [e1]; exact hs, by rw [e1]; exact hl, h2, h4, by rw [e1]; exact hk⟩
    unfold Ev
    refine sumF_congr fun j hj => ?_
    rw [e3]
    by_cases q : j = i
    · subst q; rw [e1, hs, hl]
    · rw [e2 j q]
  -- a load, or a store into the token's cells
  have low : (σ.1 i).cell < 4 → ∀ j, nth (σ.2.set (σ.1 i).cell ((σ.1 i).acc (nth σ.2 (σ.1 i).cell)).left) (4 + j) = nth σ.2 (4 + j) := fun q j => by
    rw [nth_set _ _ _ _ hlen, if_neg (by omega)]
  have load : ((σ.1 i).acc (nth σ.2 (σ.1 i).cell)).left = nth σ.2 (σ.1 i).cell → ∀ j, nth (σ.2.set (σ.1 i).cell ((σ.1 i).acc (nth σ.2 (σ.1 i).cell)).left) (4 + j) = nth σ.2 (4 + j) := fun q j => by
    rw [nth_set _ _ _ _ hlen, q]
    split
    · rename_i r; rw [r]
    · rfl
  have cases : (σ.1 i).ph = 1 ∨ (σ.1 i).ph = 2 ∨ (σ.1 i).ph = 3 ∨ (σ.1 i).ph = 4 ∨ (σ.1 i).ph = 5 ∨ (σ.1 i).ph = 6 ∨ (σ.1 i).ph = 7 ∨ (σ.1 i).ph = 8 ∨ (σ.1 i).ph = 9 ∨ (σ.1 i).ph = 10 ∨ (σ.1 i).ph = 11 := by omega
  rcases cases with p | p | p | p | p | p | p | p | p | p | p
  · refine .inr (quiet _ rfl (low (by simp only [Nd.cell, p]; omega)) ?_ ?_ ?_ (by omega) (by omega) ?_) <;> (simp only [Nd.next, p]; split <;> (try split) <;> simp)
  · -- sent
    refine .inl ⟨?_, .inl p⟩
    obtain ⟨q1, q2⟩ := hw.p2 p
    have hc : (σ.1 i).cell = (σ.1 i).tgt := by simp only [Nd.cell, p]
    obtain ⟨r, hr⟩ : ∃ r, (σ.1 i).tgt = 4 + r := ⟨(σ.1 i).tgt - 4, by unfold Nd.tgt; omega⟩
    rw [hc, hr] at hcl hlen
    have hml := h.sys.mail hn (j := r) (by omega)
    have hwd := h.sys.wd (4 + r) hcl
    have hwr : wr (nth σ.2 (4 + r) + 1) = nth σ.2 (4 + r) + 1 := wr_id (by unfold W64 at hwd ⊢; omega)
    have hl : ((σ.1 i).acc (nth σ.2 (σ.1 i).cell)).left = nth σ.2 (4 + r) + 1 := by rw [hc, hr]; simp only [Nd.acc, p]; exact hwr
    rw [e, hl, hc, hr]
    have e1 : (σ.1 i).next (nth σ.2 (4 + r)) = { σ.1 i with ph := 1, sent := (σ.1 i).sent + 1, bal := (σ.1 i).bal + 1, left := (σ.1 i).left - 1 } := by simp only [Nd.next, p]
    rw [e1]
    unfold Ev
    simp only
    have a1 := sumF_at (f := fun j => 2 * (((upd σ.1 i { σ.1 i with ph := 1, sent := (σ.1 i).sent + 1, bal := (σ.1 i).bal + 1, left := (σ.1 i).left - 1 } j).sends.length : Int) - (upd σ.1 i { σ.1 i with ph := 1, sent := (σ.1 i).sent + 1, bal := (σ.1 i).bal + 1, left := (σ.1 i).left - 1 } j).sent) + nth σ.2 (4 + j)) (g := fun j => 2 * (((σ.1 j).sends.length : Int) - (σ.1 j).sent) + nth σ.2 (4 + j)) (i := i) (n := n) hi (fun j hj hne => by simp only; rw [upd_other _ _ hne])
    have a2 := sumF_at (f := fun j => 2 * (((upd σ.1 i { σ.1 i with ph := 1, sent := (σ.1 i).sent + 1, bal := (σ.1 i).bal + 1, left := (σ.1 i).left - 1 } j).sends.length : Int) - (upd σ.1 i { σ.1 i with ph := 1, sent := (σ.1 i).sent + 1, bal := (σ.1 i).bal + 1, left := (σ.1 i).left - 1 } j).sent) + nth (σ.2.set (4 + r) (nth σ.2 (4 + r) + 1)) (4 + j)) (g := fun j => 2 * (((upd σ.1 i { σ.1 i with ph := 1, sent := (σ.1 i).sent + 1, bal := (σ.1 i).bal + 1, left := (σ.1 i).left - 1 } j).sends.length : Int) - (upd σ.1 i { σ.1 i with ph := 1, sent := (σ.1 i).sent + 1, bal := (σ.1 i).bal + 1, left := (σ.1 i).left - 1 } j).sent) + nth σ.2 (4 + j)) (i := r) (n := n) (by omega) (fun j hj hne => by simp only; rw [nth_set _ _ _ _ hlen, if_neg (by omega)])
    rw [a2, a1]
    simp only [upd_same]
    rw [nth_set _ _ _ _ hlen, if_pos rfl]
    omega
  · refine .inr (quiet _ rfl (load (by simp only [Nd.acc, p])) ?_ ?_ ?_ (by omega) (by omega) ?_) <;> simp only [Nd.next, p] <;> simp
  · have hc : (σ.1 i).cell = 4 + i := by simp only [Nd.cell, p]; omega
    by_cases q : nth σ.2 (4 + i) = (σ.1 i).m
    · refine .inl ⟨?_, .inr p⟩
      rw [hc] at hlen
      have hl : ((σ.1 i).acc (nth σ.2 (σ.1 i).cell)).left = nth σ.2 (4 + i) - 1 := by rw [hc]; simp only [Nd.acc, p]; rw [if_pos q, q]
      rw [e, hl, hc]
      have e1 : (σ.1 i).next (nth σ.2 (4 + i)) = { σ.1 i with ph := 1, bal := (σ.1 i).bal - 1, black := true, active := true, left := min ((σ.1 i).left + (σ.1 i).burst) (σ.1 i).sends.length } := by simp only [Nd.next, p, if_pos q]
      rw [e1]
      unfold Ev
      simp only
      rw [sumF_at (g := fun j => 2 * (((σ.1 j).sends.length : Int) - (σ.1 j).sent) + nth σ.2 (4 + j)) (i := i) (n := n) hi (fun j hj hne => by (try simp only); rw [upd_other _ _ hne, nth_set _ _ _ _ hlen, if_neg (by omega)])]
      simp only [upd_same]
      rw [nth_set _ _ _ _ hlen, if_pos rfl]
      omega
    · refine .inr (quiet _ rfl (load (by rw [hc]; simp only [Nd.acc, p]; rw [if_neg q])) ?_ ?_ ?_ (by omega) (fun _ => q) ?_) <;> (rw [hc]; simp only [Nd.next, p]; rw [if_neg q]) <;> (try simp)
  all_goals (refine .inr (quiet _ rfl (low (by simp only [Nd.cell, p]; omega)) ?_ ?_ ?_ (by omega) (by omega) ?_) <;> (try simp only [Nd.next, p]) <;> (try simp))
section
variable {n K i u : Nat} {σ : Cir}
theorem Inv.not_quiet (h : Inv n K σ) (hu : u < n) (hU : Ur (σ.1 u) (nth σ.2 (4 + u))) (q : Quiet n σ.1 (nth σ.2)) : False := by
  obtain ⟨q1, q2⟩ := q u hu
  rcases hU with e | ⟨_, e, _⟩ | e
  · have := h.tx.a2 u hu e; rw [q1] at this; cases this
  · rw [q1] at e; cases e
  · omega
/-- A step of another node, and no event: the node will do what it would have done. -/
theorem ur_other (h : Inv n K σ) (hn : n ≤ 64) (hK : K ≤ 1099511627776) (hi : i < n) (hne : u ≠ i) (hU : Ur (σ.1 u) (nth σ.2 (4 + u))) :
    Ev n (stp σ i) < Ev n σ ∨ (Ev n (stp σ i) = Ev n σ ∧ Ur ((stp σ i).1 u) (nth (stp σ i).2 (4 + u)) ∧ rk ((stp σ i).1 u) (nth (stp σ i).2 (4 + u)) = rk (σ.1 u) (nth σ.2 (4 + u))) := by
  rcases stp_kinds h hn hK hi with e | ⟨e, hm, ho, _⟩
  · exact .inl (by omega)
  · rw [hm, ho u hne]; exact .inr ⟨e, hU, rfl⟩
/-- Its own step: an event, or one step nearer. -/
theorem ur_own (h : Inv n K σ) (hn : n ≤ 64) (hK : K ≤ 1099511627776) (hu : u < n) (hU : Ur (σ.1 u) (nth σ.2 (4 + u))) :
    Ev n (stp σ u) < Ev n σ ∨ (Ev n (stp σ u) = Ev n σ ∧ Ur ((stp σ u).1 u) (nth (stp σ u).2 (4 + u)) ∧ rk ((stp σ u).1 u) (nth (stp σ u).2 (4 + u)) < rk (σ.1 u) (nth σ.2 (4 + u))) := by
  rcases stp_kinds h hn hK hu with e | ⟨e, hm, _, _, hse, hsl, h2, h4, _⟩
  · exact .inl (by omega)
  have hnq := fun q => h.not_quiet hu hU q
  have hc0 : nth σ.2 0 = 0 := by
    rcases h.tx.c0 with q | q
    · exact q
    · exact (hnq (h.tx.dq (.inl q))).elim
  have h0 : (σ.1 u).ph ≠ 0 := fun q => by have := h.tx.p0 u hu q; omega
  have h11 : (σ.1 u).ph ≠ 11 := fun q => by
    have := h.tx.p11 u hu q
    exact hnq (h.tx.dq (.inr (by rw [← this]; exact q)))
  have hst : (stp σ u).1 u = (σ.1 u).next (nth σ.2 (σ.1 u).cell) := by
    unfold stp; rw [if_neg h0]; exact upd_same _ _ _
  have hw := h.sys.wf u hu
  have hp := hw.ph
  have hwho := hw.who
  refine .inr ⟨e, ?_⟩
  rw [hm, hst]
  have hI := h.step hn hK hu
  have pos : (σ.1 u).ph ≠ 1 → 0 < nth σ.2 (4 + u) := fun q => by
    rcases hU with r | ⟨r, _⟩ | r
    · exact absurd r h2
    · exact absurd r q
    · exact r
  have cases : (σ.1 u).ph = 1 ∨ (σ.1 u).ph = 3 ∨ (σ.1 u).ph = 4 ∨ (σ.1 u).ph = 5 ∨ (σ.1 u).ph = 6 ∨ (σ.1 u).ph = 7 ∨ (σ.1 u).ph = 8 ∨ (σ.1 u).ph = 9 ∨ (σ.1 u).ph = 10 := by omega
  rcases cases with p | p | p | p | p | p | p | p | p
  · have hc : (σ.1 u).cell = 0 := by simp only [Nd.cell, p]
    rw [hc, hc0]
    by_cases a : (σ.1 u).able
    · have e1 : (σ.1 u).next 0 = { σ.1 u with ph := 2 } := by
        have a' : (σ.1 u).active = true ∧ 0 < (σ.1 u).left ∧ (σ.1 u).sent < (σ.1 u).sends.length := a
        simp only [Nd.next, p]; rw [if_neg (by simp), if_pos a']
      rw [e1]
      refine ⟨.inl rfl, ?_⟩
      unfold rk
      rw [p]
      simp [a]
    · have e1 : (σ.1 u).next 0 = { σ.1 u with ph := 3, active := false } := by
        have a' : ¬ ((σ.1 u).active = true ∧ 0 < (σ.1 u).left ∧ (σ.1 u).sent < (σ.1 u).sends.length) := a
        simp only [Nd.next, p]; rw [if_neg (by simp), if_neg a']
      have hmail : 0 < nth σ.2 (4 + u) := by
        rcases hU with r | ⟨_, r⟩ | r
        · omega
        · exact absurd r a
        · exact r
      rw [e1]
      refine ⟨.inr (.inr hmail), ?_⟩
      unfold rk
      rw [p]
      simp [a]
  · have hmail := pos (by omega)
    have hc : (σ.1 u).cell = 4 + u := by simp only [Nd.cell, p]; omega
    have e1 : (σ.1 u).next (nth σ.2 (4 + u)) = { σ.1 u with ph := 4, m := nth σ.2 (4 + u) } := by
      simp only [Nd.next, p]; rw [if_neg (by omega)]
    rw [hc, e1]
    refine ⟨.inr (.inr hmail), ?_⟩
    unfold rk
    rw [p]
    simp
  · have hmail := pos (by omega)
    have hc : (σ.1 u).cell = 4 + u := by simp only [Nd.cell, p]; omega
    have hx := h4 p
    have e1 : (σ.1 u).next (nth σ.2 (4 + u)) = { σ.1 u with ph := 1 } := by
      simp only [Nd.next, p]; rw [if_neg hx]
    rw [hc, e1]
    refine ⟨.inr (.inr hmail), ?_⟩
    have hx2 : ¬ (σ.1 u).m = nth σ.2 (4 + u) := fun q => hx q.symm
    unfold rk
    rw [p]
    simp [hx2]
    split <;> omega
  · have hmail := pos (by omega)
    have hna : (σ.1 u).active = false := hw.p3 (by omega)
    refine ⟨.inr (.inr hmail), ?_⟩
    have e1 : (σ.1 u).next (nth σ.2 (σ.1 u).cell) = { σ.1 u with ph := if nth σ.2 (σ.1 u).cell = ((σ.1 u).who : Int) then 6 else 1 } := by simp only [Nd.next, p]
    rw [e1]
    have hna2 : ¬ ({ σ.1 u with ph := 1 } : Nd).able := fun q => by have := q.1; simp only at this; rw [hna] at this; cases this
    split
    · unfold rk; rw [p]; simp
    · unfold rk; rw [p]; simp; split <;> omega
  · have hmail := pos (by omega)
    refine ⟨.inr (.inr hmail), ?_⟩
    have e1 : (σ.1 u).next (nth σ.2 (σ.1 u).cell) = { σ.1 u with ph := 7, q := nth σ.2 (σ.1 u).cell } := by simp only [Nd.next, p]
    rw [e1]; unfold rk; rw [p]; simp
  · have hmail := pos (by omega)
    refine ⟨.inr (.inr hmail), ?_⟩
    have e1 : (σ.1 u).next (nth σ.2 (σ.1 u).cell) = { σ.1 u with ph := if (σ.1 u).done (nth σ.2 (σ.1 u).cell) = true then 11 else 8, k := nth σ.2 (σ.1 u).cell } := by simp only [Nd.next, p]
    rw [e1]; unfold rk; rw [p]
    split <;> simp
  · have hmail := pos (by omega)
    refine ⟨.inr (.inr hmail), ?_⟩
    have e1 : (σ.1 u).next (nth σ.2 (σ.1 u).cell) = { σ.1 u with ph := 9 } := by simp only [Nd.next, p]
    rw [e1]; unfold rk; rw [p]; simp
  · have hmail := pos (by omega)
    refine ⟨.inr (.inr hmail), ?_⟩
    have e1 : (σ.1 u).next (nth σ.2 (σ.1 u).cell) = { σ.1 u with ph := 10, black := false } := by simp only [Nd.next, p]
    rw [e1]; unfold rk; rw [p]; simp
  · have hmail := pos (by omega)
    have hna : (σ.1 u).active = false := hw.p3 (by omega)
    refine ⟨.inr (.inr hmail), ?_⟩
    have e1 : (σ.1 u).next (nth σ.2 (σ.1 u).cell) = { σ.1 u with ph := 1 } := by simp only [Nd.next, p]
    have hna2 : ¬ ({ σ.1 u with ph := 1 } : Nd).able := fun q => by have := q.1; simp only at this; rw [hna] at this; cases this
    rw [e1]; unfold rk; rw [p]; simp [hna2]
end
end Go.Proofs.Ytdjkidgkeekenaa

/- Nodes in turns: windows, the quiet part, the token's rounds, the end. -/
namespace Go.Proofs.Ytdjkidgkeekenaa
open Go.RowKit Go.Lib
set_option linter.unusedVariables false
set_option linter.unusedSimpArgs false
/-- Picks in turns, from a on. -/
def trn (n : Nat) (σ : Cir) (a : Nat) : Nat → Cir
  | 0 => σ
  | m + 1 => stp (trn n σ a m) ((a + m) % n)
theorem trn_add (n : Nat) (σ : Cir) (a m : Nat) : ∀ k, trn n σ a (m + k) = trn n (trn n σ a m) (a + m) k
  | 0 => rfl
  | k + 1 => by
    show stp (trn n σ a (m + k)) ((a + (m + k)) % n) = stp (trn n (trn n σ a m) (a + m) k) ((a + m + k) % n)
    rw [trn_add n σ a m k, Nat.add_assoc]
def BB : Nat := 1099511627776
theorem Inv.trn {n K : Nat} {σ : Cir} (h : Inv n K σ) (hn0 : 0 < n) (hn : n ≤ 64) (a : Nat) : ∀ m, K + m ≤ BB → Inv n (K + m) (trn n σ a m)
  | 0, _ => h
  | m + 1, hm => (h.trn hn0 hn a m (by omega)).step hn (by unfold BB at hm; omega) (Nat.mod_lt _ hn0)
section
variable {n u : Nat} {P : Nat → Cir → Prop} {G : Cir → Prop}
/-- Whoever is picked in turns comes on by one in each window. -/
structure Prg (n u : Nat) (P : Nat → Cir → Prop) (G : Cir → Prop) : Prop where
  n0 : 0 < n
  n64 : n ≤ 64
  un : u < n
  z : ∀ τ, ¬ P 0 τ
  mono : ∀ r τ, P r τ → P (r + 1) τ
  o : ∀ K τ i r, Inv n K τ → K ≤ BB → i < n → i ≠ u → P r τ → G (stp τ i) ∨ P r (stp τ i)
  s : ∀ K τ r, Inv n K τ → K ≤ BB → P (r + 1) τ → G (stp τ u) ∨ P r (stp τ u)
  g : ∀ K τ i, Inv n K τ → K ≤ BB → i < n → G τ → G (stp τ i)
theorem Prg.any (h : Prg n u P G) {K i r : Nat} {τ : Cir} (hI : Inv n K τ) (hK : K ≤ BB) (hi : i < n) (hq : G τ ∨ P r τ) : G (stp τ i) ∨ P r (stp τ i) := by
  rcases hq with hq | hq
  · exact .inl (h.g K τ i hI hK hi hq)
  · by_cases e : i = u
    · subst e
      match r, hq with
      | 0, hq => exact absurd hq (h.z τ)
      | r + 1, hq =>
        rcases h.s K τ r hI hK hq with q | q
        · exact .inl q
        · exact .inr (h.mono r _ q)
    · exact h.o K τ i r hI hK hi e hq
theorem Prg.keep (h : Prg n u P G) {K r : Nat} {σ : Cir} (hI : Inv n K σ) (a : Nat) (hq : G σ ∨ P r σ) : ∀ m, K + m ≤ BB → G (trn n σ a m) ∨ P r (trn n σ a m)
  | 0, _ => hq
  | m + 1, hm => h.any (hI.trn h.n0 h.n64 a m (by omega)) (by omega) (Nat.mod_lt _ h.n0) (h.keep hI a hq m (by omega))
theorem Prg.win (h : Prg n u P G) {K r : Nat} {σ : Cir} (hI : Inv n K σ) (a : Nat) (hK : K + n ≤ BB) (hq : G σ ∨ P (r + 1) σ) : G (trn n σ a n) ∨ P r (trn n σ a n) := by
  have hn0 := h.n0
  have hun := h.un
  obtain ⟨j, hj, hju⟩ : ∃ j, j < n ∧ (a + j) % n = u := by
    have ha := Nat.mod_lt a hn0
    by_cases e : a % n ≤ u
    · refine ⟨u - a % n, by omega, ?_⟩
      have e2 : a + (u - a % n) = u + n * (a / n) := by have := Nat.div_add_mod a n; omega
      rw [e2, Nat.add_mul_mod_self_left, Nat.mod_eq_of_lt hun]
    · refine ⟨u + n - a % n, by omega, ?_⟩
      have e2 : a + (u + n - a % n) = u + n * (a / n + 1) := by have := Nat.div_add_mod a n; rw [Nat.mul_add]; omega
      rw [e2, Nat.add_mul_mod_self_left, Nat.mod_eq_of_lt hun]
  have h1 := h.keep hI a hq j (by omega)
  have hIj := hI.trn hn0 h.n64 a j (by omega)
  have h2 : G (trn n σ a (j + 1)) ∨ P r (trn n σ a (j + 1)) := by
    show G (stp (trn n σ a j) ((a + j) % n)) ∨ P r (stp (trn n σ a j) ((a + j) % n))
    rw [hju]
    rcases h1 with q | q
    · exact .inl (h.g _ _ u hIj (by omega) hun q)
    · exact h.s _ _ r hIj (by omega) q
  have h3 := h.keep (hI.trn hn0 h.n64 a (j + 1) (by omega)) (a + (j + 1)) h2 (n - (j + 1)) (by omega)
  rw [← trn_add, show j + 1 + (n - (j + 1)) = n by omega] at h3
  exact h3
theorem Prg.run (h : Prg n u P G) : ∀ (r : Nat) {K : Nat} {σ : Cir} (a : Nat), Inv n K σ → K + r * n ≤ BB → (G σ ∨ P r σ) → G (trn n σ a (r * n))
  | 0, K, σ, a, hI, hK, hq => by
    rw [Nat.zero_mul]
    rcases hq with q | q
    · exact q
    · exact absurd q (h.z σ)
  | r + 1, K, σ, a, hI, hK, hq => by
    rw [Nat.add_mul, Nat.one_mul] at hK
    rw [show (r + 1) * n = n + r * n by rw [Nat.add_mul, Nat.one_mul, Nat.add_comm], trn_add]
    exact h.run r (a + n) (hI.trn h.n0 h.n64 a n (by omega)) (by omega) (h.win hI a (by omega) hq)
end
section
variable {n K : Nat} {σ : Cir}
theorem Ev_step {i : Nat} (h : Inv n K σ) (hn : n ≤ 64) (hK : K ≤ BB) (hi : i < n) : Ev n (stp σ i) ≤ Ev n σ := by
  rcases stp_kinds h hn hK hi with ⟨e, _⟩ | ⟨e, _⟩ <;> omega
theorem Ev_pos (h : Inv n K σ) : 0 ≤ Ev n σ := (sumF_pos (f := fun j => 2 * (((σ.1 j).sends.length : Int) - (σ.1 j).sent) + nth σ.2 (4 + j)) (n := n) (fun j hj => by
  have h1 := (h.sys.wf j hj).se
  have h2 := (h.sys.wd (4 + j) (by omega)).1
  omega)).1
theorem Ev_trn (h : Inv n K σ) (hn0 : 0 < n) (hn : n ≤ 64) (a : Nat) : ∀ m, K + m ≤ BB → Ev n (trn n σ a m) ≤ Ev n σ
  | 0, _ => Int.le_refl _
  | m + 1, hm => Int.le_trans (Ev_step (h.trn hn0 hn a m (by omega)) hn (by omega) (Nat.mod_lt _ hn0)) (Ev_trn h hn0 hn a m (by omega))
theorem rk_pos (d : Nd) (m : Int) (hp : d.ph ≤ 11) : 1 ≤ rk d m := by
  unfold rk; repeat' split
  all_goals omega
theorem rk_le (d : Nd) (m : Int) (h0 : d.ph ≠ 0) : rk d m ≤ 9 := by
  unfold rk; repeat' split
  all_goals omega
theorem urg {u : Nat} (h : Inv n K σ) (hn0 : 0 < n) (hn : n ≤ 64) (hu : u < n) (hU : Ur (σ.1 u) (nth σ.2 (4 + u))) (a : Nat) (hK : K + 9 * n ≤ BB) : Ev n (trn n σ a (9 * n)) < Ev n σ := by
  have h0 : (σ.1 u).ph ≠ 0 := fun q => h.not_quiet hu hU (h.tx.dq (.inl (h.tx.p0 u hu q)))
  have P : Prg n u (fun r τ => Ev n τ = Ev n σ ∧ Ur (τ.1 u) (nth τ.2 (4 + u)) ∧ rk (τ.1 u) (nth τ.2 (4 + u)) ≤ r ∧ (τ.1 u).ph ≤ 11) (fun τ => Ev n τ < Ev n σ) := by
    refine ⟨hn0, hn, hu, fun τ q => ?_, fun r τ q => ⟨q.1, q.2.1, by omega, q.2.2.2⟩, fun K τ i r hI hK hi hne q => ?_, fun K τ r hI hK q => ?_, fun K τ i hI hK hi q => ?_⟩
    · have := rk_pos _ (nth τ.2 (4 + u)) q.2.2.2
      have := q.2.2.1
      omega
    · rcases ur_other hI hn hK hi (Ne.symm hne) q.2.1 with e | ⟨e1, e2, e3⟩
      · left; omega
      · right; exact ⟨by omega, e2, by omega, ((hI.step hn hK hi).sys.wf u hu).ph⟩
    · rcases ur_own hI hn hK hu q.2.1 with e | ⟨e1, e2, e3⟩
      · left; omega
      · right; exact ⟨by omega, e2, by omega, ((hI.step hn hK hu).sys.wf u hu).ph⟩
    · have := Ev_step hI hn hK hi; omega
  exact P.run 9 a h hK (.inr ⟨rfl, hU, rk_le _ _ h0, (h.sys.wf u hu).ph⟩)
def NQ (n : Nat) (σ : Cir) : Prop := ∀ j, j < n → ¬ Ur (σ.1 j) (nth σ.2 (4 + j))
/-- It calms down. -/
theorem calm (hn0 : 0 < n) (hn : n ≤ 64) : ∀ (e : Nat) {K : Nat} {σ : Cir} (a : Nat), Inv n K σ → Ev n σ ≤ e → K + 9 * n * (e + 1) ≤ BB → ∃ m, m ≤ 9 * n * e ∧ NQ n (trn n σ a m)
  | e, K, σ, a, h, he, hK => by
    by_cases q : NQ n σ
    · exact ⟨0, Nat.zero_le _, q⟩
    · obtain ⟨u, hu, hU⟩ : ∃ u, u < n ∧ Ur (σ.1 u) (nth σ.2 (4 + u)) := by
        apply Classical.byContradiction
        intro r
        exact q fun j hj hj2 => r ⟨j, hj, hj2⟩
      have e1 : 9 * n * (e + 1) = 9 * n * e + 9 * n := by rw [Nat.mul_add, Nat.mul_one]
      have h1 := urg h hn0 hn hu hU a (by omega)
      have hI := h.trn hn0 hn a (9 * n) (by omega)
      match e, he, hK, e1 with
      | 0, he, hK, e1 =>
        have := Ev_pos hI
        omega
      | e + 1, he, hK, e1 =>
        have e2 : 9 * n * (e + 1) = 9 * n * e + 9 * n := by rw [Nat.mul_add, Nat.mul_one]
        obtain ⟨m, hm, hq⟩ := calm hn0 hn e (a + 9 * n) hI (by omega) (by omega)
        exact ⟨9 * n + m, by omega, by rw [trn_add]; exact hq⟩
end
end Go.Proofs.Ytdjkidgkeekenaa

/- The quiet part: the token goes round at most three times; then all come to their end. -/
namespace Go.Proofs.Ytdjkidgkeekenaa
open Go.RowKit Go.Lib
set_option linter.unusedVariables false
set_option linter.unusedSimpArgs false
theorem sumF_zero0 {f : Nat → Int} : ∀ {n : Nat}, (∀ j, j < n → f j = 0) → sumF f n = 0
  | 0, _ => rfl
  | n + 1, h => by unfold sumF; rw [sumF_zero0 (fun j hj => h j (by omega)), h n (by omega)]; rfl
section
variable {n K : Nat} {σ : Cir}
theorem NQ.mail (h : Inv n K σ) (q : NQ n σ) {j : Nat} (hj : j < n) : nth σ.2 (4 + j) = 0 := by
  have h1 := (h.sys.wd (4 + j) (by omega)).1
  have h2 : ¬ 0 < nth σ.2 (4 + j) := fun r => q j hj (.inr (.inr r))
  omega
theorem NQ.p2 (q : NQ n σ) {j : Nat} (hj : j < n) : (σ.1 j).ph ≠ 2 := fun r => q j hj (.inl r)
theorem NQ.able (q : NQ n σ) {j : Nat} (hj : j < n) (p : (σ.1 j).ph = 1) : ¬ (σ.1 j).able := fun r => q j hj (.inr (.inl ⟨p, r⟩))
theorem NQ.p4 (h : Inv n K σ) (q : NQ n σ) {j : Nat} (hj : j < n) : (σ.1 j).ph ≠ 4 := fun r => by
  have h1 := h.tx.m4 j hj r
  have h2 := (h.sys.wf j hj).p4 r
  rw [q.mail h hj] at h1
  omega
theorem NQ.total (h : Inv n K σ) (q : NQ n σ) : bS σ.1 n = 0 := by
  have h1 : bS σ.1 n = sumF (fun j => nth σ.2 (4 + j)) n := h.sys.sum
  rw [h1]
  exact sumF_zero0 fun j hj => q.mail h hj
/-- A quiet step. -/
structure QS (n : Nat) (σ : Cir) (i : Nat) : Prop where
  mail : ∀ j, nth (stp σ i).2 (4 + j) = nth σ.2 (4 + j)
  oth : ∀ j, j ≠ i → (stp σ i).1 j = σ.1 j
  bal : ((stp σ i).1 i).bal = (σ.1 i).bal
  black : ((stp σ i).1 i).black = true → (σ.1 i).black = true
theorem NQ.qs (h : Inv n K σ) (hn : n ≤ 64) (hK : K ≤ BB) (q : NQ n σ) {i : Nat} (hi : i < n) : QS n σ i := by
  rcases stp_kinds h hn hK hi with ⟨_, e⟩ | ⟨_, h1, h2, h3, _, _, _, _, h4⟩
  · rcases e with e | e
    · exact absurd e (q.p2 hi)
    · exact absurd e (q.p4 h hi)
  · exact ⟨h1, h2, h3, h4⟩
theorem stp_own {i : Nat} (h0 : (σ.1 i).ph ≠ 0) : (stp σ i).1 i = (σ.1 i).next (nth σ.2 (σ.1 i).cell) := by
  unfold stp; rw [if_neg h0]; exact upd_same _ _ _
theorem stp_cells {i : Nat} (h0 : (σ.1 i).ph ≠ 0) (hl : (σ.1 i).cell < σ.2.length) : nth (stp σ i).2 = upd (nth σ.2) (σ.1 i).cell ((σ.1 i).acc (nth σ.2 (σ.1 i).cell)).left := by
  unfold stp; rw [if_neg h0]; exact nth_upd _ _ _ hl
theorem stp_load {i : Nat} (h0 : (σ.1 i).ph ≠ 0) (hl : (σ.1 i).cell < σ.2.length) (ha : ((σ.1 i).acc (nth σ.2 (σ.1 i).cell)).left = nth σ.2 (σ.1 i).cell) : nth (stp σ i).2 = nth σ.2 := by
  rw [stp_cells h0 hl, ha, upd_self]
/-- What a node's own step leaves of it, where it neither sends nor takes. -/
theorem own_ph (h : Inv n K σ) {i : Nat} (hi : i < n) (h2 : (σ.1 i).ph ≠ 2) (h4 : (σ.1 i).ph ≠ 4) (hna : (σ.1 i).ph = 1 → ¬ (σ.1 i).able) : ((stp σ i).1 i).ph ≠ 2 ∧ (((stp σ i).1 i).ph = 1 → ¬ ((stp σ i).1 i).able) := by
  have hw := h.sys.wf i hi
  have hp := hw.ph
  by_cases h0 : (σ.1 i).ph = 0
  · have e : stp σ i = σ := if_pos h0
    rw [e]; exact ⟨h2, hna⟩
  rw [stp_own h0]
  generalize nth σ.2 (σ.1 i).cell = x
  have cases : (σ.1 i).ph = 1 ∨ (σ.1 i).ph = 3 ∨ (σ.1 i).ph = 5 ∨ (σ.1 i).ph = 6 ∨ (σ.1 i).ph = 7 ∨ (σ.1 i).ph = 8 ∨ (σ.1 i).ph = 9 ∨ (σ.1 i).ph = 10 ∨ (σ.1 i).ph = 11 := by omega
  have na : 3 ≤ (σ.1 i).ph → (σ.1 i).active = false := hw.p3
  have nab : 3 ≤ (σ.1 i).ph → ¬ ({ σ.1 i with ph := 1 } : Nd).able := fun q r => by have := r.1; simp only at this; rw [na q] at this; cases this
  rcases cases with p | p | p | p | p | p | p | p | p
  · have hb := hna p
    have hb' : ¬ ((σ.1 i).active = true ∧ 0 < (σ.1 i).left ∧ (σ.1 i).sent < (σ.1 i).sends.length) := hb
    simp only [Nd.next, p]
    rw [if_neg hb']
    split <;> simp
  · simp only [Nd.next, p]; split <;> simp
  · simp only [Nd.next, p]
    split
    · simp
    · exact ⟨by simp, fun _ => nab (by omega)⟩
  · simp only [Nd.next, p]; simp
  · simp only [Nd.next, p]; split <;> simp
  · simp only [Nd.next, p]; simp
  · simp only [Nd.next, p]; simp
  · simp only [Nd.next, p]; exact ⟨by simp, fun _ => nab (by omega)⟩
  · simp only [Nd.next, p]; simp
theorem NQ.step (h : Inv n K σ) (hn : n ≤ 64) (hK : K ≤ BB) (q : NQ n σ) {i : Nat} (hi : i < n) : NQ n (stp σ i) := by
  have hq := q.qs h hn hK hi
  intro j hj
  rw [hq.mail]
  by_cases e : j = i
  · subst e
    have h1 := own_ph h hj (q.p2 hj) (q.p4 h hj) (q.able hj)
    have h2 := q.mail h hj
    rintro (r | ⟨r1, r2⟩ | r)
    · exact h1.1 r
    · exact h1.2 r1 r2
    · omega
  · rw [hq.oth j e]; exact q j hj
/-- The node 0 has found, or told, that all are at rest. -/
def Dn (σ : Cir) : Prop := nth σ.2 0 = 1 ∨ (σ.1 0).ph = 11
theorem Dn.step (h : Inv n K σ) (hn : n ≤ 64) (hK : K ≤ BB) (hn0 : 0 < n) {i : Nat} (hi : i < n) (q : Dn σ) : Dn (stp σ i) ∧ (nth σ.2 0 = 1 → nth (stp σ i).2 0 = 1) := by
  by_cases h0 : (σ.1 i).ph = 0
  · have e : stp σ i = σ := if_pos h0
    rw [e]; exact ⟨q, id⟩
  have hw := h.sys.wf i hi
  have hp := hw.ph
  have hl : (σ.1 i).cell < σ.2.length := by rw [h.sys.len]; exact hw.cell
  have hc := stp_cells h0 hl
  have low : nth σ.2 0 = 1 → nth (stp σ i).2 0 = 1 := by
    intro r
    rw [hc]
    unfold upd
    split
    · rename_i e
      have cases : (σ.1 i).ph = 1 ∨ (σ.1 i).ph = 11 := by
        have c11 : (σ.1 i).ph = 1 ∨ (σ.1 i).ph = 2 ∨ (σ.1 i).ph = 3 ∨ (σ.1 i).ph = 4 ∨ (σ.1 i).ph = 5 ∨ (σ.1 i).ph = 6 ∨ (σ.1 i).ph = 7 ∨ (σ.1 i).ph = 8 ∨ (σ.1 i).ph = 9 ∨ (σ.1 i).ph = 10 ∨ (σ.1 i).ph = 11 := by omega
        rcases c11 with p | p | p | p | p | p | p | p | p | p | p <;> first | exact .inl p | exact .inr p | (simp only [Nd.cell, p] at e; omega) | (simp only [Nd.cell, p] at e; unfold Nd.tgt at e; omega)
      rcases cases with p | p
      · have h5 : (σ.1 i).cell = 0 := by simp only [Nd.cell, p]
        rw [h5]; simp only [Nd.acc, p]; exact r
      · simp only [Nd.acc, p]
    · exact r
  refine ⟨?_, low⟩
  rcases q with q | q
  · exact .inl (low q)
  · by_cases e : i = 0
    · subst e
      left
      have h5 : (σ.1 0).cell = 0 := by simp only [Nd.cell, q]
      rw [hc, h5]
      rw [upd_same]
      simp only [Nd.acc, q]
    · right
      have : (stp σ i).1 0 = σ.1 0 := by unfold stp; rw [if_neg h0]; exact upd_other _ _ (fun r => e r.symm)
      rw [this]; exact q
/-- How many own steps the token's node is from handing it on. -/
def vr (p : Nat) : Nat := if p = 1 then 8 else if p = 3 then 7 else if 5 ≤ p ∧ p ≤ 10 then 11 - p else 0
/-- The last round: all are white, the token too. -/
structure Lf (n : Nat) (σ : Cir) (t : Nat) : Prop where
  wh : ∀ j, j < n → (σ.1 j).black = false
  ct : ∃ Q, nth σ.2 2 = wr Q ∧ (((σ.1 t).ph ≠ 9 ∧ (σ.1 t).ph ≠ 10 ∧ nth σ.2 3 = 0 ∧ Q + bS σ.1 (t + 1) = 0 ∧ ((σ.1 t).ph = 7 → (σ.1 t).q = nth σ.2 2) ∧ ((σ.1 t).ph = 8 → (σ.1 t).q = nth σ.2 2 ∧ (σ.1 t).k = nth σ.2 3 ∧ 0 < t)) ∨
    (((σ.1 t).ph = 9 ∨ (σ.1 t).ph = 10) ∧ 0 < t ∧ Q + bS σ.1 t = 0 ∧ ((σ.1 t).ph = 9 → (σ.1 t).put9 = 0) ∧ ((σ.1 t).ph = 10 → nth σ.2 3 = 0)))
/-- The round ahead of it: the nodes behind the token are white. -/
structure Lm (n : Nat) (σ : Cir) (t : Nat) : Prop where
  wh : ∀ j, t < j → j < n → (σ.1 j).black = false
  b10 : (σ.1 t).ph = 10 → (σ.1 t).black = false ∧ (t = 0 → nth σ.2 3 = 0)
def Lv (n l : Nat) (σ : Cir) (t : Nat) : Prop := t < n ∧ nth σ.2 1 = (t : Int) ∧ l ≤ 2 ∧ (l = 0 → Lf n σ t) ∧ (l = 1 → Lm n σ t)
theorem Lv.ph (h : Inv n K σ) {l t : Nat} (hl : Lv n l σ t) {j : Nat} (hj : j < n) (hne : j ≠ t) : (σ.1 j).ph ≤ 5 := by
  obtain ⟨t', _, h1, h2, _⟩ := h.tx.tok
  have := hl.2.1
  exact h2 j hj (by omega)
theorem bS_same {ds ds' : Nat → Nd} (h : ∀ j, (ds' j).bal = (ds j).bal) (p : Nat) : bS ds' p = bS ds p := sumF_congr fun j _ => h j
/-- A step where the token is not. -/
theorem hop_other (h : Inv n K σ) (hn : n ≤ 64) (hK : K ≤ BB) (q : NQ n σ) {l t i : Nat} (hl : Lv n l σ t) (hi : i < n) (hne : i ≠ t) : Lv n l (stp σ i) t ∧ (stp σ i).1 t = σ.1 t := by
  have hq := q.qs h hn hK hi
  have ht : (stp σ i).1 t = σ.1 t := hq.oth t (Ne.symm hne)
  have h5 := hl.ph h hi hne
  have hc : nth (stp σ i).2 = nth σ.2 := by
    by_cases h0 : (σ.1 i).ph = 0
    · have e : stp σ i = σ := if_pos h0
      rw [e]
    · have hlt : (σ.1 i).cell < σ.2.length := by rw [h.sys.len]; exact (h.sys.wf i hi).cell
      refine stp_load h0 hlt ?_
      have h2 := q.p2 hi
      have h4 := q.p4 h hi
      have cases : (σ.1 i).ph = 1 ∨ (σ.1 i).ph = 3 ∨ (σ.1 i).ph = 5 := by omega
      rcases cases with p | p | p <;> simp only [Nd.acc, p]
  have hbal : ∀ j, ((stp σ i).1 j).bal = (σ.1 j).bal := fun j => by
    by_cases e : j = i
    · subst e; exact hq.bal
    · rw [hq.oth j e]
  have hbl : ∀ j, (σ.1 j).black = false → ((stp σ i).1 j).black = false := fun j r => by
    by_cases e : j = i
    · subst e
      cases hb : ((stp σ j).1 j).black with
      | false => rfl
      | true => rw [hq.black hb] at r; cases r
    · rw [hq.oth j e]; exact r
  refine ⟨⟨hl.1, by rw [hc]; exact hl.2.1, hl.2.2.1, fun e => ?_, fun e => ?_⟩, ht⟩
  · have hf := hl.2.2.2.1 e
    refine ⟨fun j hj => hbl j (hf.wh j hj), ?_⟩
    rw [hc, ht]
    obtain ⟨Q, h1, h2⟩ := hf.ct
    refine ⟨Q, h1, ?_⟩
    rw [bS_same hbal, bS_same hbal]
    exact h2
  · have hm := hl.2.2.2.2 e
    refine ⟨fun j h1 h2 => hbl j (hm.wh j h1 h2), ?_⟩
    rw [ht, hc]; exact hm.b10
/-- Its own step, ahead of the handing on. -/
theorem hop_own (h : Inv n K σ) (hn : n ≤ 64) (hK : K ≤ BB) (q : NQ n σ) {l t : Nat} (hl : Lv n l σ t) (hd : ¬ Dn σ) :
    Dn (stp σ t) ∨ (Lv n l (stp σ t) t ∧ vr ((stp σ t).1 t).ph < vr (σ.1 t).ph) ∨ ∃ l' t', l' * n + t' < l * n + t ∧ Lv n l' (stp σ t) t' := by
  have ht := hl.1
  have hq := q.qs h hn hK ht
  have hw := h.sys.wf t ht
  have hp := hw.ph
  have hwho := hw.who
  have hnn := hw.nn
  have hc0 : nth σ.2 0 = 0 := by
    rcases h.tx.c0 with r | r
    · exact r
    · exact absurd (.inl r) hd
  have h0 : (σ.1 t).ph ≠ 0 := fun r => hd (.inl (h.tx.p0 t ht r))
  have h11 : (σ.1 t).ph ≠ 11 := fun r => by
    have := h.tx.p11 t ht r
    exact hd (.inr (by rw [← this]; exact r))
  have hlt : (σ.1 t).cell < σ.2.length := by rw [h.sys.len]; exact hw.cell
  have hst := stp_own (σ := σ) h0
  have hcs := stp_cells h0 hlt
  have hoth := hq.oth
  have hbal : ∀ j, ((stp σ t).1 j).bal = (σ.1 j).bal := fun j => by
    by_cases e : j = t
    · subst e; exact hq.bal
    · rw [hoth j e]
  have hbl : ∀ j, (σ.1 j).black = false → ((stp σ t).1 j).black = false := fun j r => by
    by_cases e : j = t
    · subst e
      cases hb : ((stp σ j).1 j).black with
      | false => rfl
      | true => rw [hq.black hb] at r; cases r
    · rw [hoth j e]; exact r
  have hb1 := bS_same hbal
  have h2 := q.p2 ht
  have h4 := q.p4 h ht
  -- where the cells stay, and the node comes to a phase that is neither 7 to 10
  have stay : nth (stp σ t).2 = nth σ.2 → (σ.1 t).ph ≤ 5 → ((stp σ t).1 t).ph ≤ 6 → vr ((stp σ t).1 t).ph < vr (σ.1 t).ph → (Lv n l (stp σ t) t ∧ vr ((stp σ t).1 t).ph < vr (σ.1 t).ph) := by
    intro hc h5 h6 hv
    refine ⟨⟨ht, by rw [hc]; exact hl.2.1, hl.2.2.1, fun e => ?_, fun e => ?_⟩, hv⟩
    · have hf := hl.2.2.2.1 e
      refine ⟨fun j hj => hbl j (hf.wh j hj), ?_⟩
      rw [hc]
      obtain ⟨Q, h1, h3⟩ := hf.ct
      refine ⟨Q, h1, .inl ?_⟩
      rw [hb1]
      rcases h3 with ⟨_, _, a, b, _⟩ | ⟨a, _⟩
      · exact ⟨by omega, by omega, a, b, fun r => by omega, fun r => by omega⟩
      · omega
    · have hm := hl.2.2.2.2 e
      exact ⟨fun j h1 h3 => hbl j (hm.wh j h1 h3), fun r => by omega⟩
  have cases : (σ.1 t).ph = 1 ∨ (σ.1 t).ph = 3 ∨ (σ.1 t).ph = 5 ∨ (σ.1 t).ph = 6 ∨ (σ.1 t).ph = 7 ∨ (σ.1 t).ph = 8 ∨ (σ.1 t).ph = 9 ∨ (σ.1 t).ph = 10 := by omega
  rcases cases with p | p | p | p | p | p | p | p
  · have hb := q.able ht p
    have hb' : ¬ ((σ.1 t).active = true ∧ 0 < (σ.1 t).left ∧ (σ.1 t).sent < (σ.1 t).sends.length) := hb
    have hcl : (σ.1 t).cell = 0 := by simp only [Nd.cell, p]
    have e1 : ((stp σ t).1 t).ph = 3 := by
      rw [hst, hcl, hc0]; simp only [Nd.next, p]; rw [if_neg (by simp), if_neg hb']
    exact .inr (.inl (stay (stp_load h0 hlt (by simp only [Nd.acc, p])) (by omega) (by omega) (by rw [e1, p]; decide)))
  · have hcl : (σ.1 t).cell = 4 + t := by simp only [Nd.cell, p]; omega
    have e1 : ((stp σ t).1 t).ph = 5 := by
      rw [hst, hcl, q.mail h ht]; simp only [Nd.next, p]; simp
    exact .inr (.inl (stay (stp_load h0 hlt (by simp only [Nd.acc, p])) (by omega) (by omega) (by rw [e1, p]; decide)))
  · have hcl : (σ.1 t).cell = 1 := by simp only [Nd.cell, p]
    have e1 : ((stp σ t).1 t).ph = 6 := by
      rw [hst, hcl, hl.2.1]; simp only [Nd.next, p]; rw [if_pos (by omega)]
    exact .inr (.inl (stay (stp_load h0 hlt (by simp only [Nd.acc, p])) (by omega) (by omega) (by rw [e1, p]; decide)))
  · have hcl : (σ.1 t).cell = 2 := by simp only [Nd.cell, p]
    have e0 : (stp σ t).1 t = { σ.1 t with ph := 7, q := nth σ.2 2 } := by rw [hst, hcl]; simp only [Nd.next, p]
    have hc : nth (stp σ t).2 = nth σ.2 := stp_load h0 hlt (by simp only [Nd.acc, p])
    refine .inr (.inl ⟨⟨ht, by rw [hc]; exact hl.2.1, hl.2.2.1, fun e => ?_, fun e => ?_⟩, by rw [e0, p]; show vr 7 < vr 6; decide⟩)
    · have hf := hl.2.2.2.1 e
      refine ⟨fun j hj => hbl j (hf.wh j hj), ?_⟩
      rw [hc, hb1, e0]
      obtain ⟨Q, h1, h3⟩ := hf.ct
      refine ⟨Q, h1, .inl ?_⟩
      rcases h3 with ⟨_, _, a, b, _⟩ | ⟨a, _⟩
      · exact ⟨by simp, by simp, a, b, fun _ => rfl, fun r => by cases r⟩
      · omega
    · exact ⟨fun j h1 h3 => hbl j ((hl.2.2.2.2 e).wh j h1 h3), fun r => by rw [e0] at r; cases r⟩
  · have hcl : (σ.1 t).cell = 3 := by simp only [Nd.cell, p]
    have e0 : (stp σ t).1 t = { σ.1 t with ph := if (σ.1 t).done (nth σ.2 3) = true then 11 else 8, k := nth σ.2 3 } := by rw [hst, hcl]; simp only [Nd.next, p]
    have hc : nth (stp σ t).2 = nth σ.2 := stp_load h0 hlt (by simp only [Nd.acc, p])
    by_cases ed : (σ.1 t).done (nth σ.2 3) = true
    · have hi := h.step hn hK ht
      have e1 : ((stp σ t).1 t).ph = 11 := by rw [e0, if_pos ed]
      have := hi.tx.p11 t ht e1
      exact .inl (.inr (by rw [← this]; exact e1))
    · rw [if_neg ed] at e0
      refine .inr (.inl ⟨⟨ht, by rw [hc]; exact hl.2.1, hl.2.2.1, fun e => ?_, fun e => ?_⟩, by rw [e0, p]; show vr 8 < vr 7; decide⟩)
      · have hf := hl.2.2.2.1 e
        refine ⟨fun j hj => hbl j (hf.wh j hj), ?_⟩
        rw [hc, hb1, e0]
        obtain ⟨Q, h1, h3⟩ := hf.ct
        refine ⟨Q, h1, .inl ?_⟩
        rcases h3 with ⟨_, _, a, b, c7, _⟩ | ⟨a, _⟩
        · refine ⟨by simp, by simp, a, b, (fun r => by cases r), fun _ => ⟨c7 p, rfl, ?_⟩⟩
          rcases Nat.eq_zero_or_pos t with e5 | e5
          · exfalso
            apply ed
            subst e5
            simp only [Nd.done, decide_eq_true_eq]
            have hbb : bS σ.1 (0 + 1) = (σ.1 0).bal := by simp [bS, sumF]
            refine ⟨by omega, a, hf.wh 0 ht, ?_⟩
            rw [c7 p, h1, wr_add, Int.add_comm Q, wr_add, Int.add_comm, ← hbb, b]
            rfl
          · exact e5
        · omega
      · exact ⟨fun j h1 h3 => hbl j ((hl.2.2.2.2 e).wh j h1 h3), fun r => by rw [e0] at r; cases r⟩
  · have hcl : (σ.1 t).cell = 2 := by simp only [Nd.cell, p]
    have e0 : (stp σ t).1 t = { σ.1 t with ph := 9 } := by rw [hst, hcl]; simp only [Nd.next, p]
    have hc : nth (stp σ t).2 = upd (nth σ.2) 2 (σ.1 t).put8 := by rw [hcs, hcl]; simp only [Nd.acc, p]
    refine .inr (.inl ⟨⟨ht, by rw [hc, upd_other _ _ (by omega)]; exact hl.2.1, hl.2.2.1, fun e => ?_, fun e => ?_⟩, by rw [e0, p]; show vr 9 < vr 8; decide⟩)
    · have hf := hl.2.2.2.1 e
      refine ⟨fun j hj => hbl j (hf.wh j hj), ?_⟩
      obtain ⟨Q, h1, h3⟩ := hf.ct
      rcases h3 with ⟨_, _, a, b, _, c8⟩ | ⟨a, _⟩
      · obtain ⟨d1, d2, d3⟩ := c8 p
        refine ⟨Q + (σ.1 t).bal, ?_, .inr ⟨by rw [e0]; exact .inl rfl, d3, ?_, fun _ => ?_, fun r => by rw [e0] at r; cases r⟩⟩
        · rw [hc, upd_same]
          unfold Nd.put8
          rw [if_neg (by omega), d1, h1, wr_add, Int.add_comm Q, wr_add, Int.add_comm]
        · rw [hb1]
          have : bS σ.1 (t + 1) = bS σ.1 t + (σ.1 t).bal := rfl
          omega
        · rw [e0]
          unfold Nd.put9
          simp only
          rw [if_neg]
          rintro ⟨_, r | r⟩
          · rw [d2, a] at r; exact r rfl
          · rw [hf.wh t ht] at r; cases r
      · omega
    · exact ⟨fun j h1 h3 => hbl j ((hl.2.2.2.2 e).wh j h1 h3), fun r => by rw [e0] at r; cases r⟩
  · have hcl : (σ.1 t).cell = 3 := by simp only [Nd.cell, p]
    have e0 : (stp σ t).1 t = { σ.1 t with ph := 10, black := false } := by rw [hst, hcl]; simp only [Nd.next, p]
    have hc : nth (stp σ t).2 = upd (nth σ.2) 3 (σ.1 t).put9 := by rw [hcs, hcl]; simp only [Nd.acc, p]
    refine .inr (.inl ⟨⟨ht, by rw [hc, upd_other _ _ (by omega)]; exact hl.2.1, hl.2.2.1, fun e => ?_, fun e => ?_⟩, by rw [e0, p]; show vr 10 < vr 9; decide⟩)
    · have hf := hl.2.2.2.1 e
      refine ⟨fun j hj => hbl j (hf.wh j hj), ?_⟩
      obtain ⟨Q, h1, h3⟩ := hf.ct
      rcases h3 with ⟨a, _⟩ | ⟨_, a, b, c9, _⟩
      · omega
      · refine ⟨Q, by rw [hc, upd_other _ _ (by omega)]; exact h1, .inr ⟨by rw [e0]; exact .inr rfl, a, by rw [hb1]; exact b, (fun r => by rw [e0] at r; cases r), fun _ => by rw [hc, upd_same]; exact c9 p⟩⟩
    · refine ⟨fun j h1 h3 => hbl j ((hl.2.2.2.2 e).wh j h1 h3), fun _ => ⟨by rw [e0], fun r => ?_⟩⟩
      rw [hc, upd_same]
      unfold Nd.put9
      rw [if_neg (fun w => w.1 (by omega))]
  · right; right
    have hcl : (σ.1 t).cell = 1 := by simp only [Nd.cell, p]
    have e0 : (stp σ t).1 t = { σ.1 t with ph := 1 } := by rw [hst, hcl]; simp only [Nd.next, p]
    have hc : nth (stp σ t).2 = upd (nth σ.2) 1 (σ.1 t).put10 := by rw [hcs, hcl]; simp only [Nd.acc, p]
    have hph : ∀ j, j < n → ((stp σ t).1 j).ph ≤ 5 := fun j hj => by
      by_cases e : j = t
      · subst e; rw [e0]; show (1 : Nat) ≤ 5; omega
      · rw [hoth j e]; exact hl.ph h hj e
    rcases Nat.eq_zero_or_pos t with e5 | e5
    · have hp10 : (σ.1 t).put10 = (n : Int) - 1 := by unfold Nd.put10; rw [if_pos (by omega)]; omega
      have hpos : nth (stp σ t).2 1 = ((n - 1 : Nat) : Int) := by rw [hc, upd_same, hp10]; omega
      have h6 := hph (n - 1) (by omega)
      have hl2 := hl.2.2.1
      have cl : l = 2 ∨ l = 1 ∨ l = 0 := by omega
      rcases cl with e | e | e
      · refine ⟨1, n - 1, by subst e; omega, by omega, hpos, by omega, fun r => by omega, fun _ => ⟨fun j h1 h3 => by omega, fun r => by omega⟩⟩
      · have hm := hl.2.2.2.2 e
        obtain ⟨hb10, hc3⟩ := hm.b10 p
        refine ⟨0, n - 1, by subst e; omega, by omega, hpos, by omega, fun _ => ⟨fun j hj => ?_, 0, ?_, .inl ⟨by omega, by omega, ?_, ?_, fun r => by omega, fun r => by omega⟩⟩, fun r => by omega⟩
        · refine hbl j ?_
          rcases Nat.eq_zero_or_pos j with e6 | e6
          · rw [e6, ← e5]; exact hb10
          · exact hm.wh j (by omega) hj
        · obtain ⟨t', a1, a2, _, a4⟩ := h.tx.tok
          have e7 : t' = t := by have := hl.2.1; omega
          subst e7
          rw [hc, upd_other _ _ (by omega)]
          rcases a4 with ⟨_, b, _⟩ | ⟨b, _⟩ | ⟨_, b, _⟩ | ⟨_, _, b⟩
          · exact absurd p b
          · omega
          · omega
          · rw [b]; rfl
        · rw [hc, upd_other _ _ (by omega)]; exact hc3 e5
        · rw [hb1, show n - 1 + 1 = n by omega, q.total h]; rfl
      · have hf := hl.2.2.2.1 e
        obtain ⟨Q, _, h3⟩ := hf.ct
        rcases h3 with ⟨_, a, _⟩ | ⟨_, a, _⟩
        · exact absurd p a
        · omega
    · have hp10 : (σ.1 t).put10 = (t : Int) - 1 := by unfold Nd.put10; rw [if_neg (by omega)]; omega
      have hpos : nth (stp σ t).2 1 = ((t - 1 : Nat) : Int) := by rw [hc, upd_same, hp10]; omega
      have h6 := hph (t - 1) (by omega)
      refine ⟨l, t - 1, by omega, by omega, hpos, hl.2.2.1, fun e => ?_, fun e => ?_⟩
      · have hf := hl.2.2.2.1 e
        refine ⟨fun j hj => hbl j (hf.wh j hj), ?_⟩
        obtain ⟨Q, h1, h3⟩ := hf.ct
        rcases h3 with ⟨_, a, _⟩ | ⟨_, a, b, _, c10⟩
        · exact absurd p a
        · refine ⟨Q, by rw [hc, upd_other _ _ (by omega)]; exact h1, .inl ⟨by omega, by omega, by rw [hc, upd_other _ _ (by omega)]; exact c10 p, by rw [hb1, show t - 1 + 1 = t by omega]; exact b, fun r => by omega, fun r => by omega⟩⟩
      · have hm := hl.2.2.2.2 e
        refine ⟨fun j h1 h3 => hbl j ?_, fun r => by omega⟩
        by_cases e6 : j = t
        · rw [e6]; exact (hm.b10 p).1
        · exact hm.wh j (by omega) h3
end
end Go.Proofs.Ytdjkidgkeekenaa

/- All come to their end, and what is then. -/
namespace Go.Proofs.Ytdjkidgkeekenaa
open Go.RowKit Go.Lib
set_option linter.unusedVariables false
set_option linter.unusedSimpArgs false
section
variable {n K : Nat} {σ : Cir}
theorem vr_pos (h : Inv n K σ) (q : NQ n σ) (hd : ¬ Dn σ) {t : Nat} (ht : t < n) : 1 ≤ vr (σ.1 t).ph := by
  have hp := (h.sys.wf t ht).ph
  have h2 := q.p2 ht
  have h4 := q.p4 h ht
  have h0 : (σ.1 t).ph ≠ 0 := fun r => hd (.inl (h.tx.p0 t ht r))
  have h11 : (σ.1 t).ph ≠ 11 := fun r => by
    have := h.tx.p11 t ht r
    exact hd (.inr (by rw [← this]; exact r))
  unfold vr
  repeat' split
  all_goals omega
theorem vr_le (p : Nat) : vr p ≤ 8 := by
  unfold vr
  repeat' split
  all_goals omega
theorem rounds (hn0 : 0 < n) (hn : n ≤ 64) : ∀ (H : Nat) {K : Nat} {σ : Cir} {l t : Nat} (a : Nat), Inv n K σ → NQ n σ → Lv n l σ t → l * n + t ≤ H → K + 8 * n * (H + 1) ≤ BB → ∃ m, m ≤ 8 * n * (H + 1) ∧ Dn (trn n σ a m)
  | H, K, σ, l, t, a, h, q, hl, hH, hK => by
    by_cases hd : Dn σ
    · exact ⟨0, Nat.zero_le _, hd⟩
    have e1 : 8 * n * (H + 1) = 8 * n * H + 8 * n := by rw [Nat.mul_add, Nat.mul_one]
    have P : Prg n t (fun r τ => NQ n τ ∧ Lv n l τ t ∧ 1 ≤ vr (τ.1 t).ph ∧ vr (τ.1 t).ph ≤ r ∧ ¬ Dn τ) (fun τ => Dn τ ∨ (NQ n τ ∧ ∃ l' t', l' * n + t' < l * n + t ∧ Lv n l' τ t')) := by
      refine ⟨hn0, hn, hl.1, fun τ r => by omega, fun r τ s => ⟨s.1, s.2.1, s.2.2.1, by omega, s.2.2.2.2⟩, fun K τ i r hI hK hi hne s => ?_, fun K τ r hI hK s => ?_, fun K τ i hI hK hi s => ?_⟩
      · obtain ⟨h1, h2⟩ := hop_other hI hn hK s.1 s.2.1 hi hne
        have hq := s.1.step hI hn hK hi
        by_cases d : Dn (stp τ i)
        · exact .inl (.inl d)
        · exact .inr ⟨hq, h1, vr_pos (hI.step hn hK hi) hq d hl.1, by rw [h2]; exact s.2.2.2.1, d⟩
      · have hq := s.1.step hI hn hK hl.1
        by_cases d : Dn (stp τ t)
        · exact .inl (.inl d)
        · rcases hop_own hI hn hK s.1 s.2.1 s.2.2.2.2 with w | ⟨w1, w2⟩ | w
          · exact absurd w d
          · exact .inr ⟨hq, w1, vr_pos (hI.step hn hK hl.1) hq d hl.1, by have := s.2.2.2.1; omega, d⟩
          · exact .inl (.inr ⟨hq, w⟩)
      · rcases s with s | ⟨s, l', t', s1, s2⟩
        · exact .inl (s.step hI hn hK hn0 hi).1
        · have hq := s.step hI hn hK hi
          by_cases d : Dn τ
          · exact .inl (d.step hI hn hK hn0 hi).1
          · by_cases e : i = t'
            · subst e
              rcases hop_own hI hn hK s s2 d with w | ⟨w1, _⟩ | ⟨l2, t2, w1, w2⟩
              · exact .inl w
              · exact .inr ⟨hq, l', i, s1, w1⟩
              · exact .inr ⟨hq, l2, t2, by omega, w2⟩
            · exact .inr ⟨hq, l', t', s1, (hop_other hI hn hK s s2 hi e).1⟩
    have hg := P.run 8 a h (by omega) (.inr ⟨q, hl, vr_pos h q hd hl.1, vr_le _, hd⟩)
    have hI := h.trn hn0 hn a (8 * n) (by omega)
    rcases hg with g | ⟨g, l', t', g1, g2⟩
    · exact ⟨8 * n, by omega, g⟩
    · match H, hH, hK, e1 with
      | 0, hH, hK, e1 => omega
      | H + 1, hH, hK, e1 =>
        obtain ⟨m, hm, hd⟩ := rounds hn0 hn H (a + 8 * n) hI g g2 (by omega) (by omega)
        exact ⟨8 * n + m, by omega, by rw [trn_add]; exact hd⟩
/-- How soon a node is over, once done is tokTold. -/
def zr (p : Nat) : Nat := if p = 1 ∨ p = 11 then 1 else if p = 3 then 8 else if 5 ≤ p ∧ p ≤ 10 then 12 - p else 0
theorem overs {u : Nat} (hn0 : 0 < n) (hn : n ≤ 64) (hu : u < n) (h : Inv n K σ) (hc : nth σ.2 0 = 1) (a : Nat) (hK : K + 8 * n ≤ BB) : ((trn n σ a (8 * n)).1 u).ph = 0 := by
  have facts : ∀ {K τ}, Inv n K τ → nth τ.2 0 = 1 → (τ.1 u).ph ≠ 0 → 1 ≤ zr (τ.1 u).ph := by
    intro K τ hI h1 h0
    have hp := (hI.sys.wf u hu).ph
    have hq := hI.tx.dq (.inl h1) u hu
    have h2 : (τ.1 u).ph ≠ 2 := fun r => by have := hI.tx.a2 u hu r; rw [hq.1] at this; cases this
    have h4 : (τ.1 u).ph ≠ 4 := fun r => by
      have e1 := hI.tx.m4 u hu r
      have e2 := (hI.sys.wf u hu).p4 r
      omega
    unfold zr
    repeat' split
    all_goals omega
  have P : Prg n u (fun r τ => nth τ.2 0 = 1 ∧ 1 ≤ zr (τ.1 u).ph ∧ zr (τ.1 u).ph ≤ r) (fun τ => (τ.1 u).ph = 0) := by
    refine ⟨hn0, hn, hu, fun τ r => by omega, fun r τ s => ⟨s.1, s.2.1, by omega⟩, fun K τ i r hI hK hi hne s => ?_, fun K τ r hI hK s => ?_, fun K τ i hI hK hi s => ?_⟩
    · have e : (stp τ i).1 u = τ.1 u := by
        unfold stp
        split
        · rfl
        · exact upd_other _ _ (Ne.symm hne)
      right
      rw [e]
      exact ⟨((Dn.step hI hn hK hn0 hi (.inl s.1)).2 s.1), s.2⟩
    · have hc1 := ((Dn.step hI hn hK hn0 hu (.inl s.1)).2 s.1)
      have hI2 := hI.step hn hK hu
      by_cases e : ((stp τ u).1 u).ph = 0
      · exact .inl e
      · refine .inr ⟨hc1, facts hI2 hc1 e, ?_⟩
        have hw := hI.sys.wf u hu
        have hp := hw.ph
        have hwho := hw.who
        have hq := hI.tx.dq (.inl s.1) u hu
        have hz := s.2.2
        have h0 : (τ.1 u).ph ≠ 0 := fun r => e (by have : stp τ u = τ := if_pos r; rw [this]; exact r)
        have h2 : (τ.1 u).ph ≠ 2 := fun r => by have := hI.tx.a2 u hu r; rw [hq.1] at this; cases this
        have h4 : (τ.1 u).ph ≠ 4 := fun r => by
          have e1 := hI.tx.m4 u hu r
          have e2 := hw.p4 r
          omega
        have hst := stp_own (σ := τ) h0
        have cases : (τ.1 u).ph = 1 ∨ (τ.1 u).ph = 3 ∨ (τ.1 u).ph = 5 ∨ (τ.1 u).ph = 6 ∨ (τ.1 u).ph = 7 ∨ (τ.1 u).ph = 8 ∨ (τ.1 u).ph = 9 ∨ (τ.1 u).ph = 10 ∨ (τ.1 u).ph = 11 := by omega
        rw [hst] at e ⊢
        rcases cases with p | p | p | p | p | p | p | p | p <;> rw [p] at hz
        · exfalso
          apply e
          have hcl : (τ.1 u).cell = 0 := by simp only [Nd.cell, p]
          rw [hcl, s.1]; simp only [Nd.next, p]; simp
        · have hcl : (τ.1 u).cell = 4 + u := by simp only [Nd.cell, p]; omega
          have : ((τ.1 u).next (nth τ.2 (τ.1 u).cell)).ph = 5 := by rw [hcl, hq.2]; simp only [Nd.next, p]; simp
          rw [this]; simp [zr] at hz ⊢; omega
        · have : ((τ.1 u).next (nth τ.2 (τ.1 u).cell)).ph = 6 ∨ ((τ.1 u).next (nth τ.2 (τ.1 u).cell)).ph = 1 := by simp only [Nd.next, p]; split <;> simp
          rcases this with w | w <;> rw [w] <;> simp [zr] at hz ⊢ <;> omega
        · have : ((τ.1 u).next (nth τ.2 (τ.1 u).cell)).ph = 7 := by simp only [Nd.next, p]
          rw [this]; simp [zr] at hz ⊢; omega
        · have : ((τ.1 u).next (nth τ.2 (τ.1 u).cell)).ph = 11 ∨ ((τ.1 u).next (nth τ.2 (τ.1 u).cell)).ph = 8 := by simp only [Nd.next, p]; split <;> simp
          rcases this with w | w <;> rw [w] <;> simp [zr] at hz ⊢ <;> omega
        · have : ((τ.1 u).next (nth τ.2 (τ.1 u).cell)).ph = 9 := by simp only [Nd.next, p]
          rw [this]; simp [zr] at hz ⊢; omega
        · have : ((τ.1 u).next (nth τ.2 (τ.1 u).cell)).ph = 10 := by simp only [Nd.next, p]
          rw [this]; simp [zr] at hz ⊢; omega
        · have : ((τ.1 u).next (nth τ.2 (τ.1 u).cell)).ph = 1 := by simp only [Nd.next, p]
          rw [this]; simp [zr] at hz ⊢; omega
        · exfalso
          apply e
          simp only [Nd.next, p]
    · by_cases e : u = i
      · subst e
        have : stp τ u = τ := if_pos s
        rw [this]; exact s
      · have : (stp τ i).1 u = τ.1 u := by
          unfold stp
          split
          · rfl
          · exact upd_other _ _ e
        rw [this]; exact s
  by_cases e : (σ.1 u).ph = 0
  · exact P.run 8 a h hK (.inl e)
  · refine P.run 8 a h hK (.inr ⟨hc, facts h hc e, ?_⟩)
    unfold zr
    repeat' split
    all_goals omega
theorem tokTold (hn0 : 0 < n) (hn : n ≤ 64) (h : Inv n K σ) (hd : Dn σ) (a : Nat) (hK : K + 1 * n ≤ BB) : nth (trn n σ a (1 * n)).2 0 = 1 := by
  have P : Prg n 0 (fun r τ => 1 ≤ r ∧ (τ.1 0).ph = 11) (fun τ => nth τ.2 0 = 1) := by
    refine ⟨hn0, hn, hn0, fun τ r => by omega, fun r τ s => ⟨by omega, s.2⟩, fun K τ i r hI hK hi hne s => ?_, fun K τ r hI hK s => ?_, fun K τ i hI hK hi s => ((Dn.step hI hn hK hn0 hi (.inl s)).2 s)⟩
    · rcases (Dn.step hI hn hK hn0 hi (.inr s.2)).1 with w | w
      · exact .inl w
      · exact .inr ⟨s.1, w⟩
    · left
      rcases (Dn.step hI hn hK hn0 hn0 (.inr s.2)).1 with w | w
      · exact w
      · exfalso
        rw [stp_own (by rw [s.2]; decide)] at w
        have p := s.2
        simp only [Nd.next, p] at w
        cases w
  rcases hd with d | d
  · exact P.run 1 a h hK (.inl d)
  · exact P.run 1 a h hK (.inr ⟨Nat.le_refl _, d⟩)
/-- In turns all are over so soon. -/
theorem fin (hn0 : 0 < n) (hn : n ≤ 64) (A : Nat) (h : Inv n K σ) (he : Ev n σ ≤ 2 * (A : Int)) (hA : A ≤ 10000) (hK : K ≤ 1000000000) (a : Nat) : ∃ m, m ≤ n * (100 * A + 100 * n + 200) ∧ nth (trn n σ a m).2 0 = 1 ∧ ∀ j, j < n → ((trn n σ a m).1 j).ph = 0 := by
  have bA : n * A ≤ 64 * 10000 := Nat.mul_le_mul hn hA
  have bn : n * n ≤ 64 * 64 := Nat.mul_le_mul hn hn
  have x1 : 9 * n * (2 * A) = 18 * (n * A) := by rw [Nat.mul_assoc, Nat.mul_left_comm n 2 A]; omega
  have x2 : 9 * n * (2 * A + 1) = 18 * (n * A) + 9 * n := by rw [Nat.mul_add, x1, Nat.mul_one]
  have x3 : n * (100 * A + 100 * n + 200) = 100 * (n * A) + 100 * (n * n) + 200 * n := by
    rw [Nat.mul_add, Nat.mul_add, Nat.mul_left_comm n 100 A, Nat.mul_left_comm n 100 n]; omega
  obtain ⟨m1, h1, q1⟩ := calm hn0 hn (2 * A) a h (by omega) (by unfold BB; omega)
  have I1 := h.trn hn0 hn a m1 (by unfold BB; omega)
  obtain ⟨t, ht, ht1, _⟩ := I1.tx.tok
  have hl : Lv n 2 (trn n σ a m1) t := ⟨ht, ht1, by omega, fun r => by omega, fun r => by omega⟩
  have x4 : 8 * n * (2 * n + t + 1) ≤ 24 * (n * n) := by
    have : 2 * n + t + 1 ≤ 3 * n := by omega
    have y := Nat.mul_le_mul_left (8 * n) this
    have z : 8 * n * (3 * n) = 24 * (n * n) := by rw [Nat.mul_assoc, Nat.mul_left_comm n 3 n]; omega
    omega
  obtain ⟨m2, h2, q2⟩ := rounds hn0 hn (2 * n + t) (a + m1) I1 q1 hl (Nat.le_refl _) (by unfold BB; omega)
  have I2 := I1.trn hn0 hn (a + m1) m2 (by unfold BB; omega)
  have q3 := tokTold hn0 hn I2 q2 (a + m1 + m2) (by unfold BB; omega)
  have I3 := I2.trn hn0 hn (a + m1 + m2) (1 * n) (by unfold BB; omega)
  refine ⟨m1 + (m2 + (1 * n + 8 * n)), by omega, ?_, fun j hj => ?_⟩
  · rw [trn_add, trn_add, trn_add]
    have stays : ∀ m, K + m1 + m2 + 1 * n + m ≤ BB → nth (trn n (trn n (trn n (trn n σ a m1) (a + m1) m2) (a + m1 + m2) (1 * n)) (a + m1 + m2 + 1 * n) m).2 0 = 1 := by
      intro m
      induction m with
      | zero => intro _; exact q3
      | succ m ih =>
        intro hm
        have := ih (by omega)
        exact (Dn.step (I3.trn hn0 hn _ m (by omega)) hn (by omega) hn0 (Nat.mod_lt _ hn0) (.inl this)).2 this
    exact stays (8 * n) (by unfold BB; omega)
  · rw [trn_add, trn_add, trn_add]
    exact overs hn0 hn hj I3 q3 (a + m1 + m2 + 1 * n) (by unfold BB; omega)
end
/-- Who was awake has sent all, or will. -/
def Aw (n : Nat) (aw : List Int) (ds : Nat → Nd) : Prop := ∀ j, j < n → (j : Int) ∈ aw → ((ds j).sends.length : Int) ≤ (ds j).left + (ds j).sent ∧ ((ds j).active = false → (ds j).sent = (ds j).sends.length)
theorem Aw.step {n K i : Nat} {σ : Cir} {aw : List Int} (h : Inv n K σ) (hi : i < n) (q : Aw n aw σ.1) : Aw n aw (stp σ i).1 := by
  by_cases h0 : (σ.1 i).ph = 0
  · have e : stp σ i = σ := if_pos h0
    rw [e]; exact q
  have hst := stp_own (σ := σ) h0
  intro j hj ha
  by_cases e : j = i
  · subst e
    have hw := h.sys.wf j hj
    have hp := hw.ph
    have hle := hw.le
    have hse := hw.se
    have hbu := hw.bu
    obtain ⟨q1, q2⟩ := q j hj ha
    rw [hst]
    generalize nth σ.2 (σ.1 j).cell = x
    have cases : (σ.1 j).ph = 1 ∨ (σ.1 j).ph = 2 ∨ (σ.1 j).ph = 3 ∨ (σ.1 j).ph = 4 ∨ (σ.1 j).ph = 5 ∨ (σ.1 j).ph = 6 ∨ (σ.1 j).ph = 7 ∨ (σ.1 j).ph = 8 ∨ (σ.1 j).ph = 9 ∨ (σ.1 j).ph = 10 ∨ (σ.1 j).ph = 11 := by omega
    rcases cases with p | p | p | p | p | p | p | p | p | p | p
    · simp only [Nd.next, p]
      split
      · exact ⟨q1, q2⟩
      · split
        · exact ⟨q1, q2⟩
        · rename_i w
          refine ⟨q1, fun _ => ?_⟩
          show (σ.1 j).sent = _
          cases hb : (σ.1 j).active with
          | false => exact q2 hb
          | true =>
            have : ¬ (0 < (σ.1 j).left ∧ (σ.1 j).sent < (σ.1 j).sends.length) := fun r => w ⟨hb, r⟩
            show (σ.1 j).sent = ((σ.1 j).sends.length : Int)
            omega
    · simp only [Nd.next, p]
      have ha2 := h.tx.a2 j hj p
      exact ⟨by omega, fun r => by rw [ha2] at r; cases r⟩
    · simp only [Nd.next, p]; exact ⟨q1, q2⟩
    · simp only [Nd.next, p]
      split
      · exact ⟨by simp only; omega, fun r => by cases r⟩
      · exact ⟨q1, q2⟩
    all_goals (simp only [Nd.next, p]; exact ⟨q1, q2⟩)
  · have : (stp σ i).1 j = σ.1 j := by unfold stp; rw [if_neg h0]; exact upd_other _ _ e
    rw [this]; exact q j hj ha
end Go.Proofs.Ytdjkidgkeekenaa
