/- QuietDetects: plain. -/
import Derived.Test.YtabmmjhcfhplnaaQ1
namespace Go.Proofs.Ytabmmjhcfhplnaa
set_option linter.unusedVariables false
/-- A worker: the task in its hand, how many of its children it has put in, whether its operation was a Lower, whether a Lower's second access is still to come. -/
structure Wk where
  at_ : Option Nat
  child : Nat
  low : Bool
  busy : Bool
namespace Wk
def w0 : Wk := ⟨none, 0, false, false⟩
/-- What a worker adds to the sum: c and the children still to be put in. -/
def wf (mc : Nat → Nat) (c : Nat) (w : Wk) : Nat := if w.busy = true then 0 else match w.at_ with | none => 0 | some t => mc t - w.child + c
def hf (w : Wk) : Nat := if w.busy = true then 0 else match w.at_ with | none => 0 | some _ => 1
def bf (w : Wk) : Nat := if w.busy = true then 1 else 0
def inHand (w : Wk) : Nat := match w.at_ with | none => 0 | some _ => 1
end Wk
def wkd (ws : List Wk) (k : Nat) : Wk := ws.getD k Wk.w0
def sm (f : Wk → Nat) (ws : List Wk) : Nat := (ws.map f).sum
theorem sm_set (f : Wk → Nat) (ws : List Wk) (k : Nat) (x : Wk) (hk : k < ws.length) : sm f (ws.set k x) + f (wkd ws k) = sm f ws + f x := by
  induction ws generalizing k with
  | nil => simp at hk
  | cons a l ih =>
    cases k with
    | zero => simp [sm, wkd, List.getD]; omega
    | succ k =>
      have := ih k (by simpa using hk)
      simp only [sm, wkd, List.getD] at this ⊢
      simp only [List.set_cons_succ, List.map_cons, List.sum_cons, List.getElem?_cons_succ] at this ⊢
      omega
theorem sm_ge (f : Wk → Nat) (ws : List Wk) (k : Nat) (hk : k < ws.length) : f (wkd ws k) ≤ sm f ws := by
  induction ws generalizing k with
  | nil => simp at hk
  | cons a l ih =>
    cases k with
    | zero => simp [sm, wkd, List.getD]
    | succ k =>
      have := ih k (by simpa using hk)
      simp only [sm, wkd, List.getD, List.map_cons, List.sum_cons, List.getElem?_cons_succ] at this ⊢
      omega
theorem sm_zero (f : Wk → Nat) (ws : List Wk) (h : ∀ k, k < ws.length → f (wkd ws k) = 0) : sm f ws = 0 := by
  induction ws with
  | nil => rfl
  | cons a l ih =>
    have h0 := h 0 (by simp)
    have h1 := ih (fun k hk => by have := h (k + 1) (by simpa using hk); simpa [wkd, List.getD] using this)
    simp only [wkd, List.getD, List.getElem?_cons_zero, Option.getD_some] at h0
    simp only [sm, List.map_cons, List.sum_cons] at h1 ⊢
    omega
theorem sm_pos (f : Wk → Nat) (ws : List Wk) (h : 0 < sm f ws) : ∃ k, k < ws.length ∧ 0 < f (wkd ws k) := by
  apply Classical.byContradiction
  intro hn
  have := sm_zero f ws (fun k hk => by
    apply Classical.byContradiction
    intro h0
    exact hn ⟨k, hk, by omega⟩)
  omega
theorem wkd_set {ws : List Wk} {k j : Nat} {x : Wk} (hk : k < ws.length) : wkd (ws.set k x) j = if j = k then x else wkd ws j := by
  unfold wkd
  by_cases h : j = k
  · subst h; simp [List.getD, hk]
  · rw [if_neg h]; simp [List.getD, List.getElem?_set_ne (Ne.symm h)]
/-- The bag's part. -/
def bs (mc : Nat → Nat) (c : Nat) (bag : List Nat) : Nat := (bag.map (fun t => mc t + c)).sum
theorem bs_snoc (mc : Nat → Nat) (c : Nat) (bag : List Nat) (t : Nat) : bs mc c (bag ++ [t]) = bs mc c bag + (mc t + c) := by simp [bs]
/-- The part of the tasks that were never there. -/
def rs (mc : Nat → Nat) (c : Nat) : Nat → Nat → Nat
  | _, 0 => 0
  | f, m + 1 => (mc f + c) + rs mc c (f + 1) m
/-- What is still to be done, at most. -/
def wt (mc : Nat → Nat) (c N : Nat) (ws : List Wk) (bag : List Nat) (fresh : Nat) : Nat := bs mc c bag + sm (Wk.wf mc c) ws + rs mc c fresh (N - fresh)
def mt (mc : Nat → Nat) (N : Nat) (ws : List Wk) (bag : List Nat) (fresh : Nat) : Nat := wt mc 2 N ws bag fresh + sm Wk.bf ws
/-- What holds between two rounds. P: pending, d: done. -/
structure DI (mc : Nat → Nat) (N n P d : Nat) (ws : List Wk) (bag : List Nat) (fresh : Nat) : Prop where
  len : ws.length = n
  n0 : 0 < n
  lim : fresh ≤ N
  bag_ : ∀ t, t ∈ bag → t < fresh
  hand : ∀ k t, (wkd ws k).at_ = some t → t < fresh
  idle : ∀ k, (wkd ws k).at_ = none → (wkd ws k).busy = false
  lowb : ∀ k, (wkd ws k).busy = true → (wkd ws k).low = true
  rem : fresh + wt mc 0 N ws bag fresh ≤ N
  mode : (d = 0 ∧ 1 ≤ P ∧ P = bag.length + sm Wk.hf ws ∧ sm Wk.bf ws = 0) ∨ (d = 0 ∧ P = 0 ∧ bag = [] ∧ sm Wk.hf ws = 0 ∧ sm Wk.bf ws = 1) ∨ (d = 1 ∧ P = 0 ∧ bag = [] ∧ sm Wk.hf ws = 0 ∧ sm Wk.bf ws = 0)
section
variable {mc : Nat → Nat} {N n P d fresh k t : Nat} {ws : List Wk} {bag : List Nat} {w : Wk}
theorem DI.hand_sum (h : DI mc N n P d ws bag fresh) (k : Nat) : (wkd ws k).inHand = (wkd ws k).hf + (wkd ws k).bf := by
  have h1 := h.idle k
  unfold Wk.inHand Wk.hf Wk.bf
  cases h2 : (wkd ws k).at_ with
  | none => rw [h1 h2]; simp
  | some t => cases (wkd ws k).busy <;> simp
/-- A worker takes a task out of the bag. -/
theorem DI.take (h : DI mc N n P d ws (bag ++ [t]) fresh) (hk : k < n) (hi : (wkd ws k).at_ = none) (lo : Bool) : DI mc N n P d (ws.set k ⟨some t, 0, lo, false⟩) bag fresh ∧ mt mc N (ws.set k ⟨some t, 0, lo, false⟩) bag fresh = mt mc N ws (bag ++ [t]) fresh := by
  have hkl : k < ws.length := by rw [h.len]; exact hk
  have hb := h.idle k hi
  have e : ∀ c, wt mc c N (ws.set k ⟨some t, 0, lo, false⟩) bag fresh = wt mc c N ws (bag ++ [t]) fresh := fun c => by
    have h1 := sm_set (Wk.wf mc c) ws k ⟨some t, 0, lo, false⟩ hkl
    have h2 : Wk.wf mc c (wkd ws k) = 0 := by simp [Wk.wf, hb, hi]
    have h3 : Wk.wf mc c ⟨some t, 0, lo, false⟩ = mc t + c := by simp [Wk.wf]
    unfold wt
    rw [bs_snoc]
    omega
  have eb : sm Wk.bf (ws.set k ⟨some t, 0, lo, false⟩) = sm Wk.bf ws := by
    have h1 := sm_set Wk.bf ws k ⟨some t, 0, lo, false⟩ hkl
    have h2 : Wk.bf (wkd ws k) = 0 := by simp [Wk.bf, hb]
    have h3 : Wk.bf ⟨some t, 0, lo, false⟩ = 0 := by simp [Wk.bf]
    omega
  have eh : sm Wk.hf (ws.set k ⟨some t, 0, lo, false⟩) = sm Wk.hf ws + 1 := by
    have h1 := sm_set Wk.hf ws k ⟨some t, 0, lo, false⟩ hkl
    have h2 : Wk.hf (wkd ws k) = 0 := by simp [Wk.hf, hb, hi]
    have h3 : Wk.hf ⟨some t, 0, lo, false⟩ = 1 := by simp [Wk.hf]
    omega
  refine ⟨⟨by rw [List.length_set]; exact h.len, h.n0, h.lim, fun s hs => h.bag_ s (by simp [hs]), fun j s hj => ?_, fun j hj => ?_, fun j hj => ?_, by rw [e]; exact h.rem, ?_⟩, by unfold mt; rw [e, eb]⟩
  · rw [wkd_set hkl] at hj
    split at hj
    · simp at hj; subst hj; exact h.bag_ _ (by simp)
    · exact h.hand j s hj
  · rw [wkd_set hkl] at hj ⊢
    split at hj
    · simp at hj
    · rename_i hn; rw [if_neg hn]; exact h.idle j hj
  · rw [wkd_set hkl] at hj ⊢
    split at hj
    · simp at hj
    · rename_i hn; rw [if_neg hn]; exact h.lowb j hj
  · rw [eb, eh]
    rcases h.mode with ⟨h1, h2, h3, h4⟩ | ⟨_, _, h3, _⟩ | ⟨_, _, h3, _⟩
    · refine .inl ⟨h1, h2, ?_, h4⟩
      rw [h3, List.length_append]; simp; omega
    · simp at h3
    · simp at h3
theorem rs_step (mc : Nat → Nat) (c : Nat) {f m : Nat} (h : f < m) : rs mc c f (m - f) = (mc f + c) + rs mc c (f + 1) (m - (f + 1)) := by
  obtain ⟨j, hj⟩ : ∃ j, m - f = j + 1 := ⟨m - f - 1, by omega⟩
  rw [hj, show m - (f + 1) = j by omega]
  rfl
/-- A Raise: a child is put into the bag. -/
theorem DI.raise (h : DI mc N n P d ws bag fresh) (hk : k < n) (ha : (wkd ws k).at_ = some t) (hb : (wkd ws k).busy = false) (hc : (wkd ws k).child < mc t) (lo : Bool) :
    fresh < N ∧ d = 0 ∧ DI mc N n (P + 1) d (ws.set k ⟨some t, (wkd ws k).child + 1, lo, false⟩) (bag ++ [fresh]) (fresh + 1) ∧ mt mc N (ws.set k ⟨some t, (wkd ws k).child + 1, lo, false⟩) (bag ++ [fresh]) (fresh + 1) + 1 = mt mc N ws bag fresh := by
  have hkl : k < ws.length := by rw [h.len]; exact hk
  have hg := sm_ge (Wk.wf mc 0) ws k hkl
  have hg0 : Wk.wf mc 0 (wkd ws k) = mc t - (wkd ws k).child := by simp [Wk.wf, hb, ha]
  have hf : fresh < N := by
    have := h.rem
    unfold wt at this
    omega
  have e : ∀ c, wt mc c N (ws.set k ⟨some t, (wkd ws k).child + 1, lo, false⟩) (bag ++ [fresh]) (fresh + 1) + 1 = wt mc c N ws bag fresh := fun c => by
    have h1 := sm_set (Wk.wf mc c) ws k ⟨some t, (wkd ws k).child + 1, lo, false⟩ hkl
    have h2 : Wk.wf mc c (wkd ws k) = mc t - (wkd ws k).child + c := by simp [Wk.wf, hb, ha]
    have h3 : Wk.wf mc c ⟨some t, (wkd ws k).child + 1, lo, false⟩ = mc t - ((wkd ws k).child + 1) + c := by simp [Wk.wf]
    have h4 := rs_step mc c hf
    unfold wt
    rw [bs_snoc]
    omega
  have eb : sm Wk.bf (ws.set k ⟨some t, (wkd ws k).child + 1, lo, false⟩) = sm Wk.bf ws := by
    have h1 := sm_set Wk.bf ws k ⟨some t, (wkd ws k).child + 1, lo, false⟩ hkl
    have h2 : Wk.bf (wkd ws k) = 0 := by simp [Wk.bf, hb]
    have h3 : Wk.bf ⟨some t, (wkd ws k).child + 1, lo, false⟩ = 0 := by simp [Wk.bf]
    omega
  have eh : sm Wk.hf (ws.set k ⟨some t, (wkd ws k).child + 1, lo, false⟩) = sm Wk.hf ws := by
    have h1 := sm_set Wk.hf ws k ⟨some t, (wkd ws k).child + 1, lo, false⟩ hkl
    have h2 : Wk.hf (wkd ws k) = 1 := by simp [Wk.hf, hb, ha]
    have h3 : Wk.hf ⟨some t, (wkd ws k).child + 1, lo, false⟩ = 1 := by simp [Wk.hf]
    omega
  have hh := sm_ge Wk.hf ws k hkl
  have hh0 : Wk.hf (wkd ws k) = 1 := by simp [Wk.hf, hb, ha]
  have hd : d = 0 ∧ 1 ≤ P ∧ P = bag.length + sm Wk.hf ws ∧ sm Wk.bf ws = 0 := by
    rcases h.mode with h1 | ⟨_, _, _, h4, _⟩ | ⟨_, _, _, h4, _⟩
    · exact h1
    · omega
    · omega
  refine ⟨hf, hd.1, ⟨by rw [List.length_set]; exact h.len, h.n0, hf, fun s hs => ?_, fun j s hj => ?_, fun j hj => ?_, fun j hj => ?_, by have := h.rem; have := e 0; omega, ?_⟩, by unfold mt; have := e 2; omega⟩
  · simp at hs
    rcases hs with hs | rfl
    · have := h.bag_ s hs; omega
    · omega
  · rw [wkd_set hkl] at hj
    split at hj
    · simp at hj; subst hj; have := h.hand k t ha; omega
    · have := h.hand j s hj; omega
  · rw [wkd_set hkl] at hj ⊢
    split at hj
    · simp at hj
    · rename_i hn; rw [if_neg hn]; exact h.idle j hj
  · rw [wkd_set hkl] at hj ⊢
    split at hj
    · simp at hj
    · rename_i hn; rw [if_neg hn]; exact h.lowb j hj
  · rw [eb, eh]
    refine .inl ⟨hd.1, by omega, ?_, hd.2.2.2⟩
    rw [List.length_append]; simp; omega
/-- A Lower that found more than 1: the task is done. -/
theorem DI.lower (h : DI mc N n P d ws bag fresh) (hk : k < n) (ha : (wkd ws k).at_ = some t) (hb : (wkd ws k).busy = false) (hc : mc t ≤ (wkd ws k).child) (hP : P ≠ 1) (ch : Nat) (lo : Bool) :
    1 < P ∧ d = 0 ∧ DI mc N n (P - 1) d (ws.set k ⟨none, ch, lo, false⟩) bag fresh ∧ mt mc N (ws.set k ⟨none, ch, lo, false⟩) bag fresh + 1 ≤ mt mc N ws bag fresh := by
  have hkl : k < ws.length := by rw [h.len]; exact hk
  have e : ∀ c, wt mc c N (ws.set k ⟨none, ch, lo, false⟩) bag fresh + c = wt mc c N ws bag fresh := fun c => by
    have h1 := sm_set (Wk.wf mc c) ws k ⟨none, ch, lo, false⟩ hkl
    have h2 : Wk.wf mc c (wkd ws k) = mc t - (wkd ws k).child + c := by simp [Wk.wf, hb, ha]
    have h3 : Wk.wf mc c ⟨none, ch, lo, false⟩ = 0 := by simp [Wk.wf]
    unfold wt
    omega
  have eb : sm Wk.bf (ws.set k ⟨none, ch, lo, false⟩) = sm Wk.bf ws := by
    have h1 := sm_set Wk.bf ws k ⟨none, ch, lo, false⟩ hkl
    have h2 : Wk.bf (wkd ws k) = 0 := by simp [Wk.bf, hb]
    have h3 : Wk.bf ⟨none, ch, lo, false⟩ = 0 := by simp [Wk.bf]
    omega
  have hh0 : Wk.hf (wkd ws k) = 1 := by simp [Wk.hf, hb, ha]
  have eh : sm Wk.hf (ws.set k ⟨none, ch, lo, false⟩) + 1 = sm Wk.hf ws := by
    have h1 := sm_set Wk.hf ws k ⟨none, ch, lo, false⟩ hkl
    have h3 : Wk.hf ⟨none, ch, lo, false⟩ = 0 := by simp [Wk.hf]
    omega
  have hh := sm_ge Wk.hf ws k hkl
  have hd : d = 0 ∧ 1 ≤ P ∧ P = bag.length + sm Wk.hf ws ∧ sm Wk.bf ws = 0 := by
    rcases h.mode with h1 | ⟨_, _, _, h4, _⟩ | ⟨_, _, _, h4, _⟩
    · exact h1
    · omega
    · omega
  refine ⟨by omega, hd.1, ⟨by rw [List.length_set]; exact h.len, h.n0, h.lim, h.bag_, fun j s hj => ?_, fun j hj => ?_, fun j hj => ?_, by have := h.rem; have := e 0; omega, .inl ⟨hd.1, by omega, by omega, by omega⟩⟩, by unfold mt; have := e 2; omega⟩
  · rw [wkd_set hkl] at hj
    split at hj
    · simp at hj
    · exact h.hand j s hj
  · rw [wkd_set hkl] at hj ⊢
    split at hj
    · rename_i hn; rw [if_pos hn]
    · rename_i hn; rw [if_neg hn]; exact h.idle j hj
  · rw [wkd_set hkl] at hj ⊢
    split at hj
    · simp at hj
    · rename_i hn; rw [if_neg hn]; exact h.lowb j hj
/-- A Lower that found 1: its second access is to come. -/
theorem DI.last (h : DI mc N n 1 d ws bag fresh) (hk : k < n) (ha : (wkd ws k).at_ = some t) (hb : (wkd ws k).busy = false) (hc : mc t ≤ (wkd ws k).child) :
    d = 0 ∧ DI mc N n 0 d (ws.set k ⟨some t, (wkd ws k).child, true, true⟩) bag fresh ∧ mt mc N (ws.set k ⟨some t, (wkd ws k).child, true, true⟩) bag fresh + 1 ≤ mt mc N ws bag fresh := by
  have hkl : k < ws.length := by rw [h.len]; exact hk
  have e : ∀ c, wt mc c N (ws.set k ⟨some t, (wkd ws k).child, true, true⟩) bag fresh + c = wt mc c N ws bag fresh := fun c => by
    have h1 := sm_set (Wk.wf mc c) ws k ⟨some t, (wkd ws k).child, true, true⟩ hkl
    have h2 : Wk.wf mc c (wkd ws k) = mc t - (wkd ws k).child + c := by simp [Wk.wf, hb, ha]
    have h3 : Wk.wf mc c ⟨some t, (wkd ws k).child, true, true⟩ = 0 := by simp [Wk.wf]
    unfold wt
    omega
  have eb : sm Wk.bf (ws.set k ⟨some t, (wkd ws k).child, true, true⟩) = sm Wk.bf ws + 1 := by
    have h1 := sm_set Wk.bf ws k ⟨some t, (wkd ws k).child, true, true⟩ hkl
    have h2 : Wk.bf (wkd ws k) = 0 := by simp [Wk.bf, hb]
    have h3 : Wk.bf ⟨some t, (wkd ws k).child, true, true⟩ = 1 := by simp [Wk.bf]
    omega
  have hh0 : Wk.hf (wkd ws k) = 1 := by simp [Wk.hf, hb, ha]
  have eh : sm Wk.hf (ws.set k ⟨some t, (wkd ws k).child, true, true⟩) + 1 = sm Wk.hf ws := by
    have h1 := sm_set Wk.hf ws k ⟨some t, (wkd ws k).child, true, true⟩ hkl
    have h3 : Wk.hf ⟨some t, (wkd ws k).child, true, true⟩ = 0 := by simp [Wk.hf]
    omega
  have hh := sm_ge Wk.hf ws k hkl
  have hd : d = 0 ∧ 1 ≤ 1 ∧ 1 = bag.length + sm Wk.hf ws ∧ sm Wk.bf ws = 0 := by
    rcases h.mode with h1 | ⟨_, _, _, h4, _⟩ | ⟨_, _, _, h4, _⟩
    · exact h1
    · omega
    · omega
  have hbag : bag = [] := List.eq_nil_of_length_eq_zero (by omega)
  refine ⟨hd.1, ⟨by rw [List.length_set]; exact h.len, h.n0, h.lim, h.bag_, fun j s hj => ?_, fun j hj => ?_, fun j hj => ?_, by have := h.rem; have := e 0; omega, .inr (.inl ⟨hd.1, rfl, hbag, by omega, by omega⟩)⟩, by unfold mt; have := e 2; omega⟩
  · rw [wkd_set hkl] at hj
    split at hj
    · simp at hj; subst hj; exact h.hand k t ha
    · exact h.hand j s hj
  · rw [wkd_set hkl] at hj ⊢
    split at hj
    · simp at hj
    · rename_i hn; rw [if_neg hn]; exact h.idle j hj
  · rw [wkd_set hkl] at hj ⊢
    split at hj
    · rename_i hn; rw [if_pos hn]
    · rename_i hn; rw [if_neg hn]; exact h.lowb j hj
/-- The second access of the last Lower: done is set. -/
theorem DI.finish (h : DI mc N n P d ws bag fresh) (hk : k < n) (hb : (wkd ws k).busy = true) (ch : Nat) (lo : Bool) :
    P = 0 ∧ d = 0 ∧ bag = [] ∧ DI mc N n 0 1 (ws.set k ⟨none, ch, lo, false⟩) bag fresh ∧ mt mc N (ws.set k ⟨none, ch, lo, false⟩) bag fresh + 1 ≤ mt mc N ws bag fresh := by
  have hkl : k < ws.length := by rw [h.len]; exact hk
  have e : ∀ c, wt mc c N (ws.set k ⟨none, ch, lo, false⟩) bag fresh = wt mc c N ws bag fresh := fun c => by
    have h1 := sm_set (Wk.wf mc c) ws k ⟨none, ch, lo, false⟩ hkl
    have h2 : Wk.wf mc c (wkd ws k) = 0 := by simp [Wk.wf, hb]
    have h3 : Wk.wf mc c ⟨none, ch, lo, false⟩ = 0 := by simp [Wk.wf]
    unfold wt
    omega
  have hb0 : Wk.bf (wkd ws k) = 1 := by simp [Wk.bf, hb]
  have eb : sm Wk.bf (ws.set k ⟨none, ch, lo, false⟩) + 1 = sm Wk.bf ws := by
    have h1 := sm_set Wk.bf ws k ⟨none, ch, lo, false⟩ hkl
    have h3 : Wk.bf ⟨none, ch, lo, false⟩ = 0 := by simp [Wk.bf]
    omega
  have eh : sm Wk.hf (ws.set k ⟨none, ch, lo, false⟩) = sm Wk.hf ws := by
    have h1 := sm_set Wk.hf ws k ⟨none, ch, lo, false⟩ hkl
    have h2 : Wk.hf (wkd ws k) = 0 := by simp [Wk.hf, hb]
    have h3 : Wk.hf ⟨none, ch, lo, false⟩ = 0 := by simp [Wk.hf]
    omega
  have hh := sm_ge Wk.bf ws k hkl
  have hd : d = 0 ∧ P = 0 ∧ bag = [] ∧ sm Wk.hf ws = 0 ∧ sm Wk.bf ws = 1 := by
    rcases h.mode with ⟨_, _, _, h4⟩ | h1 | ⟨_, _, _, _, h4⟩
    · omega
    · exact h1
    · omega
  refine ⟨hd.2.1, hd.1, hd.2.2.1, ⟨by rw [List.length_set]; exact h.len, h.n0, h.lim, h.bag_, fun j s hj => ?_, fun j hj => ?_, fun j hj => ?_, by have := h.rem; have := e 0; omega, .inr (.inr ⟨rfl, rfl, hd.2.2.1, by omega, by omega⟩)⟩, by unfold mt; have := e 2; omega⟩
  · rw [wkd_set hkl] at hj
    split at hj
    · simp at hj
    · exact h.hand j s hj
  · rw [wkd_set hkl] at hj ⊢
    split at hj
    · rename_i hn; rw [if_pos hn]
    · rename_i hn; rw [if_neg hn]; exact h.idle j hj
  · rw [wkd_set hkl] at hj ⊢
    split at hj
    · simp at hj
    · rename_i hn; rw [if_neg hn]; exact h.lowb j hj
/-- All is over, or some worker has a task in hand, or one lies in the bag. -/
theorem DI.some_ (h : DI mc N n P d ws bag fresh) (hd : d = 0) : bag ≠ [] ∨ ∃ k, k < n ∧ (wkd ws k).at_ ≠ none := by
  have key : ∀ f : Wk → Nat, (∀ w : Wk, w.at_ = none → w.busy = false → f w = 0) → 0 < sm f ws → ∃ k, k < n ∧ (wkd ws k).at_ ≠ none := fun f hf hp => by
    obtain ⟨k, hk, h1⟩ := sm_pos f ws hp
    refine ⟨k, by rw [← h.len]; exact hk, fun hn => ?_⟩
    have := hf _ hn (h.idle k hn)
    omega
  rcases h.mode with ⟨_, h2, h3, _⟩ | ⟨_, _, _, _, h5⟩ | ⟨h1, _⟩
  · cases bag with
    | cons a l => exact .inl (by simp)
    | nil => exact .inr (key Wk.hf (fun w h1 h2 => by simp [Wk.hf, h1, h2]) (by simp at h3; omega))
  · exact .inr (key Wk.bf (fun w h1 h2 => by simp [Wk.bf, h2]) (by omega))
  · omega
/-- Where all is over there is nothing in hand. -/
theorem DI.none_ (h : DI mc N n P 1 ws bag fresh) : P = 0 ∧ bag = [] ∧ ∀ k, k < n → (wkd ws k).at_ = none := by
  rcases h.mode with ⟨h1, _⟩ | ⟨h1, _⟩ | ⟨_, h2, h3, h4, h5⟩
  · omega
  · omega
  · refine ⟨h2, h3, fun k hk => ?_⟩
    have hkl : k < ws.length := by rw [h.len]; exact hk
    have g1 := sm_ge Wk.hf ws k hkl
    have g2 := sm_ge Wk.bf ws k hkl
    have g3 := h.hand_sum k
    cases h6 : (wkd ws k).at_ with
    | none => rfl
    | some t => simp [Wk.inHand, h6] at g3; omega
theorem DI.pos (h : DI mc N n P d ws bag fresh) (hd : d = 0) : 1 ≤ mt mc N ws bag fresh := by
  rcases h.mode with ⟨_, h2, h3, h4⟩ | ⟨_, _, _, _, h5⟩ | ⟨h1, _⟩
  · by_cases hb : bag = []
    · subst hb
      simp at h3
      obtain ⟨k, hk, h1⟩ := sm_pos Wk.hf ws (by omega)
      have g := sm_ge (Wk.wf mc 2) ws k hk
      have : 1 ≤ Wk.wf mc 2 (wkd ws k) := by
        unfold Wk.hf at h1
        unfold Wk.wf
        split at h1
        · omega
        · rename_i hb
          rw [if_neg hb]
          split at h1
          · omega
          · omega
      unfold mt wt
      omega
    · obtain ⟨b, t, rfl⟩ : ∃ b t, bag = b ++ [t] := ⟨bag.dropLast, bag.getLast hb, (List.dropLast_concat_getLast hb).symm⟩
      unfold mt wt
      rw [bs_snoc]
      omega
  · unfold mt; omega
  · omega
end
/-- How far it has come: behind the picks every n rounds bring it on. -/
def Pr (mc : Nat → Nat) (N n M0 lp i d : Nat) (ws : List Wk) (bag : List Nat) (fresh : Nat) : Prop :=
  lp ≤ i → d = 1 ∨ ∃ e, e < n ∧ (bag ≠ [] ∨ (wkd ws ((i + e) % n)).at_ ≠ none) ∧ (i - lp) + n * mt mc N ws bag fresh + e ≤ n * M0 + (n - 1)
section
variable {mc : Nat → Nat} {N n P P' d d' fresh fresh' k t M0 lp i : Nat} {ws ws' : List Wk} {bag bag' : List Nat} {w : Wk}
theorem turn_at {i k n : Nat} (hk : k < n) : (i + (k + n - i % n) % n) % n = k := by
  have hn : 0 < n := by omega
  have h1 := Nat.mod_lt i hn
  rw [Nat.add_mod, Nat.mod_mod]
  by_cases h : i % n ≤ k
  · have e1 : (k + n - i % n) % n = k - i % n := by
      rw [show k + n - i % n = (k - i % n) + n by omega, Nat.add_mod_right, Nat.mod_eq_of_lt (by omega)]
    rw [e1, show i % n + (k - i % n) = k by omega, Nat.mod_eq_of_lt hk]
  · have e1 : (k + n - i % n) % n = k + n - i % n := Nat.mod_eq_of_lt (by omega)
    rw [e1, show i % n + (k + n - i % n) = k + n by omega, Nat.add_mod_right, Nat.mod_eq_of_lt hk]
theorem DI.turn (h : DI mc N n P d ws bag fresh) (i : Nat) : d = 1 ∨ ∃ e, e < n ∧ (bag ≠ [] ∨ (wkd ws ((i + e) % n)).at_ ≠ none) := by
  by_cases hd : d = 0
  · right
    rcases h.some_ hd with hb | ⟨k, hk, ha⟩
    · exact ⟨0, h.n0, .inl hb⟩
    · exact ⟨(k + n - i % n) % n, Nat.mod_lt _ h.n0, .inr (by rw [turn_at hk]; exact ha)⟩
  · left
    rcases h.mode with ⟨h1, _⟩ | ⟨h1, _⟩ | ⟨h1, _⟩ <;> omega
theorem DI.at_picks (h : DI mc N n P d ws bag fresh) (hM : mt mc N ws bag fresh ≤ M0) : Pr mc N n M0 i i d ws bag fresh := by
  intro _
  rcases h.turn i with h1 | ⟨e, he, ha⟩
  · exact .inl h1
  · refine .inr ⟨e, he, ha, ?_⟩
    have := Nat.mul_le_mul_left n hM
    omega
theorem Pr.idle (hp : Pr mc N n M0 lp i d ws bag fresh) (h : DI mc N n P d ws bag fresh) (hM : mt mc N ws bag fresh ≤ M0) (hb : bag = []) (ha : lp ≤ i → (wkd ws (i % n)).at_ = none) : Pr mc N n M0 lp (i + 1) d ws bag fresh := by
  by_cases hl : lp ≤ i
  · intro _
    rcases hp hl with h1 | ⟨e, he, hx, hs⟩
    · exact .inl h1
    · right
      by_cases h0 : e = 0
      · subst h0
        rcases hx with hx | hx
        · exact absurd hb hx
        · exact absurd (ha hl) hx
      · refine ⟨e - 1, by omega, ?_, by omega⟩
        rw [show i + 1 + (e - 1) = i + e by omega]
        exact hx
  · by_cases h1 : lp = i + 1
    · subst h1; exact h.at_picks hM
    · intro h2; omega
theorem Pr.on (hp : Pr mc N n M0 lp i d ws bag fresh) (h : DI mc N n P' d' ws' bag' fresh') (hd : d = 0) (hm : mt mc N ws' bag' fresh' + 1 ≤ mt mc N ws bag fresh) (hM : mt mc N ws bag fresh ≤ M0) : Pr mc N n M0 lp (i + 1) d' ws' bag' fresh' := by
  by_cases hl : lp ≤ i
  · intro _
    rcases hp hl with h1 | ⟨e, he, hx, hs⟩
    · omega
    · rcases h.turn (i + 1) with h1 | ⟨e', he', ha'⟩
      · exact .inl h1
      · refine .inr ⟨e', he', ha', ?_⟩
        have h2 : n * (mt mc N ws' bag' fresh' + 1) ≤ n * mt mc N ws bag fresh := Nat.mul_le_mul_left n hm
        rw [Nat.mul_add, Nat.mul_one] at h2
        omega
  · by_cases h1 : lp = i + 1
    · subst h1; exact h.at_picks (by omega)
    · intro h2; omega
/-- Behind all rounds all is over. -/
theorem Pr.end_ (hp : Pr mc N n M0 lp (lp + 40 * (n + N) * n) d ws bag fresh) (h : DI mc N n P d ws bag fresh) (hM : M0 ≤ 40 * (n + N)) : d = 1 := by
  rcases hp (by omega) with h1 | ⟨e, he, hx, hs⟩
  · exact h1
  · by_cases hd : d = 0
    · have h1 := h.pos hd
      have h2 : n * 1 ≤ n * mt mc N ws bag fresh := Nat.mul_le_mul_left n h1
      have h3 : n * M0 ≤ n * (40 * (n + N)) := Nat.mul_le_mul_left n hM
      have h4 : 40 * (n + N) * n = n * (40 * (n + N)) := Nat.mul_comm _ _
      omega
    · rcases h.mode with ⟨h1, _⟩ | ⟨h1, _⟩ | ⟨h1, _⟩ <;> omega
theorem rs_c (mc : Nat → Nat) (c : Nat) : ∀ m f, rs mc c f m = rs mc 0 f m + c * m
  | 0, f => by simp [rs]
  | m + 1, f => by
    simp only [rs]
    rw [rs_c mc c m (f + 1), Nat.mul_add]
    omega
theorem rs_list (mc : Nat → Nat) : ∀ (L : List Nat) (f : Nat), (∀ j, j < L.length → mc (f + j) = L.getD j 0) → rs mc 0 f L.length = L.sum
  | [], f, _ => rfl
  | a :: L, f, h => by
    have h0 := h 0 (by simp)
    have h1 := rs_list mc L (f + 1) (fun j hj => by have := h (j + 1) (by simpa using hj); rw [show f + 1 + j = f + (j + 1) by omega, this]; simp [List.getD])
    simp only [List.length_cons, rs, List.sum_cons, h1]
    simp [List.getD] at h0
    omega
/-- The children of each task. -/
def mcOf (L : List Nat) (t : Nat) : Nat := L.getD t 0
theorem wkd_rep (n k : Nat) : wkd (List.replicate n Wk.w0) k = Wk.w0 := by
  unfold wkd
  by_cases h : k < n
  · simp [List.getD, h]
  · simp [List.getD, h]
theorem sm_rep (f : Wk → Nat) (n : Nat) (h : f Wk.w0 = 0) : sm f (List.replicate n Wk.w0) = 0 := sm_zero f _ (fun k _ => by rw [wkd_rep]; exact h)
theorem di_start (L : List Nat) (hn : 0 < n) (hL : 0 < L.length) (hs : L.sum ≤ L.length - 1) :
    DI (mcOf L) L.length n 1 0 (List.replicate n Wk.w0) [0] 1 ∧ mt (mcOf L) L.length (List.replicate n Wk.w0) [0] 1 ≤ 40 * (n + L.length) := by
  have hr : rs (mcOf L) 0 0 L.length = L.sum := rs_list _ L 0 (fun j hj => by simp [mcOf])
  have key : ∀ c, wt (mcOf L) c L.length (List.replicate n Wk.w0) [0] 1 = L.sum + c * L.length := fun c => by
    have h1 := rs_step (mcOf L) c (f := 0) (m := L.length) hL
    have h2 := rs_c (mcOf L) c L.length 0
    have h3 : sm (Wk.wf (mcOf L) c) (List.replicate n Wk.w0) = 0 := sm_rep _ _ rfl
    have h4 : bs (mcOf L) c [0] = mcOf L 0 + c := by simp [bs]
    unfold wt
    simp only [Nat.sub_zero, Nat.zero_add] at h1
    omega
  have k0 := key 0
  have k2 := key 2
  have hb : sm Wk.bf (List.replicate n Wk.w0) = 0 := sm_rep _ _ rfl
  have hh : sm Wk.hf (List.replicate n Wk.w0) = 0 := sm_rep _ _ rfl
  refine ⟨⟨by simp, hn, hL, fun t ht => by simp at ht; omega, fun k t hk => by rw [wkd_rep] at hk; simp [Wk.w0] at hk, fun k _ => by rw [wkd_rep]; rfl, fun k hk => by rw [wkd_rep] at hk; simp [Wk.w0] at hk, by omega, .inl ⟨rfl, Nat.le_refl _, by rw [hh]; rfl, hb⟩⟩, by unfold mt; omega⟩
end
end Go.Proofs.Ytabmmjhcfhplnaa
