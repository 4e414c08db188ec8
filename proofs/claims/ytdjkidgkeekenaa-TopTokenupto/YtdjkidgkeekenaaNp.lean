/- A node of the circle, plainly; balances add up to what is under way. -/
import Derived.Test.YtdjkidgkeekenaaTR
namespace Go.Proofs.Ytdjkidgkeekenaa
open Go.RowKit Go.Lib
set_option linter.unusedVariables false
set_option linter.unusedSimpArgs false
/-- A node: its next access has the number ph, 0: it is over. -/
structure Nd where
  who : Nat
  n : Nat
  sends : List Int
  burst : Int
  ph : Nat
  active : Bool
  left : Int
  sent : Int
  bal : Int
  black : Bool
  m : Int
  q : Int
  k : Int
abbrev wr (x : Int) : Int := IntKind.u64.wrap x
def Nd.tgt (d : Nd) : Nat := 4 + (at_ d.sends d.sent.toNat).toNat
def Nd.cell (d : Nd) : Nat :=
  match d.ph with
  | 2 => d.tgt
  | 3 => 4 + d.who
  | 4 => 4 + d.who
  | 5 => 1
  | 6 => 2
  | 7 => 3
  | 8 => 2
  | 9 => 3
  | 10 => 1
  | _ => 0
def Nd.put8 (d : Nd) : Int := if d.who = 0 then 0 else wr (d.q + wr d.bal)
def Nd.put9 (d : Nd) : Int := if d.who ≠ 0 ∧ (d.k ≠ 0 ∨ d.black = true) then 1 else 0
def Nd.put10 (d : Nd) : Int := if d.who = 0 then (d.n : Int) - 1 else (d.who : Int) - 1
def Nd.acc (d : Nd) (x : Int) : Acc :=
  match d.ph with
  | 1 => ⟨d.who, 1, 0, 0, 0, x, x, true⟩
  | 2 => ⟨d.who, 4, d.tgt, 0, 1, x, wr (x + 1), true⟩
  | 3 => ⟨d.who, 1, (4 + d.who : Nat), 0, 0, x, x, true⟩
  | 4 => ⟨d.who, 3, (4 + d.who : Nat), d.m, d.m - 1, x, if x = d.m then d.m - 1 else x, decide (x = d.m)⟩
  | 5 => ⟨d.who, 1, 1, 0, 0, x, x, true⟩
  | 6 => ⟨d.who, 1, 2, 0, 0, x, x, true⟩
  | 7 => ⟨d.who, 1, 3, 0, 0, x, x, true⟩
  | 8 => ⟨d.who, 2, 2, 0, d.put8, x, d.put8, true⟩
  | 9 => ⟨d.who, 2, 3, 0, d.put9, x, d.put9, true⟩
  | 10 => ⟨d.who, 2, 1, 0, d.put10, x, d.put10, true⟩
  | _ => ⟨d.who, 2, 0, 0, 1, x, 1, true⟩
def Nd.done (d : Nd) (x : Int) : Bool := decide (d.who = 0 ∧ x = 0 ∧ d.black = false ∧ wr (d.q + wr d.bal) = 0)
def Nd.next (d : Nd) (x : Int) : Nd :=
  match d.ph with
  | 0 => d
  | 1 => if x ≠ 0 then { d with ph := 0 } else if d.active = true ∧ 0 < d.left ∧ d.sent < d.sends.length then { d with ph := 2 } else { d with ph := 3, active := false }
  | 2 => { d with ph := 1, sent := d.sent + 1, bal := d.bal + 1, left := d.left - 1 }
  | 3 => { d with ph := if x = 0 then 5 else 4, m := x }
  | 4 => if x = d.m then { d with ph := 1, bal := d.bal - 1, black := true, active := true, left := min (d.left + d.burst) d.sends.length } else { d with ph := 1 }
  | 5 => { d with ph := if x = (d.who : Int) then 6 else 1 }
  | 6 => { d with ph := 7, q := x }
  | 7 => { d with ph := if d.done x = true then 11 else 8, k := x }
  | 8 => { d with ph := 9 }
  | 9 => { d with ph := 10, black := false }
  | 10 => { d with ph := 1 }
  | _ => { d with ph := 0 }
def W64 (x : Int) : Prop := 0 ≤ x ∧ x ≤ 18446744073709551615
theorem wr_range (x : Int) : W64 (wr x) := by
  unfold wr W64
  have h1 := Int.emod_nonneg x (show (18446744073709551616 : Int) ≠ 0 by decide)
  have h2 := Int.emod_lt_of_pos x (show (0 : Int) < 18446744073709551616 by decide)
  have e : IntKind.u64.wrap x = x % 18446744073709551616 := rfl
  rw [e]
  omega
theorem wr_id {x : Int} (h : W64 x) : wr x = x := by
  have e : wr x = x % 18446744073709551616 := rfl
  rw [e]
  unfold W64 at h
  exact Int.emod_eq_of_lt h.1 (by omega)
theorem wr_add (x y : Int) : wr (wr x + y) = wr (x + y) := by
  have e : ∀ x, wr x = x % 18446744073709551616 := fun _ => rfl
  rw [e, e, e]
  exact Int.emod_add_emod x 18446744073709551616 y
theorem wr_sub (x y : Int) : wr (wr x - y) = wr (x - y) := by
  rw [Int.sub_eq_add_neg, Int.sub_eq_add_neg]
  exact wr_add x (-y)
/-- What a node is at every step. -/
structure Wf (n j K : Nat) (d : Nd) : Prop where
  who : d.who = j
  nn : d.n = n
  lt : j < n
  n64 : n ≤ 64
  tg : ∀ k, k < d.sends.length → 0 ≤ at_ d.sends k ∧ at_ d.sends k < (n : Int)
  len : d.sends.length ≤ 10000
  bu : 0 ≤ d.burst ∧ d.burst ≤ 9223372036854775807
  le : 0 ≤ d.left ∧ d.left ≤ d.sends.length
  se : 0 ≤ d.sent ∧ d.sent ≤ d.sends.length
  ba : -(K : Int) ≤ d.bal ∧ d.bal ≤ K
  ph : d.ph ≤ 11
  p2 : d.ph = 2 → d.sent < d.sends.length ∧ 0 < d.left
  p4 : d.ph = 4 → 0 < d.m
  p3 : 3 ≤ d.ph → d.active = false
  m : W64 d.m
  q : W64 d.q
  k : W64 d.k
theorem Wf.cell {n j K : Nat} {d : Nd} (h : Wf n j K d) : d.cell < 4 + n := by
  have h1 := h.lt
  have h2 := h.who
  unfold Nd.cell
  split <;> try omega
  rename_i e
  have h3 := h.p2 e
  have h4 := h.tg d.sent.toNat (by have := h.se; omega)
  unfold Nd.tgt
  omega
theorem Wf.acc_cell {n j K : Nat} {d : Nd} (h : Wf n j K d) (x : Int) (h0 : d.ph ≠ 0) : (d.acc x).cell = (d.cell : Int) := by
  have hp := h.ph
  unfold Nd.acc Nd.cell
  split <;> (rename_i e; simp_all)
theorem Wf.next {n j K : Nat} {d : Nd} (h : Wf n j K d) {x : Int} (hx : W64 x) : Wf n j (K + 1) (d.next x) := by
  have hb := h.ba
  have hl := h.le
  have hs := h.se
  have hbu := h.bu
  have hp := h.ph
  have mono : Wf n j (K + 1) d := ⟨h.who, h.nn, h.lt, h.n64, h.tg, h.len, h.bu, h.le, h.se, by omega, h.ph, h.p2, h.p4, h.p3, h.m, h.q, h.k⟩
  unfold Nd.next
  split
  · exact mono
  · split
    · exact { mono with ph := by simp, p2 := by simp, p4 := by simp, p3 := by simp }
    · split
      · rename_i q
        exact { mono with ph := by simp, p2 := fun _ => ⟨q.2.2, q.2.1⟩, p4 := by simp, p3 := by simp }
      · exact { mono with ph := by simp, p2 := by simp, p4 := by simp, p3 := by simp }
  · rename_i e
    have q := h.p2 e
    exact { mono with ph := by simp, p2 := by simp, p4 := by simp, p3 := by simp, ba := by simp; omega, se := by simp; omega, le := by simp; omega }
  · rename_i e
    have q := h.p3 (by omega)
    have pm : x ≠ 0 → 0 < x := fun e => (by unfold W64 at hx; omega)
    exact { mono with ph := by simp; split <;> omega, p2 := by intro a; exfalso; simp only at a; split at a <;> omega, p4 := fun e => pm (fun e0 => (by simp [e0] at e)), p3 := fun _ => q, m := hx }
  · split
    · exact { mono with ph := by simp, p2 := by simp, p4 := by simp, p3 := by simp, ba := by simp; omega, le := by simp; omega }
    · exact { mono with ph := by simp, p2 := by simp, p4 := by simp, p3 := by simp }
  · rename_i e
    have q := h.p3 (by omega)
    exact { mono with ph := by simp; split <;> omega, p2 := by intro a; exfalso; simp only at a; split at a <;> omega, p4 := by intro a; exfalso; simp only at a; split at a <;> omega, p3 := fun _ => q }
  · rename_i e
    have q := h.p3 (by omega)
    exact { mono with ph := by simp, p2 := by simp, p4 := by simp, p3 := fun _ => q, q := hx }
  · rename_i e
    have q := h.p3 (by omega)
    exact { mono with ph := by simp; split <;> omega, p2 := by intro a; exfalso; simp only at a; split at a <;> omega, p4 := by intro a; exfalso; simp only at a; split at a <;> omega, p3 := fun _ => q, k := hx }
  · rename_i e
    have q := h.p3 (by omega)
    exact { mono with ph := by simp, p2 := by simp, p4 := by simp, p3 := fun _ => q }
  · rename_i e
    have q := h.p3 (by omega)
    exact { mono with ph := by simp, p2 := by simp, p4 := by simp, p3 := fun _ => q }
  · exact { mono with ph := by simp, p2 := by simp, p4 := by simp, p3 := by simp }
  · exact { mono with ph := by simp, p2 := by simp, p4 := by simp, p3 := by simp }
theorem Wf.mono {n j K K' : Nat} {d : Nd} (h : Wf n j K d) (hk : K ≤ K') : Wf n j K' d :=
  ⟨h.who, h.nn, h.lt, h.n64, h.tg, h.len, h.bu, h.le, h.se, by have := h.ba; omega, h.ph, h.p2, h.p4, h.p3, h.m, h.q, h.k⟩
def sumF (f : Nat → Int) : Nat → Int
  | 0 => 0
  | n + 1 => sumF f n + f n
def upd {α : Type} (f : Nat → α) (i : Nat) (y : α) (j : Nat) : α := if j = i then y else f j
theorem upd_same {α : Type} (f : Nat → α) (i : Nat) (y : α) : upd f i y i = y := if_pos rfl
theorem upd_other {α : Type} (f : Nat → α) {i j : Nat} (y : α) (h : j ≠ i) : upd f i y j = f j := if_neg h
theorem sumF_congr {f g : Nat → Int} : ∀ {n : Nat}, (∀ j, j < n → f j = g j) → sumF f n = sumF g n
  | 0, _ => rfl
  | n + 1, h => by
    unfold sumF
    rw [sumF_congr (n := n) (fun j hj => h j (by omega)), h n (by omega)]
theorem sumF_at {f g : Nat → Int} {i : Nat} : ∀ {n : Nat}, i < n → (∀ j, j < n → j ≠ i → f j = g j) → sumF f n = sumF g n + (f i - g i)
  | 0, h, _ => by omega
  | n + 1, h, hf => by
    unfold sumF
    by_cases e : i = n
    · subst e
      rw [sumF_congr (g := g) (fun j hj => hf j (by omega) (by omega))]
      omega
    · rw [sumF_at (g := g) (i := i) (n := n) (by omega) (fun j hj hn => hf j (by omega) hn), hf n (by omega) (by omega)]
      omega
theorem sumF_pos {f : Nat → Int} : ∀ {n : Nat}, (∀ j, j < n → 0 ≤ f j) → 0 ≤ sumF f n ∧ ∀ j, j < n → f j ≤ sumF f n
  | 0, _ => ⟨Int.le_refl _, fun j hj => by omega⟩
  | n + 1, h => by
    obtain ⟨h1, h2⟩ := sumF_pos (n := n) (fun j hj => h j (by omega))
    unfold sumF
    have h3 := h n (by omega)
    refine ⟨by omega, fun j hj => ?_⟩
    by_cases e : j = n
    · subst e; omega
    · have := h2 j (by omega); omega
theorem sumF_le {f : Nat → Int} {K : Int} : ∀ {n : Nat}, (∀ j, j < n → f j ≤ K) → sumF f n ≤ n * K
  | 0, _ => by simp [sumF]
  | n + 1, h => by
    have h1 := sumF_le (n := n) (fun j hj => h j (by omega))
    have h2 := h n (by omega)
    unfold sumF
    have e : ((n + 1 : Nat) : Int) * K = n * K + K := by rw [Int.natCast_add, Int.add_mul]; simp
    omega
theorem sumF_ge {f : Nat → Int} {K : Int} : ∀ {n : Nat}, (∀ j, j < n → -K ≤ f j) → -(n * K) ≤ sumF f n
  | 0, _ => by simp [sumF]
  | n + 1, h => by
    have h1 := sumF_ge (n := n) (fun j hj => h j (by omega))
    have h2 := h n (by omega)
    unfold sumF
    have e : ((n + 1 : Nat) : Int) * K = n * K + K := by rw [Int.natCast_add, Int.add_mul]; simp
    omega
theorem nth_set (cs : List Int) (i j : Nat) (x : Int) (hi : i < cs.length) : nth (cs.set i x) j = if j = i then x else nth cs j := by
  unfold nth
  simp only [List.getD_eq_getElem?_getD, List.getElem?_set]
  by_cases e : i = j
  · subst e; simp [hi]
  · rw [if_neg e, if_neg (fun q => e q.symm)]
/-- The circle at every step. -/
structure Sys (n K : Nat) (ds : Nat → Nd) (cs : List Int) : Prop where
  len : cs.length = 4 + n
  wf : ∀ j, j < n → Wf n j K (ds j)
  sum : sumF (fun j => (ds j).bal) n = sumF (fun j => nth cs (4 + j)) n
  wd : ∀ i, i < 4 + n → W64 (nth cs i)
theorem Sys.mail {n K : Nat} {ds : Nat → Nd} {cs : List Int} (h : Sys n K ds cs) (hn : n ≤ 64) {j : Nat} (hj : j < n) : nth cs (4 + j) ≤ 64 * (K : Int) := by
  have h1 := (sumF_pos (f := fun j => nth cs (4 + j)) (n := n) (fun j hj => (h.wd (4 + j) (by omega)).1)).2 j hj
  have h2 := sumF_le (f := fun j => (ds j).bal) (n := n) (K := K) (fun j hj => (h.wf j hj).ba.2)
  rw [← h.sum] at h1
  have h3 : (n : Int) * (K : Int) ≤ 64 * (K : Int) := Int.mul_le_mul_of_nonneg_right (by omega) (by omega)
  omega
theorem Nd.put10_range {n j K : Nat} {d : Nd} (h : Wf n j K d) : W64 d.put10 := by
  have := h.who; have := h.nn; have := h.lt; have := h.n64
  unfold Nd.put10 W64
  split <;> omega
theorem Nd.put9_range (d : Nd) : W64 d.put9 := by unfold Nd.put9 W64; split <;> omega
theorem Nd.put8_range (d : Nd) : W64 d.put8 := by
  unfold Nd.put8
  split
  · unfold W64; omega
  · exact wr_range _
theorem Sys.step {n K : Nat} {ds : Nat → Nd} {cs : List Int} {i : Nat} (h : Sys n K ds cs) (hn : n ≤ 64) (hK : K ≤ 1099511627776) (hi : i < n) (h0 : (ds i).ph ≠ 0) :
    Sys n (K + 1) (upd ds i ((ds i).next (nth cs (ds i).cell))) (cs.set (ds i).cell ((ds i).acc (nth cs (ds i).cell)).left) := by
  have hw := h.wf i hi
  have hc := hw.cell
  have hwd := h.wd _ hc
  generalize hx : nth cs (ds i).cell = x at hwd ⊢
  obtain ⟨d, hd⟩ : ∃ d, d = ds i := ⟨_, rfl⟩
  rw [← hd] at hw hc h0 hx ⊢
  have hlen : d.cell < cs.length := by rw [h.len]; exact hc
  have hleft : W64 (d.acc x).left := by
    unfold Nd.acc
    have hm := hw.m
    unfold W64 at hm hwd
    split
    all_goals try (first | exact hwd | exact d.put8_range | exact d.put9_range | exact Nd.put10_range hw)
    · exact wr_range _
    · rename_i e
      have := hw.p4 e
      unfold W64
      simp only
      split <;> omega
    · unfold W64; simp
  refine ⟨by rw [List.length_set]; exact h.len, fun j hj => ?_, ?_, fun j hj => ?_⟩
  · by_cases e : j = i
    · subst e; rw [upd_same]; exact hw.next hwd
    · rw [upd_other _ _ e]; exact (h.wf j hj).mono (by omega)
  · have e1 : sumF (fun j => (upd ds i (d.next x) j).bal) n = sumF (fun j => (ds j).bal) n + ((d.next x).bal - d.bal) := by
      rw [sumF_at (g := fun j => (ds j).bal) (i := i) hi (fun j hj hn => by rw [upd_other _ _ hn])]
      simp only [upd_same, ← hd]
    rw [e1, h.sum]
    by_cases hmail : 4 ≤ d.cell
    · have hcn : d.cell - 4 < n := by omega
      have e2 : sumF (fun j => nth (cs.set d.cell (d.acc x).left) (4 + j)) n = sumF (fun j => nth cs (4 + j)) n + ((d.acc x).left - x) := by
        rw [sumF_at (g := fun j => nth cs (4 + j)) (i := d.cell - 4) hcn (fun j hj hn => by rw [nth_set _ _ _ _ hlen, if_neg (by omega)])]
        rw [nth_set _ _ _ _ hlen, if_pos (by omega)]
        rw [show 4 + (d.cell - 4) = d.cell by omega, hx]
      rw [e2]
      have hmx := h.mail hn hcn
      rw [show 4 + (d.cell - 4) = d.cell by omega, hx] at hmx
      have hp := hw.ph
      have key : (d.next x).bal - d.bal = (d.acc x).left - x := by
        unfold W64 at hwd
        unfold Nd.next Nd.acc
        unfold Nd.cell at hmail
        split at hmail <;> rename_i e <;> (try simp only [e])
        · have : wr (x + 1) = x + 1 := wr_id (by unfold W64; omega)
          rw [this]; omega
        · omega
        · split
          · rename_i e1; simp only [e1, if_true]; omega
          · rename_i e1; simp only [e1, if_false]; omega
        all_goals omega
      rw [key]
    · have e2 : sumF (fun j => nth (cs.set d.cell (d.acc x).left) (4 + j)) n = sumF (fun j => nth cs (4 + j)) n := sumF_congr (fun j hj => by
        rw [nth_set _ _ _ _ hlen, if_neg (by omega)])
      rw [e2]
      have key : (d.next x).bal = d.bal := by
        unfold Nd.next
        unfold Nd.cell at hmail
        have hp := hw.ph
        split <;> rename_i e <;> simp only [e] at hmail <;> try rfl
        · split
          · rfl
          · split <;> rfl
        · unfold Nd.tgt at hmail; omega
        · omega
      rw [key]; omega
  · rw [nth_set _ _ _ _ hlen]
    split
    · exact hleft
    · exact h.wd j hj
theorem Sys.mono {n K K' : Nat} {ds : Nat → Nd} {cs : List Int} (h : Sys n K ds cs) (hk : K ≤ K') : Sys n K' ds cs := ⟨h.len, fun j hj => (h.wf j hj).mono hk, h.sum, h.wd⟩
end Go.Proofs.Ytdjkidgkeekenaa
