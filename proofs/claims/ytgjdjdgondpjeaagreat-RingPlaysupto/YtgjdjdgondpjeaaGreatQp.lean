/- A ring between two accesses, plainly. -/
import Derived.Test.YtgjdjdgondpjeaaGreatTa
namespace Go.Proofs.YtgjdjdgondpjeaaGreat
open Go.RowKit Go.Lib
set_option linter.unusedVariables false
set_option linter.unusedSimpArgs false
/-- A handle. -/
structure Hs where
  ph : Nat
  place : Int
  t : Tk
  st : Int
  out : List Tk
  put : Bool
def uw (x : Int) : Int := x % 18446744073709551616
def upd {α : Type} (f : Nat → α) (i : Nat) (a : α) : Nat → α := fun j => if j = i then a else f j
theorem upd_same {α : Type} (f : Nat → α) (i : Nat) (a : α) : upd f i a i = a := by simp [upd]
theorem upd_other {α : Type} (f : Nat → α) {i j : Nat} (a : α) (h : j ≠ i) : upd f i a j = f j := by simp [upd, h]
def Hs.new : Hs := ⟨0, 0, (0, 0), 1, [], false⟩
def Hs.ins (d : Hs) (t : Tk) : Hs := { d with ph := 1, t := t, st := 0, out := [], put := true }
def Hs.tak (d : Hs) : Hs := { d with ph := 7, t := (0, 0), st := 0, out := [], put := false }
def Hs.fin (d : Hs) (st : Int) (out : List Tk) : Hs := { d with ph := 0, st := st, out := out }
def slotN (C : Nat) (p : Int) : Nat := (p % (C : Int)).toNat
def turnN (b C : Nat) (p : Int) : Nat := b + 2 + 3 * slotN C p
/-- The cell of the next access. -/
def Hs.cell (b C : Nat) (d : Hs) : Nat :=
  match d.ph with
  | 1 => b
  | 2 => turnN b C d.place
  | 3 => b
  | 4 => turnN b C d.place + 1
  | 5 => turnN b C d.place + 2
  | 6 => turnN b C d.place
  | 7 => b + 1
  | 8 => turnN b C d.place
  | 9 => b + 1
  | 10 => turnN b C d.place + 1
  | 11 => turnN b C d.place + 2
  | 12 => turnN b C d.place
  | _ => b
/-- What it leaves in the cell that holds x. -/
def Hs.left (C : Nat) (d : Hs) (x : Int) : Int :=
  match d.ph with
  | 3 => if x = d.place then uw (d.place + 1) else x
  | 4 => d.t.1
  | 5 => d.t.2
  | 6 => uw (d.place + 1)
  | 9 => if x = d.place then uw (d.place + 1) else x
  | 12 => uw (d.place + C)
  | _ => x
/-- The handle behind an access that saw x. -/
def Hs.next (C : Nat) (d : Hs) (x : Int) : Hs :=
  match d.ph with
  | 1 => { d with ph := 2, place := x }
  | 2 => if x = d.place then { d with ph := 3 } else if x < d.place then d.fin 3 [d.t] else { d with ph := 1 }
  | 3 => if x = d.place then { d with ph := 4 } else { d with ph := 1 }
  | 4 => { d with ph := 5 }
  | 5 => { d with ph := 6 }
  | 6 => d.fin 1 []
  | 7 => { d with ph := 8, place := x }
  | 8 => if x = uw (d.place + 1) then { d with ph := 9 } else if x < uw (d.place + 1) then d.fin 2 [] else { d with ph := 7 }
  | 9 => if x = d.place then { d with ph := 10 } else { d with ph := 7 }
  | 10 => { d with ph := 11, t := (x, d.t.2) }
  | 11 => { d with ph := 12, t := (d.t.1, x) }
  | 12 => d.fin 5 [d.t]
  | _ => d
def Hs.pg (d : Hs) : Option Int := if 4 ≤ d.ph ∧ d.ph ≤ 6 then some d.place else none
def Hs.gg (d : Hs) : Option Int := if 10 ≤ d.ph ∧ d.ph ≤ 12 then some d.place else none
def rowAt (l : List Tk) (p : Int) : Tk := l[p.toNat]?.getD (0, 0)
theorem rowAt_app {l : List Tk} {t : Tk} {p : Int} (h : p < l.length) (h0 : 0 ≤ p) : rowAt (l ++ [t]) p = rowAt l p := by
  unfold rowAt
  rw [List.getElem?_append_left (by omega)]
theorem rowAt_last {l : List Tk} {t : Tk} : rowAt (l ++ [t]) l.length = t := by
  unfold rowAt
  simp
theorem nth_set' (l : List Int) (i j : Nat) (x : Int) (h : i < l.length) : nth (l.set i x) j = if j = i then x else nth l j := by
  unfold nth
  by_cases e : j = i
  · subst e; simp [h]
  · simp [e, List.getElem?_set, show ¬ i = j from fun q => e q.symm]
theorem mod_lt {C p q : Int} (hC : 0 < C) (h : p % C = q % C) (h1 : p < q + C) (h2 : q < p + C) : p = q := by
  have e1 := Int.emod_add_mul_ediv p C
  have e2 := Int.emod_add_mul_ediv q C
  rcases Int.lt_trichotomy (p / C) (q / C) with e | e | e
  · have : C * (p / C + 1) ≤ C * (q / C) := Int.mul_le_mul_of_nonneg_left (by omega) (by omega)
    rw [Int.mul_add] at this
    omega
  · rw [e] at e1; omega
  · have : C * (q / C + 1) ≤ C * (p / C) := Int.mul_le_mul_of_nonneg_left (by omega) (by omega)
    rw [Int.mul_add] at this
    omega
/-- A sum over the first n. -/
def sm : Nat → (Nat → Nat) → Nat
  | 0, _ => 0
  | n + 1, f => sm n f + f n
theorem sm_congr {n : Nat} {f g : Nat → Nat} (h : ∀ i, i < n → f i = g i) : sm n f = sm n g := by
  induction n with
  | zero => rfl
  | succ n ih => simp only [sm]; rw [ih (fun i hi => h i (by omega)), h n (by omega)]
theorem sm_one {n k : Nat} {f g : Nat → Nat} (hk : k < n) (h : ∀ i, i < n → i ≠ k → f i = g i) : sm n f + g k = sm n g + f k := by
  induction n with
  | zero => omega
  | succ n ih =>
    simp only [sm]
    by_cases e : k = n
    · subst e
      rw [sm_congr (fun i hi => h i (by omega) (by omega))]
      omega
    · have := ih (by omega) (fun i hi hn => h i (by omega) hn)
      rw [h n (by omega) (by omega)]
      omega
/-- What is so of a handle. -/
structure HI (b C : Nat) (xs : List Int) (T H : Int) (row : List Tk) (d : Hs) : Prop where
  p0 : 0 ≤ d.place
  p1 : d.ph ≤ 12
  p2 : d.ph = 2 → d.place ≤ T
  p3 : d.ph = 3 → d.place ≤ T ∧ (d.place = T → nth xs (turnN b C d.place) = d.place)
  p8 : d.ph = 8 → d.place ≤ H
  p9 : d.ph = 9 → d.place ≤ H ∧ d.place < T ∧ (d.place = H → nth xs (turnN b C d.place) = d.place + 1)
  pp : 4 ≤ d.ph → d.ph ≤ 6 → d.place < T ∧ nth xs (turnN b C d.place) = d.place ∧ rowAt row d.place = d.t
  p5 : 5 ≤ d.ph → d.ph ≤ 6 → nth xs (turnN b C d.place + 1) = d.t.1
  p6 : d.ph = 6 → nth xs (turnN b C d.place + 2) = d.t.2
  gg : 10 ≤ d.ph → d.place < H ∧ nth xs (turnN b C d.place) = d.place + 1 ∧ nth xs (turnN b C d.place + 1) = (rowAt row d.place).1 ∧ nth xs (turnN b C d.place + 2) = (rowAt row d.place).2
  g1 : 11 ≤ d.ph → d.t.1 = (rowAt row d.place).1
  g2 : 12 ≤ d.ph → d.t.2 = (rowAt row d.place).2
def ks (b : Nat) (xs : List Int) (pl : Nat → Int) (H : Int) (row : List Tk) (t : Tk) (j : Nat) : Nat := if nth xs (b + 2 + 3 * j) = pl j + 1 ∧ H ≤ pl j ∧ rowAt row (pl j) = t then 1 else 0
def pgc (t : Tk) (d : Hs) : Nat := if d.pg ≠ none ∧ d.t = t then 1 else 0
/-- What is so of a ring between two accesses. -/
structure RI (b C : Nat) (xs : List Int) (n : Nat) (ds : Nat → Hs) (row : List Tk) (H : Int) (pl : Nat → Int) : Prop where
  c2 : 2 ≤ C
  cb : C ≤ 65536
  len : b + 2 + 3 * C ≤ xs.length
  tl : nth xs b = row.length
  hd : nth xs (b + 1) = H
  h0 : 0 ≤ H ∧ H ≤ row.length
  pl0 : ∀ j, j < C → 0 ≤ pl j ∧ pl j % (C : Int) = (j : Int) ∧ pl j < H + C ∧ (row.length : Int) ≤ pl j + C
  sl : ∀ j, j < C → (nth xs (b + 2 + 3 * j) = pl j ∧ H ≤ pl j) ∨ (nth xs (b + 2 + 3 * j) = pl j + 1 ∧ pl j < row.length ∧ nth xs (b + 2 + 3 * j + 1) = (rowAt row (pl j)).1 ∧ nth xs (b + 2 + 3 * j + 2) = (rowAt row (pl j)).2)
  o1 : ∀ j, j < C → nth xs (b + 2 + 3 * j) = pl j → pl j < row.length → ∃ i, i < n ∧ (ds i).pg = some (pl j)
  o2 : ∀ j, j < C → nth xs (b + 2 + 3 * j) = pl j + 1 → pl j < H → ∃ i, i < n ∧ (ds i).gg = some (pl j)
  hs : ∀ i, i < n → HI b C xs row.length H row (ds i)
  u1 : ∀ i k p, i < n → k < n → (ds i).pg = some p → (ds k).pg = some p → i = k
  u2 : ∀ i k p, i < n → k < n → (ds i).gg = some p → (ds k).gg = some p → i = k
  ct : ∀ t, sm C (ks b xs pl H row t) + sm n (fun i => pgc t (ds i)) = (row.drop H.toNat).count t
section
variable {b C n : Nat} {xs : List Int} {ds : Nat → Hs} {row : List Tk} {H : Int} {pl : Nat → Int}
theorem slotN_lt {C : Nat} (p : Int) (hC : 2 ≤ C) : slotN C p < C ∧ ((slotN C p : Nat) : Int) = p % (C : Int) := by
  unfold slotN
  have h1 := Int.emod_nonneg p (show (C : Int) ≠ 0 by omega)
  have h2 := Int.emod_lt_of_pos p (show (0 : Int) < C by omega)
  omega
theorem slot_of {C : Nat} {p : Int} {j : Nat} (hC : 2 ≤ C) (hj : p % (C : Int) = (j : Int)) : slotN C p = j := by
  have := (slotN_lt p hC).2
  omega
theorem slot_eq {C : Nat} {p q : Int} (hC : 2 ≤ C) (h : slotN C p = slotN C q) : p % (C : Int) = q % (C : Int) := by
  have h1 := (slotN_lt p hC).2
  have h2 := (slotN_lt q hC).2
  rw [h] at h1
  omega
theorem slot_ne {C : Nat} {p q : Int} (hC : 2 ≤ C) (h : slotN C p = slotN C q) (e : q = p + 1) : False := by
  have := mod_lt (C := (C : Int)) (by omega) (slot_eq hC h) (by omega) (by omega)
  omega
theorem RI.nC (h : RI b C xs n ds row H pl) : 2 ≤ C := h.c2
theorem RI.plm (h : RI b C xs n ds row H pl) {j : Nat} (hj : j < C) : slotN C (pl j) = j := slot_of h.c2 (h.pl0 j hj).2.1
theorem RI.mem (h : RI b C xs n ds row H pl) {p : Int} (h1 : H ≤ p) (h2 : p < row.length) : pl (slotN C p) = p := by
  have hC := h.c2
  obtain ⟨a1, a2⟩ := slotN_lt p hC
  obtain ⟨_, b2, b3, b4⟩ := h.pl0 _ a1
  exact mod_lt (C := (C : Int)) (by omega) (by rw [b2, a2]) (by omega) (by omega)
theorem RI.turn0 (h : RI b C xs n ds row H pl) {p : Int} (e : nth xs (turnN b C p) = p) : pl (slotN C p) = p := by
  have hC := h.c2
  obtain ⟨a1, a2⟩ := slotN_lt p hC
  obtain ⟨_, b2, b3, b4⟩ := h.pl0 _ a1
  unfold turnN at e
  rcases h.sl _ a1 with ⟨q, _⟩ | ⟨q, _⟩
  · omega
  · exact (slot_ne hC (p := pl (slotN C p)) (q := p) (by rw [h.plm a1]) (by omega)).elim
theorem RI.turn1 (h : RI b C xs n ds row H pl) {p : Int} (e : nth xs (turnN b C p) = p + 1) : pl (slotN C p) = p := by
  have hC := h.c2
  obtain ⟨a1, a2⟩ := slotN_lt p hC
  unfold turnN at e
  rcases h.sl _ a1 with ⟨q, _⟩ | ⟨q, _⟩
  · exact (slot_ne hC (q := pl (slotN C p)) (p := p) (by rw [h.plm a1]) (by omega)).elim
  · omega
def Hs.own (d : Hs) : Prop := (4 ≤ d.ph ∧ d.ph ≤ 6) ∨ 10 ≤ d.ph
theorem Hs.pg_some {d : Hs} (h : 4 ≤ d.ph ∧ d.ph ≤ 6) : d.pg = some d.place := by unfold Hs.pg; rw [if_pos h]
theorem Hs.pg_none {d : Hs} (h : ¬ (4 ≤ d.ph ∧ d.ph ≤ 6)) : d.pg = none := by unfold Hs.pg; rw [if_neg h]
theorem Hs.gg_some {d : Hs} (h : 10 ≤ d.ph ∧ d.ph ≤ 12) : d.gg = some d.place := by unfold Hs.gg; rw [if_pos h]
theorem Hs.gg_none {d : Hs} (h : ¬ (10 ≤ d.ph ∧ d.ph ≤ 12)) : d.gg = none := by unfold Hs.gg; rw [if_neg h]
theorem Hs.pg_is {d : Hs} {p : Int} (h : d.pg = some p) : (4 ≤ d.ph ∧ d.ph ≤ 6) ∧ p = d.place := by
  unfold Hs.pg at h
  split at h
  · rename_i q; cases h; exact ⟨q, rfl⟩
  · cases h
theorem Hs.gg_is {d : Hs} {p : Int} (h : d.gg = some p) : (10 ≤ d.ph ∧ d.ph ≤ 12) ∧ p = d.place := by
  unfold Hs.gg at h
  split at h
  · rename_i q; cases h; exact ⟨q, rfl⟩
  · cases h
theorem RI.apart (h : RI b C xs n ds row H pl) {i k : Nat} (hi : i < n) (hk : k < n) (hik : i ≠ k) (h1 : (ds i).own) (h2 : (ds k).own) : slotN C (ds i).place ≠ slotN C (ds k).place := by
  intro e
  have hC := h.c2
  have I := h.hs i hi; have K := h.hs k hk
  have et : turnN b C (ds i).place = turnN b C (ds k).place := by unfold turnN; rw [e]
  rcases h1 with a | a <;> rcases h2 with c | c
  · have x := (I.pp a.1 a.2).2.1; have y := (K.pp c.1 c.2).2.1
    rw [et, y] at x
    exact hik (h.u1 i k _ hi hk (Hs.pg_some a) (by rw [Hs.pg_some c, x]))
  · have x := (I.pp a.1 a.2).2.1; have y := (K.gg c).2.1
    rw [et, y] at x
    exact slot_ne hC e.symm x.symm
  · have x := (I.gg a).2.1; have y := (K.pp c.1 c.2).2.1
    rw [et, y] at x
    exact slot_ne hC e x
  · have x := (I.gg a).2.1; have y := (K.gg c).2.1
    rw [et, y] at x
    have e : (ds k).place = (ds i).place := by omega
    exact hik (h.u2 i k _ hi hk (Hs.gg_some ⟨a, I.p1⟩) (by rw [Hs.gg_some ⟨c, K.p1⟩, e]))
theorem HI.frame {xs' : List Int} {T T' H H' : Int} {row row' : List Tk} {d : Hs} (h : HI b C xs T H row d) (hT : T ≤ T') (hH : H ≤ H') (hHT : H ≤ T) (hr : ∀ p, 0 ≤ p → p < T → rowAt row' p = rowAt row p)
    (h3 : d.ph = 3 → d.place = T' → nth xs' (turnN b C d.place) = d.place) (h9 : d.ph = 9 → d.place = H' → nth xs' (turnN b C d.place) = d.place + 1)
    (hp : d.own → nth xs' (turnN b C d.place) = nth xs (turnN b C d.place) ∧ nth xs' (turnN b C d.place + 1) = nth xs (turnN b C d.place + 1) ∧ nth xs' (turnN b C d.place + 2) = nth xs (turnN b C d.place + 2)) : HI b C xs' T' H' row' d := by
  have p0 := h.p0
  refine ⟨p0, h.p1, fun e => by have := h.p2 e; omega, fun e => ⟨by have := h.p3 e; omega, h3 e⟩, fun e => by have := h.p8 e; omega, fun e => ⟨by have := h.p9 e; omega, by have := h.p9 e; omega, h9 e⟩, fun a c => ?_, fun a c => ?_, fun e => ?_, fun a => ?_, fun a => ?_, fun a => ?_⟩
  · obtain ⟨q1, q2, q3⟩ := h.pp a c
    rw [(hp (.inl ⟨a, c⟩)).1, hr _ p0 q1]
    exact ⟨by omega, q2, q3⟩
  · rw [(hp (.inl ⟨by omega, c⟩)).2.1]; exact h.p5 a c
  · rw [(hp (.inl ⟨by omega, by omega⟩)).2.2]; exact h.p6 e
  · obtain ⟨q1, q2, q3, q4⟩ := h.gg a
    obtain ⟨r1, r2, r3⟩ := hp (.inr a)
    rw [r1, r2, r3, hr _ p0 (by omega)]
    exact ⟨by omega, q2, q3, q4⟩
  · rw [hr _ p0 (by have := h.gg (by omega); omega)]; exact h.g1 a
  · rw [hr _ p0 (by have := h.gg (by omega); omega)]; exact h.g2 a
theorem pgc_none {t : Tk} {d : Hs} (h : d.pg = none) : pgc t d = 0 := by unfold pgc; simp [h]
theorem pgc_some {t : Tk} {d : Hs} {p : Int} (h : d.pg = some p) : pgc t d = if d.t = t then 1 else 0 := by unfold pgc; simp [h]
/-- Nothing in the cells turns, and what handle i has claimed stays. -/
theorem RI.same (h : RI b C xs n ds row H pl) {i : Nat} (hi : i < n) {d' : Hs} (g1 : (ds i).pg = none) (g2 : d'.pg = none) (g3 : d'.gg = (ds i).gg) (hI : HI b C xs row.length H row d') : RI b C xs n (upd ds i d') row H pl := by
  refine ⟨h.c2, h.cb, h.len, h.tl, h.hd, h.h0, h.pl0, h.sl, fun j hj e1 e2 => ?_, fun j hj e1 e2 => ?_, fun k hk => ?_, fun k l p hk hl e1 e2 => ?_, fun k l p hk hl e1 e2 => ?_, fun t => ?_⟩
  · obtain ⟨k, hk, e⟩ := h.o1 j hj e1 e2
    refine ⟨k, hk, ?_⟩
    by_cases q : k = i
    · subst q; rw [g1] at e; cases e
    · rw [upd_other _ _ q]; exact e
  · obtain ⟨k, hk, e⟩ := h.o2 j hj e1 e2
    refine ⟨k, hk, ?_⟩
    by_cases q : k = i
    · subst q; rw [upd_same, g3]; exact e
    · rw [upd_other _ _ q]; exact e
  · by_cases q : k = i
    · subst q; rw [upd_same]; exact hI
    · rw [upd_other _ _ q]; exact h.hs k hk
  · by_cases q : k = i
    · subst q; rw [upd_same, g2] at e1; cases e1
    · by_cases q2 : l = i
      · subst q2; rw [upd_same, g2] at e2; cases e2
      · rw [upd_other _ _ q] at e1; rw [upd_other _ _ q2] at e2; exact h.u1 k l p hk hl e1 e2
  · have e3 : ∀ m, (upd ds i d' m).gg = (ds m).gg := fun m => by
      by_cases q : m = i
      · subst q; rw [upd_same, g3]
      · rw [upd_other _ _ q]
    rw [e3] at e1 e2
    exact h.u2 k l p hk hl e1 e2
  · rw [← h.ct t]
    congr 1
    refine sm_congr fun m hm => ?_
    by_cases q : m = i
    · subst q; simp only [upd_same]; rw [pgc_none g1, pgc_none g2]
    · simp only [upd_other _ _ q]
/-- The place T is claimed. -/
theorem RI.claim (h : RI b C xs n ds row H pl) {i : Nat} (hi : i < n) (e3 : (ds i).ph = 3) (eT : (ds i).place = row.length) : RI b C (xs.set b ((row.length : Int) + 1)) n (upd ds i { ds i with ph := 4 }) (row ++ [(ds i).t]) H pl := by
  have hC := h.c2
  have hL := h.len
  have h0 := h.h0
  have I := h.hs i hi
  have ns : ∀ j, j ≠ b → nth (xs.set b ((row.length : Int) + 1)) j = nth xs j := fun j hj => by rw [nth_set' _ _ _ _ (by omega), if_neg hj]
  have tn : ∀ p k, nth (xs.set b ((row.length : Int) + 1)) (turnN b C p + k) = nth xs (turnN b C p + k) := fun p k => ns _ (by unfold turnN; omega)
  have tn0 : ∀ p, nth (xs.set b ((row.length : Int) + 1)) (turnN b C p) = nth xs (turnN b C p) := fun p => tn p 0
  have hti := (I.p3 e3).2 eT
  have hpi := h.turn0 hti
  have hl1 : (((row ++ [(ds i).t]).length : Nat) : Int) = (row.length : Int) + 1 := by simp
  have gi : (ds i).pg = none := Hs.pg_none (by omega)
  have gn : ({ ds i with ph := 4 } : Hs).pg = some (ds i).place := Hs.pg_some ⟨by simp, by simp⟩
  have gn2 : ({ ds i with ph := 4 } : Hs).gg = none := Hs.gg_none (by simp)
  have gi2 : (ds i).gg = none := Hs.gg_none (by omega)
  obtain ⟨sl1, sl2⟩ := slotN_lt (ds i).place hC
  have ra : ∀ p, 0 ≤ p → p < (row.length : Int) → rowAt (row ++ [(ds i).t]) p = rowAt row p := fun p a c => rowAt_app c a
  refine ⟨hC, h.cb, by rw [List.length_set]; exact hL, by rw [nth_set' _ _ _ _ (by omega), if_pos rfl, hl1], by rw [ns _ (by omega)]; exact h.hd, by rw [hl1]; omega, fun j hj => ?_, fun j hj => ?_, fun j hj => ?_, fun j hj => ?_, fun k hk => ?_, fun k l p hk hl a c => ?_, fun k l p hk hl a c => ?_, fun t => ?_⟩
  · obtain ⟨a1, a2, a3, a4⟩ := h.pl0 j hj
    refine ⟨a1, a2, a3, ?_⟩
    rw [hl1]
    by_cases q : pl j + C = row.length
    · have : slotN C (ds i).place = j := by
        refine slot_of hC ?_
        rw [eT, ← q, Int.add_emod_right, a2]
      rw [this] at hpi
      omega
    · omega
  · rw [ns _ (by omega), ns _ (by omega), ns _ (by omega), hl1]
    rcases h.sl j hj with a | ⟨a1, a2, a3⟩
    · exact .inl a
    · exact .inr ⟨a1, by omega, by rw [ra _ (h.pl0 j hj).1 a2]; exact a3⟩
  · rw [ns _ (by omega), hl1]
    intro a1 a2
    by_cases q : pl j = row.length
    · exact ⟨i, hi, by rw [upd_same, gn, eT, q]⟩
    · obtain ⟨k, hk, e⟩ := h.o1 j hj a1 (by omega)
      refine ⟨k, hk, ?_⟩
      rw [upd_other _ _ (fun e' => by rw [e', gi] at e; cases e)]
      exact e
  · rw [ns _ (by omega)]
    intro a1 a2
    obtain ⟨k, hk, e⟩ := h.o2 j hj a1 a2
    refine ⟨k, hk, ?_⟩
    rw [upd_other _ _ (fun e' => by rw [e', gi2] at e; cases e)]
    exact e
  · rw [hl1]
    by_cases q : k = i
    · subst q
      rw [upd_same]
      refine ⟨I.p0, by simp, by simp, by simp, by simp, by simp, fun _ _ => ⟨by simp only; omega, by simp only; rw [tn0]; exact hti, ?_⟩, by simp, by simp, by simp, by simp, by simp⟩
      simp only; rw [eT]; exact rowAt_last
    · rw [upd_other _ _ q]
      have K := h.hs k hk
      exact K.frame (by omega) (by omega) h0.2 ra (fun e a => by have := (K.p3 e).1; omega) (fun e a => by rw [tn0]; exact (K.p9 e).2.2 a) (fun _ => ⟨tn0 _, tn _ 1, tn _ 2⟩)
  · have no : ∀ m p, m < n → m ≠ i → (ds m).pg = some p → p ≠ (ds i).place := fun m p hm hmi e e2 => by
      obtain ⟨q1, q2⟩ := Hs.pg_is e
      have := ((h.hs m hm).pp q1.1 q1.2).1
      omega
    by_cases q : k = i
    · by_cases q2 : l = i
      · omega
      · rw [upd_other _ _ q2] at c; subst q; rw [upd_same, gn] at a; cases a; exact (no l _ hl q2 c rfl).elim
    · by_cases q2 : l = i
      · rw [upd_other _ _ q] at a; subst q2; rw [upd_same, gn] at c; cases c; exact (no k _ hk q a rfl).elim
      · rw [upd_other _ _ q] at a; rw [upd_other _ _ q2] at c; exact h.u1 k l p hk hl a c
  · have e3 : ∀ m, (upd ds i { ds i with ph := 4 } m).gg = (ds m).gg := fun m => by
      by_cases q : m = i
      · subst q; rw [upd_same, gn2, gi2]
      · rw [upd_other _ _ q]
    rw [e3] at a c
    exact h.u2 k l p hk hl a c
  · have c0 := h.ct t
    have c1 : sm C (ks b (xs.set b ((row.length : Int) + 1)) pl H (row ++ [(ds i).t]) t) = sm C (ks b xs pl H row t) := sm_congr fun j hj => by
      unfold ks
      rw [ns _ (by omega)]
      by_cases q : nth xs (b + 2 + 3 * j) = pl j + 1
      · rcases h.sl j hj with a | a
        · omega
        · rw [ra _ (h.pl0 j hj).1 a.2.1]
      · rw [if_neg (fun z => q z.1), if_neg (fun z => q z.1)]
    have c2 := sm_one (n := n) (f := fun m => pgc t (upd ds i { ds i with ph := 4 } m)) (g := fun m => pgc t (ds m)) hi (fun m hm hmi => by simp only [upd_other _ _ hmi])
    simp only [upd_same] at c2
    rw [pgc_none gi, pgc_some gn] at c2
    rw [c1]
    have hd2 : (row ++ [(ds i).t]).drop H.toNat = row.drop H.toNat ++ [(ds i).t] := List.drop_append_of_le_length (by omega)
    rw [hd2, List.count_append, List.count_singleton]
    simp only [beq_iff_eq] at *
    omega
end
section
variable {b C n : Nat} {xs : List Int} {ds : Nat → Hs} {row : List Tk} {H : Int} {pl : Nat → Int}
/-- The other handles where a cell of the slot of q turns that is handle i's own. -/
theorem RI.others (h : RI b C xs n ds row H pl) {i : Nat} (hi : i < n) (ho : (ds i).own) {m : Nat} (hm : m < 3) (v : Int) {H' : Int} (hH : H ≤ H') (hH2 : H' = H ∨ H' = H) {k : Nat} (hk : k < n) (hki : k ≠ i) :
    HI b C (xs.set (turnN b C (ds i).place + m) v) row.length H row (ds k) := by
  have hC := h.c2
  have hL := h.len
  obtain ⟨sl1, sl2⟩ := slotN_lt (ds i).place hC
  have I := h.hs i hi; have K := h.hs k hk
  have ns : ∀ p r, r < 3 → slotN C (ds i).place ≠ slotN C p → nth (xs.set (turnN b C (ds i).place + m) v) (turnN b C p + r) = nth xs (turnN b C p + r) := fun p r hr hs => by
    rw [nth_set' _ _ _ _ (by unfold turnN; omega), if_neg (by unfold turnN; omega)]
  have ns0 : ∀ p, slotN C (ds i).place ≠ slotN C p → nth (xs.set (turnN b C (ds i).place + m) v) (turnN b C p) = nth xs (turnN b C p) := fun p hs => ns p 0 (by omega) hs
  refine K.frame (Int.le_refl _) (Int.le_refl _) h.h0.2 (fun _ _ _ => rfl) (fun e a => ?_) (fun e a => ?_) (fun hok => ?_)
  · have z := (K.p3 e).2 a
    rw [ns0 _ (fun s => ?_)]
    · exact z
    · have et : turnN b C (ds k).place = turnN b C (ds i).place := by unfold turnN; rw [s]
      rw [et] at z
      rcases ho with o | o
      · have y := (I.pp o.1 o.2); rw [y.2.1] at z; omega
      · have y := (I.gg o); rw [y.2.1] at z
        exact slot_ne hC s z.symm
  · have z := (K.p9 e).2.2 a
    rw [ns0 _ (fun s => ?_)]
    · exact z
    · have et : turnN b C (ds k).place = turnN b C (ds i).place := by unfold turnN; rw [s]
      rw [et] at z
      rcases ho with o | o
      · have y := (I.pp o.1 o.2); rw [y.2.1] at z
        exact slot_ne hC s.symm z
      · have y := (I.gg o); rw [y.2.1] at z; omega
  · have s := h.apart hi hk (fun e => hki e.symm) ho hok
    exact ⟨ns0 _ s, ns _ 1 (by omega) s, ns _ 2 (by omega) s⟩
/-- A key or a load is put. -/
theorem RI.put (h : RI b C xs n ds row H pl) {i : Nat} (hi : i < n) (e4 : (ds i).ph = 4 ∨ (ds i).ph = 5) :
    RI b C (xs.set (turnN b C (ds i).place + if (ds i).ph = 4 then 1 else 2) (if (ds i).ph = 4 then (ds i).t.1 else (ds i).t.2)) n (upd ds i { ds i with ph := (ds i).ph + 1 }) row H pl := by
  have hC := h.c2
  have hL := h.len
  have h0 := h.h0
  have I := h.hs i hi
  obtain ⟨sl1, sl2⟩ := slotN_lt (ds i).place hC
  obtain ⟨y1, y2, y3⟩ := I.pp (by omega) (by omega)
  have hpi := h.turn0 y2
  obtain ⟨m, hm⟩ : ∃ m, m = if (ds i).ph = 4 then 1 else 2 := ⟨_, rfl⟩
  have hm3 : 1 ≤ m ∧ m < 3 := by rw [hm]; split <;> omega
  rw [← hm]
  obtain ⟨v, hv⟩ : ∃ v, v = if (ds i).ph = 4 then (ds i).t.1 else (ds i).t.2 := ⟨_, rfl⟩
  rw [← hv]
  have gi : (ds i).pg = some (ds i).place := Hs.pg_some (by omega)
  have gn : ({ ds i with ph := (ds i).ph + 1 } : Hs).pg = some (ds i).place := Hs.pg_some ⟨by simp; omega, by simp; omega⟩
  have gi2 : (ds i).gg = none := Hs.gg_none (by omega)
  have gn2 : ({ ds i with ph := (ds i).ph + 1 } : Hs).gg = none := Hs.gg_none (by simp; omega)
  have e1 : ∀ k, (upd ds i { ds i with ph := (ds i).ph + 1 } k).pg = (ds k).pg := fun k => by
    by_cases q : k = i
    · subst q; rw [upd_same, gn, gi]
    · rw [upd_other _ _ q]
  have e2 : ∀ k, (upd ds i { ds i with ph := (ds i).ph + 1 } k).gg = (ds k).gg := fun k => by
    by_cases q : k = i
    · subst q; rw [upd_same, gn2, gi2]
    · rw [upd_other _ _ q]
  have ns : ∀ j, j ≠ turnN b C (ds i).place + m → nth (xs.set (turnN b C (ds i).place + m) v) j = nth xs j := fun j hj => by
    rw [nth_set' _ _ _ _ (by unfold turnN; omega), if_neg hj]
  have nt : ∀ j, nth (xs.set (turnN b C (ds i).place + m) v) (b + 2 + 3 * j) = nth xs (b + 2 + 3 * j) := fun j => ns _ (by unfold turnN; omega)
  have nT : ∀ p, nth (xs.set (turnN b C (ds i).place + m) v) (turnN b C p) = nth xs (turnN b C p) := fun p => nt _
  have nm : nth (xs.set (turnN b C (ds i).place + m) v) (turnN b C (ds i).place + m) = v := by rw [nth_set' _ _ _ _ (by unfold turnN; omega), if_pos rfl]
  refine ⟨hC, h.cb, by rw [List.length_set]; exact hL, by rw [ns _ (by unfold turnN; omega)]; exact h.tl, by rw [ns _ (by unfold turnN; omega)]; exact h.hd, h0, h.pl0, fun j hj => ?_, fun j hj => ?_, fun j hj => ?_, fun k hk => ?_, fun k l p hk hl a c => ?_, fun k l p hk hl a c => ?_, fun t => ?_⟩
  · rw [nt]
    rcases h.sl j hj with a | ⟨a1, a2, a3, a4⟩
    · exact .inl a
    · refine .inr ⟨a1, a2, ?_⟩
      have hjn : j ≠ slotN C (ds i).place := fun e => by
        subst e
        unfold turnN at y2
        omega
      rw [ns _ (by unfold turnN; omega), ns _ (by unfold turnN; omega)]
      exact ⟨a3, a4⟩
  · rw [nt]
    intro a1 a2
    obtain ⟨k, hk, e⟩ := h.o1 j hj a1 a2
    exact ⟨k, hk, by rw [e1]; exact e⟩
  · rw [nt]
    intro a1 a2
    obtain ⟨k, hk, e⟩ := h.o2 j hj a1 a2
    exact ⟨k, hk, by rw [e2]; exact e⟩
  · by_cases q : k = i
    · subst q
      rw [upd_same]
      refine ⟨I.p0, by simp; omega, by simp; omega, by simp; omega, by simp; omega, by simp; omega, fun _ _ => ⟨y1, by rw [nT]; exact y2, y3⟩, fun _ _ => ?_, fun e => ?_, fun e => ?_, fun e => ?_, fun e => ?_⟩
      · simp only
        rcases e4 with z | z
        · rw [if_pos z] at hm hv
          subst hm; rw [nm, hv]
        · rw [if_neg (by omega)] at hm hv
          subst hm
          rw [ns _ (by omega)]
          exact I.p5 (by omega) (by omega)
      · simp only at e ⊢
        have z : (ds k).ph = 5 := by omega
        rw [if_neg (by omega)] at hm hv
        subst hm; rw [nm, hv]
      · simp only at e; omega
      · simp only at e; omega
      · simp only at e; omega
    · rw [upd_other _ _ q]
      exact h.others hi (.inl ⟨by omega, by omega⟩) hm3.2 v (Int.le_refl _) (.inl rfl) hk q
  · rw [e1] at a c; exact h.u1 k l p hk hl a c
  · rw [e2] at a c; exact h.u2 k l p hk hl a c
  · rw [← h.ct t]
    congr 1
    · exact sm_congr fun j hj => by unfold ks; rw [nt]
    · refine sm_congr fun k hk => ?_
      by_cases q : k = i
      · subst q; simp only [upd_same]; rw [pgc_some gn, pgc_some gi]
      · simp only [upd_other _ _ q]
/-- The slot is filled: its turn goes up. -/
theorem RI.fill (h : RI b C xs n ds row H pl) {i : Nat} (hi : i < n) (e6 : (ds i).ph = 6) {d' : Hs} (hd' : d'.ph = 0) (hdp : d'.place = (ds i).place) : RI b C (xs.set (turnN b C (ds i).place) ((ds i).place + 1)) n (upd ds i d') row H pl := by
  have hC := h.c2
  have hL := h.len
  have h0 := h.h0
  have I := h.hs i hi
  obtain ⟨sl1, sl2⟩ := slotN_lt (ds i).place hC
  obtain ⟨y1, y2, y3⟩ := I.pp (by omega) (by omega)
  have hpi := h.turn0 y2
  have gi : (ds i).pg = some (ds i).place := Hs.pg_some (by omega)
  have gn : d'.pg = none := Hs.pg_none (by omega)
  have gi2 : (ds i).gg = none := Hs.gg_none (by omega)
  have gn2 : d'.gg = none := Hs.gg_none (by omega)
  have e2 : ∀ k, (upd ds i d' k).gg = (ds k).gg := fun k => by
    by_cases q : k = i
    · subst q; rw [upd_same, gn2, gi2]
    · rw [upd_other _ _ q]
  have ns : ∀ j, j ≠ turnN b C (ds i).place → nth (xs.set (turnN b C (ds i).place) ((ds i).place + 1)) j = nth xs j := fun j hj => by
    rw [nth_set' _ _ _ _ (by unfold turnN; omega), if_neg hj]
  have nm : nth (xs.set (turnN b C (ds i).place) ((ds i).place + 1)) (turnN b C (ds i).place) = (ds i).place + 1 := by rw [nth_set' _ _ _ _ (by unfold turnN; omega), if_pos rfl]
  have hHp : H ≤ (ds i).place := by
    rcases h.sl _ sl1 with a | a
    · rw [hpi] at a; exact a.2
    · unfold turnN at y2; rw [hpi] at a; omega
  have nt : ∀ j, j ≠ slotN C (ds i).place → nth (xs.set (turnN b C (ds i).place) ((ds i).place + 1)) (b + 2 + 3 * j) = nth xs (b + 2 + 3 * j) := fun j hj => ns _ (by unfold turnN; omega)
  refine ⟨hC, h.cb, by rw [List.length_set]; exact hL, by rw [ns _ (by unfold turnN; omega)]; exact h.tl, by rw [ns _ (by unfold turnN; omega)]; exact h.hd, h0, h.pl0, fun j hj => ?_, fun j hj => ?_, fun j hj => ?_, fun k hk => ?_, fun k l p hk hl a c => ?_, fun k l p hk hl a c => ?_, fun t => ?_⟩
  · by_cases q : j = slotN C (ds i).place
    · subst q
      refine .inr ?_
      rw [hpi, show b + 2 + 3 * slotN C (ds i).place = turnN b C (ds i).place from rfl, nm, ns _ (by omega), ns _ (by omega), y3]
      exact ⟨rfl, y1, I.p5 (by omega) (by omega), I.p6 e6⟩
    · rw [nt j q, ns _ (by unfold turnN; omega), ns _ (by unfold turnN; omega)]
      exact h.sl j hj
  · intro a1 a2
    by_cases q : j = slotN C (ds i).place
    · subst q
      rw [hpi, show b + 2 + 3 * slotN C (ds i).place = turnN b C (ds i).place from rfl, nm] at a1
      omega
    · rw [nt j q] at a1
      obtain ⟨k, hk, e⟩ := h.o1 j hj a1 a2
      refine ⟨k, hk, ?_⟩
      rw [upd_other _ _ (fun e' => ?_)]
      · exact e
      · rw [e', gi] at e
        have z := Option.some.inj e; exact q (by rw [← h.plm hj, z])
  · intro a1 a2
    by_cases q : j = slotN C (ds i).place
    · subst q; rw [hpi] at a2; omega
    · rw [nt j q] at a1
      obtain ⟨k, hk, e⟩ := h.o2 j hj a1 a2
      exact ⟨k, hk, by rw [e2]; exact e⟩
  · by_cases q : k = i
    · subst q
      rw [upd_same]
      have := I.p0
      exact ⟨by omega, by omega, by omega, by omega, by omega, by omega, by omega, by omega, by omega, by omega, by omega, by omega⟩
    · rw [upd_other _ _ q]
      exact h.others hi (.inl ⟨by omega, by omega⟩) (m := 0) (by omega) _ (Int.le_refl _) (.inl rfl) hk q
  · by_cases q : k = i
    · subst q; rw [upd_same, gn] at a; cases a
    · by_cases q2 : l = i
      · subst q2; rw [upd_same, gn] at c; cases c
      · rw [upd_other _ _ q] at a; rw [upd_other _ _ q2] at c; exact h.u1 k l p hk hl a c
  · rw [e2] at a c; exact h.u2 k l p hk hl a c
  · have c0 := h.ct t
    have c1 := sm_one (n := C) (f := ks b (xs.set (turnN b C (ds i).place) ((ds i).place + 1)) pl H row t) (g := ks b xs pl H row t) sl1 (fun j hj hn => by unfold ks; rw [nt j hn])
    have c2 := sm_one (n := n) (f := fun m => pgc t (upd ds i d' m)) (g := fun m => pgc t (ds m)) hi (fun m hm hmi => by simp only [upd_other _ _ hmi])
    simp only [upd_same] at c2
    rw [pgc_none gn, pgc_some gi] at c2
    have k1 : ks b xs pl H row t (slotN C (ds i).place) = 0 := by
      unfold ks; rw [hpi, show b + 2 + 3 * slotN C (ds i).place = turnN b C (ds i).place from rfl, y2, if_neg (by omega)]
    have k2 : ks b (xs.set (turnN b C (ds i).place) ((ds i).place + 1)) pl H row t (slotN C (ds i).place) = if (ds i).t = t then 1 else 0 := by
      unfold ks; rw [hpi, show b + 2 + 3 * slotN C (ds i).place = turnN b C (ds i).place from rfl, nm, y3]
      simp [hHp]
    rw [k1, k2] at c1
    omega
/-- The place H is claimed. -/
theorem RI.take (h : RI b C xs n ds row H pl) {i : Nat} (hi : i < n) (e9 : (ds i).ph = 9) (eH : (ds i).place = H) : RI b C (xs.set (b + 1) (H + 1)) n (upd ds i { ds i with ph := 10 }) row (H + 1) pl := by
  have hC := h.c2
  have hL := h.len
  have h0 := h.h0
  have I := h.hs i hi
  obtain ⟨_, hpT, hti'⟩ := I.p9 e9
  have hti := hti' eH
  have hpi := h.turn1 hti
  obtain ⟨sl1, sl2⟩ := slotN_lt (ds i).place hC
  have ns : ∀ j, j ≠ b + 1 → nth (xs.set (b + 1) (H + 1)) j = nth xs j := fun j hj => by rw [nth_set' _ _ _ _ (by omega), if_neg hj]
  have tn : ∀ p k, nth (xs.set (b + 1) (H + 1)) (turnN b C p + k) = nth xs (turnN b C p + k) := fun p k => ns _ (by unfold turnN; omega)
  have tn0 : ∀ p, nth (xs.set (b + 1) (H + 1)) (turnN b C p) = nth xs (turnN b C p) := fun p => tn p 0
  have gi : (ds i).gg = none := Hs.gg_none (by omega)
  have gn : ({ ds i with ph := 10 } : Hs).gg = some (ds i).place := Hs.gg_some ⟨by simp, by simp⟩
  have gn2 : ({ ds i with ph := 10 } : Hs).pg = none := Hs.pg_none (by simp)
  have gi2 : (ds i).pg = none := Hs.pg_none (by omega)
  have e1 : ∀ m, (upd ds i { ds i with ph := 10 } m).pg = (ds m).pg := fun m => by
    by_cases q : m = i
    · subst q; rw [upd_same, gn2, gi2]
    · rw [upd_other _ _ q]
  have hso := h.sl _ sl1
  rw [hpi] at hso
  have hkl : nth xs (turnN b C (ds i).place + 1) = (rowAt row (ds i).place).1 ∧ nth xs (turnN b C (ds i).place + 2) = (rowAt row (ds i).place).2 := by
    unfold turnN at hti ⊢
    rcases hso with a | a
    · omega
    · exact a.2.2
  refine ⟨hC, h.cb, by rw [List.length_set]; exact hL, by rw [ns _ (by omega)]; exact h.tl, by rw [nth_set' _ _ _ _ (by omega), if_pos rfl], by omega, fun j hj => ?_, fun j hj => ?_, fun j hj => ?_, fun j hj => ?_, fun k hk => ?_, fun k l p hk hl a c => ?_, fun k l p hk hl a c => ?_, fun t => ?_⟩
  · obtain ⟨a1, a2, a3, a4⟩ := h.pl0 j hj
    exact ⟨a1, a2, by omega, a4⟩
  · rw [ns _ (by omega), ns _ (by omega), ns _ (by omega)]
    rcases h.sl j hj with ⟨a1, a2⟩ | a
    · refine .inl ⟨a1, ?_⟩
      by_cases q : pl j = H
      · have : slotN C (ds i).place = j := by rw [eH, ← q]; exact h.plm hj
        unfold turnN at hti
        rw [this] at hti
        omega
      · omega
    · exact .inr a
  · rw [ns _ (by omega)]
    intro a1 a2
    obtain ⟨k, hk, e⟩ := h.o1 j hj a1 a2
    exact ⟨k, hk, by rw [e1]; exact e⟩
  · rw [ns _ (by omega)]
    intro a1 a2
    by_cases q : pl j = H
    · exact ⟨i, hi, by rw [upd_same, gn, eH, q]⟩
    · obtain ⟨k, hk, e⟩ := h.o2 j hj a1 (by omega)
      refine ⟨k, hk, ?_⟩
      rw [upd_other _ _ (fun e' => by rw [e', gi] at e; cases e)]
      exact e
  · by_cases q : k = i
    · subst q
      rw [upd_same]
      refine ⟨I.p0, by simp, by simp, by simp, by simp, by simp, by simp, by simp, by simp, fun _ => ⟨by simp only; omega, by simp only; rw [tn0]; exact hti, by simp only; rw [tn]; exact hkl.1, by simp only; rw [tn]; exact hkl.2⟩, by simp, by simp⟩
    · rw [upd_other _ _ q]
      have K := h.hs k hk
      exact K.frame (Int.le_refl _) (by omega) h0.2 (fun _ _ _ => rfl) (fun e a => by rw [tn0]; exact (K.p3 e).2 a) (fun e a => by have := (K.p9 e).1; omega) (fun _ => ⟨tn0 _, tn _ 1, tn _ 2⟩)
  · rw [e1] at a c; exact h.u1 k l p hk hl a c
  · have no : ∀ m p, m < n → m ≠ i → (ds m).gg = some p → p ≠ (ds i).place := fun m p hm hmi e e2 => by
      obtain ⟨q1, q2⟩ := Hs.gg_is e
      have := ((h.hs m hm).gg q1.1).1
      omega
    by_cases q : k = i
    · by_cases q2 : l = i
      · omega
      · rw [upd_other _ _ q2] at c; subst q; rw [upd_same, gn] at a; cases a; exact (no l _ hl q2 c rfl).elim
    · by_cases q2 : l = i
      · rw [upd_other _ _ q] at a; subst q2; rw [upd_same, gn] at c; cases c; exact (no k _ hk q a rfl).elim
      · rw [upd_other _ _ q] at a; rw [upd_other _ _ q2] at c; exact h.u2 k l p hk hl a c
  · have c0 := h.ct t
    have c1 := sm_one (n := C) (f := ks b (xs.set (b + 1) (H + 1)) pl (H + 1) row t) (g := ks b xs pl H row t) sl1 (fun j hj hn => by
      unfold ks
      rw [ns _ (by omega)]
      by_cases q : pl j = H
      · exact (hn (by rw [← h.plm hj, q, eH])).elim
      · by_cases q1 : H ≤ pl j
        · have q2 : H + 1 ≤ pl j := by omega
          simp [q1, q2]
        · have q2 : ¬ H + 1 ≤ pl j := by omega
          simp [q1, q2])
    have c2 : sm n (fun m => pgc t (upd ds i { ds i with ph := 10 } m)) = sm n (fun m => pgc t (ds m)) := sm_congr fun m hm => by
      by_cases q : m = i
      · subst q; simp only [upd_same]; rw [pgc_none gn2, pgc_none gi2]
      · simp only [upd_other _ _ q]
    have k1 : ks b xs pl H row t (slotN C (ds i).place) = if rowAt row H = t then 1 else 0 := by
      unfold ks; rw [hpi, show b + 2 + 3 * slotN C (ds i).place = turnN b C (ds i).place from rfl, hti, eH]
      simp
    have k2 : ks b (xs.set (b + 1) (H + 1)) pl (H + 1) row t (slotN C (ds i).place) = 0 := by
      unfold ks; rw [hpi, if_neg (by omega)]
    rw [k1, k2] at c1
    have hlt : H.toNat < row.length := by omega
    have e : row.drop H.toNat = rowAt row H :: row.drop (H + 1).toNat := by
      rw [List.drop_eq_getElem_cons hlt, show (H + 1).toNat = H.toNat + 1 by omega]
      unfold rowAt
      rw [List.getElem?_eq_getElem hlt]; rfl
    rw [e, List.count_cons] at c0
    rw [c2]
    simp only [beq_iff_eq] at *
    omega
/-- The slot is emptied: its turn goes up to the next round's place. -/
theorem RI.empty (h : RI b C xs n ds row H pl) {i : Nat} (hi : i < n) (e12 : (ds i).ph = 12) {d' : Hs} (hd' : d'.ph = 0) (hdp : d'.place = (ds i).place) : RI b C (xs.set (turnN b C (ds i).place) ((ds i).place + C)) n (upd ds i d') row H (upd pl (slotN C (ds i).place) ((ds i).place + C)) := by
  have hC := h.c2
  have hL := h.len
  have h0 := h.h0
  have I := h.hs i hi
  obtain ⟨sl1, sl2⟩ := slotN_lt (ds i).place hC
  obtain ⟨y1, y2, y3, y4⟩ := I.gg (by omega)
  have hpi := h.turn1 y2
  have gi : (ds i).gg = some (ds i).place := Hs.gg_some (by omega)
  have gn : d'.pg = none := Hs.pg_none (by omega)
  have gi2 : (ds i).pg = none := Hs.pg_none (by omega)
  have gn2 : d'.gg = none := Hs.gg_none (by omega)
  have e1 : ∀ k, (upd ds i d' k).pg = (ds k).pg := fun k => by
    by_cases q : k = i
    · subst q; rw [upd_same, gn, gi2]
    · rw [upd_other _ _ q]
  have ns : ∀ j, j ≠ turnN b C (ds i).place → nth (xs.set (turnN b C (ds i).place) ((ds i).place + C)) j = nth xs j := fun j hj => by
    rw [nth_set' _ _ _ _ (by unfold turnN; omega), if_neg hj]
  have nm : nth (xs.set (turnN b C (ds i).place) ((ds i).place + C)) (turnN b C (ds i).place) = (ds i).place + C := by rw [nth_set' _ _ _ _ (by unfold turnN; omega), if_pos rfl]
  have nt : ∀ j, j ≠ slotN C (ds i).place → nth (xs.set (turnN b C (ds i).place) ((ds i).place + C)) (b + 2 + 3 * j) = nth xs (b + 2 + 3 * j) := fun j hj => ns _ (by unfold turnN; omega)
  have p0 := I.p0
  have hpl4 := h.pl0 _ sl1
  rw [hpi] at hpl4
  refine ⟨hC, h.cb, by rw [List.length_set]; exact hL, by rw [ns _ (by unfold turnN; omega)]; exact h.tl, by rw [ns _ (by unfold turnN; omega)]; exact h.hd, h0, fun j hj => ?_, fun j hj => ?_, fun j hj => ?_, fun j hj => ?_, fun k hk => ?_, fun k l p hk hl a c => ?_, fun k l p hk hl a c => ?_, fun t => ?_⟩
  · by_cases q : j = slotN C (ds i).place
    · subst q
      rw [upd_same]
      exact ⟨by omega, by rw [Int.add_emod_right]; exact hpl4.2.1, by omega, by omega⟩
    · rw [upd_other _ _ q]; exact h.pl0 j hj
  · by_cases q : j = slotN C (ds i).place
    · subst q
      rw [upd_same, show b + 2 + 3 * slotN C (ds i).place = turnN b C (ds i).place from rfl, nm]
      exact .inl ⟨rfl, by omega⟩
    · rw [upd_other _ _ q, nt j q, ns _ (by unfold turnN; omega), ns _ (by unfold turnN; omega)]
      exact h.sl j hj
  · intro a1 a2
    by_cases q : j = slotN C (ds i).place
    · subst q
      rw [upd_same] at a2
      omega
    · rw [nt j q, upd_other _ _ q] at a1
      rw [upd_other _ _ q] at a2 ⊢
      obtain ⟨k, hk, e⟩ := h.o1 j hj a1 a2
      exact ⟨k, hk, by rw [e1]; exact e⟩
  · intro a1 a2
    by_cases q : j = slotN C (ds i).place
    · subst q
      rw [upd_same, show b + 2 + 3 * slotN C (ds i).place = turnN b C (ds i).place from rfl, nm] at a1
      omega
    · rw [nt j q, upd_other _ _ q] at a1
      rw [upd_other _ _ q] at a2 ⊢
      obtain ⟨k, hk, e⟩ := h.o2 j hj a1 a2
      refine ⟨k, hk, ?_⟩
      rw [upd_other _ _ (fun e' => ?_)]
      · exact e
      · rw [e', gi] at e
        have z := Option.some.inj e; exact q (by rw [← h.plm hj, z])
  · by_cases q : k = i
    · subst q
      rw [upd_same]
      exact ⟨by omega, by omega, by omega, by omega, by omega, by omega, by omega, by omega, by omega, by omega, by omega, by omega⟩
    · rw [upd_other _ _ q]
      exact h.others hi (.inr (by omega)) (m := 0) (by omega) _ (Int.le_refl _) (.inl rfl) hk q
  · rw [e1] at a c; exact h.u1 k l p hk hl a c
  · by_cases q : k = i
    · subst q; rw [upd_same, gn2] at a; cases a
    · by_cases q2 : l = i
      · subst q2; rw [upd_same, gn2] at c; cases c
      · rw [upd_other _ _ q] at a; rw [upd_other _ _ q2] at c; exact h.u2 k l p hk hl a c
  · rw [← h.ct t]
    congr 1
    · refine sm_congr fun j hj => ?_
      unfold ks
      by_cases q : j = slotN C (ds i).place
      · subst q
        rw [upd_same, show b + 2 + 3 * slotN C (ds i).place = turnN b C (ds i).place from rfl, nm, hpi, if_neg (by omega), if_neg (by omega)]
      · rw [upd_other _ _ q, nt j q]
    · refine sm_congr fun k hk => ?_
      by_cases q : k = i
      · subst q; simp only [upd_same]; rw [pgc_none gn, pgc_none gi2]
      · simp only [upd_other _ _ q]
end
section
variable {b C n : Nat} {xs : List Int} {ds : Nat → Hs} {row : List Tk} {H : Int} {pl : Nat → Int}
theorem uw_in {x : Int} (h0 : 0 ≤ x) (h1 : x < 18446744073709551616) : uw x = x := by unfold uw; omega
theorem set_nth (l : List Int) (c : Nat) (x : Int) (h : nth l c = x) : l.set c x = l := by
  apply List.ext_getElem?
  intro j
  rw [List.getElem?_set]
  by_cases e : c = j
  · subst e
    rw [if_pos rfl]
    split
    · rename_i q
      rw [List.getElem?_eq_getElem q]
      unfold nth at h
      rw [List.getD_eq_getElem?_getD, List.getElem?_eq_getElem q] at h
      simp at h
      rw [h]
    · rename_i q
      rw [List.getElem?_eq_none (by omega)]
  · rw [if_neg e]
theorem HI.free {T : Int} {d : Hs} (h0 : 0 ≤ d.place) (h : d.ph = 0 ∨ d.ph = 1 ∨ d.ph = 7) : HI b C xs T H row d :=
  ⟨h0, by omega, by omega, by omega, by omega, by omega, by omega, by omega, by omega, by omega, by omega, by omega⟩
def Hs.rowN (d : Hs) (x : Int) (row : List Tk) : List Tk := if d.ph = 3 ∧ x = d.place then row ++ [d.t] else row
def Hs.gonN (d : Hs) (x : Int) (H : Int) : Int := if d.ph = 9 ∧ x = d.place then H + 1 else H
theorem RI.step (h : RI b C xs n ds row H pl) {i : Nat} (hi : i < n) (h0 : (ds i).ph ≠ 0) (hT : (row.length : Int) < 2305843009213693952) {x : Int} (hx : nth xs ((ds i).cell b C) = x) :
    ∃ pl', RI b C (xs.set ((ds i).cell b C) ((ds i).left C x)) n (upd ds i ((ds i).next C x)) ((ds i).rowN x row) ((ds i).gonN x H) pl' := by
  have I := h.hs i hi
  have p0 := I.p0
  have hh := h.h0
  have hp := I.p1
  have hcb := h.cb
  have same : (ds i).left C x = x → xs.set ((ds i).cell b C) ((ds i).left C x) = xs := fun e => by rw [e]; exact set_nth _ _ _ hx
  rcases (show (ds i).ph = 1 ∨ (ds i).ph = 2 ∨ (ds i).ph = 3 ∨ (ds i).ph = 4 ∨ (ds i).ph = 5 ∨ (ds i).ph = 6 ∨ (ds i).ph = 7 ∨ (ds i).ph = 8 ∨ (ds i).ph = 9 ∨ (ds i).ph = 10 ∨ (ds i).ph = 11 ∨ (ds i).ph = 12 by omega) with e | e | e | e | e | e | e | e | e | e | e | e
  · have hc : (ds i).cell b C = b := by unfold Hs.cell; simp only [e]
    have hl : (ds i).left C x = x := by unfold Hs.left; simp only [e]
    have hn : (ds i).next C x = { ds i with ph := 2, place := x } := by unfold Hs.next; simp only [e]
    have hr : (ds i).rowN x row = row := if_neg (by omega)
    have hg : (ds i).gonN x H = H := if_neg (by omega)
    rw [same hl, hn, hr, hg]
    rw [hc, h.tl] at hx
    refine ⟨pl, h.same hi (Hs.pg_none (by omega)) (Hs.pg_none (by simp)) (by rw [Hs.gg_none (by simp), Hs.gg_none (by omega)]) ?_⟩
    exact ⟨by simp only; omega, by simp, fun _ => by simp only; omega, by simp, by simp, by simp, by simp, by simp, by simp, by simp, by simp, by simp⟩
  · have hc : (ds i).cell b C = turnN b C (ds i).place := by unfold Hs.cell; simp only [e]
    have hl : (ds i).left C x = x := by unfold Hs.left; simp only [e]
    have hr : (ds i).rowN x row = row := if_neg (by omega)
    have hg : (ds i).gonN x H = H := if_neg (by omega)
    have hn : (ds i).next C x = if x = (ds i).place then { ds i with ph := 3 } else if x < (ds i).place then (ds i).fin 3 [(ds i).t] else { ds i with ph := 1 } := by unfold Hs.next; simp only [e]
    rw [same hl, hn, hr, hg]
    rw [hc] at hx
    refine ⟨pl, ?_⟩
    split
    · rename_i q
      refine h.same hi (Hs.pg_none (by omega)) (Hs.pg_none (by simp)) (by rw [Hs.gg_none (by simp), Hs.gg_none (by omega)]) ?_
      exact ⟨p0, by simp, by simp, fun _ => ⟨I.p2 e, fun _ => by simp only; rw [hx, q]⟩, by simp, by simp, by simp, by simp, by simp, by simp, by simp, by simp⟩
    · split
      · exact h.same hi (Hs.pg_none (by omega)) (Hs.pg_none (by simp [Hs.fin])) (by rw [Hs.gg_none (by simp [Hs.fin]), Hs.gg_none (by omega)]) (HI.free p0 (.inl rfl))
      · exact h.same hi (Hs.pg_none (by omega)) (Hs.pg_none (by simp)) (by rw [Hs.gg_none (by simp), Hs.gg_none (by omega)]) (HI.free p0 (.inr (.inl rfl)))
  · have hc : (ds i).cell b C = b := by unfold Hs.cell; simp only [e]
    have hg : (ds i).gonN x H = H := if_neg (by omega)
    have hn : (ds i).next C x = if x = (ds i).place then { ds i with ph := 4 } else { ds i with ph := 1 } := by unfold Hs.next; simp only [e]
    have hl : (ds i).left C x = if x = (ds i).place then uw ((ds i).place + 1) else x := by unfold Hs.left; simp only [e]
    refine ⟨pl, ?_⟩
    by_cases q : x = (ds i).place
    · have hr : (ds i).rowN x row = row ++ [(ds i).t] := if_pos ⟨e, q⟩
      rw [hn, hr, hg, hl, if_pos q, if_pos q, hc, uw_in (by omega) (by have := I.p3 e; omega)]
      rw [hc, h.tl] at hx
      rw [← q, ← hx]
      exact h.claim hi e (by rw [← q, hx])
    · have hr : (ds i).rowN x row = row := if_neg (fun z => q z.2)
      rw [same (by rw [hl, if_neg q]), hn, if_neg q, hr, hg]
      exact h.same hi (Hs.pg_none (by omega)) (Hs.pg_none (by simp)) (by rw [Hs.gg_none (by simp), Hs.gg_none (by omega)]) (HI.free p0 (.inr (.inl rfl)))
  · have hc : (ds i).cell b C = turnN b C (ds i).place + 1 := by unfold Hs.cell; simp only [e]
    have hl : (ds i).left C x = (ds i).t.1 := by unfold Hs.left; simp only [e]
    have hr : (ds i).rowN x row = row := if_neg (by omega)
    have hg : (ds i).gonN x H = H := if_neg (by omega)
    have hn : (ds i).next C x = { ds i with ph := 5 } := by unfold Hs.next; simp only [e]
    have := h.put hi (.inl e)
    rw [if_pos e, if_pos e, e] at this
    rw [hc, hl, hr, hg, hn]
    exact ⟨pl, this⟩
  · have hc : (ds i).cell b C = turnN b C (ds i).place + 2 := by unfold Hs.cell; simp only [e]
    have hl : (ds i).left C x = (ds i).t.2 := by unfold Hs.left; simp only [e]
    have hr : (ds i).rowN x row = row := if_neg (by omega)
    have hg : (ds i).gonN x H = H := if_neg (by omega)
    have hn : (ds i).next C x = { ds i with ph := 6 } := by unfold Hs.next; simp only [e]
    have := h.put hi (.inr e)
    rw [if_neg (by omega), if_neg (by omega), e] at this
    rw [hc, hl, hr, hg, hn]
    exact ⟨pl, this⟩
  · have hc : (ds i).cell b C = turnN b C (ds i).place := by unfold Hs.cell; simp only [e]
    have hl : (ds i).left C x = uw ((ds i).place + 1) := by unfold Hs.left; simp only [e]
    have hr : (ds i).rowN x row = row := if_neg (by omega)
    have hg : (ds i).gonN x H = H := if_neg (by omega)
    have hn : (ds i).next C x = (ds i).fin 1 [] := by unfold Hs.next; simp only [e]
    rw [hc, hl, hr, hg, hn, uw_in (by omega) (by have := I.pp (by omega) (by omega); omega)]
    exact ⟨pl, h.fill hi e rfl rfl⟩
  · have hc : (ds i).cell b C = b + 1 := by unfold Hs.cell; simp only [e]
    have hl : (ds i).left C x = x := by unfold Hs.left; simp only [e]
    have hn : (ds i).next C x = { ds i with ph := 8, place := x } := by unfold Hs.next; simp only [e]
    have hr : (ds i).rowN x row = row := if_neg (by omega)
    have hg : (ds i).gonN x H = H := if_neg (by omega)
    rw [same hl, hn, hr, hg]
    rw [hc, h.hd] at hx
    refine ⟨pl, h.same hi (Hs.pg_none (by omega)) (Hs.pg_none (by simp)) (by rw [Hs.gg_none (by simp), Hs.gg_none (by omega)]) ?_⟩
    exact ⟨by simp only; omega, by simp, by simp, by simp, fun _ => by simp only; omega, by simp, by simp, by simp, by simp, by simp, by simp, by simp⟩
  · have hc : (ds i).cell b C = turnN b C (ds i).place := by unfold Hs.cell; simp only [e]
    have hl : (ds i).left C x = x := by unfold Hs.left; simp only [e]
    have hr : (ds i).rowN x row = row := if_neg (by omega)
    have hg : (ds i).gonN x H = H := if_neg (by omega)
    have hn : (ds i).next C x = if x = uw ((ds i).place + 1) then { ds i with ph := 9 } else if x < uw ((ds i).place + 1) then (ds i).fin 2 [] else { ds i with ph := 7 } := by unfold Hs.next; simp only [e]
    rw [same hl, hn, hr, hg, uw_in (by omega) (by have := I.p8 e; omega)]
    rw [hc] at hx
    refine ⟨pl, ?_⟩
    split
    · rename_i q
      refine h.same hi (Hs.pg_none (by omega)) (Hs.pg_none (by simp)) (by rw [Hs.gg_none (by simp), Hs.gg_none (by omega)]) ?_
      have ht : nth xs (turnN b C (ds i).place) = (ds i).place + 1 := by rw [hx, q]
      have hpi := h.turn1 ht
      obtain ⟨sl1, sl2⟩ := slotN_lt (ds i).place h.c2
      have hlt : (ds i).place < row.length := by
        unfold turnN at ht
        rcases h.sl _ sl1 with a | a <;> rw [hpi] at a <;> omega
      exact ⟨p0, by simp, by simp, by simp, by simp, fun _ => ⟨I.p8 e, hlt, fun _ => ht⟩, by simp, by simp, by simp, by simp, by simp, by simp⟩
    · split
      · exact h.same hi (Hs.pg_none (by omega)) (Hs.pg_none (by simp [Hs.fin])) (by rw [Hs.gg_none (by simp [Hs.fin]), Hs.gg_none (by omega)]) (HI.free p0 (.inl rfl))
      · exact h.same hi (Hs.pg_none (by omega)) (Hs.pg_none (by simp)) (by rw [Hs.gg_none (by simp), Hs.gg_none (by omega)]) (HI.free p0 (.inr (.inr rfl)))
  · have hc : (ds i).cell b C = b + 1 := by unfold Hs.cell; simp only [e]
    have hr : (ds i).rowN x row = row := if_neg (by omega)
    have hn : (ds i).next C x = if x = (ds i).place then { ds i with ph := 10 } else { ds i with ph := 7 } := by unfold Hs.next; simp only [e]
    have hl : (ds i).left C x = if x = (ds i).place then uw ((ds i).place + 1) else x := by unfold Hs.left; simp only [e]
    refine ⟨pl, ?_⟩
    by_cases q : x = (ds i).place
    · have hg : (ds i).gonN x H = H + 1 := if_pos ⟨e, q⟩
      rw [hn, hr, hg, hl, if_pos q, if_pos q, hc, uw_in (by omega) (by have := I.p9 e; omega)]
      rw [hc, h.hd] at hx
      rw [← q, ← hx]
      exact h.take hi e (by rw [← q, hx])
    · have hg : (ds i).gonN x H = H := if_neg (fun z => q z.2)
      rw [same (by rw [hl, if_neg q]), hn, if_neg q, hr, hg]
      exact h.same hi (Hs.pg_none (by omega)) (Hs.pg_none (by simp)) (by rw [Hs.gg_none (by simp), Hs.gg_none (by omega)]) (HI.free p0 (.inr (.inr rfl)))
  · have hc : (ds i).cell b C = turnN b C (ds i).place + 1 := by unfold Hs.cell; simp only [e]
    have hl : (ds i).left C x = x := by unfold Hs.left; simp only [e]
    have hr : (ds i).rowN x row = row := if_neg (by omega)
    have hg : (ds i).gonN x H = H := if_neg (by omega)
    have hn : (ds i).next C x = { ds i with ph := 11, t := (x, (ds i).t.2) } := by unfold Hs.next; simp only [e]
    rw [same hl, hn, hr, hg]
    rw [hc] at hx
    have G := I.gg (by omega)
    refine ⟨pl, h.same hi (Hs.pg_none (by omega)) (Hs.pg_none (by simp)) (by rw [Hs.gg_some (by simp), Hs.gg_some (by omega)]) ?_⟩
    exact ⟨p0, by simp, by simp, by simp, by simp, by simp, by simp, by simp, by simp, fun _ => G, fun _ => by simp only; rw [← hx]; exact G.2.2.1, by simp⟩
  · have hc : (ds i).cell b C = turnN b C (ds i).place + 2 := by unfold Hs.cell; simp only [e]
    have hl : (ds i).left C x = x := by unfold Hs.left; simp only [e]
    have hr : (ds i).rowN x row = row := if_neg (by omega)
    have hg : (ds i).gonN x H = H := if_neg (by omega)
    have hn : (ds i).next C x = { ds i with ph := 12, t := ((ds i).t.1, x) } := by unfold Hs.next; simp only [e]
    rw [same hl, hn, hr, hg]
    rw [hc] at hx
    have G := I.gg (by omega)
    have G1 := I.g1 (by omega)
    refine ⟨pl, h.same hi (Hs.pg_none (by omega)) (Hs.pg_none (by simp)) (by rw [Hs.gg_some (by simp), Hs.gg_some (by omega)]) ?_⟩
    exact ⟨p0, by simp, by simp, by simp, by simp, by simp, by simp, by simp, by simp, fun _ => G, fun _ => G1, fun _ => by simp only; rw [← hx]; exact G.2.2.2⟩
  · have hc : (ds i).cell b C = turnN b C (ds i).place := by unfold Hs.cell; simp only [e]
    have hl : (ds i).left C x = uw ((ds i).place + C) := by unfold Hs.left; simp only [e]
    have hr : (ds i).rowN x row = row := if_neg (by omega)
    have hg : (ds i).gonN x H = H := if_neg (by omega)
    have hn : (ds i).next C x = (ds i).fin 5 [(ds i).t] := by unfold Hs.next; simp only [e]
    rw [hc, hl, hr, hg, hn, uw_in (by omega) (by have := I.gg (by omega); omega)]
    exact ⟨_, h.empty hi e rfl rfl⟩
/-- An operation is begun. -/
theorem RI.begin (h : RI b C xs n ds row H pl) {i : Nat} (hi : i < n) (h0 : (ds i).ph = 0) {d' : Hs} (h1 : d'.ph = 1 ∨ d'.ph = 7) (h2 : d'.place = (ds i).place) : RI b C xs n (upd ds i d') row H pl :=
  h.same hi (Hs.pg_none (by omega)) (Hs.pg_none (by omega)) (by rw [Hs.gg_none (by omega), Hs.gg_none (by omega)]) (HI.free (by rw [h2]; exact (h.hs i hi).p0) (.inr h1))
/-- What an operation has that is no place's. -/
def rest (row : List Tk) (d : Hs) : List Tk := if 1 ≤ d.ph ∧ d.ph ≤ 3 then [d.t] else if 10 ≤ d.ph then [rowAt row d.place] else []
/-- What an operation has in hand. -/
def hand (b C : Nat) (xs : List Int) (d : Hs) : List Tk := if 1 ≤ d.ph ∧ d.ph ≤ 6 then [d.t] else if 10 ≤ d.ph then [(nth xs (turnN b C d.place + 1), nth xs (turnN b C d.place + 2))] else []
def hands (b C : Nat) (xs : List Int) (ds : Nat → Hs) : Nat → List Tk
  | 0 => []
  | n + 1 => hands b C xs ds n ++ hand b C xs (ds n)
theorem count_hands (t : Tk) (m : Nat) : (hands b C xs ds m).count t = sm m (fun i => (hand b C xs (ds i)).count t) := by
  induction m with
  | zero => rfl
  | succ m ih => simp only [hands, sm, List.count_append]; rw [ih]
theorem sm_add (m : Nat) (f g : Nat → Nat) : sm m (fun i => f i + g i) = sm m f + sm m g := by
  induction m with
  | zero => rfl
  | succ m ih => simp only [sm]; omega
theorem RI.count_hands (h : RI b C xs n ds row H pl) (t : Tk) : (hands b C xs ds n).count t = sm n (fun i => pgc t (ds i)) + sm n (fun i => (rest row (ds i)).count t) := by
  rw [_root_.Go.Proofs.YtgjdjdgondpjeaaGreat.count_hands, ← sm_add]
  refine sm_congr fun i hi => ?_
  have I := h.hs i hi
  have hp := I.p1
  unfold hand rest
  by_cases a : 1 ≤ (ds i).ph ∧ (ds i).ph ≤ 3
  · rw [if_pos a, if_pos (by omega), pgc_none (Hs.pg_none (by omega))]; omega
  · by_cases c : 4 ≤ (ds i).ph ∧ (ds i).ph ≤ 6
    · rw [if_pos (by omega), if_neg a, if_neg (by omega), pgc_some (Hs.pg_some c), List.count_singleton]
      simp
    · by_cases e : 10 ≤ (ds i).ph
      · obtain ⟨_, _, q3, q4⟩ := I.gg e
        rw [if_neg (by omega), if_pos e, if_neg a, if_pos e, pgc_none (Hs.pg_none c), q3, q4, show ((rowAt row (ds i).place).1, (rowAt row (ds i).place).2) = rowAt row (ds i).place from rfl]; omega
      · rw [if_neg (by omega), if_neg e, if_neg a, if_neg e, pgc_none (Hs.pg_none c)]; rfl
end
end Go.Proofs.YtgjdjdgondpjeaaGreat
