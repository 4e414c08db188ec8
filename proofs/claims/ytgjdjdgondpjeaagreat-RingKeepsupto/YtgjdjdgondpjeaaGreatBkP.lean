import Derived.Test.YtgjdjdgondpjeaaGreatRiA
/- RingKeeps: the plain part: what goes in, what comes out. -/
namespace Go.Proofs.YtgjdjdgondpjeaaGreat
open Go.RowKit Go.Lib
set_option linter.unusedVariables false
set_option linter.unusedSimpArgs false
/-- How often a task is held. -/
def hcn (row : List Tk) (H : Int) (ds : Nat → Hs) (n : Nat) (t : Tk) : Nat := (row.drop H.toNat).count t + sm n (fun i => (rest row (ds i)).count t)
theorem hcn_upd {row row' : List Tk} {H H' : Int} {ds : Nat → Hs} {n i : Nat} (hi : i < n) (d' : Hs) (t : Tk) (h : ∀ j, j < n → j ≠ i → rest row' (ds j) = rest row (ds j)) :
    hcn row' H' (upd ds i d') n t + ((row.drop H.toNat).count t + (rest row (ds i)).count t) = hcn row H ds n t + ((row'.drop H'.toNat).count t + (rest row' d').count t) := by
  unfold hcn
  have e := sm_one (n := n) (k := i) (f := fun j => (rest row' (upd ds i d' j)).count t) (g := fun j => (rest row (ds j)).count t) hi (fun j hj hn => by rw [upd_other _ _ hn, h j hj hn])
  simp only [upd_same] at e
  omega
theorem drop_head {l : List Tk} {H : Int} (h0 : 0 ≤ H) (h : H < l.length) : l.drop H.toNat = rowAt l H :: l.drop (H + 1).toNat := by
  have hn : H.toNat < l.length := by omega
  rw [List.drop_eq_getElem_cons hn, show (H + 1).toNat = H.toNat + 1 by omega]
  unfold rowAt
  rw [List.getElem?_eq_getElem hn]
  rfl
section
variable {b C n : Nat} {xs : List Int} {ds : Nat → Hs} {row : List Tk} {H : Int} {pl : Nat → Int}
theorem rest_idle {row : List Tk} {d : Hs} (h : d.ph = 0) : rest row d = [] := by unfold rest; rw [if_neg (by omega), if_neg (by omega)]
theorem rest_in {row : List Tk} {d : Hs} (h : 1 ≤ d.ph ∧ d.ph ≤ 3) : rest row d = [d.t] := by unfold rest; rw [if_pos h]
theorem rest_mid {row : List Tk} {d : Hs} (h : 4 ≤ d.ph ∧ d.ph ≤ 9) : rest row d = [] := by unfold rest; rw [if_neg (by omega), if_neg (by omega)]
theorem rest_out {row : List Tk} {d : Hs} (h : 10 ≤ d.ph) : rest row d = [rowAt row d.place] := by unfold rest; rw [if_neg (by omega), if_pos h]
/-- How an operation goes on. -/
structure Goes (d d' : Hs) : Prop where
  run : d'.ph ≠ 0 → (d'.ph ≤ 6 ↔ d.ph ≤ 6) ∧ d'.ph ≤ 12 ∧ (d.ph ≤ 6 → d'.t = d.t)
  fin : d'.ph = 0 → (d.ph ≤ 6 ∧ ((d'.st = 3 ∧ d'.out = [d.t]) ∨ (d'.st = 1 ∧ d'.out = []))) ∨ (7 ≤ d.ph ∧ ((d'.st = 2 ∧ d'.out = []) ∨ (d'.st = 5 ∧ d'.out = [d.t])))
theorem goes_next (C : Nat) (d : Hs) (x : Int) (h0 : d.ph ≠ 0) (h12 : d.ph ≤ 12) : Goes d (d.next C x) := by
  have e : d.ph = 1 ∨ d.ph = 2 ∨ d.ph = 3 ∨ d.ph = 4 ∨ d.ph = 5 ∨ d.ph = 6 ∨ d.ph = 7 ∨ d.ph = 8 ∨ d.ph = 9 ∨ d.ph = 10 ∨ d.ph = 11 ∨ d.ph = 12 := by omega
  unfold Hs.next Hs.fin
  rcases e with e | e | e | e | e | e | e | e | e | e | e | e
  all_goals
    simp only [e]
    repeat' split
    all_goals exact ⟨fun q => by simp_all, fun q => by simp_all⟩
theorem RI.hcn_step (h : RI b C xs n ds row H pl) {i : Nat} (hi : i < n) (h0 : (ds i).ph ≠ 0) (t : Tk) {x : Int} (hx : x = nth xs ((ds i).cell b C)) :
    hcn ((ds i).rowN x row) ((ds i).gonN x H) (upd ds i ((ds i).next C x)) n t + (if ((ds i).next C x).ph = 0 then ((ds i).next C x).out.count t else 0) = hcn row H ds n t := by
  have HIi := h.hs i hi
  have hh := h.h0
  have h12 := HIi.p1
  generalize hd : ds i = d at *
  have hrs : ∀ j, j < n → j ≠ i → rest (d.rowN x row) (ds j) = rest row (ds j) := fun j hj hn => by
    by_cases q : 10 ≤ (ds j).ph
    · have hg := ((h.hs j hj).gg q).1
      rw [rest_out q, rest_out q]
      unfold Hs.rowN
      split
      · rw [rowAt_app (by omega) (h.hs j hj).p0]
      · rfl
    · unfold rest
      rw [if_neg q, if_neg q]
  have hu := hcn_upd (H := H) (H' := d.gonN x H) hi (d.next C x) t hrs
  rw [hd] at hu
  have same : d.rowN x row = row → d.gonN x H = H → (rest row d).count t = (rest row (d.next C x)).count t + (if (d.next C x).ph = 0 then (d.next C x).out.count t else 0) → hcn (d.rowN x row) (d.gonN x H) (upd ds i (d.next C x)) n t + (if (d.next C x).ph = 0 then (d.next C x).out.count t else 0) = hcn row H ds n t := fun a c e => by
    rw [a, c] at hu ⊢
    omega
  have e : d.ph = 1 ∨ d.ph = 2 ∨ d.ph = 3 ∨ d.ph = 4 ∨ d.ph = 5 ∨ d.ph = 6 ∨ d.ph = 7 ∨ d.ph = 8 ∨ d.ph = 9 ∨ d.ph = 10 ∨ d.ph = 11 ∨ d.ph = 12 := by omega
  have nr : d.ph ≠ 3 → d.rowN x row = row := fun q => if_neg (fun z => q z.1)
  have ng : d.ph ≠ 9 → d.gonN x H = H := fun q => if_neg (fun z => q z.1)
  rcases e with e | e | e | e | e | e | e | e | e | e | e | e
  · have hn : d.next C x = { d with ph := 2, place := x } := by unfold Hs.next; simp only [e]
    refine same (nr (by omega)) (ng (by omega)) ?_
    rw [hn, rest_in (by omega), rest_in (d := { d with ph := 2, place := x }) ⟨by simp, by simp⟩]
    simp
  · refine same (nr (by omega)) (ng (by omega)) ?_
    rw [rest_in (d := d) (by omega)]
    by_cases q : x = d.place
    · have hn : d.next C x = { d with ph := 3 } := by unfold Hs.next; simp only [e]; rw [if_pos q]
      rw [hn, rest_in (d := { d with ph := 3 }) ⟨by simp, by simp⟩]
      simp
    · by_cases q2 : x < d.place
      · have hn : d.next C x = d.fin 3 [d.t] := by unfold Hs.next; simp only [e]; rw [if_neg q, if_pos q2]
        rw [hn, rest_idle (d := d.fin 3 [d.t]) rfl, if_pos (show (d.fin 3 [d.t]).ph = 0 from rfl)]
        show _ = _ + [d.t].count t
        simp
      · have hn : d.next C x = { d with ph := 1 } := by unfold Hs.next; simp only [e]; rw [if_neg q, if_neg q2]
        rw [hn, rest_in (d := { d with ph := 1 }) ⟨by simp, by simp⟩]
        simp
  · by_cases q : x = d.place
    · have hn : d.next C x = { d with ph := 4 } := by unfold Hs.next; simp only [e]; rw [if_pos q]
      have hr : d.rowN x row = row ++ [d.t] := if_pos ⟨e, q⟩
      rw [hn, hr, ng (by omega), if_neg (by simp)]
      rw [hn, hr, ng (by omega), rest_in (d := d) (by omega), rest_mid (d := { d with ph := 4 }) ⟨by simp, by simp⟩, List.drop_append_of_le_length (by omega), List.count_append] at hu
      simp only [List.count_nil] at hu
      omega
    · have hn : d.next C x = { d with ph := 1 } := by unfold Hs.next; simp only [e]; rw [if_neg q]
      refine same (if_neg (fun z => q z.2)) (ng (by omega)) ?_
      rw [hn, rest_in (d := d) (by omega), rest_in (d := { d with ph := 1 }) ⟨by simp, by simp⟩]
      simp
  · have hn : d.next C x = { d with ph := 5 } := by unfold Hs.next; simp only [e]
    refine same (nr (by omega)) (ng (by omega)) ?_
    rw [hn, rest_mid (d := d) (by omega), rest_mid (d := { d with ph := 5 }) ⟨by simp, by simp⟩]
    simp
  · have hn : d.next C x = { d with ph := 6 } := by unfold Hs.next; simp only [e]
    refine same (nr (by omega)) (ng (by omega)) ?_
    rw [hn, rest_mid (d := d) (by omega), rest_mid (d := { d with ph := 6 }) ⟨by simp, by simp⟩]
    simp
  · have hn : d.next C x = d.fin 1 [] := by unfold Hs.next; simp only [e]
    refine same (nr (by omega)) (ng (by omega)) ?_
    rw [hn, rest_mid (d := d) (by omega), rest_idle (d := d.fin 1 []) rfl, if_pos (show (d.fin 1 []).ph = 0 from rfl)]
    rfl
  · have hn : d.next C x = { d with ph := 8, place := x } := by unfold Hs.next; simp only [e]
    refine same (nr (by omega)) (ng (by omega)) ?_
    rw [hn, rest_mid (d := d) (by omega), rest_mid (d := { d with ph := 8, place := x }) ⟨by simp, by simp⟩]
    simp
  · refine same (nr (by omega)) (ng (by omega)) ?_
    rw [rest_mid (d := d) (by omega)]
    by_cases q : x = uw (d.place + 1)
    · have hn : d.next C x = { d with ph := 9 } := by unfold Hs.next; simp only [e]; rw [if_pos q]
      rw [hn, rest_mid (d := { d with ph := 9 }) ⟨by simp, by simp⟩]
      simp
    · by_cases q2 : x < uw (d.place + 1)
      · have hn : d.next C x = d.fin 2 [] := by unfold Hs.next; simp only [e]; rw [if_neg q, if_pos q2]
        rw [hn, rest_idle (d := d.fin 2 []) rfl, if_pos (show (d.fin 2 []).ph = 0 from rfl)]
        rfl
      · have hn : d.next C x = { d with ph := 7 } := by unfold Hs.next; simp only [e]; rw [if_neg q, if_neg q2]
        rw [hn, rest_mid (d := { d with ph := 7 }) ⟨by simp, by simp⟩]
        simp
  · by_cases q : x = d.place
    · have hn : d.next C x = { d with ph := 10 } := by unfold Hs.next; simp only [e]; rw [if_pos q]
      have hg : d.gonN x H = H + 1 := if_pos ⟨e, q⟩
      have hxH : x = H := by rw [hx, show d.cell b C = b + 1 by unfold Hs.cell; simp only [e]]; exact h.hd
      have hlt := (HIi.p9 e).2.1
      rw [hn, nr (by omega), hg, if_neg (by simp)]
      have hpe : d.place = H := by omega
      have e2 : rest row { d with ph := 10 } = [rowAt row H] := by
        rw [rest_out (d := { d with ph := 10 }) (by simp)]
        show [rowAt row d.place] = _
        rw [hpe]
      rw [hn, nr (by omega), hg, rest_mid (d := d) (by omega), e2, drop_head hh.1 (by omega), show rowAt row H :: row.drop (H + 1).toNat = [rowAt row H] ++ row.drop (H + 1).toNat from rfl, List.count_append] at hu
      simp only [List.count_nil] at hu
      omega
    · have hn : d.next C x = { d with ph := 7 } := by unfold Hs.next; simp only [e]; rw [if_neg q]
      refine same (nr (by omega)) (if_neg (fun z => q z.2)) ?_
      rw [hn, rest_mid (d := d) (by omega), rest_mid (d := { d with ph := 7 }) ⟨by simp, by simp⟩]
      simp
  · have hn : d.next C x = { d with ph := 11, t := (x, d.t.2) } := by unfold Hs.next; simp only [e]
    refine same (nr (by omega)) (ng (by omega)) ?_
    rw [hn, rest_out (d := d) (by omega), rest_out (d := { d with ph := 11, t := (x, d.t.2) }) (by simp)]
    simp
  · have hn : d.next C x = { d with ph := 12, t := (d.t.1, x) } := by unfold Hs.next; simp only [e]
    refine same (nr (by omega)) (ng (by omega)) ?_
    rw [hn, rest_out (d := d) (by omega), rest_out (d := { d with ph := 12, t := (d.t.1, x) }) (by simp)]
    simp
  · have hn : d.next C x = d.fin 5 [d.t] := by unfold Hs.next; simp only [e]
    have ht : d.t = rowAt row d.place := Prod.ext (HIi.g1 (by omega)) (HIi.g2 (by omega))
    refine same (nr (by omega)) (ng (by omega)) ?_
    rw [hn, rest_out (d := d) (by omega), rest_idle (d := d.fin 5 [d.t]) rfl, if_pos (show (d.fin 5 [d.t]).ph = 0 from rfl), ← ht]
    show _ = _ + [d.t].count t
    simp
/-- An operation that begins. -/
theorem hcn_ins {i : Nat} (hi : i < n) (h0 : (ds i).ph = 0) (u t : Tk) : hcn row H (upd ds i ((ds i).ins u)) n t = hcn row H ds n t + [u].count t := by
  have hu := hcn_upd (ds := ds) (row := row) (row' := row) (H := H) (H' := H) hi ((ds i).ins u) t (fun _ _ _ => rfl)
  rw [rest_idle h0, rest_in (d := (ds i).ins u) ⟨Nat.le_refl _, by show 1 ≤ 3; decide⟩] at hu
  simp only [List.count_nil] at hu
  have : ((ds i).ins u).t = u := rfl
  rw [this] at hu
  omega
theorem hcn_tak {i : Nat} (hi : i < n) (h0 : (ds i).ph = 0) (t : Tk) : hcn row H (upd ds i (ds i).tak) n t = hcn row H ds n t := by
  have hu := hcn_upd (ds := ds) (row := row) (row' := row) (H := H) (H' := H) hi (ds i).tak t (fun _ _ _ => rfl)
  rw [rest_idle h0, rest_mid (d := (ds i).tak) ⟨by show 4 ≤ 7; decide, by show 7 ≤ 9; decide⟩] at hu
  omega
end
end Go.Proofs.YtgjdjdgondpjeaaGreat

/- RingAlone: one operation at a time: the plain part. -/
namespace Go.Proofs.YtgjdjdgondpjeaaGreat
open Go.RowKit Go.Lib
set_option linter.unusedVariables false
set_option linter.unusedSimpArgs false
section
variable {b C n : Nat} {xs : List Int} {ds : Nat → Hs} {row : List Tk} {H : Int} {pl : Nat → Int}
theorem slot_facts {C : Nat} {p : Int} (hC : 2 ≤ C) (hp : 0 ≤ p) : slotN C p < C ∧ ((slotN C p : Nat) : Int) = p % (C : Int) := by
  unfold slotN
  have h1 := Int.emod_nonneg p (show (C : Int) ≠ 0 by omega)
  have h2 := Int.emod_lt_of_pos p (show (0 : Int) < C by omega)
  omega
theorem RI.alone_tail (h : RI b C xs n ds row H pl) (hr : ∀ j, j < n → (ds j).pg = none ∧ (ds j).gg = none) :
    (nth xs (turnN b C row.length) = row.length ∧ (row.length : Int) - H < C) ∨ (nth xs (turnN b C row.length) = row.length - C + 1 ∧ (row.length : Int) - H = C) := by
  have hC := h.c2
  have h0 := h.h0
  obtain ⟨s1, s2⟩ := slot_facts (C := C) (p := (row.length : Int)) hC (by omega)
  obtain ⟨k1, k2⟩ := slot_facts (C := C) (p := H) hC (by omega)
  obtain ⟨a1, a2, a3, a4⟩ := h.pl0 _ s1
  obtain ⟨c1, c2, c3, c4⟩ := h.pl0 _ k1
  have hle : pl (slotN C H) ≤ H := by
    by_cases q : pl (slotN C H) ≤ H
    · exact q
    · have := mod_lt (C := (C : Int)) (p := pl (slotN C H)) (q := H) (by omega) (by rw [c2, k2]) (by omega) (by omega)
      omega
  show (nth xs (b + 2 + 3 * slotN C row.length) = _ ∧ _) ∨ _
  rcases h.sl _ s1 with ⟨e, e2⟩ | ⟨e, e2, _⟩
  · left
    have hge : (row.length : Int) ≤ pl (slotN C row.length) := by
      by_cases q : (row.length : Int) ≤ pl (slotN C row.length)
      · exact q
      · obtain ⟨i, hi, hp⟩ := h.o1 _ s1 e (by omega)
        rw [(hr i hi).1] at hp; cases hp
    have := mod_lt (C := (C : Int)) (p := pl (slotN C row.length)) (q := row.length) (by omega) (by rw [a2, s2]) (by omega) (by omega)
    exact ⟨by rw [e, this], by omega⟩
  · right
    have hp : pl (slotN C row.length) = row.length - C := by
      refine mod_lt (C := (C : Int)) (by omega) ?_ (by omega) (by omega)
      rw [a2, s2, Int.sub_emod_right]
    have hge : H ≤ pl (slotN C row.length) := by
      by_cases q : H ≤ pl (slotN C row.length)
      · exact q
      · obtain ⟨i, hi, hg⟩ := h.o2 _ s1 e (by omega)
        rw [(hr i hi).2] at hg; cases hg
    refine ⟨?_, by omega⟩
    show nth xs (b + 2 + 3 * slotN C row.length) = _
    rw [e, hp]
theorem RI.alone_head (h : RI b C xs n ds row H pl) (hr : ∀ j, j < n → (ds j).pg = none ∧ (ds j).gg = none) :
    (nth xs (turnN b C H) = H + 1 ∧ H < row.length) ∨ (nth xs (turnN b C H) = H ∧ (row.length : Int) = H) := by
  have hC := h.c2
  have h0 := h.h0
  obtain ⟨s1, s2⟩ := slot_facts (C := C) (p := H) hC (by omega)
  obtain ⟨a1, a2, a3, a4⟩ := h.pl0 _ s1
  have hle : pl (slotN C H) ≤ H := by
    by_cases q : pl (slotN C H) ≤ H
    · exact q
    · have := mod_lt (C := (C : Int)) (p := pl (slotN C H)) (q := H) (by omega) (by rw [a2, s2]) (by omega) (by omega)
      omega
  show (nth xs (b + 2 + 3 * slotN C H) = _ ∧ _) ∨ (nth xs (b + 2 + 3 * slotN C H) = _ ∧ _)
  rcases h.sl _ s1 with ⟨e, e2⟩ | ⟨e, e2, _⟩
  · right
    have hpe : pl (slotN C H) = H := by omega
    refine ⟨by rw [e, hpe], ?_⟩
    by_cases q : (row.length : Int) = H
    · exact q
    · obtain ⟨i, hi, hp⟩ := h.o1 _ s1 e (by omega)
      rw [(hr i hi).1] at hp; cases hp
  · left
    have hge : H ≤ pl (slotN C H) := by
      by_cases q : H ≤ pl (slotN C H)
      · exact q
      · obtain ⟨i, hi, hg⟩ := h.o2 _ s1 e (by omega)
        rw [(hr i hi).2] at hg; cases hg
    have hpe : pl (slotN C H) = H := by omega
    exact ⟨by rw [e, hpe], by omega⟩
/-- How many steps are left at most. -/
def remS (ph : Nat) : Nat := if ph = 0 then 0 else if ph ≤ 6 then 7 - ph else 13 - ph
/-- An insertion alone, under way. -/
def InsA (C : Nat) (t : Tk) (row row' : List Tk) (H H' : Int) (d : Hs) : Prop :=
  H' = H ∧ ((1 ≤ d.ph ∧ d.ph ≤ 3 ∧ d.t = t ∧ row' = row ∧ (2 ≤ d.ph → d.place = row.length) ∧ (d.ph = 3 → (row.length : Int) - H < C)) ∨
    (4 ≤ d.ph ∧ d.ph ≤ 6 ∧ row' = row ++ [t] ∧ (row.length : Int) - H < C) ∨
    (d.ph = 0 ∧ d.st = 1 ∧ d.out = [] ∧ row' = row ++ [t] ∧ (row.length : Int) - H < C) ∨
    (d.ph = 0 ∧ d.st = 3 ∧ d.out = [t] ∧ row' = row ∧ (row.length : Int) - H = C))
/-- A removal alone, under way. -/
def TakA (row row' : List Tk) (H H' : Int) (d : Hs) : Prop :=
  row' = row ∧ ((7 ≤ d.ph ∧ d.ph ≤ 9 ∧ H' = H ∧ (8 ≤ d.ph → d.place = H) ∧ (d.ph = 9 → H < row.length)) ∨
    (10 ≤ d.ph ∧ d.ph ≤ 12 ∧ d.place = H ∧ H' = H + 1 ∧ H < row.length) ∨
    (d.ph = 0 ∧ d.st = 5 ∧ d.out = [rowAt row H] ∧ H' = H + 1 ∧ H < row.length) ∨
    (d.ph = 0 ∧ d.st = 2 ∧ d.out = [] ∧ H' = H ∧ (row.length : Int) = H))
theorem rest_of {ds : Nat → Hs} {n i : Nat} (ho : ∀ j, j < n → j ≠ i → (ds j).ph = 0) (h1 : ¬ (4 ≤ (ds i).ph ∧ (ds i).ph ≤ 6)) (h2 : ¬ (10 ≤ (ds i).ph ∧ (ds i).ph ≤ 12)) : ∀ j, j < n → (ds j).pg = none ∧ (ds j).gg = none := fun j hj => by
  unfold Hs.pg Hs.gg
  by_cases e : j = i
  · subst e; exact ⟨if_neg h1, if_neg h2⟩
  · have := ho j hj e
    exact ⟨if_neg (by omega), if_neg (by omega)⟩
theorem InsA.step (h : RI b C xs n ds row H pl) {i : Nat} (hi : i < n) (ho : ∀ j, j < n → j ≠ i → (ds j).ph = 0) (hb : (row.length : Int) < 18446744073709551615) {t : Tk} {r0 : List Tk} {H0 : Int} (hs : InsA C t r0 row H0 H (ds i)) (h0 : (ds i).ph ≠ 0) :
    InsA C t r0 ((ds i).rowN (nth xs ((ds i).cell b C)) row) H0 ((ds i).gonN (nth xs ((ds i).cell b C)) H) ((ds i).next C (nth xs ((ds i).cell b C))) ∧ remS ((ds i).next C (nth xs ((ds i).cell b C))).ph + 1 ≤ remS (ds i).ph := by
  have HI := h.hs i hi
  have hC := h.c2
  obtain ⟨rfl, hs⟩ := hs
  generalize hd : ds i = d at *
  rcases hs with ⟨p1, p3, ht, rfl, hpl, h3⟩ | ⟨p4, p6, hr, hl⟩ | ⟨p, _⟩ | ⟨p, _⟩
  · obtain e | e | e : d.ph = 1 ∨ d.ph = 2 ∨ d.ph = 3 := by omega
    · have hx : nth xs (d.cell b C) = row.length := by unfold Hs.cell; simp only [e]; exact h.tl
      rw [hx]
      have hn : d.next C row.length = { d with ph := 2, place := row.length } := by unfold Hs.next; simp only [e]
      have hg : d.gonN row.length H = H := if_neg (by omega)
      have hrw : d.rowN row.length row = row := if_neg (by omega)
      rw [hn, hg, hrw]
      refine ⟨⟨rfl, .inl ⟨by simp, by simp, ht, rfl, fun _ => rfl, fun q => absurd (show 2 = 3 from q) (by decide)⟩⟩, ?_⟩
      unfold remS; simp [e]
    · have hp := hpl (by omega)
      have hx : d.cell b C = turnN b C row.length := by unfold Hs.cell; simp only [e, hp]
      rw [hx]
      have ra := h.alone_tail (rest_of (i := i) ho (by rw [hd]; omega) (by rw [hd]; omega))
      have hg : ∀ x, d.gonN x H = H := fun x => if_neg (by omega)
      have hrw : ∀ x, d.rowN x row = row := fun x => if_neg (by omega)
      rw [hg, hrw]
      rcases ra with ⟨x, hl⟩ | ⟨x, hl⟩
      · have hn : d.next C (row.length : Int) = { d with ph := 3 } := by unfold Hs.next; simp only [e]; rw [if_pos hp.symm]
        rw [x, hn]
        refine ⟨⟨rfl, .inl ⟨by simp, by simp, ht, rfl, fun _ => hp, fun _ => hl⟩⟩, ?_⟩
        unfold remS; simp [e]
      · have hn : d.next C ((row.length : Int) - C + 1) = d.fin 3 [d.t] := by unfold Hs.next; simp only [e]; rw [if_neg (by omega), if_pos (by omega)]
        rw [x, hn]
        refine ⟨⟨rfl, .inr (.inr (.inr ⟨rfl, rfl, by rw [← ht]; rfl, rfl, hl⟩))⟩, ?_⟩
        unfold remS Hs.fin; simp [e]
    · have hp := hpl (by omega)
      have hl := h3 e
      have hx : nth xs (d.cell b C) = row.length := by unfold Hs.cell; simp only [e]; exact h.tl
      rw [hx]
      have hn : d.next C (row.length : Int) = { d with ph := 4 } := by unfold Hs.next; simp only [e]; rw [if_pos hp.symm]
      have hg : d.gonN row.length H = H := if_neg (by omega)
      have hrw : d.rowN row.length row = row ++ [d.t] := if_pos ⟨e, hp.symm⟩
      rw [hn, hg, hrw, ht]
      refine ⟨⟨rfl, .inr (.inl ⟨by simp, by simp, rfl, hl⟩)⟩, ?_⟩
      unfold remS; simp [e]
  · have hg : ∀ x, d.gonN x H = H := fun x => if_neg (by omega)
    have hrw : ∀ x, d.rowN x row = row := fun x => if_neg (by omega)
    rw [hg, hrw]
    obtain e | e | e : d.ph = 4 ∨ d.ph = 5 ∨ d.ph = 6 := by omega
    · have hn : ∀ x, d.next C x = { d with ph := 5 } := fun x => by unfold Hs.next; simp only [e]
      rw [hn]
      refine ⟨⟨rfl, .inr (.inl ⟨by simp, by simp, hr, hl⟩)⟩, ?_⟩
      unfold remS; simp [e]
    · have hn : ∀ x, d.next C x = { d with ph := 6 } := fun x => by unfold Hs.next; simp only [e]
      rw [hn]
      refine ⟨⟨rfl, .inr (.inl ⟨by simp, by simp, hr, hl⟩)⟩, ?_⟩
      unfold remS; simp [e]
    · have hn : ∀ x, d.next C x = d.fin 1 [] := fun x => by unfold Hs.next; simp only [e]
      rw [hn]
      refine ⟨⟨rfl, .inr (.inr (.inl ⟨rfl, rfl, rfl, hr, hl⟩))⟩, ?_⟩
      unfold remS Hs.fin; simp [e]
  · exact absurd p h0
  · exact absurd p h0
theorem TakA.step (h : RI b C xs n ds row H pl) {i : Nat} (hi : i < n) (ho : ∀ j, j < n → j ≠ i → (ds j).ph = 0) (hb : (row.length : Int) < 18446744073709551615) {r0 : List Tk} {H0 : Int} (hs : TakA r0 row H0 H (ds i)) (h0 : (ds i).ph ≠ 0) :
    TakA r0 ((ds i).rowN (nth xs ((ds i).cell b C)) row) H0 ((ds i).gonN (nth xs ((ds i).cell b C)) H) ((ds i).next C (nth xs ((ds i).cell b C))) ∧ remS ((ds i).next C (nth xs ((ds i).cell b C))).ph + 1 ≤ remS (ds i).ph := by
  have HI := h.hs i hi
  have hC := h.c2
  have hh := h.h0
  obtain ⟨rfl, hs⟩ := hs
  generalize hd : ds i = d at *
  have hrw : ∀ x, d.rowN x row = row := fun x => if_neg (by rcases hs with ⟨p, _⟩ | ⟨p, _⟩ | ⟨p, _⟩ | ⟨p, _⟩ <;> omega)
  rw [hrw]
  rcases hs with ⟨p7, p9, rfl, hpl, h3⟩ | ⟨p4, p6, hp, rfl, hl⟩ | ⟨p, _⟩ | ⟨p, _⟩
  · obtain e | e | e : d.ph = 7 ∨ d.ph = 8 ∨ d.ph = 9 := by omega
    · have hx : nth xs (d.cell b C) = H := by unfold Hs.cell; simp only [e]; exact h.hd
      rw [hx]
      have hn : d.next C H = { d with ph := 8, place := H } := by unfold Hs.next; simp only [e]
      have hg : d.gonN H H = H := if_neg (by omega)
      rw [hn, hg]
      refine ⟨⟨rfl, .inl ⟨by simp, by simp, rfl, fun _ => rfl, fun q => absurd (show 8 = 9 from q) (by decide)⟩⟩, ?_⟩
      unfold remS; simp [e]
    · have hp := hpl (by omega)
      have hx : d.cell b C = turnN b C H := by unfold Hs.cell; simp only [e, hp]
      rw [hx]
      have ra := h.alone_head (rest_of (i := i) ho (by rw [hd]; omega) (by rw [hd]; omega))
      have hg : ∀ x, d.gonN x H = H := fun x => if_neg (by omega)
      have hu : uw (d.place + 1) = H + 1 := by rw [hp]; unfold uw; omega
      rw [hg]
      rcases ra with ⟨x, hl⟩ | ⟨x, hl⟩
      · have hn : d.next C (H + 1) = { d with ph := 9 } := by unfold Hs.next; simp only [e]; rw [if_pos hu.symm]
        rw [x, hn]
        refine ⟨⟨rfl, .inl ⟨by simp, by simp, rfl, fun _ => hp, fun _ => hl⟩⟩, ?_⟩
        unfold remS; simp [e]
      · have hn : d.next C H = d.fin 2 [] := by unfold Hs.next; simp only [e]; rw [hu, if_neg (by omega), if_pos (by omega)]
        rw [x, hn]
        refine ⟨⟨rfl, .inr (.inr (.inr ⟨rfl, rfl, rfl, rfl, hl⟩))⟩, ?_⟩
        unfold remS Hs.fin; simp [e]
    · have hp := hpl (by omega)
      have hl := h3 e
      have hx : nth xs (d.cell b C) = H := by unfold Hs.cell; simp only [e]; exact h.hd
      rw [hx]
      have hn : d.next C H = { d with ph := 10 } := by unfold Hs.next; simp only [e]; rw [if_pos hp.symm]
      have hg : d.gonN H H = H + 1 := if_pos ⟨e, hp.symm⟩
      rw [hn, hg]
      refine ⟨⟨rfl, .inr (.inl ⟨by simp, by simp, hp, rfl, hl⟩)⟩, ?_⟩
      unfold remS; simp [e]
  · have hg : ∀ x, d.gonN x (H0 + 1) = H0 + 1 := fun x => if_neg (by omega)
    rw [hg]
    obtain e | e | e : d.ph = 10 ∨ d.ph = 11 ∨ d.ph = 12 := by omega
    · have hn : ∀ x, d.next C x = { d with ph := 11, t := (x, d.t.2) } := fun x => by unfold Hs.next; simp only [e]
      rw [hn]
      refine ⟨⟨rfl, .inr (.inl ⟨by simp, by simp, hp, rfl, hl⟩)⟩, ?_⟩
      unfold remS; simp [e]
    · have hn : ∀ x, d.next C x = { d with ph := 12, t := (d.t.1, x) } := fun x => by unfold Hs.next; simp only [e]
      rw [hn]
      refine ⟨⟨rfl, .inr (.inl ⟨by simp, by simp, hp, rfl, hl⟩)⟩, ?_⟩
      unfold remS; simp [e]
    · have hn : ∀ x, d.next C x = d.fin 5 [d.t] := fun x => by unfold Hs.next; simp only [e]
      rw [hn]
      have ht : d.t = rowAt row H0 := by rw [← hp]; exact Prod.ext (HI.g1 (by omega)) (HI.g2 (by omega))
      refine ⟨⟨rfl, .inr (.inr (.inl ⟨rfl, rfl, by rw [← ht]; rfl, rfl, hl⟩))⟩, ?_⟩
      unfold remS Hs.fin; simp [e]
  · exact absurd p h0
  · exact absurd p h0
end
end Go.Proofs.YtgjdjdgondpjeaaGreat
