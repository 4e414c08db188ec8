/- Events and spans, plainly: what a history's operations are. -/
import Derived.Test.YtfoeljcgbfpknaaRec
namespace Go.Proofs.Ytfoeljcgbfpknaa
open Go.RowKit Go.Lib
set_option linter.unusedVariables false
structure Ev where
  tm : Int
  who : Int
  kind : Int
  key : Int
  load : Int
structure Sp where
  who : Int
  ins : Bool
  key : Int
  load : Int
  beg : Int
  en : Int
  kind : Int
def ev0 : Ev := ⟨0, 0, 0, 0, 0⟩
def sp0 : Sp := ⟨0, false, 0, 0, 0, 0, 0⟩
def evAt (l : List Ev) (i : Nat) : Ev := l[i]?.getD ev0
def spAt (l : List Sp) (i : Nat) : Sp := l[i]?.getD sp0
theorem evAt_get {l : List Ev} {i : Nat} (h : i < l.length) : l[i]? = some (evAt l i) := by simp [evAt, h]
theorem spAt_get {l : List Sp} {i : Nat} (h : i < l.length) : l[i]? = some (spAt l i) := by simp [spAt, h]
def Ev.arr (e : Ev) : Array Value := #[.int .i64 e.tm, .int .i64 e.who, .int .i64 e.kind, .int .u64 e.key, .int .u64 e.load]
def Sp.arr (s : Sp) : Array Value := #[.int .i64 s.who, .bool s.ins, .int .u64 s.key, .int .u64 s.load, .int .i64 s.beg, .int .i64 s.en, .int .i64 s.kind]
theorem Ev.size (e : Ev) : e.arr.size = 5 := rfl
theorem Sp.size (s : Sp) : s.arr.size = 7 := rfl
abbrev EAt (w : World) (v : Value) (l : List Ev) : Prop := RAt Ev.arr 5 w v l
abbrev SOwn (w : World) (fr : Nat) (v : Value) (l : List Sp) : Prop := ROwn Sp.arr 7 69 w fr v l

/-- May the event stand behind one at last? -/
def okE (e : Ev) (last : Int) : Bool := decide (0 ≤ e.who ∧ 1 ≤ e.kind ∧ e.kind ≤ 6 ∧ 0 ≤ e.tm ∧ last ≤ e.tm ∧ (e.kind = 1 ∨ e.kind = 4 ∨ (e.key = 0 ∧ e.load = 0)))
/-- The open span of who among the first j. -/
def opnTo (l : List Sp) (who : Int) : Nat → Option Nat
  | 0 => none
  | j + 1 => if (spAt l j).who = who then (if (spAt l j).en = -1 then some j else none) else opnTo l who j
def opn (l : List Sp) (who : Int) : Option Nat := opnTo l who l.length
def opI (o : Option Nat) : Int := match o with | some k => (k : Int) | none => -1
theorem opnTo_some {l : List Sp} {who : Int} : ∀ {j k : Nat}, opnTo l who j = some k → k < j ∧ (spAt l k).who = who ∧ (spAt l k).en = -1 ∧ ∀ m, k < m → m < j → (spAt l m).who ≠ who
  | 0, k, h => by simp [opnTo] at h
  | j + 1, k, h => by
    unfold opnTo at h
    split at h
    · rename_i h1
      split at h
      · rename_i h2
        simp only [Option.some.injEq] at h
        subst h
        exact ⟨Nat.lt_succ_self _, h1, h2, fun m h3 h4 => by omega⟩
      · cases h
    · rename_i h1
      obtain ⟨a, b, c, d⟩ := opnTo_some h
      refine ⟨by omega, b, c, fun m h3 h4 => ?_⟩
      by_cases e : m = j
      · subst e; exact h1
      · exact d m h3 (by omega)
theorem opn_some {l : List Sp} {who : Int} {k : Nat} (h : opn l who = some k) : k < l.length ∧ (spAt l k).who = who ∧ (spAt l k).en = -1 ∧ ∀ m, k < m → m < l.length → (spAt l m).who ≠ who := opnTo_some h
theorem opnTo_congr {l m : List Sp} {who : Int} : ∀ {j : Nat}, (∀ i, i < j → spAt l i = spAt m i) → opnTo l who j = opnTo m who j
  | 0, _ => rfl
  | j + 1, h => by
    unfold opnTo
    rw [h j (Nat.lt_succ_self _), opnTo_congr (fun i hi => h i (Nat.lt_succ_of_lt hi))]
theorem opn_snoc (l : List Sp) (s : Sp) (who : Int) : opn (l ++ [s]) who = if s.who = who then (if s.en = -1 then some l.length else none) else opn l who := by
  unfold opn
  rw [List.length_append, List.length_singleton]
  show (if (spAt (l ++ [s]) l.length).who = who then (if (spAt (l ++ [s]) l.length).en = -1 then some l.length else none) else opnTo (l ++ [s]) who l.length) = _
  have e : spAt (l ++ [s]) l.length = s := by simp [spAt]
  rw [e, opnTo_congr (m := l) (fun i hi => by simp [spAt, List.getElem?_append_left hi])]
theorem spAt_set (l : List Sp) (k : Nat) (s : Sp) (i : Nat) (hk : k < l.length) : spAt (l.set k s) i = if i = k then s else spAt l i := by
  unfold spAt
  rw [List.getElem?_set]
  by_cases e : k = i
  · subst e; simp [hk]
  · rw [if_neg e, if_neg (fun h => e h.symm)]
theorem opnTo_set {l : List Sp} {k : Nat} {s : Sp} {who : Int} (hk : k < l.length) (hs : s.who = (spAt l k).who) (he : s.en ≠ -1) (hw : (spAt l k).who ≠ who) : ∀ j, opnTo (l.set k s) who j = opnTo l who j
  | 0 => rfl
  | j + 1 => by
    unfold opnTo
    rw [opnTo_set hk hs he hw j, spAt_set l k s j hk]
    by_cases e : j = k
    · subst e; rw [if_pos rfl, hs, if_neg hw, if_neg hw]
    · rw [if_neg e]
theorem opnTo_shut {l : List Sp} {k : Nat} {s : Sp} {who : Int} (hk : k < l.length) (hs : s.who = who) (he : s.en ≠ -1) : ∀ j, k < j → (∀ m, k < m → m < j → (spAt l m).who ≠ who) → opnTo (l.set k s) who j = none
  | 0, h, _ => by omega
  | j + 1, h, hm => by
    unfold opnTo
    rw [spAt_set l k s j hk]
    by_cases e : j = k
    · subst e; rw [if_pos rfl, if_pos hs, if_neg he]
    · rw [if_neg e, if_neg (hm j (by omega) (by omega))]
      exact opnTo_shut hk hs he j (by omega) (fun m h1 h2 => hm m h1 (by omega))
theorem opn_set {l : List Sp} {k : Nat} {s : Sp} {who who' : Int} (h : opn l who = some k) (hs : s.who = who) (he : s.en ≠ -1) : opn (l.set k s) who' = if who' = who then none else opn l who' := by
  obtain ⟨h1, h2, h3, h4⟩ := opn_some h
  unfold opn
  rw [List.length_set]
  by_cases e : who' = who
  · subst e; rw [if_pos rfl]; exact opnTo_shut h1 hs he _ h1 h4
  · rw [if_neg e]; exact opnTo_set h1 (hs.trans h2.symm) he (by rw [h2]; exact fun h => e h.symm) _
/-- An operation that begins; one that an event ends. -/
def born (i : Nat) (e : Ev) : Sp := ⟨e.who, e.kind == 1, e.key, e.load, (i : Int), -1, 0⟩
def shut (i : Nat) (e : Ev) (s : Sp) : Sp := ⟨s.who, s.ins, if e.kind = 4 then e.key else s.key, if e.kind = 4 then e.load else s.load, s.beg, (i : Int), e.kind⟩
def begs (k : Int) : Bool := decide (k = 1 ∨ k = 3)
def ends (ins : Bool) (k : Int) : Bool := decide (k = 6 ∨ (k = 2 ∧ ins = true) ∨ ((k = 4 ∨ k = 5) ∧ ins = false))
def stp (l : List Sp) (last : Int) (i : Nat) (e : Ev) : Option (List Sp) :=
  if okE e last = true then
    match opn l e.who with
    | none => if begs e.kind = true then some (l ++ [born i e]) else none
    | some k => if ends (spAt l k).ins e.kind = true then some (l.set k (shut i e (spAt l k))) else none
  else none
def rn (evs : List Ev) : Nat → Option (List Sp × Int)
  | 0 => some ([], 0)
  | i + 1 => match rn evs i with
    | none => none
    | some (l, last) => (stp l last i (evAt evs i)).map fun l' => (l', (evAt evs i).tm)
theorem stp_len {l l' : List Sp} {last : Int} {i : Nat} {e : Ev} (h : stp l last i e = some l') : l'.length ≤ l.length + 1 := by
  unfold stp at h
  split at h
  · split at h
    · split at h
      · simp at h; subst h; simp
      · cases h
    · split at h
      · simp at h; subst h; simp
      · cases h
  · cases h
theorem rn_len (evs : List Ev) : ∀ {i : Nat} {l : List Sp} {last : Int}, rn evs i = some (l, last) → l.length ≤ i
  | 0, l, last, h => by simp [rn] at h; simp [h.1.symm]
  | i + 1, l, last, h => by
    unfold rn at h
    split at h
    · cases h
    · rename_i l0 last0 h0
      have := rn_len evs h0
      cases hs : stp l0 last0 i (evAt evs i) with
      | none => rw [hs] at h; cases h
      | some l' =>
        rw [hs] at h
        simp at h
        have := stp_len hs
        rw [← h.1]; omega
def badAt (evs : List Ev) : Option Nat := first (fun i => (rn evs (i + 1)).isNone) evs.length
def aSp (evs : List Ev) : List Sp := match badAt evs with | some _ => [] | none => if 2000 < evs.length then [] else ((rn evs evs.length).getD ([], 0)).1
def aEr (evs : List Ev) : Int := match badAt evs with | some _ => 70 | none => if 2000 < evs.length then 71 else 0
def aIx (evs : List Ev) : Int := match badAt evs with | some i => (i : Int) | none => 0
theorem rn_down (evs : List Ev) : ∀ {i : Nat}, (rn evs i).isSome = true → ∀ j, j ≤ i → (rn evs j).isSome = true
  | 0, h, j, hj => by obtain rfl : j = 0 := by omega
                      exact h
  | i + 1, h, j, hj => by
    by_cases e : j = i + 1
    · subst e; exact h
    · refine rn_down evs (i := i) ?_ j (by omega)
      unfold rn at h
      cases hr : rn evs i with
      | none => rw [hr] at h; cases h
      | some _ => rfl
theorem bad_some {evs : List Ev} {i : Nat} (hi : i < evs.length) (h : (rn evs i).isSome = true) (h2 : rn evs (i + 1) = none) : badAt evs = some i :=
  first_some (p := fun i => (rn evs (i + 1)).isNone) hi (by simp [h2]) (fun j hj => by
    have := rn_down evs h (j + 1) (by omega)
    cases hr : rn evs (j + 1) with
    | none => rw [hr] at this; cases this
    | some _ => rfl)
theorem bad_none {evs : List Ev} (h : (rn evs evs.length).isSome = true) : badAt evs = none :=
  first_none (p := fun i => (rn evs (i + 1)).isNone) fun j hj => by
    have := rn_down evs h (j + 1) (by omega)
    cases hr : rn evs (j + 1) with
    | none => rw [hr] at this; cases this
    | some _ => rfl
theorem ans_bad {evs : List Ev} {i : Nat} (h : badAt evs = some i) : aSp evs = [] ∧ aEr evs = 70 ∧ aIx evs = (i : Int) := by
  unfold aSp aEr aIx; rw [h]; exact ⟨rfl, rfl, rfl⟩
theorem ans_many {evs : List Ev} (h : badAt evs = none) (h2 : 2000 < evs.length) : aSp evs = [] ∧ aEr evs = 71 ∧ aIx evs = 0 := by
  unfold aSp aEr aIx; rw [h]; simp only; rw [if_pos h2, if_pos h2]; simp
theorem ans_good {evs : List Ev} {l : List Sp} {last : Int} (h : badAt evs = none) (h2 : ¬ 2000 < evs.length) (h3 : rn evs evs.length = some (l, last)) : aSp evs = l ∧ aEr evs = 0 ∧ aIx evs = 0 := by
  unfold aSp aEr aIx; rw [h]; simp only; rw [if_neg h2, if_neg h2, h3]; simp
theorem rn_next {evs : List Ev} {i : Nat} {l : List Sp} {last : Int} (h : rn evs i = some (l, last)) : rn evs (i + 1) = (stp l last i (evAt evs i)).map fun l' => (l', (evAt evs i).tm) := by
  show (match rn evs i with | none => none | some (l, last) => (stp l last i (evAt evs i)).map fun l' => (l', (evAt evs i).tm)) = _
  rw [h]
theorem aSp_len (evs : List Ev) : (aSp evs).length ≤ 2000 := by
  unfold aSp
  split
  · simp
  · split
    · simp
    · cases h : rn evs evs.length with
      | none => simp
      | some p => obtain ⟨l, last⟩ := p; have := rn_len evs h; simp; omega
end Go.Proofs.Ytfoeljcgbfpknaa
