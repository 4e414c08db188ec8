/- An access of the program's port, and of the document's, in all states. -/
import Derived.Test.YtfgchkkljlbmcaaSd1
namespace Go.Proofs.Ytfgchkkljlbmcaa
open Go.RowKit Go.Lib Go.MuLone
set_option linter.unusedVariables false
/-- Is it made? -/
def Mk (s : Ast) (g : Bool) (cell : Int) : Prop := s.stopped = false ∧ g = true ∧ 0 ≤ cell ∧ cell < s.cells.length
instance (s : Ast) (g : Bool) (cell : Int) : Decidable (Mk s g cell) := by unfold Mk; infer_instance
/-- What the arena is behind an access that is not made. -/
def accZ (s : Ast) (who : Int) (g : Bool) (cell : Int) : Ast := if s.stopped then s else if g then s.stop who 1 cell else s.stop who 2 cell
def accS (s : Ast) (who : Int) (g : Bool) (kind cell want put : Int) : Ast := if Mk s g cell then s.made cell.toNat (refM who kind cell.toNat want put (nth s.cells cell.toNat)) else accZ s who g cell
def accG (s : Ast) (g : Bool) : Bool := if s.stopped then g else false
def accV (s : Ast) (g : Bool) (kind cell : Int) : Int := if Mk s g cell then refV kind (nth s.cells cell.toNat) else 0
def accB (s : Ast) (g : Bool) (kind cell want : Int) : Bool := if Mk s g cell then refB kind (nth s.cells cell.toNat) want else false
/-- What the program's access leaves. -/
def APost (w w' : World) (Y b gc p : Nat) (lv : Value) (s' : Ast) (who : Int) (g' : Bool) : Prop :=
  ∃ lv', AIs w' Y b gc lv' s' ∧ (lv'.ownBlock = lv.ownBlock ∨ ∃ g, lv'.ownBlock = some g ∧ w.heap.size ≤ g) ∧ w'.heap[p]? = some (PObj b who g') ∧ Chg (accSet b gc p lv) w w'
/-- A port and its arena. -/
structure AR (w : World) (Y b gc p : Nat) (lv : Value) (s : Ast) (who : Int) (g : Bool) : Prop where
  ar : AIs w Y b gc lv s
  po : w.heap[p]? = some (PObj b who g)
  pb : p ≠ b
  pg : p ≠ gc
  pl : lv.ownBlock ≠ some p
  c0 : 0 ≤ s.count
  c1 : s.count < 9223372036854775807
  big : (s.log.length + 1) * 64 ≤ 140737488355328
variable {w : World} {Y b gc p : Nat} {lv : Value} {s : Ast} {who : Int} {g : Bool}
theorem AR.zeros (R : AR w Y b gc p lv s who g) (cell : Int) (hn : ¬ Mk s g cell) : Zeros w p cell (fun w' => APost w w' Y b gc p lv (accZ s who g cell) who (accG s g)) := by
  intro k want put
  cases hs : s.stopped with
  | true =>
    refine (access_stopped p Y b gc lv s who g k want put cell w R.ar R.po R.pb hs).mono ?_
    rintro e w' ⟨rfl, ha, hk⟩
    unfold accZ accG
    rw [hs]
    exact ⟨rfl, lv, ha, .inl rfl, hk.heap R.po (fun e => R.pb e), hk.mono (fun i hi => .inl hi)⟩
  | false =>
    cases g with
    | false =>
      refine (access_none p Y b gc lv s who k want put cell w R.ar R.po R.pb hs).mono ?_
      rintro e w' ⟨rfl, ha, hk⟩
      unfold accZ accG
      rw [hs]
      exact ⟨rfl, lv, ha, .inl rfl, hk.heap R.po (fun e => R.pb e), hk.mono (fun i hi => .inl hi)⟩
    | true =>
      refine (access_out p Y b gc lv s who k want put cell w R.ar R.po R.pb R.pg R.pl hs (fun h => hn ⟨hs, rfl, h.1, h.2⟩)).mono ?_
      rintro e w' ⟨rfl, ha, hp, hk⟩
      unfold accZ accG
      rw [hs]
      exact ⟨rfl, lv, ha, .inl rfl, hp, hk.mono (fun i hi => hi.elim .inl (fun e => .inr (.inr (.inl e))))⟩
theorem AR.ready (R : AR w Y b gc p lv s who g) {cell : Int} (hm : Mk s g cell) : Ready w Y b gc p lv s who cell.toNat ∧ (cell.toNat : Int) = cell :=
  ⟨⟨R.ar, by have := R.po; rw [hm.2.1] at this; exact this, R.pb, R.pg, R.pl, hm.1, by have := hm.2.2; omega, R.c0, R.c1, R.big⟩, by have := hm.2.2; omega⟩
theorem AR.done {w' : World} {kind cell want put : Int} {m : Acc} (hm : Mk s g cell) (he : m = refM who kind cell.toNat want put (nth s.cells cell.toNat)) (h : AccPost w w' Y b gc p lv s who cell.toNat m) : APost w w' Y b gc p lv (accS s who g kind cell want put) who (accG s g) := by
  unfold accS accG
  rw [if_pos hm, hm.1, ← he]
  exact h
theorem AR.none {w' : World} {kind cell want put : Int} (hm : ¬ Mk s g cell) (h : APost w w' Y b gc p lv (accZ s who g cell) who (accG s g)) : APost w w' Y b gc p lv (accS s who g kind cell want put) who (accG s g) := by
  unfold accS
  rw [if_neg hm]
  exact h
theorem pLoad (R : AR w Y b gc p lv s who g) (cell want put : Int) :
    Calls Try.prog 35 #[.pointer (some ⟨p, 0, none⟩), .int .i64 cell] w fun r w' => r = .returned (.int .u64 (accV s g 1 cell)) ∧ APost w w' Y b gc p lv (accS s who g 1 cell want put) who (accG s g) := by
  by_cases hm : Mk s g cell
  · obtain ⟨h1, h2⟩ := R.ready hm
    have h := load_made h1
    rw [h2] at h
    refine h.mono ?_
    rintro e w' ⟨rfl, h⟩
    refine ⟨by unfold accV; rw [if_pos hm]; rfl, AR.done hm ?_ h⟩
    unfold refM; rw [if_pos rfl, h2]
  · refine (load_zero cell (R.zeros cell hm)).mono ?_
    rintro e w' ⟨rfl, h⟩
    exact ⟨by unfold accV; rw [if_neg hm], AR.none hm h⟩
theorem pStore (R : AR w Y b gc p lv s who g) (cell want put : Int) :
    Calls Try.prog 48 #[.pointer (some ⟨p, 0, none⟩), .int .i64 cell, .int .u64 put] w fun r w' => r = .returned (.tuple #[]) ∧ APost w w' Y b gc p lv (accS s who g 2 cell want put) who (accG s g) := by
  by_cases hm : Mk s g cell
  · obtain ⟨h1, h2⟩ := R.ready hm
    have h := store_made put h1
    rw [h2] at h
    refine h.mono ?_
    rintro e w' ⟨rfl, h⟩
    refine ⟨rfl, AR.done hm ?_ h⟩
    unfold refM; rw [if_neg (by decide), if_pos rfl, h2]
  · refine (store_zero cell put (R.zeros cell hm)).mono ?_
    rintro e w' ⟨rfl, h⟩
    exact ⟨rfl, AR.none hm h⟩
theorem pCas (R : AR w Y b gc p lv s who g) (cell want put : Int) :
    Calls Try.prog 34 #[.pointer (some ⟨p, 0, none⟩), .int .i64 cell, .int .u64 want, .int .u64 put] w fun r w' => r = .returned (.bool (accB s g 3 cell want)) ∧ APost w w' Y b gc p lv (accS s who g 3 cell want put) who (accG s g) := by
  by_cases hm : Mk s g cell
  · obtain ⟨h1, h2⟩ := R.ready hm
    have h := cas_made want put h1
    rw [h2] at h
    refine h.mono ?_
    rintro e w' ⟨rfl, h⟩
    refine ⟨by unfold accB; rw [if_pos hm]; rfl, AR.done hm ?_ h⟩
    unfold refM; rw [if_neg (show ¬ (3 : Int) = 1 by decide), if_neg (show ¬ (3 : Int) = 2 by decide), if_pos (show (3 : Int) = 3 from rfl), h2]
  · refine (cas_zero cell want put (R.zeros cell hm)).mono ?_
    rintro e w' ⟨rfl, h⟩
    exact ⟨by unfold accB; rw [if_neg hm], AR.none hm h⟩
theorem pAdd (R : AR w Y b gc p lv s who g) (cell want put : Int) :
    Calls Try.prog 44 #[.pointer (some ⟨p, 0, none⟩), .int .i64 cell, .int .u64 put] w fun r w' => r = .returned (.int .u64 (accV s g 4 cell)) ∧ APost w w' Y b gc p lv (accS s who g 4 cell want put) who (accG s g) := by
  by_cases hm : Mk s g cell
  · obtain ⟨h1, h2⟩ := R.ready hm
    have h := add_made put h1
    rw [h2] at h
    refine h.mono ?_
    rintro e w' ⟨rfl, h⟩
    refine ⟨by unfold accV; rw [if_pos hm]; rfl, AR.done hm ?_ h⟩
    unfold refM; rw [if_neg (by decide), if_neg (by decide), if_neg (by decide), if_pos rfl, h2]
  · refine (add_zero cell put (R.zeros cell hm)).mono ?_
    rintro e w' ⟨rfl, h⟩
    exact ⟨by unfold accV; rw [if_neg hm], AR.none hm h⟩
theorem pSwap (R : AR w Y b gc p lv s who g) (cell want put : Int) :
    Calls Try.prog 49 #[.pointer (some ⟨p, 0, none⟩), .int .i64 cell, .int .u64 put] w fun r w' => r = .returned (.int .u64 (accV s g 5 cell)) ∧ APost w w' Y b gc p lv (accS s who g 5 cell want put) who (accG s g) := by
  by_cases hm : Mk s g cell
  · obtain ⟨h1, h2⟩ := R.ready hm
    have h := swap_made put h1
    rw [h2] at h
    refine h.mono ?_
    rintro e w' ⟨rfl, h⟩
    refine ⟨by unfold accV; rw [if_pos hm]; rfl, AR.done hm ?_ h⟩
    unfold refM; rw [if_neg (by decide), if_neg (by decide), if_neg (by decide), if_neg (by decide), h2]
  · refine (swap_zero cell put (R.zeros cell hm)).mono ?_
    rintro e w' ⟨rfl, h⟩
    exact ⟨by unfold accV; rw [if_neg hm], AR.none hm h⟩
theorem set_same {has : List Bool} {k : Nat} {g : Bool} (h : has[k]? = some g) : has.set k g = has := by
  obtain ⟨h1, rfl⟩ := List.getElem?_eq_some_iff.1 h
  exact List.set_getElem_self h1
/-- The document's Do in all states. -/
def RPst (w w' : World) (Y q b gc : Nat) (lv wv hv : Value) (r' : Ast) (whos : List Int) (has' : List Bool) : Prop :=
  ∃ lv', RIs w' Y b gc lv' r' ∧ (lv'.ownBlock = lv.ownBlock ∨ ∃ g, lv'.ownBlock = some g ∧ w.heap.size ≤ g) ∧ QIs w' Y q b wv hv whos has' ∧ Chg (fun j => refSet b gc lv j ∨ hv.ownBlock = some j) w w'
theorem refDo_any (q : Nat) (wv hv : Value) (whos : List Int) (has : List Bool) (k : Nat) (kind cell want put : Int) (hQ : QIs w Y q b wv hv whos has) (hR : RIs w Y b gc lv s) (hk : has[k]? = some g) (hwh : whos[k]? = some who) (h1 : 1 ≤ kind) (h5 : kind ≤ 5)
    (c0 : 0 ≤ s.count) (c1 : s.count < 9223372036854775807) (big : (s.log.length + 1) * 64 ≤ 140737488355328) :
    Calls Try.prog 62 #[.pointer (some ⟨q, 0, none⟩), .int .i64 k, .int .i64 kind, .int .i64 cell, .int .u64 want, .int .u64 put] w fun r w' => r = .returned (.tuple #[.int .u64 (accV s g kind cell), .bool (accB s g kind cell want)]) ∧
      RPst w w' Y q b gc lv wv hv (accS s who g kind cell want put) whos (has.set k (accG s g)) := by
  by_cases hm : Mk s g cell
  · have hk' : has[k]? = some true := by rw [hk, hm.2.1]
    have hc : (cell.toNat : Int) = cell := by have := hm.2.2; omega
    have h := refDo_in Y Y q b gc lv wv hv s whos has k cell.toNat who kind want put w hQ ⟨hR, hm.1, by have := hm.2.2; omega, c0, c1, big⟩ hk' hwh h1 h5
    rw [hc] at h
    refine h.mono ?_
    rintro e w' ⟨rfl, h⟩
    unfold accV accB accS accG
    rw [if_pos hm, if_pos hm, if_pos hm, hm.1]
    exact ⟨rfl, h⟩
  · have e1 : accV s g kind cell = 0 := by unfold accV; rw [if_neg hm]
    have e2 : accB s g kind cell want = false := by unfold accB; rw [if_neg hm]
    have e3 : accS s who g kind cell want put = accZ s who g cell := by unfold accS; rw [if_neg hm]
    rw [e1, e2, e3]
    cases hs : s.stopped with
    | true =>
      refine (refDo_stopped Y Y q b gc lv wv hv s whos has k kind cell want put w hQ hR hs).mono ?_
      rintro e w' ⟨rfl, rfl⟩
      unfold accZ accG
      rw [hs, if_pos rfl, if_pos rfl, set_same hk]
      exact ⟨rfl, lv, hR, .inl rfl, hQ, Chg.refl _ _⟩
    | false =>
      cases g with
      | false =>
        refine (refDo_none Y Y q b gc lv wv hv s whos has k who kind cell want put w hQ hR hs hk hwh).mono ?_
        rintro e w' ⟨rfl, h1, h2, h3⟩
        unfold accZ accG
        rw [hs, if_neg (by decide), if_neg (by decide), if_neg (by decide), set_same hk]
        exact ⟨rfl, lv, h1, .inl rfl, h2, h3.mono (fun i hi => .inl (.inl hi))⟩
      | true =>
        refine (refDo_out Y Y q b gc lv wv hv s whos has k who kind cell want put w hQ hR hs ?_ hk hwh h1 h5).mono ?_
        · have : ¬ (0 ≤ cell ∧ cell < s.cells.length) := fun h => hm ⟨hs, rfl, h.1, h.2⟩
          omega
        · rintro e w' ⟨rfl, h1, h2, h3⟩
          unfold accZ accG
          rw [hs, if_neg (by decide), if_pos rfl, if_neg (by decide)]
          exact ⟨rfl, lv, h1, .inl rfl, h2, h3.mono (fun i hi => hi.elim (fun e => .inl (.inl e)) .inr)⟩
end Go.Proofs.Ytfgchkkljlbmcaa
