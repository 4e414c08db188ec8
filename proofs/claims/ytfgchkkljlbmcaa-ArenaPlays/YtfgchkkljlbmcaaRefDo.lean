/- The reference's Do. -/
import Derived.Test.YtfgchkkljlbmcaaRefOut
import Derived.Test.YtfgchkkljlbmcaaDoMade
namespace Go.Proofs.Ytfgchkkljlbmcaa
open Go.RowKit Go.Lib Go.MuLone

theorem QIs.kept {S : Nat → Prop} {w w' : World} {Z q b : Nat} {wv hv : Value} {whos : List Int} {has : List Bool} (h : QIs w Z q b wv hv whos has) (k : Chg S w w') (h1 : ¬ S q) (h2 : ∀ i, wv.ownBlock = some i → ¬ S i) (h3 : ∀ i, hv.ownBlock = some i → ¬ S i) : QIs w' Z q b wv hv whos has :=
  ⟨k.heap h.hq h1, ownsRow_block h.hw (fun i hi => k.block i (owns_lt h.hw hi).2 (h2 i hi)), ownsRow_block h.hh (fun i hi => k.block i (owns_lt h.hh hi).2 (h3 i hi)), h.le, h.qY⟩
/-- The ports' blocks are not the arena's. -/
theorem QIs.far {w : World} {Y Z q b gc : Nat} {lv wv hv : Value} {s : Ast} {whos : List Int} {has : List Bool} (hQ : QIs w Z q b wv hv whos has) (hR : RIs w Y b gc lv s) :
    ¬ refSet b gc lv q ∧ (∀ i, wv.ownBlock = some i → ¬ refSet b gc lv i) ∧ (∀ i, hv.ownBlock = some i → ¬ refSet b gc lv i) := by
  have tb := hR.hb
  have tc := hR.hc
  unfold RObj at tb
  unfold wordsObj at tc
  have all : ∀ (i : Nat) (c : Array Value) (t : TypeId), w.heap[i]? = some (.cells c t (0, 0)) → t ≠ 107 → t ≠ 29 → t ≠ 31 → ¬ refSet b gc lv i := by
    intro i c t h n1 n2 n3 e
    rcases e with e | e | e
    · exact ne_of_type h tb n1 e
    · exact ne_of_type h tc n2 e
    · obtain ⟨c', h'⟩ := own_type hR.hl e
      exact ne_of_type h h' n3 rfl
  refine ⟨all q _ _ hQ.hq (by decide) (by decide) (by decide), fun i hi => ?_, fun i hi => ?_⟩
  · obtain ⟨c', h'⟩ := own_type hQ.hw hi
    exact all i _ _ h' (by decide) (by decide) (by decide)
  · obtain ⟨c', h'⟩ := own_type hQ.hh hi
    exact all i _ _ h' (by decide) (by decide) (by decide)
theorem RIs.pass {w w' : World} {Y Z q b gc : Nat} {lv wv hv : Value} {s : Ast} {whos : List Int} {has : List Bool} (hR : RIs w Y b gc lv s) (hQ : QIs w Z q b wv hv whos has) (k : Chg (fun j => hv.ownBlock = some j) w w') : RIs w' Y b gc lv s :=
  hR.kept k (fun e => (hQ.far hR).2.2 _ e (.inl rfl)) (fun e => (hQ.far hR).2.2 _ e (.inr (.inl rfl))) (fun _ hi e => (hQ.far hR).2.2 _ e (.inr (.inr hi)))

theorem refDo_stopped (Z Y q b gc : Nat) (lv wv hv : Value) (s : Ast) (whos : List Int) (has : List Bool) (k kind cell want put : Int) (w : World) (hQ : QIs w Z q b wv hv whos has) (hR : RIs w Y b gc lv s) (hs : s.stopped = true) :
    Calls Try.prog 62 #[.pointer (some ⟨q, 0, none⟩), .int .i64 k, .int .i64 kind, .int .i64 cell, .int .u64 want, .int .u64 put] w fun r w' => r = .returned (.tuple #[.int .u64 0, .bool false]) ∧ w' = w := by
  have HP := hide (refPass_stopped Z Y q b gc lv wv hv s whos has k cell w hQ hR hs)
  clear hQ hR hs
  go_enter Try.func62, Try.ntmps62
  go_wp2_with fail
  refine HP.out.mono ?_
  rintro e w' ⟨rfl, rfl⟩
  go_wp2_with fail
  go_ret2
  exact ⟨rfl, rfl⟩
theorem refDo_none (Z Y q b gc : Nat) (lv wv hv : Value) (s : Ast) (whos : List Int) (has : List Bool) (k : Nat) (who kind cell want put : Int) (w : World) (hQ : QIs w Z q b wv hv whos has) (hR : RIs w Y b gc lv s) (hs : s.stopped = false) (hk : has[k]? = some false) (hwh : whos[k]? = some who) :
    Calls Try.prog 62 #[.pointer (some ⟨q, 0, none⟩), .int .i64 k, .int .i64 kind, .int .i64 cell, .int .u64 want, .int .u64 put] w fun r w' => r = .returned (.tuple #[.int .u64 0, .bool false]) ∧
      RIs w' Y b gc lv (s.stop who 2 cell) ∧ QIs w' Z q b wv hv whos has ∧ Chg (fun j => j = b) w w' := by
  have HP := hide (refPass_none Z Y q b gc lv wv hv s whos has k who cell w hQ hR hs hk hwh)
  have HQ := hide hQ
  have HF := hide (hQ.far hR)
  clear hQ hR hs hk hwh
  go_enter Try.func62, Try.ntmps62
  go_wp2_with fail
  refine HP.out.mono ?_
  rintro e w1 ⟨rfl, hr, hk⟩
  have HR := hide hr
  have HK := hide hk
  clear hr hk
  go_wp2_with fail
  go_ret2
  exact ⟨rfl, HR.out, HQ.out.kept HK.out (fun e => HF.out.1 (.inl e)) (fun i hi e => HF.out.2.1 i hi (.inl e)) (fun i hi e => HF.out.2.2 i hi (.inl e)), HK.out⟩

def refM (who kind : Int) (i : Nat) (want put seen : Int) : Acc :=
  if kind = 1 then ⟨who, 1, i, 0, 0, seen, seen, true⟩
  else if kind = 2 then ⟨who, 2, i, 0, put, seen, put, true⟩
  else if kind = 3 then ⟨who, 3, i, want, put, seen, if seen = want then put else seen, decide (seen = want)⟩
  else if kind = 4 then ⟨who, 4, i, 0, put, seen, IntKind.u64.wrap (seen + put), true⟩
  else ⟨who, 5, i, 0, put, seen, put, true⟩
def refV (kind seen : Int) : Int := if kind = 2 ∨ kind = 3 then 0 else seen
def refB (kind seen want : Int) : Bool := if kind = 3 then decide (seen = want) else false
/-- What Do leaves. -/
def DoPost (w w' : World) (Z Y q b gc : Nat) (lv wv hv : Value) (s : Ast) (whos : List Int) (has : List Bool) (k i : Nat) (m : Acc) : Prop :=
  ∃ lv', RIs w' Y b gc lv' (s.made i m) ∧ (lv'.ownBlock = lv.ownBlock ∨ ∃ g, lv'.ownBlock = some g ∧ w.heap.size ≤ g) ∧ QIs w' Z q b wv hv whos (has.set k false) ∧ Chg (fun j => refSet b gc lv j ∨ hv.ownBlock = some j) w w'
theorem doPost_of {w w1 w' : World} {Z Y q b gc : Nat} {lv wv hv : Value} {s : Ast} {whos : List Int} {has : List Bool} {k i : Nat} {m : Acc} (hR : RIs w1 Y b gc lv s) (hQ : QIs w1 Z q b wv hv whos (has.set k false)) (k1 : Chg (fun j => hv.ownBlock = some j) w w1)
    (h : RPost w1 w' Y b gc lv s i m) : DoPost w w' Z Y q b gc lv wv hv s whos has k i m := by
  obtain ⟨lv', h1, h2, h3⟩ := h
  have f := hQ.far hR
  refine ⟨lv', h1, ?_, hQ.kept h3 f.1 f.2.1 f.2.2, (k1.mono (fun _ e => .inr e)).trans (h3.mono (fun _ e => .inl e))⟩
  rcases h2 with h2 | ⟨g, h2, h5⟩
  · exact .inl h2
  · exact .inr ⟨g, h2, by have := k1.size; omega⟩

set_option maxRecDepth 100000 in
theorem refDo_in (Z Y q b gc : Nat) (lv wv hv : Value) (s : Ast) (whos : List Int) (has : List Bool) (k i : Nat) (who kind want put : Int) (w : World) (hQ : QIs w Z q b wv hv whos has) (R : RReady w Y b gc lv s i) (hk : has[k]? = some true) (hwh : whos[k]? = some who) (h1 : 1 ≤ kind) (h5 : kind ≤ 5) :
    Calls Try.prog 62 #[.pointer (some ⟨q, 0, none⟩), .int .i64 k, .int .i64 kind, .int .i64 i, .int .u64 want, .int .u64 put] w fun r w' => r = .returned (.tuple #[.int .u64 (refV kind (nth s.cells i)), .bool (refB kind (nth s.cells i) want)]) ∧
      DoPost w w' Z Y q b gc lv wv hv s whos has k i (refM who kind i want put (nth s.cells i)) := by
  have HP := hide (refPass_in Z Y q b gc lv wv hv s whos has k i w hQ R.ar R.go hk)
  have HR := hide R
  have HQ := hide hQ
  obtain ⟨g2, cap2, hwv, _, _, hkn2, hnc2, _, _, _⟩ := row_at hQ.hw (k := k) (u := .int .i64 who) (by simp [hwh])
  have hkw : (k : Int) < whos.length := by omega
  have hkw2 : (k : Int) < cap2 := by omega
  have HW := hide hwh
  clear hQ R hk hwh
  rcases (show kind = 1 ∨ kind = 2 ∨ kind = 3 ∨ kind = 4 ∨ kind = 5 by omega) with rfl | rfl | rfl | rfl | rfl
  · go_enter Try.func62, Try.ntmps62
    go_wp2_with fail
    refine HP.out.mono ?_
    rintro e w1 ⟨rfl, hq1, k1⟩
    have d0 : w1.cell? ⟨q, 0, none⟩ = some (.pointer (some ⟨b, 0, none⟩)) := cell_of hq1.hq rfl
    have d1 : w1.cell? ⟨q, 1, none⟩ = some wv := cell_of hq1.hq rfl
    have hc2 : w1.cell? ⟨g2, k, none⟩ = some (.int .i64 who) := by
      obtain ⟨g3, cap3, e3, _, _, _, _, hc, _, _⟩ := row_at hq1.hw (k := k) (u := .int .i64 who) (by simp [HW.out])
      rw [hwv] at e3
      cases e3
      exact hc
    rw [hwv] at d1
    have HQ1 := hide hq1
    have HK := hide k1
    have HR1 : Hid (RReady w1 Y b gc lv s i) := ⟨HR.out.ar.pass HQ.out k1, HR.out.go, HR.out.at_, HR.out.c0, HR.out.c1, HR.out.big⟩
    clear hq1 k1
    go_wp2_with fail
    refine (refLoad_in who HR1.out).mono ?_
    rintro e w2 ⟨rfl, hp⟩
    have HD := hide (doPost_of HR1.out.ar HQ1.out HK.out hp)
    clear hp
    go_wp2_with fail
    go_ret2
    exact ⟨rfl, HD.out⟩
  · go_enter Try.func62, Try.ntmps62
    go_wp2_with fail
    refine HP.out.mono ?_
    rintro e w1 ⟨rfl, hq1, k1⟩
    have d0 : w1.cell? ⟨q, 0, none⟩ = some (.pointer (some ⟨b, 0, none⟩)) := cell_of hq1.hq rfl
    have d1 : w1.cell? ⟨q, 1, none⟩ = some wv := cell_of hq1.hq rfl
    have hc2 : w1.cell? ⟨g2, k, none⟩ = some (.int .i64 who) := by
      obtain ⟨g3, cap3, e3, _, _, _, _, hc, _, _⟩ := row_at hq1.hw (k := k) (u := .int .i64 who) (by simp [HW.out])
      rw [hwv] at e3
      cases e3
      exact hc
    rw [hwv] at d1
    have HQ1 := hide hq1
    have HK := hide k1
    have HR1 : Hid (RReady w1 Y b gc lv s i) := ⟨HR.out.ar.pass HQ.out k1, HR.out.go, HR.out.at_, HR.out.c0, HR.out.c1, HR.out.big⟩
    clear hq1 k1
    go_wp2_with fail
    refine (refStore_in who put HR1.out).mono ?_
    rintro e w2 ⟨rfl, hp⟩
    have HD := hide (doPost_of HR1.out.ar HQ1.out HK.out hp)
    clear hp
    go_wp2_with fail
    go_ret2
    exact ⟨rfl, HD.out⟩
  · go_enter Try.func62, Try.ntmps62
    go_wp2_with fail
    refine HP.out.mono ?_
    rintro e w1 ⟨rfl, hq1, k1⟩
    have d0 : w1.cell? ⟨q, 0, none⟩ = some (.pointer (some ⟨b, 0, none⟩)) := cell_of hq1.hq rfl
    have d1 : w1.cell? ⟨q, 1, none⟩ = some wv := cell_of hq1.hq rfl
    have hc2 : w1.cell? ⟨g2, k, none⟩ = some (.int .i64 who) := by
      obtain ⟨g3, cap3, e3, _, _, _, _, hc, _, _⟩ := row_at hq1.hw (k := k) (u := .int .i64 who) (by simp [HW.out])
      rw [hwv] at e3
      cases e3
      exact hc
    rw [hwv] at d1
    have HQ1 := hide hq1
    have HK := hide k1
    have HR1 : Hid (RReady w1 Y b gc lv s i) := ⟨HR.out.ar.pass HQ.out k1, HR.out.go, HR.out.at_, HR.out.c0, HR.out.c1, HR.out.big⟩
    clear hq1 k1
    go_wp2_with fail
    refine (refCas_in who want put HR1.out).mono ?_
    rintro e w2 ⟨rfl, hp⟩
    have HD := hide (doPost_of HR1.out.ar HQ1.out HK.out hp)
    clear hp
    go_wp2_with fail
    go_ret2
    exact ⟨rfl, HD.out⟩
  · go_enter Try.func62, Try.ntmps62
    go_wp2_with fail
    refine HP.out.mono ?_
    rintro e w1 ⟨rfl, hq1, k1⟩
    have d0 : w1.cell? ⟨q, 0, none⟩ = some (.pointer (some ⟨b, 0, none⟩)) := cell_of hq1.hq rfl
    have d1 : w1.cell? ⟨q, 1, none⟩ = some wv := cell_of hq1.hq rfl
    have hc2 : w1.cell? ⟨g2, k, none⟩ = some (.int .i64 who) := by
      obtain ⟨g3, cap3, e3, _, _, _, _, hc, _, _⟩ := row_at hq1.hw (k := k) (u := .int .i64 who) (by simp [HW.out])
      rw [hwv] at e3
      cases e3
      exact hc
    rw [hwv] at d1
    have HQ1 := hide hq1
    have HK := hide k1
    have HR1 : Hid (RReady w1 Y b gc lv s i) := ⟨HR.out.ar.pass HQ.out k1, HR.out.go, HR.out.at_, HR.out.c0, HR.out.c1, HR.out.big⟩
    clear hq1 k1
    go_wp2_with fail
    refine (refAdd_in who put HR1.out).mono ?_
    rintro e w2 ⟨rfl, hp⟩
    have HD := hide (doPost_of HR1.out.ar HQ1.out HK.out hp)
    clear hp
    go_wp2_with fail
    go_ret2
    exact ⟨rfl, HD.out⟩
  · go_enter Try.func62, Try.ntmps62
    go_wp2_with fail
    refine HP.out.mono ?_
    rintro e w1 ⟨rfl, hq1, k1⟩
    have d0 : w1.cell? ⟨q, 0, none⟩ = some (.pointer (some ⟨b, 0, none⟩)) := cell_of hq1.hq rfl
    have d1 : w1.cell? ⟨q, 1, none⟩ = some wv := cell_of hq1.hq rfl
    have hc2 : w1.cell? ⟨g2, k, none⟩ = some (.int .i64 who) := by
      obtain ⟨g3, cap3, e3, _, _, _, _, hc, _, _⟩ := row_at hq1.hw (k := k) (u := .int .i64 who) (by simp [HW.out])
      rw [hwv] at e3
      cases e3
      exact hc
    rw [hwv] at d1
    have HQ1 := hide hq1
    have HK := hide k1
    have HR1 : Hid (RReady w1 Y b gc lv s i) := ⟨HR.out.ar.pass HQ.out k1, HR.out.go, HR.out.at_, HR.out.c0, HR.out.c1, HR.out.big⟩
    clear hq1 k1
    go_wp2_with fail
    refine (refSwap_in who put HR1.out).mono ?_
    rintro e w2 ⟨rfl, hp⟩
    have HD := hide (doPost_of HR1.out.ar HQ1.out HK.out hp)
    clear hp
    go_wp2_with fail
    go_ret2
    exact ⟨rfl, HD.out⟩
/-- What Do leaves where there is no such cell. -/
def DoOut (w w' : World) (Z Y q b gc : Nat) (lv wv hv : Value) (s : Ast) (whos : List Int) (has : List Bool) (k : Nat) (who cell : Int) : Prop :=
  RIs w' Y b gc lv (s.stop who 1 cell) ∧ QIs w' Z q b wv hv whos (has.set k false) ∧ Chg (fun j => j = b ∨ hv.ownBlock = some j) w w'
theorem doOut_of {w w1 w' : World} {Z Y q b gc : Nat} {lv wv hv : Value} {s : Ast} {whos : List Int} {has : List Bool} {k : Nat} {who cell : Int} (hR : RIs w1 Y b gc lv s) (hQ : QIs w1 Z q b wv hv whos (has.set k false)) (k1 : Chg (fun j => hv.ownBlock = some j) w w1)
    (h : RIs w' Y b gc lv (s.stop who 1 cell) ∧ Chg (fun j => j = b) w1 w') : DoOut w w' Z Y q b gc lv wv hv s whos has k who cell := by
  obtain ⟨h1, h3⟩ := h
  have f := hQ.far hR
  exact ⟨h1, hQ.kept h3 (fun e => f.1 (.inl e)) (fun i hi e => f.2.1 i hi (.inl e)) (fun i hi e => f.2.2 i hi (.inl e)), (k1.mono (fun _ e => .inr e)).trans (h3.mono (fun _ e => .inl e))⟩

set_option maxRecDepth 100000 in
theorem refDo_out (Z Y q b gc : Nat) (lv wv hv : Value) (s : Ast) (whos : List Int) (has : List Bool) (k : Nat) (who kind cell want put : Int) (w : World) (hQ : QIs w Z q b wv hv whos has) (hR : RIs w Y b gc lv s) (hs : s.stopped = false) (hi : cell < 0 ∨ (s.cells.length : Int) ≤ cell) (hk : has[k]? = some true) (hwh : whos[k]? = some who) (h1 : 1 ≤ kind) (h5 : kind ≤ 5) :
    Calls Try.prog 62 #[.pointer (some ⟨q, 0, none⟩), .int .i64 k, .int .i64 kind, .int .i64 cell, .int .u64 want, .int .u64 put] w fun r w' => r = .returned (.tuple #[.int .u64 0, .bool false]) ∧
      DoOut w w' Z Y q b gc lv wv hv s whos has k who cell := by
  have HP := hide (refPass_in Z Y q b gc lv wv hv s whos has k cell w hQ hR hs hk)
  have HR := hide hR
  have HQ := hide hQ
  have HS := hide hs
  have HI := hide hi
  obtain ⟨g2, cap2, hwv, _, _, hkn2, hnc2, _, _, _⟩ := row_at hQ.hw (k := k) (u := .int .i64 who) (by simp [hwh])
  have hkw : (k : Int) < whos.length := by omega
  have hkw2 : (k : Int) < cap2 := by omega
  have HW := hide hwh
  clear hQ hR hk hwh hi hs
  rcases (show kind = 1 ∨ kind = 2 ∨ kind = 3 ∨ kind = 4 ∨ kind = 5 by omega) with rfl | rfl | rfl | rfl | rfl
  · go_enter Try.func62, Try.ntmps62
    go_wp2_with fail
    refine HP.out.mono ?_
    rintro e w1 ⟨rfl, hq1, k1⟩
    have d0 : w1.cell? ⟨q, 0, none⟩ = some (.pointer (some ⟨b, 0, none⟩)) := cell_of hq1.hq rfl
    have d1 : w1.cell? ⟨q, 1, none⟩ = some wv := cell_of hq1.hq rfl
    have hc2 : w1.cell? ⟨g2, k, none⟩ = some (.int .i64 who) := by
      obtain ⟨g3, cap3, e3, _, _, _, _, hc, _, _⟩ := row_at hq1.hw (k := k) (u := .int .i64 who) (by simp [HW.out])
      rw [hwv] at e3
      cases e3
      exact hc
    rw [hwv] at d1
    have HQ1 := hide hq1
    have HK := hide k1
    have HR1 := hide (HR.out.pass HQ.out k1)
    clear hq1 k1
    go_wp2_with fail
    refine (refLoad_out Y b gc lv s who cell _ HR1.out HS.out HI.out).mono ?_
    rintro e w2 ⟨rfl, hp⟩
    have HD := hide (doOut_of HR1.out HQ1.out HK.out hp)
    clear hp
    go_wp2_with fail
    go_ret2
    exact ⟨rfl, HD.out⟩
  · go_enter Try.func62, Try.ntmps62
    go_wp2_with fail
    refine HP.out.mono ?_
    rintro e w1 ⟨rfl, hq1, k1⟩
    have d0 : w1.cell? ⟨q, 0, none⟩ = some (.pointer (some ⟨b, 0, none⟩)) := cell_of hq1.hq rfl
    have d1 : w1.cell? ⟨q, 1, none⟩ = some wv := cell_of hq1.hq rfl
    have hc2 : w1.cell? ⟨g2, k, none⟩ = some (.int .i64 who) := by
      obtain ⟨g3, cap3, e3, _, _, _, _, hc, _, _⟩ := row_at hq1.hw (k := k) (u := .int .i64 who) (by simp [HW.out])
      rw [hwv] at e3
      cases e3
      exact hc
    rw [hwv] at d1
    have HQ1 := hide hq1
    have HK := hide k1
    have HR1 := hide (HR.out.pass HQ.out k1)
    clear hq1 k1
    go_wp2_with fail
    refine (refStore_out Y b gc lv s who cell put _ HR1.out HS.out HI.out).mono ?_
    rintro e w2 ⟨rfl, hp⟩
    have HD := hide (doOut_of HR1.out HQ1.out HK.out hp)
    clear hp
    go_wp2_with fail
    go_ret2
    exact ⟨rfl, HD.out⟩
  · go_enter Try.func62, Try.ntmps62
    go_wp2_with fail
    refine HP.out.mono ?_
    rintro e w1 ⟨rfl, hq1, k1⟩
    have d0 : w1.cell? ⟨q, 0, none⟩ = some (.pointer (some ⟨b, 0, none⟩)) := cell_of hq1.hq rfl
    have d1 : w1.cell? ⟨q, 1, none⟩ = some wv := cell_of hq1.hq rfl
    have hc2 : w1.cell? ⟨g2, k, none⟩ = some (.int .i64 who) := by
      obtain ⟨g3, cap3, e3, _, _, _, _, hc, _, _⟩ := row_at hq1.hw (k := k) (u := .int .i64 who) (by simp [HW.out])
      rw [hwv] at e3
      cases e3
      exact hc
    rw [hwv] at d1
    have HQ1 := hide hq1
    have HK := hide k1
    have HR1 := hide (HR.out.pass HQ.out k1)
    clear hq1 k1
    go_wp2_with fail
    refine (refCas_out Y b gc lv s who cell want put _ HR1.out HS.out HI.out).mono ?_
    rintro e w2 ⟨rfl, hp⟩
    have HD := hide (doOut_of HR1.out HQ1.out HK.out hp)
    clear hp
    go_wp2_with fail
    go_ret2
    exact ⟨rfl, HD.out⟩
  · go_enter Try.func62, Try.ntmps62
    go_wp2_with fail
    refine HP.out.mono ?_
    rintro e w1 ⟨rfl, hq1, k1⟩
    have d0 : w1.cell? ⟨q, 0, none⟩ = some (.pointer (some ⟨b, 0, none⟩)) := cell_of hq1.hq rfl
    have d1 : w1.cell? ⟨q, 1, none⟩ = some wv := cell_of hq1.hq rfl
    have hc2 : w1.cell? ⟨g2, k, none⟩ = some (.int .i64 who) := by
      obtain ⟨g3, cap3, e3, _, _, _, _, hc, _, _⟩ := row_at hq1.hw (k := k) (u := .int .i64 who) (by simp [HW.out])
      rw [hwv] at e3
      cases e3
      exact hc
    rw [hwv] at d1
    have HQ1 := hide hq1
    have HK := hide k1
    have HR1 := hide (HR.out.pass HQ.out k1)
    clear hq1 k1
    go_wp2_with fail
    refine (refAdd_out Y b gc lv s who cell put _ HR1.out HS.out HI.out).mono ?_
    rintro e w2 ⟨rfl, hp⟩
    have HD := hide (doOut_of HR1.out HQ1.out HK.out hp)
    clear hp
    go_wp2_with fail
    go_ret2
    exact ⟨rfl, HD.out⟩
  · go_enter Try.func62, Try.ntmps62
    go_wp2_with fail
    refine HP.out.mono ?_
    rintro e w1 ⟨rfl, hq1, k1⟩
    have d0 : w1.cell? ⟨q, 0, none⟩ = some (.pointer (some ⟨b, 0, none⟩)) := cell_of hq1.hq rfl
    have d1 : w1.cell? ⟨q, 1, none⟩ = some wv := cell_of hq1.hq rfl
    have hc2 : w1.cell? ⟨g2, k, none⟩ = some (.int .i64 who) := by
      obtain ⟨g3, cap3, e3, _, _, _, _, hc, _, _⟩ := row_at hq1.hw (k := k) (u := .int .i64 who) (by simp [HW.out])
      rw [hwv] at e3
      cases e3
      exact hc
    rw [hwv] at d1
    have HQ1 := hide hq1
    have HK := hide k1
    have HR1 := hide (HR.out.pass HQ.out k1)
    clear hq1 k1
    go_wp2_with fail
    refine (refSwap_out Y b gc lv s who cell put _ HR1.out HS.out HI.out).mono ?_
    rintro e w2 ⟨rfl, hp⟩
    have HD := hide (doOut_of HR1.out HQ1.out HK.out hp)
    clear hp
    go_wp2_with fail
    go_ret2
    exact ⟨rfl, HD.out⟩
end Go.Proofs.Ytfgchkkljlbmcaa
