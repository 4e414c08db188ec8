/- The reference's ports in memory; pass. -/
import Derived.Test.YtfgchkkljlbmcaaRefAccess
import Derived.Test.YtfgchkkljlbmcaaRoom
namespace Go.Proofs.Ytfgchkkljlbmcaa
open Go.RowKit Go.Lib Go.MuLone

/-- One place of an owned row of single cells. -/
theorem row_at {w : World} {Y n : Nat} {e : TypeId} {v : Value} {xs : List Value} (h : w.ownsRow Y e 1 v n xs) {k : Nat} {u : Value} (hk : xs[k]? = some u) :
    ∃ g cap, v = .slice (some ⟨g, 0, none⟩) n cap ∧ Y ≤ g ∧ g < w.heap.size ∧ k < n ∧ n ≤ cap ∧ w.cell? ⟨g, k, none⟩ = some u ∧ w.frozen? ⟨g, k, none⟩ = false ∧
      ∀ u', (w.setCell ⟨g, k, none⟩ u').ownsRow Y e 1 v n (xs.set k u') := by
  have hlt := (List.getElem?_eq_some_iff.1 hk).1
  obtain ⟨hl, ⟨_, h0⟩ | ⟨g, cap, cur, rfl, hg, hh, hnc, hcm, hcur, htake⟩⟩ := h
  · omega
  · refine ⟨g, cap, rfl, hg, lt_of_heap hh, by omega, hnc, cell_of hh ?_, free_of hh k, fun u' => ⟨by simpa using hl, .inr ⟨g, cap, cur.setIfInBounds k u', rfl, hg, heap_set hh u', hnc, hcm, by simpa using hcur, ?_⟩⟩⟩
    · rw [← htake, List.getElem?_take_of_lt (by omega)] at hk
      simpa using hk
    · rw [← htake, ← List.take_set]
      simp

/-- The reference's ports: their own block q, their arena's b; the numbers and the grants, owned from Y on. -/
structure QIs (w : World) (Y q b : Nat) (wv hv : Value) (whos : List Int) (has : List Bool) : Prop where
  hq : w.heap[q]? = some (.cells #[.pointer (some ⟨b, 0, none⟩), wv, hv] 103 (0, 0))
  hw : w.ownsRow Y 3 1 wv whos.length (whos.map (Value.int .i64))
  hh : w.ownsRow Y 4 1 hv has.length (has.map Value.bool)
  le : whos.length = has.length
  qY : q < Y

theorem refPass_stopped (Z Y q b gc : Nat) (lv wv hv : Value) (s : Ast) (whos : List Int) (has : List Bool) (k cell : Int) (w : World) (hQ : QIs w Z q b wv hv whos has) (hR : RIs w Y b gc lv s) (hs : s.stopped = true) :
    Calls Try.prog 76 #[.pointer (some ⟨q, 0, none⟩), .int .i64 k, .int .i64 cell] w fun r w' => r = .returned (.bool false) ∧ w' = w := by
  have d0 : w.cell? ⟨q, 0, none⟩ = some (.pointer (some ⟨b, 0, none⟩)) := cell_of hQ.hq rfl
  have c3 : w.cell? ⟨b, 3, none⟩ = some (.bool s.stopped) := cell_of hR.hb rfl
  rw [hs] at c3
  clear hQ hR
  go_enter Try.func76, Try.ntmps76
  go_wp2
  go_ret
  exact ⟨rfl, rfl⟩

set_option maxRecDepth 100000 in
theorem refPass_in (Z Y q b gc : Nat) (lv wv hv : Value) (s : Ast) (whos : List Int) (has : List Bool) (k : Nat) (cell : Int) (w : World) (hQ : QIs w Z q b wv hv whos has) (hR : RIs w Y b gc lv s) (hs : s.stopped = false) (hk : has[k]? = some true) :
    Calls Try.prog 76 #[.pointer (some ⟨q, 0, none⟩), .int .i64 k, .int .i64 cell] w fun r w' => r = .returned (.bool true) ∧ QIs w' Z q b wv hv whos (has.set k false) ∧ Chg (fun j => hv.ownBlock = some j) w w' := by
  have d0 : w.cell? ⟨q, 0, none⟩ = some (.pointer (some ⟨b, 0, none⟩)) := cell_of hQ.hq rfl
  have d2 : w.cell? ⟨q, 2, none⟩ = some hv := cell_of hQ.hq rfl
  have c3 : w.cell? ⟨b, 3, none⟩ = some (.bool s.stopped) := cell_of hR.hb rfl
  rw [hs] at c3
  obtain ⟨g, cap, rfl, hgZ, hgl, hkn, hnc, hc, hf, hset⟩ := row_at hQ.hh (k := k) (u := .bool true) (by simp [hk])
  have hkc : (k : Int) < has.length := by omega
  have hkc2 : (k : Int) < cap := by omega
  have HQ := hide hQ
  have HS := hide hset
  clear hQ hR hset hk
  go_enter Try.func76, Try.ntmps76
  go_wp2_with fail
  go_ret
  have kk : Chg (fun j => some g = some j) w (w.setCell ⟨g, k, none⟩ (.bool false)) := (Chg.refl (fun j => some g = some j) w).setCell (p := ⟨g, k, none⟩) rfl _
  have q := HQ.out
  have hne : ∀ j, wv.ownBlock = some j → j ≠ g := by
    intro j hj e
    subst e
    obtain ⟨c1, h1⟩ := own_type q.hw hj
    obtain ⟨c2, h2⟩ := own_type q.hh (k := j) rfl
    rw [h1] at h2
    simp at h2
  refine ⟨rfl, ⟨?_, ?_, ?_, by simpa using q.le, q.qY⟩, kk⟩
  · exact kk.heap q.hq (fun e => by have := q.qY; cases e; omega)
  · exact ownsRow_block q.hw (fun j hj => kk.block j (owns_lt q.hw hj).2 (fun e => hne j hj (by cases e; rfl)))
  · have := HS.out (.bool false)
    rw [List.length_set, List.map_set]
    exact this

set_option maxRecDepth 100000 in
theorem refPass_none (Z Y q b gc : Nat) (lv wv hv : Value) (s : Ast) (whos : List Int) (has : List Bool) (k : Nat) (who cell : Int) (w : World) (hQ : QIs w Z q b wv hv whos has) (hR : RIs w Y b gc lv s) (hs : s.stopped = false) (hk : has[k]? = some false) (hwh : whos[k]? = some who) :
    Calls Try.prog 76 #[.pointer (some ⟨q, 0, none⟩), .int .i64 k, .int .i64 cell] w fun r w' => r = .returned (.bool false) ∧ RIs w' Y b gc lv (s.stop who 2 cell) ∧ Chg (fun j => j = b) w w' := by
  have d0 : w.cell? ⟨q, 0, none⟩ = some (.pointer (some ⟨b, 0, none⟩)) := cell_of hQ.hq rfl
  have d1 : w.cell? ⟨q, 1, none⟩ = some wv := cell_of hQ.hq rfl
  have d2 : w.cell? ⟨q, 2, none⟩ = some hv := cell_of hQ.hq rfl
  have c3 : w.cell? ⟨b, 3, none⟩ = some (.bool s.stopped) := cell_of hR.hb rfl
  rw [hs] at c3
  obtain ⟨g, cap, rfl, _, _, hkn, hnc, hc, _, _⟩ := row_at hQ.hh (k := k) (u := .bool false) (by simp [hk])
  obtain ⟨g2, cap2, rfl, _, _, hkn2, hnc2, hc2, _, _⟩ := row_at hQ.hw (k := k) (u := .int .i64 who) (by simp [hwh])
  have hkc : (k : Int) < has.length := by omega
  have hkc2 : (k : Int) < cap := by omega
  have hkw : (k : Int) < whos.length := by omega
  have hkw2 : (k : Int) < cap2 := by omega
  have HR := hide hR
  clear hQ hR hk hwh
  go_enter Try.func76, Try.ntmps76
  go_wp2_with fail
  go_region_with (go_at_call 67; refine (refStop_any b gc lv s who 2 cell _ ?_).mono ?_; exact HR.out.hb; rintro e w1 ⟨rfl, hb1, k1⟩; have HB1 := hide hb1; have HK := hide k1; clear hb1 k1)
  all_goals
    go_wp2
    go_ret
    first | exact ⟨rfl, HR.out.stop HB1.out HK.out.drew, HK.out.drew⟩ | exact ⟨rfl, HR.out.stop HB1.out (((Chg.refl (fun k => k = b) w).drew).trans HK.out), ((Chg.refl (fun k => k = b) w).drew).trans HK.out⟩
end Go.Proofs.Ytfgchkkljlbmcaa
