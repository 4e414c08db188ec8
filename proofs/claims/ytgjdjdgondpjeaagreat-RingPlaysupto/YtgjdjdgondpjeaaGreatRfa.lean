import Derived.Test.YtgjdjdgondpjeaaGreatLyC
import Derived.Deep.RegionHeld3
import Derived.BigQuiet
import Derived.Deep.QuietTactic
import Derived.Deep.RegionWith
import Derived.Test.YtgjdjdgondpjeaaGreatNoAcc
import Derived.Test.YtgjdjdgondpjeaaGreatRefAccess
import Derived.Test.YtgjdjdgondpjeaaGreatRmC
import Derived.Test.YtgjdjdgondpjeaaGreatRmD
/- The document's handle: slot 86, end 87, Over 40, Reply 39, Insert 42, Take 44. -/
namespace Go.Proofs.YtgjdjdgondpjeaaGreat
open Go.RowKit Go.Lib
set_option linter.unusedVariables false
set_option linter.unusedSimpArgs false
theorem StN.moreR {P : World → Prop} {q : Nat} {ob' : Obj} {w2 : World} {i : Nat} {u : Value} {cs : Array Value} (h : StN P q (.cells cs 137 (0, 0)) w2) (he : ob' = .cells (cs.setIfInBounds i u) 137 (0, 0)) : StN P q ob' (w2.setCell ⟨q, i, none⟩ u) := by
  obtain ⟨w1, h1, h2, h3⟩ := h
  exact ⟨w1, h1, by rw [heap_set h2, he], h3.setCell (p := ⟨q, i, none⟩) rfl _⟩
theorem StN.cast {P : World → Prop} {q : Nat} {ob ob' : Obj} {w2 : World} (h : StN P q ob w2) (e : ob' = ob) : StN P q ob' w2 := by rw [e]; exact h
def StR (P : World → Prop) (q : Nat) (b C : Int) (d d' : Hs) (v : Value) (w' : World) : Prop := ∃ w2 v', P w2 ∧ w'.heap[q]? = some (RHObj b C d' v') ∧ (v' = v ∧ d'.out = d.out ∨ TOwn w' w2.heap.size v' d'.out) ∧ Chg (fun k => k = q) w2 w'
theorem StN.stR {P : World → Prop} {q : Nat} {b C : Int} {d d' : Hs} {v : Value} {w' : World} (h : StN P q (RHObj b C d' v) w') (ho : d'.out = d.out) : StR P q b C d d' v w' := by
  obtain ⟨w2, h1, h2, h3⟩ := h
  exact ⟨w2, v, h1, h2, .inl ⟨rfl, ho⟩, h3⟩
theorem StN.finR {P : World → Prop} {q : Nat} {b C : Int} {d0 d' : Hs} {v0 : Value} {ob : Obj} {w w2 : World} {x y : Int} (h : StN P q ob w) (hst : StN P q (RHObj b C d' (.slice (some ⟨w.heap.size, 0, none⟩) 1 1)) w2) (hch : Chg (fun k => k = q) (w.alloc (.cells #[.int .u64 x, .int .u64 y] 42)) w2) (ho : d'.out = [(x, y)]) : StR P q b C d0 d' v0 w2 := by
  obtain ⟨w0, h1, h2, h3⟩ := h
  obtain ⟨_, _, e2, _⟩ := hst
  refine ⟨w0, _, h1, e2, .inr ?_, (h3.trans (Chg.of_below (below_alloc (Below.refl _ _) _))).trans hch⟩
  rw [ho]
  exact t_one (hch.heap (heap_new w _) (fun e => by have := lt_of_heap h2; omega)) h3.size
theorem StN.fin0R {P : World → Prop} {q : Nat} {b C : Int} {d0 d' : Hs} {v0 : Value} {w2 : World} (hst : StN P q (RHObj b C d' (.slice none 0 0)) w2) (ho : d'.out = []) : StR P q b C d0 d' v0 w2 := by
  obtain ⟨w0, h1, e2, h3⟩ := hst
  exact ⟨w0, _, h1, e2, .inr (by rw [ho]; exact TOwn.nil _ _), h3⟩
section
variable {w : World} {q : Nat} {b C : Nat} {d : Hs} {v : Value}
set_option maxRecDepth 100000 in
set_option maxHeartbeats 2000000 in
theorem rslot_any (pl : Int) (hb : b ≤ 16777216) (hC1 : 2 ≤ C) (hC2 : C ≤ 65536) (hpl : 0 ≤ pl ∧ pl < 18446744073709551616) (c0 : w.cell? ⟨q, 0, none⟩ = some (.int .i64 b)) (c1 : w.cell? ⟨q, 1, none⟩ = some (.int .i64 C)) (c4 : w.cell? ⟨q, 4, none⟩ = some (.int .u64 pl)) :
    Calls Tryz.prog 86 #[.pointer (some ⟨q, 0, none⟩)] w fun e w' => e = .returned (.int .i64 ((b : Int) + 2 + 3 * (pl % (C : Int)))) ∧ Below w.heap.size w w' := by
  have hs1 := Int.emod_nonneg pl (show (C : Int) ≠ 0 by omega)
  have hs2 : pl % (C : Int) ≤ 65536 := by have := Int.emod_lt_of_pos pl (show (0 : Int) < C by omega); omega
  have hk0 : ¬ C = 0 := by omega
  have hkb : ((C : Int) == 0) = false := by simp; omega
  obtain ⟨h1, h2⟩ := hpl
  have htm : pl.tmod (C : Int) = pl % (C : Int) := Int.tmod_eq_emod_of_nonneg h1
  go_enter Tryz.func86, Tryz.ntmps86
  go_wp2_with fail
  go_quiet (fail)
  go_wp2_with fail
  go_ret
  exact ⟨rfl, below_drN _ _⟩
set_option maxRecDepth 100000 in
theorem rover_any (h : w.heap[q]? = some (RHObj b C d v)) (hp : d.ph ≤ 12) : Calls Tryz.prog 40 #[.pointer (some ⟨q, 0, none⟩)] w fun e w' => e = .returned (.bool (decide (d.ph = 0))) ∧ w' = w := by
  unfold RHObj at h
  have c2 : w.cell? ⟨q, 2, none⟩ = some (.int .i64 (d.nx : Int)) := cell_of h rfl
  have he : decide (d.ph = 0) = (((d.nx : Nat) : Int) == 0) := by
    unfold Hs.nx
    by_cases e : d.ph = 0
    · simp [e]
    · by_cases e6 : d.ph ≤ 6
      · rw [if_pos e6]
        have : ((d.ph : Nat) : Int) ≠ 0 := by omega
        simp [e]
      · rw [if_neg e6]
        have : (((d.ph - 6 : Nat)) : Int) ≠ 0 := by omega
        simp [e]; omega
  rw [he]
  generalize ((d.nx : Nat) : Int) = x at c2 ⊢
  clear h he
  go_enter Tryz.func40, Tryz.ntmps40
  go_wp2
  go_ret
  exact ⟨rfl, rfl⟩
theorem Tryz.results39 : Tryz.f39.results = #[.cell 2 71] := by kernel_rfl
set_option maxRecDepth 100000 in
set_option maxHeartbeats 2000000 in
theorem rreply_any {ao : Option Addr} {n c : Nat} (h : w.heap[q]? = some (RHObj b C d (.slice ao n c))) : Calls Tryz.prog 39 #[.pointer (some ⟨q, 0, none⟩)] w fun e w' => e = .returned (.agg #[.int .i64 d.st, .slice ao n c]) ∧ Below w.heap.size w w' := by
  unfold RHObj at h
  have c7 : w.cell? ⟨q, 7, none⟩ = some (.int .i64 d.st) := cell_of h rfl
  have c8 : w.cell? ⟨q, 8, none⟩ = some (.slice ao n c) := cell_of h rfl
  obtain ⟨W, hW⟩ : ∃ W, W = w.alloc (.cells #[.int .i64 0, .slice none 0 0] 71) := ⟨_, rfl⟩
  have hbW : Below w.heap.size w W := by rw [hW]; exact below_alloc (Below.refl _ _) _
  have HZ := hide (show W.heap[w.heap.size]? = some (.cells #[.int .i64 0, .slice none 0 0] 71 (0, 0)) by rw [hW]; exact heap_new w _)
  have x7 := (below_cell hbW (block_of_cell c7)).trans c7
  have x8 := (below_cell hbW (block_of_cell c8)).trans c8
  have f0 := free_of HZ.out 0; have f1 := free_of HZ.out 1
  have e0 : W.cell? ⟨w.heap.size, 0, none⟩ = some (.int .i64 0) := cell_of HZ.out rfl
  have e1 : W.cell? ⟨w.heap.size, 1, none⟩ = some (.slice none 0 0) := cell_of HZ.out rfl
  have hne : ¬ q = w.heap.size := by have := lt_of_heap h; omega
  have hne2 : ¬ w.heap.size = q := by omega
  have HBW := hide hbW
  generalize d.st = st at x7 c7 ⊢
  clear h hbW c7 c8
  go_enter Tryz.func39, Tryz.ntmps39
  go_upto_region 1 with fail
  rw [← hW]
  clear hW
  go_wp2_with fail
  have hf := heap_set (i := 1) (heap_set (i := 0) HZ.out (.int .i64 st)) (.slice ao n c)
  refine bodyPost_ret (results_cell_row Tryz.results39 _ _ w.heap.size 71 _ (0, 0) _ rfl hf Tryz.underlying71 rfl (by kernel_rfl)) rfl ⟨rfl, ?_⟩
  exact (HBW.out.setCell (p := ⟨w.heap.size, 0, none⟩) (Nat.le_refl _) _).setCell (p := ⟨w.heap.size, 1, none⟩) (Nat.le_refl _) _
set_option maxRecDepth 100000 in
set_option maxHeartbeats 2000000 in
/-- An operation ends. -/
theorem rend_any {P : World → Prop} (h : StN P q (RHObj b C d v) w) (hp : d.ph ≠ 0) (st : Int) (ao : Option Addr) (n c : Nat) (out : List Tk) : Calls Tryz.prog 87 #[.pointer (some ⟨q, 0, none⟩), .int .i64 st, .slice ao n c] w fun e w' => e = .returned (.tuple #[]) ∧ StN P q (RHObj b C (d.fin st out) (.slice ao n c)) w' ∧ Chg (fun k => k = q) w w' := by
  have HS := hide h
  obtain ⟨w0, h1, hq, h3⟩ := h
  unfold RHObj at hq
  have f2 := free_of hq 2; have f6 := free_of hq 7; have f7 := free_of hq 8
  have c2 := cell_of hq (i := 2) rfl; have c6 := cell_of hq (i := 7) rfl; have c7 := cell_of hq (i := 8) rfl
  have HF : Hid (StN P q (RHObj b C (d.fin st out) (.slice ao n c)) ((((w.setCell ⟨q, 2, none⟩ (.int .i64 0))).setCell ⟨q, 7, none⟩ (.int .i64 st)).setCell ⟨q, 8, none⟩ (.slice ao n c))) := hide ((((HS.out).moreR rfl).moreR rfl).moreR rfl)
  have HG : Hid (Chg (fun k => k = q) w ((((w.setCell ⟨q, 2, none⟩ (.int .i64 0))).setCell ⟨q, 7, none⟩ (.int .i64 st)).setCell ⟨q, 8, none⟩ (.slice ao n c))) := hide ((((Chg.refl (fun k => k = q) w).setCell (p := ⟨q, 2, none⟩) rfl _).setCell (p := ⟨q, 7, none⟩) rfl _).setCell (p := ⟨q, 8, none⟩) rfl _)
  clear hq h1 h3 HS
  go_enter Tryz.func87, Tryz.ntmps87
  go_wp2_with fail
  first | go_end0 | refine bodyPost_ret (results_none rfl _ _ _) rfl ?_
  exact ⟨rfl, HF.out, HG.out⟩
set_option maxRecDepth 100000 in
set_option maxHeartbeats 2000000 in
theorem rtake_any (h : w.heap[q]? = some (RHObj b C d v)) (hp : d.ph ≤ 12) :
    Calls Tryz.prog 44 #[.pointer (some ⟨q, 0, none⟩)] w fun e w' => (d.ph = 0 ∧ e = .returned (.int .i64 0) ∧ w'.heap[q]? = some (RHObj b C d.tak (.slice none 0 0)) ∨ d.ph ≠ 0 ∧ e = .returned (.int .i64 61) ∧ w'.heap[q]? = some (RHObj b C d v)) ∧ Chg (fun k => k = q) w w' := by
  have HH := hide h
  have hq := h
  unfold RHObj at hq
  have f2 := free_of hq 2; have f3 := free_of hq 3; have f5 := free_of hq 5; have f6 := free_of hq 6; have f7 := free_of hq 7; have f8 := free_of hq 8
  have c2 := cell_of hq (i := 2) rfl; have c3 := cell_of hq (i := 3) rfl; have c5 := cell_of hq (i := 5) rfl; have c6 := cell_of hq (i := 6) rfl; have c7 := cell_of hq (i := 7) rfl; have c8 := cell_of hq (i := 8) rfl
  by_cases e : d.ph = 0
  · have hn : d.nx = 0 := by unfold Hs.nx; rw [e]; rfl
    rw [hn] at c2
    clear h hq hn hp
    go_enter Tryz.func44, Tryz.ntmps44
    go_wp2_with fail
    go_ret
    have hz := heap_set (i := 8) (heap_set (i := 7) (heap_set (i := 6) (heap_set (i := 5) (heap_set (i := 3) (heap_set (i := 2) HH.out (.int .i64 1)) (.bool false)) (.int .u64 0)) (.int .u64 0)) (.int .i64 0)) (.slice none 0 0)
    exact ⟨.inl ⟨e, rfl, hz⟩, (((((((Chg.refl (fun k => k = q) w).putq _ _).putq _ _).putq _ _).putq _ _).putq _ _).putq _ _)⟩
  · have hn : ((d.nx : Int) != 0) = true := by
      have : d.nx ≠ 0 := by unfold Hs.nx; split <;> omega
      simp; omega
    generalize ((d.nx : Nat) : Int) = x at c2 hn
    clear h hq hp
    go_enter Tryz.func44, Tryz.ntmps44
    go_wp2_with fail
    go_ret
    exact ⟨.inr ⟨e, rfl, HH.out⟩, Chg.refl _ _⟩
set_option maxRecDepth 100000 in
set_option maxHeartbeats 2000000 in
theorem rinsert_any (x y : Int) (h : w.heap[q]? = some (RHObj b C d v)) (hp : d.ph ≤ 12) :
    Calls Tryz.prog 42 #[.pointer (some ⟨q, 0, none⟩), .agg #[.int .u64 x, .int .u64 y]] w fun e w' => (d.ph = 0 ∧ x ≠ Nev ∧ e = .returned (.int .i64 0) ∧ w'.heap[q]? = some (RHObj b C (d.ins (x, y)) (.slice none 0 0)) ∨ d.ph ≠ 0 ∧ e = .returned (.int .i64 61) ∧ w'.heap[q]? = some (RHObj b C d v) ∨ d.ph = 0 ∧ x = Nev ∧ e = .returned (.int .i64 51) ∧ w'.heap[q]? = some (RHObj b C d v)) ∧ Chg (fun k => k = q) w w' := by
  obtain ⟨W, hW⟩ : ∃ W, W = w.alloc (.cells #[.int .u64 x, .int .u64 y] 42) := ⟨_, rfl⟩
  have hbW : Below w.heap.size w W := by rw [hW]; exact below_alloc (Below.refl _ _) _
  have HBW := hide hbW
  have hz : W.heap[w.heap.size]? = some (.cells #[.int .u64 x, .int .u64 y] 42 (0, 0)) := by rw [hW]; exact heap_new w _
  have z0 := cell_of hz (i := 0) rfl; have z1 := cell_of hz (i := 1) rfl
  have hq := (hbW.block _ (lt_of_heap h)).trans h
  have HH := hide hq
  unfold RHObj at hq
  have f2 := free_of hq 2; have f3 := free_of hq 3; have f5 := free_of hq 5; have f6 := free_of hq 6; have f7 := free_of hq 7; have f8 := free_of hq 8
  have c2 := cell_of hq (i := 2) rfl; have c3 := cell_of hq (i := 3) rfl; have c5 := cell_of hq (i := 5) rfl; have c6 := cell_of hq (i := 6) rfl; have c7 := cell_of hq (i := 7) rfl; have c8 := cell_of hq (i := 8) rfl
  have hne : ¬ q = w.heap.size := by have := lt_of_heap h; omega
  have hne2 : ¬ w.heap.size = q := by omega
  by_cases e : d.ph = 0
  · have hn : d.nx = 0 := by unfold Hs.nx; rw [e]; rfl
    rw [hn] at c2
    by_cases hx : x = 18446744073709551615
    · subst hx
      clear h hq hn hp hz hbW
      go_enter Tryz.func42, Tryz.ntmps42
      go_upto_region 1 with fail
      rw [← hW]
      clear hW
      go_wp2_with fail
      go_ret
      exact ⟨.inr (.inr ⟨e, rfl, rfl, HH.out⟩), Chg.of_below HBW.out⟩
    · have hx1 : (x == 18446744073709551615) = false := by simpa using hx
      clear h hq hn hp hz hbW
      go_enter Tryz.func42, Tryz.ntmps42
      go_upto_region 1 with fail
      rw [← hW]
      clear hW
      go_wp2_with fail
      go_ret
      have hz := heap_set (i := 8) (heap_set (i := 7) (heap_set (i := 6) (heap_set (i := 5) (heap_set (i := 3) (heap_set (i := 2) HH.out (.int .i64 1)) (.bool true)) (.int .u64 x)) (.int .u64 y)) (.int .i64 0)) (.slice none 0 0)
      exact ⟨.inl ⟨e, hx, rfl, hz⟩, (((((((Chg.of_below HBW.out).putq _ _).putq _ _).putq _ _).putq _ _).putq _ _).putq _ _)⟩
  · have hn : ((d.nx : Int) != 0) = true := by
      have : d.nx ≠ 0 := by unfold Hs.nx; split <;> omega
      simp; omega
    generalize ((d.nx : Nat) : Int) = n at c2 hn
    clear h hq hp hz hbW
    go_enter Tryz.func42, Tryz.ntmps42
    go_upto_region 1 with fail
    rw [← hW]
    clear hW
    go_wp2_with fail
    go_ret
    exact ⟨.inr (.inl ⟨e, rfl, HH.out⟩), Chg.of_below HBW.out⟩
end
end Go.Proofs.YtgjdjdgondpjeaaGreat

/- The document's Step 47, phase by phase, over any contract of the access. -/
namespace Go.Proofs.YtgjdjdgondpjeaaGreat
open Go.RowKit Go.Lib
set_option linter.unusedVariables false
set_option linter.unusedSimpArgs false
section
variable {w : World} {q rb : Nat} {b C : Nat} {d : Hs} {v : Value} {x who : Int} {P : World → Prop}
set_option maxRecDepth 100000 in
set_option maxHeartbeats 4000000 in
theorem rph1 (h : w.heap[q]? = some (RHObj b C d v)) (hb : b ≤ 16777216) (hC1 : 2 ≤ C) (hC2 : C ≤ 65536) (hpl : 0 ≤ d.place ∧ d.place < 18446744073709551616) (hd : d.ph = 1) (hpt : d.put = true)
    (HA : ∀ X, Chg (fun k => k = q) w X → Calls Tryz.prog 85 #[.pointer (some ⟨rb, 0, none⟩), .int .i64 who, .int .i64 ((b : Int))] X fun e w2 => e = .returned (.int .u64 x) ∧ P w2 ∧ w2.heap[q]? = X.heap[q]?) :
    Calls Tryz.prog 47 #[.pointer (some ⟨q, 0, none⟩), .pointer (some ⟨rb, 0, none⟩), .int .i64 who] w fun e w' => e = .returned (.tuple #[]) ∧ StR P q b C d (d.next C x) v w' := by
  have HD := hide hd
  have HPT := hide hpt
  have hnx : d.nx = 1 := by unfold Hs.nx; rw [hd]; rfl
  obtain ⟨pl, hpl'⟩ : ∃ pl, pl = d.place := ⟨_, rfl⟩
  have HPL := hide hpl'
  have HC := hide HA
  obtain ⟨ky, hky⟩ : ∃ p, p = d.t.1 := ⟨_, rfl⟩
  obtain ⟨ld, hld⟩ : ∃ p, p = d.t.2 := ⟨_, rfl⟩
  have HT2 : Hid (d.t = (ky, ld)) := by unfold Hid; rw [hky, hld]
  have hs1 := Int.emod_nonneg pl (show (C : Int) ≠ 0 by omega)
  have hs2 : pl % (C : Int) ≤ 65536 := by have := Int.emod_lt_of_pos pl (show (0 : Int) < C by omega); omega
  unfold RHObj at h
  rw [hnx, hpt] at h
  rw [← hpl'] at h hpl
  try rw [← hpl'] at HC
  rw [← hky, ← hld] at h
  skip
  skip
  obtain ⟨up, hup⟩ : ∃ u, u = uw (pl + 1) := ⟨_, rfl⟩
  have hw1 : IntKind.u64.wrap (pl + 1) = up := by rw [uw_wrap, hup]
  have hw0 : IntKind.u64.wrap pl = pl := by rw [uw_wrap]; exact uw_in hpl.1 hpl.2
  have HUP := hide hup
  skip
  have HSL := hide (fun W c0 c1 c4 => rslot_any (w := W) (q := q) (b := b) (C := C) pl hb hC1 hC2 hpl c0 c1 c4)
  obtain ⟨sl, hsl⟩ : ∃ sl, sl = pl % (C : Int) := ⟨_, rfl⟩
  rw [← hsl] at HSL hs1 hs2
  skip
  have c0 := cell_of h (i := 0) rfl; have c1 := cell_of h (i := 1) rfl; have c2 := cell_of h (i := 2) rfl; have c3 := cell_of h (i := 3) rfl; have c4 := cell_of h (i := 4) rfl; have c5 := cell_of h (i := 5) rfl; have c6 := cell_of h (i := 6) rfl
  have HH := hide h
  have HKK : Hid (∀ X : World, X.heap[q]? = w.heap[q]? → X.cell? ⟨q, 0, none⟩ = some (.int .i64 b) ∧ X.cell? ⟨q, 1, none⟩ = some (.int .i64 C) ∧ X.cell? ⟨q, 2, none⟩ = some (.int .i64 1) ∧ X.cell? ⟨q, 3, none⟩ = some (.bool true) ∧ X.cell? ⟨q, 4, none⟩ = some (.int .u64 pl) ∧ X.cell? ⟨q, 5, none⟩ = some (.int .u64 ky) ∧ X.cell? ⟨q, 6, none⟩ = some (.int .u64 ld)) := hide (fun X hX => by
    have z := hX.trans h
    exact ⟨cell_of z rfl, cell_of z rfl, cell_of z rfl, cell_of z rfl, cell_of z rfl, cell_of z rfl, cell_of z rfl⟩)
  have HB0 := hide (fun X (hX : Below w.heap.size w X) => hX.block _ (lt_of_heap h))
  clear h hpl' hky hld hup hsl hd hpt hnx HA
  have HE : Hid (∀ w5, P w5 → w5.heap[q]? = w.heap[q]? → StN P q (RHObj b C { d with ph := 2, place := x } v) ((w5.setCell ⟨q, 4, none⟩ (.int .u64 x)).setCell ⟨q, 2, none⟩ (.int .i64 2))) := hide (fun w5 hp hq => (((StN.of hp (hq.trans HH.out) (Below.refl _ _)).moreR rfl).moreR (by unfold RHObj; simp only [HT2.out, HPT.out]; rfl)))
  go_enter Tryz.func47, Tryz.ntmps47
  go_wp2_with (first
    | (go_at_call 85; refine (HC.out _ (Chg.refl _ _)).mono ?_; rintro e w5 ⟨rfl, hp, hq⟩; have HP := hide hp; have HQ := hide hq; have z := hq.trans HH.out; have f2 := free_of z 2; have f4 := free_of z 4; have z2 := cell_of z (i := 2) rfl; have z4 := cell_of z (i := 4) rfl; clear z hq hp c0 c1 c2 c3 c4 c5 c6)
    | fail)
  first | go_end0 | refine bodyPost_ret (results_none rfl _ _ _) rfl ?_
  rw [show d.next C x = { d with ph := 2, place := x } by unfold Hs.next; simp only [HD.out]]
  exact ⟨rfl, (HE.out _ HP.out HQ.out).stR rfl⟩
set_option maxRecDepth 100000 in
set_option maxHeartbeats 4000000 in
theorem rph7 (h : w.heap[q]? = some (RHObj b C d v)) (hb : b ≤ 16777216) (hC1 : 2 ≤ C) (hC2 : C ≤ 65536) (hpl : 0 ≤ d.place ∧ d.place < 18446744073709551616) (hd : d.ph = 7) (hpt : d.put = false)
    (HA : ∀ X, Chg (fun k => k = q) w X → Calls Tryz.prog 85 #[.pointer (some ⟨rb, 0, none⟩), .int .i64 who, .int .i64 ((b : Int) + 1)] X fun e w2 => e = .returned (.int .u64 x) ∧ P w2 ∧ w2.heap[q]? = X.heap[q]?) :
    Calls Tryz.prog 47 #[.pointer (some ⟨q, 0, none⟩), .pointer (some ⟨rb, 0, none⟩), .int .i64 who] w fun e w' => e = .returned (.tuple #[]) ∧ StR P q b C d (d.next C x) v w' := by
  have HD := hide hd
  have HPT := hide hpt
  have hnx : d.nx = 1 := by unfold Hs.nx; rw [hd]; rfl
  obtain ⟨pl, hpl'⟩ : ∃ pl, pl = d.place := ⟨_, rfl⟩
  have HPL := hide hpl'
  have HC := hide HA
  obtain ⟨ky, hky⟩ : ∃ p, p = d.t.1 := ⟨_, rfl⟩
  obtain ⟨ld, hld⟩ : ∃ p, p = d.t.2 := ⟨_, rfl⟩
  have HT2 : Hid (d.t = (ky, ld)) := by unfold Hid; rw [hky, hld]
  have hs1 := Int.emod_nonneg pl (show (C : Int) ≠ 0 by omega)
  have hs2 : pl % (C : Int) ≤ 65536 := by have := Int.emod_lt_of_pos pl (show (0 : Int) < C by omega); omega
  unfold RHObj at h
  rw [hnx, hpt] at h
  rw [← hpl'] at h hpl
  try rw [← hpl'] at HC
  rw [← hky, ← hld] at h
  skip
  skip
  obtain ⟨up, hup⟩ : ∃ u, u = uw (pl + 1) := ⟨_, rfl⟩
  have hw1 : IntKind.u64.wrap (pl + 1) = up := by rw [uw_wrap, hup]
  have hw0 : IntKind.u64.wrap pl = pl := by rw [uw_wrap]; exact uw_in hpl.1 hpl.2
  have HUP := hide hup
  skip
  have HSL := hide (fun W c0 c1 c4 => rslot_any (w := W) (q := q) (b := b) (C := C) pl hb hC1 hC2 hpl c0 c1 c4)
  obtain ⟨sl, hsl⟩ : ∃ sl, sl = pl % (C : Int) := ⟨_, rfl⟩
  rw [← hsl] at HSL hs1 hs2
  skip
  have c0 := cell_of h (i := 0) rfl; have c1 := cell_of h (i := 1) rfl; have c2 := cell_of h (i := 2) rfl; have c3 := cell_of h (i := 3) rfl; have c4 := cell_of h (i := 4) rfl; have c5 := cell_of h (i := 5) rfl; have c6 := cell_of h (i := 6) rfl
  have HH := hide h
  have HKK : Hid (∀ X : World, X.heap[q]? = w.heap[q]? → X.cell? ⟨q, 0, none⟩ = some (.int .i64 b) ∧ X.cell? ⟨q, 1, none⟩ = some (.int .i64 C) ∧ X.cell? ⟨q, 2, none⟩ = some (.int .i64 1) ∧ X.cell? ⟨q, 3, none⟩ = some (.bool false) ∧ X.cell? ⟨q, 4, none⟩ = some (.int .u64 pl) ∧ X.cell? ⟨q, 5, none⟩ = some (.int .u64 ky) ∧ X.cell? ⟨q, 6, none⟩ = some (.int .u64 ld)) := hide (fun X hX => by
    have z := hX.trans h
    exact ⟨cell_of z rfl, cell_of z rfl, cell_of z rfl, cell_of z rfl, cell_of z rfl, cell_of z rfl, cell_of z rfl⟩)
  have HB0 := hide (fun X (hX : Below w.heap.size w X) => hX.block _ (lt_of_heap h))
  clear h hpl' hky hld hup hsl hd hpt hnx HA
  have HE : Hid (∀ w5, P w5 → w5.heap[q]? = w.heap[q]? → StN P q (RHObj b C { d with ph := 8, place := x } v) ((w5.setCell ⟨q, 4, none⟩ (.int .u64 x)).setCell ⟨q, 2, none⟩ (.int .i64 2))) := hide (fun w5 hp hq => (((StN.of hp (hq.trans HH.out) (Below.refl _ _)).moreR rfl).moreR (by unfold RHObj; simp only [HT2.out, HPT.out]; rfl)))
  go_enter Tryz.func47, Tryz.ntmps47
  go_wp2_with (first
    | (go_at_call 85; refine (HC.out _ (Chg.refl _ _)).mono ?_; rintro e w5 ⟨rfl, hp, hq⟩; have HP := hide hp; have HQ := hide hq; have z := hq.trans HH.out; have f2 := free_of z 2; have f4 := free_of z 4; have z2 := cell_of z (i := 2) rfl; have z4 := cell_of z (i := 4) rfl; clear z hq hp c0 c1 c2 c3 c4 c5 c6)
    | fail)
  first | go_end0 | refine bodyPost_ret (results_none rfl _ _ _) rfl ?_
  rw [show d.next C x = { d with ph := 8, place := x } by unfold Hs.next; simp only [HD.out]]
  exact ⟨rfl, (HE.out _ HP.out HQ.out).stR rfl⟩
set_option maxRecDepth 100000 in
set_option maxHeartbeats 4000000 in
theorem rph2 (h : w.heap[q]? = some (RHObj b C d v)) (hb : b ≤ 16777216) (hC1 : 2 ≤ C) (hC2 : C ≤ 65536) (hpl : 0 ≤ d.place ∧ d.place < 18446744073709551616) (hd : d.ph = 2) (hpt : d.put = true)
    (HA : ∀ X, Chg (fun k => k = q) w X → Calls Tryz.prog 85 #[.pointer (some ⟨rb, 0, none⟩), .int .i64 who, .int .i64 ((b : Int) + 2 + 3 * (d.place % (C : Int)))] X fun e w2 => e = .returned (.int .u64 x) ∧ P w2 ∧ w2.heap[q]? = X.heap[q]?) :
    Calls Tryz.prog 47 #[.pointer (some ⟨q, 0, none⟩), .pointer (some ⟨rb, 0, none⟩), .int .i64 who] w fun e w' => e = .returned (.tuple #[]) ∧ StR P q b C d (d.next C x) v w' := by
  have HD := hide hd
  have HPT := hide hpt
  have hnx : d.nx = 2 := by unfold Hs.nx; rw [hd]; rfl
  obtain ⟨pl, hpl'⟩ : ∃ pl, pl = d.place := ⟨_, rfl⟩
  have HPL := hide hpl'
  have HC := hide HA
  obtain ⟨ky, hky⟩ : ∃ p, p = d.t.1 := ⟨_, rfl⟩
  obtain ⟨ld, hld⟩ : ∃ p, p = d.t.2 := ⟨_, rfl⟩
  have HT2 : Hid (d.t = (ky, ld)) := by unfold Hid; rw [hky, hld]
  have hs1 := Int.emod_nonneg pl (show (C : Int) ≠ 0 by omega)
  have hs2 : pl % (C : Int) ≤ 65536 := by have := Int.emod_lt_of_pos pl (show (0 : Int) < C by omega); omega
  unfold RHObj at h
  rw [hnx, hpt] at h
  rw [← hpl'] at h hpl
  try rw [← hpl'] at HC
  rw [← hky, ← hld] at h
  skip
  skip
  obtain ⟨up, hup⟩ : ∃ u, u = uw (pl + 1) := ⟨_, rfl⟩
  have hw1 : IntKind.u64.wrap (pl + 1) = up := by rw [uw_wrap, hup]
  have hw0 : IntKind.u64.wrap pl = pl := by rw [uw_wrap]; exact uw_in hpl.1 hpl.2
  have HUP := hide hup
  skip
  have HSL := hide (fun W c0 c1 c4 => rslot_any (w := W) (q := q) (b := b) (C := C) pl hb hC1 hC2 hpl c0 c1 c4)
  obtain ⟨sl, hsl⟩ : ∃ sl, sl = pl % (C : Int) := ⟨_, rfl⟩
  rw [← hsl] at HSL hs1 hs2
  rw [← hsl] at HC
  have c0 := cell_of h (i := 0) rfl; have c1 := cell_of h (i := 1) rfl; have c2 := cell_of h (i := 2) rfl; have c3 := cell_of h (i := 3) rfl; have c4 := cell_of h (i := 4) rfl; have c5 := cell_of h (i := 5) rfl; have c6 := cell_of h (i := 6) rfl
  have HH := hide h
  have HKK : Hid (∀ X : World, X.heap[q]? = w.heap[q]? → X.cell? ⟨q, 0, none⟩ = some (.int .i64 b) ∧ X.cell? ⟨q, 1, none⟩ = some (.int .i64 C) ∧ X.cell? ⟨q, 2, none⟩ = some (.int .i64 2) ∧ X.cell? ⟨q, 3, none⟩ = some (.bool true) ∧ X.cell? ⟨q, 4, none⟩ = some (.int .u64 pl) ∧ X.cell? ⟨q, 5, none⟩ = some (.int .u64 ky) ∧ X.cell? ⟨q, 6, none⟩ = some (.int .u64 ld)) := hide (fun X hX => by
    have z := hX.trans h
    exact ⟨cell_of z rfl, cell_of z rfl, cell_of z rfl, cell_of z rfl, cell_of z rfl, cell_of z rfl, cell_of z rfl⟩)
  have HB0 := hide (fun X (hX : Below w.heap.size w X) => hX.block _ (lt_of_heap h))
  clear h hpl' hky hld hup hsl hd hpt hnx HA
  have HN : Hid (d.next C x = if x = pl then { d with ph := 3 } else if x < pl then d.fin 3 [d.t] else { d with ph := 1 }) := by unfold Hid Hs.next; simp only [HD.out]; rw [HPL.out]
  have HE : Hid (∀ w5 (n2 : Nat), P w5 → w5.heap[q]? = w.heap[q]? → n2 ≤ 12 → ∀ m : Int, m = ((if n2 ≤ 6 then n2 else n2 - 6 : Nat) : Int) → StN P q (RHObj b C { d with ph := n2 } v) (w5.setCell ⟨q, 2, none⟩ (.int .i64 m))) := hide (fun w5 n2 hp hq hn m hm => ((StN.of hp (hq.trans HH.out) (Below.refl _ _)).moreR (by unfold RHObj Hs.nx; simp only [HT2.out, HPT.out, HPL.out, hm]; rfl)))
  have HF : Hid (∀ w5, P w5 → w5.heap[q]? = w.heap[q]? → StN P q (RHObj b C d v) w5) := hide (fun w5 hp hq => (StN.of hp (hq.trans HH.out) (Below.refl _ _)).cast (by unfold RHObj Hs.nx; simp only [HT2.out, HPT.out, HPL.out, HD.out]; rfl))
  have hp0 : Hid (d.ph ≠ 0) := hide (by rw [HD.out]; decide)
  have hwp : IntKind.u64.wrap (pl + 0) = pl := by rw [Int.add_zero]; exact hw0
  by_cases e1 : x = pl
  · have e1b : (x == pl) = true := by simpa using e1
    rw [show d.next C x = { d with ph := 3 } by rw [HN.out, if_pos e1]]
    clear e1
    go_enter Tryz.func47, Tryz.ntmps47
    go_wp2_with (first
      | (go_at_call 86; refine (HSL.out _ c0 c1 c4).mono ?_; rintro e w4 ⟨rfl, hb4⟩; have HB4 := hide hb4; obtain ⟨y0, y1, y2, y3, y4, y5, y6⟩ := HKK.out _ (HB0.out _ hb4); clear hb4 c0 c1 c2 c3 c4 c5 c6)
      | (go_at_call 85; refine (HC.out _ (Chg.of_below HB4.out)).mono ?_; rintro e w5 ⟨rfl, hp, hq⟩; have hq2 := hq.trans (HB0.out _ HB4.out); have HP := hide hp; have HQ := hide hq2; obtain ⟨z0, z1, z2, z3, z4, z5, z6⟩ := HKK.out _ hq2; have f2 := free_of (hq2.trans HH.out) 2; clear hq hq2 hp y0 y1 y2 y3 y4 y5 y6)
      | fail)
    first | go_end0 | refine bodyPost_ret (results_none rfl _ _ _) rfl ?_
    exact ⟨rfl, (HE.out _ 3 HP.out HQ.out (by decide) _ rfl).stR rfl⟩
  · have e1b : (x == pl) = false := by simpa using e1
    by_cases e2 : pl < x
    · have e2b : decide (pl < x) = true := by simpa using e2
      rw [show d.next C x = { d with ph := 1 } by rw [HN.out, if_neg e1, if_neg (by omega)]]
      clear e1
      go_enter Tryz.func47, Tryz.ntmps47
      go_wp2_with (first
        | (go_at_call 86; refine (HSL.out _ c0 c1 c4).mono ?_; rintro e w4 ⟨rfl, hb4⟩; have HB4 := hide hb4; obtain ⟨y0, y1, y2, y3, y4, y5, y6⟩ := HKK.out _ (HB0.out _ hb4); clear hb4 c0 c1 c2 c3 c4 c5 c6)
        | (go_at_call 85; refine (HC.out _ (Chg.of_below HB4.out)).mono ?_; rintro e w5 ⟨rfl, hp, hq⟩; have hq2 := hq.trans (HB0.out _ HB4.out); have HP := hide hp; have HQ := hide hq2; obtain ⟨z0, z1, z2, z3, z4, z5, z6⟩ := HKK.out _ hq2; have f2 := free_of (hq2.trans HH.out) 2; clear hq hq2 hp y0 y1 y2 y3 y4 y5 y6)
        | fail)
      first | go_end0 | refine bodyPost_ret (results_none rfl _ _ _) rfl ?_
      exact ⟨rfl, (HE.out _ 1 HP.out HQ.out (by decide) _ rfl).stR rfl⟩
    · have e2b : decide (pl < x) = false := by simpa using e2
      rw [show d.next C x = d.fin 3 [d.t] by rw [HN.out, if_neg e1, if_pos (by omega)]]
      clear e1
      go_enter Tryz.func47, Tryz.ntmps47
      go_wp2_with (first
        | (go_at_call 86; refine (HSL.out _ c0 c1 c4).mono ?_; rintro e w4 ⟨rfl, hb4⟩; have HB4 := hide hb4; obtain ⟨y0, y1, y2, y3, y4, y5, y6⟩ := HKK.out _ (HB0.out _ hb4); clear hb4 c0 c1 c2 c3 c4 c5 c6)
        | (go_at_call 85; refine (HC.out _ (Chg.of_below HB4.out)).mono ?_; rintro e w5 ⟨rfl, hp, hq⟩; have hq2 := hq.trans (HB0.out _ HB4.out); have HP := hide hp; have HQ := hide hq2; obtain ⟨z0, z1, z2, z3, z4, z5, z6⟩ := HKK.out _ hq2; have f2 := free_of (hq2.trans HH.out) 2; clear hq hq2 hp y0 y1 y2 y3 y4 y5 y6)
        | (go_at_call 87; refine (rend_any (b := b) (C := C) (d := d) (v := v) ((HF.out _ HP.out HQ.out).below (below_alloc (Below.refl _ _) _)) hp0.out 3 _ 1 1 [d.t]).mono ?_; rintro e w6 ⟨rfl, hst, hch⟩; have HST := hide hst; have HCH := hide hch; clear hst hch)
        | fail)
      first | go_end0 | refine bodyPost_ret (results_none rfl _ _ _) rfl ?_
      exact ⟨rfl, (HF.out _ HP.out HQ.out).finR HST.out HCH.out (by rw [HT2.out]; rfl)⟩
set_option maxRecDepth 100000 in
set_option maxHeartbeats 4000000 in
theorem rph8 (h : w.heap[q]? = some (RHObj b C d v)) (hb : b ≤ 16777216) (hC1 : 2 ≤ C) (hC2 : C ≤ 65536) (hpl : 0 ≤ d.place ∧ d.place < 18446744073709551616) (hd : d.ph = 8) (hpt : d.put = false)
    (HA : ∀ X, Chg (fun k => k = q) w X → Calls Tryz.prog 85 #[.pointer (some ⟨rb, 0, none⟩), .int .i64 who, .int .i64 ((b : Int) + 2 + 3 * (d.place % (C : Int)))] X fun e w2 => e = .returned (.int .u64 x) ∧ P w2 ∧ w2.heap[q]? = X.heap[q]?) :
    Calls Tryz.prog 47 #[.pointer (some ⟨q, 0, none⟩), .pointer (some ⟨rb, 0, none⟩), .int .i64 who] w fun e w' => e = .returned (.tuple #[]) ∧ StR P q b C d (d.next C x) v w' := by
  have HD := hide hd
  have HPT := hide hpt
  have hnx : d.nx = 2 := by unfold Hs.nx; rw [hd]; rfl
  obtain ⟨pl, hpl'⟩ : ∃ pl, pl = d.place := ⟨_, rfl⟩
  have HPL := hide hpl'
  have HC := hide HA
  obtain ⟨ky, hky⟩ : ∃ p, p = d.t.1 := ⟨_, rfl⟩
  obtain ⟨ld, hld⟩ : ∃ p, p = d.t.2 := ⟨_, rfl⟩
  have HT2 : Hid (d.t = (ky, ld)) := by unfold Hid; rw [hky, hld]
  have hs1 := Int.emod_nonneg pl (show (C : Int) ≠ 0 by omega)
  have hs2 : pl % (C : Int) ≤ 65536 := by have := Int.emod_lt_of_pos pl (show (0 : Int) < C by omega); omega
  unfold RHObj at h
  rw [hnx, hpt] at h
  rw [← hpl'] at h hpl
  try rw [← hpl'] at HC
  rw [← hky, ← hld] at h
  skip
  skip
  obtain ⟨up, hup⟩ : ∃ u, u = uw (pl + 1) := ⟨_, rfl⟩
  have hw1 : IntKind.u64.wrap (pl + 1) = up := by rw [uw_wrap, hup]
  have hw0 : IntKind.u64.wrap pl = pl := by rw [uw_wrap]; exact uw_in hpl.1 hpl.2
  have HUP := hide hup
  skip
  have HSL := hide (fun W c0 c1 c4 => rslot_any (w := W) (q := q) (b := b) (C := C) pl hb hC1 hC2 hpl c0 c1 c4)
  obtain ⟨sl, hsl⟩ : ∃ sl, sl = pl % (C : Int) := ⟨_, rfl⟩
  rw [← hsl] at HSL hs1 hs2
  rw [← hsl] at HC
  have c0 := cell_of h (i := 0) rfl; have c1 := cell_of h (i := 1) rfl; have c2 := cell_of h (i := 2) rfl; have c3 := cell_of h (i := 3) rfl; have c4 := cell_of h (i := 4) rfl; have c5 := cell_of h (i := 5) rfl; have c6 := cell_of h (i := 6) rfl
  have HH := hide h
  have HKK : Hid (∀ X : World, X.heap[q]? = w.heap[q]? → X.cell? ⟨q, 0, none⟩ = some (.int .i64 b) ∧ X.cell? ⟨q, 1, none⟩ = some (.int .i64 C) ∧ X.cell? ⟨q, 2, none⟩ = some (.int .i64 2) ∧ X.cell? ⟨q, 3, none⟩ = some (.bool false) ∧ X.cell? ⟨q, 4, none⟩ = some (.int .u64 pl) ∧ X.cell? ⟨q, 5, none⟩ = some (.int .u64 ky) ∧ X.cell? ⟨q, 6, none⟩ = some (.int .u64 ld)) := hide (fun X hX => by
    have z := hX.trans h
    exact ⟨cell_of z rfl, cell_of z rfl, cell_of z rfl, cell_of z rfl, cell_of z rfl, cell_of z rfl, cell_of z rfl⟩)
  have HB0 := hide (fun X (hX : Below w.heap.size w X) => hX.block _ (lt_of_heap h))
  clear h hpl' hky hld hup hsl hd hpt hnx HA
  have HN : Hid (d.next C x = if x = up then { d with ph := 9 } else if x < up then d.fin 2 [] else { d with ph := 7 }) := by unfold Hid Hs.next; simp only [HD.out]; rw [HUP.out, HPL.out]
  have HE : Hid (∀ w5 (n2 : Nat), P w5 → w5.heap[q]? = w.heap[q]? → n2 ≤ 12 → ∀ m : Int, m = ((if n2 ≤ 6 then n2 else n2 - 6 : Nat) : Int) → StN P q (RHObj b C { d with ph := n2 } v) (w5.setCell ⟨q, 2, none⟩ (.int .i64 m))) := hide (fun w5 n2 hp hq hn m hm => ((StN.of hp (hq.trans HH.out) (Below.refl _ _)).moreR (by unfold RHObj Hs.nx; simp only [HT2.out, HPT.out, HPL.out, hm]; rfl)))
  have HF : Hid (∀ w5, P w5 → w5.heap[q]? = w.heap[q]? → StN P q (RHObj b C d v) w5) := hide (fun w5 hp hq => (StN.of hp (hq.trans HH.out) (Below.refl _ _)).cast (by unfold RHObj Hs.nx; simp only [HT2.out, HPT.out, HPL.out, HD.out]; rfl))
  have hp0 : Hid (d.ph ≠ 0) := hide (by rw [HD.out]; decide)
  have hwp : IntKind.u64.wrap (pl + 1) = up := hw1
  by_cases e1 : x = up
  · have e1b : (x == up) = true := by simpa using e1
    rw [show d.next C x = { d with ph := 9 } by rw [HN.out, if_pos e1]]
    clear e1
    go_enter Tryz.func47, Tryz.ntmps47
    go_wp2_with (first
      | (go_at_call 86; refine (HSL.out _ c0 c1 c4).mono ?_; rintro e w4 ⟨rfl, hb4⟩; have HB4 := hide hb4; obtain ⟨y0, y1, y2, y3, y4, y5, y6⟩ := HKK.out _ (HB0.out _ hb4); clear hb4 c0 c1 c2 c3 c4 c5 c6)
      | (go_at_call 85; refine (HC.out _ (Chg.of_below HB4.out)).mono ?_; rintro e w5 ⟨rfl, hp, hq⟩; have hq2 := hq.trans (HB0.out _ HB4.out); have HP := hide hp; have HQ := hide hq2; obtain ⟨z0, z1, z2, z3, z4, z5, z6⟩ := HKK.out _ hq2; have f2 := free_of (hq2.trans HH.out) 2; clear hq hq2 hp y0 y1 y2 y3 y4 y5 y6)
      | fail)
    first | go_end0 | refine bodyPost_ret (results_none rfl _ _ _) rfl ?_
    exact ⟨rfl, (HE.out _ 9 HP.out HQ.out (by decide) _ rfl).stR rfl⟩
  · have e1b : (x == up) = false := by simpa using e1
    by_cases e2 : up < x
    · have e2b : decide (up < x) = true := by simpa using e2
      rw [show d.next C x = { d with ph := 7 } by rw [HN.out, if_neg e1, if_neg (by omega)]]
      clear e1
      go_enter Tryz.func47, Tryz.ntmps47
      go_wp2_with (first
        | (go_at_call 86; refine (HSL.out _ c0 c1 c4).mono ?_; rintro e w4 ⟨rfl, hb4⟩; have HB4 := hide hb4; obtain ⟨y0, y1, y2, y3, y4, y5, y6⟩ := HKK.out _ (HB0.out _ hb4); clear hb4 c0 c1 c2 c3 c4 c5 c6)
        | (go_at_call 85; refine (HC.out _ (Chg.of_below HB4.out)).mono ?_; rintro e w5 ⟨rfl, hp, hq⟩; have hq2 := hq.trans (HB0.out _ HB4.out); have HP := hide hp; have HQ := hide hq2; obtain ⟨z0, z1, z2, z3, z4, z5, z6⟩ := HKK.out _ hq2; have f2 := free_of (hq2.trans HH.out) 2; clear hq hq2 hp y0 y1 y2 y3 y4 y5 y6)
        | fail)
      first | go_end0 | refine bodyPost_ret (results_none rfl _ _ _) rfl ?_
      exact ⟨rfl, (HE.out _ 7 HP.out HQ.out (by decide) _ rfl).stR rfl⟩
    · have e2b : decide (up < x) = false := by simpa using e2
      rw [show d.next C x = d.fin 2 [] by rw [HN.out, if_neg e1, if_pos (by omega)]]
      clear e1
      go_enter Tryz.func47, Tryz.ntmps47
      go_wp2_with (first
        | (go_at_call 86; refine (HSL.out _ c0 c1 c4).mono ?_; rintro e w4 ⟨rfl, hb4⟩; have HB4 := hide hb4; obtain ⟨y0, y1, y2, y3, y4, y5, y6⟩ := HKK.out _ (HB0.out _ hb4); clear hb4 c0 c1 c2 c3 c4 c5 c6)
        | (go_at_call 85; refine (HC.out _ (Chg.of_below HB4.out)).mono ?_; rintro e w5 ⟨rfl, hp, hq⟩; have hq2 := hq.trans (HB0.out _ HB4.out); have HP := hide hp; have HQ := hide hq2; obtain ⟨z0, z1, z2, z3, z4, z5, z6⟩ := HKK.out _ hq2; have f2 := free_of (hq2.trans HH.out) 2; clear hq hq2 hp y0 y1 y2 y3 y4 y5 y6)
        | (go_at_call 87; refine (rend_any (b := b) (C := C) (d := d) (v := v) (HF.out _ HP.out HQ.out) hp0.out 2 none 0 0 []).mono ?_; rintro e w6 ⟨rfl, hst, hch⟩; have HST := hide hst; clear hst hch)
        | fail)
      first | go_end0 | refine bodyPost_ret (results_none rfl _ _ _) rfl ?_
      exact ⟨rfl, HST.out.fin0R rfl⟩
set_option maxRecDepth 100000 in
set_option maxHeartbeats 4000000 in
theorem rph3 {bb : Bool} (hbb : bb = decide (x = d.place)) (h : w.heap[q]? = some (RHObj b C d v)) (hb : b ≤ 16777216) (hC1 : 2 ≤ C) (hC2 : C ≤ 65536) (hpl : 0 ≤ d.place ∧ d.place < 18446744073709551616) (hd : d.ph = 3) (hpt : d.put = true)
    (HA : ∀ X, Chg (fun k => k = q) w X → Calls Tryz.prog 88 #[.pointer (some ⟨rb, 0, none⟩), .int .i64 who, .int .i64 ((b : Int)), .int .u64 d.place, .int .u64 (uw (d.place + 1))] X fun e w2 => e = .returned (.bool bb) ∧ P w2 ∧ w2.heap[q]? = X.heap[q]?) :
    Calls Tryz.prog 47 #[.pointer (some ⟨q, 0, none⟩), .pointer (some ⟨rb, 0, none⟩), .int .i64 who] w fun e w' => e = .returned (.tuple #[]) ∧ StR P q b C d (d.next C x) v w' := by
  have HD := hide hd
  have HPT := hide hpt
  have hnx : d.nx = 3 := by unfold Hs.nx; rw [hd]; rfl
  obtain ⟨pl, hpl'⟩ : ∃ pl, pl = d.place := ⟨_, rfl⟩
  have HPL := hide hpl'
  have HC := hide HA
  obtain ⟨ky, hky⟩ : ∃ p, p = d.t.1 := ⟨_, rfl⟩
  obtain ⟨ld, hld⟩ : ∃ p, p = d.t.2 := ⟨_, rfl⟩
  have HT2 : Hid (d.t = (ky, ld)) := by unfold Hid; rw [hky, hld]
  have hs1 := Int.emod_nonneg pl (show (C : Int) ≠ 0 by omega)
  have hs2 : pl % (C : Int) ≤ 65536 := by have := Int.emod_lt_of_pos pl (show (0 : Int) < C by omega); omega
  unfold RHObj at h
  rw [hnx, hpt] at h
  rw [← hpl'] at h hpl
  try rw [← hpl'] at HC
  rw [← hky, ← hld] at h
  skip
  rw [← hpl'] at hbb
  obtain ⟨up, hup⟩ : ∃ u, u = uw (pl + 1) := ⟨_, rfl⟩
  have hw1 : IntKind.u64.wrap (pl + 1) = up := by rw [uw_wrap, hup]
  have hw0 : IntKind.u64.wrap pl = pl := by rw [uw_wrap]; exact uw_in hpl.1 hpl.2
  have HUP := hide hup
  rw [← hup] at HC
  have HSL := hide (fun W c0 c1 c4 => rslot_any (w := W) (q := q) (b := b) (C := C) pl hb hC1 hC2 hpl c0 c1 c4)
  obtain ⟨sl, hsl⟩ : ∃ sl, sl = pl % (C : Int) := ⟨_, rfl⟩
  rw [← hsl] at HSL hs1 hs2
  skip
  have c0 := cell_of h (i := 0) rfl; have c1 := cell_of h (i := 1) rfl; have c2 := cell_of h (i := 2) rfl; have c3 := cell_of h (i := 3) rfl; have c4 := cell_of h (i := 4) rfl; have c5 := cell_of h (i := 5) rfl; have c6 := cell_of h (i := 6) rfl
  have HH := hide h
  have HKK : Hid (∀ X : World, X.heap[q]? = w.heap[q]? → X.cell? ⟨q, 0, none⟩ = some (.int .i64 b) ∧ X.cell? ⟨q, 1, none⟩ = some (.int .i64 C) ∧ X.cell? ⟨q, 2, none⟩ = some (.int .i64 3) ∧ X.cell? ⟨q, 3, none⟩ = some (.bool true) ∧ X.cell? ⟨q, 4, none⟩ = some (.int .u64 pl) ∧ X.cell? ⟨q, 5, none⟩ = some (.int .u64 ky) ∧ X.cell? ⟨q, 6, none⟩ = some (.int .u64 ld)) := hide (fun X hX => by
    have z := hX.trans h
    exact ⟨cell_of z rfl, cell_of z rfl, cell_of z rfl, cell_of z rfl, cell_of z rfl, cell_of z rfl, cell_of z rfl⟩)
  have HB0 := hide (fun X (hX : Below w.heap.size w X) => hX.block _ (lt_of_heap h))
  clear h hpl' hky hld hup hsl hd hpt hnx HA
  have HX : Hid ((w.setCell ⟨q, 2, none⟩ (.int .i64 1)).heap[q]? = some (RHObj b C { d with ph := 1 } v)) := hide (by
    have z := heap_set (i := 2) HH.out (.int .i64 1)
    rw [z]
    unfold RHObj Hs.nx; simp only [HT2.out, HPT.out, HPL.out]; rfl)
  have HE : Hid (∀ w5, P w5 → w5.heap[q]? = (w.setCell ⟨q, 2, none⟩ (.int .i64 1)).heap[q]? → StN P q (RHObj b C { d with ph := 1 } v) w5 ∧ StN P q (RHObj b C { d with ph := 4 } v) (w5.setCell ⟨q, 2, none⟩ (.int .i64 4))) := hide (fun w5 hp hq => ⟨StN.of hp (hq.trans HX.out) (Below.refl _ _), (StN.of hp (hq.trans HX.out) (Below.refl _ _)).moreR (by unfold RHObj Hs.nx; rfl)⟩)
  have f2 := free_of HH.out 2
  have HCD := hide (HC.out _ ((Chg.refl (fun k => k = q) w).putq 2 (.int .i64 1)).drew)
  have HN : Hid (d.next C x = if x = pl then { d with ph := 4 } else { d with ph := 1 }) := by unfold Hid Hs.next; simp only [HD.out]; rw [HPL.out]
  by_cases e1 : x = pl
  · obtain rfl : bb = true := by rw [hbb]; simpa using e1
    rw [show d.next C x = { d with ph := 4 } by rw [HN.out, if_pos e1]]
    clear e1 hbb
    go_enter Tryz.func47, Tryz.ntmps47
    go_upto_region 20 with fail
    have y4 : (w.setCell ⟨q, 2, none⟩ (.int .i64 1)).cell? ⟨q, 4, none⟩ = some (.int .u64 pl) := by rw [World.cell?_setCell_other _ _ _ _ (by simp)]; exact c4
    generalize (w.setCell ⟨q, 2, none⟩ (.int .i64 1)) = X at HCD HE HX y4 ⊢
    clear c0 c1 c2 c3 c4 c5 c6 f2
    refine wp_region_noPanic ?_
    go_region_held3 (fun x => x.cell? ⟨q, 4, none⟩ = some (.int .u64 pl)) (first | exact y4 | exact z4 | go_keep)
      (first
        | (go_at_call 88; refine (HCD.out).mono ?_; rintro e w5 ⟨rfl, hp, hq⟩; have HP := hide hp; have HQ := hide (show w5.heap[q]? = X.heap[q]? from hq); have z := (show w5.heap[q]? = X.heap[q]? from hq).trans HX.out; have g2 := free_of z 2; have z2 := cell_of z (i := 2) rfl; have z4 : w5.cell? ⟨q, 4, none⟩ = some (.int .u64 pl) := (by rw [HPL.out]; exact cell_of z rfl); clear z hq hp)
        | fail)
    all_goals
      refine NoPanic.normal ?_
      clear z4
      go_wp2_with fail
      first | go_end0 | refine bodyPost_ret (results_none rfl _ _ _) rfl ?_
      exact ⟨rfl, (HE.out _ HP.out HQ.out).2.stR rfl⟩
  · obtain rfl : bb = false := by rw [hbb]; simpa using e1
    rw [show d.next C x = { d with ph := 1 } by rw [HN.out, if_neg e1]]
    clear e1 hbb
    go_enter Tryz.func47, Tryz.ntmps47
    go_upto_region 20 with fail
    have y4 : (w.setCell ⟨q, 2, none⟩ (.int .i64 1)).cell? ⟨q, 4, none⟩ = some (.int .u64 pl) := by rw [World.cell?_setCell_other _ _ _ _ (by simp)]; exact c4
    generalize (w.setCell ⟨q, 2, none⟩ (.int .i64 1)) = X at HCD HE HX y4 ⊢
    clear c0 c1 c2 c3 c4 c5 c6 f2
    refine wp_region_noPanic ?_
    go_region_held3 (fun x => x.cell? ⟨q, 4, none⟩ = some (.int .u64 pl)) (first | exact y4 | exact z4 | go_keep)
      (first
        | (go_at_call 88; refine (HCD.out).mono ?_; rintro e w5 ⟨rfl, hp, hq⟩; have HP := hide hp; have HQ := hide (show w5.heap[q]? = X.heap[q]? from hq); have z := (show w5.heap[q]? = X.heap[q]? from hq).trans HX.out; have z4 : w5.cell? ⟨q, 4, none⟩ = some (.int .u64 pl) := (by rw [HPL.out]; exact cell_of z rfl); clear z hq hp)
        | fail)
    all_goals
      refine NoPanic.normal ?_
      clear z4
      go_wp2_with fail
      first | go_end0 | refine bodyPost_ret (results_none rfl _ _ _) rfl ?_
      exact ⟨rfl, (HE.out _ HP.out HQ.out).1.stR rfl⟩
set_option maxRecDepth 100000 in
set_option maxHeartbeats 4000000 in
theorem rph9 {bb : Bool} (hbb : bb = decide (x = d.place)) (h : w.heap[q]? = some (RHObj b C d v)) (hb : b ≤ 16777216) (hC1 : 2 ≤ C) (hC2 : C ≤ 65536) (hpl : 0 ≤ d.place ∧ d.place < 18446744073709551616) (hd : d.ph = 9) (hpt : d.put = false)
    (HA : ∀ X, Chg (fun k => k = q) w X → Calls Tryz.prog 88 #[.pointer (some ⟨rb, 0, none⟩), .int .i64 who, .int .i64 ((b : Int) + 1), .int .u64 d.place, .int .u64 (uw (d.place + 1))] X fun e w2 => e = .returned (.bool bb) ∧ P w2 ∧ w2.heap[q]? = X.heap[q]?) :
    Calls Tryz.prog 47 #[.pointer (some ⟨q, 0, none⟩), .pointer (some ⟨rb, 0, none⟩), .int .i64 who] w fun e w' => e = .returned (.tuple #[]) ∧ StR P q b C d (d.next C x) v w' := by
  have HD := hide hd
  have HPT := hide hpt
  have hnx : d.nx = 3 := by unfold Hs.nx; rw [hd]; rfl
  obtain ⟨pl, hpl'⟩ : ∃ pl, pl = d.place := ⟨_, rfl⟩
  have HPL := hide hpl'
  have HC := hide HA
  obtain ⟨ky, hky⟩ : ∃ p, p = d.t.1 := ⟨_, rfl⟩
  obtain ⟨ld, hld⟩ : ∃ p, p = d.t.2 := ⟨_, rfl⟩
  have HT2 : Hid (d.t = (ky, ld)) := by unfold Hid; rw [hky, hld]
  have hs1 := Int.emod_nonneg pl (show (C : Int) ≠ 0 by omega)
  have hs2 : pl % (C : Int) ≤ 65536 := by have := Int.emod_lt_of_pos pl (show (0 : Int) < C by omega); omega
  unfold RHObj at h
  rw [hnx, hpt] at h
  rw [← hpl'] at h hpl
  try rw [← hpl'] at HC
  rw [← hky, ← hld] at h
  skip
  rw [← hpl'] at hbb
  obtain ⟨up, hup⟩ : ∃ u, u = uw (pl + 1) := ⟨_, rfl⟩
  have hw1 : IntKind.u64.wrap (pl + 1) = up := by rw [uw_wrap, hup]
  have hw0 : IntKind.u64.wrap pl = pl := by rw [uw_wrap]; exact uw_in hpl.1 hpl.2
  have HUP := hide hup
  rw [← hup] at HC
  have HSL := hide (fun W c0 c1 c4 => rslot_any (w := W) (q := q) (b := b) (C := C) pl hb hC1 hC2 hpl c0 c1 c4)
  obtain ⟨sl, hsl⟩ : ∃ sl, sl = pl % (C : Int) := ⟨_, rfl⟩
  rw [← hsl] at HSL hs1 hs2
  skip
  have c0 := cell_of h (i := 0) rfl; have c1 := cell_of h (i := 1) rfl; have c2 := cell_of h (i := 2) rfl; have c3 := cell_of h (i := 3) rfl; have c4 := cell_of h (i := 4) rfl; have c5 := cell_of h (i := 5) rfl; have c6 := cell_of h (i := 6) rfl
  have HH := hide h
  have HKK : Hid (∀ X : World, X.heap[q]? = w.heap[q]? → X.cell? ⟨q, 0, none⟩ = some (.int .i64 b) ∧ X.cell? ⟨q, 1, none⟩ = some (.int .i64 C) ∧ X.cell? ⟨q, 2, none⟩ = some (.int .i64 3) ∧ X.cell? ⟨q, 3, none⟩ = some (.bool false) ∧ X.cell? ⟨q, 4, none⟩ = some (.int .u64 pl) ∧ X.cell? ⟨q, 5, none⟩ = some (.int .u64 ky) ∧ X.cell? ⟨q, 6, none⟩ = some (.int .u64 ld)) := hide (fun X hX => by
    have z := hX.trans h
    exact ⟨cell_of z rfl, cell_of z rfl, cell_of z rfl, cell_of z rfl, cell_of z rfl, cell_of z rfl, cell_of z rfl⟩)
  have HB0 := hide (fun X (hX : Below w.heap.size w X) => hX.block _ (lt_of_heap h))
  clear h hpl' hky hld hup hsl hd hpt hnx HA
  have HX : Hid ((w.setCell ⟨q, 2, none⟩ (.int .i64 1)).heap[q]? = some (RHObj b C { d with ph := 7 } v)) := hide (by
    have z := heap_set (i := 2) HH.out (.int .i64 1)
    rw [z]
    unfold RHObj Hs.nx; simp only [HT2.out, HPT.out, HPL.out]; rfl)
  have HE : Hid (∀ w5, P w5 → w5.heap[q]? = (w.setCell ⟨q, 2, none⟩ (.int .i64 1)).heap[q]? → StN P q (RHObj b C { d with ph := 7 } v) w5 ∧ StN P q (RHObj b C { d with ph := 10 } v) (w5.setCell ⟨q, 2, none⟩ (.int .i64 4))) := hide (fun w5 hp hq => ⟨StN.of hp (hq.trans HX.out) (Below.refl _ _), (StN.of hp (hq.trans HX.out) (Below.refl _ _)).moreR (by unfold RHObj Hs.nx; rfl)⟩)
  have f2 := free_of HH.out 2
  have HCD := hide (HC.out _ ((Chg.refl (fun k => k = q) w).putq 2 (.int .i64 1)).drew)
  have HN : Hid (d.next C x = if x = pl then { d with ph := 10 } else { d with ph := 7 }) := by unfold Hid Hs.next; simp only [HD.out]; rw [HPL.out]
  by_cases e1 : x = pl
  · obtain rfl : bb = true := by rw [hbb]; simpa using e1
    rw [show d.next C x = { d with ph := 10 } by rw [HN.out, if_pos e1]]
    clear e1 hbb
    go_enter Tryz.func47, Tryz.ntmps47
    go_upto_region 20 with fail
    have y4 : (w.setCell ⟨q, 2, none⟩ (.int .i64 1)).cell? ⟨q, 4, none⟩ = some (.int .u64 pl) := by rw [World.cell?_setCell_other _ _ _ _ (by simp)]; exact c4
    generalize (w.setCell ⟨q, 2, none⟩ (.int .i64 1)) = X at HCD HE HX y4 ⊢
    clear c0 c1 c2 c3 c4 c5 c6 f2
    refine wp_region_noPanic ?_
    go_region_held3 (fun x => x.cell? ⟨q, 4, none⟩ = some (.int .u64 pl)) (first | exact y4 | exact z4 | go_keep)
      (first
        | (go_at_call 88; refine (HCD.out).mono ?_; rintro e w5 ⟨rfl, hp, hq⟩; have HP := hide hp; have HQ := hide (show w5.heap[q]? = X.heap[q]? from hq); have z := (show w5.heap[q]? = X.heap[q]? from hq).trans HX.out; have g2 := free_of z 2; have z2 := cell_of z (i := 2) rfl; have z4 : w5.cell? ⟨q, 4, none⟩ = some (.int .u64 pl) := (by rw [HPL.out]; exact cell_of z rfl); clear z hq hp)
        | fail)
    all_goals
      refine NoPanic.normal ?_
      clear z4
      go_wp2_with fail
      first | go_end0 | refine bodyPost_ret (results_none rfl _ _ _) rfl ?_
      exact ⟨rfl, (HE.out _ HP.out HQ.out).2.stR rfl⟩
  · obtain rfl : bb = false := by rw [hbb]; simpa using e1
    rw [show d.next C x = { d with ph := 7 } by rw [HN.out, if_neg e1]]
    clear e1 hbb
    go_enter Tryz.func47, Tryz.ntmps47
    go_upto_region 20 with fail
    have y4 : (w.setCell ⟨q, 2, none⟩ (.int .i64 1)).cell? ⟨q, 4, none⟩ = some (.int .u64 pl) := by rw [World.cell?_setCell_other _ _ _ _ (by simp)]; exact c4
    generalize (w.setCell ⟨q, 2, none⟩ (.int .i64 1)) = X at HCD HE HX y4 ⊢
    clear c0 c1 c2 c3 c4 c5 c6 f2
    refine wp_region_noPanic ?_
    go_region_held3 (fun x => x.cell? ⟨q, 4, none⟩ = some (.int .u64 pl)) (first | exact y4 | exact z4 | go_keep)
      (first
        | (go_at_call 88; refine (HCD.out).mono ?_; rintro e w5 ⟨rfl, hp, hq⟩; have HP := hide hp; have HQ := hide (show w5.heap[q]? = X.heap[q]? from hq); have z := (show w5.heap[q]? = X.heap[q]? from hq).trans HX.out; have z4 : w5.cell? ⟨q, 4, none⟩ = some (.int .u64 pl) := (by rw [HPL.out]; exact cell_of z rfl); clear z hq hp)
        | fail)
    all_goals
      refine NoPanic.normal ?_
      clear z4
      go_wp2_with fail
      first | go_end0 | refine bodyPost_ret (results_none rfl _ _ _) rfl ?_
      exact ⟨rfl, (HE.out _ HP.out HQ.out).1.stR rfl⟩
set_option maxRecDepth 100000 in
set_option maxHeartbeats 4000000 in
theorem rph10 (h : w.heap[q]? = some (RHObj b C d v)) (hb : b ≤ 16777216) (hC1 : 2 ≤ C) (hC2 : C ≤ 65536) (hpl : 0 ≤ d.place ∧ d.place < 18446744073709551616) (hd : d.ph = 10) (hpt : d.put = false)
    (HA : ∀ X, Chg (fun k => k = q) w X → Calls Tryz.prog 85 #[.pointer (some ⟨rb, 0, none⟩), .int .i64 who, .int .i64 ((b : Int) + 2 + 3 * (d.place % (C : Int)) + 1)] X fun e w2 => e = .returned (.int .u64 x) ∧ P w2 ∧ w2.heap[q]? = X.heap[q]?) :
    Calls Tryz.prog 47 #[.pointer (some ⟨q, 0, none⟩), .pointer (some ⟨rb, 0, none⟩), .int .i64 who] w fun e w' => e = .returned (.tuple #[]) ∧ StR P q b C d (d.next C x) v w' := by
  have HD := hide hd
  have HPT := hide hpt
  have hnx : d.nx = 4 := by unfold Hs.nx; rw [hd]; rfl
  obtain ⟨pl, hpl'⟩ : ∃ pl, pl = d.place := ⟨_, rfl⟩
  have HPL := hide hpl'
  have HC := hide HA
  obtain ⟨ky, hky⟩ : ∃ p, p = d.t.1 := ⟨_, rfl⟩
  obtain ⟨ld, hld⟩ : ∃ p, p = d.t.2 := ⟨_, rfl⟩
  have HT2 : Hid (d.t = (ky, ld)) := by unfold Hid; rw [hky, hld]
  have hs1 := Int.emod_nonneg pl (show (C : Int) ≠ 0 by omega)
  have hs2 : pl % (C : Int) ≤ 65536 := by have := Int.emod_lt_of_pos pl (show (0 : Int) < C by omega); omega
  unfold RHObj at h
  rw [hnx, hpt] at h
  rw [← hpl'] at h hpl
  try rw [← hpl'] at HC
  rw [← hky, ← hld] at h
  skip
  skip
  obtain ⟨up, hup⟩ : ∃ u, u = uw (pl + 1) := ⟨_, rfl⟩
  have hw1 : IntKind.u64.wrap (pl + 1) = up := by rw [uw_wrap, hup]
  have hw0 : IntKind.u64.wrap pl = pl := by rw [uw_wrap]; exact uw_in hpl.1 hpl.2
  have HUP := hide hup
  skip
  have HSL := hide (fun W c0 c1 c4 => rslot_any (w := W) (q := q) (b := b) (C := C) pl hb hC1 hC2 hpl c0 c1 c4)
  obtain ⟨sl, hsl⟩ : ∃ sl, sl = pl % (C : Int) := ⟨_, rfl⟩
  rw [← hsl] at HSL hs1 hs2
  rw [← hsl] at HC
  have c0 := cell_of h (i := 0) rfl; have c1 := cell_of h (i := 1) rfl; have c2 := cell_of h (i := 2) rfl; have c3 := cell_of h (i := 3) rfl; have c4 := cell_of h (i := 4) rfl; have c5 := cell_of h (i := 5) rfl; have c6 := cell_of h (i := 6) rfl
  have HH := hide h
  have HKK : Hid (∀ X : World, X.heap[q]? = w.heap[q]? → X.cell? ⟨q, 0, none⟩ = some (.int .i64 b) ∧ X.cell? ⟨q, 1, none⟩ = some (.int .i64 C) ∧ X.cell? ⟨q, 2, none⟩ = some (.int .i64 4) ∧ X.cell? ⟨q, 3, none⟩ = some (.bool false) ∧ X.cell? ⟨q, 4, none⟩ = some (.int .u64 pl) ∧ X.cell? ⟨q, 5, none⟩ = some (.int .u64 ky) ∧ X.cell? ⟨q, 6, none⟩ = some (.int .u64 ld)) := hide (fun X hX => by
    have z := hX.trans h
    exact ⟨cell_of z rfl, cell_of z rfl, cell_of z rfl, cell_of z rfl, cell_of z rfl, cell_of z rfl, cell_of z rfl⟩)
  have HB0 := hide (fun X (hX : Below w.heap.size w X) => hX.block _ (lt_of_heap h))
  clear h hpl' hky hld hup hsl hd hpt hnx HA
  have HE : Hid (∀ w5, P w5 → w5.heap[q]? = w.heap[q]? → StN P q (RHObj b C { d with ph := 11, t := (x, d.t.2) } v) ((w5.setCell ⟨q, 5, none⟩ (.int .u64 x)).setCell ⟨q, 2, none⟩ (.int .i64 5))) := hide (fun w5 hp hq => (((StN.of hp (hq.trans HH.out) (Below.refl _ _)).moreR rfl).moreR (by unfold RHObj Hs.nx; simp only [HT2.out, HPT.out, HPL.out]; rfl)))
  have hwc : IntKind.i64.wrap ((b : Int) + 2 + 3 * sl + 1) = (b : Int) + 2 + 3 * sl + 1 := IntWalk.i64_in _ (by omega)
  go_enter Tryz.func47, Tryz.ntmps47
  go_wp2_with (first
    | (go_at_call 86; refine (HSL.out _ c0 c1 c4).mono ?_; rintro e w4 ⟨rfl, hb4⟩; have HB4 := hide hb4; obtain ⟨y0, y1, y2, y3, y4, y5, y6⟩ := HKK.out _ (HB0.out _ hb4); clear hb4 c0 c1 c2 c3 c4 c5 c6)
    | (go_at_call 85; refine (HC.out _ (Chg.of_below HB4.out)).mono ?_; rintro e w5 ⟨rfl, hp, hq⟩; have hq2 := hq.trans (HB0.out _ HB4.out); have HP := hide hp; have HQ := hide hq2; have z := hq2.trans HH.out; have f2 := free_of z 2; have f5 := free_of z 5; have z2 := cell_of z (i := 2) rfl; have z5 := cell_of z (i := 5) rfl; clear z hq hq2 hp y0 y1 y2 y3 y4 y5 y6)
    | fail)
  first | go_end0 | refine bodyPost_ret (results_none rfl _ _ _) rfl ?_
  rw [show d.next C x = { d with ph := 11, t := (x, d.t.2) } by unfold Hs.next; simp only [HD.out]]
  exact ⟨rfl, (HE.out _ HP.out HQ.out).stR rfl⟩
set_option maxRecDepth 100000 in
set_option maxHeartbeats 4000000 in
theorem rph11 (h : w.heap[q]? = some (RHObj b C d v)) (hb : b ≤ 16777216) (hC1 : 2 ≤ C) (hC2 : C ≤ 65536) (hpl : 0 ≤ d.place ∧ d.place < 18446744073709551616) (hd : d.ph = 11) (hpt : d.put = false)
    (HA : ∀ X, Chg (fun k => k = q) w X → Calls Tryz.prog 85 #[.pointer (some ⟨rb, 0, none⟩), .int .i64 who, .int .i64 ((b : Int) + 2 + 3 * (d.place % (C : Int)) + 2)] X fun e w2 => e = .returned (.int .u64 x) ∧ P w2 ∧ w2.heap[q]? = X.heap[q]?) :
    Calls Tryz.prog 47 #[.pointer (some ⟨q, 0, none⟩), .pointer (some ⟨rb, 0, none⟩), .int .i64 who] w fun e w' => e = .returned (.tuple #[]) ∧ StR P q b C d (d.next C x) v w' := by
  have HD := hide hd
  have HPT := hide hpt
  have hnx : d.nx = 5 := by unfold Hs.nx; rw [hd]; rfl
  obtain ⟨pl, hpl'⟩ : ∃ pl, pl = d.place := ⟨_, rfl⟩
  have HPL := hide hpl'
  have HC := hide HA
  obtain ⟨ky, hky⟩ : ∃ p, p = d.t.1 := ⟨_, rfl⟩
  obtain ⟨ld, hld⟩ : ∃ p, p = d.t.2 := ⟨_, rfl⟩
  have HT2 : Hid (d.t = (ky, ld)) := by unfold Hid; rw [hky, hld]
  have hs1 := Int.emod_nonneg pl (show (C : Int) ≠ 0 by omega)
  have hs2 : pl % (C : Int) ≤ 65536 := by have := Int.emod_lt_of_pos pl (show (0 : Int) < C by omega); omega
  unfold RHObj at h
  rw [hnx, hpt] at h
  rw [← hpl'] at h hpl
  try rw [← hpl'] at HC
  rw [← hky, ← hld] at h
  skip
  skip
  obtain ⟨up, hup⟩ : ∃ u, u = uw (pl + 1) := ⟨_, rfl⟩
  have hw1 : IntKind.u64.wrap (pl + 1) = up := by rw [uw_wrap, hup]
  have hw0 : IntKind.u64.wrap pl = pl := by rw [uw_wrap]; exact uw_in hpl.1 hpl.2
  have HUP := hide hup
  skip
  have HSL := hide (fun W c0 c1 c4 => rslot_any (w := W) (q := q) (b := b) (C := C) pl hb hC1 hC2 hpl c0 c1 c4)
  obtain ⟨sl, hsl⟩ : ∃ sl, sl = pl % (C : Int) := ⟨_, rfl⟩
  rw [← hsl] at HSL hs1 hs2
  rw [← hsl] at HC
  have c0 := cell_of h (i := 0) rfl; have c1 := cell_of h (i := 1) rfl; have c2 := cell_of h (i := 2) rfl; have c3 := cell_of h (i := 3) rfl; have c4 := cell_of h (i := 4) rfl; have c5 := cell_of h (i := 5) rfl; have c6 := cell_of h (i := 6) rfl
  have HH := hide h
  have HKK : Hid (∀ X : World, X.heap[q]? = w.heap[q]? → X.cell? ⟨q, 0, none⟩ = some (.int .i64 b) ∧ X.cell? ⟨q, 1, none⟩ = some (.int .i64 C) ∧ X.cell? ⟨q, 2, none⟩ = some (.int .i64 5) ∧ X.cell? ⟨q, 3, none⟩ = some (.bool false) ∧ X.cell? ⟨q, 4, none⟩ = some (.int .u64 pl) ∧ X.cell? ⟨q, 5, none⟩ = some (.int .u64 ky) ∧ X.cell? ⟨q, 6, none⟩ = some (.int .u64 ld)) := hide (fun X hX => by
    have z := hX.trans h
    exact ⟨cell_of z rfl, cell_of z rfl, cell_of z rfl, cell_of z rfl, cell_of z rfl, cell_of z rfl, cell_of z rfl⟩)
  have HB0 := hide (fun X (hX : Below w.heap.size w X) => hX.block _ (lt_of_heap h))
  clear h hpl' hky hld hup hsl hd hpt hnx HA
  have HE : Hid (∀ w5, P w5 → w5.heap[q]? = w.heap[q]? → StN P q (RHObj b C { d with ph := 12, t := (d.t.1, x) } v) ((w5.setCell ⟨q, 6, none⟩ (.int .u64 x)).setCell ⟨q, 2, none⟩ (.int .i64 6))) := hide (fun w5 hp hq => (((StN.of hp (hq.trans HH.out) (Below.refl _ _)).moreR rfl).moreR (by unfold RHObj Hs.nx; simp only [HT2.out, HPT.out, HPL.out]; rfl)))
  have hwc : IntKind.i64.wrap ((b : Int) + 2 + 3 * sl + 2) = (b : Int) + 2 + 3 * sl + 2 := IntWalk.i64_in _ (by omega)
  go_enter Tryz.func47, Tryz.ntmps47
  go_wp2_with (first
    | (go_at_call 86; refine (HSL.out _ c0 c1 c4).mono ?_; rintro e w4 ⟨rfl, hb4⟩; have HB4 := hide hb4; obtain ⟨y0, y1, y2, y3, y4, y5, y6⟩ := HKK.out _ (HB0.out _ hb4); clear hb4 c0 c1 c2 c3 c4 c5 c6)
    | (go_at_call 85; refine (HC.out _ (Chg.of_below HB4.out)).mono ?_; rintro e w5 ⟨rfl, hp, hq⟩; have hq2 := hq.trans (HB0.out _ HB4.out); have HP := hide hp; have HQ := hide hq2; have z := hq2.trans HH.out; have f2 := free_of z 2; have f5 := free_of z 6; have z2 := cell_of z (i := 2) rfl; have z5 := cell_of z (i := 6) rfl; clear z hq hq2 hp y0 y1 y2 y3 y4 y5 y6)
    | fail)
  first | go_end0 | refine bodyPost_ret (results_none rfl _ _ _) rfl ?_
  rw [show d.next C x = { d with ph := 12, t := (d.t.1, x) } by unfold Hs.next; simp only [HD.out]]
  exact ⟨rfl, (HE.out _ HP.out HQ.out).stR rfl⟩
set_option maxRecDepth 100000 in
set_option maxHeartbeats 4000000 in
theorem rph4 (h : w.heap[q]? = some (RHObj b C d v)) (hb : b ≤ 16777216) (hC1 : 2 ≤ C) (hC2 : C ≤ 65536) (hpl : 0 ≤ d.place ∧ d.place < 18446744073709551616) (hd : d.ph = 4) (hpt : d.put = true)
    (HA : ∀ X, Chg (fun k => k = q) w X → Calls Tryz.prog 89 #[.pointer (some ⟨rb, 0, none⟩), .int .i64 who, .int .i64 ((b : Int) + 2 + 3 * (d.place % (C : Int)) + 1), .int .u64 (d.t.1)] X fun e w2 => e = .returned (.tuple #[]) ∧ P w2 ∧ w2.heap[q]? = X.heap[q]?) :
    Calls Tryz.prog 47 #[.pointer (some ⟨q, 0, none⟩), .pointer (some ⟨rb, 0, none⟩), .int .i64 who] w fun e w' => e = .returned (.tuple #[]) ∧ StR P q b C d (d.next C x) v w' := by
  have HD := hide hd
  have HPT := hide hpt
  have hnx : d.nx = 4 := by unfold Hs.nx; rw [hd]; rfl
  obtain ⟨pl, hpl'⟩ : ∃ pl, pl = d.place := ⟨_, rfl⟩
  have HPL := hide hpl'
  have HC := hide HA
  obtain ⟨ky, hky⟩ : ∃ p, p = d.t.1 := ⟨_, rfl⟩
  obtain ⟨ld, hld⟩ : ∃ p, p = d.t.2 := ⟨_, rfl⟩
  have HT2 : Hid (d.t = (ky, ld)) := by unfold Hid; rw [hky, hld]
  have hs1 := Int.emod_nonneg pl (show (C : Int) ≠ 0 by omega)
  have hs2 : pl % (C : Int) ≤ 65536 := by have := Int.emod_lt_of_pos pl (show (0 : Int) < C by omega); omega
  unfold RHObj at h
  rw [hnx, hpt] at h
  rw [← hpl'] at h hpl
  try rw [← hpl'] at HC
  rw [← hky, ← hld] at h
  rw [← hky] at HC
  skip
  obtain ⟨up, hup⟩ : ∃ u, u = uw (pl + 1) := ⟨_, rfl⟩
  have hw1 : IntKind.u64.wrap (pl + 1) = up := by rw [uw_wrap, hup]
  have hw0 : IntKind.u64.wrap pl = pl := by rw [uw_wrap]; exact uw_in hpl.1 hpl.2
  have HUP := hide hup
  skip
  have HSL := hide (fun W c0 c1 c4 => rslot_any (w := W) (q := q) (b := b) (C := C) pl hb hC1 hC2 hpl c0 c1 c4)
  obtain ⟨sl, hsl⟩ : ∃ sl, sl = pl % (C : Int) := ⟨_, rfl⟩
  rw [← hsl] at HSL hs1 hs2
  rw [← hsl] at HC
  have c0 := cell_of h (i := 0) rfl; have c1 := cell_of h (i := 1) rfl; have c2 := cell_of h (i := 2) rfl; have c3 := cell_of h (i := 3) rfl; have c4 := cell_of h (i := 4) rfl; have c5 := cell_of h (i := 5) rfl; have c6 := cell_of h (i := 6) rfl
  have HH := hide h
  have HKK : Hid (∀ X : World, X.heap[q]? = w.heap[q]? → X.cell? ⟨q, 0, none⟩ = some (.int .i64 b) ∧ X.cell? ⟨q, 1, none⟩ = some (.int .i64 C) ∧ X.cell? ⟨q, 2, none⟩ = some (.int .i64 4) ∧ X.cell? ⟨q, 3, none⟩ = some (.bool true) ∧ X.cell? ⟨q, 4, none⟩ = some (.int .u64 pl) ∧ X.cell? ⟨q, 5, none⟩ = some (.int .u64 ky) ∧ X.cell? ⟨q, 6, none⟩ = some (.int .u64 ld)) := hide (fun X hX => by
    have z := hX.trans h
    exact ⟨cell_of z rfl, cell_of z rfl, cell_of z rfl, cell_of z rfl, cell_of z rfl, cell_of z rfl, cell_of z rfl⟩)
  have HB0 := hide (fun X (hX : Below w.heap.size w X) => hX.block _ (lt_of_heap h))
  clear h hpl' hky hld hup hsl hd hpt hnx HA
  have HE : Hid (∀ w5, P w5 → w5.heap[q]? = w.heap[q]? → StN P q (RHObj b C { d with ph := 5 } v) (w5.setCell ⟨q, 2, none⟩ (.int .i64 5))) := hide (fun w5 hp hq => ((StN.of hp (hq.trans HH.out) (Below.refl _ _)).moreR (by unfold RHObj Hs.nx; simp only [HT2.out, HPT.out, HPL.out]; rfl)))
  have HF : Hid (∀ w5, P w5 → w5.heap[q]? = w.heap[q]? → StN P q (RHObj b C d v) w5) := hide (fun w5 hp hq => (StN.of hp (hq.trans HH.out) (Below.refl _ _)).cast (by unfold RHObj Hs.nx; simp only [HT2.out, HPT.out, HPL.out, HD.out]; rfl))
  have hp0 : Hid (d.ph ≠ 0) := hide (by rw [HD.out]; decide)
  have hwc : IntKind.i64.wrap ((b : Int) + 2 + 3 * sl + 1) = (b : Int) + 2 + 3 * sl + 1 := IntWalk.i64_in _ (by omega)
  go_enter Tryz.func47, Tryz.ntmps47
  go_upto_region 24 with fail
  refine wp_region_noPanic ?_
  go_region_held3 (fun x => x.cell? ⟨q, 0, none⟩ = some (.int .i64 b) ∧ x.cell? ⟨q, 1, none⟩ = some (.int .i64 C) ∧ x.cell? ⟨q, 4, none⟩ = some (.int .u64 pl) ∧ x.cell? ⟨q, 5, none⟩ = some (.int .u64 ky) ∧ x.cell? ⟨q, 6, none⟩ = some (.int .u64 ld)) (first | exact ⟨c0, c1, c4, c5, c6⟩ | exact ⟨y0, y1, y4, y5, y6⟩ | exact ⟨z0, z1, z4, z5, z6⟩ | go_keep)
    (first
      | (go_at_call 86; refine (HSL.out w.drew c0 c1 c4).mono ?_; rintro e w4 ⟨rfl, hb4⟩; have HB4 := hide (below_on (a := w) (below_drew (Below.refl _ _)) hb4); obtain ⟨y0, y1, y2, y3, y4, y5, y6⟩ := HKK.out _ (HB0.out _ HB4.out); clear hb4)
      | (go_at_call 89; refine (HC.out _ (Chg.of_below HB4.out)).mono ?_; rintro e w5 ⟨rfl, hp, hq⟩; have hq2 := hq.trans (HB0.out _ HB4.out); have HP := hide hp; have HQ := hide hq2; obtain ⟨z0, z1, z2, z3, z4, z5, z6⟩ := HKK.out _ hq2; have f2 := free_of (hq2.trans HH.out) 2; clear hq hq2 hp)
      | fail)
  all_goals
    refine NoPanic.normal ?_
    clear y0 y1 y2 y3 y4 y5 y6 c0 c1 c2 c3 c4 c5 c6
    go_wp2_with fail
    first | go_end0 | refine bodyPost_ret (results_none rfl _ _ _) rfl ?_
    rw [show d.next C x = { d with ph := 5 } by unfold Hs.next; simp only [HD.out]]
    exact ⟨rfl, (HE.out _ HP.out HQ.out).stR rfl⟩
set_option maxRecDepth 100000 in
set_option maxHeartbeats 4000000 in
theorem rph5 (h : w.heap[q]? = some (RHObj b C d v)) (hb : b ≤ 16777216) (hC1 : 2 ≤ C) (hC2 : C ≤ 65536) (hpl : 0 ≤ d.place ∧ d.place < 18446744073709551616) (hd : d.ph = 5) (hpt : d.put = true)
    (HA : ∀ X, Chg (fun k => k = q) w X → Calls Tryz.prog 89 #[.pointer (some ⟨rb, 0, none⟩), .int .i64 who, .int .i64 ((b : Int) + 2 + 3 * (d.place % (C : Int)) + 2), .int .u64 (d.t.2)] X fun e w2 => e = .returned (.tuple #[]) ∧ P w2 ∧ w2.heap[q]? = X.heap[q]?) :
    Calls Tryz.prog 47 #[.pointer (some ⟨q, 0, none⟩), .pointer (some ⟨rb, 0, none⟩), .int .i64 who] w fun e w' => e = .returned (.tuple #[]) ∧ StR P q b C d (d.next C x) v w' := by
  have HD := hide hd
  have HPT := hide hpt
  have hnx : d.nx = 5 := by unfold Hs.nx; rw [hd]; rfl
  obtain ⟨pl, hpl'⟩ : ∃ pl, pl = d.place := ⟨_, rfl⟩
  have HPL := hide hpl'
  have HC := hide HA
  obtain ⟨ky, hky⟩ : ∃ p, p = d.t.1 := ⟨_, rfl⟩
  obtain ⟨ld, hld⟩ : ∃ p, p = d.t.2 := ⟨_, rfl⟩
  have HT2 : Hid (d.t = (ky, ld)) := by unfold Hid; rw [hky, hld]
  have hs1 := Int.emod_nonneg pl (show (C : Int) ≠ 0 by omega)
  have hs2 : pl % (C : Int) ≤ 65536 := by have := Int.emod_lt_of_pos pl (show (0 : Int) < C by omega); omega
  unfold RHObj at h
  rw [hnx, hpt] at h
  rw [← hpl'] at h hpl
  try rw [← hpl'] at HC
  rw [← hky, ← hld] at h
  rw [← hld] at HC
  skip
  obtain ⟨up, hup⟩ : ∃ u, u = uw (pl + 1) := ⟨_, rfl⟩
  have hw1 : IntKind.u64.wrap (pl + 1) = up := by rw [uw_wrap, hup]
  have hw0 : IntKind.u64.wrap pl = pl := by rw [uw_wrap]; exact uw_in hpl.1 hpl.2
  have HUP := hide hup
  skip
  have HSL := hide (fun W c0 c1 c4 => rslot_any (w := W) (q := q) (b := b) (C := C) pl hb hC1 hC2 hpl c0 c1 c4)
  obtain ⟨sl, hsl⟩ : ∃ sl, sl = pl % (C : Int) := ⟨_, rfl⟩
  rw [← hsl] at HSL hs1 hs2
  rw [← hsl] at HC
  have c0 := cell_of h (i := 0) rfl; have c1 := cell_of h (i := 1) rfl; have c2 := cell_of h (i := 2) rfl; have c3 := cell_of h (i := 3) rfl; have c4 := cell_of h (i := 4) rfl; have c5 := cell_of h (i := 5) rfl; have c6 := cell_of h (i := 6) rfl
  have HH := hide h
  have HKK : Hid (∀ X : World, X.heap[q]? = w.heap[q]? → X.cell? ⟨q, 0, none⟩ = some (.int .i64 b) ∧ X.cell? ⟨q, 1, none⟩ = some (.int .i64 C) ∧ X.cell? ⟨q, 2, none⟩ = some (.int .i64 5) ∧ X.cell? ⟨q, 3, none⟩ = some (.bool true) ∧ X.cell? ⟨q, 4, none⟩ = some (.int .u64 pl) ∧ X.cell? ⟨q, 5, none⟩ = some (.int .u64 ky) ∧ X.cell? ⟨q, 6, none⟩ = some (.int .u64 ld)) := hide (fun X hX => by
    have z := hX.trans h
    exact ⟨cell_of z rfl, cell_of z rfl, cell_of z rfl, cell_of z rfl, cell_of z rfl, cell_of z rfl, cell_of z rfl⟩)
  have HB0 := hide (fun X (hX : Below w.heap.size w X) => hX.block _ (lt_of_heap h))
  clear h hpl' hky hld hup hsl hd hpt hnx HA
  have HE : Hid (∀ w5, P w5 → w5.heap[q]? = w.heap[q]? → StN P q (RHObj b C { d with ph := 6 } v) (w5.setCell ⟨q, 2, none⟩ (.int .i64 6))) := hide (fun w5 hp hq => ((StN.of hp (hq.trans HH.out) (Below.refl _ _)).moreR (by unfold RHObj Hs.nx; simp only [HT2.out, HPT.out, HPL.out]; rfl)))
  have HF : Hid (∀ w5, P w5 → w5.heap[q]? = w.heap[q]? → StN P q (RHObj b C d v) w5) := hide (fun w5 hp hq => (StN.of hp (hq.trans HH.out) (Below.refl _ _)).cast (by unfold RHObj Hs.nx; simp only [HT2.out, HPT.out, HPL.out, HD.out]; rfl))
  have hp0 : Hid (d.ph ≠ 0) := hide (by rw [HD.out]; decide)
  have hwc : IntKind.i64.wrap ((b : Int) + 2 + 3 * sl + 2) = (b : Int) + 2 + 3 * sl + 2 := IntWalk.i64_in _ (by omega)
  go_enter Tryz.func47, Tryz.ntmps47
  go_upto_region 29 with fail
  refine wp_region_noPanic ?_
  go_region_held3 (fun x => x.cell? ⟨q, 0, none⟩ = some (.int .i64 b) ∧ x.cell? ⟨q, 1, none⟩ = some (.int .i64 C) ∧ x.cell? ⟨q, 4, none⟩ = some (.int .u64 pl) ∧ x.cell? ⟨q, 5, none⟩ = some (.int .u64 ky) ∧ x.cell? ⟨q, 6, none⟩ = some (.int .u64 ld)) (first | exact ⟨c0, c1, c4, c5, c6⟩ | exact ⟨y0, y1, y4, y5, y6⟩ | exact ⟨z0, z1, z4, z5, z6⟩ | go_keep)
    (first
      | (go_at_call 86; refine (HSL.out w.drew c0 c1 c4).mono ?_; rintro e w4 ⟨rfl, hb4⟩; have HB4 := hide (below_on (a := w) (below_drew (Below.refl _ _)) hb4); obtain ⟨y0, y1, y2, y3, y4, y5, y6⟩ := HKK.out _ (HB0.out _ HB4.out); clear hb4)
      | (go_at_call 89; refine (HC.out _ (Chg.of_below HB4.out)).mono ?_; rintro e w5 ⟨rfl, hp, hq⟩; have hq2 := hq.trans (HB0.out _ HB4.out); have HP := hide hp; have HQ := hide hq2; obtain ⟨z0, z1, z2, z3, z4, z5, z6⟩ := HKK.out _ hq2; have f2 := free_of (hq2.trans HH.out) 2; clear hq hq2 hp)
      | fail)
  all_goals
    refine NoPanic.normal ?_
    clear y0 y1 y2 y3 y4 y5 y6 c0 c1 c2 c3 c4 c5 c6
    go_wp2_with fail
    first | go_end0 | refine bodyPost_ret (results_none rfl _ _ _) rfl ?_
    rw [show d.next C x = { d with ph := 6 } by unfold Hs.next; simp only [HD.out]]
    exact ⟨rfl, (HE.out _ HP.out HQ.out).stR rfl⟩
set_option maxRecDepth 100000 in
set_option maxHeartbeats 4000000 in
theorem rph6 (h : w.heap[q]? = some (RHObj b C d v)) (hb : b ≤ 16777216) (hC1 : 2 ≤ C) (hC2 : C ≤ 65536) (hpl : 0 ≤ d.place ∧ d.place < 18446744073709551616) (hd : d.ph = 6) (hpt : d.put = true)
    (HA : ∀ X, Chg (fun k => k = q) w X → Calls Tryz.prog 89 #[.pointer (some ⟨rb, 0, none⟩), .int .i64 who, .int .i64 ((b : Int) + 2 + 3 * (d.place % (C : Int))), .int .u64 (uw (d.place + 1))] X fun e w2 => e = .returned (.tuple #[]) ∧ P w2 ∧ w2.heap[q]? = X.heap[q]?) :
    Calls Tryz.prog 47 #[.pointer (some ⟨q, 0, none⟩), .pointer (some ⟨rb, 0, none⟩), .int .i64 who] w fun e w' => e = .returned (.tuple #[]) ∧ StR P q b C d (d.next C x) v w' := by
  have HD := hide hd
  have HPT := hide hpt
  have hnx : d.nx = 6 := by unfold Hs.nx; rw [hd]; rfl
  obtain ⟨pl, hpl'⟩ : ∃ pl, pl = d.place := ⟨_, rfl⟩
  have HPL := hide hpl'
  have HC := hide HA
  obtain ⟨ky, hky⟩ : ∃ p, p = d.t.1 := ⟨_, rfl⟩
  obtain ⟨ld, hld⟩ : ∃ p, p = d.t.2 := ⟨_, rfl⟩
  have HT2 : Hid (d.t = (ky, ld)) := by unfold Hid; rw [hky, hld]
  have hs1 := Int.emod_nonneg pl (show (C : Int) ≠ 0 by omega)
  have hs2 : pl % (C : Int) ≤ 65536 := by have := Int.emod_lt_of_pos pl (show (0 : Int) < C by omega); omega
  unfold RHObj at h
  rw [hnx, hpt] at h
  rw [← hpl'] at h hpl
  try rw [← hpl'] at HC
  rw [← hky, ← hld] at h
  skip
  skip
  obtain ⟨up, hup⟩ : ∃ u, u = uw (pl + 1) := ⟨_, rfl⟩
  have hw1 : IntKind.u64.wrap (pl + 1) = up := by rw [uw_wrap, hup]
  have hw0 : IntKind.u64.wrap pl = pl := by rw [uw_wrap]; exact uw_in hpl.1 hpl.2
  have HUP := hide hup
  rw [← hup] at HC
  have HSL := hide (fun W c0 c1 c4 => rslot_any (w := W) (q := q) (b := b) (C := C) pl hb hC1 hC2 hpl c0 c1 c4)
  obtain ⟨sl, hsl⟩ : ∃ sl, sl = pl % (C : Int) := ⟨_, rfl⟩
  rw [← hsl] at HSL hs1 hs2
  rw [← hsl] at HC
  have c0 := cell_of h (i := 0) rfl; have c1 := cell_of h (i := 1) rfl; have c2 := cell_of h (i := 2) rfl; have c3 := cell_of h (i := 3) rfl; have c4 := cell_of h (i := 4) rfl; have c5 := cell_of h (i := 5) rfl; have c6 := cell_of h (i := 6) rfl
  have HH := hide h
  have HKK : Hid (∀ X : World, X.heap[q]? = w.heap[q]? → X.cell? ⟨q, 0, none⟩ = some (.int .i64 b) ∧ X.cell? ⟨q, 1, none⟩ = some (.int .i64 C) ∧ X.cell? ⟨q, 2, none⟩ = some (.int .i64 6) ∧ X.cell? ⟨q, 3, none⟩ = some (.bool true) ∧ X.cell? ⟨q, 4, none⟩ = some (.int .u64 pl) ∧ X.cell? ⟨q, 5, none⟩ = some (.int .u64 ky) ∧ X.cell? ⟨q, 6, none⟩ = some (.int .u64 ld)) := hide (fun X hX => by
    have z := hX.trans h
    exact ⟨cell_of z rfl, cell_of z rfl, cell_of z rfl, cell_of z rfl, cell_of z rfl, cell_of z rfl, cell_of z rfl⟩)
  have HB0 := hide (fun X (hX : Below w.heap.size w X) => hX.block _ (lt_of_heap h))
  clear h hpl' hky hld hup hsl hd hpt hnx HA
  have HF : Hid (∀ w5, P w5 → w5.heap[q]? = w.heap[q]? → StN P q (RHObj b C d v) w5) := hide (fun w5 hp hq => (StN.of hp (hq.trans HH.out) (Below.refl _ _)).cast (by unfold RHObj Hs.nx; simp only [HT2.out, HPT.out, HPL.out, HD.out]; rfl))
  have hp0 : Hid (d.ph ≠ 0) := hide (by rw [HD.out]; decide)
  have hwc : IntKind.i64.wrap ((b : Int) + 2 + 3 * sl + 0) = (b : Int) + 2 + 3 * sl + 0 := IntWalk.i64_in _ (by omega)
  go_enter Tryz.func47, Tryz.ntmps47
  go_upto_region 34 with fail
  refine wp_region_noPanic ?_
  go_region_held3 (fun x => x.cell? ⟨q, 0, none⟩ = some (.int .i64 b) ∧ x.cell? ⟨q, 1, none⟩ = some (.int .i64 C) ∧ x.cell? ⟨q, 4, none⟩ = some (.int .u64 pl) ∧ x.cell? ⟨q, 5, none⟩ = some (.int .u64 ky) ∧ x.cell? ⟨q, 6, none⟩ = some (.int .u64 ld)) (first | exact ⟨c0, c1, c4, c5, c6⟩ | exact ⟨y0, y1, y4, y5, y6⟩ | exact ⟨z0, z1, z4, z5, z6⟩ | go_keep)
    (first
      | (go_at_call 86; refine (HSL.out w.drew c0 c1 c4).mono ?_; rintro e w4 ⟨rfl, hb4⟩; have HB4 := hide (below_on (a := w) (below_drew (Below.refl _ _)) hb4); obtain ⟨y0, y1, y2, y3, y4, y5, y6⟩ := HKK.out _ (HB0.out _ HB4.out); clear hb4)
      | (go_at_call 89; refine (HC.out _ (Chg.of_below HB4.out)).mono ?_; rintro e w5 ⟨rfl, hp, hq⟩; have hq2 := hq.trans (HB0.out _ HB4.out); have HP := hide hp; have HQ := hide hq2; obtain ⟨z0, z1, z2, z3, z4, z5, z6⟩ := HKK.out _ hq2; have f2 := free_of (hq2.trans HH.out) 2; clear hq hq2 hp)
      | fail)
  all_goals
    refine NoPanic.normal ?_
    clear y0 y1 y2 y3 y4 y5 y6 c0 c1 c2 c3 c4 c5 c6
    go_wp2_with (first
      | (go_at_call 87; refine (rend_any (b := b) (C := C) (d := d) (v := v) (HF.out _ HP.out HQ.out) hp0.out 1 none 0 0 []).mono ?_; rintro e w6 ⟨rfl, hst, hch⟩; have HST := hide hst; clear hst hch)
      | fail)
    first | go_end0 | refine bodyPost_ret (results_none rfl _ _ _) rfl ?_
    rw [show d.next C x = d.fin 1 [] by unfold Hs.next; simp only [HD.out]]
    exact ⟨rfl, HST.out.fin0R rfl⟩
set_option maxRecDepth 100000 in
set_option maxHeartbeats 4000000 in
theorem rph12 (h : w.heap[q]? = some (RHObj b C d v)) (hb : b ≤ 16777216) (hC1 : 2 ≤ C) (hC2 : C ≤ 65536) (hpl : 0 ≤ d.place ∧ d.place < 18446744073709551616) (hd : d.ph = 12) (hpt : d.put = false)
    (HA : ∀ X, Chg (fun k => k = q) w X → Calls Tryz.prog 89 #[.pointer (some ⟨rb, 0, none⟩), .int .i64 who, .int .i64 ((b : Int) + 2 + 3 * (d.place % (C : Int))), .int .u64 (uw (d.place + C))] X fun e w2 => e = .returned (.tuple #[]) ∧ P w2 ∧ w2.heap[q]? = X.heap[q]?) :
    Calls Tryz.prog 47 #[.pointer (some ⟨q, 0, none⟩), .pointer (some ⟨rb, 0, none⟩), .int .i64 who] w fun e w' => e = .returned (.tuple #[]) ∧ StR P q b C d (d.next C x) v w' := by
  have HD := hide hd
  have HPT := hide hpt
  have hnx : d.nx = 6 := by unfold Hs.nx; rw [hd]; rfl
  obtain ⟨pl, hpl'⟩ : ∃ pl, pl = d.place := ⟨_, rfl⟩
  have HPL := hide hpl'
  have HC := hide HA
  obtain ⟨ky, hky⟩ : ∃ p, p = d.t.1 := ⟨_, rfl⟩
  obtain ⟨ld, hld⟩ : ∃ p, p = d.t.2 := ⟨_, rfl⟩
  have HT2 : Hid (d.t = (ky, ld)) := by unfold Hid; rw [hky, hld]
  have hs1 := Int.emod_nonneg pl (show (C : Int) ≠ 0 by omega)
  have hs2 : pl % (C : Int) ≤ 65536 := by have := Int.emod_lt_of_pos pl (show (0 : Int) < C by omega); omega
  unfold RHObj at h
  rw [hnx, hpt] at h
  rw [← hpl'] at h hpl
  try rw [← hpl'] at HC
  rw [← hky, ← hld] at h
  skip
  skip
  obtain ⟨up, hup⟩ : ∃ u, u = uw (pl + 1) := ⟨_, rfl⟩
  have hw1 : IntKind.u64.wrap (pl + 1) = up := by rw [uw_wrap, hup]
  have hw0 : IntKind.u64.wrap pl = pl := by rw [uw_wrap]; exact uw_in hpl.1 hpl.2
  have HUP := hide hup
  skip
  have HSL := hide (fun W c0 c1 c4 => rslot_any (w := W) (q := q) (b := b) (C := C) pl hb hC1 hC2 hpl c0 c1 c4)
  obtain ⟨sl, hsl⟩ : ∃ sl, sl = pl % (C : Int) := ⟨_, rfl⟩
  rw [← hsl] at HSL hs1 hs2
  rw [← hsl] at HC
  have c0 := cell_of h (i := 0) rfl; have c1 := cell_of h (i := 1) rfl; have c2 := cell_of h (i := 2) rfl; have c3 := cell_of h (i := 3) rfl; have c4 := cell_of h (i := 4) rfl; have c5 := cell_of h (i := 5) rfl; have c6 := cell_of h (i := 6) rfl
  have HH := hide h
  have HKK : Hid (∀ X : World, X.heap[q]? = w.heap[q]? → X.cell? ⟨q, 0, none⟩ = some (.int .i64 b) ∧ X.cell? ⟨q, 1, none⟩ = some (.int .i64 C) ∧ X.cell? ⟨q, 2, none⟩ = some (.int .i64 6) ∧ X.cell? ⟨q, 3, none⟩ = some (.bool false) ∧ X.cell? ⟨q, 4, none⟩ = some (.int .u64 pl) ∧ X.cell? ⟨q, 5, none⟩ = some (.int .u64 ky) ∧ X.cell? ⟨q, 6, none⟩ = some (.int .u64 ld)) := hide (fun X hX => by
    have z := hX.trans h
    exact ⟨cell_of z rfl, cell_of z rfl, cell_of z rfl, cell_of z rfl, cell_of z rfl, cell_of z rfl, cell_of z rfl⟩)
  have HB0 := hide (fun X (hX : Below w.heap.size w X) => hX.block _ (lt_of_heap h))
  clear h hpl' hky hld hup hsl hd hpt hnx HA
  have HF : Hid (∀ w5, P w5 → w5.heap[q]? = w.heap[q]? → StN P q (RHObj b C d v) w5) := hide (fun w5 hp hq => (StN.of hp (hq.trans HH.out) (Below.refl _ _)).cast (by unfold RHObj Hs.nx; simp only [HT2.out, HPT.out, HPL.out, HD.out]; rfl))
  have hp0 : Hid (d.ph ≠ 0) := hide (by rw [HD.out]; decide)
  have hwc : IntKind.i64.wrap ((b : Int) + 2 + 3 * sl + 0) = (b : Int) + 2 + 3 * sl + 0 := IntWalk.i64_in _ (by omega)
  obtain ⟨uc, huc⟩ : ∃ u, u = uw (pl + C) := ⟨_, rfl⟩
  rw [← huc] at HC
  have hw2 : IntKind.u64.wrap (pl + (C : Int)) = uc := by rw [uw_wrap, huc]
  have hcw : IntKind.u64.wrap (C : Int) = (C : Int) := IntWalk.u64_in _ (by omega)
  clear huc
  go_enter Tryz.func47, Tryz.ntmps47
  go_upto_region 36 with fail
  refine wp_region_noPanic ?_
  go_region_held3 (fun x => x.cell? ⟨q, 0, none⟩ = some (.int .i64 b) ∧ x.cell? ⟨q, 1, none⟩ = some (.int .i64 C) ∧ x.cell? ⟨q, 4, none⟩ = some (.int .u64 pl) ∧ x.cell? ⟨q, 5, none⟩ = some (.int .u64 ky) ∧ x.cell? ⟨q, 6, none⟩ = some (.int .u64 ld)) (first | exact ⟨c0, c1, c4, c5, c6⟩ | exact ⟨y0, y1, y4, y5, y6⟩ | exact ⟨z0, z1, z4, z5, z6⟩ | go_keep)
    (first
      | (go_at_call 86; refine (HSL.out w.drew c0 c1 c4).mono ?_; rintro e w4 ⟨rfl, hb4⟩; have HB4 := hide (below_on (a := w) (below_drew (Below.refl _ _)) hb4); obtain ⟨y0, y1, y2, y3, y4, y5, y6⟩ := HKK.out _ (HB0.out _ HB4.out); clear hb4)
      | (go_at_call 89; refine (HC.out _ (Chg.of_below HB4.out)).mono ?_; rintro e w5 ⟨rfl, hp, hq⟩; have hq2 := hq.trans (HB0.out _ HB4.out); have HP := hide hp; have HQ := hide hq2; obtain ⟨z0, z1, z2, z3, z4, z5, z6⟩ := HKK.out _ hq2; have f2 := free_of (hq2.trans HH.out) 2; clear hq hq2 hp)
      | fail)
  all_goals
    refine NoPanic.normal ?_
    clear y0 y1 y2 y3 y4 y5 y6 c0 c1 c2 c3 c4 c5 c6
    go_wp2_with (first
      | (go_at_call 87; refine (rend_any (b := b) (C := C) (d := d) (v := v) ((HF.out _ HP.out HQ.out).below (below_alloc (Below.refl _ _) _)) hp0.out 5 _ 1 1 [d.t]).mono ?_; rintro e w6 ⟨rfl, hst, hch⟩; have HST := hide hst; have HCH := hide hch; clear hst hch)
      | fail)
    first | go_end0 | refine bodyPost_ret (results_none rfl _ _ _) rfl ?_
    rw [show d.next C x = d.fin 5 [d.t] by unfold Hs.next; simp only [HD.out]]
    exact ⟨rfl, (HF.out _ HP.out HQ.out).finR HST.out HCH.out (by rw [HT2.out]; rfl)⟩
end
end Go.Proofs.YtgjdjdgondpjeaaGreat

/- Accesses that are not made: zeros; the document's too. -/
namespace Go.Proofs.YtgjdjdgondpjeaaGreat
open Go.RowKit Go.Lib Go.MuLone
set_option linter.unusedVariables false
set_option linter.unusedSimpArgs false
/-- The answer of zeros is laid, and the lock is let go. -/
theorem refused_end {w w1 F : World} {Y b gc R : Nat} {lv : Value} {s : Ast} {x y z : Int} {S : Nat → Prop} (h : AIs w Y b gc lv s) (hb1 : w1.heap[b]? = some (AObjL 1 gc lv (s.stop x y z))) (fk : Chg S w w1) (yr : w1.heap[R]? = some (.cells Acc.zero.arr 55 (0, 0)))
    (hR : R = w.heap.size + 1) (hSb : S b) (hSg : ¬ S gc) (hSl : ∀ j, lv.ownBlock = some j → ¬ S j)
    (hF : F = ((((((((w1.setCell ⟨R, 0, none⟩ (.int .i64 0)).setCell ⟨R, 1, none⟩ (.int .i64 0)).setCell ⟨R, 2, none⟩ (.int .i64 0)).setCell ⟨R, 3, none⟩ (.int .u64 0)).setCell ⟨R, 4, none⟩ (.int .u64 0)).setCell ⟨R, 5, none⟩ (.int .u64 0)).setCell ⟨R, 6, none⟩ (.int .u64 0)).setCell ⟨R, 7, none⟩ (.bool false))) :
    F.heap[b]? = some (AObjL 1 gc lv (s.stop x y z)) ∧ F.heap[R]? = some (.cells Acc.zero.arr 55 (0, 0)) ∧ AIs (F.setCell ⟨b, 0, none⟩ (.int .i32 0)) Y b gc lv (s.stop x y z) ∧ Chg S w (F.setCell ⟨b, 0, none⟩ (.int .i32 0)) ∧ Chg (fun j => j = b ∨ j = R) w1 (F.setCell ⟨b, 0, none⟩ (.int .i32 0)) := by
  have hbl := lt_of_heap h.hb
  have gb : F.heap[b]? = some (AObjL 1 gc lv (s.stop x y z)) := by rw [hF]; exact set8_else (R := R) hb1 (by omega) _ _ _ _ _ _ _ _
  have gk : Chg S w F := by rw [hF]; exact set8_chg fk (by omega) _ _ _ _ _ _ _ _
  have gr : F.heap[R]? = some (.cells Acc.zero.arr 55 (0, 0)) := by
    have r3 := heap_set (i := 7) (heap_set (i := 6) (heap_set (i := 5) (heap_set (i := 4) (heap_set (i := 3) (heap_set (i := 2) (heap_set (i := 1) (heap_set (i := 0) yr (.int .i64 0)) (.int .i64 0)) (.int .i64 0)) (.int .u64 0)) (.int .u64 0)) (.int .u64 0)) (.int .u64 0)) (.bool false)
    rw [hF, r3]
    simp [Acc.zero, Acc.arr]
  have k2 : Chg S w (F.setCell ⟨b, 0, none⟩ (.int .i32 0)) := gk.setCell (p := ⟨b, 0, none⟩) hSb _
  have k3 : Chg (fun j => j = b ∨ j = R) w1 (F.setCell ⟨b, 0, none⟩ (.int .i32 0)) := by
    rw [hF]
    exact (((((((((Chg.refl (fun j => j = b ∨ j = R) w1).put R 0 _ (.inr rfl)).put R 1 _ (.inr rfl)).put R 2 _ (.inr rfl)).put R 3 _ (.inr rfl)).put R 4 _ (.inr rfl)).put R 5 _ (.inr rfl)).put R 6 _ (.inr rfl)).put R 7 _ (.inr rfl)).put b 0 _ (.inl rfl)
  refine ⟨gb, gr, ⟨heap_set gb _, ?_, ?_, h.bY, h.gY, h.ne, ?_, Nat.le_trans h.yw k2.size⟩, k2, k3⟩
  · rw [Ast.stop_cells]; exact k2.heap h.hc hSg
  · rw [Ast.stop_log]; exact ownsRow_block h.hl (fun i hi => k2.block i (owns_lt h.hl hi).2 (hSl i hi))
  · rw [Ast.stop_cells]; exact h.len

set_option maxRecDepth 100000 in
set_option maxHeartbeats 1000000 in
theorem access_none (p Y b gc : Nat) (lv : Value) (s : Ast) (who : Int) (k want put i : Int) (w : World) (h : AIs w Y b gc lv s) (hp : w.heap[p]? = some (PObj b who false)) (hpb : p ≠ b) (hs : s.stopped = false) :
    Calls Tryz.prog 100 #[.pointer (some ⟨p, 0, none⟩), .agg #[.int .i64 0, .int .i64 k, .int .i64 i, .int .u64 want, .int .u64 put, .int .u64 0, .int .u64 0, .bool false]] w fun r w' => r = .returned (.agg #[.int .i64 0, .int .i64 0, .int .i64 0, .int .u64 0, .int .u64 0, .int .u64 0, .int .u64 0, .bool false]) ∧ AIs w' Y b gc lv (s.stop who 2 i) ∧ Chg (fun k => k = b) w w' := by
  have hbl := lt_of_heap h.hb
  have hpw := lt_of_heap hp
  have H := hide h
  have HP := hide hp
  have d0 : w.cell? ⟨p, 0, none⟩ = some (.pointer (some ⟨b, 0, none⟩)) := cell_of hp rfl
  have hbp : ¬ b = p := fun e => hpb e.symm
  have HS := hide hs
  clear h hp hs
  go_enter_defers Tryz.func100, Tryz.ntmps100
  go_wp2_with fail
  refine (leads_any p b who false _ (heap_old (heap_old HP.out _) _)).mono ?_
  rintro e w' ⟨rfl, rfl⟩
  go_wp2_with fail
  refine (lock_free Tryz.muLib ⟨b, 0, none⟩ _ (cell_of (heap_old (heap_old H.out.hb _) _) rfl) (free_of (heap_old (heap_old H.out.hb _) _) 0)).mono ?_
  rintro e w' ⟨rfl, rfl⟩
  go_wp2_with fail
  refine (pass_none p b gc lv s who i 1 _ (heap_old (heap_old (heap_set H.out.hb _) _) _) (heap_old (heap_old (heap_else HP.out hpb _) _) _) HS.out).mono ?_
  rintro e w1 ⟨rfl, hb1, k1⟩
  have yr : w1.heap[w.heap.size + 1]? = some (.cells Acc.zero.arr 55 (0, 0)) := by
    refine k1.heap ?_ (by omega)
    have h := heap_new ((w.setCell ⟨b, 0, none⟩ (.int .i32 1)).alloc (.cells #[.int .i64 0, .int .i64 k, .int .i64 i, .int .u64 want, .int .u64 put, .int .u64 0, .int .u64 0, .bool false] 55)) (.cells Acc.zero.arr 55)
    simpa [World.setCell, Acc.zero, Acc.arr] using h
  have fk : Chg (fun k => k = b) w w1 := ((((Chg.refl (fun k => k = b) w).put b 0 _ rfl).alloc _).alloc _).trans k1
  obtain ⟨r0, r1, r2, r3, r4, r5, r6, r7⟩ := block8 yr
  have rf := fun j => free_of yr j
  have G := hide (And.intro hb1 (And.intro fk yr))
  clear hb1 k1 fk yr
  go_wp2_with fail
  refine leaves_cons (f := 52) (args := #[.pointer (some ⟨b, 0, none⟩)]) (by simp) (by simp [go_sem]) ?_
  generalize hF : World.setCell _ _ _ = F
  obtain ⟨fb, fr, fa, fk, _⟩ := refused_end (S := fun k => k = b) H.out G.out.1 G.out.2.1 G.out.2.2 rfl rfl (fun e => H.out.ne e.symm) (fun j hj => (H.out.own_ne hj).1) hF.symm
  refine (unlock_deferred Tryz.muLib ⟨b, 0, none⟩ .returning _ (cell_of fb rfl) (free_of fb 0)).mono ?_
  rintro e u' w'' ⟨rfl, rfl, rfl⟩
  refine ⟨Acc.zero.val, ?_, rfl, fa, fk⟩
  obtain ⟨q0, q1, q2, q3, q4, q5, q6, q7⟩ := block8 fr
  simp [results, Tryz.results100, go_sem, Acc.val, Acc.zero, Acc.arr, q0, q1, q2, q3, q4, q5, q6, q7]

section
/-- access of that port at that cell answers zeros, whatever else is asked, and leaves Post. -/
def Zeros (w : World) (p : Nat) (i : Int) (Post : World → Prop) : Prop := ∀ k want put : Int,
    Calls Tryz.prog 100 #[.pointer (some ⟨p, 0, none⟩), .agg #[.int .i64 0, .int .i64 k, .int .i64 i, .int .u64 want, .int .u64 put, .int .u64 0, .int .u64 0, .bool false]] w fun r w' =>
      r = .returned (.agg #[.int .i64 0, .int .i64 0, .int .i64 0, .int .u64 0, .int .u64 0, .int .u64 0, .int .u64 0, .bool false]) ∧ Post w'
variable {w : World} {p : Nat} {Post : World → Prop}

set_option maxRecDepth 100000 in
theorem load_zero (i : Int) (R : Zeros w p i Post) :
    Calls Tryz.prog 77 #[.pointer (some ⟨p, 0, none⟩), .int .i64 i] w fun r w' => r = .returned (.int .u64 0) ∧ Post w' := by
  have HC := hide (R 1 0 0)
  clear R
  have hf5 := field5
  go_enter Tryz.func77, Tryz.ntmps77
  go_wp2_with fail
  refine HC.out.mono ?_
  rintro e w' ⟨rfl, hp⟩
  have H := hide hp
  clear hp
  go_wp2_with fail
  go_ret
  exact ⟨rfl, H.out⟩
set_option maxRecDepth 100000 in
theorem store_zero (i x : Int) (R : Zeros w p i Post) :
    Calls Tryz.prog 81 #[.pointer (some ⟨p, 0, none⟩), .int .i64 i, .int .u64 x] w fun r w' => r = .returned (.tuple #[]) ∧ Post w' := by
  have HC := hide (R 2 0 x)
  clear R
  go_enter Tryz.func81, Tryz.ntmps81
  go_wp2_with fail
  refine HC.out.mono ?_
  rintro e w' ⟨rfl, hp⟩
  have H := hide hp
  clear hp
  go_wp2_with fail
  first | go_end0 | refine bodyPost_ret (results_none rfl _ _ _) rfl ?_
  exact ⟨rfl, H.out⟩
set_option maxRecDepth 100000 in
theorem cas_zero (i x y : Int) (R : Zeros w p i Post) :
    Calls Tryz.prog 80 #[.pointer (some ⟨p, 0, none⟩), .int .i64 i, .int .u64 x, .int .u64 y] w fun r w' => r = .returned (.bool false) ∧ Post w' := by
  have HC := hide (R 3 x y)
  clear R
  have hf7 := field7
  go_enter Tryz.func80, Tryz.ntmps80
  go_wp2_with fail
  refine HC.out.mono ?_
  rintro e w' ⟨rfl, hp⟩
  have H := hide hp
  clear hp
  go_wp2_with fail
  go_ret
  exact ⟨rfl, H.out⟩
end
/-- The same arena, stopped. -/
structure Stp (s t : Ast) : Prop where
  cells : t.cells = s.cells
  log : t.log = s.log
  count : t.count = s.count
  keep : t.keep = s.keep
  stop : t.stopped = true
/-- What an access that is not made leaves. -/
def ZP (w : World) (Y b gc : Nat) (lv : Value) (s : Ast) (w2 : World) : Prop := ∃ t, Stp s t ∧ AIs w2 Y b gc lv t ∧ Chg (fun k => k = b) w w2
theorem Stp.refl {s : Ast} (h : s.stopped = true) : Stp s s := ⟨rfl, rfl, rfl, rfl, h⟩
theorem Stp.of {s : Ast} (h : s.stopped = false) (x y z : Int) : Stp s (s.stop x y z) := by
  unfold Ast.stop
  rw [if_neg (by simp [h])]
  exact ⟨rfl, rfl, rfl, rfl, rfl⟩
section
variable {w : World} {Y b gc : Nat} {lv : Value} {s : Ast}
set_option maxRecDepth 100000 in
theorem refLoad_stop (who i : Int) (h : RIs w Y b gc lv s) (hs : s.stopped = true) :
    Calls Tryz.prog 85 #[.pointer (some ⟨b, 0, none⟩), .int .i64 who, .int .i64 i] w fun r w' => r = .returned (.int .u64 0) ∧ Below w.heap.size w w' := by
  have HT := hide (fun X (k : Below w.heap.size w X) => there_stopped Y b gc lv s who i X (h.below k) hs)
  have HB := hide (fun X (k : Below w.heap.size w X) => k)
  have HB0 := hide (Below.refl w.heap.size w)
  have HA := hide (fun ob => below_alloc (Below.refl w.heap.size w) ob)
  clear h hs
  go_enter Tryz.func85, Tryz.ntmps85
  go_wp2_with fail
  first
    | (refine (HT.out _ HB0.out).mono ?_; rintro e w' ⟨rfl, rfl⟩; go_wp2_with fail; go_ret; exact ⟨rfl, HB0.out⟩)
    | (refine (HT.out _ (HA.out _)).mono ?_; rintro e w' ⟨rfl, rfl⟩; go_wp2_with fail; go_ret; exact ⟨rfl, HA.out _⟩)

set_option maxRecDepth 100000 in
theorem refCas_stop (who i want put : Int) (h : RIs w Y b gc lv s) (hs : s.stopped = true) :
    Calls Tryz.prog 88 #[.pointer (some ⟨b, 0, none⟩), .int .i64 who, .int .i64 i, .int .u64 want, .int .u64 put] w fun r w' => r = .returned (.bool false) ∧ Below w.heap.size w w' := by
  have HT := hide (fun X (k : Below w.heap.size w X) => there_stopped Y b gc lv s who i X (h.below k) hs)
  have HB := hide (fun X (k : Below w.heap.size w X) => k)
  have HB0 := hide (Below.refl w.heap.size w)
  have HA := hide (fun ob => below_alloc (Below.refl w.heap.size w) ob)
  clear h hs
  go_enter Tryz.func88, Tryz.ntmps88
  go_wp2_with fail
  first
    | (refine (HT.out _ HB0.out).mono ?_; rintro e w' ⟨rfl, rfl⟩; go_wp2_with fail; go_ret; exact ⟨rfl, HB0.out⟩)
    | (refine (HT.out _ (HA.out _)).mono ?_; rintro e w' ⟨rfl, rfl⟩; go_wp2_with fail; go_ret; exact ⟨rfl, HA.out _⟩)

set_option maxRecDepth 100000 in
theorem refStore_stop (who i v : Int) (h : RIs w Y b gc lv s) (hs : s.stopped = true) :
    Calls Tryz.prog 89 #[.pointer (some ⟨b, 0, none⟩), .int .i64 who, .int .i64 i, .int .u64 v] w fun r w' => r = .returned (.tuple #[]) ∧ Below w.heap.size w w' := by
  have HT := hide (fun X (k : Below w.heap.size w X) => there_stopped Y b gc lv s who i X (h.below k) hs)
  have HB := hide (fun X (k : Below w.heap.size w X) => k)
  have HB0 := hide (Below.refl w.heap.size w)
  have HA := hide (fun ob => below_alloc (Below.refl w.heap.size w) ob)
  clear h hs
  go_enter Tryz.func89, Tryz.ntmps89
  go_wp2_with fail
  first
    | (refine (HT.out _ HB0.out).mono ?_; rintro e w' ⟨rfl, rfl⟩; go_wp2_with fail; (first | go_end0 | refine bodyPost_ret (results_none rfl _ _ _) rfl ?_); exact ⟨rfl, HB0.out⟩)
    | (refine (HT.out _ (HA.out _)).mono ?_; rintro e w' ⟨rfl, rfl⟩; go_wp2_with fail; (first | go_end0 | refine bodyPost_ret (results_none rfl _ _ _) rfl ?_); exact ⟨rfl, HA.out _⟩)

end
end Go.Proofs.YtgjdjdgondpjeaaGreat

/- Steps whose access is not made; the document's Step whole. -/
namespace Go.Proofs.YtgjdjdgondpjeaaGreat
open Go.RowKit Go.Lib
set_option linter.unusedVariables false
set_option linter.unusedSimpArgs false
/-- The handle behind an access that was not made. -/
def Hs.zx (d : Hs) : Int := if d.ph = 3 ∨ d.ph = 9 then d.place + 1 else 0
def Hs.nz (C : Nat) (d : Hs) : Hs := d.next C d.zx
theorem HW.nz {d : Hs} (h : HW d) (C : Nat) : HW (d.nz C) := by
  by_cases e3 : d.ph = 3
  · have : d.nz C = { d with ph := 1 } := by
      have hz : d.zx = d.place + 1 := if_pos (.inl e3)
      unfold Hs.nz; rw [hz]; unfold Hs.next; simp only [e3]; rw [if_neg (by omega)]
    rw [this]; exact ⟨h.place, h.t1, h.t2, by simp, h.out⟩
  · by_cases e9 : d.ph = 9
    · have : d.nz C = { d with ph := 7 } := by
        have hz : d.zx = d.place + 1 := if_pos (.inr e9)
        unfold Hs.nz; rw [hz]; unfold Hs.next; simp only [e9]; rw [if_neg (by omega)]
      rw [this]; exact ⟨h.place, h.t1, h.t2, by simp, h.out⟩
    · unfold Hs.nz Hs.zx
      rw [if_neg (by omega)]
      exact h.next C ⟨Int.le_refl _, by decide⟩
/-- Whether it is an Insert is known by the phase. -/
def PutOk (d : Hs) : Prop := (1 ≤ d.ph → d.ph ≤ 6 → d.put = true) ∧ (7 ≤ d.ph → d.put = false)
theorem PutOk.new : PutOk Hs.new := ⟨fun q => absurd (show 1 ≤ 0 from q) (by decide), fun q => absurd (show 7 ≤ 0 from q) (by decide)⟩
theorem PutOk.ins (d : Hs) (t : Tk) : PutOk (d.ins t) := ⟨fun _ _ => rfl, fun q => absurd (show 7 ≤ 1 from q) (by decide)⟩
theorem PutOk.tak (d : Hs) : PutOk d.tak := ⟨fun _ q => absurd (show 7 ≤ 6 from q) (by decide), fun _ => rfl⟩
theorem PutOk.next {d : Hs} (h : PutOk d) (C : Nat) (x : Int) (h0 : d.ph ≠ 0) (h12 : d.ph ≤ 12) : PutOk (d.next C x) := by
  obtain ⟨h1, h2⟩ := h
  rcases (show d.ph = 1 ∨ d.ph = 2 ∨ d.ph = 3 ∨ d.ph = 4 ∨ d.ph = 5 ∨ d.ph = 6 ∨ d.ph = 7 ∨ d.ph = 8 ∨ d.ph = 9 ∨ d.ph = 10 ∨ d.ph = 11 ∨ d.ph = 12 by omega) with e | e | e | e | e | e | e | e | e | e | e | e
  all_goals
    have hp : d.put = (decide (d.ph ≤ 6)) := by
      first
        | (rw [h1 (by omega) (by omega)]; simp [e])
        | (rw [h2 (by omega)]; simp [e])
    unfold Hs.next Hs.fin PutOk
    simp only [e] at hp ⊢
    repeat' split
    all_goals (refine ⟨fun a b => ?_, fun a => ?_⟩ <;> simp_all)
section
variable {w : World} {Y ab gc p q b C : Nat} {lv v : Value} {s : Ast} {who : Int} {d : Hs} {g : Bool}
/-- Ready for a step that makes no access. -/
structure HZ (w : World) (Y ab gc p : Nat) (lv : Value) (s : Ast) (who : Int) (q b C : Nat) (d : Hs) (v : Value) (g : Bool) : Prop where
  ar : AIs w Y ab gc lv s
  po : w.heap[p]? = some (PObj ab who g)
  nd : w.heap[q]? = some (HObj b C d v)
  no : s.stopped = true ∨ s.stopped = false ∧ g = false
  hb : b ≤ 16777216
  hC1 : 2 ≤ C
  hC2 : C ≤ 65536
  place : 0 ≤ d.place ∧ d.place < 18446744073709551616
  ph0 : d.ph ≠ 0
  ph : d.ph ≤ 12
theorem HZ.zeros (h : HZ w Y ab gc p lv s who q b C d v g) {X : World} (hb : Below w.heap.size w X) (i : Int) : Zeros X p i (ZP w Y ab gc lv s) := by
  intro k want put
  have hA := h.ar.below hb
  have hP := (hb.block _ (lt_of_heap h.po)).trans h.po
  have hpb : p ≠ ab := ne_ty h.po h.ar.hb (by decide)
  rcases h.no with e | ⟨e, rfl⟩
  · refine (access_stopped p Y ab gc lv s who g k want put i X hA hP hpb e).mono ?_
    rintro r w' ⟨rfl, ha, hk⟩
    exact ⟨rfl, s, Stp.refl e, ha, (Chg.of_below hb).trans hk⟩
  · refine (access_none p Y ab gc lv s who k want put i X hA hP hpb e).mono ?_
    rintro r w' ⟨rfl, ha, hk⟩
    exact ⟨rfl, _, Stp.of e _ _ _, ha, (Chg.of_below hb).trans hk⟩
theorem HZ.keepq (h : HZ w Y ab gc p lv s who q b C d v g) {w2 : World} (hp : ZP w Y ab gc lv s w2) : w2.heap[q]? = some (HObj b C d v) := by
  obtain ⟨t, h1, h2, h3⟩ := hp
  exact h3.heap h.nd (ne_ty h.nd h.ar.hb (by decide))
theorem step_zero (h : HZ w Y ab gc p lv s who q b C d v g) : Calls Tryz.prog 46 #[.pointer (some ⟨q, 0, none⟩), .pointer (some ⟨p, 0, none⟩)] w fun e w' => e = .returned (.tuple #[]) ∧ StH (ZP w Y ab gc lv s) q b C d (d.nz C) v w' := by
  have hp := h.ph
  have hp0 := h.ph0
  rcases (show d.ph = 1 ∨ d.ph = 2 ∨ d.ph = 3 ∨ d.ph = 4 ∨ d.ph = 5 ∨ d.ph = 6 ∨ d.ph = 7 ∨ d.ph = 8 ∨ d.ph = 9 ∨ d.ph = 10 ∨ d.ph = 11 ∨ d.ph = 12 by omega) with e | e | e | e | e | e | e | e | e | e | e | e
  · rw [show d.nz C = d.next C (0) by unfold Hs.nz Hs.zx; rw [if_neg (by omega)]]
    exact ph1 (p := p) (P := ZP w Y ab gc lv s) h.nd h.hb h.hC1 h.hC2 h.place e (fun X k => load_zero _ (h.zeros k _)) (fun w2 hp => h.keepq hp)
  · rw [show d.nz C = d.next C (0) by unfold Hs.nz Hs.zx; rw [if_neg (by omega)]]
    exact ph2 (p := p) (P := ZP w Y ab gc lv s) h.nd h.hb h.hC1 h.hC2 h.place e (fun X k => load_zero _ (h.zeros k _)) (fun w2 hp => h.keepq hp)
  · rw [show d.nz C = d.next C (d.place + 1) by unfold Hs.nz Hs.zx; rw [if_pos (by omega)]]
    exact ph3 (p := p) (P := ZP w Y ab gc lv s) (bb := false) (by symm; exact decide_eq_false (by omega)) h.nd h.hb h.hC1 h.hC2 h.place e (fun X k => cas_zero _ _ _ (h.zeros k _)) (fun w2 hp => h.keepq hp)
  · rw [show d.nz C = d.next C (0) by unfold Hs.nz Hs.zx; rw [if_neg (by omega)]]
    exact ph4 (p := p) (P := ZP w Y ab gc lv s) h.nd h.hb h.hC1 h.hC2 h.place e (fun X k => store_zero _ _ (h.zeros k _)) (fun w2 hp => h.keepq hp)
  · rw [show d.nz C = d.next C (0) by unfold Hs.nz Hs.zx; rw [if_neg (by omega)]]
    exact ph5 (p := p) (P := ZP w Y ab gc lv s) h.nd h.hb h.hC1 h.hC2 h.place e (fun X k => store_zero _ _ (h.zeros k _)) (fun w2 hp => h.keepq hp)
  · rw [show d.nz C = d.next C (0) by unfold Hs.nz Hs.zx; rw [if_neg (by omega)]]
    exact ph6 (p := p) (P := ZP w Y ab gc lv s) h.nd h.hb h.hC1 h.hC2 h.place e (fun X k => store_zero _ _ (h.zeros k _)) (fun w2 hp => h.keepq hp)
  · rw [show d.nz C = d.next C (0) by unfold Hs.nz Hs.zx; rw [if_neg (by omega)]]
    exact ph7 (p := p) (P := ZP w Y ab gc lv s) h.nd h.hb h.hC1 h.hC2 h.place e (fun X k => load_zero _ (h.zeros k _)) (fun w2 hp => h.keepq hp)
  · rw [show d.nz C = d.next C (0) by unfold Hs.nz Hs.zx; rw [if_neg (by omega)]]
    exact ph8 (p := p) (P := ZP w Y ab gc lv s) h.nd h.hb h.hC1 h.hC2 h.place e (fun X k => load_zero _ (h.zeros k _)) (fun w2 hp => h.keepq hp)
  · rw [show d.nz C = d.next C (d.place + 1) by unfold Hs.nz Hs.zx; rw [if_pos (by omega)]]
    exact ph9 (p := p) (P := ZP w Y ab gc lv s) (bb := false) (by symm; exact decide_eq_false (by omega)) h.nd h.hb h.hC1 h.hC2 h.place e (fun X k => cas_zero _ _ _ (h.zeros k _)) (fun w2 hp => h.keepq hp)
  · rw [show d.nz C = d.next C (0) by unfold Hs.nz Hs.zx; rw [if_neg (by omega)]]
    exact ph10 (p := p) (P := ZP w Y ab gc lv s) h.nd h.hb h.hC1 h.hC2 h.place e (fun X k => load_zero _ (h.zeros k _)) (fun w2 hp => h.keepq hp)
  · rw [show d.nz C = d.next C (0) by unfold Hs.nz Hs.zx; rw [if_neg (by omega)]]
    exact ph11 (p := p) (P := ZP w Y ab gc lv s) h.nd h.hb h.hC1 h.hC2 h.place e (fun X k => load_zero _ (h.zeros k _)) (fun w2 hp => h.keepq hp)
  · rw [show d.nz C = d.next C (0) by unfold Hs.nz Hs.zx; rw [if_neg (by omega)]]
    exact ph12 (p := p) (P := ZP w Y ab gc lv s) h.nd h.hb h.hC1 h.hC2 h.place e (fun X k => store_zero _ _ (h.zeros k _)) (fun w2 hp => h.keepq hp)
end
section
variable {w : World} {Y rb rc q b C : Nat} {lv v : Value} {s : Ast} {who : Int} {d : Hs}
/-- Ready for a step of the document's. -/
structure RRdy (w : World) (Y rb rc : Nat) (lv : Value) (s : Ast) (q b C : Nat) (d : Hs) (v : Value) : Prop where
  ar : RIs w Y rb rc lv s
  nd : w.heap[q]? = some (RHObj b C d v)
  hb : b ≤ 16777216
  len : b + 2 + 3 * C ≤ s.cells.length
  hC1 : 2 ≤ C
  hC2 : C ≤ 65536
  place : 0 ≤ d.place ∧ d.place < 18446744073709551616
  ph0 : d.ph ≠ 0
  ph : d.ph ≤ 12
  put : PutOk d
theorem RRdy.ris (h : RRdy w Y rb rc lv s q b C d v) {X : World} (hc : Chg (fun k => k = q) w X) : RIs X Y rb rc lv s :=
  h.ar.kept hc (fun e => ne_ty h.nd h.ar.hb (by decide) e.symm) (fun e => ne_ty h.nd h.ar.hc (by decide) e.symm) (fun i hi e => by
    obtain ⟨_, cs, h3⟩ := own_tyz h.ar.hl hi
    exact ne_ty h.nd h3 (by decide) e.symm)
/-- What an access of the document's leaves. -/
def RAc (w : World) (Y rb rc : Nat) (lv : Value) (s : Ast) (q i : Nat) (m : Acc) (w2 : World) : Prop := ∃ lv', RIs w2 Y rb rc lv' (s.made i m) ∧ (lv'.ownBlock = lv.ownBlock ∨ ∃ g, lv'.ownBlock = some g ∧ w.heap.size ≤ g) ∧ Chg (fun k => refSet rb rc lv k ∨ k = q) w w2
theorem RRdy.post (h : RRdy w Y rb rc lv s q b C d v) {X w2 : World} {i : Nat} {m : Acc} (hc : Chg (fun k => k = q) w X) (hp : RPost X w2 Y rb rc lv s i m) : RAc w Y rb rc lv s q i m w2 ∧ w2.heap[q]? = X.heap[q]? := by
  obtain ⟨lv', h1, h2, h3⟩ := hp
  refine ⟨⟨lv', h1, h2.imp id (fun ⟨g, e, hg⟩ => ⟨g, e, Nat.le_trans hc.size hg⟩), (hc.mono fun k hk => .inr hk).trans (h3.mono fun k hk => .inl hk)⟩, h3.block _ (Nat.lt_of_lt_of_le (lt_of_heap h.nd) hc.size) (fun e => ?_)⟩
  rcases e with e | e | e
  · exact ne_ty h.nd h.ar.hb (by decide) e
  · exact ne_ty h.nd h.ar.hc (by decide) e
  · obtain ⟨_, cs, h4⟩ := own_tyz h.ar.hl e
    exact ne_ty h.nd h4 (by decide) rfl
theorem RRdy.ready (h : RRdy w Y rb rc lv s q b C d v) (hs : s.stopped = false) (c0 : 0 ≤ s.count) (c1 : s.count < 9223372036854775807) (hbig : (s.log.length + 1) * 64 ≤ 140737488355328) {X : World} (hc : Chg (fun k => k = q) w X) : RReady X Y rb rc lv s (d.cell b C) :=
  ⟨h.ris hc, hs, by have := d.cell_lt b C h.hC1; have := h.len; omega, c0, c1, hbig⟩
theorem rstep_go (h : RRdy w Y rb rc lv s q b C d v) (hs : s.stopped = false) (c0 : 0 ≤ s.count) (c1 : s.count < 9223372036854775807) (hbig : (s.log.length + 1) * 64 ≤ 140737488355328) :
    Calls Tryz.prog 47 #[.pointer (some ⟨q, 0, none⟩), .pointer (some ⟨rb, 0, none⟩), .int .i64 who] w fun e w' => e = .returned (.tuple #[]) ∧ StR (RAc w Y rb rc lv s q (d.cell b C) (d.acc b C who (nth s.cells (d.cell b C)))) q b C d (d.next C (nth s.cells (d.cell b C))) v w' := by
  have hC1 := h.hC1
  have hp := h.ph
  have hp0 := h.ph0
  have tc := turn_cast (b := b) (d := d) hC1
  have rd := fun X (k : Chg (fun k => k = q) w X) => h.ready hs c0 c1 hbig k
  obtain ⟨x, hx⟩ : ∃ x, x = nth s.cells (d.cell b C) := ⟨_, rfl⟩
  rw [← hx]
  rcases (show d.ph = 1 ∨ d.ph = 2 ∨ d.ph = 3 ∨ d.ph = 4 ∨ d.ph = 5 ∨ d.ph = 6 ∨ d.ph = 7 ∨ d.ph = 8 ∨ d.ph = 9 ∨ d.ph = 10 ∨ d.ph = 11 ∨ d.ph = 12 by omega) with e | e | e | e | e | e | e | e | e | e | e | e
  · have hc : d.cell b C = b := by unfold Hs.cell; simp only [e]
    refine rph1 (x := x) (rb := rb) (P := RAc w Y rb rc lv s q (d.cell b C) (d.acc b C who x)) h.nd h.hb hC1 h.hC2 h.place e (h.put.1 (by omega) (by omega)) (fun X k => ?_)
    have r := rd X k
    have ha : ((d.cell b C : Nat) : Int) = (b : Int) := by rw [hc] <;> omega
    rw [← ha]
    rw [show d.acc b C who x = _ by unfold Hs.acc; simp only [e]; exact rfl, hx]
    exact (refLoad_in who r).mono fun e w' hh => ⟨hh.1, h.post k hh.2⟩
  · have hc : d.cell b C = turnN b C d.place := by unfold Hs.cell; simp only [e]
    refine rph2 (x := x) (rb := rb) (P := RAc w Y rb rc lv s q (d.cell b C) (d.acc b C who x)) h.nd h.hb hC1 h.hC2 h.place e (h.put.1 (by omega) (by omega)) (fun X k => ?_)
    have r := rd X k
    have ha : ((d.cell b C : Nat) : Int) = (b : Int) + 2 + 3 * (d.place % (C : Int)) := by rw [hc] <;> omega
    rw [← ha]
    rw [show d.acc b C who x = _ by unfold Hs.acc; simp only [e]; exact rfl, hx]
    exact (refLoad_in who r).mono fun e w' hh => ⟨hh.1, h.post k hh.2⟩
  · have hc : d.cell b C = b := by unfold Hs.cell; simp only [e]
    refine rph3 (x := x) (rb := rb) (P := RAc w Y rb rc lv s q (d.cell b C) (d.acc b C who x)) (bb := decide (x = d.place)) rfl h.nd h.hb hC1 h.hC2 h.place e (h.put.1 (by omega) (by omega)) (fun X k => ?_)
    have r := rd X k
    have ha : ((d.cell b C : Nat) : Int) = (b : Int) := by rw [hc] <;> omega
    rw [← ha]
    rw [show d.acc b C who x = _ by unfold Hs.acc; simp only [e]; exact rfl, hx]
    exact (refCas_in who d.place (uw (d.place + 1)) r).mono fun e w' hh => ⟨hh.1, h.post k hh.2⟩
  · have hc : d.cell b C = turnN b C d.place + 1 := by unfold Hs.cell; simp only [e]
    refine rph4 (x := x) (rb := rb) (P := RAc w Y rb rc lv s q (d.cell b C) (d.acc b C who x)) h.nd h.hb hC1 h.hC2 h.place e (h.put.1 (by omega) (by omega)) (fun X k => ?_)
    have r := rd X k
    have ha : ((d.cell b C : Nat) : Int) = (b : Int) + 2 + 3 * (d.place % (C : Int)) + 1 := by rw [hc] <;> omega
    rw [← ha]
    rw [show d.acc b C who x = _ by unfold Hs.acc; simp only [e]; exact rfl, hx]
    exact (refStore_in who d.t.1 r).mono fun e w' hh => ⟨hh.1, h.post k hh.2⟩
  · have hc : d.cell b C = turnN b C d.place + 2 := by unfold Hs.cell; simp only [e]
    refine rph5 (x := x) (rb := rb) (P := RAc w Y rb rc lv s q (d.cell b C) (d.acc b C who x)) h.nd h.hb hC1 h.hC2 h.place e (h.put.1 (by omega) (by omega)) (fun X k => ?_)
    have r := rd X k
    have ha : ((d.cell b C : Nat) : Int) = (b : Int) + 2 + 3 * (d.place % (C : Int)) + 2 := by rw [hc] <;> omega
    rw [← ha]
    rw [show d.acc b C who x = _ by unfold Hs.acc; simp only [e]; exact rfl, hx]
    exact (refStore_in who d.t.2 r).mono fun e w' hh => ⟨hh.1, h.post k hh.2⟩
  · have hc : d.cell b C = turnN b C d.place := by unfold Hs.cell; simp only [e]
    refine rph6 (x := x) (rb := rb) (P := RAc w Y rb rc lv s q (d.cell b C) (d.acc b C who x)) h.nd h.hb hC1 h.hC2 h.place e (h.put.1 (by omega) (by omega)) (fun X k => ?_)
    have r := rd X k
    have ha : ((d.cell b C : Nat) : Int) = (b : Int) + 2 + 3 * (d.place % (C : Int)) := by rw [hc] <;> omega
    rw [← ha]
    rw [show d.acc b C who x = _ by unfold Hs.acc; simp only [e]; exact rfl, hx]
    exact (refStore_in who (uw (d.place + 1)) r).mono fun e w' hh => ⟨hh.1, h.post k hh.2⟩
  · have hc : d.cell b C = b + 1 := by unfold Hs.cell; simp only [e]
    refine rph7 (x := x) (rb := rb) (P := RAc w Y rb rc lv s q (d.cell b C) (d.acc b C who x)) h.nd h.hb hC1 h.hC2 h.place e (h.put.2 (by omega)) (fun X k => ?_)
    have r := rd X k
    have ha : ((d.cell b C : Nat) : Int) = (b : Int) + 1 := by rw [hc] <;> omega
    rw [← ha]
    rw [show d.acc b C who x = _ by unfold Hs.acc; simp only [e]; exact rfl, hx]
    exact (refLoad_in who r).mono fun e w' hh => ⟨hh.1, h.post k hh.2⟩
  · have hc : d.cell b C = turnN b C d.place := by unfold Hs.cell; simp only [e]
    refine rph8 (x := x) (rb := rb) (P := RAc w Y rb rc lv s q (d.cell b C) (d.acc b C who x)) h.nd h.hb hC1 h.hC2 h.place e (h.put.2 (by omega)) (fun X k => ?_)
    have r := rd X k
    have ha : ((d.cell b C : Nat) : Int) = (b : Int) + 2 + 3 * (d.place % (C : Int)) := by rw [hc] <;> omega
    rw [← ha]
    rw [show d.acc b C who x = _ by unfold Hs.acc; simp only [e]; exact rfl, hx]
    exact (refLoad_in who r).mono fun e w' hh => ⟨hh.1, h.post k hh.2⟩
  · have hc : d.cell b C = b + 1 := by unfold Hs.cell; simp only [e]
    refine rph9 (x := x) (rb := rb) (P := RAc w Y rb rc lv s q (d.cell b C) (d.acc b C who x)) (bb := decide (x = d.place)) rfl h.nd h.hb hC1 h.hC2 h.place e (h.put.2 (by omega)) (fun X k => ?_)
    have r := rd X k
    have ha : ((d.cell b C : Nat) : Int) = (b : Int) + 1 := by rw [hc] <;> omega
    rw [← ha]
    rw [show d.acc b C who x = _ by unfold Hs.acc; simp only [e]; exact rfl, hx]
    exact (refCas_in who d.place (uw (d.place + 1)) r).mono fun e w' hh => ⟨hh.1, h.post k hh.2⟩
  · have hc : d.cell b C = turnN b C d.place + 1 := by unfold Hs.cell; simp only [e]
    refine rph10 (x := x) (rb := rb) (P := RAc w Y rb rc lv s q (d.cell b C) (d.acc b C who x)) h.nd h.hb hC1 h.hC2 h.place e (h.put.2 (by omega)) (fun X k => ?_)
    have r := rd X k
    have ha : ((d.cell b C : Nat) : Int) = (b : Int) + 2 + 3 * (d.place % (C : Int)) + 1 := by rw [hc] <;> omega
    rw [← ha]
    rw [show d.acc b C who x = _ by unfold Hs.acc; simp only [e]; exact rfl, hx]
    exact (refLoad_in who r).mono fun e w' hh => ⟨hh.1, h.post k hh.2⟩
  · have hc : d.cell b C = turnN b C d.place + 2 := by unfold Hs.cell; simp only [e]
    refine rph11 (x := x) (rb := rb) (P := RAc w Y rb rc lv s q (d.cell b C) (d.acc b C who x)) h.nd h.hb hC1 h.hC2 h.place e (h.put.2 (by omega)) (fun X k => ?_)
    have r := rd X k
    have ha : ((d.cell b C : Nat) : Int) = (b : Int) + 2 + 3 * (d.place % (C : Int)) + 2 := by rw [hc] <;> omega
    rw [← ha]
    rw [show d.acc b C who x = _ by unfold Hs.acc; simp only [e]; exact rfl, hx]
    exact (refLoad_in who r).mono fun e w' hh => ⟨hh.1, h.post k hh.2⟩
  · have hc : d.cell b C = turnN b C d.place := by unfold Hs.cell; simp only [e]
    refine rph12 (x := x) (rb := rb) (P := RAc w Y rb rc lv s q (d.cell b C) (d.acc b C who x)) h.nd h.hb hC1 h.hC2 h.place e (h.put.2 (by omega)) (fun X k => ?_)
    have r := rd X k
    have ha : ((d.cell b C : Nat) : Int) = (b : Int) + 2 + 3 * (d.place % (C : Int)) := by rw [hc] <;> omega
    rw [← ha]
    rw [show d.acc b C who x = _ by unfold Hs.acc; simp only [e]; exact rfl, hx]
    exact (refStore_in who (uw (d.place + C)) r).mono fun e w' hh => ⟨hh.1, h.post k hh.2⟩
theorem rstep_zero (h : RRdy w Y rb rc lv s q b C d v) (hs : s.stopped = true) :
    Calls Tryz.prog 47 #[.pointer (some ⟨q, 0, none⟩), .pointer (some ⟨rb, 0, none⟩), .int .i64 who] w fun e w' => e = .returned (.tuple #[]) ∧ StR (Chg (fun k => k = q) w) q b C d (d.nz C) v w' := by
  have hC1 := h.hC1
  have hp := h.ph
  have hp0 := h.ph0
  have RZ : ∀ {X w2 : World}, Chg (fun k => k = q) w X → Below X.heap.size X w2 → Chg (fun k => k = q) w w2 ∧ w2.heap[q]? = X.heap[q]? := fun {X w2} hc hb => ⟨hc.trans (Chg.of_below hb), hb.block _ (Nat.lt_of_lt_of_le (lt_of_heap h.nd) hc.size)⟩
  rcases (show d.ph = 1 ∨ d.ph = 2 ∨ d.ph = 3 ∨ d.ph = 4 ∨ d.ph = 5 ∨ d.ph = 6 ∨ d.ph = 7 ∨ d.ph = 8 ∨ d.ph = 9 ∨ d.ph = 10 ∨ d.ph = 11 ∨ d.ph = 12 by omega) with e | e | e | e | e | e | e | e | e | e | e | e
  · rw [show d.nz C = d.next C (0) by unfold Hs.nz Hs.zx; rw [if_neg (by omega)]]
    exact rph1 (rb := rb) (P := Chg (fun k => k = q) w) h.nd h.hb hC1 h.hC2 h.place e (h.put.1 (by omega) (by omega)) (fun X k => (refLoad_stop who _ (h.ris k) hs).mono fun e w' hh => ⟨hh.1, RZ k hh.2⟩)
  · rw [show d.nz C = d.next C (0) by unfold Hs.nz Hs.zx; rw [if_neg (by omega)]]
    exact rph2 (rb := rb) (P := Chg (fun k => k = q) w) h.nd h.hb hC1 h.hC2 h.place e (h.put.1 (by omega) (by omega)) (fun X k => (refLoad_stop who _ (h.ris k) hs).mono fun e w' hh => ⟨hh.1, RZ k hh.2⟩)
  · rw [show d.nz C = d.next C (d.place + 1) by unfold Hs.nz Hs.zx; rw [if_pos (by omega)]]
    exact rph3 (rb := rb) (P := Chg (fun k => k = q) w) (bb := false) (by symm; exact decide_eq_false (by omega)) h.nd h.hb hC1 h.hC2 h.place e (h.put.1 (by omega) (by omega)) (fun X k => (refCas_stop who _ _ _ (h.ris k) hs).mono fun e w' hh => ⟨hh.1, RZ k hh.2⟩)
  · rw [show d.nz C = d.next C (0) by unfold Hs.nz Hs.zx; rw [if_neg (by omega)]]
    exact rph4 (rb := rb) (P := Chg (fun k => k = q) w) h.nd h.hb hC1 h.hC2 h.place e (h.put.1 (by omega) (by omega)) (fun X k => (refStore_stop who _ _ (h.ris k) hs).mono fun e w' hh => ⟨hh.1, RZ k hh.2⟩)
  · rw [show d.nz C = d.next C (0) by unfold Hs.nz Hs.zx; rw [if_neg (by omega)]]
    exact rph5 (rb := rb) (P := Chg (fun k => k = q) w) h.nd h.hb hC1 h.hC2 h.place e (h.put.1 (by omega) (by omega)) (fun X k => (refStore_stop who _ _ (h.ris k) hs).mono fun e w' hh => ⟨hh.1, RZ k hh.2⟩)
  · rw [show d.nz C = d.next C (0) by unfold Hs.nz Hs.zx; rw [if_neg (by omega)]]
    exact rph6 (rb := rb) (P := Chg (fun k => k = q) w) h.nd h.hb hC1 h.hC2 h.place e (h.put.1 (by omega) (by omega)) (fun X k => (refStore_stop who _ _ (h.ris k) hs).mono fun e w' hh => ⟨hh.1, RZ k hh.2⟩)
  · rw [show d.nz C = d.next C (0) by unfold Hs.nz Hs.zx; rw [if_neg (by omega)]]
    exact rph7 (rb := rb) (P := Chg (fun k => k = q) w) h.nd h.hb hC1 h.hC2 h.place e (h.put.2 (by omega)) (fun X k => (refLoad_stop who _ (h.ris k) hs).mono fun e w' hh => ⟨hh.1, RZ k hh.2⟩)
  · rw [show d.nz C = d.next C (0) by unfold Hs.nz Hs.zx; rw [if_neg (by omega)]]
    exact rph8 (rb := rb) (P := Chg (fun k => k = q) w) h.nd h.hb hC1 h.hC2 h.place e (h.put.2 (by omega)) (fun X k => (refLoad_stop who _ (h.ris k) hs).mono fun e w' hh => ⟨hh.1, RZ k hh.2⟩)
  · rw [show d.nz C = d.next C (d.place + 1) by unfold Hs.nz Hs.zx; rw [if_pos (by omega)]]
    exact rph9 (rb := rb) (P := Chg (fun k => k = q) w) (bb := false) (by symm; exact decide_eq_false (by omega)) h.nd h.hb hC1 h.hC2 h.place e (h.put.2 (by omega)) (fun X k => (refCas_stop who _ _ _ (h.ris k) hs).mono fun e w' hh => ⟨hh.1, RZ k hh.2⟩)
  · rw [show d.nz C = d.next C (0) by unfold Hs.nz Hs.zx; rw [if_neg (by omega)]]
    exact rph10 (rb := rb) (P := Chg (fun k => k = q) w) h.nd h.hb hC1 h.hC2 h.place e (h.put.2 (by omega)) (fun X k => (refLoad_stop who _ (h.ris k) hs).mono fun e w' hh => ⟨hh.1, RZ k hh.2⟩)
  · rw [show d.nz C = d.next C (0) by unfold Hs.nz Hs.zx; rw [if_neg (by omega)]]
    exact rph11 (rb := rb) (P := Chg (fun k => k = q) w) h.nd h.hb hC1 h.hC2 h.place e (h.put.2 (by omega)) (fun X k => (refLoad_stop who _ (h.ris k) hs).mono fun e w' hh => ⟨hh.1, RZ k hh.2⟩)
  · rw [show d.nz C = d.next C (0) by unfold Hs.nz Hs.zx; rw [if_neg (by omega)]]
    exact rph12 (rb := rb) (P := Chg (fun k => k = q) w) h.nd h.hb hC1 h.hC2 h.place e (h.put.2 (by omega)) (fun X k => (refStore_stop who _ _ (h.ris k) hs).mono fun e w' hh => ⟨hh.1, RZ k hh.2⟩)
end
end Go.Proofs.YtgjdjdgondpjeaaGreat

/- Both sides of a table in one memory. -/
namespace Go.Proofs.YtgjdjdgondpjeaaGreat
open Go.RowKit Go.Lib Go.MuLone
set_option linter.unusedVariables false
set_option linter.unusedSimpArgs false
set_option maxRecDepth 100000 in
theorem granted_any (p Y b gc : Nat) (lv : Value) (s : Ast) (who : Int) (g : Bool) (w : World) (h : AIs w Y b gc lv s) (hp : w.heap[p]? = some (PObj b who g)) (hpb : p ≠ b) :
    Calls Tryz.prog 49 #[.pointer (some ⟨p, 0, none⟩)] w fun r w' => r = .returned (.bool g) ∧ AIs w' Y b gc lv s ∧ Chg (fun k => k = b) w w' ∧ w'.heap.size = w.heap.size := by
  have c0 : w.cell? ⟨b, 0, none⟩ = some (.int .i32 0) := cell_of h.hb rfl
  have d0 : w.cell? ⟨p, 0, none⟩ = some (.pointer (some ⟨b, 0, none⟩)) := cell_of hp rfl
  have d2 : w.cell? ⟨p, 2, none⟩ = some (.bool g) := cell_of hp rfl
  have f0 := free_of h.hb 0
  have H := hide h
  have hpb' : ¬ b = p := fun e => hpb e.symm
  have HL := hide (leads_any p b who g w hp)
  clear h hp
  go_enter_defers Tryz.func49, Tryz.ntmps49
  go_wp2_with fail
  refine HL.out.mono ?_
  rintro e w' ⟨rfl, rfl⟩
  go_wp2_with (go_at_call 51; refine (lock_free Tryz.muLib ⟨b, 0, none⟩ _ c0 f0).mono ?_; rintro e w' ⟨rfl, rfl⟩)
  refine leaves_cons (f := 52) (args := #[.pointer (some ⟨b, 0, none⟩)]) (by simp) (by simp [go_sem]) ?_
  refine (unlock_deferred Tryz.muLib ⟨b, 0, none⟩ .returning _ ?_ ?_).mono ?_
  · exact World.cell?_setCell_same w' ⟨b, 0, none⟩ (.int .i32 1) c0
  · simp [f0]
  rintro e u' w'' ⟨rfl, rfl, rfl⟩
  refine ⟨_, results_tmp rfl _ _ _, rfl, ?_⟩
  have k : Chg (fun k => k = b) w' ((w'.setCell ⟨b, 0, none⟩ (.int .i32 1)).setCell ⟨b, 0, none⟩ (.int .i32 0)) := ((Chg.refl (fun k => k = b) _).put b 0 _ rfl).put b 0 _ rfl
  exact ⟨H.out.relock (heap_set (heap_set H.out.hb _) _) k (fun e => H.out.ne e.symm) (fun i hi => (H.out.own_ne hi).1), k, by simp [World.setCell]⟩

/-- The blocks of the program's side. -/
def PF (ab gc : Nat) (qs ps : Nat → Nat) (n : Nat) (lv : Value) (j : Nat) : Prop := j = ab ∨ j = gc ∨ lv.ownBlock = some j ∨ ∃ i, i < n ∧ (j = qs i ∨ j = ps i)
/-- The blocks of the document's side. -/
def RF (rb rc : Nat) (rs : Nat → Nat) (n : Nat) (lv : Value) (j : Nat) : Prop := j = rb ∨ j = rc ∨ lv.ownBlock = some j ∨ ∃ i, i < n ∧ j = rs i
def LVF (w : World) (lv lv' : Value) : Prop := lv'.ownBlock = lv.ownBlock ∨ ∃ g, lv'.ownBlock = some g ∧ w.heap.size ≤ g
section
variable {w wr wr' : World} {X ab gc Y Z n K : Nat} {tb : Array Value} {lv vP vH : Value} {s : Ast} {qs ps : Nat → Nat} {vs : Nat → Value} {gs : Nat → Bool} {ds : Nat → Hs} {bs Cs : Nat → Nat}
theorem rmx_go (h : RM w wr X ab gc Y Z n tb lv s vP vH qs ps vs gs ds bs Cs K) {i : Nat} (hi : i < n) (hg : gs i = true) (h0 : (ds i).ph ≠ 0) (hst : s.stopped = false) (hK : K ≤ 1099511627776) :
    Calls Tryz.prog 46 #[.pointer (some ⟨qs i, 0, none⟩), .pointer (some ⟨ps i, 0, none⟩)] wr fun e w' => e = .returned (.tuple #[]) ∧ ∃ lv' v', RM w w' X ab gc Y Z n tb lv' (stS s i (bs i) (Cs i) (ds i)) vP vH qs ps (upd vs i v') (upd gs i false) (upd ds i (stD s (bs i) (Cs i) (ds i))) bs Cs (K + 1) ∧ VF wr.heap.size vs (upd vs i v') ∧ Chg (PF ab gc qs ps n lv) wr w' ∧ LVF wr lv lv' := by
  have hwi := h.hw i hi
  have hp := h.po i hi
  rw [hg] at hp
  obtain ⟨hn, hs⟩ := h.hd i hi
  have R : HRdy wr Y ab gc (ps i) lv s i (qs i) (bs i) (Cs i) (ds i) (vs i) := ⟨h.ar, hp, fun e => by
      obtain ⟨_, cs, h3⟩ := h.lvt e; exact ne_ty hp h3 (by decide) rfl, hn, fun e => by
      obtain ⟨_, cs, h3⟩ := h.lvt e; exact ne_ty hn h3 (by decide) rfl, hst, hwi.2.2.2, by rw [h.cnt]; omega, by rw [h.cnt]; have := h.lk; omega, by have := h.lk; omega, hwi.2.1, hwi.2.2.1, hwi.1.place, h0, hwi.1.ph⟩
  refine (step_go R).mono ?_
  unfold stS stD
  rw [if_neg h0, if_neg h0]
  rintro e w' ⟨rfl, lv', v', a1, a2, a3, a4, a5, c⟩
  have hcl : (ds i).cell (bs i) (Cs i) < s.cells.length := Nat.lt_of_lt_of_le ((ds i).cell_lt _ _ hwi.2.1) hwi.2.2.2
  have hx := h.wd _ hcl
  generalize hxx : nth s.cells ((ds i).cell (bs i) (Cs i)) = x at a1 a4 a5 hx
  have hty : ∀ j, (accSet ab gc (ps i) lv j ∨ j = qs i) → w.heap.size ≤ j ∧ ∃ cs t, wr.heap[j]? = some (.cells cs t (0, 0)) ∧ pT t := fun j hj => by
    rcases hj with (e | e | e | e) | e
    · subst e; exact ⟨h.zl.2.1, _, _, h.ar.hb, .inl rfl⟩
    · subst e; exact ⟨h.zl.2.2, _, _, h.ar.hc, .inr (.inl rfl)⟩
    · subst e; exact ⟨Nat.le_trans h.zl.1 (h.lo i hi).2, _, _, hp, by simp [pT]⟩
    · obtain ⟨hy, cs, ht⟩ := h.lvt e
      exact ⟨hy, _, _, ht, by simp [pT]⟩
    · subst e; exact ⟨Nat.le_trans h.zl.1 (h.lo i hi).1, _, _, hn, by simp [pT]⟩
  obtain ⟨h1, h2, h3, h4, h5, h6, h7⟩ := h.parts c (fun j hj => ⟨(hty j hj).1, fun _ => by
    obtain ⟨_, cs, t, q, ho⟩ := hty j hj
    refine ⟨cs, t, q, ?_, ?_, ?_, ?_⟩ <;> (rintro rfl; simp [pT] at ho)⟩)
  have nS : ∀ {j : Nat} {cs : Array Value} {ty : TypeId}, wr.heap[j]? = some (.cells cs ty (0, 0)) → (ty = 126 ∧ j ≠ qs i ∨ ty = 134 ∧ j ≠ ps i) → ¬ (accSet ab gc (ps i) lv j ∨ j = qs i) := fun {j cs ty} hj ht hS => by
    rcases hS with (e | e | e | e) | e
    · exact ne_ty hj h.ar.hb (by rcases ht with ⟨q, _⟩ | ⟨q, _⟩ <;> rw [q] <;> decide) e
    · exact ne_ty hj h.ar.hc (by rcases ht with ⟨q, _⟩ | ⟨q, _⟩ <;> rw [q] <;> decide) e
    · rcases ht with ⟨q, _⟩ | ⟨_, q⟩
      · exact ne_ty hj hp (by rw [q]; decide) e
      · exact q e
    · obtain ⟨_, cs', h3⟩ := h.lvt e
      exact ne_ty hj h3 (by rcases ht with ⟨q, _⟩ | ⟨q, _⟩ <;> rw [q] <;> decide) rfl
    · rcases ht with ⟨_, q⟩ | ⟨q, _⟩
      · exact q e
      · exact ne_ty hj hn (by rw [q]; decide) e
  have hzw : Z ≤ wr.heap.size := by have := lt_of_heap hn; have := (h.lo i hi).1; omega
  refine ⟨rfl, lv', v', ⟨h1, h.zl, h2, h.tc, a1, h3, h4, fun j hj => ?_, fun j hj => ?_, h.inj, h.lo, fun j hj => ?_, ?_, h.kp, ?_, ?_, h.n64⟩, VF.one a5, c.mono (fun j hj => ?_), a2⟩
  · by_cases e : j = i
    · subst e
      rw [upd_same, upd_same]
      refine ⟨a4, ?_⟩
      rcases a5 with ⟨rfl, hv⟩ | hv
      · rw [hv]; exact h5 j hj
      · exact own_lower hv hzw
    · rw [upd_other _ _ e, upd_other _ _ e]; exact ⟨h6 j hj (nS (h.hd j hj).1 (.inl ⟨rfl, (h.pne hi hj e).1⟩)), h5 j hj⟩
  · by_cases e : j = i
    · subst e; rw [upd_same]; exact a3
    · rw [upd_other _ _ e]; exact h7 j hj (nS (h.po j hj) (.inr ⟨rfl, (h.pne hi hj e).2⟩))
  · obtain ⟨b1, b2, b3, b4⟩ := h.hw j hj
    refine ⟨?_, b2, b3, by show _ ≤ (s.cells.set _ _).length; rw [List.length_set]; exact b4⟩
    by_cases e : j = i
    · subst e; rw [upd_same]; exact b1.next _ hx
    · rw [upd_other _ _ e]; exact b1
  · refine wd_set hcl h.wd ?_
    rw [Hs.acc_left]
    exact hwi.1.left _ hx
  · show s.count + 1 = ((if s.keep then s.log ++ [_] else s.log).length : Int)
    rw [h.kp, h.cnt]; simp
  · show (if s.keep then s.log ++ [_] else s.log).length ≤ K + 1
    rw [h.kp]; simp; exact h.lk
  · rcases hj with (e | e | e | e) | e
    · exact .inl e
    · exact .inr (.inl e)
    · exact .inr (.inr (.inr ⟨i, hi, .inr e⟩))
    · exact .inr (.inr (.inl e))
    · exact .inr (.inr (.inr ⟨i, hi, .inl e⟩))

theorem RM.stp {t : Ast} (h : Stp s t) : t.cells.length = s.cells.length ∧ (∀ i, nth t.cells i = nth s.cells i) := ⟨by rw [h.cells], fun i => by rw [h.cells]⟩
/-- A step whose access is not made. -/
theorem rmx_zero (h : RM w wr X ab gc Y Z n tb lv s vP vH qs ps vs gs ds bs Cs K) {i : Nat} (hi : i < n) (h0 : (ds i).ph ≠ 0) (hno : s.stopped = true ∨ s.stopped = false ∧ gs i = false) :
    Calls Tryz.prog 46 #[.pointer (some ⟨qs i, 0, none⟩), .pointer (some ⟨ps i, 0, none⟩)] wr fun e w' => e = .returned (.tuple #[]) ∧ ∃ t v', Stp s t ∧ RM w w' X ab gc Y Z n tb lv t vP vH qs ps (upd vs i v') gs (upd ds i ((ds i).nz (Cs i))) bs Cs K ∧ VF wr.heap.size vs (upd vs i v') ∧ Chg (PF ab gc qs ps n lv) wr w' ∧ LVF wr lv lv := by
  have hwi := h.hw i hi
  have hp := h.po i hi
  obtain ⟨hn, hs⟩ := h.hd i hi
  have hl := h.ar.len
  have R : HZ wr Y ab gc (ps i) lv s i (qs i) (bs i) (Cs i) (ds i) (vs i) (gs i) := ⟨h.ar, hp, hn, hno, by omega, hwi.2.1, hwi.2.2.1, hwi.1.place, h0, hwi.1.ph⟩
  refine (step_zero R).mono ?_
  rintro e w' ⟨rfl, w2, v', ⟨t, ht, ha, c1⟩, hq, ho, c2⟩
  have c : Chg (fun j => j = ab ∨ j = qs i) wr w' := (c1.mono fun k hk => .inl hk).trans (c2.mono fun k hk => .inr hk)
  have hty : ∀ j, (j = ab ∨ j = qs i) → w.heap.size ≤ j ∧ ∃ cs ty, wr.heap[j]? = some (.cells cs ty (0, 0)) ∧ (ty = 116 ∨ ty = 126) := fun j hj => by
    rcases hj with e | e
    · subst e; exact ⟨h.zl.2.1, _, _, h.ar.hb, .inl rfl⟩
    · subst e; exact ⟨Nat.le_trans h.zl.1 (h.lo i hi).1, _, _, hn, .inr rfl⟩
  obtain ⟨h1, h2, h3, h4, h5, h6, h7⟩ := h.parts c (fun j hj => ⟨(hty j hj).1, fun _ => by
    obtain ⟨_, cs, ty, q, hh⟩ := hty j hj
    refine ⟨cs, ty, q, ?_, ?_, ?_, ?_⟩ <;> (rintro rfl; simp at hh)⟩)
  have hzw : Z ≤ wr.heap.size := by have := lt_of_heap hn; have := (h.lo i hi).1; omega
  have hsz := c1.size
  have eS := RM.stp ht
  have arl : AIs w' Y ab gc lv t := ha.kept c2 (fun e => ne_ty hn h.ar.hb (by decide) e.symm) (fun e => ne_ty hn h.ar.hc (by decide) e.symm) (fun g hg e => by
    obtain ⟨_, cs, h3⟩ := h.lvt hg
    exact ne_ty hn h3 (by decide) e.symm)
  have hv2 : v' = vs i ∧ ((ds i).nz (Cs i)).out = (ds i).out ∨ TOwn w' wr.heap.size v' ((ds i).nz (Cs i)).out := ho.imp id (fun q => own_lower q hsz)
  refine ⟨rfl, t, v', ht, ⟨h1, h.zl, h2, h.tc, arl, h3, h4, fun j hj => ?_, fun j hj => ?_, h.inj, h.lo, fun j hj => ?_, fun k hk => ?_, by rw [ht.keep]; exact h.kp, by rw [ht.count, ht.log]; exact h.cnt, by rw [ht.log]; exact h.lk, h.n64⟩, VF.one hv2, c.mono (fun j hj => ?_), .inl rfl⟩
  · by_cases e : j = i
    · subst e
      rw [upd_same, upd_same]
      refine ⟨hq, ?_⟩
      rcases ho with ⟨rfl, hv⟩ | hv
      · rw [hv]; exact h5 j hj
      · exact own_lower hv (Nat.le_trans hzw hsz)
    · rw [upd_other _ _ e, upd_other _ _ e]
      exact ⟨h6 j hj (fun q => by
        rcases q with q | q
        · exact ne_ty (h.hd j hj).1 h.ar.hb (by decide) q
        · exact (h.pne hi hj e).1 q), h5 j hj⟩
  · exact h7 j hj (fun q => by
      rcases q with q | q
      · exact ne_ty (h.po j hj) h.ar.hb (by decide) q
      · exact ne_ty (h.po j hj) hn (by decide) q)
  · obtain ⟨b1, b2, b3, b4⟩ := h.hw j hj
    refine ⟨?_, b2, b3, by rw [eS.1]; exact b4⟩
    by_cases e : j = i
    · subst e; rw [upd_same]; exact b1.nz _
    · rw [upd_other _ _ e]; exact b1
  · rw [eS.2]; exact h.wd k (by rw [← eS.1]; exact hk)
  · rcases hj with e | e
    · exact .inl e
    · exact .inr (.inr (.inr ⟨i, hi, .inl e⟩))
theorem rmx_insert (h : RM w wr X ab gc Y Z n tb lv s vP vH qs ps vs gs ds bs Cs K) {i : Nat} (hi : i < n) (x y : Int) (hx : W64 x) (hy : W64 y) :
    Calls Tryz.prog 41 #[.pointer (some ⟨qs i, 0, none⟩), .agg #[.int .u64 x, .int .u64 y]] wr fun e w' => e = .returned (.int .i64 (if (ds i).ph ≠ 0 then 61 else if x = Nev then 51 else 0)) ∧ ∃ vs', RM w w' X ab gc Y Z n tb lv s vP vH qs ps vs' gs (upd ds i (if (ds i).ph = 0 ∧ x ≠ Nev then (ds i).ins (x, y) else ds i)) bs Cs K ∧ VF wr.heap.size vs vs' ∧ Chg (PF ab gc qs ps n lv) wr w' := by
  have cm : ∀ {w'}, Chg (fun k => k = qs i) wr w' → Chg (PF ab gc qs ps n lv) wr w' := fun c => c.mono fun j hj => .inr (.inr (.inr ⟨i, hi, .inl hj⟩))
  refine (insert_any x y (h.hd i hi).1 (h.ok hi)).mono ?_
  rintro e w' ⟨⟨h0, h1, rfl, hq⟩ | ⟨h0, rfl, hq⟩ | ⟨h0, h1, rfl, hq⟩, c⟩
  · rw [if_neg (by simpa using h0), if_neg h1, if_pos ⟨h0, h1⟩]
    have hv := Or.inr (a := (Value.slice none 0 0) = vs i ∧ ((ds i).ins (x, y)).out = (ds i).out) (TOwn.nil w' wr.heap.size)
    obtain ⟨m1, m2⟩ := h.one hi hq c hv ((h.hw i hi).1.ins hx hy)
    exact ⟨rfl, _, m1, VF.one hv, cm c⟩
  · rw [if_pos h0, if_neg (fun z => h0 z.1)]
    obtain ⟨m1, m2⟩ := h.one hi hq c (.inl ⟨rfl, rfl⟩) (h.hw i hi).1
    exact ⟨rfl, _, m1, by rw [upd_id]; exact VF.refl _ _, cm c⟩
  · rw [if_neg (by simpa using h0), if_pos h1, if_neg (fun z => z.2 h1)]
    obtain ⟨m1, m2⟩ := h.one hi hq c (.inl ⟨rfl, rfl⟩) (h.hw i hi).1
    exact ⟨rfl, _, m1, by rw [upd_id]; exact VF.refl _ _, cm c⟩
theorem rmx_take (h : RM w wr X ab gc Y Z n tb lv s vP vH qs ps vs gs ds bs Cs K) {i : Nat} (hi : i < n) :
    Calls Tryz.prog 43 #[.pointer (some ⟨qs i, 0, none⟩)] wr fun e w' => e = .returned (.int .i64 (if (ds i).ph ≠ 0 then 61 else 0)) ∧ ∃ vs', RM w w' X ab gc Y Z n tb lv s vP vH qs ps vs' gs (upd ds i (if (ds i).ph = 0 then (ds i).tak else ds i)) bs Cs K ∧ VF wr.heap.size vs vs' ∧ Chg (PF ab gc qs ps n lv) wr w' := by
  have cm : ∀ {w'}, Chg (fun k => k = qs i) wr w' → Chg (PF ab gc qs ps n lv) wr w' := fun c => c.mono fun j hj => .inr (.inr (.inr ⟨i, hi, .inl hj⟩))
  refine (take_any (h.hd i hi).1 (h.ok hi)).mono ?_
  rintro e w' ⟨⟨h0, rfl, hq⟩ | ⟨h0, rfl, hq⟩, c⟩
  · rw [if_neg (by simpa using h0), if_pos h0]
    have hv := Or.inr (a := (Value.slice none 0 0) = vs i ∧ ((ds i).tak).out = (ds i).out) (TOwn.nil w' wr.heap.size)
    obtain ⟨m1, m2⟩ := h.one hi hq c hv ((h.hw i hi).1.tak)
    exact ⟨rfl, _, m1, VF.one hv, cm c⟩
  · rw [if_pos h0, if_neg h0]
    obtain ⟨m1, m2⟩ := h.one hi hq c (.inl ⟨rfl, rfl⟩) (h.hw i hi).1
    exact ⟨rfl, _, m1, by rw [upd_id]; exact VF.refl _ _, cm c⟩
theorem rmx_look (h : RM w wr X ab gc Y Z n tb lv s vP vH qs ps vs gs ds bs Cs K) (ha : AIs wr' Y ab gc lv s) (c : Chg (fun j => j = ab) wr wr') : RM w wr' X ab gc Y Z n tb lv s vP vH qs ps vs gs ds bs Cs K ∧ Chg (PF ab gc qs ps n lv) wr wr' := ⟨(h.look ha c).1, c.mono fun j hj => .inl hj⟩
theorem rmx_image (h : RM w wr X ab gc Y Z n tb lv s vP vH qs ps vs gs ds bs Cs K) : Calls Tryz.prog 15 #[.pointer (some ⟨ab, 0, none⟩)] wr fun r w' => ∃ v', r = .returned v' ∧ w'.ownsRow wr.heap.size 40 1 v' s.cells.length (s.cells.map (Value.int .u64)) ∧ RM w w' X ab gc Y Z n tb lv s vP vH qs ps vs gs ds bs Cs K ∧ Chg (PF ab gc qs ps n lv) wr w' := by
  refine (image_any Y ab gc lv s wr h.ar).mono ?_
  rintro r w' ⟨v', hr, ho, ha', k⟩
  exact ⟨v', hr, ho, rmx_look h ha' k⟩
theorem rmx_log (h : RM w wr X ab gc Y Z n tb lv s vP vH qs ps vs gs ds bs Cs K) (hK : K ≤ 1099511627776) : Calls Tryz.prog 14 #[.pointer (some ⟨ab, 0, none⟩)] wr fun r w' => ∃ v', r = .returned v' ∧ w'.ownsRow wr.heap.size 55 8 v' s.log.length (logCells s.log) ∧ RM w w' X ab gc Y Z n tb lv s vP vH qs ps vs gs ds bs Cs K ∧ Chg (PF ab gc qs ps n lv) wr w' := by
  refine (log_any Y ab gc lv s wr h.ar (by have := h.lk; omega)).mono ?_
  rintro r w' ⟨v', hr, ho, ha', k⟩
  exact ⟨v', hr, ho, rmx_look h ha' k⟩
theorem rmx_count (h : RM w wr X ab gc Y Z n tb lv s vP vH qs ps vs gs ds bs Cs K) : Calls Tryz.prog 48 #[.pointer (some ⟨ab, 0, none⟩)] wr fun r w' => r = .returned (.int .i64 s.count) ∧ RM w w' X ab gc Y Z n tb lv s vP vH qs ps vs gs ds bs Cs K ∧ Chg (PF ab gc qs ps n lv) wr w' := by
  refine (count_any Y ab gc lv s wr h.ar).mono ?_
  rintro r w' ⟨hr, ha', k, _⟩
  exact ⟨hr, rmx_look h ha' k⟩
theorem rmx_granted (h : RM w wr X ab gc Y Z n tb lv s vP vH qs ps vs gs ds bs Cs K) {i : Nat} (hi : i < n) : Calls Tryz.prog 49 #[.pointer (some ⟨ps i, 0, none⟩)] wr fun r w' => r = .returned (.bool (gs i)) ∧ RM w w' X ab gc Y Z n tb lv s vP vH qs ps vs gs ds bs Cs K ∧ Chg (PF ab gc qs ps n lv) wr w' := by
  refine (granted_any (ps i) Y ab gc lv s i (gs i) wr h.ar (h.po i hi) (ne_ty (h.po i hi) h.ar.hb (by decide))).mono ?_
  rintro r w' ⟨hr, ha', k, _⟩
  exact ⟨hr, rmx_look h ha' k⟩
theorem rmx_grant (h : RM w wr X ab gc Y Z n tb lv s vP vH qs ps vs gs ds bs Cs K) {i : Nat} (hi : i < n) : Calls Tryz.prog 45 #[.pointer (some ⟨ps i, 0, none⟩)] wr fun r w' => r = .returned (.tuple #[]) ∧ RM w w' X ab gc Y Z n tb lv s vP vH qs ps vs (upd gs i true) ds bs Cs K ∧ Chg (PF ab gc qs ps n lv) wr w' := by
  have hp := h.po i hi
  refine (grant_any (ps i) Y ab gc lv s i (gs i) wr h.ar hp (ne_ty hp h.ar.hb (by decide)) (ne_ty hp h.ar.hc (by decide)) (fun e => by
    obtain ⟨_, cs, h3⟩ := h.lvt e
    exact ne_ty hp h3 (by decide) rfl)).mono ?_
  rintro e w' ⟨rfl, ha, hpo, c, _⟩
  have hS : ∀ j, (j = ab ∨ j = ps i) → w.heap.size ≤ j ∧ (j < wr.heap.size → ∃ cs t, wr.heap[j]? = some (.cells cs t (0, 0)) ∧ t ≠ 37 ∧ t ≠ 84 ∧ t ≠ 63 ∧ (t = 42 → ∀ i, i < n → (vs i).ownBlock ≠ some j)) := fun j hj => by
    rcases hj with rfl | rfl
    · exact ⟨h.zl.2.1, fun _ => ⟨_, _, h.ar.hb, by decide, by decide, by decide, fun e => absurd e (by decide)⟩⟩
    · exact ⟨Nat.le_trans h.zl.1 (h.lo i hi).2, fun _ => ⟨_, _, hp, by decide, by decide, by decide, fun e => absurd e (by decide)⟩⟩
  obtain ⟨h1, h2, h3, h4, h5, h6, h7⟩ := h.parts c hS
  have no : ∀ {j : Nat} {cs : Array Value} {ty : TypeId}, wr.heap[j]? = some (.cells cs ty (0, 0)) → ty ≠ 116 → ty ≠ 134 → ¬ (j = ab ∨ j = ps i) := fun hj e1 e2 e => by
    rcases e with e | e
    · exact ne_ty hj h.ar.hb e1 e
    · exact ne_ty hj hp e2 e
  refine ⟨rfl, ⟨h1, h.zl, h2, h.tc, ha, h3, h4, fun j hj => ⟨h6 j hj (no (h.hd j hj).1 (by decide) (by decide)), h5 j hj⟩, fun j hj => ?_, h.inj, h.lo, h.hw, h.wd, h.kp, h.cnt, h.lk, h.n64⟩, c.mono (fun j hj => by rcases hj with e | e; exact .inl e; exact .inr (.inr (.inr ⟨i, hi, .inr e⟩)))⟩
  by_cases e : j = i
  · subst e; rw [upd_same]; exact hpo
  · rw [upd_other _ _ e]
    exact h7 j hj (fun q => by
      rcases q with q | q
      · exact ne_ty (h.po j hj) h.ar.hb (by decide) q
      · exact (h.pne hi hj e).2 q)
end
end Go.Proofs.YtgjdjdgondpjeaaGreat

/- The document's side of a table in memory; both sides. -/
namespace Go.Proofs.YtgjdjdgondpjeaaGreat
open Go.RowKit Go.Lib Go.MuLone
set_option linter.unusedVariables false
set_option linter.unusedSimpArgs false
structure DS (w wr : World) (Y Z rb rc n : Nat) (lv : Value) (t : Ast) (vG : Value) (rs : Nat → Nat) (us : Nat → Value) (es : Nat → Hs) (b C K : Nat) : Prop where
  lo : w.heap.size ≤ rb ∧ w.heap.size ≤ rc ∧ w.heap.size ≤ Z
  ar : RIs wr Y rb rc lv t
  rg : wr.ownsRow Z 97 1 vG n (ptrs rs n)
  hd : ∀ j, j < n → wr.heap[rs j]? = some (RHObj b C (es j) (us j)) ∧ TOwn wr Z (us j) (es j).out
  inj : ∀ i j, i < j → j < n → rs i ≠ rs j
  lz : ∀ j, j < n → Z ≤ rs j
  hw : ∀ j, j < n → HW (es j) ∧ PutOk (es j)
  cb : 2 ≤ C ∧ C ≤ 65536 ∧ b + 2 + 3 * C ≤ t.cells.length
  cnt : t.count = t.log.length
  kp : t.keep = true
  lk : t.log.length ≤ K
section
variable {w wr wr' : World} {Y Z rb rc n b C K : Nat} {lv vG : Value} {t : Ast} {rs : Nat → Nat} {us : Nat → Value} {es : Nat → Hs}
theorem DS.pne (h : DS w wr Y Z rb rc n lv t vG rs us es b C K) {i j : Nat} (hi : i < n) (hj : j < n) (hij : j ≠ i) : rs j ≠ rs i := by
  rcases Nat.lt_or_gt_of_ne hij with e | e
  · exact h.inj j i e hi
  · exact fun q => h.inj i j e hj q.symm
theorem DS.lvt (h : DS w wr Y Z rb rc n lv t vG rs us es b C K) {g : Nat} (hg : lv.ownBlock = some g) : w.heap.size ≤ g ∧ ∃ cs, wr.heap[g]? = some (.cells cs 55 (0, 0)) := by
  obtain ⟨hy, cs, ht⟩ := own_tyz h.ar.hl hg
  exact ⟨by have := h.ar.gY; have := h.lo; omega, cs, ht⟩
/-- It stays where other blocks turn. -/
theorem DS.stay {S : Nat → Prop} (h : DS w wr Y Z rb rc n lv t vG rs us es b C K) (c : Chg S wr wr') (hS : ∀ j, S j → j < wr.heap.size → ∃ cs ty, wr.heap[j]? = some (.cells cs ty (0, 0)) ∧ ty ≠ 52 ∧ ty ≠ 137 ∧ ty ≠ 97 ∧ ty ≠ 42 ∧ (ty = 40 → j ≠ rc) ∧ (ty = 55 → lv.ownBlock ≠ some j)) : DS w wr' Y Z rb rc n lv t vG rs us es b C K := by
  have no : ∀ {j : Nat} {cs : Array Value} {ty : TypeId}, wr.heap[j]? = some (.cells cs ty (0, 0)) → (ty = 52 ∨ ty = 137 ∨ ty = 97 ∨ ty = 42 ∨ ty = 40 ∧ j = rc ∨ ty = 55 ∧ lv.ownBlock = some j) → ¬ S j := fun {j cs ty} hj h1 e => by
    obtain ⟨cs', t', h', a1, a2, a3, a4, a5, a6⟩ := hS j e (lt_of_heap hj)
    rw [ty_of hj h'] at a1 a2 a3 a4 a5 a6
    rcases h1 with q | q | q | q | ⟨q, q2⟩ | ⟨q, q2⟩
    · exact a1 q
    · exact a2 q
    · exact a3 q
    · exact a4 q
    · exact a5 q q2
    · exact a6 q q2
  refine ⟨h.lo, h.ar.kept c (no h.ar.hb (.inl rfl)) (no h.ar.hc (.inr (.inr (.inr (.inr (.inl ⟨rfl, rfl⟩)))))) (fun i hi => by
    obtain ⟨_, cs, h3⟩ := h.lvt hi
    exact no h3 (.inr (.inr (.inr (.inr (.inr ⟨rfl, hi⟩)))))), own_stayR h.rg (fun g hg => by
    obtain ⟨_, cs, h3⟩ := own_tyz h.rg hg
    exact c.block _ (lt_of_heap h3) (no h3 (.inr (.inr (.inl rfl))))), fun j hj => ⟨c.heap (h.hd j hj).1 (no (h.hd j hj).1 (.inr (.inl rfl))), own_stayR (h.hd j hj).2 (fun g hg => by
    obtain ⟨_, cs, h3⟩ := own_tyz (h.hd j hj).2 hg
    exact c.block _ (lt_of_heap h3) (no h3 (.inr (.inr (.inr (.inl rfl))))))⟩, h.inj, h.lz, h.hw, h.cb, h.cnt, h.kp, h.lk⟩
theorem DS.mono (h : DS w wr Y Z rb rc n lv t vG rs us es b C K) {K' : Nat} (hk : K ≤ K') : DS w wr Y Z rb rc n lv t vG rs us es b C K' :=
  ⟨h.lo, h.ar, h.rg, h.hd, h.inj, h.lz, h.hw, h.cb, h.cnt, h.kp, Nat.le_trans h.lk hk⟩
theorem DS.below (h : DS w wr Y Z rb rc n lv t vG rs us es b C K) (hb : Below wr.heap.size wr wr') : DS w wr' Y Z rb rc n lv t vG rs us es b C K :=
  h.stay (S := fun _ => False) (Chg.of_below hb) (fun j hj => hj.elim)
/-- One handle has turned (and the arena, or not). -/
theorem DS.put {S : Nat → Prop} {i : Nat} {d' : Hs} {v' lv' : Value} {t' : Ast} (h : DS w wr Y Z rb rc n lv t vG rs us es b C K) (hi : i < n) (c : Chg S wr wr') (hS : ∀ j, S j → RF rb rc rs n lv j ∧ ∀ k, k < n → k ≠ i → j ≠ rs k) (ha : RIs wr' Y rb rc lv' t') (hq : wr'.heap[rs i]? = some (RHObj b C d' v')) (hv : v' = us i ∧ d'.out = (es i).out ∨ TOwn wr' wr.heap.size v' d'.out) (hw : HW d' ∧ PutOk d') (hl : t'.cells.length = t.cells.length) (hc : t'.count = t'.log.length) (hk : t'.keep = true) {K' : Nat} (hK : t'.log.length ≤ K') :
    DS w wr' Y Z rb rc n lv' t' vG rs (upd us i v') (upd es i d') b C K' := by
  have hty : ∀ j, S j → ∃ cs ty, wr.heap[j]? = some (.cells cs ty (0, 0)) ∧ (ty = 52 ∨ ty = 40 ∨ ty = 55 ∨ ty = 137) := fun j hj => by
    rcases (hS j hj).1 with e | e | e | ⟨k, hk, e⟩
    · subst e; exact ⟨_, _, h.ar.hb, .inl rfl⟩
    · subst e; exact ⟨_, _, h.ar.hc, .inr (.inl rfl)⟩
    · obtain ⟨_, cs, h3⟩ := h.lvt e; exact ⟨_, _, h3, .inr (.inr (.inl rfl))⟩
    · subst e; exact ⟨_, _, (h.hd k hk).1, .inr (.inr (.inr rfl))⟩
  have no : ∀ {j : Nat} {cs : Array Value} {ty : TypeId}, wr.heap[j]? = some (.cells cs ty (0, 0)) → (ty = 97 ∨ ty = 42) → ¬ S j := fun {j cs ty} hj h1 e => by
    obtain ⟨cs', t', h', a⟩ := hty j e
    rw [ty_of hj h'] at a
    rcases h1 with q | q <;> (rw [q] at a; simp at a)
  have hzw : Z ≤ wr.heap.size := by have := lt_of_heap (h.hd i hi).1; have := h.lz i hi; omega
  have tow : ∀ j, j < n → TOwn wr' Z (us j) (es j).out := fun j hj => own_stayR (h.hd j hj).2 (fun g hg => by
    obtain ⟨_, cs, h3⟩ := own_tyz (h.hd j hj).2 hg
    exact c.block _ (lt_of_heap h3) (no h3 (.inr rfl)))
  refine ⟨h.lo, ha, own_stayR h.rg (fun g hg => by
    obtain ⟨_, cs, h3⟩ := own_tyz h.rg hg
    exact c.block _ (lt_of_heap h3) (no h3 (.inl rfl))), fun j hj => ?_, h.inj, h.lz, fun j hj => ?_, ⟨h.cb.1, h.cb.2.1, by rw [hl]; exact h.cb.2.2⟩, hc, hk, hK⟩
  · by_cases e : j = i
    · subst e
      rw [upd_same, upd_same]
      refine ⟨hq, ?_⟩
      rcases hv with ⟨rfl, q⟩ | q
      · rw [q]; exact tow j hj
      · exact own_lower q hzw
    · rw [upd_other _ _ e, upd_other _ _ e]
      exact ⟨c.heap (h.hd j hj).1 (fun q => (hS _ q).2 j hj e rfl), tow j hj⟩
  · by_cases e : j = i
    · subst e; rw [upd_same]; exact hw
    · rw [upd_other _ _ e]; exact h.hw j hj
theorem HW.nx {d : Hs} (h : HW d) : d.ph ≤ 12 := h.ph
theorem rs_over (h : DS w wr Y Z rb rc n lv t vG rs us es b C K) {i : Nat} (hi : i < n) : Calls Tryz.prog 40 #[.pointer (some ⟨rs i, 0, none⟩)] wr fun e w' => e = .returned (.bool (decide ((es i).ph = 0))) ∧ w' = wr := rover_any (h.hd i hi).1 (h.hw i hi).1.ph
theorem rs_reply (h : DS w wr Y Z rb rc n lv t vG rs us es b C K) {i : Nat} (hi : i < n) : Calls Tryz.prog 39 #[.pointer (some ⟨rs i, 0, none⟩)] wr fun e w' => e = .returned (.agg #[.int .i64 (es i).st, us i]) ∧ Below wr.heap.size wr w' := by
  obtain ⟨h1, h2⟩ := h.hd i hi
  obtain ⟨ao, c, e⟩ := owns_shape h2
  rw [e] at h1 ⊢
  exact rreply_any h1
theorem rs_insert (h : DS w wr Y Z rb rc n lv t vG rs us es b C K) {i : Nat} (hi : i < n) (x y : Int) (hx : W64 x) (hy : W64 y) :
    Calls Tryz.prog 42 #[.pointer (some ⟨rs i, 0, none⟩), .agg #[.int .u64 x, .int .u64 y]] wr fun e w' => e = .returned (.int .i64 (if (es i).ph ≠ 0 then 61 else if x = Nev then 51 else 0)) ∧ ∃ us', DS w w' Y Z rb rc n lv t vG rs us' (upd es i (if (es i).ph = 0 ∧ x ≠ Nev then (es i).ins (x, y) else es i)) b C K ∧ Chg (RF rb rc rs n lv) wr w' := by
  have cm : ∀ {w'}, Chg (fun k => k = rs i) wr w' → Chg (RF rb rc rs n lv) wr w' := fun c => c.mono fun j hj => .inr (.inr (.inr ⟨i, hi, hj⟩))
  have hS : ∀ j, j = rs i → RF rb rc rs n lv j ∧ ∀ k, k < n → k ≠ i → j ≠ rs k := fun j hj => ⟨.inr (.inr (.inr ⟨i, hi, hj⟩)), fun k hk hki e => h.pne hi hk hki (by rw [← e, hj])⟩
  have ark : ∀ {w'}, Chg (fun k => k = rs i) wr w' → RIs w' Y rb rc lv t := fun c => h.ar.kept c (fun e => ne_ty (h.hd i hi).1 h.ar.hb (by decide) e.symm) (fun e => ne_ty (h.hd i hi).1 h.ar.hc (by decide) e.symm) (fun g hg e => by
    obtain ⟨_, cs, h3⟩ := h.lvt hg
    exact ne_ty (h.hd i hi).1 h3 (by decide) e.symm)
  refine (rinsert_any x y (h.hd i hi).1 (h.hw i hi).1.ph).mono ?_
  rintro e w' ⟨⟨h0, h1, rfl, hq⟩ | ⟨h0, rfl, hq⟩ | ⟨h0, h1, rfl, hq⟩, c⟩
  · rw [if_neg (by simpa using h0), if_neg h1, if_pos ⟨h0, h1⟩]
    exact ⟨rfl, _, h.put hi c hS (ark c) hq (.inr (TOwn.nil w' wr.heap.size)) ⟨(h.hw i hi).1.ins hx hy, PutOk.ins _ _⟩ rfl h.cnt h.kp h.lk, cm c⟩
  · rw [if_pos h0, if_neg (fun z => h0 z.1)]
    exact ⟨rfl, _, h.put hi c hS (ark c) hq (.inl ⟨rfl, rfl⟩) (h.hw i hi) rfl h.cnt h.kp h.lk, cm c⟩
  · rw [if_neg (by simpa using h0), if_pos h1, if_neg (fun z => z.2 h1)]
    exact ⟨rfl, _, h.put hi c hS (ark c) hq (.inl ⟨rfl, rfl⟩) (h.hw i hi) rfl h.cnt h.kp h.lk, cm c⟩
theorem rs_take (h : DS w wr Y Z rb rc n lv t vG rs us es b C K) {i : Nat} (hi : i < n) :
    Calls Tryz.prog 44 #[.pointer (some ⟨rs i, 0, none⟩)] wr fun e w' => e = .returned (.int .i64 (if (es i).ph ≠ 0 then 61 else 0)) ∧ ∃ us', DS w w' Y Z rb rc n lv t vG rs us' (upd es i (if (es i).ph = 0 then (es i).tak else es i)) b C K ∧ Chg (RF rb rc rs n lv) wr w' := by
  have cm : ∀ {w'}, Chg (fun k => k = rs i) wr w' → Chg (RF rb rc rs n lv) wr w' := fun c => c.mono fun j hj => .inr (.inr (.inr ⟨i, hi, hj⟩))
  have hS : ∀ j, j = rs i → RF rb rc rs n lv j ∧ ∀ k, k < n → k ≠ i → j ≠ rs k := fun j hj => ⟨.inr (.inr (.inr ⟨i, hi, hj⟩)), fun k hk hki e => h.pne hi hk hki (by rw [← e, hj])⟩
  have ark : ∀ {w'}, Chg (fun k => k = rs i) wr w' → RIs w' Y rb rc lv t := fun c => h.ar.kept c (fun e => ne_ty (h.hd i hi).1 h.ar.hb (by decide) e.symm) (fun e => ne_ty (h.hd i hi).1 h.ar.hc (by decide) e.symm) (fun g hg e => by
    obtain ⟨_, cs, h3⟩ := h.lvt hg
    exact ne_ty (h.hd i hi).1 h3 (by decide) e.symm)
  refine (rtake_any (h.hd i hi).1 (h.hw i hi).1.ph).mono ?_
  rintro e w' ⟨⟨h0, rfl, hq⟩ | ⟨h0, rfl, hq⟩, c⟩
  · rw [if_neg (by simpa using h0), if_pos h0]
    exact ⟨rfl, _, h.put hi c hS (ark c) hq (.inr (TOwn.nil w' wr.heap.size)) ⟨(h.hw i hi).1.tak, PutOk.tak _⟩ rfl h.cnt h.kp h.lk, cm c⟩
  · rw [if_pos h0, if_neg h0]
    exact ⟨rfl, _, h.put hi c hS (ark c) hq (.inl ⟨rfl, rfl⟩) (h.hw i hi) rfl h.cnt h.kp h.lk, cm c⟩
theorem DS.rdy (h : DS w wr Y Z rb rc n lv t vG rs us es b C K) {i : Nat} (hi : i < n) (h0 : (es i).ph ≠ 0) : RRdy wr Y rb rc lv t (rs i) b C (es i) (us i) :=
  ⟨h.ar, (h.hd i hi).1, by have := h.cb; have := h.ar.len; omega, h.cb.2.2, h.cb.1, h.cb.2.1, (h.hw i hi).1.place, h0, (h.hw i hi).1.ph, (h.hw i hi).2⟩
theorem rs_go (h : DS w wr Y Z rb rc n lv t vG rs us es b C K) {i : Nat} (hi : i < n) (h0 : (es i).ph ≠ 0) (hst : t.stopped = false) (hwd : ∀ k, k < t.cells.length → W64 (nth t.cells k)) (hK : K ≤ 1099511627776) (who : Int) :
    Calls Tryz.prog 47 #[.pointer (some ⟨rs i, 0, none⟩), .pointer (some ⟨rb, 0, none⟩), .int .i64 who] wr fun e w' => e = .returned (.tuple #[]) ∧ ∃ lv' us', DS w w' Y Z rb rc n lv' (t.made ((es i).cell b C) ((es i).acc b C who (nth t.cells ((es i).cell b C)))) vG rs us' (upd es i ((es i).next C (nth t.cells ((es i).cell b C)))) b C (K + 1) ∧ Chg (RF rb rc rs n lv) wr w' ∧ LVF wr lv lv' := by
  have hlk := h.lk
  have hcl : (es i).cell b C < t.cells.length := Nat.lt_of_lt_of_le ((es i).cell_lt _ _ h.cb.1) h.cb.2.2
  refine (rstep_go (h.rdy hi h0) hst (by rw [h.cnt]; omega) (by rw [h.cnt]; omega) (by omega)).mono ?_
  rintro e w' ⟨rfl, w2, v', ⟨lv', a1, a2, a3⟩, hq, hv, c2⟩
  have c : Chg (fun k => refSet rb rc lv k ∨ k = rs i) wr w' := a3.trans (c2.mono fun k hk => .inr hk)
  have hS : ∀ j, (refSet rb rc lv j ∨ j = rs i) → RF rb rc rs n lv j ∧ ∀ k, k < n → k ≠ i → j ≠ rs k := fun j hj => by
    rcases hj with (e | e | e) | e
    · exact ⟨.inl e, fun k hk _ q => ne_ty (h.hd k hk).1 h.ar.hb (by decide) (by rw [← q, e])⟩
    · exact ⟨.inr (.inl e), fun k hk _ q => ne_ty (h.hd k hk).1 h.ar.hc (by decide) (by rw [← q, e])⟩
    · obtain ⟨_, cs, h3⟩ := h.lvt e
      exact ⟨.inr (.inr (.inl e)), fun k hk _ q => ne_ty (h.hd k hk).1 h3 (by decide) q.symm⟩
    · exact ⟨.inr (.inr (.inr ⟨i, hi, e⟩)), fun k hk hki q => h.pne hi hk hki (by rw [← q, e])⟩
  have ar2 : RIs w' Y rb rc lv' (t.made ((es i).cell b C) ((es i).acc b C who (nth t.cells ((es i).cell b C)))) := a1.kept c2 (fun e => ne_ty (h.hd i hi).1 h.ar.hb (by decide) e.symm) (fun e => ne_ty (h.hd i hi).1 h.ar.hc (by decide) e.symm) (fun g hg e => by
    rcases a2 with q | ⟨g2, q, hl⟩
    · rw [q] at hg
      obtain ⟨_, cs, h3⟩ := h.lvt hg
      exact ne_ty (h.hd i hi).1 h3 (by decide) e.symm
    · rw [q] at hg; cases hg
      have := lt_of_heap (h.hd i hi).1
      omega)
  refine ⟨rfl, lv', _, h.put hi c hS ar2 hq (hv.imp id (fun q => own_lower q a3.size)) ⟨(h.hw i hi).1.next C (hwd _ hcl), (h.hw i hi).2.next C _ h0 (h.hw i hi).1.ph⟩ (by show (t.cells.set _ _).length = _; rw [List.length_set]) ?_ h.kp ?_, c.mono (fun j hj => (hS j hj).1), a2⟩
  · show t.count + 1 = ((if t.keep then t.log ++ [_] else t.log).length : Int)
    rw [h.kp, h.cnt]; simp
  · show (if t.keep then t.log ++ [_] else t.log).length ≤ K + 1
    rw [h.kp]; simp; exact h.lk
theorem rs_zero (h : DS w wr Y Z rb rc n lv t vG rs us es b C K) {i : Nat} (hi : i < n) (h0 : (es i).ph ≠ 0) (hst : t.stopped = true) (who : Int) :
    Calls Tryz.prog 47 #[.pointer (some ⟨rs i, 0, none⟩), .pointer (some ⟨rb, 0, none⟩), .int .i64 who] wr fun e w' => e = .returned (.tuple #[]) ∧ ∃ us', DS w w' Y Z rb rc n lv t vG rs us' (upd es i ((es i).nz C)) b C K ∧ Chg (RF rb rc rs n lv) wr w' ∧ LVF wr lv lv := by
  refine (rstep_zero (h.rdy hi h0) hst).mono ?_
  rintro e w' ⟨rfl, w2, v', c1, hq, hv, c2⟩
  have c : Chg (fun k => k = rs i) wr w' := c1.trans c2
  have hS : ∀ j, j = rs i → RF rb rc rs n lv j ∧ ∀ k, k < n → k ≠ i → j ≠ rs k := fun j hj => ⟨.inr (.inr (.inr ⟨i, hi, hj⟩)), fun k hk hki e => h.pne hi hk hki (by rw [← e, hj])⟩
  have ark : RIs w' Y rb rc lv t := h.ar.kept c (fun e => ne_ty (h.hd i hi).1 h.ar.hb (by decide) e.symm) (fun e => ne_ty (h.hd i hi).1 h.ar.hc (by decide) e.symm) (fun g hg e => by
    obtain ⟨_, cs, h3⟩ := h.lvt hg
    exact ne_ty (h.hd i hi).1 h3 (by decide) e.symm)
  exact ⟨rfl, _, h.put hi c hS ark hq (hv.imp id (fun q => own_lower q c1.size)) ⟨(h.hw i hi).1.nz C, (h.hw i hi).2.next C _ h0 (h.hw i hi).1.ph⟩ rfl h.cnt h.kp h.lk, c.mono (fun j hj => (hS j hj).1), .inl rfl⟩
set_option maxRecDepth 100000 in
theorem rs_idle (h : DS w wr Y Z rb rc n lv t vG rs us es b C K) {i : Nat} (hi : i < n) (h0 : (es i).ph = 0) (who : Int) :
    Calls Tryz.prog 47 #[.pointer (some ⟨rs i, 0, none⟩), .pointer (some ⟨rb, 0, none⟩), .int .i64 who] wr fun e w' => e = .returned (.tuple #[]) ∧ w' = wr := by
  have hq := (h.hd i hi).1
  unfold RHObj at hq
  rw [show (es i).nx = 0 by unfold Hs.nx; rw [h0]; rfl] at hq
  have c0 : wr.cell? ⟨rs i, 0, none⟩ = some (.int .i64 b) := cell_of hq rfl
  have c2 : wr.cell? ⟨rs i, 2, none⟩ = some (.int .i64 0) := cell_of hq rfl
  obtain ⟨pt, hpt⟩ : ∃ p, p = (es i).put := ⟨_, rfl⟩
  have c3 : wr.cell? ⟨rs i, 3, none⟩ = some (.bool pt) := by rw [hpt]; exact cell_of hq rfl
  have hb : b ≤ 16777216 := by have := h.cb; have := h.ar.len; omega
  clear hq h hpt h0 hi
  cases pt with
  | true =>
    go_enter Tryz.func47, Tryz.ntmps47
    go_wp2_with fail
    first | go_end0 | refine bodyPost_ret (results_none rfl _ _ _) rfl ?_
    exact ⟨rfl, rfl⟩
  | false =>
    go_enter Tryz.func47, Tryz.ntmps47
    go_wp2_with fail
    first | go_end0 | refine bodyPost_ret (results_none rfl _ _ _) rfl ?_
    exact ⟨rfl, rfl⟩
end
/-- A program's table stays where other blocks turn. -/
theorem RM.stay {S : Nat → Prop} {w wr wr' : World} {X ab gc Y Z n K : Nat} {tb : Array Value} {lv vP vH : Value} {s : Ast} {qs ps : Nat → Nat} {vs : Nat → Value} {gs : Nat → Bool} {ds : Nat → Hs} {bs Cs : Nat → Nat} (h : RM w wr X ab gc Y Z n tb lv s vP vH qs ps vs gs ds bs Cs K) (c : Chg S wr wr') (hS : ∀ j, S j → w.heap.size ≤ j ∧ (j < wr.heap.size → ∃ cs ty, wr.heap[j]? = some (.cells cs ty (0, 0)) ∧ (ty = 52 ∨ ty = 137 ∨ ty = 40 ∧ j ≠ gc ∨ ty = 55 ∧ lv.ownBlock ≠ some j))) : RM w wr' X ab gc Y Z n tb lv s vP vH qs ps vs gs ds bs Cs K := by
  have no : ∀ {j : Nat} {cs : Array Value} {ty : TypeId}, wr.heap[j]? = some (.cells cs ty (0, 0)) → (ty = 116 ∨ ty = 126 ∨ ty = 134 ∨ ty = 40 ∧ j = gc ∨ ty = 55 ∧ lv.ownBlock = some j) → ¬ S j := fun {j cs ty} hj h1 e => by
    obtain ⟨cs', t', h', a⟩ := (hS j e).2 (lt_of_heap hj)
    rw [ty_of hj h'] at a
    rcases h1 with q | q | q | ⟨q, q2⟩ | ⟨q, q2⟩ <;> subst q <;> simp at a
    · exact a q2
    · exact a q2
  obtain ⟨h1, h2, h3, h4, h5, h6, h7⟩ := h.parts c (fun j hj => ⟨(hS j hj).1, fun hl => by
    obtain ⟨cs, t, q, a⟩ := (hS j hj).2 hl
    refine ⟨cs, t, q, ?_, ?_, ?_, ?_⟩ <;> (rintro rfl; simp at a)⟩)
  exact ⟨h1, h.zl, h2, h.tc, h.ar.kept c (no h.ar.hb (.inl rfl)) (no h.ar.hc (.inr (.inr (.inr (.inl ⟨rfl, rfl⟩))))) (fun i hi => by
    obtain ⟨_, cs, h3⟩ := h.lvt hi; exact no h3 (.inr (.inr (.inr (.inr ⟨rfl, hi⟩))))), h3, h4, fun j hj => ⟨h6 j hj (no (h.hd j hj).1 (.inr (.inl rfl))), h5 j hj⟩, fun j hj => h7 j hj (no (h.po j hj) (.inr (.inr (.inl rfl)))), h.inj, h.lo, h.hw, h.wd, h.kp, h.cnt, h.lk, h.n64⟩
/-- Both sides. -/
structure PB (w wr : World) (X ab gc Y Z n : Nat) (tb : Array Value) (gP cP gH cH : Nat) (qs ps : Nat → Nat) (b C : Nat) (Y2 rb rc gG cG : Nat) (rs : Nat → Nat) (lv : Value) (s : Ast) (vs : Nat → Value) (gs : Nat → Bool) (ds : Nat → Hs) (K : Nat) (lu : Value) (t : Ast) (us : Nat → Value) (es : Nat → Hs) (J : Nat) : Prop where
  rm : RM w wr X ab gc Y Z n tb lv s (.slice (some ⟨gP, 0, none⟩) n cP) (.slice (some ⟨gH, 0, none⟩) n cH) qs ps vs gs ds (fun _ => b) (fun _ => C) K
  rr : DS w wr Y2 Z rb rc n lu t (.slice (some ⟨gG, 0, none⟩) n cG) rs us es b C J
  t0 : tb[0]? = some (.int .i64 (b : Int)) ∧ tb[1]? = some (.int .i64 (C : Int)) ∧ tb[5]? = some (.pointer (some ⟨rb, 0, none⟩)) ∧ tb[6]? = some (.slice (some ⟨gG, 0, none⟩) n cG)
  dj : rc ≠ gc ∧ ∀ g, lv.ownBlock = some g → lu.ownBlock ≠ some g
section
variable {w wr wr' : World} {X ab gc Y Z n : Nat} {tb : Array Value} {gP cP gH cH : Nat} {qs ps : Nat → Nat} {b C : Nat} {Y2 rb rc gG cG : Nat} {rs : Nat → Nat} {lv : Value} {s : Ast} {vs : Nat → Value} {gs : Nat → Bool} {ds : Nat → Hs} {K : Nat} {lu : Value} {t : Ast} {us : Nat → Value} {es : Nat → Hs} {J : Nat}
theorem PB.pr (h : PB w wr X ab gc Y Z n tb gP cP gH cH qs ps b C Y2 rb rc gG cG rs lv s vs gs ds K lu t us es J) {lv' : Value} {s' : Ast} {vs' : Nat → Value} {gs' : Nat → Bool} {ds' : Nat → Hs} {K' : Nat}
    (hm : RM w wr' X ab gc Y Z n tb lv' s' (.slice (some ⟨gP, 0, none⟩) n cP) (.slice (some ⟨gH, 0, none⟩) n cH) qs ps vs' gs' ds' (fun _ => b) (fun _ => C) K') (c : Chg (PF ab gc qs ps n lv) wr wr') (hl : LVF wr lv lv') :
    PB w wr' X ab gc Y Z n tb gP cP gH cH qs ps b C Y2 rb rc gG cG rs lv' s' vs' gs' ds' K' lu t us es J := by
  refine ⟨hm, h.rr.stay c (fun j hj hlt => ?_), h.t0, h.dj.1, fun g hg e => ?_⟩
  · rcases hj with e | e | e | ⟨i, hi, e | e⟩
    · subst e; exact ⟨_, _, h.rm.ar.hb, by decide, by decide, by decide, by decide, (fun q => absurd q (by decide)), (fun q => absurd q (by decide))⟩
    · subst e; exact ⟨_, _, h.rm.ar.hc, by decide, by decide, by decide, by decide, (fun _ q => h.dj.1 q.symm), (fun q => absurd q (by decide))⟩
    · obtain ⟨_, cs, h3⟩ := h.rm.lvt e
      exact ⟨_, _, h3, by decide, by decide, by decide, by decide, (fun q => absurd q (by decide)), (fun _ => h.dj.2 j e)⟩
    · subst e; exact ⟨_, _, (h.rm.hd i hi).1, by decide, by decide, by decide, by decide, (fun q => absurd q (by decide)), (fun q => absurd q (by decide))⟩
    · subst e; exact ⟨_, _, h.rm.po i hi, by decide, by decide, by decide, by decide, (fun q => absurd q (by decide)), (fun q => absurd q (by decide))⟩
  · rcases hl with q | ⟨g2, q, hg2⟩
    · exact h.dj.2 g (by rw [← q]; exact hg) e
    · rw [q] at hg; cases hg
      obtain ⟨_, cs, h3⟩ := h.rr.lvt e
      have := lt_of_heap h3
      omega
theorem PB.re (h : PB w wr X ab gc Y Z n tb gP cP gH cH qs ps b C Y2 rb rc gG cG rs lv s vs gs ds K lu t us es J) {lu' : Value} {t' : Ast} {us' : Nat → Value} {es' : Nat → Hs} {J' : Nat}
    (hr : DS w wr' Y2 Z rb rc n lu' t' (.slice (some ⟨gG, 0, none⟩) n cG) rs us' es' b C J') (c : Chg (RF rb rc rs n lu) wr wr') (hl : LVF wr lu lu') :
    PB w wr' X ab gc Y Z n tb gP cP gH cH qs ps b C Y2 rb rc gG cG rs lv s vs gs ds K lu' t' us' es' J' := by
  refine ⟨h.rm.stay c (fun j hj => ?_), hr, h.t0, h.dj.1, fun g hg e => ?_⟩
  · rcases hj with e | e | e | ⟨i, hi, e⟩
    · subst e; exact ⟨h.rr.lo.1, fun _ => ⟨_, _, h.rr.ar.hb, .inl rfl⟩⟩
    · subst e; exact ⟨h.rr.lo.2.1, fun _ => ⟨_, _, h.rr.ar.hc, .inr (.inr (.inl ⟨rfl, h.dj.1⟩))⟩⟩
    · obtain ⟨hw, cs, h3⟩ := h.rr.lvt e
      exact ⟨hw, fun _ => ⟨_, _, h3, .inr (.inr (.inr ⟨rfl, fun q => h.dj.2 j q e⟩))⟩⟩
    · subst e; exact ⟨Nat.le_trans h.rr.lo.2.2 (h.rr.lz i hi), fun _ => ⟨_, _, (h.rr.hd i hi).1, .inr (.inl rfl)⟩⟩
  · rcases hl with q | ⟨g2, q, hg2⟩
    · exact h.dj.2 g hg (by rw [← q]; exact e)
    · rw [q] at e; cases e
      obtain ⟨_, cs, h3⟩ := h.rm.lvt hg
      have := lt_of_heap h3
      omega
theorem PB.below (h : PB w wr X ab gc Y Z n tb gP cP gH cH qs ps b C Y2 rb rc gG cG rs lv s vs gs ds K lu t us es J) (hb : Below wr.heap.size wr wr') : PB w wr' X ab gc Y Z n tb gP cP gH cH qs ps b C Y2 rb rc gG cG rs lv s vs gs ds K lu t us es J :=
  ⟨h.rm.below hb, h.rr.below hb, h.t0, h.dj⟩
/-- The cells that the law reads. -/
theorem PB.cells (h : PB w wr X ab gc Y Z n tb gP cP gH cH qs ps b C Y2 rb rc gG cG rs lv s vs gs ds K lu t us es J) : wr.cell? ⟨X, 0, none⟩ = some (.int .i64 (b : Int)) ∧ wr.cell? ⟨X, 1, none⟩ = some (.int .i64 (C : Int)) ∧ wr.cell? ⟨X, 2, none⟩ = some (.pointer (some ⟨ab, 0, none⟩)) ∧ wr.cell? ⟨X, 3, none⟩ = some (.slice (some ⟨gP, 0, none⟩) n cP) ∧ wr.cell? ⟨X, 4, none⟩ = some (.slice (some ⟨gH, 0, none⟩) n cH) ∧ wr.cell? ⟨X, 5, none⟩ = some (.pointer (some ⟨rb, 0, none⟩)) ∧ wr.cell? ⟨X, 6, none⟩ = some (.slice (some ⟨gG, 0, none⟩) n cG) := by
  have hx := h.rm.x
  exact ⟨cell_of hx h.t0.1, cell_of hx h.t0.2.1, cell_of hx h.rm.tc.1, cell_of hx h.rm.tc.2.1, cell_of hx h.rm.tc.2.2, cell_of hx h.t0.2.2.1, cell_of hx h.t0.2.2.2⟩
theorem PB.at (h : PB w wr X ab gc Y Z n tb gP cP gH cH qs ps b C Y2 rb rc gG cG rs lv s vs gs ds K lu t us es J) {i : Nat} (hi : i < n) : wr.cell? ⟨gP, i, none⟩ = some (.pointer (some ⟨ps i, 0, none⟩)) ∧ wr.cell? ⟨gH, i, none⟩ = some (.pointer (some ⟨qs i, 0, none⟩)) ∧ wr.cell? ⟨gG, i, none⟩ = some (.pointer (some ⟨rs i, 0, none⟩)) :=
  ⟨own_at h.rm.rp (ptrs_get ps hi) hi, own_at h.rm.rh (ptrs_get qs hi) hi, own_at h.rr.rg (ptrs_get rs hi) hi⟩
end
end Go.Proofs.YtgjdjdgondpjeaaGreat

/- What a step of either side comes to. -/
namespace Go.Proofs.YtgjdjdgondpjeaaGreat
open Go.RowKit Go.Lib
set_option linter.unusedVariables false
set_option linter.unusedSimpArgs false
def goB (st g : Bool) (d : Hs) : Bool := decide (d.ph ≠ 0) && (!st && g)
def stpD (cs : List Int) (st g : Bool) (b C : Nat) (d : Hs) : Hs := if d.ph = 0 then d else if st = false ∧ g = true then d.next C (nth cs (d.cell b C)) else d.nz C
def stpC (cs : List Int) (st g : Bool) (b C : Nat) (who : Int) (d : Hs) : List Int := if goB st g d then cs.set (d.cell b C) (d.acc b C who (nth cs (d.cell b C))).left else cs
def stpL (cs : List Int) (lg : List Acc) (st g : Bool) (b C : Nat) (who : Int) (d : Hs) : List Acc := if goB st g d then lg ++ [d.acc b C who (nth cs (d.cell b C))] else lg
def stpT (st g : Bool) (d : Hs) : Bool := if d.ph ≠ 0 ∧ g = false then true else st
section
variable {w wr wr' : World} {X ab gc Y Z n : Nat} {tb : Array Value} {gP cP gH cH : Nat} {qs ps : Nat → Nat} {b C : Nat} {Y2 rb rc gG cG : Nat} {rs : Nat → Nat} {lv : Value} {s : Ast} {vs : Nat → Value} {gs : Nat → Bool} {ds : Nat → Hs} {K : Nat} {lu : Value} {t : Ast} {us : Nat → Value} {es : Nat → Hs} {J : Nat}
/-- Blocks of other types stay where the program's side turns. -/
theorem PB.ext (h : PB w wr X ab gc Y Z n tb gP cP gH cH qs ps b C Y2 rb rc gG cG rs lv s vs gs ds K lu t us es J) (c : Chg (PF ab gc qs ps n lv) wr wr') {g : Nat} {cs : Array Value} {ty : TypeId} (hg : wr.heap[g]? = some (.cells cs ty (0, 0))) (ht : ty = 44 ∨ ty = 23 ∨ ty = 71) : wr'.heap[g]? = some (.cells cs ty (0, 0)) :=
  c.heap hg (fun e => by
    have nt : ∀ {cs' : Array Value} {ty' : TypeId}, wr.heap[g]? = some (.cells cs' ty' (0, 0)) → ty' ≠ 44 → ty' ≠ 23 → ty' ≠ 71 → False := fun h2 a1 a2 a3 => by
      have := ty_of hg h2
      rcases ht with q | q | q
      · exact a1 (this.trans q)
      · exact a2 (this.trans q)
      · exact a3 (this.trans q)
    rcases e with e | e | e | ⟨i, hi, e | e⟩
    · subst e; exact nt h.rm.ar.hb (by decide) (by decide) (by decide)
    · subst e; exact nt h.rm.ar.hc (by decide) (by decide) (by decide)
    · obtain ⟨_, cs', h3⟩ := h.rm.lvt e; exact nt h3 (by decide) (by decide) (by decide)
    · subst e; exact nt (h.rm.hd i hi).1 (by decide) (by decide) (by decide)
    · subst e; exact nt (h.rm.po i hi) (by decide) (by decide) (by decide))
theorem PB.rext (h : PB w wr X ab gc Y Z n tb gP cP gH cH qs ps b C Y2 rb rc gG cG rs lv s vs gs ds K lu t us es J) (c : Chg (RF rb rc rs n lu) wr wr') {g : Nat} {cs : Array Value} {ty : TypeId} (hg : wr.heap[g]? = some (.cells cs ty (0, 0))) (ht : ty = 44 ∨ ty = 23 ∨ ty = 71) : wr'.heap[g]? = some (.cells cs ty (0, 0)) :=
  c.heap hg (fun e => by
    have nt : ∀ {cs' : Array Value} {ty' : TypeId}, wr.heap[g]? = some (.cells cs' ty' (0, 0)) → ty' ≠ 44 → ty' ≠ 23 → ty' ≠ 71 → False := fun h2 a1 a2 a3 => by
      have := ty_of hg h2
      rcases ht with q | q | q
      · exact a1 (this.trans q)
      · exact a2 (this.trans q)
      · exact a3 (this.trans q)
    rcases e with e | e | e | ⟨i, hi, e⟩
    · subst e; exact nt h.rr.ar.hb (by decide) (by decide) (by decide)
    · subst e; exact nt h.rr.ar.hc (by decide) (by decide) (by decide)
    · obtain ⟨_, cs', h3⟩ := h.rr.lvt e; exact nt h3 (by decide) (by decide) (by decide)
    · subst e; exact nt (h.rr.hd i hi).1 (by decide) (by decide) (by decide))
theorem PB.mono (h : PB w wr X ab gc Y Z n tb gP cP gH cH qs ps b C Y2 rb rc gG cG rs lv s vs gs ds K lu t us es J) {K' J' : Nat} (hk : K ≤ K') (hj : J ≤ J') : PB w wr X ab gc Y Z n tb gP cP gH cH qs ps b C Y2 rb rc gG cG rs lv s vs gs ds K' lu t us es J' := ⟨h.rm.mono hk, h.rr.mono hj, h.t0, h.dj⟩
/-- A step of the program's handle. -/
theorem pb_step (h : PB w wr X ab gc Y Z n tb gP cP gH cH qs ps b C Y2 rb rc gG cG rs lv s vs gs ds K lu t us es J) {i : Nat} (hi : i < n) {g : Bool} (hg : gs i = g) (hK : K ≤ 1099511627776) :
    Calls Tryz.prog 46 #[.pointer (some ⟨qs i, 0, none⟩), .pointer (some ⟨ps i, 0, none⟩)] wr fun e w' => e = .returned (.tuple #[]) ∧ ∃ lv' s' vs' gs', PB w w' X ab gc Y Z n tb gP cP gH cH qs ps b C Y2 rb rc gG cG rs lv' s' vs' gs' (upd ds i (stpD s.cells s.stopped g b C (ds i))) (K + 1) lu t us es J ∧
      (s'.cells = stpC s.cells s.stopped g b C i (ds i) ∧ s'.log = stpL s.cells s.log s.stopped g b C i (ds i) ∧ s'.stopped = stpT s.stopped g (ds i)) ∧ Chg (PF ab gc qs ps n lv) wr w' := by
  by_cases h0 : (ds i).ph = 0
  · refine (rm_idle h.rm hi h0 _).mono ?_
    rintro e w' ⟨rfl, rfl⟩
    have hgo : goB s.stopped g (ds i) = false := by unfold goB; simp [h0]
    refine ⟨rfl, lv, s, vs, gs, ?_, ⟨?_, ?_, ?_⟩, Chg.refl _ _⟩
    · rw [show stpD s.cells s.stopped g b C (ds i) = ds i from if_pos h0, upd_id]
      exact h.mono (Nat.le_succ K) (Nat.le_refl J)
    · unfold stpC; rw [hgo]; rfl
    · unfold stpL; rw [hgo]; rfl
    · unfold stpT; rw [if_neg (fun z => z.1 h0)]
  · by_cases hgo : s.stopped = false ∧ g = true
    · refine (rmx_go h.rm hi (by rw [hg]; exact hgo.2) h0 hgo.1 hK).mono ?_
      rintro e w' ⟨rfl, lv', v', hm, hvf, c, hl⟩
      have hb : goB s.stopped g (ds i) = true := by unfold goB; simp [h0, hgo.1, hgo.2]
      have hS : stS s i b C (ds i) = s.made ((ds i).cell b C) ((ds i).acc b C i (nth s.cells ((ds i).cell b C))) := by unfold stS; rw [if_neg h0]
      have hD : stD s b C (ds i) = stpD s.cells s.stopped g b C (ds i) := by unfold stD stpD; rw [if_neg h0, if_neg h0, if_pos hgo]
      refine ⟨rfl, lv', stS s i b C (ds i), upd vs i v', upd gs i false, ?_, ⟨?_, ?_, ?_⟩, c⟩
      · rw [← hD]
        exact h.pr hm c hl
      · rw [hS]; unfold stpC; rw [hb]; rfl
      · rw [hS]; unfold stpL; rw [hb]
        show (if s.keep then _ else _) = _
        rw [h.rm.kp]
      · rw [hS]; unfold stpT; rw [if_neg (fun z => by rw [hgo.2] at z; cases z.2)]; rfl
    · have hno : s.stopped = true ∨ s.stopped = false ∧ gs i = false := by
        cases hs : s.stopped with
        | true => exact .inl rfl
        | false =>
          right
          refine ⟨rfl, ?_⟩
          cases hgg : g with
          | true => exact absurd ⟨hs, hgg⟩ hgo
          | false => rw [hg, hgg]
      refine (rmx_zero h.rm hi h0 hno).mono ?_
      rintro e w' ⟨rfl, s', v', hst, hm, hvf, c, hl⟩
      have hb : goB s.stopped g (ds i) = false := by
        unfold goB
        rw [Bool.eq_false_iff]
        intro q
        simp only [Bool.and_eq_true, Bool.not_eq_true'] at q
        exact hgo ⟨q.2.1, q.2.2⟩
      refine ⟨rfl, lv, s', upd vs i v', gs, ?_, ⟨?_, ?_, ?_⟩, c⟩
      · rw [show stpD s.cells s.stopped g b C (ds i) = (ds i).nz C by unfold stpD; rw [if_neg h0, if_neg hgo]]
        exact (h.pr hm c hl).mono (Nat.le_succ K) (Nat.le_refl J)
      · rw [hst.cells]; unfold stpC; rw [hb]; rfl
      · rw [hst.log]; unfold stpL; rw [hb]; rfl
      · rw [hst.stop]; unfold stpT
        by_cases q : (ds i).ph ≠ 0 ∧ g = false
        · rw [if_pos q]
        · rw [if_neg q]
          cases hs : s.stopped with
          | true => rfl
          | false =>
            exfalso
            cases hgg : g with
            | true => exact hgo ⟨hs, hgg⟩
            | false => exact q ⟨h0, hgg⟩
/-- A step of the document's handle. -/
theorem pb_rstep (h : PB w wr X ab gc Y Z n tb gP cP gH cH qs ps b C Y2 rb rc gG cG rs lv s vs gs ds K lu t us es J) {i : Nat} (hi : i < n) (hwd : ∀ k, k < t.cells.length → W64 (nth t.cells k)) (hJ : J ≤ 1099511627776) :
    Calls Tryz.prog 47 #[.pointer (some ⟨rs i, 0, none⟩), .pointer (some ⟨rb, 0, none⟩), .int .i64 i] wr fun e w' => e = .returned (.tuple #[]) ∧ ∃ lu' t' us', PB w w' X ab gc Y Z n tb gP cP gH cH qs ps b C Y2 rb rc gG cG rs lv s vs gs ds K lu' t' us' (upd es i (stpD t.cells t.stopped true b C (es i))) (J + 1) ∧
      (t'.cells = stpC t.cells t.stopped true b C i (es i) ∧ t'.log = stpL t.cells t.log t.stopped true b C i (es i) ∧ t'.stopped = t.stopped) ∧ Chg (RF rb rc rs n lu) wr w' := by
  by_cases h0 : (es i).ph = 0
  · refine (rs_idle h.rr hi h0 i).mono ?_
    rintro e w' ⟨rfl, rfl⟩
    have hgo : goB t.stopped true (es i) = false := by unfold goB; simp [h0]
    refine ⟨rfl, lu, t, us, ?_, ⟨?_, ?_, rfl⟩, Chg.refl _ _⟩
    · rw [show stpD t.cells t.stopped true b C (es i) = es i from if_pos h0, upd_id]
      exact h.mono (Nat.le_refl K) (Nat.le_succ J)
    · unfold stpC; rw [hgo]; rfl
    · unfold stpL; rw [hgo]; rfl
  · cases hs : t.stopped with
    | false =>
      refine (rs_go h.rr hi h0 hs hwd hJ i).mono ?_
      rintro e w' ⟨rfl, lu', us', hr, c, hl⟩
      have hb : goB false true (es i) = true := by unfold goB; simp [h0]
      refine ⟨rfl, lu', t.made ((es i).cell b C) ((es i).acc b C i (nth t.cells ((es i).cell b C))), us', ?_, ⟨?_, ?_, ?_⟩, c⟩
      · rw [show stpD t.cells false true b C (es i) = (es i).next C (nth t.cells ((es i).cell b C)) by unfold stpD; rw [if_neg h0, if_pos ⟨rfl, rfl⟩]]
        exact h.re hr c hl
      · unfold stpC; rw [hb]; rfl
      · unfold stpL; rw [hb]
        show (if t.keep then _ else _) = _
        rw [h.rr.kp]
      · exact hs
    | true =>
      refine (rs_zero h.rr hi h0 hs i).mono ?_
      rintro e w' ⟨rfl, us', hr, c, hl⟩
      have hb : goB true true (es i) = false := by unfold goB; simp
      refine ⟨rfl, lu, t, us', ?_, ⟨?_, ?_, hs⟩, c⟩
      · rw [show stpD t.cells true true b C (es i) = (es i).nz C by unfold stpD; rw [if_neg h0, if_neg (by simp)]]
        exact (h.re hr c hl).mono (Nat.le_refl K) (Nat.le_succ J)
      · unfold stpC; rw [hb]; rfl
      · unfold stpL; rw [hb]; rfl
end
/-- Both sides at rest: alike. -/
def PQ (w wr : World) (X ab gc Y Z n : Nat) (tb : Array Value) (gP cP gH cH : Nat) (qs ps : Nat → Nat) (b C : Nat) (Y2 rb rc gG cG : Nat) (rs : Nat → Nat) (K : Nat) : Prop :=
  ∃ (lv : Value) (s : Ast) (vs : Nat → Value) (gs : Nat → Bool) (ds : Nat → Hs) (lu : Value) (t : Ast) (us : Nat → Value) (es : Nat → Hs), PB w wr X ab gc Y Z n tb gP cP gH cH qs ps b C Y2 rb rc gG cG rs lv s vs gs ds K lu t us es K ∧ (∀ i, i < n → ds i = es i) ∧ t.cells = s.cells ∧ t.log = s.log ∧ t.stopped = s.stopped
end Go.Proofs.YtgjdjdgondpjeaaGreat
