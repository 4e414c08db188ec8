/- kept: the lists are what they were, and the marks are there. -/
import Derived.Test.YtmagigmcbegmiaaRoom
import Derived.Test.YtmagigmcbegmiaaSame
namespace Go.Proofs.Ytmagigmcbegmiaa
open Go.RowKit Go.Lib
set_option linter.unusedVariables false

/-- A world that has grown, with what it has grown of. -/
structure GW (w0 : World) where
  world : World
  bel : Below w0.heap.size w0 world
theorem wp_region_gw {P : Program} {id : Nat} {Q : Exit → Act → World → Prop} {a : Act} {w : World} {l : List Oper} (hm : P.follows .mixedOrders = true) (hB : Region.lexB .any l.toArray = true)
    (h : wpQuiet P l.toArray (fun w' => ∃ x : GW w, w' = x.world) (fun a' => ∀ w', (∃ x : GW w, w' = x.world) → Q .normal a' w') l a) : (Code.region id l.toArray true).wp P Q a w :=
  wp_region_quiet (C := fun w' => ∃ x : GW w, w' = x.world) hm hB ⟨⟨w.drew, (Below.refl _ _).drew⟩, rfl⟩ (by simpa using h)
theorem gw_of {w8 : World} {x : GW w8} {f : FuncId} {args : Array Value} {v : Value} (h : Calls Try.prog f args x.world fun e w' => e = .returned v ∧ Below x.world.heap.size x.world w') :
    Calls Try.prog f args x.world fun e w'' => e = .returned v ∧ ∃ y : GW w8, w'' = y.world :=
  h.mono fun _ w' ⟨he, hb⟩ => ⟨he, ⟨w', x.bel.trans (hb.mono x.bel.size)⟩, rfl⟩

theorem row_end {k : IntKind} {w : World} {g c n : Nat} {ws : List Int} {m1 m2 : Int} (h : RowAt k w (.slice (some ⟨g, 0, none⟩) n c) (ws ++ [m1, m2])) :
    w.cell? ⟨g, ws.length, none⟩ = some (.int k m1) ∧ w.cell? ⟨g, ws.length + 1, none⟩ = some (.int k m2) ∧ ws.length + 2 ≤ c := by
  obtain ⟨ao, c', he, h1, _, _, h4⟩ := h
  simp only [Value.slice.injEq] at he
  obtain ⟨rfl, _, rfl⟩ := he
  have a := h4 _ rfl ws.length (by simp)
  have b := h4 _ rfl (ws.length + 1) (by simp)
  rw [Addr.add_lit] at a b
  have e1 : (ws ++ [m1, m2]).getD ws.length 0 = m1 := by simp [List.getD]
  have e2 : (ws ++ [m1, m2]).getD (ws.length + 1) 0 = m2 := by simp [List.getD]
  rw [e1, Nat.zero_add] at a
  rw [e2, Nat.zero_add] at b
  simp at h1
  exact ⟨a, b, h1⟩

set_option maxRecDepth 100000 in
set_option maxHeartbeats 4000000 in
theorem kept_any (R : Nat) (N : Int) (st to wt : List Int) (w : World) (hr : RoomIs w R N st to wt) (hst : st.length ≤ 17592186044416) (hto : to.length ≤ 17592186044416) (hwt : wt.length ≤ 17592186044416) :
    Calls Try.prog 17 #[.pointer (some ⟨R, 0, none⟩)] w fun e w' => e = .returned (.bool true) ∧ Below w.heap.size w w' := by
  obtain ⟨ao, ca, bo, cb, co, cc, g1, e1, g2, e2, g3, e3, hh, hg, r1, r2, r3⟩ := hr
  obtain ⟨p1, p2, p3⟩ := row_end r1
  obtain ⟨q1, q2, q3⟩ := row_end r2
  obtain ⟨t1, t2, t3⟩ := row_end r3
  have c4 := cell_of hh (i := 4) rfl; have c5 := cell_of hh (i := 5) rfl; have c6 := cell_of hh (i := 6) rfl
  have HH := hide hh
  have hRs : R < w.heap.size := lt_of_heap hh
  have HS := hide (fun (x : GW w) => sameG_any N _ _ _ _ _ _ st to wt x.world ⟨r1.front.below x.bel, r2.front.below x.bel, r3.front.below x.bel⟩ (hg.below x.bel) hwt)
  unfold gAgg at HS
  have x0 : ∀ x : GW w, x.world.cell? ⟨R, 0, none⟩ = some (.int .i64 N) := fun x => (below_cell x.bel hRs).trans (cell_of HH.out rfl)
  have x1 : ∀ x : GW w, x.world.cell? ⟨R, 1, none⟩ = some (.slice ao st.length ca) := fun x => (below_cell x.bel hRs).trans (cell_of HH.out rfl)
  have x2 : ∀ x : GW w, x.world.cell? ⟨R, 2, none⟩ = some (.slice bo to.length cb) := fun x => (below_cell x.bel hRs).trans (cell_of HH.out rfl)
  have x3 : ∀ x : GW w, x.world.cell? ⟨R, 3, none⟩ = some (.slice co wt.length cc) := fun x => (below_cell x.bel hRs).trans (cell_of HH.out rfl)
  have x7 : ∀ x : GW w, x.world.cell? ⟨R, 7, none⟩ = some (.int .i64 N) := fun x => (below_cell x.bel hRs).trans (cell_of HH.out rfl)
  have x8 : ∀ x : GW w, x.world.cell? ⟨R, 8, none⟩ = some (.slice (some ⟨g1, 0, none⟩) st.length e1) := fun x => (below_cell x.bel hRs).trans (cell_of HH.out rfl)
  have x9 : ∀ x : GW w, x.world.cell? ⟨R, 9, none⟩ = some (.slice (some ⟨g2, 0, none⟩) to.length e2) := fun x => (below_cell x.bel hRs).trans (cell_of HH.out rfl)
  have x10 : ∀ x : GW w, x.world.cell? ⟨R, 10, none⟩ = some (.slice (some ⟨g3, 0, none⟩) wt.length e3) := fun x => (below_cell x.bel hRs).trans (cell_of HH.out rfl)
  clear hh hg r1 r2 r3
  go_enter Try.func17, Try.ntmps17
  go_wp2_with fail
  refine wp_region_gw (by kernel_rfl) (by kernel_rfl) ?_
  repeat (go_big_quiet_step (first
    | (go_at_call 46; exact gw_of (HS.out _))
    | rfl))
  refine wpQuiet_nil ?_
  intro _ hw'
  obtain ⟨x, hw''⟩ := hw'
  subst hw''
  go_wp2
  go_ret
  exact ⟨rfl, x.bel⟩
end Go.Proofs.Ytmagigmcbegmiaa
