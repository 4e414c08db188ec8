/- live: one graph by hand: Build, Reach, Turn of it. -/
import Derived.Test.YtmagigmcbegmiaaGT2
namespace Go.Proofs.Ytmagigmcbegmiaa
open Go.RowKit Go.Lib
set_option linter.unusedVariables false
set_option linter.unusedSimpArgs false
def liveL : List Ed3 := [(2, 0, 1), (0, 2, 5), (2, 2, 0), (0, 1, 7)]
theorem live_takes : Takes 3 liveL := by
  refine ⟨by decide, by decide, ?_, ?_, ?_⟩ <;> (intro i hi; have : i < 4 := hi; match i, this with | 0, _ => decide | 1, _ => decide | 2, _ => decide | 3, _ => decide)
theorem four_is {l : List Int} {a b c d : Int} (h : l.length = 4) (h0 : at_ l 0 = a) (h1 : at_ l 1 = b) (h2 : at_ l 2 = c) (h3 : at_ l 3 = d) : l = [a, b, c, d] := by
  match l, h with
  | [x, y, z, t], _ =>
    simp [at_] at h0 h1 h2 h3
    rw [h0, h1, h2, h3]
theorem live_st {st : List Int} (h : Summed 3 4 (eFrom liveL) 3 st) : st = [0, 2, 2, 4] := by
  obtain ⟨h0, h1, _⟩ := h
  exact four_is h0 ((h1 0 (by omega)).trans (by decide)) ((h1 1 (by omega)).trans (by decide)) ((h1 2 (by omega)).trans (by decide)) ((h1 3 (by omega)).trans (by decide))
theorem live_tl {nx tl wt : List Int} (h : Laying 3 4 (eFrom liveL) (eTo liveL) (eWt liveL) 4 nx tl wt) : tl = [2, 1, 0, 2] ∧ wt = [5, 7, 1, 0] := by
  have t0 := h.tla 0 (by omega); have t1 := h.tla 1 (by omega); have t2 := h.tla 2 (by omega); have t3 := h.tla 3 (by omega)
  have u0 := h.wta 0 (by omega); have u1 := h.wta 1 (by omega); have u2 := h.wta 2 (by omega); have u3 := h.wta 3 (by omega)
  rw [show place (eFrom liveL) 4 0 = 2 by decide] at t0 u0
  rw [show place (eFrom liveL) 4 1 = 0 by decide] at t1 u1
  rw [show place (eFrom liveL) 4 2 = 3 by decide] at t2 u2
  rw [show place (eFrom liveL) 4 3 = 1 by decide] at t3 u3
  exact ⟨four_is h.tlen (t1.trans (by decide)) (t3.trans (by decide)) (t0.trans (by decide)) (t2.trans (by decide)), four_is h.wlen (u1.trans (by decide)) (u3.trans (by decide)) (u0.trans (by decide)) (u2.trans (by decide))⟩
theorem live_turn {nx tl wt : List Int} {W : Nat → Int} (h : Laying 3 4 (tov [2, 1, 0, 2]) (src [0, 2, 2, 4] 3) W 4 nx tl wt) : tl = [2, 0, 0, 2] := by
  have t0 := h.tla 0 (by omega); have t1 := h.tla 1 (by omega); have t2 := h.tla 2 (by omega); have t3 := h.tla 3 (by omega)
  rw [show place (tov [2, 1, 0, 2]) 4 0 = 2 by decide] at t0
  rw [show place (tov [2, 1, 0, 2]) 4 1 = 1 by decide] at t1
  rw [show place (tov [2, 1, 0, 2]) 4 2 = 0 by decide] at t2
  rw [show place (tov [2, 1, 0, 2]) 4 3 = 3 by decide] at t3
  exact four_is h.tlen (t2.trans (by decide)) (t1.trans (by decide)) (t0.trans (by decide)) (t3.trans (by decide))
theorem live_good : Good 3 [0, 2, 2, 4] [2, 1, 0, 2] [5, 7, 1, 0] := by
  have h : (chk 3 [0, 2, 2, 4] [2, 1, 0, 2] [5, 7, 1, 0]).1 = 0 := by decide
  obtain ⟨n, e, hg⟩ := chk_good h
  have : n = 3 := by omega
  subst this
  exact hg
theorem live_reach (u : Nat) (hu : u < 3) : Rch 3 [0, 2, 2, 4] [2, 1, 0, 2] [2] u := by
  have r2 : Rch 3 [0, 2, 2, 4] [2, 1, 0, 2] [2] 2 := .start 0 2 (by decide) (by decide)
  have r0 : Rch 3 [0, 2, 2, 4] [2, 1, 0, 2] [2] 0 := by
    have := Rch.edge (n := 3) (st := [0, 2, 2, 4]) (tl := [2, 1, 0, 2]) (fr := [2]) 2 (by decide) (by rw [show src [0, 2, 2, 4] 3 2 = 2 by decide]; exact r2)
    rwa [show tov [2, 1, 0, 2] 2 = 0 by decide] at this
  have r1 : Rch 3 [0, 2, 2, 4] [2, 1, 0, 2] [2] 1 := by
    have := Rch.edge (n := 3) (st := [0, 2, 2, 4]) (tl := [2, 1, 0, 2]) (fr := [2]) 1 (by decide) (by rw [show src [0, 2, 2, 4] 3 1 = 0 by decide]; exact r0)
    rwa [show tov [2, 1, 0, 2] 1 = 1 by decide] at this
  match u, hu with
  | 0, _ => exact r0
  | 1, _ => exact r1
  | 2, _ => exact r2
theorem live_build (v : Value) (W : World) (h : EAt W v liveL) :
    Calls Try.prog 30 #[.agg #[.int .i64 3, v]] W fun e w' => ∃ ao ca bo cb co cc, e = .returned (.tuple #[.agg #[.int .i64 3, .slice ao 4 ca, .slice bo 4 cb, .slice co 4 cc], .int .i64 0, .int .i64 0]) ∧ (∀ Z, Below w'.heap.size w' Z → GIs Z 3 (.slice ao 4 ca) (.slice bo 4 cb) (.slice co 4 cc) [0, 2, 2, 4] [2, 1, 0, 2] [5, 7, 1, 0]) ∧ Below W.heap.size W w' := by
  obtain ⟨ao, c, rfl, _⟩ := id h
  refine (build_good 3 ao c liveL W h live_takes).mono ?_
  rintro e w' ⟨va, vb, vc, st, tl, wt, nx, rfl, hgi, hsu, hla, hb⟩
  obtain rfl := live_st hsu
  obtain ⟨rfl, rfl⟩ := live_tl hla
  have hg : ∀ Z, Below w'.heap.size w' Z → GIs Z 3 va vb vc [0, 2, 2, 4] [2, 1, 0, 2] [5, 7, 1, 0] := fun Z hZ => hgi Z hZ.size (fun k _ hk => hZ.block k hk)
  have h0 := hg w' (Below.refl _ _)
  obtain ⟨ao, ca, rfl⟩ := h0.s.shape
  obtain ⟨bo, cb, rfl⟩ := h0.t.shape
  obtain ⟨co, cc, rfl⟩ := h0.u.shape
  exact ⟨ao, ca, bo, cb, co, cc, rfl, hg, hb⟩
theorem live_reaches (va vb vc fv : Value) (W : World) (hg : GIs W 3 va vb vc [0, 2, 2, 4] [2, 1, 0, 2] [5, 7, 1, 0]) (hf : RowAt .i64 W fv [2]) :
    Calls Try.prog 18 #[.agg #[.int .i64 3, va, vb, vc], fv] W fun e w' => ∃ R, e = .returned (.tuple #[.slice (some ⟨R, 0, none⟩) 3 3, .int .i64 0]) ∧ (w'.cell? ⟨R, 0, none⟩ = some (.bool true) ∧ w'.cell? ⟨R, 1, none⟩ = some (.bool true) ∧ w'.cell? ⟨R, 2, none⟩ = some (.bool true)) ∧ Below W.heap.size W w' := by
  refine (callsIn_wide.1 (reach_good 0 3 va vb vc _ _ _ fv [2] W hg live_good (by decide) hf (by decide) (fun i hi => ?_))).mono ?_
  · have hi0 : i = 0 := by have : i < 1 := hi; omega
    subst hi0
    decide
  · rintro e w' ⟨R, B, rfl, hB, hl, hr, hb⟩
    refine ⟨R, rfl, ⟨?_, ?_, ?_⟩, hb⟩
    · rw [hB.cell 0 (by omega), (hr 0 (by omega)).2 (live_reach 0 (by omega))]
    · rw [hB.cell 1 (by omega), (hr 1 (by omega)).2 (live_reach 1 (by omega))]
    · rw [hB.cell 2 (by omega), (hr 2 (by omega)).2 (live_reach 2 (by omega))]
theorem live_turns (va vb vc : Value) (W : World) (hg : GIs W 3 va vb vc [0, 2, 2, 4] [2, 1, 0, 2] [5, 7, 1, 0]) :
    Calls Try.prog 33 #[.agg #[.int .i64 3, va, vb, vc]] W fun e w' => ∃ ao la ca bo cb co lc cc, e = .returned (.tuple #[.agg #[.int .i64 3, .slice ao la ca, .slice bo 4 cb, .slice co lc cc], .int .i64 0]) ∧ RowAt .i64 w' (.slice bo 4 cb) [2, 0, 0, 2] ∧ Below W.heap.size W w' := by
  refine (turn_good 3 va vb vc _ _ _ W hg live_good (fun e => ?_)).mono ?_
  · match e with
    | 0 => decide
    | 1 => decide
    | 2 => decide
    | 3 => decide
    | e + 4 => simp [at_]
  · rintro e w' ⟨a, b, c, st, tl, wt, nx, rfl, hgi, hsu, hla, hb⟩
    obtain rfl := live_turn hla
    obtain ⟨ao, ca, rfl⟩ := hgi.s.shape
    obtain ⟨bo, cb, rfl⟩ := hgi.t.shape
    obtain ⟨co, cc, rfl⟩ := hgi.u.shape
    exact ⟨ao, _, ca, bo, cb, co, _, cc, rfl, hgi.t, hb⟩
theorem block_row (w : World) (cs : Array Value) (xs : List Int) (hc : cs = (xs.map (Value.int .i64)).toArray) (h63 : xs.length ≤ 100) {X : World} (hX : X.heap[w.heap.size]? = some (.cells cs 3 (0, 0))) : RowAt .i64 X (.slice (some ⟨w.heap.size, 0, none⟩) xs.length xs.length) xs := by
  subst hc
  have hA : Arr X w.heap.size xs := hX
  exact hA.row rfl (by omega)
theorem live_edges (w : World) : EAt (w.alloc (.cells #[.int .i64 2, .int .i64 0, .int .u64 1, .int .i64 0, .int .i64 2, .int .u64 5, .int .i64 2, .int .i64 2, .int .u64 0, .int .i64 0, .int .i64 1, .int .u64 7] 50)) (.slice (some ⟨w.heap.size, 0, none⟩) 4 4) liveL := by
  have hh := heap_new w (.cells #[.int .i64 2, .int .i64 0, .int .u64 1, .int .i64 0, .int .i64 2, .int .u64 5, .int .i64 2, .int .i64 2, .int .u64 0, .int .i64 0, .int .i64 1, .int .u64 7] 50)
  refine ⟨_, _, rfl, by decide, by decide, fun i hi => ⟨_, _, rfl, ?_⟩⟩
  have : i < 4 := hi
  match i, this with
  | 0, _ => exact ⟨cell_of hh rfl, cell_of hh rfl, cell_of hh rfl⟩
  | 1, _ => exact ⟨cell_of hh rfl, cell_of hh rfl, cell_of hh rfl⟩
  | 2, _ => exact ⟨cell_of hh rfl, cell_of hh rfl, cell_of hh rfl⟩
  | 3, _ => exact ⟨cell_of hh rfl, cell_of hh rfl, cell_of hh rfl⟩
end Go.Proofs.Ytmagigmcbegmiaa
