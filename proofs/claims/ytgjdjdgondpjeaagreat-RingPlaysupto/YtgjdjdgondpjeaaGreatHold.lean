/- An arena and one port of it, made since w0. -/
import Derived.Test.YtgjdjdgondpjeaaGreatMade
namespace Go.Proofs.YtgjdjdgondpjeaaGreat
open Go.RowKit Go.Lib Go.MuLone

structure Hold (w0 w : World) (Y b gc p : Nat) (s : Ast) (who : Int) (g : Bool) : Prop where
  ex : ∃ lv, AIs w Y b gc lv s ∧ lv.ownBlock ≠ some p
  po : w.heap[p]? = some (PObj b who g)
  pb : p ≠ b
  pg : p ≠ gc
  bel : Below w0.heap.size w0 w
  b0 : w0.heap.size ≤ b
  g0 : w0.heap.size ≤ gc
  p0 : w0.heap.size ≤ p
  y0 : w0.heap.size ≤ Y

variable {w0 w : World} {Y b gc p : Nat} {s : Ast} {who : Int} {g : Bool} {i : Nat}

/-- What turns the arena's own block alone (locked and freed) leaves all as it was. -/
theorem Hold.look (h : Hold w0 w Y b gc p s who g) {w' : World} {lv : Value} (ha : AIs w' Y b gc lv s) (hl : lv.ownBlock ≠ some p) (k : Chg (fun j => j = b) w w') : Hold w0 w' Y b gc p s who g :=
  ⟨⟨lv, ha, hl⟩, k.heap h.po h.pb, h.pb, h.pg, k.below h.bel (fun _ hj => hj ▸ h.b0) h.bel.size, h.b0, h.g0, h.p0, h.y0⟩
theorem Hold.news (h : Hold w0 w Y b gc p s who g) {w' : World} (k : Below w.heap.size w w') : Hold w0 w' Y b gc p s who g := by
  obtain ⟨lv, ha, hl⟩ := h.ex
  exact ⟨⟨lv, ha.below k, hl⟩, (k.block p (lt_of_heap h.po)).trans h.po, h.pb, h.pg, h.bel.trans (k.mono h.bel.size), h.b0, h.g0, h.p0, h.y0⟩
theorem Hold.ready (h : Hold w0 w Y b gc p s who true) (hs : s.stopped = false) (hi : i < s.cells.length) (c0 : 0 ≤ s.count) (c1 : s.count < 9223372036854775807) (hb : (s.log.length + 1) * 64 ≤ 140737488355328) :
    ∃ lv, Ready w Y b gc p lv s who i ∧ ∀ w' m, AccPost w w' Y b gc p lv s who i m → Hold w0 w' Y b gc p (s.made i m) who false := by
  obtain ⟨lv, ha, hl⟩ := h.ex
  refine ⟨lv, ⟨ha, h.po, h.pb, h.pg, hl, hs, hi, c0, c1, hb⟩, ?_⟩
  rintro w' m ⟨lv', ha', ho, hp', k⟩
  refine ⟨⟨lv', ha', ?_⟩, hp', h.pb, h.pg, k.below h.bel ?_ h.bel.size, h.b0, h.g0, h.p0, h.y0⟩
  · rcases ho with e | ⟨q, e, hq⟩
    · rw [e]; exact hl
    · rw [e]; intro e2; cases e2; have := lt_of_heap h.po; omega
  · intro j hj
    rcases hj with e | e | e | e
    · rw [e]; exact h.b0
    · rw [e]; exact h.g0
    · rw [e]; exact h.p0
    · have := (owns_lt ha.hl e).1; have := h.y0; omega

theorem hold_grant (h : Hold w0 w Y b gc p s who g) : Calls Tryz.prog 45 #[.pointer (some ⟨p, 0, none⟩)] w fun r w' => r = .returned (.tuple #[]) ∧ Hold w0 w' Y b gc p s who true := by
  obtain ⟨lv, ha, hl⟩ := h.ex
  refine (grant_any p Y b gc lv s who g w ha h.po h.pb h.pg hl).mono ?_
  rintro r w' ⟨hr, ha', hp', k, _⟩
  refine ⟨hr, ⟨lv, ha', hl⟩, hp', h.pb, h.pg, k.below h.bel (fun j hj => ?_) h.bel.size, h.b0, h.g0, h.p0, h.y0⟩
  rcases hj with e | e
  · rw [e]; exact h.b0
  · rw [e]; exact h.p0
theorem hold_count (h : Hold w0 w Y b gc p s who g) : Calls Tryz.prog 48 #[.pointer (some ⟨b, 0, none⟩)] w fun r w' => r = .returned (.int .i64 s.count) ∧ Hold w0 w' Y b gc p s who g ∧ Chg (fun j => j = b) w w' := by
  obtain ⟨lv, ha, hl⟩ := h.ex
  refine (count_any Y b gc lv s w ha).mono ?_
  rintro r w' ⟨hr, ha', k, _⟩
  exact ⟨hr, h.look ha' hl k, k⟩
theorem hold_log (h : Hold w0 w Y b gc p s who g) (hb : s.log.length * 64 ≤ 140737488355328) : Calls Tryz.prog 14 #[.pointer (some ⟨b, 0, none⟩)] w fun r w' => ∃ v', r = .returned v' ∧ w'.ownsRow w.heap.size 55 8 v' s.log.length (logCells s.log) ∧ Hold w0 w' Y b gc p s who g := by
  obtain ⟨lv, ha, hl⟩ := h.ex
  refine (log_any Y b gc lv s w ha hb).mono ?_
  rintro r w' ⟨v', hr, ho, ha', k⟩
  exact ⟨v', hr, ho, h.look ha' hl k⟩
theorem hold_load (h : Hold w0 w Y b gc p s who true) (hs : s.stopped = false) (hi : i < s.cells.length) (c0 : 0 ≤ s.count) (c1 : s.count < 9223372036854775807) (hb : (s.log.length + 1) * 64 ≤ 140737488355328) :
    Calls Tryz.prog 77 #[.pointer (some ⟨p, 0, none⟩), .int .i64 i] w fun r w' => r = .returned (.int .u64 (nth s.cells i)) ∧ Hold w0 w' Y b gc p (s.made i ⟨who, 1, i, 0, 0, nth s.cells i, nth s.cells i, true⟩) who false := by
  obtain ⟨lv, R, hn⟩ := h.ready hs hi c0 c1 hb
  refine (load_made R).mono ?_
  rintro r w' ⟨hr, hp⟩
  exact ⟨hr, hn _ _ hp⟩
theorem hold_cas (h : Hold w0 w Y b gc p s who true) (x y : Int) (hs : s.stopped = false) (hi : i < s.cells.length) (c0 : 0 ≤ s.count) (c1 : s.count < 9223372036854775807) (hb : (s.log.length + 1) * 64 ≤ 140737488355328) :
    Calls Tryz.prog 80 #[.pointer (some ⟨p, 0, none⟩), .int .i64 i, .int .u64 x, .int .u64 y] w fun r w' => r = .returned (.bool (decide (nth s.cells i = x))) ∧
      Hold w0 w' Y b gc p (s.made i ⟨who, 3, i, x, y, nth s.cells i, if nth s.cells i = x then y else nth s.cells i, decide (nth s.cells i = x)⟩) who false := by
  obtain ⟨lv, R, hn⟩ := h.ready hs hi c0 c1 hb
  refine (cas_made x y R).mono ?_
  rintro r w' ⟨hr, hp⟩
  exact ⟨hr, hn _ _ hp⟩

/-- A new arena and a port of it. -/
theorem hold_new (w0 w : World) {Y b gc : Nat} {s : Ast} (h : AIs w Y b gc (.slice none 0 0) s) (hbel : Below w0.heap.size w0 w) (hb : w0.heap.size ≤ b) (hg : w0.heap.size ≤ gc) (who : Int) :
    Hold w0 (w.alloc (PObj b who false)) Y b gc w.heap.size s who false := by
  have h1 := lt_of_heap h.hb
  have h2 := lt_of_heap h.hc
  refine ⟨⟨_, h.below ((Below.refl _ _).alloc (Nat.le_refl _) _), fun e => by cases e⟩, heap_new _ _, by omega, by omega, hbel.alloc hbel.size _, hb, hg, hbel.size, ?_⟩
  have := h.bY
  omega
theorem Hold.bl (h : Hold w0 w Y b gc p s who g) : b < w.heap.size := by obtain ⟨lv, ha, _⟩ := h.ex; exact lt_of_heap ha.hb
/-- A list of accesses as a row in memory: the cells of each. -/
theorem owns_row {w : World} {B : Nat} {v : Value} {n : Nat} {l : List Value} (h : w.ownsRow B 55 8 v n l) (hn : n ≠ 0) :
    ∃ g c, v = .slice (some ⟨g, 0, none⟩) n c ∧ n ≤ c ∧ B ≤ g ∧ g < w.heap.size ∧ ∀ i x, l[i]? = some x → w.cell? ⟨g, i, none⟩ = some x := by
  obtain ⟨hl, ⟨_, h0⟩ | ⟨g, cap, cur, rfl, hg, hh, hnc, hcm, hcur, htake⟩⟩ := h
  · exact absurd h0 hn
  · refine ⟨g, cap, rfl, hnc, hg, lt_of_heap hh, fun i x hi => cell_of hh ?_⟩
    have hlt := (List.getElem?_eq_some_iff.1 hi).1
    rw [← htake, List.getElem?_take_of_lt (by omega)] at hi
    simpa using hi
end Go.Proofs.YtgjdjdgondpjeaaGreat
