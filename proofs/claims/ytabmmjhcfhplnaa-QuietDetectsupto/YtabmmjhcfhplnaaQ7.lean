/- live: a Raise and a Lower, by hand. -/
import Derived.Test.YtabmmjhcfhplnaaQ6
import Derived.Deep.Cut
namespace Go.Proofs.Ytabmmjhcfhplnaa
open Go.RowKit Go.Lib Go.MuLone
set_option linter.unusedVariables false
theorem three_words (w : World) (x y z : Int) : UAt (w.alloc (.cells #[.int .u64 x, .int .u64 y, .int .u64 z] 27)) (w.alloc (.cells #[.int .u64 x, .int .u64 y, .int .u64 z] 27)).heap.size (.slice (some ⟨w.heap.size, 0, none⟩) 3 3) [x, y, z] := by
  refine ⟨w.heap.size, 0, 3, rfl, Nat.le_refl _, by simp, fun i hi => ?_⟩
  have hh := heap_new w (.cells #[.int .u64 x, .int .u64 y, .int .u64 z] 27)
  rw [Nat.zero_add]
  match i, hi with
  | 0, _ => exact cell_of hh rfl
  | 1, _ => exact cell_of hh rfl
  | 2, _ => exact cell_of hh rfl
theorem field71 (st : Int) (w : World) : (Instr.field 71 (.agg #[.int .i64 st, .slice none 0 0]) 0).run Try.prog w = .ok (.int .i64 st) w := by kernel_rfl
/-- What is turned since w0 lies above it. -/
structure QB (w0 w : World) (Y b gc n : Nat) (s : Ast) (bl : List Nat) (qs : List QOp) : Prop where
  q : QM w Y b gc n s bl qs
  bel : Below w0.heap.size w0 w
  b0 : w0.heap.size ≤ b
  g0 : w0.heap.size ≤ gc
  y0 : w0.heap.size ≤ Y
  o0 : ∀ k, k < qs.length → w0.heap.size ≤ gd bl k
section
variable {w0 w w' : World} {Y b gc n p : Nat} {s s' : Ast} {bl : List Nat} {qs qs' : List QOp} {who : Int}
theorem QB.look (h : QB w0 w Y b gc n s bl qs) (hq : QM w' Y b gc n s bl qs) (k : Chg (fun j => j = b) w w') : QB w0 w' Y b gc n s bl qs :=
  ⟨hq, Chg.below h.bel k (fun i hi => hi ▸ h.b0) h.bel.size, h.b0, h.g0, h.y0, h.o0⟩
theorem QB.step {k : Nat} (h : QB w0 w Y b gc n s bl qs) (hk : k < qs.length) (hl : qs'.length = qs.length) (hq : QM w' Y b gc n s' bl qs') (c : Chg (SQ b gc (gd bl k) Y) w w') : QB w0 w' Y b gc n s' bl qs' :=
  ⟨hq, Chg.below h.bel c (fun i hi => by
    rcases hi with e | e | e | e
    · rw [e]; exact h.b0
    · rw [e]; exact h.g0
    · rw [e]; exact h.o0 k hk
    · have := h.y0; omega) h.bel.size, h.b0, h.g0, h.y0, fun j hj => h.o0 j (by omega)⟩
theorem QB.below (h : QB w0 w Y b gc n s bl qs) (k : Below w.heap.size w w') : QB w0 w' Y b gc n s bl qs := ⟨h.q.below k, below_on h.bel k, h.b0, h.g0, h.y0, h.o0⟩
theorem qb_granted (h : QB w0 w Y b gc n s bl qs) (hw : 0 ≤ who) : Calls Try.prog 10 #[.pointer (some ⟨b, 0, none⟩), .int .i64 who] w fun e w' => ∃ p, e = .returned (.pointer (some ⟨p, 0, none⟩)) ∧ QG w' Y b gc n s bl qs who p ∧ QB w0 w' Y b gc n s bl qs := by
  refine (qm_granted h.q hw).mono ?_
  rintro e w' ⟨p, rfl, h1, h2⟩
  exact ⟨p, rfl, h1, h.look h1.q h2⟩
theorem qb_step {k : Nat} (h : QB w0 w Y b gc n s bl qs) (hg : QG w Y b gc n s bl qs who p) (hk : k < qs.length) (big : (s.log.length + 1) * 64 ≤ 140737488355328) :
    Calls Try.prog 11 #[.pointer (some ⟨gd bl k, 0, none⟩), .pointer (some ⟨p, 0, none⟩)] w fun e w' => e = .returned (.tuple #[]) ∧ QB w0 w' Y b gc n (stS who n s (qd qs k)) bl (qs.set k (stO n s (qd qs k))) ∧ Chg (SQ b gc (gd bl k) Y) w w' := by
  refine (qm_step hg hk big).mono ?_
  rintro e w' ⟨rfl, h1, h2⟩
  exact ⟨rfl, h.step hk (by rw [List.length_set]) h1 h2, h2⟩
theorem qb_peek (h : QB w0 w Y b gc n s bl qs) {i : Nat} (hi : i < s.cells.length) : Calls Try.prog 14 #[.pointer (some ⟨b, 0, none⟩), .int .i64 i] w fun r w' => r = .returned (.tuple #[.int .u64 (nth s.cells i), .int .i64 0]) ∧ QB w0 w' Y b gc n s bl qs := by
  refine (qm_peek h.q hi).mono ?_
  rintro e w' ⟨rfl, h1, h2⟩
  exact ⟨rfl, h.look h1 h2⟩
theorem qb_over {k : Nat} (h : QB w0 w Y b gc n s bl qs) (hk : k < qs.length) : Calls Try.prog 12 #[.pointer (some ⟨gd bl k, 0, none⟩)] w fun e w' => e = .returned (.bool (decide ((qd qs k).ph = 0))) ∧ w' = w := over_any w _ (qd qs k) (h.q.ph k hk).1 (h.q.op k hk)
theorem qb_reply {k : Nat} (h : QB w0 w Y b gc n s bl qs) (hk : k < qs.length) : Calls Try.prog 21 #[.pointer (some ⟨gd bl k, 0, none⟩)] w fun e w' => e = .returned (.agg #[.int .i64 (qd qs k).st, .slice none 0 0]) ∧ QB w0 w' Y b gc n s bl qs := by
  refine (reply_any w _ _ _ _ _ (h.q.op k hk)).mono ?_
  rintro e w' ⟨rfl, h1⟩
  exact ⟨rfl, h.below h1⟩
theorem qb_count (h : QB w0 w Y b gc n s bl qs) : Calls Try.prog 28 #[.pointer (some ⟨b, 0, none⟩)] w fun r w' => r = .returned (.int .i64 s.count) ∧ QB w0 w' Y b gc n s bl qs := by
  refine (qm_count h.q).mono ?_
  rintro e w' ⟨rfl, h1, h2⟩
  exact ⟨rfl, h.look h1 h2⟩
end
/-- Two operations made over a fresh arena. -/
theorem two_made {w1 w2 w3 : World} {q1 q2 : Nat} {xs : List Int} {c1 c2 : Int} {k1 k2 : Nat} {w0 : World} {B : Nat} (hx : 2 < xs.length) (ha : AIs w1 (B + 2) (B + 1) B (.slice none 0 0) (Ast.laid xs)) (hb : Below w0.heap.size w0 w1) (hB : w0.heap.size ≤ B)
    (h1 : w2.heap[q1]? = some (QObjV 0 c1 (nx k1) 0)) (l1 : w1.heap.size ≤ q1) (b1 : Below w1.heap.size w1 w2) (h2 : w3.heap[q2]? = some (QObjV 0 c2 (nx k2) 0)) (l2 : w2.heap.size ≤ q2) (b2 : Below w2.heap.size w2 w3) (k16 : k1 ≤ 6) (k26 : k2 ≤ 6) :
    QB w0 w3 w3.heap.size (B + 1) B 0 (Ast.laid xs) [q1, q2] [⟨0, c1, k1, 0⟩, ⟨0, c2, k2, 0⟩] := by
  have ha3 := ha.below (below_on b1 b2)
  have h1' : w3.heap[q1]? = some (QObjV 0 c1 (nx k1) 0) := (b2.block _ (lt_of_heap h1)).trans h1
  have := lt_of_heap h1
  have := lt_of_heap h1'
  have := lt_of_heap h2
  have := ha.yw
  have := b1.size
  have := b2.size
  have := hb.size
  refine ⟨⟨⟨_, ha3.rise (by omega) (Nat.le_refl _)⟩, rfl, fun k hk => ?_, fun k hk => ?_, fun i j hij hj => ?_, fun k hk => ?_, rfl, rfl, hx, rfl⟩, below_on hb (below_on b1 b2), by omega, hB, by omega, fun k hk => ?_⟩
  · match k, hk with
    | 0, _ => exact h1'
    | 1, _ => exact h2
  · match k, hk with
    | 0, _ => exact ⟨k16, rfl⟩
    | 1, _ => exact ⟨k26, rfl⟩
  · simp at hj
    have e1 : j = 1 := by omega
    have e0 : i = 0 := by omega
    subst e1; subst e0
    show q1 ≠ q2
    omega
  · match k, hk with
    | 0, _ => exact ⟨by show q1 < _; omega, by show q1 ≠ _; omega, by show q1 ≠ _; omega⟩
    | 1, _ => exact ⟨by show q2 < _; omega, by show q2 ≠ _; omega, by show q2 ≠ _; omega⟩
  · match k, hk with
    | 0, _ => show _ ≤ q1; omega
    | 1, _ => show _ ≤ q2; omega
end Go.Proofs.Ytabmmjhcfhplnaa
