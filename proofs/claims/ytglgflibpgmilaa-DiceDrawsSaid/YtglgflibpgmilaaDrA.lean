/- Both dice, call by call. -/
import Derived.Test.YtglgflibpgmilaaRefSkb
import Derived.Test.YtglgflibpgmilaaFor
import Derived.Test.YtglgflibpgmilaaRefOrder
import Derived.Test.YtglgflibpgmilaaRefFrom
import Derived.Test.YtglgflibpgmilaaGiven
import Derived.Test.YtglgflibpgmilaaSkip
import Derived.Test.YtglgflibpgmilaaSame
import Derived.Test.YtglgflibpgmilaaDiceLinearWalk
namespace Go.Proofs.Ytglgflibpgmilaa
open Go.RowKit Go.Lib
set_option linter.unusedVariables false
theorem but_of {b : Nat} {w w' : World} (k : Below w.heap.size w w') : But b w w' := ⟨k.os, k.tape, k.output, k.size, fun i hi _ => k.block i hi⟩
theorem skipped_any (s : St) (n : Nat) (w : World) (hs : s.Ok) (hn : n < 18446744073709551616) :
    Calls Try.prog 48 #[stAgg s, .int .u64 n] w fun e w' => e = .returned (stAgg (Leap.it n s)) ∧ Below w.heap.size w w' := by
  by_cases h : n < 100000
  · exact skipped_small s n w hs h
  · exact skipped_big s n w hs h hn
set_option maxRecDepth 100000 in
theorem refSkip_any (w : World) (base b n : Nat) (all : List Int) (s : St) (u : Nat) (hd : RefIs w base b all s u) (hs : s.Ok) (hn : n < 18446744073709551616) :
    Calls Try.prog 40 #[.pointer (some ⟨b, 0, none⟩), .int .u64 n] w fun e w' => e = .returned (.tuple #[]) ∧ RefIs w' base b all (Leap.it n s) u ∧ But b w w' := by
  have HD := hide hd
  obtain ⟨hb, v, hh, _⟩ := hd
  have c2 : w.cell? ⟨b, 2, none⟩ = some (.int .u64 s.a) := cell_of hh rfl
  have c3 : w.cell? ⟨b, 3, none⟩ = some (.int .u64 s.b) := cell_of hh rfl
  have c4 : w.cell? ⟨b, 4, none⟩ = some (.int .u64 s.c) := cell_of hh rfl
  have c5 : w.cell? ⟨b, 5, none⟩ = some (.int .u64 s.d) := cell_of hh rfl
  have HS := hide (skipped_any s n w hs hn)
  generalize Leap.it n s = z at HS ⊢
  have HH := hide hh
  clear hh hs hn
  unfold stAgg at HS
  go_enter Try.func40, Try.ntmps40
  go_wp2_with (first
    | (go_at_call 48; refine HS.out.mono ?_; rintro e w1 ⟨rfl, hb1⟩; have HB1 := hide hb1; have hh1 := (hb1.block b (lt_of_heap HH.out)).trans HH.out; have d2 : w1.cell? ⟨b, 2, none⟩ = some (.int .u64 s.a) := cell_of hh1 rfl; have d3 : w1.cell? ⟨b, 3, none⟩ = some (.int .u64 s.b) := cell_of hh1 rfl; have d4 : w1.cell? ⟨b, 4, none⟩ = some (.int .u64 s.c) := cell_of hh1 rfl; have d5 : w1.cell? ⟨b, 5, none⟩ = some (.int .u64 s.d) := cell_of hh1 rfl; have f2 := free_of hh1 2; have f3 := free_of hh1 3; have f4 := free_of hh1 4; have f5 := free_of hh1 5; have HH1 := hide hh1; clear hb1 hh1 c2 c3 c4 c5)
    | fail)
  go_end0
  have k0 : But b w w1 := but_of HB1.out
  have k1 := (((k0.trans (But.setCell w1 ⟨b, 2, none⟩ (.int .u64 z.a))).trans (But.setCell _ ⟨b, 3, none⟩ (.int .u64 z.b))).trans (But.setCell _ ⟨b, 4, none⟩ (.int .u64 z.c))).trans (But.setCell _ ⟨b, 5, none⟩ (.int .u64 z.d))
  refine ⟨rfl, HD.out.own k1 ⟨v, HH.out, rfl⟩ ?_, k1⟩
  exact heap_set (heap_set (heap_set (heap_set HH1.out _) _) _) _
theorem fair_none (w : World) (p : Value) : Calls Try.prog 27 #[p, .int .u64 0] w fun e w' => e = .returned (.tuple #[.int .u64 0, .int .i64 7]) ∧ w' = w := by
  go_enter Try.func27, Try.ntmps27
  go_wp2
  go_ret2
  exact ⟨rfl, rfl⟩
theorem refFair_none (w : World) (p : Value) : Calls Try.prog 28 #[p, .int .u64 0] w fun e w' => e = .returned (.tuple #[.int .u64 0, .int .i64 7]) ∧ w' = w := by
  go_enter Try.func28, Try.ntmps28
  go_wp2
  go_ret2
  exact ⟨rfl, rfl⟩
theorem refBelow_none (w : World) (p : Value) : Calls Try.prog 39 #[p, .int .u64 0] w fun e w' => e = .returned (.tuple #[.int .u64 0, .int .i64 7]) ∧ w' = w := by
  go_enter Try.func39, Try.ntmps39
  go_wp2
  go_ret2
  exact ⟨rfl, rfl⟩
theorem fair_facts (n least : Nat) (all : List Int) : ∀ (k u : Nat) (s : St), s.Ok → (fair n least k (all.drop u) s).2.1 = all.drop (u + (fair n least k (all.drop u) s).2.2.2) ∧ (fair n least k (all.drop u) s).2.2.1.Ok ∧ (fair n least k (all.drop u) s).2.2.2 ≤ k
  | 0, u, s, hs => ⟨rfl, hs, Nat.le_refl _⟩
  | k + 1, u, s, hs => by
    have ih := fair_facts n least all k (u + 1) (stLeft (all.drop u) s) (stLeft_ok hs)
    simp only [fair]
    split
    · exact ⟨tail_drop all u, stLeft_ok hs, by simp⟩
    · rw [tail_drop]
      refine ⟨?_, ih.2.1, by have := ih.2.2; simp only; omega⟩
      simp only
      rw [ih.1, show u + 1 + (fair n least k (List.drop (u + 1) all) (stLeft (List.drop u all) s)).2.2.2 = u + ((fair n least k (List.drop (u + 1) all) (stLeft (List.drop u all) s)).2.2.2 + 1) by omega]
theorem shuf_facts (all : List Int) : ∀ (i u : Nat) (s : St) (l : List Int), s.Ok → (shuf i (all.drop u) s l).1 = all.drop (u + i) ∧ (shuf i (all.drop u) s l).2.1.Ok := by
  intro i
  induction i with
  | zero => intro u s l hs; exact ⟨rfl, hs⟩
  | succ i ih =>
    intro u s l hs
    simp only [shuf]
    rw [tail_drop]
    rw [show u + (i + 1) = u + 1 + i by omega]
    exact ih (u + 1) (stLeft (all.drop u) s) _ (stLeft_ok hs)
/-- Only these two blocks have turned. -/
structure Bth (b1 b2 : Nat) (w w' : World) : Prop where
  os : w'.os = w.os
  tape : w'.tape = w.tape
  output : w'.output = w.output
  size : w.heap.size ≤ w'.heap.size
  block : ∀ k, k < w.heap.size → k ≠ b1 → k ≠ b2 → w'.heap[k]? = w.heap[k]?
theorem Bth.refl (b1 b2 : Nat) (w : World) : Bth b1 b2 w w := ⟨rfl, rfl, rfl, Nat.le_refl _, fun _ _ _ _ => rfl⟩
theorem Bth.trans {b1 b2 : Nat} {x y z : World} (h : Bth b1 b2 x y) (k : Bth b1 b2 y z) : Bth b1 b2 x z :=
  ⟨k.os.trans h.os, k.tape.trans h.tape, k.output.trans h.output, Nat.le_trans h.size k.size, fun i hi h1 h2 => (k.block i (Nat.lt_of_lt_of_le hi h.size) h1 h2).trans (h.block i hi h1 h2)⟩
theorem Bth.one {b1 b2 : Nat} {w w' : World} (k : But b1 w w') : Bth b1 b2 w w' := ⟨k.os, k.tape, k.output, k.size, fun i hi h1 _ => k.block i hi h1⟩
theorem Bth.two {b1 b2 : Nat} {w w' : World} (k : But b2 w w') : Bth b1 b2 w w' := ⟨k.os, k.tape, k.output, k.size, fun i hi _ h2 => k.block i hi h2⟩
theorem Bth.below {b1 b2 : Nat} {w w' : World} (k : Below w.heap.size w w') : Bth b1 b2 w w' := ⟨k.os, k.tape, k.output, k.size, fun i hi _ _ => k.block i hi⟩
/-- The program's dice and the document's, which have drawn the same. -/
structure DP (w : World) (b1 b2 base : Nat) (all : List Int) (s : St) (u : Nat) : Prop where
  d : DiceIs w b1 (all.drop u) s u
  r : RefIs w base b2 all s u
  lt : b1 < base
theorem DP.below {w w' : World} {b1 b2 base : Nat} {all : List Int} {s : St} {u : Nat} (h : DP w b1 b2 base all s u) (k : Below w.heap.size w w') : DP w' b1 b2 base all s u := ⟨h.d.below k, h.r.below k, h.lt⟩
/-- First the program's, then the document's. -/
theorem DP.both {w w1 w2 : World} {b1 b2 base : Nat} {all : List Int} {s s' : St} {u u' : Nat} (h : DP w b1 b2 base all s u) (d1 : DiceIs w1 b1 (all.drop u') s' u') (k1 : But b1 w w1) (r2 : RefIs w1 base b2 all s u → RefIs w2 base b2 all s' u') (k2 : But b2 w1 w2) : DP w2 b1 b2 base all s' u' ∧ Bth b1 b2 w w2 := by
  have r1 := h.r.ahead k1 h.lt
  have hr := r2 r1
  exact ⟨⟨d1.beyond k2 (Nat.lt_of_lt_of_le h.lt hr.1), hr, h.lt⟩, (Bth.one k1).trans (Bth.two k2)⟩
end Go.Proofs.Ytglgflibpgmilaa
