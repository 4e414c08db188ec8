/- live: the walk. -/
import Derived.Test.YtabmmjhcfhplnaaQ7
namespace Go.Proofs.Ytabmmjhcfhplnaa
open Go.RowKit Go.Lib Go.MuLone
set_option linter.unusedVariables false
def lv0 : Ast := Ast.laid [0, 0, 0]
def lq0 : List QOp := [⟨0, 0, 1, 0⟩, ⟨0, 0, 2, 0⟩]
def lv1 : Ast := stS 0 0 lv0 (qd lq0 0)
def lq1 : List QOp := lq0.set 0 (stO 0 lv0 (qd lq0 0))
def lv2 : Ast := stS 1 0 lv1 (qd lq1 1)
def lq2 : List QOp := lq1.set 1 (stO 0 lv1 (qd lq1 1))
def lv3 : Ast := stS 1 0 lv2 (qd lq2 1)
def lq3 : List QOp := lq2.set 1 (stO 0 lv2 (qd lq2 1))
theorem lv_facts : nth lv1.cells 0 = 1 ∧ (qd lq2 1).ph = 5 ∧ nth lv3.cells 1 = 1 ∧ (qd lq3 0).ph = 0 ∧ (qd lq3 0).st = 1 ∧ (qd lq3 1).ph = 0 ∧ (qd lq3 1).st = 1 ∧ lv3.count = 3 ∧ lv1.cells.length = 3 ∧ lv3.cells.length = 3 ∧ (lv0.log.length + 1) * 64 ≤ 140737488355328 ∧ (lv1.log.length + 1) * 64 ≤ 140737488355328 ∧ (lv2.log.length + 1) * 64 ≤ 140737488355328 ∧ lq0.length = 2 ∧ lq1.length = 2 ∧ lq2.length = 2 ∧ lq3.length = 2 ∧ (qd lq0 0).ph = 1 := by decide +kernel
set_option maxRecDepth 100000 in
set_option maxHeartbeats 4000000 in
theorem live_any (w : World) : Calls Try.prog 6 #[] w fun e w' => e = .returned (.bool true) ∧ Below w.heap.size w w' := by
  obtain ⟨f1, f2, f3, f4, f5, f6, f7, f8, f9, f10, f11, f12, f13, f14, f15, f16, f17, f18⟩ := lv_facts
  have hb : Below w.heap.size w (w.alloc (.cells #[.int .u64 0, .int .u64 0, .int .u64 0] 27)) := below_alloc (Below.refl _ _) _
  have HLD := hide (laid_any _ _ _ (three_words w 0 0 0) (by decide))
  have hs1 : (w.alloc (.cells #[.int .u64 0, .int .u64 0, .int .u64 0] 27)).heap.size = w.heap.size + 1 := by simp
  have HB := hide hb
  have HF1 := hide f1
  have HF2 := hide f2
  have HF3 := hide f3
  have HF := hide (And.intro f4 (And.intro f5 (And.intro f6 (And.intro f7 f8))))
  have HC := hide (And.intro f9 f10)
  have HG := hide (And.intro f11 (And.intro f12 f13))
  have HL := hide (And.intro f14 (And.intro f15 (And.intro f16 f17)))
  have HP0 := hide f18
  have hf := field71
  rw [hs1] at HLD
  clear f1 f2 f3 f4 f5 f6 f7 f8 f9 f10 f11 f12 f13 f14 f15 f16 f17 f18 hb
  go_enter Try.func6, Try.ntmps6
  go_wp2_with (first
    | (go_at_call 8; refine HLD.out.mono ?_; rintro e w1 ⟨rfl, h1, h2⟩; rw [← hs1] at h2; have HA := hide h1; have HB1 := hide (below_on HB.out h2); have HS1 := hide h2.size; clear h1 h2 HLD)
    | (go_at_call 26; refine (raise_any _ 0 ⟨by decide, by decide⟩).mono ?_; rintro e w2 ⟨q1, rfl, h1, h2, h3⟩; have HR1 := hide h1; have HR2 := hide h2; have HR3 := hide h3; clear h1 h2 h3)
    | (go_at_call 27; refine (lower_any _ 0 ⟨by decide, by decide⟩).mono ?_; rintro e w3 ⟨q2, rfl, h1, h2, h3⟩; have HQ0 : Hid (QB w w3 w3.heap.size (w.heap.size + 1 + 1) (w.heap.size + 1) 0 lv0 [q1, q2] lq0) := (two_made (by decide) HA.out HB1.out (by omega) HR1.out HR2.out HR3.out h1 h2 h3 (by decide) (by decide)); clear h1 h2 h3 HR1 HR2 HR3 HA HB1 HB HS1)
    | (go_at_call 12; refine (qb_over (k := 0) HQ0.out (by rw [HL.out.1]; decide)).mono ?_; rw [HP0.out]; rintro e w4 ⟨rfl, rfl⟩)
    | fail)
  obtain ⟨Y, hY⟩ : ∃ Y, Y = w4.heap.size := ⟨_, rfl⟩
  obtain ⟨b, hbb⟩ : ∃ b, b = w.heap.size + 1 + 1 := ⟨_, rfl⟩
  obtain ⟨gc, hgc⟩ : ∃ gc, gc = w.heap.size + 1 := ⟨_, rfl⟩
  rw [← hY, ← hbb] at HQ0
  rw [← hgc] at HQ0
  rw [← hbb]
  clear hY hbb hgc hs1 HP0
  go_upto_region 10 with (first
    | (go_at_call 10; refine (qb_granted (who := 0) HQ0.out (by decide)).mono ?_; rintro e w5 ⟨p, rfl, h1, h2⟩; have HG0 := hide h1; have HQA := hide h2; clear h1 h2 HQ0)
    | (go_at_call 11; refine (qb_step (k := 0) HQA.out HG0.out (by rw [HL.out.1]; decide) HG.out.1).mono ?_; rintro e w6 ⟨rfl, h1, _⟩; have HQ1 : Hid (QB w w6 Y b gc 0 lv1 [q1, q2] lq1) := h1; clear h1 HQA HG0)
    | (go_at_call 14; refine (qb_peek (i := 0) HQ1.out (by rw [HC.out.1]; decide)).mono ?_; rw [HF1.out]; rintro e w7 ⟨rfl, h1⟩; have HQB := hide h1; clear h1 HQ1 HF1)
    | fail)
  go_upto_region 12 with (first
    | (go_at_call 10; refine (qb_granted (who := 1) HQB.out (by decide)).mono ?_; rintro e w8 ⟨p1, rfl, h1, h2⟩; have HG1 := hide h1; have HQC := hide h2; clear h1 h2 HQB)
    | (go_at_call 11; refine (qb_step (k := 1) HQC.out HG1.out (by rw [HL.out.2.1]; decide) HG.out.2.1).mono ?_; rintro e w9 ⟨rfl, h1, _⟩; have HQ2 : Hid (QB w w9 Y b gc 0 lv2 [q1, q2] lq2) := h1; clear h1 HQC HG1)
    | (go_at_call 12; refine (qb_over (k := 1) HQ2.out (by rw [HL.out.2.2.1]; decide)).mono ?_; rw [HF2.out]; rintro e wa ⟨rfl, rfl⟩; clear HF2)
    | fail)
  go_upto_region 14 with (first
    | (go_at_call 10; refine (qb_granted (who := 1) HQ2.out (by decide)).mono ?_; rintro e wb ⟨p2, rfl, h1, h2⟩; have HG2 := hide h1; have HQD := hide h2; clear h1 h2 HQ2)
    | (go_at_call 11; refine (qb_step (k := 1) HQD.out HG2.out (by rw [HL.out.2.2.1]; decide) HG.out.2.2).mono ?_; rintro e wc ⟨rfl, h1, _⟩; have HQ3 : Hid (QB w wc Y b gc 0 lv3 [q1, q2] lq3) := h1; clear h1 HQD HG2)
    | (go_at_call 14; refine (qb_peek (i := 1) HQ3.out (by rw [HC.out.2]; decide)).mono ?_; rw [HF3.out]; rintro e wd ⟨rfl, h1⟩; have HQ4 := hide h1; clear h1 HQ3 HF3)
    | fail)
  go_wp2_with (first
    | (go_at_call 12; refine (qb_over (k := 0) HQ4.out (by rw [HL.out.2.2.2]; decide)).mono ?_; rw [HF.out.1]; rintro e we ⟨rfl, rfl⟩; have HQ5 := hide HQ4.out; clear HQ4)
    | (go_at_call 21; refine (qb_reply (k := 0) HQ5.out (by rw [HL.out.2.2.2]; decide)).mono ?_; rw [HF.out.2.1]; rintro e wf ⟨rfl, h1⟩; have HQ6 := hide h1; clear h1 HQ5)
    | (go_at_call 12; refine (qb_over (k := 1) HQ6.out (by rw [HL.out.2.2.2]; decide)).mono ?_; rw [HF.out.2.2.1]; rintro e wg ⟨rfl, rfl⟩; have HQ7 := hide HQ6.out; clear HQ6)
    | (go_at_call 21; refine (qb_reply (k := 1) HQ7.out (by rw [HL.out.2.2.2]; decide)).mono ?_; rw [HF.out.2.2.2.1]; rintro e wh ⟨rfl, h1⟩; have HQ8 := hide h1; clear h1 HQ7)
    | (go_at_call 28; refine (qb_count HQ8.out).mono ?_; rw [HF.out.2.2.2.2]; rintro e wi ⟨rfl, h1⟩; have HQ9 := hide h1; clear h1 HQ8)
    | fail)
  go_ret
  exact ⟨rfl, HQ9.out.bel⟩
end Go.Proofs.Ytabmmjhcfhplnaa
