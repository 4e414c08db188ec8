/- Two arenas and operations over each, in memory. -/
import Derived.Test.YtabmmjhcfhplnaaF5
import Derived.Test.YtabmmjhcfhplnaaQa
namespace Go.Proofs.Ytabmmjhcfhplnaa
open Go.RowKit Go.Lib Go.MuLone
set_option linter.unusedVariables false
/-- The document's operation at the same place as the program's. -/
def RO (n : Nat) (o : QOp) (ob : Obj) : Prop :=
  ∃ kd code m : Int, ob = RfObj kd n code m o.st ∧ ((o.ph = 0 ∧ o.st ≠ 0) ∨ (o.st = 0 ∧ code = o.code ∧ ((o.ph = 1 ∧ kd = 1 ∧ m = 0) ∨ (o.ph = 2 ∧ kd = 2 ∧ m = 0) ∨ (o.ph = 3 ∧ kd = 3 ∧ m = 0) ∨ (o.ph = 4 ∧ kd = 4 ∧ m = 0) ∨ (o.ph = 5 ∧ kd = 2 ∧ m = 1) ∨ (o.ph = 6 ∧ kd = 3 ∧ m = 1))))
theorem RO.over {n : Nat} {o : QOp} {ob : Obj} (h : RO n o ob) : (o.st != 0) = decide (o.ph = 0) := by
  obtain ⟨kd, code, m, _, ⟨h1, h2⟩ | ⟨h1, _, h2⟩⟩ := h
  · simp [h1, h2]
  · have : ¬ o.ph = 0 := by omega
    simp [h1, this]
section
variable {w : World} {Y b gc : Nat} {lv : Value} {s : Ast} {q n : Nat} {who : Int}
set_option maxRecDepth 100000 in
theorem rstF_0 {k base code m st : Int} (pv wv : Value) (h : w.heap[q]? = some (RfObj k base code m st)) (hs : st ≠ 0) : Calls Try.prog 20 #[.pointer (some ⟨q, 0, none⟩), pv, wv] w fun e w' => e = .returned (.tuple #[]) ∧ w' = w := by
  have HO := hide (rOver_any h)
  have hsb : (st != 0) = true := by simp [hs]
  clear h hs
  go_enter Try.func20, Try.ntmps20
  go_wp2_with (go_at_call 22; refine HO.out.mono ?_; rintro e w1 ⟨rfl, rfl⟩)
  first | go_end0 | refine bodyPost_ret (results_none rfl _ _ _) rfl ?_
  exact ⟨rfl, rfl⟩
theorem rstep_any (o : QOp) (ob : Obj) (hro : RO n o ob) (h : RRdy w Y b gc lv s q n ob) :
    Calls Try.prog 20 #[.pointer (some ⟨q, 0, none⟩), .pointer (some ⟨b, 0, none⟩), .int .i64 who] w fun e w' => e = .returned (.tuple #[]) ∧ ∃ ob', RO n (stO n s o) ob' ∧ ((o.ph = 0 ∧ w' = w ∧ ob' = ob) ∨ (o.ph ≠ 0 ∧ RSF w w' Y b gc lv q s (o.cell n) (o.acc who n (nth s.cells (o.cell n))) ob')) := by
  obtain ⟨kd, code, m, rfl, ⟨h0, hs⟩ | ⟨hs, hc, hcase⟩⟩ := hro
  · refine (rstF_0 _ _ h.op hs).mono ?_
    rintro e w' ⟨rfl, rfl⟩
    exact ⟨rfl, _, by unfold stO; rw [if_pos h0]; exact ⟨kd, code, m, rfl, .inl ⟨h0, hs⟩⟩, .inl ⟨h0, rfl, rfl⟩⟩
  · obtain ⟨bs, c, ph, st⟩ := o
    simp only at hs hc hcase h
    subst hs hc
    rcases hcase with ⟨rfl, rfl, rfl⟩ | ⟨rfl, rfl, rfl⟩ | ⟨rfl, rfl, rfl⟩ | ⟨rfl, rfl, rfl⟩ | ⟨rfl, rfl, rfl⟩ | ⟨rfl, rfl, rfl⟩
    · refine (rstF_1 h).mono ?_
      rintro e w' ⟨rfl, hh⟩
      exact ⟨rfl, _, ⟨_, _, _, rfl, .inl ⟨rfl, by simp [stO, QOp.next]⟩⟩, .inr ⟨by simp, hh⟩⟩
    · by_cases hx : nth s.cells n = 1
      · refine (rstF_2a h hx).mono ?_
        rintro e w' ⟨rfl, hh⟩
        refine ⟨rfl, _, ?_, .inr ⟨by simp, hh⟩⟩
        have e1 : stO n s ⟨bs, code, 2, 0⟩ = ⟨bs, code, 5, 0⟩ := by simp [stO, QOp.next, QOp.cell, hx]
        rw [e1]
        exact ⟨_, _, _, rfl, .inr ⟨rfl, rfl, .inr (.inr (.inr (.inr (.inl ⟨rfl, rfl, rfl⟩))))⟩⟩
      · refine (rstF_2b h hx).mono ?_
        rintro e w' ⟨rfl, hh⟩
        refine ⟨rfl, _, ?_, .inr ⟨by simp, hh⟩⟩
        have e1 : stO n s ⟨bs, code, 2, 0⟩ = ⟨bs, code, 0, 1⟩ := by simp [stO, QOp.next, QOp.cell, hx]
        rw [e1]
        exact ⟨_, _, _, rfl, .inl ⟨rfl, by simp⟩⟩
    · by_cases hx : nth s.cells (n + 2) = 0
      · refine (rstF_3a h hx).mono ?_
        rintro e w' ⟨rfl, hh⟩
        refine ⟨rfl, _, ?_, .inr ⟨by simp, hh⟩⟩
        have e1 : stO n s ⟨bs, code, 3, 0⟩ = ⟨bs, code, 6, 0⟩ := by simp [stO, QOp.next, QOp.cell, hx]
        rw [e1]
        exact ⟨_, _, _, rfl, .inr ⟨rfl, rfl, .inr (.inr (.inr (.inr (.inr ⟨rfl, rfl, rfl⟩))))⟩⟩
      · refine (rstF_3b h hx).mono ?_
        rintro e w' ⟨rfl, hh⟩
        refine ⟨rfl, _, ?_, .inr ⟨by simp, hh⟩⟩
        have e1 : stO n s ⟨bs, code, 3, 0⟩ = ⟨bs, code, 0, 6⟩ := by simp [stO, QOp.next, QOp.cell, hx]
        rw [e1]
        exact ⟨_, _, _, rfl, .inl ⟨rfl, by simp⟩⟩
    · refine (rstF_4 h).mono ?_
      rintro e w' ⟨rfl, hh⟩
      exact ⟨rfl, _, ⟨_, _, _, rfl, .inl ⟨rfl, by simp [stO, QOp.next]⟩⟩, .inr ⟨by simp, hh⟩⟩
    · refine (rstF_5 h).mono ?_
      rintro e w' ⟨rfl, hh⟩
      exact ⟨rfl, _, ⟨_, _, _, rfl, .inl ⟨rfl, by simp [stO, QOp.next]⟩⟩, .inr ⟨by simp, hh⟩⟩
    · by_cases hx : nth s.cells (n + 1) = 0
      · refine (rstF_6a h hx).mono ?_
        rintro e w' ⟨rfl, hh⟩
        refine ⟨rfl, _, ?_, .inr ⟨by simp, hh⟩⟩
        have e1 : stO n s ⟨bs, code, 6, 0⟩ = ⟨bs, code, 0, 7⟩ := by simp [stO, QOp.next, QOp.cell, hx]
        rw [e1]
        exact ⟨_, _, _, rfl, .inl ⟨rfl, by simp⟩⟩
      · refine (rstF_6b h hx).mono ?_
        rintro e w' ⟨rfl, hh⟩
        refine ⟨rfl, _, ?_, .inr ⟨by simp, hh⟩⟩
        have e1 : stO n s ⟨bs, code, 6, 0⟩ = ⟨bs, code, 0, 1⟩ := by simp [stO, QOp.next, QOp.cell, hx]
        rw [e1]
        exact ⟨_, _, _, rfl, .inl ⟨rfl, by simp⟩⟩
end
/-- The program's arena and operations; the document's arena and operations. -/
structure TW (w : World) (Y b gc : Nat) (lv : Value) (rb rc : Nat) (rv : Value) (n : Nat) (s sr : Ast) (bl rl : List Nat) (qs rs : List QOp) : Prop where
  a : AIs w Y b gc lv s
  r : RIs w Y rb rc rv sr
  gr : gc ≠ rc
  ap : ∀ g, lv.ownBlock = some g → rv.ownBlock ≠ some g
  len : bl.length = qs.length
  rlen : rl.length = rs.length
  op : ∀ k, k < qs.length → w.heap[gd bl k]? = some (qd qs k).obj
  rop : ∀ k, k < rs.length → ∃ ob, w.heap[gd rl k]? = some ob ∧ RO n (qd rs k) ob
  ph : ∀ k, k < qs.length → (qd qs k).ph ≤ 6 ∧ (qd qs k).base = n
  inj : ∀ i j, i < j → j < qs.length → gd bl i ≠ gd bl j
  rinj : ∀ i j, i < j → j < rs.length → gd rl i ≠ gd rl j
  lt : ∀ k, k < qs.length → gd bl k < Y
  rlt : ∀ k, k < rs.length → gd rl k < Y
  go : s.stopped = false
  kp : s.keep = true
  at_ : n + 2 < s.cells.length
  cnt : s.count = s.log.length
  rgo : sr.stopped = false
  rkp : sr.keep = true
  rat : n + 2 < sr.cells.length
  rcnt : sr.count = sr.log.length
theorem own_heap {w : World} {Y t z n : Nat} {v : Value} {l : List Value} (h : w.ownsRow Y t z v n l) {g : Nat} (hg : v.ownBlock = some g) : ∃ cur fr, w.heap[g]? = some (.cells cur t fr) := by
  obtain ⟨_, ⟨rfl, _⟩ | ⟨g', cap, cur, rfl, hg', hc, _⟩⟩ := h
  · cases hg
  · cases hg; exact ⟨cur, _, hc⟩
theorem ro_cells {n : Nat} {o : QOp} {ob : Obj} (h : RO n o ob) : ∃ cs, ob = .cells cs 103 (0, 0) := by
  obtain ⟨kd, code, m, rfl, _⟩ := h
  exact ⟨_, rfl⟩
section
variable {w w' : World} {Y b gc rb rc n p : Nat} {lv rv : Value} {s sr : Ast} {bl rl : List Nat} {qs rs : List QOp} {who : Int} {k : Nat}
/-- The document's blocks are none of those that turn in the program's. -/
theorem TW.farR {S : Nat → Prop} (h : TW w Y b gc lv rb rc rv n s sr bl rl qs rs) (hS : ∀ x, S x → x = b ∨ x = gc ∨ lv.ownBlock = some x ∨ (∃ cs t fr, w.heap[x]? = some (.cells cs t fr) ∧ t ≠ 62 ∧ t ≠ 27 ∧ t ≠ 109 ∧ t ≠ 103)) :
    ¬ S rb ∧ ¬ S rc ∧ (∀ i, rv.ownBlock = some i → ¬ S i) ∧ (∀ j, j < rs.length → ¬ S (gd rl j)) := by
  refine ⟨fun hx => ?_, fun hx => ?_, fun i hi hx => ?_, fun j hj hx => ?_⟩
  · rcases hS _ hx with e | e | e | ⟨cs, t, fr, e, h1, h2, h3, h4⟩
    · exact ne_type h.r.hb h.a.hb (by decide) e
    · exact ne_type h.r.hb h.a.hc (by decide) e
    · obtain ⟨cur, fr, hc⟩ := own_heap h.a.hl e; exact ne_type h.r.hb hc (by decide) rfl
    · exact ne_type h.r.hb e (fun e => h1 e.symm) rfl
  · rcases hS _ hx with e | e | e | ⟨cs, t, fr, e, h1, h2, h3, h4⟩
    · exact ne_type h.r.hc h.a.hb (by decide) e
    · exact h.gr e.symm
    · obtain ⟨cur, fr, hc⟩ := own_heap h.a.hl e; exact ne_type h.r.hc hc (by decide) rfl
    · exact ne_type h.r.hc e (fun e => h2 e.symm) rfl
  · obtain ⟨cur, fr, hc⟩ := own_heap h.r.hl hi
    rcases hS _ hx with e | e | e | ⟨cs, t, fr2, e, h1, h2, h3, h4⟩
    · exact ne_type hc h.a.hb (by decide) e
    · exact ne_type hc h.a.hc (by decide) e
    · exact h.ap i e hi
    · exact ne_type hc e (fun e => h3 e.symm) rfl
  · obtain ⟨ob, ho, hr⟩ := h.rop j hj
    obtain ⟨cs0, rfl⟩ := ro_cells hr
    rcases hS _ hx with e | e | e | ⟨cs, t, fr2, e, h1, h2, h3, h4⟩
    · exact ne_type ho h.a.hb (by decide) e
    · exact ne_type ho h.a.hc (by decide) e
    · obtain ⟨cur, fr, hc⟩ := own_heap h.a.hl e; exact ne_type ho hc (by decide) rfl
    · exact ne_type ho e (fun e => h4 e.symm) rfl
theorem TW.farP {S : Nat → Prop} (h : TW w Y b gc lv rb rc rv n s sr bl rl qs rs) (hS : ∀ x, S x → x = rb ∨ x = rc ∨ rv.ownBlock = some x ∨ (∃ cs t fr, w.heap[x]? = some (.cells cs t fr) ∧ t ≠ 95 ∧ t ≠ 27 ∧ t ≠ 109 ∧ t ≠ 86)) :
    ¬ S b ∧ ¬ S gc ∧ (∀ i, lv.ownBlock = some i → ¬ S i) ∧ (∀ j, j < qs.length → ¬ S (gd bl j)) := by
  refine ⟨fun hx => ?_, fun hx => ?_, fun i hi hx => ?_, fun j hj hx => ?_⟩
  · rcases hS _ hx with e | e | e | ⟨cs, t, fr, e, h1, h2, h3, h4⟩
    · exact ne_type h.a.hb h.r.hb (by decide) e
    · exact ne_type h.a.hb h.r.hc (by decide) e
    · obtain ⟨cur, fr, hc⟩ := own_heap h.r.hl e; exact ne_type h.a.hb hc (by decide) rfl
    · exact ne_type h.a.hb e (fun e => h1 e.symm) rfl
  · rcases hS _ hx with e | e | e | ⟨cs, t, fr, e, h1, h2, h3, h4⟩
    · exact ne_type h.a.hc h.r.hb (by decide) e
    · exact h.gr e
    · obtain ⟨cur, fr, hc⟩ := own_heap h.r.hl e; exact ne_type h.a.hc hc (by decide) rfl
    · exact ne_type h.a.hc e (fun e => h2 e.symm) rfl
  · obtain ⟨cur, fr, hc⟩ := own_heap h.a.hl hi
    rcases hS _ hx with e | e | e | ⟨cs, t, fr2, e, h1, h2, h3, h4⟩
    · exact ne_type hc h.r.hb (by decide) e
    · exact ne_type hc h.r.hc (by decide) e
    · exact h.ap i hi e
    · exact ne_type hc e (fun e => h3 e.symm) rfl
  · have ho := h.op j hj
    rcases hS _ hx with e | e | e | ⟨cs, t, fr2, e, h1, h2, h3, h4⟩
    · exact ne_type ho h.r.hb (by decide) e
    · exact ne_type ho h.r.hc (by decide) e
    · obtain ⟨cur, fr, hc⟩ := own_heap h.r.hl e; exact ne_type ho hc (by decide) rfl
    · exact ne_type ho e (fun e => h4 e.symm) rfl
theorem TW.look (h : TW w Y b gc lv rb rc rv n s sr bl rl qs rs) (ha : AIs w' Y b gc lv s) (c : Chg (fun j => j = b) w w') : TW w' Y b gc lv rb rc rv n s sr bl rl qs rs := by
  obtain ⟨f1, f2, f3, f4⟩ := h.farR (S := fun j => j = b) (fun x e => .inl e)
  refine ⟨ha, h.r.kept c f1 f2 f3, h.gr, h.ap, h.len, h.rlen, fun k hk => c.heap (h.op k hk) (ne_type (h.op k hk) h.a.hb (by decide)), fun k hk => ?_, h.ph, h.inj, h.rinj, h.lt, h.rlt, h.go, h.kp, h.at_, h.cnt, h.rgo, h.rkp, h.rat, h.rcnt⟩
  obtain ⟨ob, ho, hr⟩ := h.rop k hk
  exact ⟨ob, c.heap ho (f4 k hk), hr⟩
theorem TW.below (h : TW w Y b gc lv rb rc rv n s sr bl rl qs rs) (hb : Below w.heap.size w w') : TW w' Y b gc lv rb rc rv n s sr bl rl qs rs := by
  refine ⟨h.a.below hb, h.r.below hb, h.gr, h.ap, h.len, h.rlen, fun k hk => (hb.block _ (lt_of_heap (h.op k hk))).trans (h.op k hk), fun k hk => ?_, h.ph, h.inj, h.rinj, h.lt, h.rlt, h.go, h.kp, h.at_, h.cnt, h.rgo, h.rkp, h.rat, h.rcnt⟩
  obtain ⟨ob, ho, hr⟩ := h.rop k hk
  exact ⟨ob, (hb.block _ (lt_of_heap ho)).trans ho, hr⟩
theorem tw_granted (h : TW w Y b gc lv rb rc rv n s sr bl rl qs rs) (hw : 0 ≤ who) : Calls Try.prog 10 #[.pointer (some ⟨b, 0, none⟩), .int .i64 who] w fun e w' => ∃ p, e = .returned (.pointer (some ⟨p, 0, none⟩)) ∧ TW w' Y b gc lv rb rc rv n s sr bl rl qs rs ∧ w'.heap[p]? = some (PObj b who true) ∧ Y ≤ p ∧ lv.ownBlock ≠ some p ∧ w.heap.size ≤ p ∧ Chg (fun k => k = b) w w' := by
  refine (granted_any w Y b gc lv s who h.a hw).mono ?_
  rintro e w' ⟨p, rfl, h1, h2, h3, h4, h5⟩
  exact ⟨p, rfl, h.look h1 h5, h2, by have := h.a.yw; omega, h4, h3, h5⟩
/-- What turns at a step of the program's. -/
def stSet (b gc p : Nat) (lv : Value) (q k : Nat) : Prop := accSet b gc p lv k ∨ k = q
def rtSet (b gc : Nat) (lv : Value) (q k : Nat) : Prop := refSet b gc lv k ∨ k = q
theorem tw_step (h : TW w Y b gc lv rb rc rv n s sr bl rl qs rs) (hp : w.heap[p]? = some (PObj b who true)) (hpY : Y ≤ p) (hpl : lv.ownBlock ≠ some p) (hk : k < qs.length) (big : (s.log.length + 1) * 64 ≤ 140737488355328) :
    Calls Try.prog 11 #[.pointer (some ⟨gd bl k, 0, none⟩), .pointer (some ⟨p, 0, none⟩)] w fun e w' => e = .returned (.tuple #[]) ∧ (∃ lv', TW w' Y b gc lv' rb rc rv n (stS who n s (qd qs k)) sr bl rl (qs.set k (stO n s (qd qs k))) rs) ∧ Chg (stSet b gc p lv (gd bl k)) w w' := by
  have ho := h.op k hk
  have hl := h.lt k hk
  have hph := h.ph k hk
  unfold stS stO
  by_cases h0 : (qd qs k).ph = 0
  · rw [if_pos h0, if_pos h0, qd_self qs k hk]
    have ho' : w.heap[gd bl k]? = some (QObjV (qd qs k).base (qd qs k).code .nilFunc (qd qs k).st) := by
      rw [ho]; unfold QOp.obj; rw [h0]; rfl
    refine (step_over _ ho').mono ?_
    rintro e w' ⟨rfl, rfl⟩
    exact ⟨rfl, ⟨lv, h⟩, Chg.refl _ _⟩
  · rw [if_neg h0, if_neg h0]
    have hR : Rdy w Y b gc p lv s who (gd bl k) n (qd qs k).obj := ⟨h.a, hp, hpY, hpl, ho, hl, ne_type ho h.a.hb (by decide), ne_type ho h.a.hc (by decide), h.go, h.at_, by rw [h.cnt]; omega, by rw [h.cnt]; omega, big⟩
    refine (step_F (qd qs k) hph.2 (by omega) hph.1 hR).mono ?_
    rintro e w' ⟨rfl, lv', a1, a2, a3, a4⟩
    obtain ⟨f1, f2, f3, f4⟩ := h.farR (S := fun x => accSet b gc p lv x ∨ x = gd bl k) (fun x hx => by
      rcases hx with (e | e | e | e) | e
      · exact .inl e
      · exact .inr (.inl e)
      · exact .inr (.inr (.inr ⟨_, _, _, by rw [e]; exact hp, by decide, by decide, by decide, by decide⟩))
      · exact .inr (.inr (.inl e))
      · exact .inr (.inr (.inr ⟨_, _, _, by rw [e]; exact ho, by decide, by decide, by decide, by decide⟩)))
    refine ⟨rfl, ⟨lv', ⟨a1, h.r.kept a3 f1 f2 f3, h.gr, fun g hg hr => ?_, by rw [List.length_set]; exact h.len, h.rlen, fun j hj => ?_, fun j hj => ?_, fun j hj => ?_, fun i j hij hj => h.inj i j hij (by simpa using hj), h.rinj, fun j hj => h.lt j (by simpa using hj), h.rlt, h.go, h.kp, by show n + 2 < (s.cells.set _ _).length; rw [List.length_set]; exact h.at_, ?_, h.rgo, h.rkp, h.rat, h.rcnt⟩⟩, a3⟩
    · rcases a4 with e | ⟨g', e, hg'⟩
      · exact h.ap g (by rw [← e]; exact hg) hr
      · rw [hg] at e
        cases e
        have := (owns_lt h.r.hl hr).2
        omega
    · rw [List.length_set] at hj
      rw [qd_set qs k j _ hk]
      by_cases hjk : j = k
      · rw [if_pos hjk, hjk]; exact a2
      · rw [if_neg hjk]
        have hoj := h.op j hj
        refine a3.heap hoj (fun hS => ?_)
        rcases hS with (e | e | e | e) | e
        · exact ne_type hoj h.a.hb (by decide) e
        · exact ne_type hoj h.a.hc (by decide) e
        · exact ne_type hoj hp (by decide) e
        · obtain ⟨cur, fr, hc⟩ := own_heap h.a.hl e; exact ne_type hoj hc (by decide) rfl
        · rcases Nat.lt_or_gt_of_ne hjk with hlt | hgt
          · exact h.inj j k hlt hk e
          · exact h.inj k j hgt hj e.symm
    · obtain ⟨ob, hob, hr⟩ := h.rop j hj
      exact ⟨ob, a3.heap hob (f4 j hj), hr⟩
    · rw [List.length_set] at hj
      rw [qd_set qs k j _ hk]
      by_cases hjk : j = k
      · rw [if_pos hjk]; have := next_ph (qd qs k) (nth s.cells ((qd qs k).cell n)); exact ⟨this.1, this.2.trans hph.2⟩
      · rw [if_neg hjk]; exact h.ph j hj
    · show s.count + 1 = ((if s.keep then s.log ++ [_] else s.log).length : Int)
      rw [h.kp, h.cnt]; simp
theorem tw_rstep (h : TW w Y b gc lv rb rc rv n s sr bl rl qs rs) (hk : k < rs.length) (big : (sr.log.length + 1) * 64 ≤ 140737488355328) :
    Calls Try.prog 20 #[.pointer (some ⟨gd rl k, 0, none⟩), .pointer (some ⟨rb, 0, none⟩), .int .i64 who] w fun e w' => e = .returned (.tuple #[]) ∧ (∃ rv', TW w' Y b gc lv rb rc rv' n s (stS who n sr (qd rs k)) bl rl qs (rs.set k (stO n sr (qd rs k)))) ∧ Chg (rtSet rb rc rv (gd rl k)) w w' := by
  obtain ⟨ob, ho, hro⟩ := h.rop k hk
  have hl := h.rlt k hk
  obtain ⟨cs0, hcs0⟩ := ro_cells hro
  have ho2 := ho
  rw [hcs0] at ho2
  have hR : RRdy w Y rb rc rv sr (gd rl k) n ob := ⟨h.r, ho, hl, ne_type ho2 h.r.hb (by decide), ne_type ho2 h.r.hc (by decide), h.rgo, h.rat, by rw [h.rcnt]; omega, by rw [h.rcnt]; omega, big⟩
  refine (rstep_any (qd rs k) ob hro hR).mono ?_
  rintro e w' ⟨rfl, ob', hro', ⟨h0, rfl, rfl⟩ | ⟨h0, rv', a1, a2, a3, a4⟩⟩
  · refine ⟨rfl, ⟨rv, ?_⟩, Chg.refl _ _⟩
    unfold stS stO
    rw [if_pos h0, if_pos h0, qd_self rs k hk]
    exact h
  · have e1 : stS who n sr (qd rs k) = sr.made ((qd rs k).cell n) ((qd rs k).acc who n (nth sr.cells ((qd rs k).cell n))) := if_neg h0
    rw [e1]
    obtain ⟨f1, f2, f3, f4⟩ := h.farP (S := fun x => refSet rb rc rv x ∨ x = gd rl k) (fun x hx => by
      rcases hx with (e | e | e) | e
      · exact .inl e
      · exact .inr (.inl e)
      · exact .inr (.inr (.inl e))
      · exact .inr (.inr (.inr ⟨_, _, _, by rw [e]; exact ho2, by decide, by decide, by decide, by decide⟩)))
    refine ⟨rfl, ⟨rv', ⟨h.a.kept a3 f1 f2 f3, a1, h.gr, fun g hg hr => ?_, h.len, by rw [List.length_set]; exact h.rlen, fun j hj => a3.heap (h.op j hj) (f4 j hj), fun j hj => ?_, h.ph, h.inj, fun i j hij hj => h.rinj i j hij (by simpa using hj), h.lt, fun j hj => h.rlt j (by simpa using hj), h.go, h.kp, h.at_, h.cnt, h.rgo, h.rkp, by show n + 2 < (sr.cells.set _ _).length; rw [List.length_set]; exact h.rat, ?_⟩⟩, a3⟩
    · rcases a4 with e | ⟨g', e, hg'⟩
      · exact h.ap g hg (by rw [← e]; exact hr)
      · rw [hr] at e
        cases e
        have := (owns_lt h.a.hl hg).2
        omega
    · rw [List.length_set] at hj
      rw [qd_set rs k j _ hk]
      by_cases hjk : j = k
      · rw [if_pos hjk, hjk]; exact ⟨ob', a2, hro'⟩
      · rw [if_neg hjk]
        obtain ⟨obj, hoj, hrj⟩ := h.rop j hj
        obtain ⟨csj, hcj⟩ := ro_cells hrj
        have hoj2 := hoj
        rw [hcj] at hoj2
        refine ⟨obj, a3.heap hoj (fun hS => ?_), hrj⟩
        rcases hS with (e | e | e) | e
        · exact ne_type hoj2 h.r.hb (by decide) e
        · exact ne_type hoj2 h.r.hc (by decide) e
        · obtain ⟨cur, fr, hc⟩ := own_heap h.r.hl e; exact ne_type hoj2 hc (by decide) rfl
        · rcases Nat.lt_or_gt_of_ne hjk with hlt | hgt
          · exact h.rinj j k hlt hk e
          · exact h.rinj k j hgt hj e.symm
    · show sr.count + 1 = ((if sr.keep then sr.log ++ [_] else sr.log).length : Int)
      rw [h.rkp, h.rcnt]; simp
end
end Go.Proofs.Ytabmmjhcfhplnaa
