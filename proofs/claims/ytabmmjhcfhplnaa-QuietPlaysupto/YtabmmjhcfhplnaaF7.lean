/- QuietPlays: its memory. -/
import Derived.Test.YtabmmjhcfhplnaaF6
import Derived.Test.YtabmmjhcfhplnaaQb2
namespace Go.Proofs.Ytabmmjhcfhplnaa
open Go.RowKit Go.Lib Go.MuLone
set_option linter.unusedVariables false
set_option linter.unusedSimpArgs false
theorem row_chg {w w' : World} {S : Nat → Prop} {B t n : Nat} {v : Value} {l : List Value} (h : w.ownsRow B t 1 v n l) (c : Chg S w w') (hS : ∀ x cur fr, S x → w.heap[x]? = some (.cells cur t fr) → False) : w'.ownsRow B t 1 v n l :=
  ownsRow_block h (fun g hg => by
    obtain ⟨cur, fr, hc⟩ := own_heap h hg
    exact c.block g (lt_of_heap hc) (fun e => hS g cur fr e hc))
theorem typ_ne {w : World} {g : Nat} {cs cs' : Array Value} {t t' : TypeId} {fr fr' : Nat × Nat} (h1 : w.heap[g]? = some (.cells cs t fr)) (h2 : w.heap[g]? = some (.cells cs' t' fr')) (ht : t ≠ t') : False := ne_type h1 h2 ht rfl
/-- The last loop's memory. -/
structure T2 (w0 w : World) (Y b gc : Nat) (lv : Value) (rb rc : Nat) (rv : Value) (n : Nat) (s sr : Ast) (ov rov : Value) (bl rl : List Nat) (qs rs : List QOp) : Prop where
  tw : TW w Y b gc lv rb rc rv n s sr bl rl qs rs
  row : w.ownsRow 0 30 1 ov qs.length (ptrs bl)
  rrow : w.ownsRow 0 64 1 rov rs.length (ptrs rl)
  bel : Below w0.heap.size w0 w
  y0 : w0.heap.size ≤ Y
  b0 : w0.heap.size ≤ b
  g0 : w0.heap.size ≤ gc
  rb0 : w0.heap.size ≤ rb
  rc0 : w0.heap.size ≤ rc
  o0 : ∀ k, k < qs.length → w0.heap.size ≤ gd bl k
  ro0 : ∀ k, k < rs.length → w0.heap.size ≤ gd rl k
section
variable {w0 w w' : World} {Y b gc rb rc n p : Nat} {lv lv' rv rv' : Value} {s s' sr sr' : Ast} {ov rov : Value} {bl rl : List Nat} {qs qs' rs rs' : List QOp} {who : Int} {k : Nat}
theorem T2.below (h : T2 w0 w Y b gc lv rb rc rv n s sr ov rov bl rl qs rs) (hb : Below w.heap.size w w') : T2 w0 w' Y b gc lv rb rc rv n s sr ov rov bl rl qs rs :=
  ⟨h.tw.below hb, ownsRow_block h.row (fun i hi => hb.block i (owns_lt h.row hi).2), ownsRow_block h.rrow (fun i hi => hb.block i (owns_lt h.rrow hi).2), below_on h.bel hb, h.y0, h.b0, h.g0, h.rb0, h.rc0, h.o0, h.ro0⟩
theorem T2.chg (h : T2 w0 w Y b gc lv rb rc rv n s sr ov rov bl rl qs rs) (hp : w.heap[p]? = some (PObj b who true)) (hpY : Y ≤ p) (hk : k < qs.length) (hq : qs'.length = qs.length) (c : Chg (stSet b gc p lv (gd bl k)) w w') (ht : TW w' Y b gc lv' rb rc rv n s' sr bl rl qs' rs) : T2 w0 w' Y b gc lv' rb rc rv n s' sr ov rov bl rl qs' rs := by
  have hS : ∀ t, t ≠ 95 → t ≠ 27 → t ≠ 113 → t ≠ 109 → t ≠ 86 → ∀ x cur fr, stSet b gc p lv (gd bl k) x → w.heap[x]? = some (.cells cur t fr) → False := by
    rintro t h1 h2 h3 h4 h5 x cur fr hx hh
    rcases hx with (rfl | rfl | rfl | e) | rfl
    · exact typ_ne hh h.tw.a.hb h1
    · exact typ_ne hh h.tw.a.hc h2
    · exact typ_ne hh hp h3
    · obtain ⟨cu, f, hc⟩ := own_heap h.tw.a.hl e; exact typ_ne hh hc h4
    · exact typ_ne hh (h.tw.op k hk) h5
  refine ⟨ht, by rw [hq]; exact row_chg h.row c (hS 30 (by decide) (by decide) (by decide) (by decide) (by decide)), row_chg h.rrow c (hS 64 (by decide) (by decide) (by decide) (by decide) (by decide)), Chg.below h.bel c (fun i hi => ?_) h.bel.size, h.y0, h.b0, h.g0, h.rb0, h.rc0, fun j hj => h.o0 j (by omega), h.ro0⟩
  rcases hi with (e | e | e | e) | e
  · rw [e]; exact h.b0
  · rw [e]; exact h.g0
  · have := h.y0; omega
  · have := (owns_lt h.tw.a.hl e).1; have := h.y0; omega
  · rw [e]; exact h.o0 k hk
theorem T2.rchg (h : T2 w0 w Y b gc lv rb rc rv n s sr ov rov bl rl qs rs) (hk : k < rs.length) (hq : rs'.length = rs.length) (c : Chg (rtSet rb rc rv (gd rl k)) w w') (ht : TW w' Y b gc lv rb rc rv' n s sr' bl rl qs rs') : T2 w0 w' Y b gc lv rb rc rv' n s sr' ov rov bl rl qs rs' := by
  obtain ⟨ob, ho, hro⟩ := h.tw.rop k hk
  obtain ⟨cs0, rfl⟩ := ro_cells hro
  have hS : ∀ t, t ≠ 62 → t ≠ 27 → t ≠ 109 → t ≠ 103 → ∀ x cur fr, rtSet rb rc rv (gd rl k) x → w.heap[x]? = some (.cells cur t fr) → False := by
    rintro t h1 h2 h4 h5 x cur fr hx hh
    rcases hx with (rfl | rfl | e) | rfl
    · exact typ_ne hh h.tw.r.hb h1
    · exact typ_ne hh h.tw.r.hc h2
    · obtain ⟨cu, f, hc⟩ := own_heap h.tw.r.hl e; exact typ_ne hh hc h4
    · exact typ_ne hh ho h5
  refine ⟨ht, row_chg h.row c (hS 30 (by decide) (by decide) (by decide) (by decide)), by rw [hq]; exact row_chg h.rrow c (hS 64 (by decide) (by decide) (by decide) (by decide)), Chg.below h.bel c (fun i hi => ?_) h.bel.size, h.y0, h.b0, h.g0, h.rb0, h.rc0, h.o0, fun j hj => h.ro0 j (by omega)⟩
  rcases hi with (e | e | e) | e
  · rw [e]; exact h.rb0
  · rw [e]; exact h.rc0
  · have := (owns_lt h.tw.r.hl e).1; have := h.y0; omega
  · rw [e]; exact h.ro0 k hk
theorem t2_granted (h : T2 w0 w Y b gc lv rb rc rv n s sr ov rov bl rl qs rs) (hw : 0 ≤ who) : Calls Try.prog 10 #[.pointer (some ⟨b, 0, none⟩), .int .i64 who] w fun e w' => ∃ p, e = .returned (.pointer (some ⟨p, 0, none⟩)) ∧ T2 w0 w' Y b gc lv rb rc rv n s sr ov rov bl rl qs rs ∧ w'.heap[p]? = some (PObj b who true) ∧ Y ≤ p ∧ lv.ownBlock ≠ some p := by
  refine (tw_granted h.tw hw).mono ?_
  rintro e w' ⟨p, rfl, h1, h2, h3, h4, h5, c⟩
  have hS : ∀ t, t ≠ 95 → ∀ x cur fr, x = b → w.heap[x]? = some (.cells cur t fr) → False := by
    rintro t ht x cur fr rfl hh
    exact typ_ne hh h.tw.a.hb ht
  exact ⟨p, rfl, ⟨h1, row_chg h.row c (hS 30 (by decide)), row_chg h.rrow c (hS 64 (by decide)), Chg.below h.bel c (fun i hi => hi ▸ h.b0) h.bel.size, h.y0, h.b0, h.g0, h.rb0, h.rc0, h.o0, h.ro0⟩, h2, h3, h4⟩
theorem t2_step (h : T2 w0 w Y b gc lv rb rc rv n s sr ov rov bl rl qs rs) (hp : w.heap[p]? = some (PObj b who true)) (hpY : Y ≤ p) (hpl : lv.ownBlock ≠ some p) (hk : k < qs.length) (big : (s.log.length + 1) * 64 ≤ 140737488355328) :
    Calls Try.prog 11 #[.pointer (some ⟨gd bl k, 0, none⟩), .pointer (some ⟨p, 0, none⟩)] w fun e w' => e = .returned (.tuple #[]) ∧ ∃ lv', T2 w0 w' Y b gc lv' rb rc rv n (stS who n s (qd qs k)) sr ov rov bl rl (qs.set k (stO n s (qd qs k))) rs := by
  refine (tw_step h.tw hp hpY hpl hk big).mono ?_
  rintro e w' ⟨rfl, ⟨lv', ht⟩, c⟩
  exact ⟨rfl, lv', h.chg hp hpY hk (by simp) c ht⟩
theorem t2_rstep (h : T2 w0 w Y b gc lv rb rc rv n s sr ov rov bl rl qs rs) (hk : k < rs.length) (big : (sr.log.length + 1) * 64 ≤ 140737488355328) :
    Calls Try.prog 20 #[.pointer (some ⟨gd rl k, 0, none⟩), .pointer (some ⟨rb, 0, none⟩), .int .i64 who] w fun e w' => e = .returned (.tuple #[]) ∧ ∃ rv', T2 w0 w' Y b gc lv rb rc rv' n s (stS who n sr (qd rs k)) ov rov bl rl qs (rs.set k (stO n sr (qd rs k))) := by
  refine (tw_rstep h.tw hk big).mono ?_
  rintro e w' ⟨rfl, ⟨rv', ht⟩, c⟩
  exact ⟨rfl, rv', h.rchg hk (by simp) c ht⟩
theorem t2_over (h : T2 w0 w Y b gc lv rb rc rv n s sr ov rov bl rl qs rs) (hk : k < qs.length) : Calls Try.prog 12 #[.pointer (some ⟨gd bl k, 0, none⟩)] w fun e w' => e = .returned (.bool (decide ((qd qs k).ph = 0))) ∧ w' = w := over_any w _ (qd qs k) (h.tw.ph k hk).1 (h.tw.op k hk)
theorem t2_reply (h : T2 w0 w Y b gc lv rb rc rv n s sr ov rov bl rl qs rs) (hk : k < qs.length) : Calls Try.prog 21 #[.pointer (some ⟨gd bl k, 0, none⟩)] w fun e w' => e = .returned (.agg #[.int .i64 (qd qs k).st, .slice none 0 0]) ∧ T2 w0 w' Y b gc lv rb rc rv n s sr ov rov bl rl qs rs ∧ Below w.heap.size w w' := by
  refine (reply_any w _ _ _ _ _ (h.tw.op k hk)).mono ?_
  rintro e w' ⟨rfl, h1⟩
  exact ⟨rfl, h.below h1, h1⟩
theorem t2_rover (h : T2 w0 w Y b gc lv rb rc rv n s sr ov rov bl rl qs rs) (hk : k < rs.length) : Calls Try.prog 22 #[.pointer (some ⟨gd rl k, 0, none⟩)] w fun e w' => e = .returned (.bool (decide ((qd rs k).ph = 0))) ∧ w' = w := by
  obtain ⟨ob, ho, hro⟩ := h.tw.rop k hk
  rw [← hro.over]
  obtain ⟨kd, code, m, rfl, _⟩ := hro
  exact rOver_any ho
theorem t2_rreply (h : T2 w0 w Y b gc lv rb rc rv n s sr ov rov bl rl qs rs) (hk : k < rs.length) : Calls Try.prog 23 #[.pointer (some ⟨gd rl k, 0, none⟩)] w fun e w' => e = .returned (.agg #[.int .i64 (qd rs k).st, .slice none 0 0]) ∧ T2 w0 w' Y b gc lv rb rc rv n s sr ov rov bl rl qs rs ∧ Below w.heap.size w w' := by
  obtain ⟨ob, ho, hro⟩ := h.tw.rop k hk
  obtain ⟨kd, code, m, rfl, _⟩ := hro
  refine (rReply_any ho).mono ?_
  rintro e w' ⟨rfl, h1⟩
  exact ⟨rfl, h.below h1, h1⟩
theorem T2.ops (h : T2 w0 w Y b gc lv rb rc rv n s sr ov rov bl rl qs rs) (hk : k < qs.length) : ∃ g c, ov = .slice (some ⟨g, 0, none⟩) qs.length c ∧ qs.length ≤ c ∧ w.cell? ⟨g, k, none⟩ = some (.pointer (some ⟨gd bl k, 0, none⟩)) := row_keeps h.row (Chg.refl (fun _ => False) w) (fun _ _ _ _ _ _ => id) k hk (mem_gd (by rw [h.tw.len]; exact hk))
theorem T2.refs (h : T2 w0 w Y b gc lv rb rc rv n s sr ov rov bl rl qs rs) (hk : k < rs.length) : ∃ g c, rov = .slice (some ⟨g, 0, none⟩) rs.length c ∧ rs.length ≤ c ∧ w.cell? ⟨g, k, none⟩ = some (.pointer (some ⟨gd rl k, 0, none⟩)) := row_keeps h.rrow (Chg.refl (fun _ => False) w) (fun _ _ _ _ _ _ => id) k hk (mem_gd (by rw [h.tw.rlen]; exact hk))
end
/-- The first loop's memory: ms: the operations that were made so far, mr: the document's. -/
structure P2 (w0 w : World) (Y0 b gc rb rc : Nat) (xs : List Int) (base : Int) (ov rov : Value) (bl rl : List Nat) (ms mr : List Mk) : Prop where
  ar : AIs w Y0 b gc (.slice none 0 0) (Ast.laid xs)
  rr : RIs w Y0 rb rc (.slice none 0 0) (Ast.laid xs)
  gr : gc ≠ rc
  row : w.ownsRow Y0 30 1 ov ms.length (ptrs bl)
  rrow : w.ownsRow Y0 64 1 rov mr.length (ptrs rl)
  len : bl.length = ms.length
  rlen : rl.length = mr.length
  op : ∀ k, k < ms.length → w.heap[gd bl k]? = some (QObjV base (mkCode (mAt ms k).1 (mAt ms k).2) (nx (mkPh (mAt ms k).1)) 0)
  rop : ∀ k, k < mr.length → w.heap[gd rl k]? = some (RfObj (mkPh (mAt mr k).1) base (mkCode (mAt mr k).1 (mAt mr k).2) 0 0)
  inj : ∀ i j, i < j → j < ms.length → gd bl i ≠ gd bl j
  rinj : ∀ i j, i < j → j < mr.length → gd rl i ≠ gd rl j
  lo : ∀ k, k < ms.length → Y0 ≤ gd bl k
  rlo : ∀ k, k < mr.length → Y0 ≤ gd rl k
  bel : Below w0.heap.size w0 w
  y0 : w0.heap.size ≤ Y0
  b0 : w0.heap.size ≤ b
  g0 : w0.heap.size ≤ gc
  rb0 : w0.heap.size ≤ rb
  rc0 : w0.heap.size ≤ rc
theorem grown_kept {w3 w4 : World} {Y t z n : Nat} {v : Value} {l : List Value} (g : w3.grownBy w4 v.ownBlock) (h : w3.ownsRow Y t z v n l) {k : Nat} {cs : Array Value} {t' : TypeId} {fr : Nat × Nat} (hk : w3.heap[k]? = some (.cells cs t' fr)) (ht : t' ≠ t) : w4.heap[k]? = some (.cells cs t' fr) := by
  refine (g.block k (lt_of_heap hk) (fun e => ?_)).trans hk
  obtain ⟨cur, f, hc⟩ := own_heap h e.symm
  exact typ_ne hk hc ht
section
variable {w0 w w2 w3 w4 : World} {Y0 b gc rb rc q : Nat} {xs : List Int} {base : Int} {ov ov' rov rov' : Value} {bl rl : List Nat} {ms mr : List Mk} {m : Mk}
theorem P2.below (h : P2 w0 w Y0 b gc rb rc xs base ov rov bl rl ms mr) (hb : Below w.heap.size w w2) : P2 w0 w2 Y0 b gc rb rc xs base ov rov bl rl ms mr :=
  ⟨h.ar.below hb, h.rr.below hb, h.gr, ownsRow_block h.row (fun i hi => hb.block i (owns_lt h.row hi).2), ownsRow_block h.rrow (fun i hi => hb.block i (owns_lt h.rrow hi).2), h.len, h.rlen, fun k hk => (hb.block _ (lt_of_heap (h.op k hk))).trans (h.op k hk), fun k hk => (hb.block _ (lt_of_heap (h.rop k hk))).trans (h.rop k hk), h.inj, h.rinj, h.lo, h.rlo, below_on h.bel hb, h.y0, h.b0, h.g0, h.rb0, h.rc0⟩
theorem nil_owns {w : World} {Y t z : Nat} : w.ownsRow Y t z (.slice none 0 0) 0 [] := World.ownsRow_nil _ _ _ _
/-- What an append to a list of pointers leaves of the arenas. -/
theorem P2.arenas (h : P2 w0 w3 Y0 b gc rb rc xs base ov rov bl rl ms mr) {t n : Nat} {v : Value} {l : List Value} (hr : w3.ownsRow Y0 t 1 v n l) (g : w3.grownBy w4 v.ownBlock) (h1 : t ≠ 95) (h2 : t ≠ 27) (h3 : t ≠ 62) : AIs w4 Y0 b gc (.slice none 0 0) (Ast.laid xs) ∧ RIs w4 Y0 rb rc (.slice none 0 0) (Ast.laid xs) ∧ Below w0.heap.size w0 w4 :=
  ⟨⟨grown_kept g hr h.ar.hb (fun e => h1 e.symm), grown_kept g hr h.ar.hc (fun e => h2 e.symm), nil_owns, h.ar.bY, h.ar.gY, h.ar.ne, h.ar.len, Nat.le_trans h.ar.yw g.size⟩, ⟨grown_kept g hr h.rr.hb (fun e => h3 e.symm), grown_kept g hr h.rr.hc (fun e => h2 e.symm), nil_owns, h.rr.bY, h.rr.gY, h.rr.ne, h.rr.len, Nat.le_trans h.rr.yw g.size⟩, h.bel.grown g h.bel.size (fun j hj => by have := (owns_lt hr hj).1; have := h.y0; omega)⟩
theorem row_grown {t t' n n' : Nat} {v v' : Value} {l l' : List Value} {B B' : Nat} (hr : w3.ownsRow B t 1 v n l) (hr' : w3.ownsRow B' t' 1 v' n' l') (g : w3.grownBy w4 v.ownBlock) (ht : t' ≠ t) : w4.ownsRow B' t' 1 v' n' l' :=
  ownsRow_block hr' (fun i hi => by
    obtain ⟨cur, fr, hc⟩ := own_heap hr' hi
    exact (grown_kept g hr hc ht).trans hc.symm)
theorem P2.push (h : P2 w0 w3 Y0 b gc rb rc xs base ov rov bl rl ms mr) (hq : w3.heap[q]? = some (QObjV base (mkCode m.1 m.2) (nx (mkPh m.1)) 0)) (hne : ∀ k, k < ms.length → gd bl k ≠ q) (hlo : Y0 ≤ q) (h1 : w4.ownsRow Y0 30 1 ov' (ms.length + 1) (ptrs bl ++ [.pointer (some ⟨q, 0, none⟩)])) (h2 : w3.grownBy w4 ov.ownBlock) : P2 w0 w4 Y0 b gc rb rc xs base ov' rov (bl ++ [q]) rl (ms ++ [m]) mr := by
  obtain ⟨a1, a2, a3⟩ := h.arenas h.row h2 (by decide) (by decide) (by decide)
  refine ⟨a1, a2, h.gr, by rw [List.length_append]; simpa [ptrs] using h1, row_grown h.row h.rrow h2 (by decide), by simp [h.len], h.rlen, fun k hk => ?_, fun k hk => grown_kept h2 h.row (h.rop k hk) (by decide), fun i j hij hj => ?_, h.rinj, fun k hk => ?_, h.rlo, a3, h.y0, h.b0, h.g0, h.rb0, h.rc0⟩
  · rw [List.length_append] at hk
    simp only [List.length_cons, List.length_nil] at hk
    rw [gd_snoc, mAt_snoc, h.len]
    by_cases hl : k < ms.length
    · rw [if_pos hl, if_pos hl]; exact grown_kept h2 h.row (h.op k hl) (by decide)
    · rw [if_neg hl, if_neg hl, if_pos (by omega), if_pos (by omega)]; exact grown_kept h2 h.row hq (by decide)
  · rw [List.length_append] at hj
    simp only [List.length_cons, List.length_nil] at hj
    rw [gd_snoc, gd_snoc, h.len, if_pos (show i < ms.length by omega)]
    by_cases hl : j < ms.length
    · rw [if_pos hl]; exact h.inj i j hij hl
    · rw [if_neg hl, if_pos (by omega)]; exact hne i (by omega)
  · rw [List.length_append] at hk
    simp only [List.length_cons, List.length_nil] at hk
    rw [gd_snoc, h.len]
    by_cases hl : k < ms.length
    · rw [if_pos hl]; exact h.lo k hl
    · rw [if_neg hl, if_pos (by omega)]; exact hlo
theorem P2.rpush (h : P2 w0 w3 Y0 b gc rb rc xs base ov rov bl rl ms mr) (hq : w3.heap[q]? = some (RfObj (mkPh m.1) base (mkCode m.1 m.2) 0 0)) (hne : ∀ k, k < mr.length → gd rl k ≠ q) (hlo : Y0 ≤ q) (h1 : w4.ownsRow Y0 64 1 rov' (mr.length + 1) (ptrs rl ++ [.pointer (some ⟨q, 0, none⟩)])) (h2 : w3.grownBy w4 rov.ownBlock) : P2 w0 w4 Y0 b gc rb rc xs base ov rov' bl (rl ++ [q]) ms (mr ++ [m]) := by
  obtain ⟨a1, a2, a3⟩ := h.arenas h.rrow h2 (by decide) (by decide) (by decide)
  refine ⟨a1, a2, h.gr, row_grown h.rrow h.row h2 (by decide), by rw [List.length_append]; simpa [ptrs] using h1, h.len, by simp [h.rlen], fun k hk => grown_kept h2 h.rrow (h.op k hk) (by decide), fun k hk => ?_, h.inj, fun i j hij hj => ?_, h.lo, fun k hk => ?_, a3, h.y0, h.b0, h.g0, h.rb0, h.rc0⟩
  · rw [List.length_append] at hk
    simp only [List.length_cons, List.length_nil] at hk
    rw [gd_snoc, mAt_snoc, h.rlen]
    by_cases hl : k < mr.length
    · rw [if_pos hl, if_pos hl]; exact grown_kept h2 h.rrow (h.rop k hl) (by decide)
    · rw [if_neg hl, if_neg hl, if_pos (by omega), if_pos (by omega)]; exact grown_kept h2 h.rrow hq (by decide)
  · rw [List.length_append] at hj
    simp only [List.length_cons, List.length_nil] at hj
    rw [gd_snoc, gd_snoc, h.rlen, if_pos (show i < mr.length by omega)]
    by_cases hl : j < mr.length
    · rw [if_pos hl]; exact h.rinj i j hij hl
    · rw [if_neg hl, if_pos (by omega)]; exact hne i (by omega)
  · rw [List.length_append] at hk
    simp only [List.length_cons, List.length_nil] at hk
    rw [gd_snoc, h.rlen]
    by_cases hl : k < mr.length
    · rw [if_pos hl]; exact h.rlo k hl
    · rw [if_neg hl, if_pos (by omega)]; exact hlo
theorem RIs.rise {w : World} {Y Z b gc : Nat} {s : Ast} (h : RIs w Y b gc (.slice none 0 0) s) (hz : Y ≤ Z) (hZ : Z ≤ w.heap.size) : RIs w Z b gc (.slice none 0 0) s := by
  refine ⟨h.hb, h.hc, ?_, by have := h.bY; omega, by have := h.gY; omega, h.ne, h.len, hZ⟩
  obtain ⟨h1, ⟨_, hn⟩ | ⟨g, cap, cur, hv, _⟩⟩ := h.hl
  · exact ⟨h1, .inl ⟨rfl, hn⟩⟩
  · cases hv
/-- An operation at its start. -/
def mkB (n : Nat) (m : Mk) : QOp := ⟨n, mkCode m.1 m.2, mkPh m.1, 0⟩
theorem mkB_get {n k : Nat} (hk : k < ms.length) : qd (ms.map (mkB n)) k = mkB n (mAt ms k) := by simp [qd, List.getD, mAt, hk]
theorem ro_start (n : Nat) (m : Mk) : RO n (mkB n m) (RfObj (mkPh m.1) n (mkCode m.1 m.2) 0 0) := by
  refine ⟨_, _, _, rfl, .inr ⟨rfl, rfl, ?_⟩⟩
  unfold mkB mkPh
  simp only
  by_cases h1 : m.1 = 1
  · simp [h1]
  by_cases h2 : m.1 = 2
  · simp [h1, h2]
  by_cases h3 : m.1 = 3
  · simp [h1, h2, h3]
  · simp [h1, h2, h3]
theorem P2.start {n : Nat} (h : P2 w0 w Y0 b gc rb rc xs n ov rov bl rl ms ms) (hx : n + 2 < xs.length) : T2 w0 w w.heap.size b gc (.slice none 0 0) rb rc (.slice none 0 0) n (Ast.laid xs) (Ast.laid xs) ov rov bl rl (ms.map (mkB n)) (ms.map (mkB n)) := by
  have hy := h.ar.yw
  refine ⟨⟨h.ar.rise hy (Nat.le_refl _), h.rr.rise hy (Nat.le_refl _), h.gr, (fun g hg => by cases hg), by simp [h.len], by simp [h.rlen], fun k hk => ?_, fun k hk => ?_, fun k hk => ?_, fun i j hij hj => h.inj i j hij (by simpa using hj), fun i j hij hj => h.rinj i j hij (by simpa using hj), fun k hk => lt_of_heap (h.op k (by simpa using hk)), fun k hk => lt_of_heap (h.rop k (by simpa using hk)), rfl, rfl, hx, rfl, rfl, rfl, hx, rfl⟩, ?_, ?_, h.bel, Nat.le_trans h.y0 hy, h.b0, h.g0, h.rb0, h.rc0, fun k hk => Nat.le_trans h.y0 (h.lo k (by simpa using hk)), fun k hk => Nat.le_trans h.y0 (h.rlo k (by simpa using hk))⟩
  · rw [List.length_map] at hk
    rw [mkB_get hk]; exact h.op k hk
  · rw [List.length_map] at hk
    rw [mkB_get hk]; exact ⟨_, h.rop k hk, ro_start n _⟩
  · rw [List.length_map] at hk
    rw [mkB_get hk]; exact ⟨mkPh_le _, rfl⟩
  · rw [List.length_map]; exact owns_lower h.row (Nat.zero_le _)
  · rw [List.length_map]; exact owns_lower h.rrow (Nat.zero_le _)
end
end Go.Proofs.Ytabmmjhcfhplnaa
