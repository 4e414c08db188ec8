/- QuietDetects: its memory. -/
import Derived.Test.YtabmmjhcfhplnaaD5
import Derived.Test.YtabmmjhcfhplnaaD6
import Derived.Test.YtabmmjhcfhplnaaQ8
namespace Go.Proofs.Ytabmmjhcfhplnaa
open Go.RowKit Go.Lib Go.MuLone
set_option linter.unusedVariables false
set_option linter.unusedSimpArgs false
/-- A worker's four cells; q: the block of the operation of the one that is busy. -/
def wv (q : Nat) (k : Wk) : W4 := ⟨.int .i64 (match k.at_ with | none => -1 | some t => (t : Int)), .int .i64 (k.child : Int), if k.busy = true then .pointer (some ⟨q, 0, none⟩) else .pointer none, .bool k.low⟩
structure DM (w0 w : World) (Y b gc : Nat) (lv : Value) (G n B F Yb gm : Nat) (mcur : Array Value) (L : List Nat) (s : Ast) (P d : Nat) (bv : Value) (bag : List Nat) (fresh : Nat) (f : Nat → W4) : Prop where
  ar : AIs w Y b gc lv s
  go : s.stopped = false
  kp : s.keep = true
  cnt : s.count = s.log.length
  cl : s.cells = [(P : Int), (d : Int), 0]
  wq : WQ w G n f
  bx : w.heap[B]? = some (.cells #[bv] 22 (0, 0))
  row : w.ownsRow Yb 3 1 bv bag.length (nums bag)
  fx : w.heap[F]? = some (.cells #[.int .i64 (fresh : Int)] 3 (0, 0))
  bF : bv.ownBlock ≠ some F
  mF : gm ≠ F
  my : gm < Yb
  mo : w.heap[gm]? = some (.cells mcur 3 (0, 0))
  mc : ∀ i, i < L.length → mcur[i]? = some (.int .i64 (mcOf L i : Int))
  bel : Below w0.heap.size w0 w
  y0 : w0.heap.size ≤ Y
  b0 : w0.heap.size ≤ b
  g0 : w0.heap.size ≤ gc
  G0 : w0.heap.size ≤ G
  B0 : w0.heap.size ≤ B
  F0 : w0.heap.size ≤ F
  r0 : w0.heap.size ≤ Yb
  yw : Yb ≤ w.heap.size
section
variable {w0 w w' : World} {Y b gc G n B F Yb gm P d P' d' fresh k t q p : Nat} {lv lv' bv : Value} {mcur : Array Value} {L bag : List Nat} {s s' : Ast} {f : Nat → W4} {who : Int}
theorem typ_no {w : World} {g : Nat} {cs cs' : Array Value} {t t' : TypeId} {fr fr' : Nat × Nat} (h1 : w.heap[g]? = some (.cells cs t fr)) (h2 : w.heap[g]? = some (.cells cs' t' fr')) (ht : t ≠ t') : False := by
  rw [h1] at h2
  simp only [Option.some.injEq, Obj.cells.injEq] at h2
  exact ht h2.2.1
/-- The arena, or what is no worker's, turns. -/
theorem DM.arena {S : Nat → Prop} (h : DM w0 w Y b gc lv G n B F Yb gm mcur L s P d bv bag fresh f) (c : Chg S w w') (hS : ∀ x, S x → x = b ∨ x = gc ∨ lv.ownBlock = some x ∨ (w0.heap.size ≤ x ∧ ∃ cs t fr, w.heap[x]? = some (.cells cs t fr) ∧ t ≠ 32 ∧ t ≠ 22 ∧ t ≠ 3))
    (ha : AIs w' Y b gc lv' s') (h1 : s'.stopped = false) (h2 : s'.keep = true) (h3 : s'.count = s'.log.length) (h4 : s'.cells = [(P' : Int), (d' : Int), 0]) : DM w0 w' Y b gc lv' G n B F Yb gm mcur L s' P' d' bv bag fresh f := by
  have key : ∀ x cs t fr, w.heap[x]? = some (.cells cs t fr) → (t = 32 ∨ t = 22 ∨ t = 3) → ¬ S x := fun x cs t fr hx ht hs => by
    rcases hS x hs with e | e | e | ⟨_, cs', t', fr', e, n1, n2, n3⟩
    · subst e; exact typ_no hx h.ar.hb (by rcases ht with rfl | rfl | rfl <;> decide)
    · subst e; exact typ_no hx h.ar.hc (by rcases ht with rfl | rfl | rfl <;> decide)
    · obtain ⟨cur, hc⟩ := own_at h.ar.hl e; exact typ_no hx hc (by rcases ht with rfl | rfl | rfl <;> decide)
    · refine typ_no hx e (fun e' => ?_); subst e'; rcases ht with r | r | r
      · exact n1 r
      · exact n2 r
      · exact n3 r
  obtain ⟨A, hA, hA2⟩ := id h.wq
  refine ⟨ha, h1, h2, h3, h4, h.wq.kept (c.block G (lt_of_heap hA) (key _ _ _ _ hA (.inl rfl))), c.heap h.bx (key _ _ _ _ h.bx (.inr (.inl rfl))), ownsRow_block h.row (fun x hx => ?_), c.heap h.fx (key _ _ _ _ h.fx (.inr (.inr rfl))), h.bF, h.mF, h.my, c.heap h.mo (key _ _ _ _ h.mo (.inr (.inr rfl))), h.mc, Chg.below h.bel c (fun x hx => ?_) h.bel.size, h.y0, h.b0, h.g0, h.G0, h.B0, h.F0, h.r0, Nat.le_trans h.yw c.size⟩
  · obtain ⟨cur, hc⟩ := own_at h.row hx
    exact c.block x (lt_of_heap hc) (key _ _ _ _ hc (.inr (.inr rfl)))
  · rcases hS x hx with e | e | e | ⟨e, _⟩
    · rw [e]; exact h.b0
    · rw [e]; exact h.g0
    · have := (owns_lt h.ar.hl e).1; have := h.y0; omega
    · exact e
theorem dm_granted (h : DM w0 w Y b gc lv G n B F Yb gm mcur L s P d bv bag fresh f) (hw : 0 ≤ who) : Calls Try.prog 10 #[.pointer (some ⟨b, 0, none⟩), .int .i64 who] w fun e w' => ∃ p, e = .returned (.pointer (some ⟨p, 0, none⟩)) ∧ DM w0 w' Y b gc lv G n B F Yb gm mcur L s P d bv bag fresh f ∧ w'.heap[p]? = some (PObj b who true) ∧ w.heap.size ≤ p ∧ lv.ownBlock ≠ some p ∧ Chg (fun x => x = b) w w' := by
  refine (granted_any w Y b gc lv s who h.ar hw).mono ?_
  rintro e w' ⟨p, rfl, h1, h2, h3, h4, h5⟩
  exact ⟨p, rfl, h.arena h5 (fun x hx => .inl hx) h1 h.go h.kp h.cnt h.cl, h2, h3, h4, h5⟩
theorem dm_peek (h : DM w0 w Y b gc lv G n B F Yb gm mcur L s P d bv bag fresh f) {i : Nat} (hi : i < 3) : Calls Try.prog 14 #[.pointer (some ⟨b, 0, none⟩), .int .i64 i] w fun r w' => r = .returned (.tuple #[.int .u64 (nth [(P : Int), (d : Int), 0] i), .int .i64 0]) ∧ DM w0 w' Y b gc lv G n B F Yb gm mcur L s P d bv bag fresh f ∧ Chg (fun x => x = b) w w' := by
  refine (peek_in Y b gc lv s i w h.ar (by rw [h.cl]; exact hi)).mono ?_
  rintro r w' ⟨rfl, h1, h2⟩
  exact ⟨by rw [h.cl], h.arena h2 (fun x hx => .inl hx) h1 h.go h.kp h.cnt h.cl, h2⟩
theorem made_ok (h : DM w0 w Y b gc lv G n B F Yb gm mcur L s P d bv bag fresh f) (i : Nat) (m : Acc) : (s.made i m).stopped = false ∧ (s.made i m).keep = true ∧ (s.made i m).count = (s.made i m).log.length ∧ (s.made i m).log.length = s.log.length + 1 := by
  refine ⟨h.go, h.kp, ?_, ?_⟩
  · show s.count + 1 = ((if s.keep then s.log ++ [_] else s.log).length : Int)
    rw [h.kp, h.cnt]; simp
  · show (if s.keep then s.log ++ [_] else s.log).length = _
    rw [h.kp]; simp
/-- One access of an operation: Raise, or either of a Lower. -/
theorem dm_step (h : DM w0 w Y b gc lv G n B F Yb gm mcur L s P d bv bag fresh f) (o : QOp) (ho : o.base = 0) (hph : o.ph = 1 ∨ o.ph = 2 ∨ o.ph = 5) (hp : w.heap[p]? = some (PObj b who true)) (hpY : Y ≤ p) (hpl : lv.ownBlock ≠ some p) (hq : w.heap[q]? = some o.obj) (hq0 : w0.heap.size ≤ q) (big : (s.log.length + 1) * 64 ≤ 140737488355328)
    (hc : s.cells.set (o.cell 0) (o.acc who 0 (nth s.cells (o.cell 0))).left = [(P' : Int), (d' : Int), 0]) :
    Calls Try.prog 11 #[.pointer (some ⟨q, 0, none⟩), .pointer (some ⟨p, 0, none⟩)] w fun e w' => e = .returned (.tuple #[]) ∧ ∃ lv' s', DM w0 w' Y b gc lv' G n B F Yb gm mcur L s' P' d' bv bag fresh f ∧ s'.log.length = s.log.length + 1 ∧ w'.heap[q]? = some (o.next (nth s.cells (o.cell 0))).obj := by
  have hR : RdyN w Y b gc p lv s who q 0 o.obj := ⟨h.ar, hp, hpY, hpl, hq, fun e => by subst e; exact typ_no hq hp (by decide), own_type h.ar.hl hq (by decide), fun e => by subst e; exact typ_no hq h.ar.hb (by decide), fun e => by subst e; exact typ_no hq h.ar.hc (by decide), h.go, by rw [h.cl]; simp, by rw [h.cnt]; omega, by rw [h.cnt]; omega, big⟩
  refine (step_N o ho hph hR).mono ?_
  rintro e w' ⟨rfl, lv', a1, a2, a3, a4⟩
  obtain ⟨m1, m2, m3, m4⟩ := made_ok h (o.cell 0) (o.acc who 0 (nth s.cells (o.cell 0)))
  refine ⟨rfl, lv', _, h.arena a3 (fun x hx => ?_) a1 m1 m2 m3 hc, m4, a2⟩
  rcases hx with (e | e | e | e) | e
  · exact .inl e
  · exact .inr (.inl e)
  · exact .inr (.inr (.inr ⟨by have := h.y0; omega, _, _, _, by rw [e]; exact hp, by decide, by decide, by decide⟩))
  · exact .inr (.inr (.inl e))
  · exact .inr (.inr (.inr ⟨by omega, _, _, _, by rw [e]; exact hq, by decide, by decide, by decide⟩))
/-- Workers, bag and fresh turn. -/
theorem DM.work {S : Nat → Prop} {bv' : Value} {bag' : List Nat} {fresh' : Nat} {f' : Nat → W4} (h : DM w0 w Y b gc lv G n B F Yb gm mcur L s P d bv bag fresh f) (c : Chg S w w') (hS : ∀ x, S x → x = G ∨ x = B ∨ x = F ∨ bv.ownBlock = some x)
    (h1 : WQ w' G n f') (h2 : w'.heap[B]? = some (.cells #[bv'] 22 (0, 0))) (h3 : w'.ownsRow Yb 3 1 bv' bag'.length (nums bag')) (h4 : w'.heap[F]? = some (.cells #[.int .i64 (fresh' : Int)] 3 (0, 0))) (h5 : bv'.ownBlock ≠ some F) : DM w0 w' Y b gc lv G n B F Yb gm mcur L s P d bv' bag' fresh' f' := by
  obtain ⟨A, hA, hA2⟩ := id h.wq
  have key : ∀ x cs t fr, w.heap[x]? = some (.cells cs t fr) → t ≠ 32 → t ≠ 22 → t ≠ 3 → ¬ S x := fun x cs t fr hx n1 n2 n3 hs => by
    rcases hS x hs with e | e | e | e
    · subst e; exact typ_no hx hA n1
    · subst e; exact typ_no hx h.bx n2
    · subst e; exact typ_no hx h.fx n3
    · obtain ⟨cur, hc⟩ := own_at h.row e; exact typ_no hx hc n3
  refine ⟨h.ar.kept c (key _ _ _ _ h.ar.hb (by decide) (by decide) (by decide)) (key _ _ _ _ h.ar.hc (by decide) (by decide) (by decide)) (fun k hk => ?_), h.go, h.kp, h.cnt, h.cl, h1, h2, h3, h4, h5, h.mF, h.my, c.heap h.mo (fun hs => ?_), h.mc, Chg.below h.bel c (fun x hx => ?_) h.bel.size, h.y0, h.b0, h.g0, h.G0, h.B0, h.F0, h.r0, Nat.le_trans h.yw c.size⟩
  · obtain ⟨cur, hc⟩ := own_at h.ar.hl hk
    exact key _ _ _ _ hc (by decide) (by decide) (by decide)
  · rcases hS gm hs with e | e | e | e
    · exact typ_no h.mo (by rw [e]; exact hA) (by decide)
    · exact typ_no h.mo (by rw [e]; exact h.bx) (by decide)
    · exact h.mF e
    · have := (owns_lt h.row e).1; have := h.my; omega
  · rcases hS x hx with e | e | e | e
    · rw [e]; exact h.G0
    · rw [e]; exact h.B0
    · rw [e]; exact h.F0
    · have := (owns_lt h.row e).1; have := h.r0; omega
theorem DM.gG (h : DM w0 w Y b gc lv G n B F Yb gm mcur L s P d bv bag fresh f) : gm ≠ G ∧ gm ≠ B ∧ B ≠ G ∧ F ≠ G ∧ F ≠ B ∧ bv.ownBlock ≠ some G ∧ bv.ownBlock ≠ some B := by
  obtain ⟨A, hA, hA2⟩ := id h.wq
  exact ⟨fun e => typ_no h.mo (by rw [e]; exact hA) (by decide), fun e => typ_no h.mo (by rw [e]; exact h.bx) (by decide), fun e => typ_no h.bx (by rw [e]; exact hA) (by decide), fun e => typ_no h.fx (by rw [e]; exact hA) (by decide), fun e => typ_no h.fx (by rw [e]; exact h.bx) (by decide), own_type h.row hA (by decide), own_type h.row h.bx (by decide)⟩
/-- next: a task in hand. -/
theorem dm_hold {cm ch : Nat} (h : DM w0 w Y b gc lv G n B F Yb gm mcur L s P d bv bag fresh f) (hk : k < n) (ha : (f k).a = .int .i64 (t : Int)) (hc : (f k).c = .int .i64 (ch : Int)) (ht : t < L.length) (hN : L.length ≤ cm) :
    Calls Try.prog 9 #[.pointer (some ⟨G, k * 4, none⟩), .slice (some ⟨gm, 0, none⟩) L.length cm, .pointer (some ⟨B, 0, none⟩)] w fun e w' => ∃ q, e = .returned (.bool true) ∧ DM w0 w' Y b gc lv G n B F Yb gm mcur L s P d bv bag fresh (upd f k ⟨.int .i64 (t : Int), .int .i64 (ch : Int), .pointer (some ⟨q, 0, none⟩), .bool (decide (mcOf L t ≤ ch))⟩) ∧ w'.heap[q]? = some (QObjV 0 0 (nx (if decide (mcOf L t ≤ ch) = true then 2 else 1)) 0) ∧ w.heap.size ≤ q := by
  obtain ⟨g1, g2, g3, g4, g5, g6, g7⟩ := h.gG
  refine (next_hold (B := B) h.wq hk ha hc ht hN (cell_of h.mo (h.mc t ht)) g1).mono ?_
  rintro e w' ⟨q, rfl, a1, a2, a3, a4⟩
  exact ⟨q, rfl, h.work a4 (fun x hx => .inl hx) a1 (a4.heap h.bx g3) (ownsRow_block h.row (fun x hx => by obtain ⟨cur, hc⟩ := own_at h.row hx; exact a4.block x (lt_of_heap hc) (fun e => g6 (e ▸ hx)))) (a4.heap h.fx g4) h.bF, a2, a3⟩
theorem dm_none (h : DM w0 w Y b gc lv G n B F Yb gm mcur L s P d bv [] fresh f) (hk : k < n) (ha : (f k).a = .int .i64 (-1)) (mv : Value) :
    Calls Try.prog 9 #[.pointer (some ⟨G, k * 4, none⟩), mv, .pointer (some ⟨B, 0, none⟩)] w fun e w' => e = .returned (.bool false) ∧ w' = w := by
  obtain ⟨ao, cb, hv⟩ := owns_shape h.row
  have := cell_of h.bx (i := 0) rfl
  exact next_none h.wq hk ha (by rw [this]; rw [show (#[bv] : Array Value)[0] = bv from rfl, hv]; rfl)
theorem dm_take {cm : Nat} (h : DM w0 w Y b gc lv G n B F Yb gm mcur L s P d bv (bag ++ [t]) fresh f) (hk : k < n) (ha : (f k).a = .int .i64 (-1)) (ht : t < L.length) (hN : L.length ≤ cm) (hb : bag.length ≤ 419430400) :
    Calls Try.prog 9 #[.pointer (some ⟨G, k * 4, none⟩), .slice (some ⟨gm, 0, none⟩) L.length cm, .pointer (some ⟨B, 0, none⟩)] w fun e w' => ∃ q bv', e = .returned (.bool true) ∧ DM w0 w' Y b gc lv G n B F Yb gm mcur L s P d bv' bag fresh (upd f k ⟨.int .i64 (t : Int), .int .i64 0, .pointer (some ⟨q, 0, none⟩), .bool (decide (mcOf L t ≤ 0))⟩) ∧ w'.heap[q]? = some (QObjV 0 0 (nx (if decide (mcOf L t ≤ 0) = true then 2 else 1)) 0) ∧ w.heap.size ≤ q := by
  obtain ⟨g1, g2, g3, g4, g5, g6, g7⟩ := h.gG
  have hrow := h.row
  rw [List.length_append] at hrow
  obtain ⟨hlen, ⟨_, h0⟩ | ⟨gb, cb, cur, rfl, hgb, hcu, h1, h2, h3, h4⟩⟩ := id hrow
  · simp at h0
  have hct : w.cell? ⟨gb, bag.length, none⟩ = some (.int .i64 (t : Int)) := by
    have h5 : cur.toList[bag.length]? = some (.int .i64 (t : Int)) := by
      have h6 : (cur.toList.take ((bag.length + [t].length) * 1))[bag.length]? = (nums (bag ++ [t]))[bag.length]? := by rw [h4]
      rw [List.getElem?_take, if_pos (by simp)] at h6
      rw [h6]; simp [nums]
    exact cell_of hcu (by simpa using h5)
  refine (next_take (B := B) (j := bag.length) h.wq hk ha h.bx (by simpa using h1) hb (by unfold maxLen at h2; omega) hct ht hN (cell_of h.mo (h.mc t ht)) g1 g2 g3 (fun e => g6 (by rw [← e]; rfl))).mono ?_
  rintro e w' ⟨w3, ⟨q, rfl, a1, a2, a3, a4⟩, a5, a6⟩
  rw [upd_upd] at a1
  have c2 : Chg (fun x => x = G ∨ x = B) w w' := a6.trans (a4.mono fun x hx => .inl hx)
  refine ⟨q, _, rfl, h.work c2 (fun x hx => hx.elim .inl (fun e => .inr (.inl e))) a1 (a4.heap a5 g3) ?_ (c2.heap h.fx (fun e => e.elim g4 g5)) ?_, a2, Nat.le_trans a6.size a3⟩
  · refine ⟨by simp [nums], .inr ⟨gb, cb, cur, rfl, hgb, c2.heap hcu (fun e => ?_), by simp at h1; omega, h2, h3, ?_⟩⟩
    · rcases e with e | e
      · exact g6 (by rw [← e]; rfl)
      · exact g7 (by rw [← e]; rfl)
    · have : cur.toList.take (bag.length * 1) = (cur.toList.take ((bag.length + [t].length) * 1)).take (bag.length * 1) := by rw [List.take_take]; congr 1; simp
      rw [this, h4]
      simp [nums]
  · exact h.bF
theorem dm_low (h : DM w0 w Y b gc lv G n B F Yb gm mcur L s P d bv bag fresh f) (hk : k < n) (hl : (f k).l = .bool true) (bp fp : Value) :
    Calls Try.prog 13 #[.pointer (some ⟨G, k * 4, none⟩), bp, fp] w fun e w' => e = .returned (.tuple #[]) ∧ DM w0 w' Y b gc lv G n B F Yb gm mcur L s P d bv bag fresh (upd f k ⟨.int .i64 (-1), (f k).c, .pointer none, .bool true⟩) := by
  obtain ⟨g1, g2, g3, g4, g5, g6, g7⟩ := h.gG
  refine (over_low h.wq hk hl).mono ?_
  rintro e w' ⟨rfl, a1, a4⟩
  exact ⟨rfl, h.work a4 (fun x hx => .inl hx) a1 (a4.heap h.bx g3) (ownsRow_block h.row (fun x hx => by obtain ⟨cur, hc⟩ := own_at h.row hx; exact a4.block x (lt_of_heap hc) (fun e => g6 (e ▸ hx)))) (a4.heap h.fx g4) h.bF⟩
theorem dm_up {ch : Nat} (h : DM w0 w Y b gc lv G n B F Yb gm mcur L s P d bv bag fresh f) (hk : k < n) (hl : (f k).l = .bool false) (hc : (f k).c = .int .i64 (ch : Int)) (hch : ch ≤ 1048576) (hfr : fresh ≤ 1048576) (hj : bag.length ≤ 419430400) :
    Calls Try.prog 13 #[.pointer (some ⟨G, k * 4, none⟩), .pointer (some ⟨B, 0, none⟩), .pointer (some ⟨F, 0, none⟩)] w fun e w' => e = .returned (.tuple #[]) ∧ ∃ bv', DM w0 w' Y b gc lv G n B F Yb gm mcur L s P d bv' (bag ++ [fresh]) (fresh + 1) (upd f k ⟨(f k).a, .int .i64 ((ch + 1 : Nat) : Int), .pointer none, .bool false⟩) := by
  refine (over_raise h.wq hk hl hc hch h.bx h.fx hfr h.bF h.row hj h.yw).mono ?_
  rintro e w' ⟨rfl, a1, ⟨g, cap, a2, a3, a4⟩, a5, a6⟩
  refine ⟨rfl, _, h.work a6 (fun x hx => hx) (by rw [show ((ch + 1 : Nat) : Int) = (ch : Int) + 1 by omega]; exact a1) a2 (by rw [List.length_append]; exact a3) (by rw [show ((fresh + 1 : Nat) : Int) = (fresh : Int) + 1 by omega]; exact a5) (fun e => ?_)⟩
  cases e
  exact a4 rfl
end
end Go.Proofs.Ytabmmjhcfhplnaa
