/- do, where the access is made; the ports of a room. -/
import Derived.Test.YtfgchkkljlbmcaaReplay
namespace Go.Proofs.Ytfgchkkljlbmcaa
open Go.RowKit Go.Lib Go.MuLone

/-- The access that a call of the script makes. -/
def doM (o : Opr) (who : Int) (i : Nat) (seen : Int) : Acc :=
  if o.kind = 1 then ⟨who, 1, i, 0, 0, seen, seen, true⟩
  else if o.kind = 2 then ⟨who, 2, i, 0, o.put, seen, o.put, true⟩
  else if o.kind = 3 then ⟨who, 3, i, o.want, o.put, seen, if seen = o.want then o.put else seen, decide (seen = o.want)⟩
  else if o.kind = 4 then ⟨who, 4, i, 0, o.put, seen, IntKind.u64.wrap (seen + o.put), true⟩
  else ⟨who, 5, i, 0, o.put, seen, o.put, true⟩
/-- What it answers. -/
def doV (o : Opr) (seen : Int) : Int := if o.kind = 2 ∨ o.kind = 3 then 0 else seen
def doB (o : Opr) (seen : Int) : Bool := if o.kind = 3 then decide (seen = o.want) else true

theorem doM_cell (o : Opr) (who : Int) (i : Nat) (seen : Int) : (doM o who i seen).cell = i := by
  unfold doM; split; rfl; split; rfl; split; rfl; split <;> rfl
theorem doM_carry (o : Opr) (who : Int) (i : Nat) (seen : Int) : carry (doM o who i seen) seen = doM o who i seen := by
  unfold doM
  split
  · simp [carry]
  split
  · simp [carry]
  split
  · simp [carry]
  split <;> simp [carry]
theorem doM_known (o : Opr) (who : Int) (i : Nat) (seen : Int) : known (doM o who i seen).kind = true := by
  unfold doM
  split
  · rfl
  split
  · rfl
  split
  · rfl
  split <;> rfl

theorem Ready.alloc {w : World} {Y b gc p : Nat} {lv : Value} {s : Ast} {who : Int} {i : Nat} (R : Ready w Y b gc p lv s who i) (o : Obj) : Ready (w.alloc o) Y b gc p lv s who i :=
  ⟨R.ar.below ((Below.refl _ _).alloc (Nat.le_refl _) _), heap_old R.po o, R.pb, R.pg, R.pl, R.go, R.at_, R.c0, R.c1, R.big⟩
theorem AccPost.alloc {w w' : World} {Y b gc p : Nat} {lv : Value} {s : Ast} {who : Int} {i : Nat} {m : Acc} {o : Obj} (h : AccPost (w.alloc o) w' Y b gc p lv s who i m) : AccPost w w' Y b gc p lv s who i m := by
  obtain ⟨lv', h1, h2, h3, h4⟩ := h
  refine ⟨lv', h1, ?_, h3, ((Chg.refl _ w).alloc o).trans h4⟩
  rcases h2 with h2 | ⟨g, h2, h5⟩
  · exact .inl h2
  · exact .inr ⟨g, h2, by simp at h5; omega⟩

set_option maxRecDepth 100000 in
theorem do_made {w : World} {Y b gc p : Nat} {lv : Value} {s : Ast} {who : Int} {i : Nat} (o : Opr) (R : Ready w Y b gc p lv s who i) (h1 : 1 ≤ o.kind) (h5 : o.kind ≤ 5) :
    Calls Try.prog 22 #[.pointer (some ⟨p, 0, none⟩), .agg #[.int .i64 o.kind, .bool o.second, .int .i64 o.port, .int .i64 o.cell, .int .u64 o.want, .int .u64 o.put, .int .i64 o.fw, .int .i64 o.fk, .int .i64 o.fc], .int .i64 i] w fun r w' =>
      r = .returned (.tuple #[.int .u64 (doV o (nth s.cells i)), .bool (doB o (nth s.cells i))]) ∧ AccPost w w' Y b gc p lv s who i (doM o who i (nth s.cells i)) := by
  obtain ⟨kind, second, port, cell, want, put, fw, fk, fc⟩ := o
  have HR := hide R
  clear R
  simp only at h1 h5
  rcases (show kind = 1 ∨ kind = 2 ∨ kind = 3 ∨ kind = 4 ∨ kind = 5 by omega) with rfl | rfl | rfl | rfl | rfl
  · go_enter Try.func22, Try.ntmps22
    go_wp2_with fail
    refine (load_made (HR.out.alloc _)).mono ?_
    rintro e w' ⟨rfl, hp⟩
    have H := hide hp.alloc
    clear hp
    go_wp2_with fail
    go_ret2
    exact ⟨rfl, H.out⟩
  · go_enter Try.func22, Try.ntmps22
    go_wp2_with fail
    refine (store_made put (HR.out.alloc _)).mono ?_
    rintro e w' ⟨rfl, hp⟩
    have H := hide hp.alloc
    clear hp
    go_wp2_with fail
    go_ret2
    exact ⟨rfl, H.out⟩
  · obtain ⟨O, hO⟩ : ∃ O, decide (nth s.cells i = want) = O := ⟨_, rfl⟩
    go_enter Try.func22, Try.ntmps22
    go_wp2_with fail
    refine (cas_made want put (HR.out.alloc _)).mono ?_
    rintro e w' ⟨rfl, hp⟩
    have H := hide hp.alloc
    have HO := hide hO
    rw [hO]
    clear hp hO
    go_wp2_with fail
    go_ret2
    refine ⟨?_, H.out⟩
    have : doB ⟨3, second, port, cell, want, put, fw, fk, fc⟩ (nth s.cells i) = O := HO.out
    rw [this]
    rfl
  · go_enter Try.func22, Try.ntmps22
    go_wp2_with fail
    refine (add_made put (HR.out.alloc _)).mono ?_
    rintro e w' ⟨rfl, hp⟩
    have H := hide hp.alloc
    clear hp
    go_wp2_with fail
    go_ret2
    exact ⟨rfl, H.out⟩
  · go_enter Try.func22, Try.ntmps22
    go_wp2_with fail
    refine (swap_made put (HR.out.alloc _)).mono ?_
    rintro e w' ⟨rfl, hp⟩
    have H := hide hp.alloc
    clear hp
    go_wp2_with fail
    go_ret2
    exact ⟨rfl, H.out⟩

theorem rep_good' {cs : List Int} {a : Acc} {r : List Acc} {k i : Nat} {seen : Int} {m : Acc} (hi : a.cell = i) (h : i < cs.length) (hs : nth cs i = seen) (hm : m = carry a seen) (hb : (known a.kind && accEq m a) = true) :
    replay cs (a :: r) k = replay (cs.set i m.left) r (k + 1) := by
  subst hm hs
  rw [replay, if_pos ⟨by omega, by omega⟩, hi, Int.toNat_natCast, if_pos hb]
/-- A log that comes out, and one more access behind it. -/
theorem replay_append : ∀ (l r : List Acc) (cs : List Int) (k : Nat), (replay cs l k).1 = -1 → replay cs (l ++ r) k = replay (replay cs l k).2 r (k + l.length)
  | [], r, cs, k, _ => rfl
  | a :: l, r, cs, k, h => by
    simp only [List.cons_append, replay] at *
    split at h
    · rename_i h1
      rw [if_pos h1]
      split at h
      · rename_i h2
        rw [if_pos h2, if_pos h1, if_pos h2]
        rw [replay_append l r _ (k + 1) h]
        congr 1
        simp; omega
      · simp at h
    · simp at h
theorem replay_snoc {cs0 cs : List Int} {l : List Acc} (h : replay cs0 l 0 = (-1, cs)) (o : Opr) (who : Int) (i : Nat) (hi : i < cs.length) :
    replay cs0 (l ++ [doM o who i (nth cs i)]) 0 = (-1, cs.set i (doM o who i (nth cs i)).left) := by
  rw [replay_append l _ cs0 0 (by rw [h]), h]
  have e := rep_good' (r := []) (k := 0 + l.length) (doM_cell o who i (nth cs i)) hi rfl (doM_carry o who i (nth cs i)).symm (by rw [doM_known, (accEq_iff _ _).2 rfl]; rfl)
  exact e

/-- An access by a port of a room. -/
theorem Room.acc {w0 w w' : World} {Y b gc : Nat} {lv pv : Value} {s : Ast} {ps : List Nat} {gs : Nat → Bool} (h : Room w0 w Y b gc lv s pv ps gs) {j p : Nat} (hj : ps[j]? = some p) {i : Nat} {m : Acc} (hp : AccPost w w' Y b gc p lv s j i m) :
    ∃ lv', Room w0 w' Y b gc lv' (s.made i m) pv ps (fun i => if i = j then false else gs i) ∧ Chg (accSet b gc p lv) w w' := by
  obtain ⟨lv', h1, _, h3, h4⟩ := hp
  exact ⟨lv', h.turn h4 h1 hj h3 (fun i hi => hi), h4⟩
theorem Room.ready {w0 w : World} {Y b gc : Nat} {lv pv : Value} {s : Ast} {ps : List Nat} {gs : Nat → Bool} (h : Room w0 w Y b gc lv s pv ps gs) {j p : Nat} (hj : ps[j]? = some p) (hg : gs j = true) {i : Nat} (hs : s.stopped = false) (hi : i < s.cells.length)
    (c0 : 0 ≤ s.count) (c1 : s.count < 9223372036854775807) (hb : (s.log.length + 1) * 64 ≤ 140737488355328) : Ready w Y b gc p lv s j i :=
  ⟨h.ar, by have := (h.po j p hj).1; rwa [hg] at this, h.pb hj, h.pg hj, h.pl hj, hs, hi, c0, c1, hb⟩

/-- The law's own cells beside the arena's, and a log that comes out. -/
def seSt (cells : List Int) (log : List Acc) : Ast := ⟨cells, true, log, log.length, false, 0, 0, 0⟩
structure SerialIs (w0 w : World) (Y b gc gl NN : Nat) (cells : List Int) (log : List Acc) (pv : Value) (ps : List Nat) (gs : Nat → Bool) : Prop where
  ex : ∃ lv, Room w0 w Y b gc lv (seSt cells log) pv ps gs
  own : w.heap[gl]? = some (wordsObj cells)
  lg : gl ≠ gc
  l0 : w0.heap.size ≤ gl
  rep : replay (List.replicate NN 0) log 0 = (-1, cells)
  len : cells.length = NN
theorem SerialIs.look {w0 w w' : World} {Y b gc gl NN : Nat} {cells : List Int} {log : List Acc} {pv : Value} {ps : List Nat} {gs : Nat → Bool} (h : SerialIs w0 w Y b gc gl NN cells log pv ps gs) {lv : Value} (ha : AIs w' Y b gc lv (seSt cells log)) (k : Chg (fun j => j = b) w w') :
    SerialIs w0 w' Y b gc gl NN cells log pv ps gs := by
  obtain ⟨lv0, R⟩ := h.ex
  exact ⟨⟨lv, R.look k ha (fun i hi => .inl hi)⟩, k.heap h.own (fun e => ne_of_type h.own R.ar.hb (by decide) e), h.lg, h.l0, h.rep, h.len⟩
theorem SerialIs.news {w0 w w' : World} {Y b gc gl NN : Nat} {cells : List Int} {log : List Acc} {pv : Value} {ps : List Nat} {gs : Nat → Bool} (h : SerialIs w0 w Y b gc gl NN cells log pv ps gs) (k : Below w.heap.size w w') :
    SerialIs w0 w' Y b gc gl NN cells log pv ps gs := by
  obtain ⟨lv0, R⟩ := h.ex
  exact ⟨⟨lv0, R.news k⟩, (k.block gl (lt_of_heap h.own)).trans h.own, h.lg, h.l0, h.rep, h.len⟩
theorem SerialIs.grant {w0 w : World} {Y b gc gl NN : Nat} {cells : List Int} {log : List Acc} {pv : Value} {ps : List Nat} {gs : Nat → Bool} (h : SerialIs w0 w Y b gc gl NN cells log pv ps gs) {j p : Nat} (hj : ps[j]? = some p) :
    Calls Try.prog 21 #[.pointer (some ⟨p, 0, none⟩)] w fun r w' => r = .returned (.tuple #[]) ∧ SerialIs w0 w' Y b gc gl NN cells log pv ps (fun i => if i = j then true else gs i) ∧ Chg (fun k => k = b ∨ k = p) w w' := by
  obtain ⟨lv, R⟩ := h.ex
  refine (grant_any p Y b gc lv _ j (gs j) w R.ar (R.po j p hj).1 (R.pb hj) (R.pg hj) (R.pl hj)).mono ?_
  rintro r w' ⟨hr, ha, hp, k, _⟩
  refine ⟨hr, ⟨⟨lv, R.turn k ha hj hp (fun i hi => by rcases hi with e | e; exact .inl e; exact .inr (.inr (.inl e)))⟩, k.heap h.own ?_, h.lg, h.l0, h.rep, h.len⟩, k⟩
  intro e
  rcases e with e | e
  · exact ne_of_type h.own R.ar.hb (by decide) e
  · exact ne_of_type h.own (R.po j p hj).1 (by decide) e
/-- The arena has gone ahead of the law's own cells. -/
structure SerialAhead (w0 w : World) (Y b gc gl NN : Nat) (cells : List Int) (log : List Acc) (m : Acc) (i : Nat) (pv : Value) (ps : List Nat) (gs : Nat → Bool) : Prop where
  ex : ∃ lv, Room w0 w Y b gc lv (seSt (cells.set i m.left) (log ++ [m])) pv ps gs
  own : w.heap[gl]? = some (wordsObj cells)
  lg : gl ≠ gc
  l0 : w0.heap.size ≤ gl
  rep : replay (List.replicate NN 0) (log ++ [m]) 0 = (-1, cells.set i m.left)
  len : cells.length = NN
theorem SerialIs.acc {w0 w w' : World} {Y b gc gl NN : Nat} {cells : List Int} {log : List Acc} {pv : Value} {ps : List Nat} {gs : Nat → Bool} (h : SerialIs w0 w Y b gc gl NN cells log pv ps gs) {lv : Value} (R : Room w0 w Y b gc lv (seSt cells log) pv ps gs) {j p : Nat} (hj : ps[j]? = some p)
    (o : Opr) {i : Nat} (hi : i < cells.length) (hp : AccPost w w' Y b gc p lv (seSt cells log) j i (doM o j i (nth cells i))) :
    SerialAhead w0 w' Y b gc gl NN cells log (doM o j i (nth cells i)) i pv ps (fun i => if i = j then false else gs i) ∧ Chg (accSet b gc p lv) w w' := by
  obtain ⟨lv', R', k⟩ := R.acc hj hp
  have e : (seSt cells log).made i (doM o j i (nth cells i)) = seSt (cells.set i (doM o j i (nth cells i)).left) (log ++ [doM o j i (nth cells i)]) := by
    simp [Ast.made, seSt]
  rw [e] at R'
  refine ⟨⟨⟨lv', R'⟩, k.heap h.own ?_, h.lg, h.l0, replay_snoc h.rep o j i hi, h.len⟩, k⟩
  intro e
  rcases e with e | e | e | e
  · exact ne_of_type h.own R.ar.hb (by decide) e
  · exact h.lg e
  · exact ne_of_type h.own (R.po j p hj).1 (by decide) e
  · obtain ⟨cur, hc⟩ := own_type R.ar.hl e
    exact ne_of_type h.own hc (by decide) rfl
/-- Written into the law's own cells as well. -/
theorem SerialAhead.done {w0 w : World} {Y b gc gl NN : Nat} {cells : List Int} {log : List Acc} {m : Acc} {i : Nat} {pv : Value} {ps : List Nat} {gs : Nat → Bool} (h : SerialAhead w0 w Y b gc gl NN cells log m i pv ps gs) (x : Int) (hx : x = m.left) :
    SerialIs w0 (w.setCell ⟨gl, i, none⟩ (.int .u64 x)) Y b gc gl NN (cells.set i m.left) (log ++ [m]) pv ps gs := by
  subst hx
  obtain ⟨lv, R⟩ := h.ex
  have k2 : Chg (fun j => j = gl) w (w.setCell ⟨gl, i, none⟩ (.int .u64 m.left)) := (Chg.refl (fun j => j = gl) w).put gl i _ rfl
  have hb : gl ≠ b := ne_of_type h.own R.ar.hb (by decide)
  have ha2 := R.ar.kept k2 (fun e => hb e.symm) (fun e => h.lg e.symm) (fun j hj e => by
    obtain ⟨cur2, hc2⟩ := own_type R.ar.hl hj
    exact ne_of_type hc2 h.own (by decide) e)
  refine ⟨⟨lv, ⟨ha2, ?_, ?_, k2.below R.bel (fun j hj => by rw [hj]; exact h.l0) R.bel.size, R.b0, R.g0⟩⟩, words_set h.own i m.left, h.lg, h.l0, h.rep, by simp [h.len]⟩
  · refine ownsRow_block R.row (fun j hj => k2.block j (owns_lt R.row hj).2 (fun e => ?_))
    obtain ⟨cur2, hc2⟩ := own_type R.row hj
    exact ne_of_type hc2 h.own (by decide) e
  · intro j p hj
    exact ⟨k2.heap (R.po j p hj).1 (fun e => ne_of_type (R.po j p hj).1 h.own (by decide) e), (R.po j p hj).2⟩
/-- Where the access leaves the cell as it was nothing is written. -/
theorem SerialAhead.same {w0 w : World} {Y b gc gl NN : Nat} {cells : List Int} {log : List Acc} {m : Acc} {i : Nat} {pv : Value} {ps : List Nat} {gs : Nat → Bool} (h : SerialAhead w0 w Y b gc gl NN cells log m i pv ps gs) (hm : m.left = nth cells i) (hi : i < cells.length) :
    SerialIs w0 w Y b gc gl NN cells (log ++ [m]) pv ps gs := by
  have e : cells.set i m.left = cells := by
    rw [hm]
    apply List.ext_getElem?
    intro j
    rw [List.getElem?_set]
    split
    · rename_i hij
      subst hij
      simp [nth, List.getD, List.getElem?_eq_getElem hi]
    · rfl
  have h1 := h.ex
  have h2 := h.rep
  rw [e] at h1 h2
  exact ⟨h1, h.own, h.lg, h.l0, h2, h.len⟩
end Go.Proofs.Ytfgchkkljlbmcaa
