/- ArenaTold: a log spoilt in one access; what the loop keeps. -/
import Derived.Test.YtfgchkkljlbmcaaDoMade
import Derived.Test.YtfgchkkljlbmcaaOpen
import Derived.Laws.BitsAllLaws
namespace Go.Proofs.Ytfgchkkljlbmcaa
open Go.RowKit Go.Lib Go.MuLone

/-- At each place of a log that comes out. -/
theorem replay_at : ∀ (l : List Acc) (cs : List Int) (k i : Nat) (a : Acc), (replay cs l k).1 = -1 → l[i]? = some a →
    ∃ cs', (∀ x, replay cs (l.set i x) k = replay cs' (x :: l.drop (i + 1)) (k + i)) ∧ (0 ≤ a.cell ∧ a.cell < cs'.length) ∧ known a.kind = true ∧ carry a (nth cs' a.cell.toNat) = a ∧ (replay (cs'.set a.cell.toNat a.left) (l.drop (i + 1)) (k + i + 1)).1 = -1
  | [], cs, k, i, a, _, h => by simp at h
  | b :: l, cs, k, 0, a, h, ha => by
    simp at ha
    subst ha
    rw [replay] at h
    split at h
    · rename_i h1
      split at h
      · rename_i h2
        rw [Bool.and_eq_true] at h2
        have h3 := (accEq_iff _ _).1 h2.2
        refine ⟨cs, fun x => by simp, h1, h2.1, h3, ?_⟩
        have e : (carry b (nth cs b.cell.toNat)).left = b.left := by rw [h3]
        rw [e] at h
        simpa using h
      · simp at h
    · simp at h
  | b :: l, cs, k, i + 1, a, h, ha => by
    rw [replay] at h
    split at h
    · rename_i h1
      split at h
      · rename_i h2
        obtain ⟨cs', q1, q2, q3, q4, q5⟩ := replay_at l _ (k + 1) i a h (by simpa using ha)
        refine ⟨cs', fun x => ?_, q2, q3, q4, ?_⟩
        · simp only [List.set_cons_succ]
          rw [replay, if_pos h1, if_pos h2, q1 x]
          simp only [List.drop_succ_cons]
          congr 1
          omega
        · simp only [List.drop_succ_cons]
          rw [show k + (i + 1) + 1 = k + 1 + i + 1 by omega]
          exact q5
      · simp at h
    · simp at h

theorem carry_same (a : Acc) (s l : Int) (o : Bool) (seen : Int) : carry ⟨a.who, a.kind, a.cell, a.want, a.put, s, l, o⟩ seen = carry a seen := by
  unfold carry; rfl
theorem carry_who (a : Acc) (v seen : Int) (h : carry a seen = a) : carry ⟨v, a.kind, a.cell, a.want, a.put, a.seen, a.left, a.ok⟩ seen = ⟨v, a.kind, a.cell, a.want, a.put, a.seen, a.left, a.ok⟩ ∨ known a.kind = false := by
  obtain ⟨a0, a1, a2, a3, a4, a5, a6, a7⟩ := a
  unfold carry at *
  simp only at *
  split at h
  · left; rename_i h1; rw [if_pos h1]; simp at h ⊢; exact h
  split at h
  · left; rename_i h1 h2; rw [if_neg h1, if_pos h2]; simp at h ⊢; exact h
  split at h
  · left; rename_i h1 h2 h3; rw [if_neg h1, if_neg h2, if_pos h3]; simp at h ⊢; exact h
  split at h
  · left; rename_i h1 h2 h3 h4; rw [if_neg h1, if_neg h2, if_neg h3, if_pos h4]; simp at h ⊢; exact h
  · right; rename_i h1 h2 h3 h4
    simp only [known, decide_eq_false_iff_not]
    omega

variable {cs0 cells : List Int} {log : List Acc} {i : Nat} {a : Acc}
theorem told_same (h : replay cs0 log 0 = (-1, cells)) (ha : log[i]? = some a) (s l : Int) (o : Bool) (hne : (⟨a.who, a.kind, a.cell, a.want, a.put, s, l, o⟩ : Acc) ≠ a) :
    (replay cs0 (log.set i ⟨a.who, a.kind, a.cell, a.want, a.put, s, l, o⟩) 0).1 = i := by
  obtain ⟨cs', q1, q2, q3, q4, _⟩ := replay_at log cs0 0 i a (by rw [h]) ha
  rw [q1, replay, if_pos q2]
  simp only
  rw [carry_same, q4, if_neg]
  · simp
  · rw [Bool.and_eq_true]
    rintro ⟨_, h2⟩
    exact hne ((accEq_iff _ _).1 h2).symm
theorem told_cell (h : replay cs0 log 0 = (-1, cells)) (ha : log[i]? = some a) (x : Acc) (hx : x.cell < 0) : (replay cs0 (log.set i x) 0).1 = i := by
  obtain ⟨cs', q1, _⟩ := replay_at log cs0 0 i a (by rw [h]) ha
  rw [q1, replay, if_neg (by omega)]
  simp
theorem told_kind (h : replay cs0 log 0 = (-1, cells)) (ha : log[i]? = some a) (x : Acc) (hx : known x.kind = false) : (replay cs0 (log.set i x) 0).1 = i := by
  obtain ⟨cs', q1, _⟩ := replay_at log cs0 0 i a (by rw [h]) ha
  rw [q1, replay]
  split
  · rw [hx]; simp
  · simp
theorem told_who (h : replay cs0 log 0 = (-1, cells)) (ha : log[i]? = some a) (v : Int) : (replay cs0 (log.set i ⟨v, a.kind, a.cell, a.want, a.put, a.seen, a.left, a.ok⟩) 0).1 = -1 := by
  obtain ⟨cs', q1, q2, q3, q4, q5⟩ := replay_at log cs0 0 i a (by rw [h]) ha
  have hc : carry ⟨v, a.kind, a.cell, a.want, a.put, a.seen, a.left, a.ok⟩ (nth cs' a.cell.toNat) = ⟨v, a.kind, a.cell, a.want, a.put, a.seen, a.left, a.ok⟩ := by
    rcases carry_who a v _ q4 with h | h
    · exact h
    · rw [q3] at h; cases h
  rw [q1, replay, if_pos q2]
  simp only
  rw [hc, q3, (accEq_iff _ _).2 rfl]
  simpa using q5

/-- Words and ports' numbers. -/
structure AccOk (a : Acc) : Prop where
  w0 : 0 ≤ a.who
  w1 : a.who < 4
  s0 : 0 ≤ a.seen
  s1 : a.seen < 18446744073709551616
  l0 : 0 ≤ a.left
  l1 : a.left < 18446744073709551616
def WordsOk (cells : List Int) : Prop := ∀ x ∈ cells, 0 ≤ x ∧ x < 18446744073709551616
theorem WordsOk.nth {cells : List Int} (h : WordsOk cells) (i : Nat) : 0 ≤ nth cells i ∧ nth cells i < 18446744073709551616 := by
  unfold Ytfgchkkljlbmcaa.nth
  rcases Nat.lt_or_ge i cells.length with hi | hi
  · rw [List.getD_eq_getElem?_getD, List.getElem?_eq_getElem hi]
    exact h _ (List.getElem_mem hi)
  · rw [List.getD_eq_getElem?_getD, List.getElem?_eq_none hi]
    simp
theorem doM_ok {o : Opr} (ho : o.Ok) {who : Int} (h0 : 0 ≤ who) (h1 : who < 4) (i : Nat) {seen : Int} (s0 : 0 ≤ seen) (s1 : seen < 18446744073709551616) : AccOk (doM o who i seen) := by
  have hp := ho.put0
  have hp1 := ho.put1
  unfold doM
  split
  · exact ⟨h0, h1, s0, s1, s0, s1⟩
  split
  · exact ⟨h0, h1, s0, s1, hp, hp1⟩
  split
  · refine ⟨h0, h1, s0, s1, ?_, ?_⟩
    · show 0 ≤ (if seen = o.want then o.put else seen); split <;> omega
    · show (if seen = o.want then o.put else seen) < _; split <;> omega
  split
  · refine ⟨h0, h1, s0, s1, ?_, ?_⟩
    · show 0 ≤ IntKind.u64.wrap (seen + o.put); rw [IntKind.wrap_u64]; omega
    · show IntKind.u64.wrap (seen + o.put) < _; rw [IntKind.wrap_u64]; omega
  · exact ⟨h0, h1, s0, s1, hp, hp1⟩

structure ToldIs (w0 w : World) (Y b gc NN : Nat) (cells : List Int) (log : List Acc) (pv : Value) (ps : List Nat) (gs : Nat → Bool) : Prop where
  ex : ∃ lv, Room w0 w Y b gc lv (seSt cells log) pv ps gs
  rep : replay (List.replicate NN 0) log 0 = (-1, cells)
  len : cells.length = NN
  wok : WordsOk cells
  lok : ∀ x ∈ log, AccOk x
theorem ToldIs.look {w0 w w' : World} {Y b gc NN : Nat} {cells : List Int} {log : List Acc} {pv : Value} {ps : List Nat} {gs : Nat → Bool} (h : ToldIs w0 w Y b gc NN cells log pv ps gs) {lv : Value} (ha : AIs w' Y b gc lv (seSt cells log)) (k : Chg (fun j => j = b) w w') :
    ToldIs w0 w' Y b gc NN cells log pv ps gs := by
  obtain ⟨lv0, R⟩ := h.ex
  exact ⟨⟨lv, R.look k ha (fun i hi => .inl hi)⟩, h.rep, h.len, h.wok, h.lok⟩
theorem ToldIs.news {w0 w w' : World} {Y b gc NN : Nat} {cells : List Int} {log : List Acc} {pv : Value} {ps : List Nat} {gs : Nat → Bool} (h : ToldIs w0 w Y b gc NN cells log pv ps gs) (k : Below w.heap.size w w') : ToldIs w0 w' Y b gc NN cells log pv ps gs := by
  obtain ⟨lv0, R⟩ := h.ex
  exact ⟨⟨lv0, R.news k⟩, h.rep, h.len, h.wok, h.lok⟩
theorem ToldIs.grant {w0 w : World} {Y b gc NN : Nat} {cells : List Int} {log : List Acc} {pv : Value} {ps : List Nat} {gs : Nat → Bool} (h : ToldIs w0 w Y b gc NN cells log pv ps gs) {j p : Nat} (hj : ps[j]? = some p) :
    Calls Try.prog 21 #[.pointer (some ⟨p, 0, none⟩)] w fun r w' => r = .returned (.tuple #[]) ∧ ToldIs w0 w' Y b gc NN cells log pv ps (fun i => if i = j then true else gs i) ∧ Chg (fun k => k = b ∨ k = p) w w' := by
  obtain ⟨lv, R⟩ := h.ex
  refine (grant_any p Y b gc lv _ j (gs j) w R.ar (R.po j p hj).1 (R.pb hj) (R.pg hj) (R.pl hj)).mono ?_
  rintro r w' ⟨hr, ha, hp, k, _⟩
  exact ⟨hr, ⟨⟨lv, R.turn k ha hj hp (fun i hi => by rcases hi with e | e; exact .inl e; exact .inr (.inr (.inl e)))⟩, h.rep, h.len, h.wok, h.lok⟩, k⟩
theorem ToldIs.acc {w0 w w' : World} {Y b gc NN : Nat} {cells : List Int} {log : List Acc} {pv : Value} {ps : List Nat} {gs : Nat → Bool} (h : ToldIs w0 w Y b gc NN cells log pv ps gs) {lv : Value} (R : Room w0 w Y b gc lv (seSt cells log) pv ps gs) {j p : Nat} (hj : ps[j]? = some p) (hj4 : j < 4)
    (o : Opr) (ho : o.Ok) {i : Nat} (hi : i < cells.length) (hp : AccPost w w' Y b gc p lv (seSt cells log) j i (doM o j i (nth cells i))) :
    ToldIs w0 w' Y b gc NN (cells.set i (doM o j i (nth cells i)).left) (log ++ [doM o j i (nth cells i)]) pv ps (fun i => if i = j then false else gs i) ∧ Chg (accSet b gc p lv) w w' := by
  obtain ⟨lv', R', k⟩ := R.acc hj hp
  have e : (seSt cells log).made i (doM o j i (nth cells i)) = seSt (cells.set i (doM o j i (nth cells i)).left) (log ++ [doM o j i (nth cells i)]) := by
    simp [Ast.made, seSt]
  rw [e] at R'
  have hok := doM_ok ho (show (0 : Int) ≤ (j : Int) by omega) (show (j : Int) < 4 by omega) i (h.wok.nth i).1 (h.wok.nth i).2
  refine ⟨⟨⟨lv', R'⟩, replay_snoc h.rep o j i hi, by simp [h.len], ?_, ?_⟩, k⟩
  · intro x hx
    rcases List.mem_or_eq_of_mem_set hx with hx | hx
    · exact h.wok x hx
    · subst hx; exact ⟨hok.l0, hok.l1⟩
  · intro x hx
    rcases List.mem_append.1 hx with hx | hx
    · exact h.lok x hx
    · simp at hx; subst hx; exact hok
end Go.Proofs.Ytfgchkkljlbmcaa
