/- A side: an arena with its ports and, beside it, the document's: in memory. -/
import Derived.Test.YtfgchkkljlbmcaaRefPort
import Derived.Test.YtfgchkkljlbmcaaZeros
namespace Go.Proofs.Ytfgchkkljlbmcaa
open Go.RowKit Go.Lib Go.MuLone
set_option linter.unusedVariables false
/-- A block's type. -/
def TyAt (w : World) (k : Nat) (t : TypeId) : Prop := ∃ cs fr, w.heap[k]? = some (.cells cs t fr)
theorem TyAt.ne {w : World} {a b : Nat} {s t : TypeId} (ha : TyAt w a s) (hb : TyAt w b t) (h : s ≠ t) : a ≠ b := by
  obtain ⟨x, f, ha⟩ := ha
  obtain ⟨y, g, hb⟩ := hb
  exact ne_of_type ha hb h
theorem own_ty {w : World} {Y n z : Nat} {e : TypeId} {v : Value} {l : List Value} (h : w.ownsRow Y e z v n l) {k : Nat} (hk : v.ownBlock = some k) : TyAt w k e := by
  obtain ⟨cur, hc⟩ := own_type h hk
  exact ⟨cur, _, hc⟩
/-- The program's arena of s with the grants gs, the document's of r with the grants has; F: the blocks that they have. -/
structure Sd (w : World) (F : Nat → Prop) (x b gc q rb rgc Y : Nat) (lv rlv pv wv hv : Value) (s r : Ast) (ps : List Nat) (whos : List Int) (gs has : List Bool) : Prop where
  sb : w.heap[x]? = some (.cells #[.pointer (some ⟨b, 0, none⟩), pv, .pointer (some ⟨q, 0, none⟩)] 105 (0, 0))
  ar : AIs w Y b gc lv s
  re : RIs w Y rb rgc rlv r
  qo : QIs w Y q rb wv hv whos has
  row : w.ownsRow Y 48 1 pv ps.length (ptrs ps)
  po : ∀ (j p : Nat) (who : Int) (g : Bool), ps[j]? = some p → whos[j]? = some who → gs[j]? = some g → w.heap[p]? = some (PObj b who g)
  pn : ps.Nodup
  le : ps.length = whos.length
  lg : gs.length = whos.length
  cne : gc ≠ rgc
  lne : ∀ j, lv.ownBlock = some j → rlv.ownBlock ≠ some j
  fx : F x
  fb : F b
  fgc : F gc
  fq : F q
  frb : F rb
  frg : F rgc
  flv : ∀ j, lv.ownBlock = some j → F j
  frl : ∀ j, rlv.ownBlock = some j → F j
  fpv : ∀ j, pv.ownBlock = some j → F j
  fwv : ∀ j, wv.ownBlock = some j → F j
  fhv : ∀ j, hv.ownBlock = some j → F j
  fps : ∀ p ∈ ps, F p
  fl : ∀ k, F k → k < w.heap.size
variable {w w' : World} {F : Nat → Prop} {x b gc q rb rgc Y : Nat} {lv rlv pv wv hv : Value} {s r : Ast} {ps : List Nat} {whos : List Int} {gs has : List Bool}
theorem Sd.tx (h : Sd w F x b gc q rb rgc Y lv rlv pv wv hv s r ps whos gs has) : TyAt w x 105 := ⟨_, _, h.sb⟩
theorem Sd.tb (h : Sd w F x b gc q rb rgc Y lv rlv pv wv hv s r ps whos gs has) : TyAt w b 91 := ⟨_, _, h.ar.hb⟩
theorem Sd.tgc (h : Sd w F x b gc q rb rgc Y lv rlv pv wv hv s r ps whos gs has) : TyAt w gc 29 := ⟨_, _, h.ar.hc⟩
theorem Sd.tq (h : Sd w F x b gc q rb rgc Y lv rlv pv wv hv s r ps whos gs has) : TyAt w q 103 := ⟨_, _, h.qo.hq⟩
theorem Sd.trb (h : Sd w F x b gc q rb rgc Y lv rlv pv wv hv s r ps whos gs has) : TyAt w rb 107 := ⟨_, _, h.re.hb⟩
theorem Sd.trg (h : Sd w F x b gc q rb rgc Y lv rlv pv wv hv s r ps whos gs has) : TyAt w rgc 29 := ⟨_, _, h.re.hc⟩
theorem Sd.tlv (h : Sd w F x b gc q rb rgc Y lv rlv pv wv hv s r ps whos gs has) {j : Nat} (e : lv.ownBlock = some j) : TyAt w j 31 := own_ty h.ar.hl e
theorem Sd.trl (h : Sd w F x b gc q rb rgc Y lv rlv pv wv hv s r ps whos gs has) {j : Nat} (e : rlv.ownBlock = some j) : TyAt w j 31 := own_ty h.re.hl e
theorem Sd.tpv (h : Sd w F x b gc q rb rgc Y lv rlv pv wv hv s r ps whos gs has) {j : Nat} (e : pv.ownBlock = some j) : TyAt w j 48 := own_ty h.row e
theorem Sd.twv (h : Sd w F x b gc q rb rgc Y lv rlv pv wv hv s r ps whos gs has) {j : Nat} (e : wv.ownBlock = some j) : TyAt w j 3 := own_ty h.qo.hw e
theorem Sd.thv (h : Sd w F x b gc q rb rgc Y lv rlv pv wv hv s r ps whos gs has) {j : Nat} (e : hv.ownBlock = some j) : TyAt w j 4 := own_ty h.qo.hh e
theorem Sd.at_ (h : Sd w F x b gc q rb rgc Y lv rlv pv wv hv s r ps whos gs has) {j : Nat} (hj : j < ps.length) : ∃ p who g, ps[j]? = some p ∧ whos[j]? = some who ∧ gs[j]? = some g ∧ w.heap[p]? = some (PObj b who g) := by
  have h1 : j < whos.length := by have := h.le; omega
  have h2 : j < gs.length := by have := h.lg; omega
  exact ⟨ps[j], whos[j], gs[j], by simp [hj], by simp [h1], by simp [h2], h.po j _ _ _ (by simp [hj]) (by simp [h1]) (by simp [h2])⟩
theorem Sd.tp (h : Sd w F x b gc q rb rgc Y lv rlv pv wv hv s r ps whos gs has) {j p : Nat} (hj : ps[j]? = some p) : TyAt w p 93 := by
  have hl := (List.getElem?_eq_some_iff.1 hj).1
  obtain ⟨p', who, g, e1, e2, e3, e4⟩ := h.at_ hl
  rw [hj] at e1
  cases e1
  exact ⟨_, _, e4⟩
theorem nodup_at {ps : List Nat} (hn : ps.Nodup) {i j p : Nat} (hi : ps[i]? = some p) (hj : ps[j]? = some p) : i = j := by
  obtain ⟨h1, e1⟩ := List.getElem?_eq_some_iff.1 hi
  obtain ⟨h2, e2⟩ := List.getElem?_eq_some_iff.1 hj
  rcases Nat.lt_trichotomy i j with h | h | h
  · exact absurd (e1.trans e2.symm) ((List.pairwise_iff_getElem.1 hn) i j h1 h2 h)
  · exact h
  · exact absurd (e2.trans e1.symm) ((List.pairwise_iff_getElem.1 hn) j i h2 h1 h)
/-- With the blocks that are new. -/
def nxF (F : Nat → Prop) (w w' : World) (k : Nat) : Prop := F k ∨ (w.heap.size ≤ k ∧ k < w'.heap.size)
/-- The program's side turns: its arena and one port. -/
theorem Sd.turnA (h : Sd w F x b gc q rb rgc Y lv rlv pv wv hv s r ps whos gs has) {S : Nat → Prop} (k : Chg S w w') {lv' : Value} {s' : Ast} (ha : AIs w' Y b gc lv' s') {j p : Nat} {who : Int} {g : Bool} (hj : ps[j]? = some p) (hwh : whos[j]? = some who) (hp : w'.heap[p]? = some (PObj b who g))
    (hS : ∀ i, S i → i = b ∨ i = gc ∨ i = p ∨ lv.ownBlock = some i) (hl : lv'.ownBlock = lv.ownBlock ∨ ∃ g, lv'.ownBlock = some g ∧ w.heap.size ≤ g) :
    Sd w' (nxF F w w') x b gc q rb rgc Y lv' rlv pv wv hv s' r ps whos (gs.set j g) has := by
  have hpt := h.tp hj
  have no : ∀ {i : Nat} {t : TypeId}, TyAt w i t → t ≠ 91 → t ≠ 29 → t ≠ 93 → t ≠ 31 → ¬ S i := fun ht h1 h2 h3 h4 e => by
    rcases hS _ e with e | e | e | e
    · exact ht.ne h.tb h1 e
    · exact ht.ne h.tgc h2 e
    · exact ht.ne hpt h3 e
    · exact ht.ne (h.tlv e) h4 rfl
  have nrg : ¬ S rgc := fun e => by
    rcases hS _ e with e | e | e | e
    · exact h.trg.ne h.tb (by decide) e
    · exact h.cne e.symm
    · exact h.trg.ne hpt (by decide) e
    · exact h.trg.ne (h.tlv e) (by decide) rfl
  have nrl : ∀ i, rlv.ownBlock = some i → ¬ S i := fun i hi e => by
    rcases hS _ e with e | e | e | e
    · exact (h.trl hi).ne h.tb (by decide) e
    · exact (h.trl hi).ne h.tgc (by decide) e
    · exact (h.trl hi).ne hpt (by decide) e
    · exact h.lne i e hi
  refine ⟨k.heap h.sb (no h.tx (by decide) (by decide) (by decide) (by decide)), ha, h.re.kept k (no h.trb (by decide) (by decide) (by decide) (by decide)) nrg nrl,
    h.qo.kept k (no h.tq (by decide) (by decide) (by decide) (by decide)) (fun i hi => no (h.twv hi) (by decide) (by decide) (by decide) (by decide)) (fun i hi => no (h.thv hi) (by decide) (by decide) (by decide) (by decide)),
    ownsRow_block h.row (fun i hi => k.block i (owns_lt h.row hi).2 (no (h.tpv hi) (by decide) (by decide) (by decide) (by decide))), ?_, h.pn, h.le, by rw [List.length_set]; exact h.lg, h.cne, ?_,
    .inl h.fx, .inl h.fb, .inl h.fgc, .inl h.fq, .inl h.frb, .inl h.frg, ?_, fun j e => .inl (h.frl j e), fun j e => .inl (h.fpv j e), fun j e => .inl (h.fwv j e), fun j e => .inl (h.fhv j e), fun p e => .inl (h.fps p e), ?_⟩
  · intro i p' who' g' hi hw' hg'
    by_cases hij : i = j
    · subst hij
      rw [hj] at hi
      rw [hwh] at hw'
      cases hi
      cases hw'
      have hlt : i < gs.length := by have := (List.getElem?_eq_some_iff.1 hj).1; have := h.le; have := h.lg; omega
      rw [List.getElem?_set_self hlt] at hg'
      cases hg'
      exact hp
    · rw [List.getElem?_set_ne (fun e => hij e.symm)] at hg'
      refine k.heap (h.po i p' who' g' hi hw' hg') (fun e => ?_)
      rcases hS _ e with e | e | e | e
      · exact (h.tp hi).ne h.tb (by decide) e
      · exact (h.tp hi).ne h.tgc (by decide) e
      · subst e; exact hij (nodup_at h.pn hi hj)
      · exact (h.tp hi).ne (h.tlv e) (by decide) rfl
  · intro i hi
    rcases hl with e | ⟨g', e, hg'⟩
    · rw [e] at hi; exact h.lne i hi
    · rw [e] at hi
      cases hi
      intro e2
      have := (owns_lt h.re.hl e2).2
      omega
  · intro i hi
    have hlt := (owns_lt ha.hl hi).2
    rcases hl with e | ⟨g', e, hg'⟩
    · rw [e] at hi; exact .inl (h.flv i hi)
    · rw [e] at hi
      cases hi
      exact .inr ⟨hg', hlt⟩
  · intro i hi
    rcases hi with hi | hi
    · exact Nat.lt_of_lt_of_le (h.fl i hi) k.size
    · exact hi.2
/-- The program's arena alone turns. -/
theorem Sd.lookA (h : Sd w F x b gc q rb rgc Y lv rlv pv wv hv s r ps whos gs has) {S : Nat → Prop} (k : Chg S w w') {s' : Ast} (ha : AIs w' Y b gc lv s') (hS : ∀ i, S i → i = b ∨ i = gc) :
    Sd w' (nxF F w w') x b gc q rb rgc Y lv rlv pv wv hv s' r ps whos gs has := by
  have no : ∀ {i : Nat} {t : TypeId}, TyAt w i t → t ≠ 91 → t ≠ 29 → ¬ S i := fun ht h1 h2 e => by
    rcases hS _ e with e | e
    · exact ht.ne h.tb h1 e
    · exact ht.ne h.tgc h2 e
  have nrg : ¬ S rgc := fun e => by
    rcases hS _ e with e | e
    · exact h.trg.ne h.tb (by decide) e
    · exact h.cne e.symm
  exact ⟨k.heap h.sb (no h.tx (by decide) (by decide)), ha, h.re.kept k (no h.trb (by decide) (by decide)) nrg (fun i hi => no (h.trl hi) (by decide) (by decide)),
    h.qo.kept k (no h.tq (by decide) (by decide)) (fun i hi => no (h.twv hi) (by decide) (by decide)) (fun i hi => no (h.thv hi) (by decide) (by decide)),
    ownsRow_block h.row (fun i hi => k.block i (owns_lt h.row hi).2 (no (h.tpv hi) (by decide) (by decide))), fun i p' who' g' hi hw' hg' => k.heap (h.po i p' who' g' hi hw' hg') (no (h.tp hi) (by decide) (by decide)), h.pn, h.le, h.lg, h.cne, h.lne,
    .inl h.fx, .inl h.fb, .inl h.fgc, .inl h.fq, .inl h.frb, .inl h.frg, fun j e => .inl (h.flv j e), fun j e => .inl (h.frl j e), fun j e => .inl (h.fpv j e), fun j e => .inl (h.fwv j e), fun j e => .inl (h.fhv j e), fun p e => .inl (h.fps p e),
    fun i hi => hi.elim (fun hi => Nat.lt_of_lt_of_le (h.fl i hi) k.size) (·.2)⟩
/-- The document's side turns. -/
theorem Sd.turnR (h : Sd w F x b gc q rb rgc Y lv rlv pv wv hv s r ps whos gs has) {S : Nat → Prop} (k : Chg S w w') {rlv' : Value} {r' : Ast} {has' : List Bool} (hr : RIs w' Y rb rgc rlv' r') (hq : QIs w' Y q rb wv hv whos has')
    (hS : ∀ i, S i → i = rb ∨ i = rgc ∨ rlv.ownBlock = some i ∨ hv.ownBlock = some i) (hl : rlv'.ownBlock = rlv.ownBlock ∨ ∃ g, rlv'.ownBlock = some g ∧ w.heap.size ≤ g) :
    Sd w' (nxF F w w') x b gc q rb rgc Y lv rlv' pv wv hv s r' ps whos gs has' := by
  have no : ∀ {i : Nat} {t : TypeId}, TyAt w i t → t ≠ 107 → t ≠ 29 → t ≠ 31 → t ≠ 4 → ¬ S i := fun ht h1 h2 h3 h4 e => by
    rcases hS _ e with e | e | e | e
    · exact ht.ne h.trb h1 e
    · exact ht.ne h.trg h2 e
    · exact ht.ne (h.trl e) h3 rfl
    · exact ht.ne (h.thv e) h4 rfl
  have ngc : ¬ S gc := fun e => by
    rcases hS _ e with e | e | e | e
    · exact h.tgc.ne h.trb (by decide) e
    · exact h.cne e
    · exact h.tgc.ne (h.trl e) (by decide) rfl
    · exact h.tgc.ne (h.thv e) (by decide) rfl
  have nlv : ∀ i, lv.ownBlock = some i → ¬ S i := fun i hi e => by
    rcases hS _ e with e | e | e | e
    · exact (h.tlv hi).ne h.trb (by decide) e
    · exact (h.tlv hi).ne h.trg (by decide) e
    · exact h.lne i hi e
    · exact (h.tlv hi).ne (h.thv e) (by decide) rfl
  refine ⟨k.heap h.sb (no h.tx (by decide) (by decide) (by decide) (by decide)), h.ar.kept k (no h.tb (by decide) (by decide) (by decide) (by decide)) ngc nlv, hr, hq,
    ownsRow_block h.row (fun i hi => k.block i (owns_lt h.row hi).2 (no (h.tpv hi) (by decide) (by decide) (by decide) (by decide))), fun i p' who' g' hi hw' hg' => k.heap (h.po i p' who' g' hi hw' hg') (no (h.tp hi) (by decide) (by decide) (by decide) (by decide)), h.pn, h.le, h.lg, h.cne, ?_,
    .inl h.fx, .inl h.fb, .inl h.fgc, .inl h.fq, .inl h.frb, .inl h.frg, fun j e => .inl (h.flv j e), ?_, fun j e => .inl (h.fpv j e), fun j e => .inl (h.fwv j e), fun j e => .inl (h.fhv j e), fun p e => .inl (h.fps p e),
    fun i hi => hi.elim (fun hi => Nat.lt_of_lt_of_le (h.fl i hi) k.size) (·.2)⟩
  · intro i hi
    rcases hl with e | ⟨g', e, hg'⟩
    · rw [e]; exact h.lne i hi
    · rw [e]
      intro e2
      cases e2
      have := (owns_lt h.ar.hl hi).2
      omega
  · intro i hi
    have hlt := (owns_lt hr.hl hi).2
    rcases hl with e | ⟨g', e, hg'⟩
    · rw [e] at hi; exact .inl (h.frl i hi)
    · rw [e] at hi
      cases hi
      exact .inr ⟨hg', hlt⟩
theorem Sd.news (h : Sd w F x b gc q rb rgc Y lv rlv pv wv hv s r ps whos gs has) (k : Below w.heap.size w w') : Sd w' (nxF F w w') x b gc q rb rgc Y lv rlv pv wv hv s r ps whos gs has :=
  h.lookA (S := fun _ => False) (Chg.of_below k) (h.ar.below k) (fun _ e => e.elim)
/-- Another's blocks turn. -/
theorem Sd.other (h : Sd w F x b gc q rb rgc Y lv rlv pv wv hv s r ps whos gs has) {S : Nat → Prop} (k : Chg S w w') (hS : ∀ i, F i → ¬ S i) : Sd w' F x b gc q rb rgc Y lv rlv pv wv hv s r ps whos gs has :=
  ⟨k.heap h.sb (hS _ h.fx), h.ar.kept k (hS _ h.fb) (hS _ h.fgc) (fun i e => hS _ (h.flv i e)), h.re.kept k (hS _ h.frb) (hS _ h.frg) (fun i e => hS _ (h.frl i e)), h.qo.kept k (hS _ h.fq) (fun i e => hS _ (h.fwv i e)) (fun i e => hS _ (h.fhv i e)),
    ownsRow_block h.row (fun i hi => k.block i (owns_lt h.row hi).2 (hS _ (h.fpv i hi))), fun i p' who' g' hi hw' hg' => k.heap (h.po i p' who' g' hi hw' hg') (hS _ (h.fps p' (List.mem_of_getElem? hi))), h.pn, h.le, h.lg, h.cne, h.lne,
    h.fx, h.fb, h.fgc, h.fq, h.frb, h.frg, h.flv, h.frl, h.fpv, h.fwv, h.fhv, h.fps, fun i hi => Nat.lt_of_lt_of_le (h.fl i hi) k.size⟩
/-- Any wider F. -/
theorem Sd.wide (h : Sd w F x b gc q rb rgc Y lv rlv pv wv hv s r ps whos gs has) {G : Nat → Prop} (hG : ∀ k, F k → G k) (hl : ∀ k, G k → k < w.heap.size) : Sd w G x b gc q rb rgc Y lv rlv pv wv hv s r ps whos gs has :=
  ⟨h.sb, h.ar, h.re, h.qo, h.row, h.po, h.pn, h.le, h.lg, h.cne, h.lne, hG _ h.fx, hG _ h.fb, hG _ h.fgc, hG _ h.fq, hG _ h.frb, hG _ h.frg, fun j e => hG _ (h.flv j e), fun j e => hG _ (h.frl j e), fun j e => hG _ (h.fpv j e), fun j e => hG _ (h.fwv j e), fun j e => hG _ (h.fhv j e), fun p e => hG _ (h.fps p e), hl⟩
end Go.Proofs.Ytfgchkkljlbmcaa
