/- ArenaFresh: the arena, the lists, and all else that must stay. -/
import Derived.Test.YtfgchkkljlbmcaaFb
import Derived.Test.YtfgchkkljlbmcaaCopied
import Derived.Deep.Cut
import Derived.Deep.CutRange
import Derived.BigQuiet
namespace Go.Proofs.Ytfgchkkljlbmcaa
open Go.RowKit Go.Lib Go.MuLone
set_option linter.unusedVariables false
set_option linter.unusedSimpArgs false
/-- What is known of the arena behind k operations. -/
structure SC (s : Ast) (NN k : Nat) : Prop where
  st : s.stopped = false
  ce : s.cells.length = NN
  co : s.count = (s.log.length : Int)
  lo : s.log.length ≤ k
  ke : s.keep = true
theorem SC.made {s : Ast} {NN k i : Nat} {m : Acc} (h : SC s NN k) : SC (s.made i m) NN (k + 1) := by
  refine ⟨h.st, by simp [Ast.made, h.ce], ?_, ?_, h.ke⟩
  · simp [Ast.made, h.ke, h.co]
  · simp [Ast.made, h.ke]; exact h.lo
theorem SC.more {s : Ast} {NN k : Nat} (h : SC s NN k) : SC s NN (k + 1) := ⟨h.st, h.ce, h.co, Nat.le_succ_of_le h.lo, h.ke⟩
/-- The arena, all below Z. -/
structure AZ (w0 W : World) (Z Y b gc : Nat) (s : Ast) : Prop where
  ex : ∃ lv, AIs W Y b gc lv s ∧ ∀ g, lv.ownBlock = some g → g < Z
  bZ : b < Z
  gZ : gc < Z
  b0 : w0.heap.size ≤ b
  bel : Below w0.heap.size w0 W
  zW : Z ≤ W.heap.size
  Z0 : w0.heap.size ≤ Z
theorem AZ.of_room {w0 W : World} {Y b gc : Nat} {lv pv : Value} {s : Ast} {ps : List Nat} {gs : Nat → Bool} (h : Room w0 W Y b gc lv s pv ps gs) : AZ w0 W W.heap.size Y b gc s :=
  ⟨⟨lv, h.ar, fun g e => (owns_lt h.ar.hl e).2⟩, lt_of_heap h.ar.hb, lt_of_heap h.ar.hc, h.b0, h.bel, Nat.le_refl _, h.bel.size⟩
section
variable {w0 W W' : World} {Z Y b gc : Nat} {s : Ast}
/-- All below Z stays. -/
theorem AZ.keep (h : AZ w0 W Z Y b gc s) (hz : ∀ j, j < Z → W'.heap[j]? = W.heap[j]?) (hb : Below w0.heap.size w0 W') (hs : W.heap.size ≤ W'.heap.size) : AZ w0 W' Z Y b gc s := by
  obtain ⟨lv, ha, hl⟩ := h.ex
  exact ⟨⟨lv, ⟨(hz b h.bZ).trans ha.hb, (hz gc h.gZ).trans ha.hc, ownsRow_block ha.hl fun i hi => hz i (hl i hi), ha.bY, ha.gY, ha.ne, ha.len, Nat.le_trans ha.yw hs⟩, hl⟩, h.bZ, h.gZ, h.b0, hb, Nat.le_trans h.zW hs, h.Z0⟩
theorem AZ.below (h : AZ w0 W Z Y b gc s) (k : Below W.heap.size W W') : AZ w0 W' Z Y b gc s :=
  h.keep (fun j hj => k.block j (Nat.lt_of_lt_of_le hj h.zW)) (h.bel.trans (k.mono h.bel.size)) k.size
theorem AZ.image (h : AZ w0 W Z Y b gc s) : Calls Try.prog 26 #[.pointer (some ⟨b, 0, none⟩)] W fun r w' => ∃ v', r = .returned v' ∧ w'.ownsRow W.heap.size 29 1 v' s.cells.length (s.cells.map (Value.int .u64)) ∧ AZ w0 w' Z Y b gc s ∧ Chg (fun j => j = b) W w' := by
  obtain ⟨lv, ha, hl⟩ := h.ex
  refine (image_any _ _ _ _ _ W ha).mono ?_
  rintro e w' ⟨v', rfl, h1, h2, h3⟩
  exact ⟨v', rfl, h1, ⟨⟨lv, h2, hl⟩, h.bZ, h.gZ, h.b0, h3.below h.bel (fun j hj => by rw [hj]; exact h.b0) h.bel.size, Nat.le_trans h.zW h3.size, h.Z0⟩, h3⟩
theorem AZ.log (h : AZ w0 W Z Y b gc s) (hbig : s.log.length * 64 ≤ 140737488355328) : Calls Try.prog 24 #[.pointer (some ⟨b, 0, none⟩)] W fun r w' => ∃ v', r = .returned v' ∧ w'.ownsRow W.heap.size 31 8 v' s.log.length (logCells s.log) ∧ AZ w0 w' Z Y b gc s ∧ Chg (fun j => j = b) W w' := by
  obtain ⟨lv, ha, hl⟩ := h.ex
  refine (log_any _ _ _ _ _ W ha hbig).mono ?_
  rintro e w' ⟨v', rfl, h1, h2, h3⟩
  exact ⟨v', rfl, h1, ⟨⟨lv, h2, hl⟩, h.bZ, h.gZ, h.b0, h3.below h.bel (fun j hj => by rw [hj]; exact h.b0) h.bel.size, Nat.le_trans h.zW h3.size, h.Z0⟩, h3⟩
end
theorem ostep {W : World} {b S z n : Nat} {e : TypeId} {v : Value} {l : List Value} (h : W.ownsRow S e z v n l) (hb : b < S) (X : World) (c : Chg (fun j => j = b) W X) : X.ownsRow S e z v n l :=
  ownsRow_block h fun i hi => c.block i (owns_lt h hi).2 (by have := (owns_lt h hi).1; omega)
theorem OW.len {W : World} {B N : Nat} {v : Value} {R : List Int} (h : W.ownsRow B 29 1 v N (R.map (Value.int .u64))) : R.length = N := by
  have := h.1; simpa using this
theorem two_of {ps : List Nat} (h : ps.length = 2) : ∃ a b, ps = [a, b] := by
  match ps, h with
  | [a, b], _ => exact ⟨a, b, rfl⟩
theorem acells {w : World} {A : Nat} {kind port cell want put xa xb xc : Int} {second : Bool} (h : w.heap[A]? = some (.cells #[.int .i64 kind, .bool second, .int .i64 port, .int .i64 cell, .int .u64 want, .int .u64 put, .int .i64 xa, .int .i64 xb, .int .i64 xc] 47 (0, 0))) : w.cell? ⟨A, 0, none⟩ = some (.int .i64 kind) ∧ w.cell? ⟨A, 1, none⟩ = some (.bool second) ∧ w.cell? ⟨A, 2, none⟩ = some (.int .i64 port) ∧ w.cell? ⟨A, 3, none⟩ = some (.int .i64 cell) ∧ w.cell? ⟨A, 4, none⟩ = some (.int .u64 want) ∧ w.cell? ⟨A, 5, none⟩ = some (.int .u64 put) ∧ w.cell? ⟨A, 6, none⟩ = some (.int .i64 xa) ∧ w.cell? ⟨A, 7, none⟩ = some (.int .i64 xb) ∧ w.cell? ⟨A, 8, none⟩ = some (.int .i64 xc) :=
  ⟨cell_of h rfl, cell_of h rfl, cell_of h rfl, cell_of h rfl, cell_of h rfl, cell_of h rfl, cell_of h rfl, cell_of h rfl, cell_of h rfl⟩
theorem acc_heap {w w' : World} {Y b gc p A : Nat} {lv : Value} {s : Ast} {who : Int} {i : Nat} {m : Acc} {o : Obj} (h : AccPost w.drew w' Y b gc p lv s who i m) (hA : w.heap[A]? = some o) (hn : A ≠ b ∧ A ≠ gc ∧ A ≠ p ∧ lv.ownBlock ≠ some A) : w'.heap[A]? = some o := by
  obtain ⟨lv', _, _, _, h4⟩ := h
  refine h4.heap (by rw [heap_drew]; exact hA) fun e => ?_
  rcases e with e | e | e | e
  · exact hn.1 e
  · exact hn.2.1 e
  · exact hn.2.2.1 e
  · exact hn.2.2.2 e
/-- All but the lists. -/
structure PK (w0 W : World) (Z Y b gc NN nl : Nat) (s : Ast) (wv lv : Value) (pl pw B : Nat) : Prop where
  az : AZ w0 W Z Y b gc s
  ze : W.heap[Z]? = some (wordsObj (List.replicate NN 0))
  was : W.ownsRow pw 29 1 wv NN (s.cells.map (Value.int .u64))
  lg : W.ownsRow pw 31 8 lv nl (logCells s.log)
  zl : Z < pl
  wB : ∀ g, wv.ownBlock = some g → g < B
  lB : ∀ g, lv.ownBlock = some g → g < B
  BW : B ≤ W.heap.size
  pB : pl ≤ B
  pp : pl ≤ pw
theorem PK.keep {w0 W W' : World} {Z Y b gc NN nl pl pw B : Nat} {s : Ast} {wv lv : Value} (h : PK w0 W Z Y b gc NN nl s wv lv pl pw B) (ho : W'.os = W.os) (ht : W'.tape = W.tape) (hp : W'.output = W.output) (hs : W.heap.size ≤ W'.heap.size) (hk : ∀ j, j < B → (j < pl ∨ pw ≤ j) → W'.heap[j]? = W.heap[j]?) : PK w0 W' Z Y b gc NN nl s wv lv pl pw B := by
  have hz := h.zl; have hB := h.pB
  have hz0 := h.az.Z0
  exact ⟨h.az.keep (fun j hj => hk j (by omega) (.inl (by omega))) (h.az.bel.trans ⟨ho, ht, hp, hs, fun j hj => hk j (by omega) (.inl (by omega))⟩) hs, (hk Z (by omega) (.inl hz)).trans h.ze,
    ownsRow_block h.was fun g e => hk g (h.wB g e) (.inr (owns_lt h.was e).1), ownsRow_block h.lg fun g e => hk g (h.lB g e) (.inr (owns_lt h.lg e).1), h.zl, h.wB, h.lB, Nat.le_trans h.BW hs, h.pB, h.pp⟩
/-- Where the lists lie. -/
structure NM (pl pw B Gw Gl : Nat) (Sw Tw Sa Ta : Nat → Nat) : Prop where
  ow : ∀ i, i < 5 → pl ≤ Sw i ∧ Tw i ≤ pw
  oa : ∀ i, i < 2 → pl ≤ Sa i ∧ Ta i ≤ pw
  ua : ∀ i q, i < 5 → q < 2 → Tw i ≤ Sa q ∨ Ta q ≤ Sw i
  gu : ∀ q, q < 2 → Gw < Sa q ∨ Ta q ≤ Gw
  ga : ∀ i, i < 5 → Gl < Sw i ∨ Tw i ≤ Gl
  gB : Gw < B ∧ Gl < B
  gg : Gw ≠ Gl
  pB : pw ≤ B
section
variable {w0 W W' : World} {Z Y b gc NN nl pl pw B B' Gw Gl : Nat} {s : Ast} {wv lv : Value} {vw xw va xa : Nat → Value} {Sw Tw cw Sa Ta ca : Nat → Nat} {bw ba : Value} {kw ka : Nat}
/-- While words are put behind the lists. -/
structure AL1 (w0 W : World) (Z Y b gc NN nl : Nat) (s : Ast) (wv lv : Value) (pl pw B Gw Gl : Nat) (vw va : Nat → Value) (Sw Tw Sa Ta : Nat → Nat) (xw : Nat → Value) (bw : Value) (kw : Nat) : Prop where
  pk : PK w0 W Z Y b gc NN nl s wv lv pl pw B
  nm : NM pl pw B Gw Gl Sw Tw Sa Ta
  u : U.LS Gw B vw xw NN Sw Tw (fun _ => 0) bw kw W
  a : A.LS Gl B va va nl Sa Ta (fun _ => 0) (.slice none 0 0) 0 W
/-- Behind that. -/
structure AL2 (w0 W : World) (Z Y b gc NN nl : Nat) (s : Ast) (wv lv : Value) (pl pw B B' Gw Gl : Nat) (vw va : Nat → Value) (Sw Tw Sa Ta : Nat → Nat) (xw : Nat → Value) (bw : Value) (cw : Nat → Nat) (xa : Nat → Value) (ba : Value) (ca : Nat → Nat) (ka : Nat) : Prop where
  pk : PK w0 W Z Y b gc NN nl s wv lv pl pw B
  nm : NM pl pw B Gw Gl Sw Tw Sa Ta
  u : U.LS Gw B vw xw NN Sw Tw cw bw 5 W
  a : A.LS Gl B' va xa nl Sa Ta ca ba ka W
  ux : ∀ i, i < 5 → ∀ g, (xw i).ownBlock = some g → g < B'
  ub : ∀ g, bw.ownBlock = some g → g < B'
  BB : B ≤ B'
theorem AL1.app (h : AL1 w0 W Z Y b gc NN nl s wv lv pl pw B Gw Gl vw va Sw Tw Sa Ta xw bw kw) (hk : kw < 5) : ∃ g cap Y' ao c V,
    (Builtin.append_ #[26, 26] 26 #[vw kw, .slice (some ⟨W.heap.size, 0, none⟩) 2 2]).run Try.prog (W.alloc (.cells #[.int .u64 (1000 + (kw : Int)), .int .u64 (1000 + (kw : Int))] 29)) = .ok (.slice (some ⟨g, 0, none⟩) (NN + 2) cap) Y' ∧
    (Builtin.append_ #[73, 73] 73 #[bw, .slice (some ⟨Y'.heap.size, 0, none⟩) 1 1]).run Try.prog (Y'.alloc (.cells #[.slice (some ⟨g, 0, none⟩) (NN + 2) cap] 26)) = .ok (.slice ao (kw + 1) c) V ∧
    ∃ xs', AL1 w0 V Z Y b gc NN nl s wv lv pl pw B Gw Gl vw va Sw Tw Sa Ta xs' (.slice ao (kw + 1) c) (kw + 1) := by
  obtain ⟨g, cap, Y', ao, c, V, h1, h2, ⟨xs', h3⟩, h4⟩ := h.u.app hk
  have hn := h.nm
  have hpB := hn.pB
  refine ⟨g, cap, Y', ao, c, V, h1, h2, xs', h.pk.keep h4.os h4.tape h4.output h4.size fun j hj hp => h4.same j hj (by have := h.pk.BW; omega) fun i hi => ?_, hn, h3, h.a.keep B (fun i hi => absurd hi (Nat.not_lt_zero _)) (fun g e => by cases e) h4.size fun j hj hp => ?_⟩
  · have := hn.ow i hi; omega
  · rcases hp with rfl | ⟨q, hq, h5, h6⟩ | ⟨h5, h6⟩
    · exact h4.same _ hn.gB.2 hj fun i hi => hn.ga i hi
    · refine h4.same j (by have := h.a.bd q hq; omega) hj fun i hi => ?_
      have := hn.ua i q hi hq; omega
    · omega
theorem AL1.two (h : AL1 w0 W Z Y b gc NN nl s wv lv pl pw B Gw Gl vw va Sw Tw Sa Ta xw bw 5) : AL2 w0 W Z Y b gc NN nl s wv lv pl pw B W.heap.size Gw Gl vw va Sw Tw Sa Ta xw bw (fun _ => 0) va (.slice none 0 0) (fun _ => 0) 0 :=
  ⟨h.pk, h.nm, h.u, h.a.rise, h.u.top.1, h.u.top.2, h.u.lo.2⟩
theorem AL2.app (h : AL2 w0 W Z Y b gc NN nl s wv lv pl pw B B' Gw Gl vw va Sw Tw Sa Ta xw bw cw xa ba (fun _ => 0) ka) (hk : ka < 2) : ∃ g cap Y' ao c V,
    (Builtin.append_ #[27, 27] 27 #[va ka, .slice (some ⟨W.heap.size, 0, none⟩) 2 2]).run Try.prog (W.alloc (.cells #[.int .i64 0, .int .i64 (1000 + (ka : Int)), .int .i64 0, .int .u64 0, .int .u64 0, .int .u64 0, .int .u64 0, .bool false, .int .i64 0, .int .i64 (1000 + (ka : Int)), .int .i64 0, .int .u64 0, .int .u64 0, .int .u64 0, .int .u64 0, .bool false] 31)) = .ok (.slice (some ⟨g, 0, none⟩) (nl + 2) cap) Y' ∧
    (Builtin.append_ #[72, 72] 72 #[ba, .slice (some ⟨Y'.heap.size, 0, none⟩) 1 1]).run Try.prog (Y'.alloc (.cells #[.slice (some ⟨g, 0, none⟩) (nl + 2) cap] 27)) = .ok (.slice ao (ka + 1) c) V ∧
    ∃ xs', AL2 w0 V Z Y b gc NN nl s wv lv pl pw B B' Gw Gl vw va Sw Tw Sa Ta xw bw cw xs' (.slice ao (ka + 1) c) (fun _ => 0) (ka + 1) := by
  obtain ⟨g, cap, Y', ao, c, V, h1, h2, ⟨xs', h3⟩, h4⟩ := h.a.app hk
  have hn := h.nm
  have hpB := hn.pB
  have hBB := h.BB
  refine ⟨g, cap, Y', ao, c, V, h1, h2, xs', h.pk.keep h4.os h4.tape h4.output h4.size fun j hj hp => h4.same j (by omega) (by have := h.pk.BW; omega) fun i hi => ?_, hn, h.u.keep B' h.ux h.ub h4.size fun j hj hp => ?_, h3, h.ux, h.ub, h.BB⟩
  · have := hn.oa i hi; omega
  · rcases hp with rfl | ⟨q, hq, h5, h6⟩ | ⟨h5, h6⟩
    · exact h4.same _ (by have := hn.gB.1; omega) hj fun i hi => hn.gu i hi
    · refine h4.same j (by have := h.u.bd q hq; omega) hj fun i hi => ?_
      have := hn.ua q i hq hi; omega
    · refine h4.same j h6 hj fun i hi => .inr ?_
      have := hn.oa i hi; omega
theorem AL2.putU (h : AL2 w0 W Z Y b gc NN nl s wv lv pl pw B B' Gw Gl vw va Sw Tw Sa Ta xw bw cw xa ba ca ka) {i j g cap : Nat} (hi : i < 5) (hv : vw i = .slice (some ⟨g, 0, none⟩) NN cap) (hj : j < NN) (hc : cw i = j) (hg : Sw i ≤ g ∧ g < Tw i) (hw : U.Wr W W' g j (2000 + (i : Int))) :
    AL2 w0 W' Z Y b gc NN nl s wv lv pl pw B B' Gw Gl vw va Sw Tw Sa Ta xw bw (fun q => if q = i then j + 1 else cw q) xa ba ca ka := by
  have hn := h.nm
  have hpB := hn.pB
  have hBB := h.BB
  have ho := hn.ow i hi
  refine ⟨h.pk.keep hw.os hw.tape hw.output (Nat.le_of_eq hw.size.symm) fun q hq hp => hw.other q (by omega), hn, (h.u.put hi hv rfl hj hc hg hw).1, h.a.keep W.heap.size h.a.top.1 h.a.top.2 (Nat.le_of_eq hw.size.symm) fun q hq hp => hw.other q ?_, h.ux, h.ub, h.BB⟩
  rcases hp with rfl | ⟨r, hr, h5, h6⟩ | ⟨h5, h6⟩
  · have := hn.ga i hi; omega
  · have := hn.ua i r hi hr; omega
  · omega
theorem AL2.putA (h : AL2 w0 W Z Y b gc NN nl s wv lv pl pw B B' Gw Gl vw va Sw Tw Sa Ta xw bw cw xa ba ca ka) {i j g cap : Nat} (hi : i < 2) (hv : va i = .slice (some ⟨g, 0, none⟩) nl cap) (hj : j < nl) (hc : ca i = j) (hg : Sa i ≤ g ∧ g < Ta i) (hw : A.Wr W W' g j (2000 + (i : Int))) :
    AL2 w0 W' Z Y b gc NN nl s wv lv pl pw B B' Gw Gl vw va Sw Tw Sa Ta xw bw cw xa ba (fun q => if q = i then j + 1 else ca q) ka := by
  have hn := h.nm
  have hpB := hn.pB
  have hBB := h.BB
  have ho := hn.oa i hi
  refine ⟨h.pk.keep hw.os hw.tape hw.output (Nat.le_of_eq hw.size.symm) fun q hq hp => hw.other q (by omega), hn, h.u.keep W.heap.size h.u.top.1 h.u.top.2 (Nat.le_of_eq hw.size.symm) fun q hq hp => hw.other q ?_, (h.a.put hi hv rfl hj hc hg hw).1, h.ux, h.ub, h.BB⟩
  rcases hp with rfl | ⟨r, hr, h5, h6⟩ | ⟨h5, h6⟩
  · have := hn.gu i hi; omega
  · have := hn.ua r i hr hi; omega
  · omega
end
/-- How far the lists are marked: the first i whole, the next one k. -/
def upF (n i k : Nat) : Nat → Nat := fun j => if j = i then k else if j < i then n else 0
theorem upF_next (n i k : Nat) : (fun j => if j = i then k + 1 else upF n i k j) = upF n i (k + 1) := by
  funext j
  unfold upF
  by_cases e : j = i
  · rw [if_pos e, if_pos e]
  · rw [if_neg e, if_neg e, if_neg e]
theorem upF_row (n i : Nat) : upF n i n = upF n (i + 1) 0 := by
  funext j
  unfold upF
  by_cases e : j = i
  · subst e; rw [if_pos rfl, if_neg (by omega), if_pos (by omega)]
  · rw [if_neg e]
    by_cases e2 : j < i
    · rw [if_pos e2]
      by_cases e3 : j = i + 1
      · omega
      · rw [if_neg e3, if_pos (by omega)]
    · rw [if_neg e2]
      by_cases e3 : j = i + 1
      · rw [if_pos e3]
      · rw [if_neg e3, if_neg (by omega)]
theorem upF_zero (n : Nat) : upF n 0 0 = fun _ => 0 := by
  funext j; unfold upF; split <;> simp
theorem upF_at (n i k : Nat) : upF n i k i = k := by unfold upF; rw [if_pos rfl]
def pk5 {α : Type} (a b c d e : α) : Nat → α := fun i => if i = 0 then a else if i = 1 then b else if i = 2 then c else if i = 3 then d else e
def pk2 {α : Type} (a b : α) : Nat → α := fun i => if i = 0 then a else b
theorem five' {P : Nat → Prop} (h0 : P 0) (h1 : P 1) (h2 : P 2) (h3 : P 3) (h4 : P 4) : ∀ i, i < 5 → P i := by
  intro i hi
  have : i = 0 ∨ i = 1 ∨ i = 2 ∨ i = 3 ∨ i = 4 := by omega
  rcases this with rfl | rfl | rfl | rfl | rfl
  · exact h0
  · exact h1
  · exact h2
  · exact h3
  · exact h4
theorem upF_full {n m i : Nat} (h : i < m) : upF n m 0 i = n := by unfold upF; rw [if_neg (by omega), if_pos h]
theorem nth_zero {n i : Nat} (h : i < n) : nth (List.replicate n 0) i = 0 := by
  unfold nth
  rw [List.getD_eq_getElem?_getD, List.getElem?_replicate, if_pos h]; rfl
theorem row_spot {W : World} {B n c : Nat} {e : TypeId} {ba : Option Addr} {l : List Value} (h : W.ownsRow B e 1 (.slice ba n c) n l) (hn : 0 < n) : ∃ g, ba = some ⟨g, 0, none⟩ ∧ n ≤ c ∧ ∀ i v, l[i]? = some v → W.cell? ⟨g, i, none⟩ = some v := by
  obtain ⟨h0, ⟨_, e⟩ | ⟨g, cap, cur, he, _, hh, r1, r2, r3, r4⟩⟩ := h
  · omega
  · simp only [Value.slice.injEq, true_and] at he
    obtain ⟨rfl, rfl⟩ := he
    refine ⟨g, rfl, r1, fun i v hv => cell_of hh ?_⟩
    rw [← r4] at hv
    have hi : i < n * 1 := by have := (List.getElem?_eq_some_iff.1 hv).1; rw [List.length_take] at this; omega
    rw [List.getElem?_take_of_lt hi] at hv
    simpa using hv
theorem two' {P : Nat → Prop} (h0 : P 0) (h1 : P 1) : ∀ i, i < 2 → P i := by
  intro i hi
  have : i = 0 ∨ i = 1 := by omega
  rcases this with rfl | rfl
  · exact h0
  · exact h1
set_option maxHeartbeats 1000000 in
theorem AL1.made {w0 W : World} {Z Y b gc NN nl Gw Gl a1 b1 c1 e1 f1 g1 h1 i1 j1 k1 l1 m1 : Nat} {s : Ast} {wv lv v1 v2 v3 v4 v5 v6 v7 : Value} {L1 L2 L3 L4 L5 L6 L7 : List Value} (az : AZ w0 W Z Y b gc s) (ze : W.heap[Z]? = some (wordsObj (List.replicate NN 0)))
    (H1 : W.ownsRow a1 31 8 v1 nl L1 ∧ ∀ g, v1.ownBlock = some g → g < b1) (H2 : W.ownsRow b1 31 8 v2 nl L2 ∧ ∀ g, v2.ownBlock = some g → g < c1) (hG : W.heap[Gl]? = some (.cells #[v1, v2] 27 (0, 0)))
    (H3 : W.ownsRow e1 29 1 v3 NN L3 ∧ ∀ g, v3.ownBlock = some g → g < f1) (H4 : W.ownsRow f1 29 1 v4 NN L4 ∧ ∀ g, v4.ownBlock = some g → g < g1) (H5 : W.ownsRow g1 29 1 v5 NN L5 ∧ ∀ g, v5.ownBlock = some g → g < h1)
    (H6 : W.ownsRow i1 29 1 v6 NN L6 ∧ ∀ g, v6.ownBlock = some g → g < j1) (H7 : W.ownsRow j1 29 1 v7 NN L7 ∧ ∀ g, v7.ownBlock = some g → g < k1) (hGw : W.heap[Gw]? = some (.cells #[v6, v7, v3, v4, v5] 26 (0, 0)))
    (H8 : W.ownsRow l1 29 1 wv NN (s.cells.map (Value.int .u64)) ∧ ∀ g, wv.ownBlock = some g → g < m1) (H9 : W.ownsRow m1 31 8 lv nl (logCells s.log) ∧ ∀ g, lv.ownBlock = some g → g < W.heap.size)
    (hn : a1 = Z + 1 ∧ a1 ≤ b1 ∧ b1 ≤ c1 ∧ c1 = Gl ∧ Gl + 1 ≤ e1 ∧ e1 ≤ f1 ∧ f1 ≤ g1 ∧ g1 ≤ h1 ∧ h1 ≤ i1 ∧ i1 ≤ j1 ∧ j1 ≤ k1 ∧ k1 = Gw ∧ l1 = Gw + 1 ∧ l1 ≤ m1 ∧ m1 ≤ W.heap.size) (hb : nl * 64 ≤ 140737488351232) (hb2 : NN ≤ 8) :
    AL1 w0 W Z Y b gc NN nl s wv lv a1 l1 W.heap.size Gw Gl (pk5 v6 v7 v3 v4 v5) (pk2 v1 v2) (pk5 i1 j1 e1 f1 g1) (pk5 j1 k1 f1 g1 h1) (pk2 a1 b1) (pk2 b1 c1) (pk5 v6 v7 v3 v4 v5) (.slice none 0 0) 0 := by
  refine ⟨⟨az, ze, H8.1, ⟨H9.1.1, H9.1.2.imp id fun ⟨g, cap, cur, he, hg, r⟩ => ⟨g, cap, cur, he, by omega, r⟩⟩, by omega, fun g e => by have := H8.2 g e; omega, H9.2, Nat.le_refl _, by omega, by omega⟩,
    ⟨five' ?_ ?_ ?_ ?_ ?_, two' ?_ ?_, ?_, two' ?_ ?_, five' ?_ ?_ ?_ ?_ ?_, by omega, by omega, by omega⟩,
    ⟨five' (cell_of hGw rfl) (cell_of hGw rfl) (cell_of hGw rfl) (cell_of hGw rfl) (cell_of hGw rfl), five' (U.UL.of_own H6.1 H6.2 _) (U.UL.of_own H7.1 H7.2 _) (U.UL.of_own H3.1 H3.2 _) (U.UL.of_own H4.1 H4.2 _) (U.UL.of_own H5.1 H5.2 _), fun i hi => absurd hi (Nat.not_lt_zero _), World.ownsRow_nil _ _ _ _, fun i hi => absurd hi (Nat.not_lt_zero _), ?_, five' ?_ ?_ ?_ ?_ ?_, five' ?_ ?_ ?_ ?_ ?_, by omega, ⟨by omega, Nat.le_refl _⟩, by omega⟩,
    ⟨two' (cell_of hG rfl) (cell_of hG rfl), two' (A.UL.of_own H1.1 H1.2 _) (A.UL.of_own H2.1 H2.2 _), fun i hi => absurd hi (Nat.not_lt_zero _), World.ownsRow_nil _ _ _ _, fun i hi => absurd hi (Nat.not_lt_zero _), ?_, two' ?_ ?_, two' ?_ ?_, hb, ⟨by omega, Nat.le_refl _⟩, by omega⟩⟩
  case refine_8 =>
    intro i q hi hq
    have : i = 0 ∨ i = 1 ∨ i = 2 ∨ i = 3 ∨ i = 4 := by omega
    have : q = 0 ∨ q = 1 := by omega
    rcases ‹i = 0 ∨ _› with rfl | rfl | rfl | rfl | rfl <;> rcases ‹q = 0 ∨ _› with rfl | rfl <;> simp [pk5, pk2] <;> omega
  case refine_16 =>
    intro i q hi hq hne
    have : i = 0 ∨ i = 1 ∨ i = 2 ∨ i = 3 ∨ i = 4 := by omega
    have : q = 0 ∨ q = 1 ∨ q = 2 ∨ q = 3 ∨ q = 4 := by omega
    rcases ‹i = 0 ∨ _› with rfl | rfl | rfl | rfl | rfl <;> rcases ‹q = 0 ∨ _› with rfl | rfl | rfl | rfl | rfl <;> simp [pk5] <;> omega
  case refine_27 =>
    intro i q hi hq hne
    have : i = 0 ∨ i = 1 := by omega
    have : q = 0 ∨ q = 1 := by omega
    rcases ‹i = 0 ∨ _› with rfl | rfl <;> rcases ‹q = 0 ∨ _› with rfl | rfl <;> simp [pk2] <;> omega
  all_goals (simp [pk5, pk2]; omega)
end Go.Proofs.Ytfgchkkljlbmcaa
