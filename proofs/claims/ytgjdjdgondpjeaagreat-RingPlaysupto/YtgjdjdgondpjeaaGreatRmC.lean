import Derived.Test.YtgjdjdgondpjeaaGreatSt5
import Derived.Test.YtgjdjdgondpjeaaGreatHold
import Derived.Deep.RegionHeld3
import Derived.Deep.RegionWith
/- A table's handles, ports and arena in memory: what an op turns. -/
namespace Go.Proofs.YtgjdjdgondpjeaaGreat
open Go.RowKit Go.Lib Go.MuLone
set_option linter.unusedVariables false
set_option linter.unusedSimpArgs false
def ptr (qs : Nat → Nat) (j : Nat) : Value := .pointer (some ⟨qs j, 0, none⟩)
def ptrs (qs : Nat → Nat) (n : Nat) : List Value := (List.range n).map (ptr qs)
theorem ptrs_len (qs : Nat → Nat) (n : Nat) : (ptrs qs n).length = n := by simp [ptrs]
theorem ptrs_get (qs : Nat → Nat) {n i : Nat} (h : i < n) : (ptrs qs n)[i]? = some (.pointer (some ⟨qs i, 0, none⟩)) := by
  unfold ptrs ptr
  rw [List.getElem?_map, List.getElem?_range h]; rfl
theorem own_stayR {X Y : World} {S : Nat} {e : TypeId} {size : Nat} {u : Value} {n : Nat} {xs : List Value} (h : X.ownsRow S e size u n xs) (hk : ∀ g, u.ownBlock = some g → Y.heap[g]? = X.heap[g]?) : Y.ownsRow S e size u n xs := by
  obtain ⟨h0, hn | ⟨g, cap, cur, rfl, hg, hc, r⟩⟩ := h
  · exact ⟨h0, Or.inl hn⟩
  · exact ⟨h0, Or.inr ⟨g, cap, cur, rfl, hg, (hk g rfl).trans hc, r⟩⟩
theorem own_tyz {w : World} {lo n z : Nat} {t : TypeId} {v : Value} {xs : List Value} (h : w.ownsRow lo t z v n xs) {g : Nat} (hg : v.ownBlock = some g) : lo ≤ g ∧ ∃ cs, w.heap[g]? = some (.cells cs t (0, 0)) := by
  obtain ⟨_, ⟨rfl, _⟩ | ⟨g', cap, cur, rfl, hg', hc, _⟩⟩ := h
  · cases hg
  · cases hg; exact ⟨hg', cur, hc⟩
theorem own_at {w : World} {lo n g c : Nat} {t : TypeId} {xs : List Value} {i : Nat} {x : Value} (h : w.ownsRow lo t 1 (.slice (some ⟨g, 0, none⟩) n c) n xs) (hx : xs[i]? = some x) (hi : i < n) : w.cell? ⟨g, i, none⟩ = some x := by
  obtain ⟨_, ⟨e, _⟩ | ⟨g', cap, cur, e, hg', hc, h1, h2, h3, h4⟩⟩ := h
  · cases e
  · cases e
    refine cell_of hc ?_
    rw [← h4, List.getElem?_take_of_lt (by omega)] at hx
    simpa using hx
/-- The types of the blocks that an op on a table may turn. -/
def pT (t : TypeId) : Prop := t = 116 ∨ t = 40 ∨ t = 134 ∨ t = 55 ∨ t = 126
/-- All blocks of other types stay. -/
def Kp (x y : World) : Prop := x.heap.size ≤ y.heap.size ∧ ∀ (j : Nat) (cs : Array Value) (t : TypeId), x.heap[j]? = some (.cells cs t (0, 0)) → ¬ pT t → y.heap[j]? = some (.cells cs t (0, 0))
theorem Kp.refl (x : World) : Kp x x := ⟨Nat.le_refl _, fun _ _ _ h _ => h⟩
theorem Kp.trans {x y z : World} (h : Kp x y) (k : Kp y z) : Kp x z := ⟨Nat.le_trans h.1 k.1, fun j cs t a c => k.2 j cs t (h.2 j cs t a c) c⟩
theorem Kp.of_below {x y : World} (h : Below x.heap.size x y) : Kp x y := ⟨h.size, fun j cs t a _ => (h.block _ (lt_of_heap a)).trans a⟩
theorem Kp.of_chg {S : Nat → Prop} {x y : World} (c : Chg S x y) (h : ∀ j, S j → j < x.heap.size → ∃ cs t, x.heap[j]? = some (.cells cs t (0, 0)) ∧ pT t) : Kp x y :=
  ⟨c.size, fun j cs t a n => (c.block _ (lt_of_heap a) (fun e => by
    obtain ⟨cs', t', h', ho⟩ := h j e (lt_of_heap a)
    rw [ty_of a h'] at ho
    exact n ho)).trans a⟩
theorem Kp.row {x y : World} (k : Kp x y) {lo n z : Nat} {t : TypeId} {v : Value} {xs : List Value} (h : x.ownsRow lo t z v n xs) (ht : ¬ pT t) : y.ownsRow lo t z v n xs :=
  own_stayR h (fun g hg => by
    obtain ⟨_, cs, h3⟩ := own_tyz h hg
    exact (k.2 g cs t h3 ht).trans h3.symm)
/-- A handle's numbers are numbers. -/
structure HW (d : Hs) : Prop where
  place : 0 ≤ d.place ∧ d.place < 18446744073709551616
  t1 : 0 ≤ d.t.1 ∧ d.t.1 < 18446744073709551616
  t2 : 0 ≤ d.t.2 ∧ d.t.2 < 18446744073709551616
  ph : d.ph ≤ 12
  out : d.out.length ≤ 1
def W64 (x : Int) : Prop := 0 ≤ x ∧ x < 18446744073709551616
theorem uw_rng (x : Int) : W64 (uw x) := by unfold W64 uw; omega
theorem HW.next {d : Hs} (h : HW d) (C : Nat) {x : Int} (hx : W64 x) : HW (d.next C x) := by
  obtain ⟨h1, h2, h3, h4, h5⟩ := h
  unfold Hs.next Hs.fin
  split
  all_goals (repeat' split)
  all_goals exact ⟨by first | exact h1 | exact hx, by first | exact h2 | exact hx, by first | exact h3 | exact hx, by first | exact h4 | exact Nat.zero_le _ | exact Nat.le_of_ble_eq_true rfl, by first | exact h5 | simp⟩
theorem HW.left {d : Hs} (h : HW d) (C : Nat) {x : Int} (hx : W64 x) : W64 (d.left C x) := by
  obtain ⟨h1, h2, h3, h4, h5⟩ := h
  unfold Hs.left
  split
  all_goals (repeat' split)
  all_goals first | exact uw_rng _ | exact hx | exact h2 | exact h3
theorem HW.tak {d : Hs} (h : HW d) : HW d.tak := ⟨h.place, by simp [Hs.tak], by simp [Hs.tak], by simp [Hs.tak], by simp [Hs.tak]⟩
theorem HW.ins {d : Hs} (h : HW d) {t : Tk} (h1 : W64 t.1) (h2 : W64 t.2) : HW (d.ins t) := ⟨h.place, h1, h2, by simp [Hs.ins], by simp [Hs.ins]⟩
theorem wd_set {cs : List Int} {c : Nat} {u : Int} (hc : c < cs.length) (h : ∀ i, i < cs.length → W64 (nth cs i)) (hu : W64 u) : ∀ i, i < (cs.set c u).length → W64 (nth (cs.set c u) i) := fun i hi => by
  rw [nth_set' _ _ _ _ hc]
  split
  · exact hu
  · exact h i (by simpa using hi)
/-- A table in memory: its block X (its cells tb), its arena, its ports and handles. -/
structure RM (w wr : World) (X ab gc Y Z n : Nat) (tb : Array Value) (lv : Value) (s : Ast) (vP vH : Value) (qs ps : Nat → Nat) (vs : Nat → Value) (gs : Nat → Bool) (ds : Nat → Hs) (bs Cs : Nat → Nat) (K : Nat) : Prop where
  bel : Below w.heap.size w wr
  zl : w.heap.size ≤ Z ∧ w.heap.size ≤ ab ∧ w.heap.size ≤ gc
  x : wr.heap[X]? = some (.cells tb 37 (0, 0))
  tc : tb[2]? = some (.pointer (some ⟨ab, 0, none⟩)) ∧ tb[3]? = some vP ∧ tb[4]? = some vH
  ar : AIs wr Y ab gc lv s
  rp : wr.ownsRow Z 84 1 vP n (ptrs ps n)
  rh : wr.ownsRow Z 63 1 vH n (ptrs qs n)
  hd : ∀ j, j < n → wr.heap[qs j]? = some (HObj (bs j) (Cs j) (ds j) (vs j)) ∧ TOwn wr Z (vs j) (ds j).out
  po : ∀ j, j < n → wr.heap[ps j]? = some (PObj ab j (gs j))
  inj : ∀ i j, i < j → j < n → qs i ≠ qs j ∧ ps i ≠ ps j
  lo : ∀ j, j < n → Z ≤ qs j ∧ Z ≤ ps j
  hw : ∀ j, j < n → HW (ds j) ∧ 2 ≤ Cs j ∧ Cs j ≤ 65536 ∧ bs j + 2 + 3 * Cs j ≤ s.cells.length
  wd : ∀ i, i < s.cells.length → W64 (nth s.cells i)
  kp : s.keep = true
  cnt : s.count = s.log.length
  lk : s.log.length ≤ K
  n64 : 1 ≤ n ∧ n ≤ 64
section
variable {w wr wr' : World} {X ab gc Y Z n K : Nat} {tb : Array Value} {lv vP vH : Value} {s : Ast} {qs ps : Nat → Nat} {vs : Nat → Value} {gs : Nat → Bool} {ds : Nat → Hs} {bs Cs : Nat → Nat}
theorem RM.ok (h : RM w wr X ab gc Y Z n tb lv s vP vH qs ps vs gs ds bs Cs K) {j : Nat} (hj : j < n) : OkR (bs j) (Cs j) := by
  obtain ⟨_, h2, h3, h4⟩ := h.hw j hj
  have := h.ar.len
  exact ⟨⟨by omega, by omega⟩, by omega, by omega⟩
/-- What does not turn where only blocks of the types of pT, or the law's own, turn. -/
theorem RM.parts {S : Nat → Prop} (h : RM w wr X ab gc Y Z n tb lv s vP vH qs ps vs gs ds bs Cs K) (c : Chg S wr wr') (hS : ∀ j, S j → w.heap.size ≤ j ∧ (j < wr.heap.size → ∃ cs t, wr.heap[j]? = some (.cells cs t (0, 0)) ∧ t ≠ 37 ∧ t ≠ 84 ∧ t ≠ 63 ∧ (t = 42 → ∀ i, i < n → (vs i).ownBlock ≠ some j))) :
    Below w.heap.size w wr' ∧ wr'.heap[X]? = some (.cells tb 37 (0, 0)) ∧ wr'.ownsRow Z 84 1 vP n (ptrs ps n) ∧ wr'.ownsRow Z 63 1 vH n (ptrs qs n) ∧ (∀ j, j < n → TOwn wr' Z (vs j) (ds j).out) ∧
    (∀ j, j < n → ¬ S (qs j) → wr'.heap[qs j]? = some (HObj (bs j) (Cs j) (ds j) (vs j))) ∧ (∀ j, j < n → ¬ S (ps j) → wr'.heap[ps j]? = some (PObj ab j (gs j))) := by
  have no : ∀ {j : Nat} {cs : Array Value} {t : TypeId}, wr.heap[j]? = some (.cells cs t (0, 0)) → (t = 37 ∨ t = 84 ∨ t = 63 ∨ t = 42 ∧ ∃ i, i < n ∧ (vs i).ownBlock = some j) → wr'.heap[j]? = wr.heap[j]? := fun {j cs t} hj h1 => c.block _ (lt_of_heap hj) (fun e => by
    obtain ⟨cs', t', h', a1, a2, a3, a4⟩ := (hS j e).2 (lt_of_heap hj)
    rw [ty_of hj h'] at a1 a2 a3 a4
    rcases h1 with q | q | q | ⟨q, i, hi, q2⟩
    · exact a1 q
    · exact a2 q
    · exact a3 q
    · exact a4 q i hi q2)
  have row : ∀ {ty : TypeId} {v : Value} {m : Nat} {xs : List Value}, (ty = 84 ∨ ty = 63) → wr.ownsRow Z ty 1 v m xs → wr'.ownsRow Z ty 1 v m xs := fun ht ho => own_stayR ho (fun j hj => by
    obtain ⟨_, cs, h3⟩ := own_tyz ho hj
    exact no h3 (by rcases ht with q | q <;> simp [q]))
  refine ⟨c.below h.bel (fun j hj => (hS j hj).1) h.bel.size, (no h.x (.inl rfl)).trans h.x, row (.inl rfl) h.rp, row (.inr rfl) h.rh, fun j hj => own_stayR (h.hd j hj).2 (fun g hg => ?_), fun j hj hn => c.heap (h.hd j hj).1 hn, fun j hj hn => c.heap (h.po j hj) hn⟩
  obtain ⟨_, cs, h3⟩ := own_tyz (h.hd j hj).2 hg
  exact no h3 (.inr (.inr (.inr ⟨rfl, j, hj, hg⟩)))
theorem RM.pne (h : RM w wr X ab gc Y Z n tb lv s vP vH qs ps vs gs ds bs Cs K) {i j : Nat} (hi : i < n) (hj : j < n) (hij : j ≠ i) : qs j ≠ qs i ∧ ps j ≠ ps i := by
  rcases Nat.lt_or_gt_of_ne hij with e | e
  · exact h.inj j i e hi
  · exact ⟨fun q => (h.inj i j e hj).1 q.symm, fun q => (h.inj i j e hj).2 q.symm⟩
theorem RM.lvt (h : RM w wr X ab gc Y Z n tb lv s vP vH qs ps vs gs ds bs Cs K) {g : Nat} (hg : lv.ownBlock = some g) : w.heap.size ≤ g ∧ ∃ cs, wr.heap[g]? = some (.cells cs 55 (0, 0)) := by
  obtain ⟨hy, cs, ht⟩ := own_tyz h.ar.hl hg
  exact ⟨by have := h.ar.gY; have := h.zl; omega, cs, ht⟩
/-- The law's own blocks turn. -/
theorem RM.far {S : Nat → Prop} (h : RM w wr X ab gc Y Z n tb lv s vP vH qs ps vs gs ds bs Cs K) (c : Chg S wr wr') (hS : ∀ j, S j → w.heap.size ≤ j ∧ (j < wr.heap.size → ∃ cs t, wr.heap[j]? = some (.cells cs t (0, 0)) ∧ t ≠ 37 ∧ t ≠ 84 ∧ t ≠ 63 ∧ ¬ pT t ∧ (t = 42 → ∀ i, i < n → (vs i).ownBlock ≠ some j))) : RM w wr' X ab gc Y Z n tb lv s vP vH qs ps vs gs ds bs Cs K := by
  obtain ⟨h1, h2, h3, h4, h5, h6, h7⟩ := h.parts c (fun j hj => ⟨(hS j hj).1, fun hl => by obtain ⟨cs, t, a, b1, b2, b3, b4, b5⟩ := (hS j hj).2 hl; exact ⟨cs, t, a, b1, b2, b3, b5⟩⟩)
  have no : ∀ {j : Nat} {cs : Array Value} {t : TypeId}, wr.heap[j]? = some (.cells cs t (0, 0)) → pT t → ¬ S j := fun {j cs t} hj ht e => by
    obtain ⟨cs', t', h', _, _, _, a4, _⟩ := (hS j e).2 (lt_of_heap hj)
    rw [ty_of hj h'] at a4
    exact a4 ht
  exact ⟨h1, h.zl, h2, h.tc, h.ar.kept c (no h.ar.hb (by simp [pT])) (no h.ar.hc (by simp [pT])) (fun i hi => by
    obtain ⟨_, cs, h3⟩ := h.lvt hi; exact no h3 (by simp [pT])), h3, h4, fun j hj => ⟨h6 j hj (no (h.hd j hj).1 (by simp [pT])), h5 j hj⟩, fun j hj => h7 j hj (no (h.po j hj) (by simp [pT])), h.inj, h.lo, h.hw, h.wd, h.kp, h.cnt, h.lk, h.n64⟩
theorem RM.below (h : RM w wr X ab gc Y Z n tb lv s vP vH qs ps vs gs ds bs Cs K) (hb : Below wr.heap.size wr wr') : RM w wr' X ab gc Y Z n tb lv s vP vH qs ps vs gs ds bs Cs K :=
  h.far (S := fun _ => False) (Chg.of_below hb) (fun j hj => hj.elim)
theorem RM.mono (h : RM w wr X ab gc Y Z n tb lv s vP vH qs ps vs gs ds bs Cs K) {K' : Nat} (hk : K ≤ K') : RM w wr X ab gc Y Z n tb lv s vP vH qs ps vs gs ds bs Cs K' :=
  ⟨h.bel, h.zl, h.x, h.tc, h.ar, h.rp, h.rh, h.hd, h.po, h.inj, h.lo, h.hw, h.wd, h.kp, h.cnt, Nat.le_trans h.lk hk, h.n64⟩
/-- The lock alone has turned. -/
theorem RM.look (h : RM w wr X ab gc Y Z n tb lv s vP vH qs ps vs gs ds bs Cs K) (ha : AIs wr' Y ab gc lv s) (c : Chg (fun j => j = ab) wr wr') : RM w wr' X ab gc Y Z n tb lv s vP vH qs ps vs gs ds bs Cs K ∧ Kp wr wr' := by
  obtain ⟨h1, h2, h3, h4, h5, h6, h7⟩ := h.parts c (fun j hj => by subst hj; exact ⟨h.zl.2.1, fun _ => ⟨_, _, h.ar.hb, by decide, by decide, by decide, fun e => absurd e (by decide)⟩⟩)
  exact ⟨⟨h1, h.zl, h2, h.tc, ha, h3, h4, fun j hj => ⟨h6 j hj (ne_ty (h.hd j hj).1 h.ar.hb (by decide)), h5 j hj⟩, fun j hj => h7 j hj (ne_ty (h.po j hj) h.ar.hb (by decide)), h.inj, h.lo, h.hw, h.wd, h.kp, h.cnt, h.lk, h.n64⟩, Kp.of_chg c (fun j hj _ => by subst hj; exact ⟨_, _, h.ar.hb, .inl rfl⟩)⟩
theorem rm_grant (h : RM w wr X ab gc Y Z n tb lv s vP vH qs ps vs gs ds bs Cs K) {i : Nat} (hi : i < n) : Calls Tryz.prog 45 #[.pointer (some ⟨ps i, 0, none⟩)] wr fun r w' => r = .returned (.tuple #[]) ∧ RM w w' X ab gc Y Z n tb lv s vP vH qs ps vs (upd gs i true) ds bs Cs K ∧ Kp wr w' := by
  have hp := h.po i hi
  refine (grant_any (ps i) Y ab gc lv s i (gs i) wr h.ar hp (ne_ty hp h.ar.hb (by decide)) (ne_ty hp h.ar.hc (by decide)) (fun e => by
    obtain ⟨_, cs, h3⟩ := h.lvt e
    exact ne_ty hp h3 (by decide) rfl)).mono ?_
  rintro e w' ⟨rfl, ha, hpo, c, _⟩
  have hS : ∀ j, (j = ab ∨ j = ps i) → w.heap.size ≤ j ∧ (j < wr.heap.size → ∃ cs t, wr.heap[j]? = some (.cells cs t (0, 0)) ∧ t ≠ 37 ∧ t ≠ 84 ∧ t ≠ 63 ∧ (t = 42 → ∀ i, i < n → (vs i).ownBlock ≠ some j)) := fun j hj => by
    rcases hj with rfl | rfl
    · exact ⟨h.zl.2.1, fun _ => ⟨_, _, h.ar.hb, by decide, by decide, by decide, fun e => absurd e (by decide)⟩⟩
    · exact ⟨Nat.le_trans h.zl.1 (h.lo i hi).2, fun _ => ⟨_, _, hp, by decide, by decide, by decide, fun e => absurd e (by decide)⟩⟩
  obtain ⟨h1, h2, h3, h4, h5, h6, h7⟩ := h.parts c hS
  have no : ∀ {j : Nat} {cs : Array Value} {ty : TypeId}, wr.heap[j]? = some (.cells cs ty (0, 0)) → ty ≠ 116 → ty ≠ 134 → ¬ (j = ab ∨ j = ps i) := fun hj e1 e2 e => by
    rcases e with e | e
    · exact ne_ty hj h.ar.hb e1 e
    · exact ne_ty hj hp e2 e
  refine ⟨rfl, ⟨h1, h.zl, h2, h.tc, ha, h3, h4, fun j hj => ⟨h6 j hj (no (h.hd j hj).1 (by decide) (by decide)), h5 j hj⟩, fun j hj => ?_, h.inj, h.lo, h.hw, h.wd, h.kp, h.cnt, h.lk, h.n64⟩, Kp.of_chg c (fun j hj _ => by rcases hj with rfl | rfl; exact ⟨_, _, h.ar.hb, .inl rfl⟩; exact ⟨_, _, hp, by simp [pT]⟩)⟩
  by_cases e : j = i
  · subst e; rw [upd_same]; exact hpo
  · rw [upd_other _ _ e]
    exact h7 j hj (fun q => by
      rcases q with q | q
      · exact ne_ty (h.po j hj) h.ar.hb (by decide) q
      · exact (h.pne hi hj e).2 q)
/-- A handle's own block has turned; its reply is as it was, or new. -/
theorem RM.one (h : RM w wr X ab gc Y Z n tb lv s vP vH qs ps vs gs ds bs Cs K) {i : Nat} (hi : i < n) {d' : Hs} {v' : Value} (hq : wr'.heap[qs i]? = some (HObj (bs i) (Cs i) d' v')) (c : Chg (fun k => k = qs i) wr wr') (hv : v' = vs i ∧ d'.out = (ds i).out ∨ TOwn wr' wr.heap.size v' d'.out) (hw : HW d') :
    RM w wr' X ab gc Y Z n tb lv s vP vH qs ps (upd vs i v') gs (upd ds i d') bs Cs K ∧ Kp wr wr' := by
  have hn := (h.hd i hi).1
  obtain ⟨h1, h2, h3, h4, h5, h6, h7⟩ := h.parts c (fun j hj => by subst hj; exact ⟨Nat.le_trans h.zl.1 (h.lo i hi).1, fun _ => ⟨_, _, hn, by decide, by decide, by decide, fun e => absurd e (by decide)⟩⟩)
  have no : ∀ {j : Nat} {cs : Array Value} {ty : TypeId}, wr.heap[j]? = some (.cells cs ty (0, 0)) → ty ≠ 126 → ¬ j = qs i := fun hj e1 e => ne_ty hj hn e1 e
  have hzw : Z ≤ wr.heap.size := by have := lt_of_heap hn; have := (h.lo i hi).1; omega
  refine ⟨⟨h1, h.zl, h2, h.tc, h.ar.kept c (no h.ar.hb (by decide)) (no h.ar.hc (by decide)) (fun i hi => by
    obtain ⟨_, cs, h3⟩ := h.lvt hi; exact no h3 (by decide)), h3, h4, fun j hj => ?_, fun j hj => h7 j hj (no (h.po j hj) (by decide)), h.inj, h.lo, fun j hj => ?_, h.wd, h.kp, h.cnt, h.lk, h.n64⟩, Kp.of_chg c (fun j hj _ => by subst hj; exact ⟨_, _, hn, by simp [pT]⟩)⟩
  · by_cases e : j = i
    · subst e
      rw [upd_same, upd_same]
      refine ⟨hq, ?_⟩
      rcases hv with ⟨rfl, hv⟩ | hv
      · rw [hv]; exact h5 j hj
      · exact own_lower hv hzw
    · rw [upd_other _ _ e, upd_other _ _ e]; exact ⟨h6 j hj (h.pne hi hj e).1, h5 j hj⟩
  · obtain ⟨a1, a2⟩ := h.hw j hj
    refine ⟨?_, a2⟩
    by_cases e : j = i
    · subst e; rw [upd_same]; exact hw
    · rw [upd_other _ _ e]; exact a1
end
end Go.Proofs.YtgjdjdgondpjeaaGreat

/- What an op of the law turns: a step, an Insert, a Take; act 17. -/
namespace Go.Proofs.YtgjdjdgondpjeaaGreat
open Go.RowKit Go.Lib Go.MuLone
set_option linter.unusedVariables false
set_option linter.unusedSimpArgs false
section
variable {w wr wr' : World} {X ab gc Y Z n K : Nat} {tb : Array Value} {lv vP vH : Value} {s : Ast} {qs ps : Nat → Nat} {vs : Nat → Value} {gs : Nat → Bool} {ds : Nat → Hs} {bs Cs : Nat → Nat}
set_option maxRecDepth 100000 in
theorem rm_idle (h : RM w wr X ab gc Y Z n tb lv s vP vH qs ps vs gs ds bs Cs K) {i : Nat} (hi : i < n) (h0 : (ds i).ph = 0) (p : Nat) : Calls Tryz.prog 46 #[.pointer (some ⟨qs i, 0, none⟩), .pointer (some ⟨p, 0, none⟩)] wr fun e w' => e = .returned (.tuple #[]) ∧ w' = wr := by
  have HOV := hide (over_any (h.hd i hi).1)
  rw [show decide ((ds i).ph = 0) = true by simpa using h0] at HOV
  clear h h0 hi
  go_enter Tryz.func46, Tryz.ntmps46
  go_wp2_with fail
  refine HOV.out.mono ?_
  rintro e w1 ⟨rfl, rfl⟩
  go_wp2_with fail
  first | go_end0 | refine bodyPost_ret (results_none rfl _ _ _) rfl ?_
  exact ⟨rfl, rfl⟩
/-- Each reply is as it was, or in a block from B on. -/
def VF (B : Nat) (vs vs' : Nat → Value) : Prop := ∀ i g, (vs' i).ownBlock = some g → (vs i).ownBlock = some g ∨ B ≤ g
theorem VF.refl (B : Nat) (vs : Nat → Value) : VF B vs vs := fun _ _ h => .inl h
theorem VF.low {B B' : Nat} {vs vs' : Nat → Value} (h : VF B' vs vs') (hb : B ≤ B') : VF B vs vs' := fun i g e => (h i g e).imp id (fun q => Nat.le_trans hb q)
theorem VF.trans {B B' : Nat} {x y z : Nat → Value} (h : VF B x y) (k : VF B' y z) (hb : B ≤ B') : VF B x z := fun i g e => by
  rcases k i g e with q | q
  · exact h i g q
  · exact .inr (Nat.le_trans hb q)
theorem VF.one {w' : World} {B i : Nat} {vs : Nat → Value} {v' : Value} {P : Prop} {l : List Tk} (hv : v' = vs i ∧ P ∨ TOwn w' B v' l) : VF B vs (upd vs i v') := fun j g e => by
  by_cases q : j = i
  · subst q
    rw [upd_same] at e
    rcases hv with ⟨rfl, _⟩ | hv
    · exact .inl e
    · exact .inr (World.ownsRow.lt hv g e).1
  · rw [upd_other _ _ q] at e; exact .inl e
/-- The state of the arena behind a step of a handle. -/
def stS (s : Ast) (i b C : Nat) (d : Hs) : Ast := if d.ph = 0 then s else s.made (d.cell b C) (d.acc b C i (nth s.cells (d.cell b C)))
def stD (s : Ast) (b C : Nat) (d : Hs) : Hs := if d.ph = 0 then d else d.next C (nth s.cells (d.cell b C))
theorem rm_go (h : RM w wr X ab gc Y Z n tb lv s vP vH qs ps vs gs ds bs Cs K) {i : Nat} (hi : i < n) (hg : gs i = true) (h0 : (ds i).ph ≠ 0) (hst : s.stopped = false) (hK : K ≤ 1099511627776) :
    Calls Tryz.prog 46 #[.pointer (some ⟨qs i, 0, none⟩), .pointer (some ⟨ps i, 0, none⟩)] wr fun e w' => e = .returned (.tuple #[]) ∧ ∃ lv' v', RM w w' X ab gc Y Z n tb lv' (stS s i (bs i) (Cs i) (ds i)) vP vH qs ps (upd vs i v') (upd gs i false) (upd ds i (stD s (bs i) (Cs i) (ds i))) bs Cs (K + 1) ∧ Kp wr w' ∧ VF wr.heap.size vs (upd vs i v') := by
  have hwi := h.hw i hi
  have hp := h.po i hi
  rw [hg] at hp
  obtain ⟨hn, hs⟩ := h.hd i hi
  have R : HRdy wr Y ab gc (ps i) lv s i (qs i) (bs i) (Cs i) (ds i) (vs i) := ⟨h.ar, hp, fun e => by
      obtain ⟨_, cs, h3⟩ := h.lvt e; exact ne_ty hp h3 (by decide) rfl, hn, fun e => by
      obtain ⟨_, cs, h3⟩ := h.lvt e; exact ne_ty hn h3 (by decide) rfl, hst, hwi.2.2.2, by rw [h.cnt]; omega, by rw [h.cnt]; have := h.lk; omega, by have := h.lk; omega, hwi.2.1, hwi.2.2.1, hwi.1.place, h0, hwi.1.ph⟩
  refine (step_go R).mono ?_
  unfold stS stD
  rw [if_neg h0, if_neg h0]
  rintro e w' ⟨rfl, lv', v', a1, a2, a3, a4, a5, c⟩
  have hcl : (ds i).cell (bs i) (Cs i) < s.cells.length := Nat.lt_of_lt_of_le ((ds i).cell_lt _ _ hwi.2.1) hwi.2.2.2
  have hx := h.wd _ hcl
  generalize hxx : nth s.cells ((ds i).cell (bs i) (Cs i)) = x at a1 a4 a5 hx
  have hty : ∀ j, (accSet ab gc (ps i) lv j ∨ j = qs i) → w.heap.size ≤ j ∧ ∃ cs t, wr.heap[j]? = some (.cells cs t (0, 0)) ∧ pT t := fun j hj => by
    rcases hj with (e | e | e | e) | e
    · subst e; exact ⟨h.zl.2.1, _, _, h.ar.hb, .inl rfl⟩
    · subst e; exact ⟨h.zl.2.2, _, _, h.ar.hc, .inr (.inl rfl)⟩
    · subst e; exact ⟨Nat.le_trans h.zl.1 (h.lo i hi).2, _, _, hp, by simp [pT]⟩
    · obtain ⟨hy, cs, ht⟩ := h.lvt e
      exact ⟨hy, _, _, ht, by simp [pT]⟩
    · subst e; exact ⟨Nat.le_trans h.zl.1 (h.lo i hi).1, _, _, hn, by simp [pT]⟩
  obtain ⟨h1, h2, h3, h4, h5, h6, h7⟩ := h.parts c (fun j hj => ⟨(hty j hj).1, fun _ => by
    obtain ⟨_, cs, t, q, ho⟩ := hty j hj
    refine ⟨cs, t, q, ?_, ?_, ?_, ?_⟩ <;> (rintro rfl; simp [pT] at ho)⟩)
  have nS : ∀ {j : Nat} {cs : Array Value} {ty : TypeId}, wr.heap[j]? = some (.cells cs ty (0, 0)) → (ty = 126 ∧ j ≠ qs i ∨ ty = 134 ∧ j ≠ ps i) → ¬ (accSet ab gc (ps i) lv j ∨ j = qs i) := fun {j cs ty} hj ht hS => by
    rcases hS with (e | e | e | e) | e
    · exact ne_ty hj h.ar.hb (by rcases ht with ⟨q, _⟩ | ⟨q, _⟩ <;> rw [q] <;> decide) e
    · exact ne_ty hj h.ar.hc (by rcases ht with ⟨q, _⟩ | ⟨q, _⟩ <;> rw [q] <;> decide) e
    · rcases ht with ⟨q, _⟩ | ⟨_, q⟩
      · exact ne_ty hj hp (by rw [q]; decide) e
      · exact q e
    · obtain ⟨_, cs', h3⟩ := h.lvt e
      exact ne_ty hj h3 (by rcases ht with ⟨q, _⟩ | ⟨q, _⟩ <;> rw [q] <;> decide) rfl
    · rcases ht with ⟨_, q⟩ | ⟨q, _⟩
      · exact q e
      · exact ne_ty hj hn (by rw [q]; decide) e
  have hzw : Z ≤ wr.heap.size := by have := lt_of_heap hn; have := (h.lo i hi).1; omega
  refine ⟨rfl, lv', v', ⟨h1, h.zl, h2, h.tc, a1, h3, h4, fun j hj => ?_, fun j hj => ?_, h.inj, h.lo, fun j hj => ?_, ?_, h.kp, ?_, ?_, h.n64⟩, Kp.of_chg c (fun j hj _ => (hty j hj).2), VF.one a5⟩
  · by_cases e : j = i
    · subst e
      rw [upd_same, upd_same]
      refine ⟨a4, ?_⟩
      rcases a5 with ⟨rfl, hv⟩ | hv
      · rw [hv]; exact h5 j hj
      · exact own_lower hv hzw
    · rw [upd_other _ _ e, upd_other _ _ e]; exact ⟨h6 j hj (nS (h.hd j hj).1 (.inl ⟨rfl, (h.pne hi hj e).1⟩)), h5 j hj⟩
  · by_cases e : j = i
    · subst e; rw [upd_same]; exact a3
    · rw [upd_other _ _ e]; exact h7 j hj (nS (h.po j hj) (.inr ⟨rfl, (h.pne hi hj e).2⟩))
  · obtain ⟨b1, b2, b3, b4⟩ := h.hw j hj
    refine ⟨?_, b2, b3, by show _ ≤ (s.cells.set _ _).length; rw [List.length_set]; exact b4⟩
    by_cases e : j = i
    · subst e; rw [upd_same]; exact b1.next _ hx
    · rw [upd_other _ _ e]; exact b1
  · refine wd_set hcl h.wd ?_
    rw [Hs.acc_left]
    exact hwi.1.left _ hx
  · show s.count + 1 = ((if s.keep then s.log ++ [_] else s.log).length : Int)
    rw [h.kp, h.cnt]; simp
  · show (if s.keep then s.log ++ [_] else s.log).length ≤ K + 1
    rw [h.kp]; simp; exact h.lk
theorem upd_id {α : Type} (f : Nat → α) (i : Nat) : upd f i (f i) = f := by funext j; by_cases e : j = i; subst e; exact upd_same _ _ _; exact upd_other _ _ e
/-- A grant and a step. -/
theorem rm_step (h : RM w wr X ab gc Y Z n tb lv s vP vH qs ps vs gs ds bs Cs K) {i : Nat} (hi : i < n) (hg : gs i = true) (hst : s.stopped = false) (hK : K ≤ 1099511627776) :
    Calls Tryz.prog 46 #[.pointer (some ⟨qs i, 0, none⟩), .pointer (some ⟨ps i, 0, none⟩)] wr fun e w' => e = .returned (.tuple #[]) ∧ ∃ lv' vs' gs', RM w w' X ab gc Y Z n tb lv' (stS s i (bs i) (Cs i) (ds i)) vP vH qs ps vs' gs' (upd ds i (stD s (bs i) (Cs i) (ds i))) bs Cs (K + 1) ∧ Kp wr w' ∧ VF wr.heap.size vs vs' := by
  by_cases h0 : (ds i).ph = 0
  · refine (rm_idle h hi h0 _).mono ?_
    rintro e w' ⟨rfl, rfl⟩
    unfold stS stD
    rw [if_pos h0, if_pos h0, upd_id]
    exact ⟨rfl, _, _, _, h.mono (Nat.le_succ K), Kp.refl _, VF.refl _ _⟩
  · refine (rm_go h hi hg h0 hst hK).mono ?_
    rintro e w' ⟨rfl, lv', v', hh⟩
    exact ⟨rfl, _, _, _, hh⟩
theorem rm_insert (h : RM w wr X ab gc Y Z n tb lv s vP vH qs ps vs gs ds bs Cs K) {i : Nat} (hi : i < n) (x y : Int) (hx : W64 x) (hy : W64 y) :
    Calls Tryz.prog 41 #[.pointer (some ⟨qs i, 0, none⟩), .agg #[.int .u64 x, .int .u64 y]] wr fun e w' => e = .returned (.int .i64 (if (ds i).ph ≠ 0 then 61 else if x = Nev then 51 else 0)) ∧ ∃ vs', RM w w' X ab gc Y Z n tb lv s vP vH qs ps vs' gs (upd ds i (if (ds i).ph = 0 ∧ x ≠ Nev then (ds i).ins (x, y) else ds i)) bs Cs K ∧ Kp wr w' ∧ VF wr.heap.size vs vs' := by
  refine (insert_any x y (h.hd i hi).1 (h.ok hi)).mono ?_
  rintro e w' ⟨⟨h0, h1, rfl, hq⟩ | ⟨h0, rfl, hq⟩ | ⟨h0, h1, rfl, hq⟩, c⟩
  · rw [if_neg (by simpa using h0), if_neg h1, if_pos ⟨h0, h1⟩]
    have hv := Or.inr (a := (Value.slice none 0 0) = vs i ∧ ((ds i).ins (x, y)).out = (ds i).out) (TOwn.nil w' wr.heap.size)
    obtain ⟨m1, m2⟩ := h.one hi hq c hv ((h.hw i hi).1.ins hx hy)
    exact ⟨rfl, _, m1, m2, VF.one hv⟩
  · rw [if_pos h0, if_neg (fun z => h0 z.1)]
    obtain ⟨m1, m2⟩ := h.one hi hq c (.inl ⟨rfl, rfl⟩) (h.hw i hi).1
    exact ⟨rfl, _, m1, m2, by rw [upd_id]; exact VF.refl _ _⟩
  · rw [if_neg (by simpa using h0), if_pos h1, if_neg (fun z => z.2 h1)]
    obtain ⟨m1, m2⟩ := h.one hi hq c (.inl ⟨rfl, rfl⟩) (h.hw i hi).1
    exact ⟨rfl, _, m1, m2, by rw [upd_id]; exact VF.refl _ _⟩
theorem rm_take (h : RM w wr X ab gc Y Z n tb lv s vP vH qs ps vs gs ds bs Cs K) {i : Nat} (hi : i < n) :
    Calls Tryz.prog 43 #[.pointer (some ⟨qs i, 0, none⟩)] wr fun e w' => e = .returned (.int .i64 (if (ds i).ph ≠ 0 then 61 else 0)) ∧ ∃ vs', RM w w' X ab gc Y Z n tb lv s vP vH qs ps vs' gs (upd ds i (if (ds i).ph = 0 then (ds i).tak else ds i)) bs Cs K ∧ Kp wr w' ∧ VF wr.heap.size vs vs' := by
  refine (take_any (h.hd i hi).1 (h.ok hi)).mono ?_
  rintro e w' ⟨⟨h0, rfl, hq⟩ | ⟨h0, rfl, hq⟩, c⟩
  · rw [if_neg (by simpa using h0), if_pos h0]
    have hv := Or.inr (a := (Value.slice none 0 0) = vs i ∧ ((ds i).tak).out = (ds i).out) (TOwn.nil w' wr.heap.size)
    obtain ⟨m1, m2⟩ := h.one hi hq c hv ((h.hw i hi).1.tak)
    exact ⟨rfl, _, m1, m2, VF.one hv⟩
  · rw [if_pos h0, if_neg h0]
    obtain ⟨m1, m2⟩ := h.one hi hq c (.inl ⟨rfl, rfl⟩) (h.hw i hi).1
    exact ⟨rfl, _, m1, m2, by rw [upd_id]; exact VF.refl _ _⟩
theorem rm_over (h : RM w wr X ab gc Y Z n tb lv s vP vH qs ps vs gs ds bs Cs K) {i : Nat} (hi : i < n) : Calls Tryz.prog 22 #[.pointer (some ⟨qs i, 0, none⟩)] wr fun e w' => e = .returned (.bool (decide ((ds i).ph = 0))) ∧ w' = wr := over_any (h.hd i hi).1
theorem rm_reply (h : RM w wr X ab gc Y Z n tb lv s vP vH qs ps vs gs ds bs Cs K) {i : Nat} (hi : i < n) : Calls Tryz.prog 23 #[.pointer (some ⟨qs i, 0, none⟩)] wr fun e w' => Below wr.heap.size wr w' ∧ ∃ u, e = .returned (.agg #[.int .i64 (ds i).st, u]) ∧ TOwn w' wr.heap.size u (ds i).out := reply_any (h.hd i hi).1 (h.hd i hi).2 (h.hw i hi).1.out
theorem rm_image (h : RM w wr X ab gc Y Z n tb lv s vP vH qs ps vs gs ds bs Cs K) : Calls Tryz.prog 15 #[.pointer (some ⟨ab, 0, none⟩)] wr fun r w' => ∃ v', r = .returned v' ∧ w'.ownsRow wr.heap.size 40 1 v' s.cells.length (s.cells.map (Value.int .u64)) ∧ RM w w' X ab gc Y Z n tb lv s vP vH qs ps vs gs ds bs Cs K ∧ Kp wr w' := by
  refine (image_any Y ab gc lv s wr h.ar).mono ?_
  rintro r w' ⟨v', hr, ho, ha', k⟩
  exact ⟨v', hr, ho, (h.look ha' k).1, (h.look ha' k).2⟩
theorem rm_log (h : RM w wr X ab gc Y Z n tb lv s vP vH qs ps vs gs ds bs Cs K) (hK : K ≤ 1099511627776) : Calls Tryz.prog 14 #[.pointer (some ⟨ab, 0, none⟩)] wr fun r w' => ∃ v', r = .returned v' ∧ w'.ownsRow wr.heap.size 55 8 v' s.log.length (logCells s.log) ∧ RM w w' X ab gc Y Z n tb lv s vP vH qs ps vs gs ds bs Cs K ∧ Kp wr w' := by
  refine (log_any Y ab gc lv s wr h.ar (by have := h.lk; omega)).mono ?_
  rintro r w' ⟨v', hr, ho, ha', k⟩
  exact ⟨v', hr, ho, (h.look ha' k).1, (h.look ha' k).2⟩
/-- The cells that an op reads. -/
theorem RM.cells {gP cP gH cH : Nat} (h : RM w wr X ab gc Y Z n tb lv s (.slice (some ⟨gP, 0, none⟩) n cP) (.slice (some ⟨gH, 0, none⟩) n cH) qs ps vs gs ds bs Cs K) {i : Nat} (hi : i < n) :
    wr.cell? ⟨X, 2, none⟩ = some (.pointer (some ⟨ab, 0, none⟩)) ∧ wr.cell? ⟨X, 3, none⟩ = some (.slice (some ⟨gP, 0, none⟩) n cP) ∧ wr.cell? ⟨X, 4, none⟩ = some (.slice (some ⟨gH, 0, none⟩) n cH) ∧
    wr.cell? ⟨gP, i, none⟩ = some (.pointer (some ⟨ps i, 0, none⟩)) ∧ wr.cell? ⟨gH, i, none⟩ = some (.pointer (some ⟨qs i, 0, none⟩)) := by
  have hx := h.x
  exact ⟨cell_of hx h.tc.1, cell_of hx h.tc.2.1, cell_of hx h.tc.2.2, own_at h.rp (ptrs_get ps hi) hi, own_at h.rh (ptrs_get qs hi) hi⟩
end
end Go.Proofs.YtgjdjdgondpjeaaGreat

/- act 17. -/
namespace Go.Proofs.YtgjdjdgondpjeaaGreat
open Go.RowKit Go.Lib Go.MuLone
set_option linter.unusedVariables false
set_option linter.unusedSimpArgs false
def actE (kind : Int) (t : Tk) (d : Hs) : Int := if kind = 1 then (if d.ph ≠ 0 then 61 else if t.1 = Nev then 51 else 0) else if kind = 2 then (if d.ph ≠ 0 then 61 else 0) else 0
def actD (s : Ast) (b C : Nat) (kind : Int) (t : Tk) (d : Hs) : Hs := if kind = 1 then (if d.ph = 0 ∧ t.1 ≠ Nev then d.ins (t.1, t.2) else d) else if kind = 2 then (if d.ph = 0 then d.tak else d) else if kind = 3 then stD s b C d else d
def actS (s : Ast) (i b C : Nat) (kind : Int) (d : Hs) : Ast := if kind = 3 then stS s i b C d else s
section
variable {w wr wr' : World} {X ab gc Y Z n K : Nat} {tb : Array Value} {lv vP vH : Value} {s : Ast} {qs ps : Nat → Nat} {vs : Nat → Value} {gs : Nat → Bool} {ds : Nat → Hs} {bs Cs : Nat → Nat}
set_option maxRecDepth 100000 in
set_option maxHeartbeats 4000000 in
theorem act_any {gP cP gH cH : Nat} (h : RM w wr X ab gc Y Z n tb lv s (.slice (some ⟨gP, 0, none⟩) n cP) (.slice (some ⟨gH, 0, none⟩) n cH) qs ps vs gs ds bs Cs K) {i : Nat} (hi : i < n) (kind who : Int) (t : Tk) (hst : s.stopped = false) (hK : K ≤ 1099511627776) (h1 : W64 t.1) (h2 : W64 t.2) :
    Calls Tryz.prog 17 #[.pointer (some ⟨X, 0, none⟩), .int .i64 i, .agg #[.int .i64 kind, .int .i64 who, .int .u64 t.1, .int .u64 t.2]] wr fun e w' => e = .returned (.int .i64 (actE kind t (ds i))) ∧ ∃ lv' vs' gs', RM w w' X ab gc Y Z n tb lv' (actS s i (bs i) (Cs i) kind (ds i)) (.slice (some ⟨gP, 0, none⟩) n cP) (.slice (some ⟨gH, 0, none⟩) n cH) qs ps vs' gs' (upd ds i (actD s (bs i) (Cs i) kind t (ds i))) bs Cs (K + 1) ∧ Kp wr w' ∧ VF wr.heap.size vs vs' := by
  obtain ⟨t1, t2⟩ := t
  simp only at h1 h2
  obtain ⟨W, hW⟩ : ∃ W, W = wr.alloc (.cells #[.int .i64 kind, .int .i64 who, .int .u64 t1, .int .u64 t2] 44) := ⟨_, rfl⟩
  have hbW : Below wr.heap.size wr W := by rw [hW]; exact below_alloc (Below.refl _ _) _
  have HZ := hide (show W.heap[wr.heap.size]? = some (.cells #[.int .i64 kind, .int .i64 who, .int .u64 t1, .int .u64 t2] 44 (0, 0)) by rw [hW]; exact heap_new _ _)
  have H := hide (h.below hbW)
  have HKW := hide (Kp.of_below hbW)
  have hbS := hide hbW.size
  have hin : (i : Int) < (n : Int) := by omega
  have hcc := fun (V : World) (hb : Below W.heap.size W V) => ((h.below hbW).below hb).cells hi
  have HCC := hide hcc
  have hzz : ∀ V, Below W.heap.size W V → V.cell? ⟨wr.heap.size, 0, none⟩ = some (.int .i64 kind) ∧ V.cell? ⟨wr.heap.size, 2, none⟩ = some (.int .u64 t1) ∧ V.cell? ⟨wr.heap.size, 3, none⟩ = some (.int .u64 t2) := fun V hb => by
    have z := (hb.block _ (lt_of_heap HZ.out)).trans HZ.out
    exact ⟨cell_of z rfl, cell_of z rfl, cell_of z rfl⟩
  have HZZ := hide hzz
  have HZK : Hid (∀ V V', Below W.heap.size W V → Kp V V' → V'.cell? ⟨wr.heap.size, 0, none⟩ = some (.int .i64 kind) ∧ V'.cell? ⟨wr.heap.size, 2, none⟩ = some (.int .u64 t1) ∧ V'.cell? ⟨wr.heap.size, 3, none⟩ = some (.int .u64 t2)) := hide (fun V V' hb hk => by
    have z := hk.2 _ _ _ ((hb.block _ (lt_of_heap HZ.out)).trans HZ.out) (by unfold pT; decide)
    exact ⟨cell_of z rfl, cell_of z rfl, cell_of z rfl⟩)
  obtain ⟨x2, x3, x4, x5, x6⟩ := hcc W (Below.refl _ _)
  obtain ⟨z0, z2, z3⟩ := hzz W (Below.refl _ _)
  have HWX := hide h1; have HWY := hide h2
  have HST := hide hst
  clear h hbW hcc hzz h1 h2 hst
  by_cases k1 : kind = 1
  · have HI := hide (fun V (hb : Below W.heap.size W V) => rm_insert (H.out.below hb) hi t1 t2 HWX.out HWY.out)
    have HE : Hid (actE kind (t1, t2) (ds i) = if (ds i).ph ≠ 0 then 61 else if t1 = Nev then 51 else 0) := if_pos k1
    have HD : Hid (actD s (bs i) (Cs i) kind (t1, t2) (ds i) = if (ds i).ph = 0 ∧ t1 ≠ Nev then (ds i).ins (t1, t2) else ds i) := if_pos k1
    have HS : Hid (actS s i (bs i) (Cs i) kind (ds i) = s) := if_neg (by omega)
    rw [HE.out, HD.out, HS.out]
    clear HE HD HS
    generalize (if (ds i).ph ≠ 0 then (61 : Int) else if t1 = Nev then 51 else 0) = E at HI ⊢
    generalize (if (ds i).ph = 0 ∧ t1 ≠ Nev then (ds i).ins (t1, t2) else ds i) = D at HI ⊢
    subst k1
    go_enter Tryz.func17, Tryz.ntmps17
    go_wp2_with fail
    rw [← hW]
    clear hW
    refine wp_region_noPanic ?_
    go_region_held3 (fun x => x.cell? ⟨X, 4, none⟩ = some (.slice (some ⟨gH, 0, none⟩) n cH) ∧ x.cell? ⟨gH, i, none⟩ = some (.pointer (some ⟨qs i, 0, none⟩)) ∧ x.cell? ⟨wr.heap.size, 2, none⟩ = some (.int .u64 t1) ∧ x.cell? ⟨wr.heap.size, 3, none⟩ = some (.int .u64 t2)) (first | exact ⟨x4, x6, z2, z3⟩ | exact ⟨q4, q6, q2, q3⟩ | go_keep)
      (first
        | (go_at_call 41; refine (HI.out _ (below_drew (Below.refl _ _))).mono ?_; rintro e w4 ⟨rfl, vs', hr, hk, hvf⟩; have HVF := hide (hvf.low hbS.out); have HR := hide hr; have HKK := hide ((Kp.of_below (below_drew (Below.refl W.heap.size W))).trans hk); obtain ⟨_, _, q4, _, q6⟩ := hr.cells hi; obtain ⟨_, q2, q3⟩ := HZK.out _ _ (below_drew (Below.refl _ _)) hk; clear hr hk hvf)
        | fail)
    all_goals
      refine NoPanic.normal ?_
      go_wp2_with fail
      go_ret
      exact ⟨rfl, _, _, _, HR.out.mono (Nat.le_succ K), HKW.out.trans HKK.out, HVF.out⟩
  · by_cases k2 : kind = 2
    · have HI := hide (fun V (hb : Below W.heap.size W V) => rm_take (H.out.below hb) hi)
      have HE : Hid (actE kind (t1, t2) (ds i) = if (ds i).ph ≠ 0 then 61 else 0) := by unfold Hid actE; rw [if_neg k1, if_pos k2]
      have HD : Hid (actD s (bs i) (Cs i) kind (t1, t2) (ds i) = if (ds i).ph = 0 then (ds i).tak else ds i) := by unfold Hid actD; rw [if_neg k1, if_pos k2]
      have HS : Hid (actS s i (bs i) (Cs i) kind (ds i) = s) := if_neg (by omega)
      rw [HE.out, HD.out, HS.out]
      clear HE HD HS
      generalize (if (ds i).ph ≠ 0 then (61 : Int) else 0) = E at HI ⊢
      generalize (if (ds i).ph = 0 then (ds i).tak else ds i) = D at HI ⊢
      subst k2
      clear k1
      rw [hW] at x4 x6
      go_enter Tryz.func17, Tryz.ntmps17
      go_wp2_with fail
      rw [← hW]
      clear hW x4 x6
      refine (HI.out _ (Below.refl _ _)).mono ?_
      rintro e w4 ⟨rfl, vs', hr, hk, hvf⟩
      have HVF := hide (hvf.low hbS.out)
      have HR := hide hr
      have HKK := hide hk
      clear hr hk hvf
      go_wp2_with fail
      go_ret
      exact ⟨rfl, _, _, _, HR.out.mono (Nat.le_succ K), HKW.out.trans HKK.out, HVF.out⟩
    · have HE : Hid (actE kind (t1, t2) (ds i) = 0) := by unfold Hid actE; rw [if_neg k1, if_neg k2]
      rw [HE.out]
      clear HE
      have b1 : (kind == 1) = false := by simpa using k1
      have b2 : (kind == 2) = false := by simpa using k2
      by_cases k3 : kind = 3
      · have HD : Hid (actD s (bs i) (Cs i) kind (t1, t2) (ds i) = stD s (bs i) (Cs i) (ds i)) := by unfold Hid actD; rw [if_neg k1, if_neg k2, if_pos k3]
        have HS : Hid (actS s i (bs i) (Cs i) kind (ds i) = stS s i (bs i) (Cs i) (ds i)) := if_pos k3
        rw [HD.out, HS.out]
        clear HD HS
        have HG := hide (rm_grant H.out hi)
        subst k3
        clear k1 k2 b1 b2
        rw [hW] at x3 x5
        go_enter Tryz.func17, Tryz.ntmps17
        go_wp2_with fail
        rw [← hW]
        clear hW x3 x5
        refine HG.out.mono ?_
        rintro e w4 ⟨rfl, hr, hk⟩
        obtain ⟨_, q3, q4, q5, q6⟩ := hr.cells hi
        have HR := hide hr
        have HKK := hide hk
        have HGO := hide (rm_step (hr.below (below_drew (Below.refl _ _))) hi (upd_same _ _ _) HST.out hK)
        clear hr hk x2 x4 x6
        go_upto_region 8 with fail
        refine wp_region_noPanic ?_
        go_region_held3 (fun x => x.cell? ⟨X, 3, none⟩ = some (.slice (some ⟨gP, 0, none⟩) n cP) ∧ x.cell? ⟨gP, i, none⟩ = some (.pointer (some ⟨ps i, 0, none⟩)) ∧ x.cell? ⟨X, 4, none⟩ = some (.slice (some ⟨gH, 0, none⟩) n cH) ∧ x.cell? ⟨gH, i, none⟩ = some (.pointer (some ⟨qs i, 0, none⟩))) (first | exact ⟨q3, q5, q4, q6⟩ | exact ⟨r3, r5, r4, r6⟩ | go_keep)
          (first
            | (go_at_call 46; refine HGO.out.mono ?_; rintro e w5 ⟨rfl, lv', vs', gs', hr5, hk5, hvf⟩; have HVF := hide (hvf.low (Nat.le_trans hbS.out HKK.out.1)); have HR5 := hide hr5; have HK5 := hide ((Kp.of_below (below_drew (Below.refl w4.heap.size w4))).trans hk5); obtain ⟨_, r3, r4, r5, r6⟩ := hr5.cells hi; clear hr5 hk5 hvf)
            | fail)
        all_goals
          refine NoPanic.normal ?_
          go_wp2_with fail
          go_ret
          exact ⟨rfl, _, _, _, HR5.out, (HKW.out.trans HKK.out).trans HK5.out, HVF.out⟩
      · have HD : Hid (actD s (bs i) (Cs i) kind (t1, t2) (ds i) = ds i) := by unfold Hid actD; rw [if_neg k1, if_neg k2, if_neg k3]
        have HS : Hid (actS s i (bs i) (Cs i) kind (ds i) = s) := if_neg k3
        rw [HD.out, HS.out, upd_id]
        clear HD HS
        have b3 : (kind == 3) = false := by simpa using k3
        clear k1 k2 k3
        go_enter Tryz.func17, Tryz.ntmps17
        go_wp2_with fail
        go_ret
        rw [← hW]
        exact ⟨rfl, _, _, _, H.out.mono (Nat.le_succ K), HKW.out, VF.refl _ _⟩

end
end Go.Proofs.YtgjdjdgondpjeaaGreat
