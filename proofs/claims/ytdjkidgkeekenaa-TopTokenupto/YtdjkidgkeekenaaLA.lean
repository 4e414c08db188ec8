import Derived.Test.YtdjkidgkeekenaaM2
import Derived.Test.YtdjkidgkeekenaaTSa
import Derived.Deep.Cut
import Derived.Deep.CutRange
/- The loom over a circle: its memory; Fault, Peek, Who. -/
namespace Go.Proofs.Ytdjkidgkeekenaa
open Go.RowKit Go.Lib Go.MuLone
set_option linter.unusedVariables false
set_option linter.unusedSimpArgs false
def fltV (a b c : Int) : Value := .agg #[.int .i64 a, .int .i64 b, .int .i64 c]
theorem Try.results36 : Try.f36.results = #[.cell 2 83, .tmp 3] := by kernel_rfl
set_option maxRecDepth 100000 in
theorem fault_any (Y b gc : Nat) (lv : Value) (s : Ast) (w : World) (h : AIs w Y b gc lv s) :
    Calls Try.prog 36 #[.pointer (some ⟨b, 0, none⟩)] w fun r w' => r = .returned (.tuple #[fltV s.fw s.fk s.fc, .bool s.stopped]) ∧ AIs w' Y b gc lv s ∧ Chg (fun k => k = b) w w' := by
  have c0 : w.cell? ⟨b, 0, none⟩ = some (.int .i32 0) := cell_of h.hb rfl
  have c6 : w.cell? ⟨b, 6, none⟩ = some (.bool s.stopped) := cell_of h.hb rfl
  have c7 : w.cell? ⟨b, 7, none⟩ = some (.int .i64 s.fw) := cell_of h.hb rfl
  have c8 : w.cell? ⟨b, 8, none⟩ = some (.int .i64 s.fk) := cell_of h.hb rfl
  have c9 : w.cell? ⟨b, 9, none⟩ = some (.int .i64 s.fc) := cell_of h.hb rfl
  have f0 := free_of h.hb 0
  have hlt := lt_of_heap h.hb
  have H := hide h
  clear h
  go_enter_defers Try.func36, Try.ntmps36
  go_wp2_with fail
  refine (lock_free Try.muLib ⟨b, 0, none⟩ _ (cell_of (heap_old H.out.hb _) rfl) (free_of (heap_old H.out.hb _) 0)).mono ?_
  rintro e w' ⟨rfl, rfl⟩
  go_wp2_with fail
  go_region
  go_wp2_with fail
  refine leaves_cons (f := 25) (args := #[.pointer (some ⟨b, 0, none⟩)]) (by simp) (by simp [go_sem]) ?_
  have hl : (((w.setCell ⟨b, 0, none⟩ (.int .i32 1)).alloc (.cells #[.int .i64 s.fw, .int .i64 s.fk, .int .i64 s.fc] 83)).drew).heap[b]? = some (AObjL 1 gc lv s) := heap_old (heap_set H.out.hb _) _
  refine (unlock_deferred Try.muLib ⟨b, 0, none⟩ .returning _ (cell_of hl rfl) (free_of hl 0)).mono ?_
  rintro e u' w'' ⟨rfl, rfl, rfl⟩
  refine ⟨.tuple #[fltV s.fw s.fk s.fc, .bool s.stopped], ?_, rfl, ?_⟩
  · simp [results, Try.results36, go_sem, fltV]
  have k : Chg (fun k => k = b) w ((((w.setCell ⟨b, 0, none⟩ (.int .i32 1)).alloc (.cells #[.int .i64 s.fw, .int .i64 s.fk, .int .i64 s.fc] 83)).drew).setCell ⟨b, 0, none⟩ (.int .i32 0)) :=
    ((((Chg.refl (fun k => k = b) _).put b 0 _ rfl).alloc _).drew).put b 0 _ rfl
  exact ⟨H.out.relock (heap_set hl _) k (fun e => H.out.ne e.symm) (fun i hi => (H.out.own_ne hi).1), k⟩
theorem Try.mStep (v : Value) (w : World) : (Go.method 244 54 v "Step").run Try.prog w = .ok (97, v) w := by kernel_rfl
theorem Try.mOver (v : Value) (w : World) : (Go.method 244 54 v "Over").run Try.prog w = .ok (35, v) w := by kernel_rfl
/-- A node as a machine. -/
def mV (q : Nat) : Value := .iface 54 (.pointer (some ⟨q, 0, none⟩))
def mT (t : TypeId) : Prop := t = 85 ∨ t = 41 ∨ t = 109 ∨ t = 43 ∨ t = 96 ∨ t = 71
def mU (t : TypeId) : Prop := mT t ∨ t = 31
/-- What is no part of the circle stays. -/
def kT (gc : Nat) (t : TypeId) (j : Nat) : Prop := ¬ mT t ∨ (t = 41 ∧ j ≠ gc)
def Kp (gc : Nat) (wr wr' : World) : Prop := wr.heap.size ≤ wr'.heap.size ∧ ∀ (j : Nat) (cs : Array Value) (t : TypeId), wr.heap[j]? = some (.cells cs t (0, 0)) → kT gc t j → wr'.heap[j]? = some (.cells cs t (0, 0))
theorem Kp.refl (gc : Nat) (x : World) : Kp gc x x := ⟨Nat.le_refl _, fun _ _ _ h _ => h⟩
theorem Kp.trans {gc : Nat} {x y z : World} (h : Kp gc x y) (k : Kp gc y z) : Kp gc x z := ⟨Nat.le_trans h.1 k.1, fun j cs t a e => k.2 j cs t (h.2 j cs t a e) e⟩
theorem Kp.of_chg {gc : Nat} {S : Nat → Prop} {x y : World} (c : Chg S x y) (hS : ∀ j, S j → j < x.heap.size → ∃ cs t, x.heap[j]? = some (.cells cs t (0, 0)) ∧ mT t ∧ (t = 41 → j = gc)) : Kp gc x y :=
  ⟨c.size, fun j cs t hj h1 => (c.block j (lt_of_heap hj) (fun e => by
    obtain ⟨cs', t', h', ho, hg⟩ := hS j e (lt_of_heap hj)
    have e2 := ty_of h' hj
    subst e2
    rcases h1 with h1 | ⟨h1, h2⟩
    · exact h1 ho
    · exact h2 (hg h1))).trans hj⟩
theorem Kp.of_below {gc : Nat} {x y : World} (h : Below x.heap.size x y) : Kp gc x y := Kp.of_chg (S := fun _ => False) (Chg.of_below h) (fun _ e => e.elim)
structure LMm (w wr : World) (X b gc Y Z n lb sb : Nat) (lv : Value) (s : Ast) (vN : Value) (qs rs : Nat → Nat) (sv : Nat → Value) (gs : Nat → Bool) (ds : Nat → Nd) (mv : Nat → Int) (K : Nat) : Prop where
  bel : Below w.heap.size w wr
  zl : w.heap.size ≤ Z ∧ w.heap.size ≤ b ∧ w.heap.size ≤ gc ∧ w.heap.size ≤ sb
  x : ∃ vP pb vG, wr.heap[X]? = some (.cells #[vP, pb, vG, .pointer (some ⟨b, 0, none⟩), .pointer (some ⟨lb, 0, none⟩), vN] 36 (0, 0))
  ar : AIs wr Y b gc lv s
  rn : wr.ownsRow Z 54 1 vN n (ptrs qs n)
  lm : wr.heap[lb]? = some (.cells #[.pointer (some ⟨b, 0, none⟩), .slice (some ⟨sb, 0, none⟩) n n] 65 (0, 0))
  se : ∃ cs, wr.heap[sb]? = some (.cells cs 71 (0, 0)) ∧ ∀ j, j < n → cs[j * 3]? = some (mV (qs j)) ∧ cs[j * 3 + 1]? = some (.pointer (some ⟨rs j, 0, none⟩)) ∧ cs[j * 3 + 2]? = some (.int .i64 (mv j))
  nd : ∀ j, j < n → wr.heap[qs j]? = some ((ds j).obj (sv j)) ∧ Snd wr Z (sv j) (ds j).sends
  po : ∀ j, j < n → wr.heap[rs j]? = some (PObj b j (gs j))
  inj : ∀ i j, i < j → j < n → qs i ≠ qs j ∧ rs i ≠ rs j
  lo : ∀ j, j < n → Z ≤ qs j ∧ Z ≤ rs j
  inv : Inv n K (ds, s.cells)
  go : s.stopped = false
  kp : s.keep = true
  cnt : s.count = s.log.length
  lk : s.log.length ≤ K
  n64 : 1 ≤ n ∧ n ≤ 64
  mb : ∀ j, j < n → 0 ≤ mv j ∧ mv j ≤ K
section
variable {w wr wr' : World} {X b gc Y Z n lb sb K : Nat} {lv lv' vN : Value} {s s' : Ast} {qs rs : Nat → Nat} {sv : Nat → Value} {gs : Nat → Bool} {ds : Nat → Nd} {mv : Nat → Int}
theorem LMm.parts {S : Nat → Prop} (h : LMm w wr X b gc Y Z n lb sb lv s vN qs rs sv gs ds mv K) (c : Chg S wr wr') (hS : ∀ j, S j → w.heap.size ≤ j ∧ (j < wr.heap.size → ∃ cs t, wr.heap[j]? = some (.cells cs t (0, 0)) ∧ mU t)) :
    Below w.heap.size w wr' ∧ (∃ vP pb vG, wr'.heap[X]? = some (.cells #[vP, pb, vG, .pointer (some ⟨b, 0, none⟩), .pointer (some ⟨lb, 0, none⟩), vN] 36 (0, 0))) ∧ wr'.ownsRow Z 54 1 vN n (ptrs qs n) ∧ wr'.heap[lb]? = some (.cells #[.pointer (some ⟨b, 0, none⟩), .slice (some ⟨sb, 0, none⟩) n n] 65 (0, 0)) ∧
    (∀ j, j < n → Snd wr' Z (sv j) (ds j).sends) ∧ (∀ j, j < n → ¬ S (qs j) → wr'.heap[qs j]? = some ((ds j).obj (sv j))) ∧ (∀ j, j < n → ¬ S (rs j) → wr'.heap[rs j]? = some (PObj b j (gs j))) ∧
    (¬ S sb → ∃ cs, wr'.heap[sb]? = some (.cells cs 71 (0, 0)) ∧ ∀ j, j < n → cs[j * 3]? = some (mV (qs j)) ∧ cs[j * 3 + 1]? = some (.pointer (some ⟨rs j, 0, none⟩)) ∧ cs[j * 3 + 2]? = some (.int .i64 (mv j))) := by
  have no : ∀ {j : Nat} {cs : Array Value} {t : TypeId}, wr.heap[j]? = some (.cells cs t (0, 0)) → ¬ mU t → wr'.heap[j]? = wr.heap[j]? := fun {j cs t} hj h1 => c.block _ (lt_of_heap hj) (fun e => by
    obtain ⟨cs', t', h', ho⟩ := (hS j e).2 (lt_of_heap hj)
    rw [ty_of h' hj] at h1
    exact h1 ho)
  refine ⟨c.below h.bel (fun j hj => (hS j hj).1) h.bel.size, ?_, own_stayR h.rn (fun g hg => ?_), (no h.lm (by unfold mU mT; decide)).trans h.lm, fun j hj => (h.nd j hj).2.stay fun g hg => ?_, fun j hj hn => c.heap (h.nd j hj).1 hn, fun j hj hn => c.heap (h.po j hj) hn, fun hn => ?_⟩
  · obtain ⟨vP, pb, vG, hx⟩ := h.x
    exact ⟨vP, pb, vG, (no hx (by unfold mU mT; decide)).trans hx⟩
  · obtain ⟨_, _, cs, h3⟩ := own_ty h.rn hg
    exact no h3 (by unfold mU mT; decide)
  · obtain ⟨cs, ht⟩ := (h.nd j hj).2.typ hg
    exact no ht (by unfold mU mT; decide)
  · obtain ⟨cs, h1, h2⟩ := h.se
    exact ⟨cs, c.heap h1 hn, h2⟩
theorem LMm.look (h : LMm w wr X b gc Y Z n lb sb lv s vN qs rs sv gs ds mv K) (ha : AIs wr' Y b gc lv s) (c : Chg (fun j => j = b) wr wr') : LMm w wr' X b gc Y Z n lb sb lv s vN qs rs sv gs ds mv K := by
  obtain ⟨h1, h2, h3, h4, h5, h6, h7, h8⟩ := h.parts c (fun j hj => by subst hj; exact ⟨h.zl.2.1, fun _ => ⟨_, _, h.ar.hb, .inl (.inl rfl)⟩⟩)
  obtain ⟨cs, hsb, _⟩ := h.se
  exact ⟨h1, h.zl, h2, ha, h3, h4, h8 (ne_ty hsb h.ar.hb (by decide)), fun j hj => ⟨h6 j hj (ne_ty (h.nd j hj).1 h.ar.hb (by decide)), h5 j hj⟩, fun j hj => h7 j hj (ne_ty (h.po j hj) h.ar.hb (by decide)), h.inj, h.lo, h.inv, h.go, h.kp, h.cnt, h.lk, h.n64, h.mb⟩
theorem LMm.kpb (h : LMm w wr X b gc Y Z n lb sb lv s vN qs rs sv gs ds mv K) (c : Chg (fun j => j = b) wr wr') : Kp gc wr wr' :=
  Kp.of_chg c (fun j hj _ => by subst hj; exact ⟨_, _, h.ar.hb, .inl rfl, fun e => absurd e (by decide)⟩)
theorem LMm.loc (h : LMm w wr X b gc Y Z n lb sb lv s vN qs rs sv gs ds mv K) {t : Nat} {cs : Array Value} (ht : wr.heap[t]? = some (.cells cs 31 (0, 0))) (hw : w.heap.size ≤ t) (c : Chg (fun j => j = t) wr wr') : LMm w wr' X b gc Y Z n lb sb lv s vN qs rs sv gs ds mv K := by
  obtain ⟨h1, h2, h3, h4, h5, h6, h7, h8⟩ := h.parts c (fun j hj => by subst hj; exact ⟨hw, fun _ => ⟨_, _, ht, .inr rfl⟩⟩)
  obtain ⟨csb, hsb, _⟩ := h.se
  have hne : ∀ {j : Nat} {cs' : Array Value} {u : TypeId}, wr.heap[j]? = some (.cells cs' u (0, 0)) → u ≠ 31 → j ≠ t := fun hj hu => ne_ty hj ht hu
  refine ⟨h1, h.zl, h2, h.ar.kept c (hne h.ar.hb (by decide)) (hne h.ar.hc (by decide)) (fun j hj => by
    obtain ⟨_, cs', h3⟩ := own_ty8 h.ar.hl hj; exact hne h3 (by decide)), h3, h4, h8 (hne hsb (by decide)), fun j hj => ⟨h6 j hj (hne (h.nd j hj).1 (by decide)), h5 j hj⟩, fun j hj => h7 j hj (hne (h.po j hj) (by decide)), h.inj, h.lo, h.inv, h.go, h.kp, h.cnt, h.lk, h.n64, h.mb⟩
theorem LMm.below (h : LMm w wr X b gc Y Z n lb sb lv s vN qs rs sv gs ds mv K) (hb : Below wr.heap.size wr wr') : LMm w wr' X b gc Y Z n lb sb lv s vN qs rs sv gs ds mv K := by
  obtain ⟨h1, h2, h3, h4, h5, h6, h7, h8⟩ := h.parts (S := fun _ => False) (Chg.of_below hb) (fun j hj => hj.elim)
  exact ⟨h1, h.zl, h2, h.ar.below hb, h3, h4, h8 id, fun j hj => ⟨h6 j hj id, h5 j hj⟩, fun j hj => h7 j hj id, h.inj, h.lo, h.inv, h.go, h.kp, h.cnt, h.lk, h.n64, h.mb⟩
theorem Inv.mono {σ : Cir} {n K : Nat} (h : Inv n K σ) : Inv n (K + 1) σ := ⟨h.sys.mono (Nat.le_succ K), h.tx.mono⟩
theorem LMm.mono (h : LMm w wr X b gc Y Z n lb sb lv s vN qs rs sv gs ds mv K) : LMm w wr X b gc Y Z n lb sb lv s vN qs rs sv gs ds mv (K + 1) :=
  ⟨h.bel, h.zl, h.x, h.ar, h.rn, h.lm, h.se, h.nd, h.po, h.inj, h.lo, h.inv.mono, h.go, h.kp, h.cnt, Nat.le_succ_of_le h.lk, h.n64, fun j hj => by have := h.mb j hj; omega⟩
theorem LMm.pne (h : LMm w wr X b gc Y Z n lb sb lv s vN qs rs sv gs ds mv K) {i j : Nat} (hi : i < n) (hj : j < n) (hij : j ≠ i) : qs j ≠ qs i ∧ rs j ≠ rs i := by
  rcases Nat.lt_or_gt_of_ne hij with e | e
  · exact h.inj j i e hi
  · exact ⟨fun q => (h.inj i j e hj).1 q.symm, fun q => (h.inj i j e hj).2 q.symm⟩
theorem lm_grant (h : LMm w wr X b gc Y Z n lb sb lv s vN qs rs sv gs ds mv K) {i : Nat} (hi : i < n) : Calls Try.prog 37 #[.pointer (some ⟨rs i, 0, none⟩)] wr fun r w' => r = .returned (.tuple #[]) ∧ LMm w w' X b gc Y Z n lb sb lv s vN qs rs sv (upd gs i true) ds mv K ∧ Kp gc wr w' := by
  have hp := h.po i hi
  refine (grant_any (rs i) Y b gc lv s i (gs i) wr h.ar hp (ne_ty hp h.ar.hb (by decide)) (ne_ty hp h.ar.hc (by decide)) (fun e => by
    obtain ⟨_, cs, h3⟩ := own_ty8 h.ar.hl e
    exact ne_ty hp h3 (by decide) rfl)).mono ?_
  rintro e w' ⟨rfl, ha, hpo, c, _⟩
  obtain ⟨h1, h2, h3, h4, h5, h6, h7, h8⟩ := h.parts c (fun j hj => by
    rcases hj with rfl | rfl
    · exact ⟨h.zl.2.1, fun _ => ⟨_, _, h.ar.hb, .inl (.inl rfl)⟩⟩
    · exact ⟨Nat.le_trans h.zl.1 (h.lo i hi).2, fun _ => ⟨_, _, hp, by simp [mU, mT]⟩⟩)
  obtain ⟨cs, hsb, _⟩ := h.se
  refine ⟨rfl, ⟨h1, h.zl, h2, ha, h3, h4, h8 (fun e => ?_), fun j hj => ⟨h6 j hj (fun e => ?_), h5 j hj⟩, fun j hj => ?_, h.inj, h.lo, h.inv, h.go, h.kp, h.cnt, h.lk, h.n64, h.mb⟩, Kp.of_chg c (fun j hj _ => by
    rcases hj with rfl | rfl
    · exact ⟨_, _, h.ar.hb, .inl rfl, fun e => absurd e (by decide)⟩
    · exact ⟨_, _, hp, by simp [mT], fun e => absurd e (by decide)⟩)⟩
  · rcases e with e | e
    · exact ne_ty hsb h.ar.hb (by decide) e
    · exact ne_ty hsb hp (by decide) e
  · rcases e with e | e
    · exact ne_ty (h.nd j hj).1 h.ar.hb (by decide) e
    · exact ne_ty (h.nd j hj).1 hp (by decide) e
  · by_cases e : j = i
    · subst e; rw [upd_same]; exact hpo
    · rw [upd_other _ _ e]
      exact h7 j hj (fun q => by
        rcases q with q | q
        · exact ne_ty (h.po j hj) h.ar.hb (by decide) q
        · exact (h.pne hi hj e).2 q)
theorem lm_step (h : LMm w wr X b gc Y Z n lb sb lv s vN qs rs sv gs ds mv K) {i : Nat} (hi : i < n) (hg : gs i = true) (h0 : (ds i).ph ≠ 0) (hK : K ≤ 1099511627776) :
    Calls Try.prog 97 #[.pointer (some ⟨qs i, 0, none⟩), .pointer (some ⟨rs i, 0, none⟩)] wr fun e w' => e = .returned (.tuple #[]) ∧ ∃ lv', LMm w w' X b gc Y Z n lb sb lv' (s.made (ds i).cell ((ds i).acc (nth s.cells (ds i).cell))) vN qs rs sv (upd gs i false) (stp (ds, s.cells) i).1 mv (K + 1) ∧ Kp gc wr w' := by
  have hw := h.inv.sys.wf i hi
  have hp := h.po i hi
  rw [hg] at hp
  obtain ⟨hn, hs⟩ := h.nd i hi
  obtain ⟨csb, hsb, _⟩ := h.se
  have lg : ∀ g, lv.ownBlock = some g → ∃ cs, wr.heap[g]? = some (.cells cs 43 (0, 0)) := fun g hg => (own_ty8 h.ar.hl hg).2
  have hlen : s.cells.length = 4 + n := h.inv.sys.len
  have R : NRdy wr Y b gc (rs i) lv s (qs i) (ds i) (sv i) Z n K := ⟨h.ar, by rw [show (ds i).who = i from hw.who]; exact hp, fun e => by
      obtain ⟨cs, h3⟩ := lg _ e; exact ne_ty hp h3 (by decide) rfl, hn, fun e => by
      obtain ⟨cs, h3⟩ := lg _ e; exact ne_ty hn h3 (by decide) rfl, hs, fun g hg e => by
      obtain ⟨cs, h3⟩ := lg _ e; obtain ⟨cs', h4⟩ := hs.typ hg; exact ne_ty h4 h3 (by decide) rfl, h.go, hlen, by rw [h.cnt]; omega, by rw [h.cnt]; have := h.lk; omega, by have := h.lk; omega, ⟨i, hw⟩⟩
  refine (step_go R h0).mono ?_
  rintro e w' ⟨rfl, lv', a1, a2, a3, a4, c⟩
  rw [show (ds i).who = i from hw.who] at a3
  obtain ⟨h1, h2, h3, h4, h5, h6, h7, h8⟩ := h.parts c (fun j hj => by
    rcases hj with (e | e | e | e) | e
    · subst e; exact ⟨h.zl.2.1, fun _ => ⟨_, _, h.ar.hb, .inl (.inl rfl)⟩⟩
    · subst e; exact ⟨h.zl.2.2.1, fun _ => ⟨_, _, h.ar.hc, .inl (.inr (.inl rfl))⟩⟩
    · subst e; exact ⟨Nat.le_trans h.zl.1 (h.lo i hi).2, fun _ => ⟨_, _, hp, by simp [mU, mT]⟩⟩
    · obtain ⟨hy, cs, ht⟩ := own_ty8 h.ar.hl e
      exact ⟨by have := h.ar.gY; have := h.zl.2.2; omega, fun _ => ⟨_, _, ht, by simp [mU, mT]⟩⟩
    · subst e; exact ⟨Nat.le_trans h.zl.1 (h.lo i hi).1, fun _ => ⟨_, _, hn, by simp [mU, mT]⟩⟩)
  have nS : ∀ {j : Nat} {cs : Array Value} {t : TypeId}, wr.heap[j]? = some (.cells cs t (0, 0)) → (t = 96 ∧ j ≠ qs i ∨ t = 109 ∧ j ≠ rs i ∨ t = 71) → ¬ (accSet b gc (rs i) lv j ∨ j = qs i) := fun {j cs t} hj ht hS => by
    rcases hS with (e | e | e | e) | e
    · exact ne_ty hj h.ar.hb (by rcases ht with ⟨q, _⟩ | ⟨q, _⟩ | q <;> rw [q] <;> decide) e
    · exact ne_ty hj h.ar.hc (by rcases ht with ⟨q, _⟩ | ⟨q, _⟩ | q <;> rw [q] <;> decide) e
    · rcases ht with ⟨q, _⟩ | ⟨_, q⟩ | q
      · exact ne_ty hj hp (by rw [q]; decide) e
      · exact q e
      · exact ne_ty hj hp (by rw [q]; decide) e
    · obtain ⟨cs', h3⟩ := lg _ e
      exact ne_ty hj h3 (by rcases ht with ⟨q, _⟩ | ⟨q, _⟩ | q <;> rw [q] <;> decide) rfl
    · rcases ht with ⟨_, q⟩ | ⟨q, _⟩ | q
      · exact q e
      · exact ne_ty hj hn (by rw [q]; decide) e
      · exact ne_ty hj hn (by rw [q]; decide) e
  have est : (stp (ds, s.cells) i) = (upd ds i ((ds i).next (nth s.cells (ds i).cell)), s.cells.set (ds i).cell ((ds i).acc (nth s.cells (ds i).cell)).left) := if_neg h0
  have hinv := h.inv.step h.n64.2 hK hi
  rw [est] at hinv ⊢
  refine ⟨rfl, lv', ⟨h1, h.zl, h2, a1, h3, h4, h8 (nS hsb (.inr (.inr rfl))), fun j hj => ?_, fun j hj => ?_, h.inj, h.lo, hinv, h.go, h.kp, ?_, ?_, h.n64, fun j hj => by have := h.mb j hj; omega⟩, Kp.of_chg c (fun j hj _ => by
    rcases hj with (e | e | e | e) | e
    · subst e; exact ⟨_, _, h.ar.hb, .inl rfl, fun e => absurd e (by decide)⟩
    · subst e; exact ⟨_, _, h.ar.hc, .inr (.inl rfl), fun _ => rfl⟩
    · subst e; exact ⟨_, _, hp, by simp [mT], fun e => absurd e (by decide)⟩
    · obtain ⟨hy, cs, ht⟩ := own_ty8 h.ar.hl e
      exact ⟨_, _, ht, by simp [mT], fun e => absurd e (by decide)⟩
    · subst e; exact ⟨_, _, hn, by simp [mT], fun e => absurd e (by decide)⟩)⟩
  · dsimp only
    by_cases e : j = i
    · subst e; rw [upd_same]; exact ⟨a4, by rw [Nd.next_sends]; exact h5 j hj⟩
    · rw [upd_other _ _ e]; exact ⟨h6 j hj (nS (h.nd j hj).1 (.inl ⟨rfl, (h.pne hi hj e).1⟩)), h5 j hj⟩
  · by_cases e : j = i
    · subst e; rw [upd_same]; exact a3
    · rw [upd_other _ _ e]; exact h7 j hj (nS (h.po j hj) (.inr (.inl ⟨rfl, (h.pne hi hj e).2⟩)))
  · show s.count + 1 = ((if s.keep then s.log ++ [_] else s.log).length : Int)
    rw [h.kp, h.cnt]; simp
  · show (if s.keep then s.log ++ [_] else s.log).length ≤ K + 1
    rw [h.kp]; simp; exact h.lk
/-- One more move of the machine i is told. -/
theorem LMm.bump (h : LMm w wr X b gc Y Z n lb sb lv s vN qs rs sv gs ds mv K) {i : Nat} (hi : i < n) (hm : mv i + 1 ≤ K) : LMm w (wr.setCell ⟨sb, i * 3 + 2, none⟩ (.int .i64 (mv i + 1))) X b gc Y Z n lb sb lv s vN qs rs sv gs ds (upd mv i (mv i + 1)) K ∧ Kp gc wr (wr.setCell ⟨sb, i * 3 + 2, none⟩ (.int .i64 (mv i + 1))) := by
  obtain ⟨cs, hsb, hcs⟩ := h.se
  have c : Chg (fun j => j = sb) wr (wr.setCell ⟨sb, i * 3 + 2, none⟩ (.int .i64 (mv i + 1))) := (Chg.refl (fun j => j = sb) _).put sb _ _ rfl
  obtain ⟨h1, h2, h3, h4, h5, h6, h7, h8⟩ := h.parts c (fun j hj => by subst hj; exact ⟨h.zl.2.2.2, fun _ => ⟨_, _, hsb, by simp [mU, mT]⟩⟩)
  have hne : ∀ {j : Nat} {cs' : Array Value} {t : TypeId}, wr.heap[j]? = some (.cells cs' t (0, 0)) → t ≠ 71 → j ≠ sb := fun hj ht => ne_ty hj hsb ht
  refine ⟨⟨h1, h.zl, h2, h.ar.kept c (hne h.ar.hb (by decide)) (hne h.ar.hc (by decide)) (fun j hj => by
    obtain ⟨_, cs', h3⟩ := own_ty8 h.ar.hl hj; exact hne h3 (by decide)), h3, h4, ⟨_, heap_set hsb _, fun j hj => ?_⟩, fun j hj => ⟨h6 j hj (hne (h.nd j hj).1 (by decide)), h5 j hj⟩, fun j hj => h7 j hj (hne (h.po j hj) (by decide)), h.inj, h.lo, h.inv, h.go, h.kp, h.cnt, h.lk, h.n64, fun j hj => ?_⟩, Kp.of_chg c (fun j hj _ => by subst hj; exact ⟨_, _, hsb, by simp [mT], fun e => absurd e (by decide)⟩)⟩
  · obtain ⟨a1, a2, a3⟩ := hcs j hj
    refine ⟨by rw [Array.getElem?_setIfInBounds_ne (by omega)]; exact a1, by rw [Array.getElem?_setIfInBounds_ne (by omega)]; exact a2, ?_⟩
    by_cases e : j = i
    · subst e
      have : j * 3 + 2 < cs.size := (Array.getElem?_eq_some_iff.1 a3).1
      rw [Array.getElem?_setIfInBounds_self_of_lt this, upd_same]
    · rw [Array.getElem?_setIfInBounds_ne (by omega), upd_other _ _ e]; exact a3
  · have := h.mb i hi
    have := h.mb j hj
    unfold upd
    split <;> omega
end
end Go.Proofs.Ytdjkidgkeekenaa

/- The loom's calls: a seat's step, stopped, Pick. -/
namespace Go.Proofs.Ytdjkidgkeekenaa
open Go.RowKit Go.Lib Go.MuLone
set_option linter.unusedVariables false
set_option linter.unusedSimpArgs false
set_option maxRecDepth 100000 in
theorem granted_any (p Y b gc : Nat) (lv : Value) (s : Ast) (who : Int) (g : Bool) (w : World) (h : AIs w Y b gc lv s) (hp : w.heap[p]? = some (PObj b who g)) (hpb : p ≠ b) :
    Calls Try.prog 38 #[.pointer (some ⟨p, 0, none⟩)] w fun r w' => r = .returned (.bool g) ∧ AIs w' Y b gc lv s ∧ Chg (fun k => k = b) w w' ∧ w'.heap.size = w.heap.size := by
  have c0 : w.cell? ⟨b, 0, none⟩ = some (.int .i32 0) := cell_of h.hb rfl
  have d0 : w.cell? ⟨p, 0, none⟩ = some (.pointer (some ⟨b, 0, none⟩)) := cell_of hp rfl
  have d2 : w.cell? ⟨p, 2, none⟩ = some (.bool g) := cell_of hp rfl
  have f0 := free_of h.hb 0
  have H := hide h
  have hpb' : ¬ b = p := fun e => hpb e.symm
  have HL := hide (leads_any p b who g w hp)
  clear h hp
  go_enter_defers Try.func38, Try.ntmps38
  go_wp2_with fail
  refine HL.out.mono ?_
  rintro e w' ⟨rfl, rfl⟩
  go_wp2_with (go_at_call 24; refine (lock_free Try.muLib ⟨b, 0, none⟩ _ c0 f0).mono ?_; rintro e w' ⟨rfl, rfl⟩)
  refine leaves_cons (f := 25) (args := #[.pointer (some ⟨b, 0, none⟩)]) (by simp) (by simp [go_sem]) ?_
  refine (unlock_deferred Try.muLib ⟨b, 0, none⟩ .returning _ ?_ ?_).mono ?_
  · exact World.cell?_setCell_same w' ⟨b, 0, none⟩ (.int .i32 1) c0
  · simp [f0]
  rintro e u' w'' ⟨rfl, rfl, rfl⟩
  refine ⟨_, results_tmp rfl _ _ _, rfl, ?_⟩
  have k : Chg (fun k => k = b) w' ((w'.setCell ⟨b, 0, none⟩ (.int .i32 1)).setCell ⟨b, 0, none⟩ (.int .i32 0)) := ((Chg.refl (fun k => k = b) _).put b 0 _ rfl).put b 0 _ rfl
  exact ⟨H.out.relock (heap_set (heap_set H.out.hb _) _) k (fun e => H.out.ne e.symm) (fun i hi => (H.out.own_ne hi).1), k, by simp [World.setCell]⟩
section
variable {w wr wr' : World} {X b gc Y Z n lb sb K : Nat} {lv lv' vN : Value} {s s' : Ast} {qs rs : Nat → Nat} {sv : Nat → Value} {gs : Nat → Bool} {ds : Nat → Nd} {mv : Nat → Int}
theorem LMm.cells (h : LMm w wr X b gc Y Z n lb sb lv s vN qs rs sv gs ds mv K) {i : Nat} (hi : i < n) :
    wr.cell? ⟨lb, 0, none⟩ = some (.pointer (some ⟨b, 0, none⟩)) ∧ wr.cell? ⟨lb, 1, none⟩ = some (.slice (some ⟨sb, 0, none⟩) n n) ∧ wr.cell? ⟨sb, i * 3, none⟩ = some (mV (qs i)) ∧ wr.cell? ⟨sb, i * 3 + 1, none⟩ = some (.pointer (some ⟨rs i, 0, none⟩)) ∧ wr.cell? ⟨sb, i * 3 + 2, none⟩ = some (.int .i64 (mv i)) ∧ wr.frozen? ⟨sb, i * 3 + 2, none⟩ = false := by
  obtain ⟨cs, hsb, hcs⟩ := h.se
  obtain ⟨a1, a2, a3⟩ := hcs i hi
  exact ⟨cell_of h.lm rfl, cell_of h.lm rfl, cell_of hsb a1, cell_of hsb a2, cell_of hsb a3, free_of hsb _⟩
theorem lm_granted (h : LMm w wr X b gc Y Z n lb sb lv s vN qs rs sv gs ds mv K) {i : Nat} (hi : i < n) : Calls Try.prog 38 #[.pointer (some ⟨rs i, 0, none⟩)] wr fun r w' => r = .returned (.bool (gs i)) ∧ LMm w w' X b gc Y Z n lb sb lv s vN qs rs sv gs ds mv K ∧ Kp gc wr w' := by
  have hp := h.po i hi
  refine (granted_any (rs i) Y b gc lv s i (gs i) wr h.ar hp (ne_ty hp h.ar.hb (by decide))).mono ?_
  rintro e w' ⟨rfl, ha, c, _⟩
  exact ⟨rfl, h.look ha c, h.kpb c⟩
theorem lm_over (h : LMm w wr X b gc Y Z n lb sb lv s vN qs rs sv gs ds mv K) {i : Nat} (hi : i < n) : Calls Try.prog 35 #[.pointer (some ⟨qs i, 0, none⟩)] wr fun r w' => r = .returned (.bool (decide ((ds i).ph = 0))) ∧ w' = wr := over_nd (h.nd i hi).1 (h.inv.sys.wf i hi).ph
theorem Try.results22 : Try.f22.results = #[] := by kernel_rfl
set_option maxRecDepth 100000 in
set_option maxHeartbeats 2000000 in
theorem seat_any (h : LMm w wr X b gc Y Z n lb sb lv s vN qs rs sv gs ds mv K) {i : Nat} (hi : i < n) (h0 : (ds i).ph ≠ 0) (hK : K ≤ 1099511627776) :
    Calls Try.prog 22 #[.pointer (some ⟨sb, i * 3, none⟩), .pointer (some ⟨b, 0, none⟩)] wr fun e w' => e = .returned (.tuple #[]) ∧ ∃ lv' gs', LMm w w' X b gc Y Z n lb sb lv' (s.made (ds i).cell ((ds i).acc (nth s.cells (ds i).cell))) vN qs rs sv gs' (stp (ds, s.cells) i).1 mv (K + 1) ∧ Kp gc wr w' := by
  have H := hide h
  have H0 := hide h0
  obtain ⟨_, _, x0, x1, _, _⟩ := h.cells hi
  have hm := fun w => Try.mStep (.pointer (some ⟨qs i, 0, none⟩)) w
  clear h h0
  go_enter Try.func22, Try.ntmps22
  go_wp2_with fail
  refine (lm_grant H.out hi).mono ?_
  rintro e w1 ⟨rfl, h1, k1⟩
  have H1 := hide h1
  have HK1 := hide k1
  clear k1
  clear x0 x1 h1
  obtain ⟨_, _, x0, x1, _, _⟩ := H1.out.cells hi
  have HST := hide (fun W (kb : Below w1.heap.size w1 W) => lm_step (H1.out.below kb) hi (upd_same _ _ _) H0.out hK)
  unfold mV at x0
  go_wp2_with fail
  refine wp_region_noPanic ?_
  go_region_held3 (fun x' => x'.cell? ⟨sb, i * 3, none⟩ = some (.iface 54 (.pointer (some ⟨qs i, 0, none⟩))) ∧ x'.cell? ⟨sb, i * 3 + 1, none⟩ = some (.pointer (some ⟨rs i, 0, none⟩))) (first | with_reducible exact ⟨z1, z2⟩ | go_keep)
    (first
      | (go_at_call 97; refine (HST.out _ (below_drew (Below.refl _ _))).mono ?_; rintro e WS ⟨rfl, lv', hts, kts⟩; have HTS := hide hts; have HKS := hide kts; obtain ⟨_, _, z1, z2, _, _⟩ := HTS.out.cells hi; unfold mV at z1; clear hts kts)
      | fail)
  all_goals
    refine NoPanic.normal ?_
    have HGR := hide (lm_granted HTS.out hi)
    rw [upd_same] at HGR
    clear HST H1 H
    go_wp2_with fail
    refine HGR.out.mono ?_
    rintro e wg ⟨rfl, hl, kl⟩
    have HL := hide hl
    have HKL := hide kl
    clear hl kl
    go_wp2_with fail
    exact ⟨rfl, .tuple #[], by simp [results, Try.results22, go_sem], rfl, _, _, HL.out, (HK1.out.trans ((Kp.of_below (below_drew (Below.refl _ _))).trans HKS.out)).trans HKL.out⟩
end
end Go.Proofs.Ytdjkidgkeekenaa
