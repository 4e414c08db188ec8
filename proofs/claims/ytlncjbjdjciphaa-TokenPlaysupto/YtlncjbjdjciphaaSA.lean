import Derived.Test.YtlncjbjdjciphaaS2
import Derived.Test.YtlncjbjdjciphaaM1
import Derived.Test.YtlncjbjdjciphaaR7
import Derived.Test.YtlncjbjdjciphaaR9
/- Granted; both circles under picks, in memory. -/
namespace Go.Proofs.Ytlncjbjdjciphaa
open Go.RowKit Go.Lib Go.MuLone
set_option linter.unusedVariables false
set_option linter.unusedSimpArgs false
set_option maxRecDepth 100000 in
theorem granted_any (p Y b gc : Nat) (lv : Value) (s : Ast) (who : Int) (g : Bool) (w : World) (h : AIs w Y b gc lv s) (hp : w.heap[p]? = some (PObj b who g)) (hpb : p ≠ b) :
    Calls Try.prog 15 #[.pointer (some ⟨p, 0, none⟩)] w fun r w' => r = .returned (.bool g) ∧ AIs w' Y b gc lv s ∧ Chg (fun k => k = b) w w' ∧ w'.heap.size = w.heap.size := by
  have c0 : w.cell? ⟨b, 0, none⟩ = some (.int .i32 0) := cell_of h.hb rfl
  have d0 : w.cell? ⟨p, 0, none⟩ = some (.pointer (some ⟨b, 0, none⟩)) := cell_of hp rfl
  have d2 : w.cell? ⟨p, 2, none⟩ = some (.bool g) := cell_of hp rfl
  have f0 := free_of h.hb 0
  have H := hide h
  have hpb' : ¬ b = p := fun e => hpb e.symm
  have HL := hide (leads_any p b who g w hp)
  clear h hp
  go_enter_defers Try.func15, Try.ntmps15
  go_wp2_with fail
  refine HL.out.mono ?_
  rintro e w' ⟨rfl, rfl⟩
  go_wp2_with (go_at_call 36; refine (lock_free Try.muLib ⟨b, 0, none⟩ _ c0 f0).mono ?_; rintro e w' ⟨rfl, rfl⟩)
  refine leaves_cons (f := 37) (args := #[.pointer (some ⟨b, 0, none⟩)]) (by simp) (by simp [go_sem]) ?_
  refine (unlock_deferred Try.muLib ⟨b, 0, none⟩ .returning _ ?_ ?_).mono ?_
  · exact World.cell?_setCell_same w' ⟨b, 0, none⟩ (.int .i32 1) c0
  · simp [f0]
  rintro e u' w'' ⟨rfl, rfl, rfl⟩
  refine ⟨_, results_tmp rfl _ _ _, rfl, ?_⟩
  have k : Chg (fun k => k = b) w' ((w'.setCell ⟨b, 0, none⟩ (.int .i32 1)).setCell ⟨b, 0, none⟩ (.int .i32 0)) := ((Chg.refl (fun k => k = b) _).put b 0 _ rfl).put b 0 _ rfl
  exact ⟨H.out.relock (heap_set (heap_set H.out.hb _) _) k (fun e => H.out.ne e.symm) (fun i hi => (H.out.own_ne hi).1), k, by simp [World.setCell]⟩
structure TP (w wr : World) (X b gc rb rc Y Y2 Z n : Nat) (lv lr : Value) (s t : Ast) (vP vN vG : Value) (qs ps rs : Nat → Nat) (sv tv : Nat → Value) (gs : Nat → Bool) (ds es : Nat → Nd) (K : Nat) : Prop where
  bel : Below w.heap.size w wr
  zl : w.heap.size ≤ Z ∧ w.heap.size ≤ b ∧ w.heap.size ≤ gc ∧ w.heap.size ≤ rb ∧ w.heap.size ≤ rc
  x : wr.heap[X]? = some (.cells #[.pointer (some ⟨b, 0, none⟩), vP, vN, .pointer (some ⟨rb, 0, none⟩), vG] 37 (0, 0))
  ar : AIs wr Y b gc lv s
  rr : RIs wr Y2 rb rc lr t
  ne : gc ≠ rc ∧ ∀ g, lv.ownBlock = some g → lr.ownBlock ≠ some g
  rp : wr.ownsRow Z 40 1 vP n (ptrs ps n)
  rn : wr.ownsRow Z 38 1 vN n (ptrs qs n)
  rg : wr.ownsRow Z 50 1 vG n (ptrs rs n)
  nd : ∀ j, j < n → wr.heap[qs j]? = some ((ds j).obj (sv j)) ∧ Snd wr Z (sv j) (ds j).sends
  rd : ∀ j, j < n → wr.heap[rs j]? = some ((es j).robj (tv j)) ∧ Snd wr Z (tv j) (es j).sends
  po : ∀ j, j < n → wr.heap[ps j]? = some (PObj b j (gs j))
  inj : ∀ i j, i < j → j < n → qs i ≠ qs j ∧ ps i ≠ ps j ∧ rs i ≠ rs j
  lo : ∀ j, j < n → Z ≤ qs j ∧ Z ≤ ps j ∧ Z ≤ rs j
  wf : ∀ j, j < n → Wf n j K (ds j) ∧ Wf n j K (es j)
  len : s.cells.length = 4 + n ∧ t.cells.length = 4 + n
  wd : ∀ i, i < 4 + n → W64 (nth s.cells i) ∧ W64 (nth t.cells i)
  kp : s.keep = true ∧ t.keep = true
  cnt : s.count = s.log.length ∧ t.count = t.log.length
  lk : s.log.length ≤ K ∧ t.log.length ≤ K
  n64 : 1 ≤ n ∧ n ≤ 64
def pT (t : TypeId) : Prop := t = 97 ∨ t = 47 ∨ t = 99 ∨ t = 59 ∨ t = 88 ∨ t = 55 ∨ t = 102
section
variable {w wr wr' : World} {X b gc rb rc Y Y2 Z n K : Nat} {lv lr vP vN vG : Value} {s t : Ast} {qs ps rs : Nat → Nat} {sv tv : Nat → Value} {gs : Nat → Bool} {ds es : Nat → Nd}
theorem TP.parts {S : Nat → Prop} (h : TP w wr X b gc rb rc Y Y2 Z n lv lr s t vP vN vG qs ps rs sv tv gs ds es K) (c : Chg S wr wr') (hS : ∀ j, S j → w.heap.size ≤ j ∧ (j < wr.heap.size → ∃ cs t, wr.heap[j]? = some (.cells cs t (0, 0)) ∧ pT t)) :
    Below w.heap.size w wr' ∧ wr'.heap[X]? = some (.cells #[.pointer (some ⟨b, 0, none⟩), vP, vN, .pointer (some ⟨rb, 0, none⟩), vG] 37 (0, 0)) ∧ wr'.ownsRow Z 40 1 vP n (ptrs ps n) ∧ wr'.ownsRow Z 38 1 vN n (ptrs qs n) ∧ wr'.ownsRow Z 50 1 vG n (ptrs rs n) ∧
    (∀ j, j < n → Snd wr' Z (sv j) (ds j).sends) ∧ (∀ j, j < n → Snd wr' Z (tv j) (es j).sends) ∧ (∀ j, j < n → ¬ S (qs j) → wr'.heap[qs j]? = some ((ds j).obj (sv j))) ∧ (∀ j, j < n → ¬ S (rs j) → wr'.heap[rs j]? = some ((es j).robj (tv j))) ∧ (∀ j, j < n → ¬ S (ps j) → wr'.heap[ps j]? = some (PObj b j (gs j))) := by
  have no : ∀ {j : Nat} {cs : Array Value} {t : TypeId}, wr.heap[j]? = some (.cells cs t (0, 0)) → ¬ pT t → wr'.heap[j]? = wr.heap[j]? := fun {j cs t} hj h1 => c.block _ (lt_of_heap hj) (fun e => by
    obtain ⟨cs', t', h', ho⟩ := (hS j e).2 (lt_of_heap hj)
    rw [ty_of h' hj] at h1
    exact h1 ho)
  have row : ∀ {ty : TypeId} {v : Value} {m : Nat} {xs : List Value}, ¬ pT ty → wr.ownsRow Z ty 1 v m xs → wr'.ownsRow Z ty 1 v m xs := fun ht ho => own_stayR ho (fun j hj => by
    obtain ⟨_, _, cs, h3⟩ := own_ty ho hj
    exact no h3 ht)
  refine ⟨c.below h.bel (fun j hj => (hS j hj).1) h.bel.size, (no h.x (by unfold pT; decide)).trans h.x, row (by unfold pT; decide) h.rp, row (by unfold pT; decide) h.rn, row (by unfold pT; decide) h.rg, fun j hj => (h.nd j hj).2.stay fun g hg => ?_, fun j hj => (h.rd j hj).2.stay fun g hg => ?_, fun j hj hn => c.heap (h.nd j hj).1 hn, fun j hj hn => c.heap (h.rd j hj).1 hn, fun j hj hn => c.heap (h.po j hj) hn⟩
  · obtain ⟨cs, ht⟩ := (h.nd j hj).2.typ hg
    exact no ht (by unfold pT; decide)
  · obtain ⟨cs, ht⟩ := (h.rd j hj).2.typ hg
    exact no ht (by unfold pT; decide)
theorem TP.pne (h : TP w wr X b gc rb rc Y Y2 Z n lv lr s t vP vN vG qs ps rs sv tv gs ds es K) {i j : Nat} (hi : i < n) (hj : j < n) (hij : j ≠ i) : qs j ≠ qs i ∧ ps j ≠ ps i ∧ rs j ≠ rs i := by
  rcases Nat.lt_or_gt_of_ne hij with e | e
  · exact h.inj j i e hi
  · exact ⟨fun q => (h.inj i j e hj).1 q.symm, fun q => (h.inj i j e hj).2.1 q.symm, fun q => (h.inj i j e hj).2.2 q.symm⟩
theorem TP.lvt (h : TP w wr X b gc rb rc Y Y2 Z n lv lr s t vP vN vG qs ps rs sv tv gs ds es K) {g : Nat} (hg : lv.ownBlock = some g) : w.heap.size ≤ g ∧ ∃ cs, wr.heap[g]? = some (.cells cs 59 (0, 0)) := by
  obtain ⟨hy, cs, ht⟩ := own_ty8 h.ar.hl hg
  exact ⟨by have := h.ar.gY; have := h.zl; omega, cs, ht⟩
theorem TP.lrt (h : TP w wr X b gc rb rc Y Y2 Z n lv lr s t vP vN vG qs ps rs sv tv gs ds es K) {g : Nat} (hg : lr.ownBlock = some g) : w.heap.size ≤ g ∧ ∃ cs, wr.heap[g]? = some (.cells cs 59 (0, 0)) := by
  obtain ⟨hy, cs, ht⟩ := own_ty8 h.rr.hl hg
  exact ⟨by have := h.rr.gY; have := h.zl; omega, cs, ht⟩
/-- The lock alone, or nothing old, has turned. -/
theorem TP.look (h : TP w wr X b gc rb rc Y Y2 Z n lv lr s t vP vN vG qs ps rs sv tv gs ds es K) (ha : AIs wr' Y b gc lv s) (c : Chg (fun j => j = b) wr wr') : TP w wr' X b gc rb rc Y Y2 Z n lv lr s t vP vN vG qs ps rs sv tv gs ds es K := by
  obtain ⟨h1, h2, h3, h4, h5, h6, h7, h8, h9, h10⟩ := h.parts c (fun j hj => by subst hj; exact ⟨h.zl.2.1, fun _ => ⟨_, _, h.ar.hb, .inl rfl⟩⟩)
  exact ⟨h1, h.zl, h2, ha, h.rr.kept c (ne_ty h.rr.hb h.ar.hb (by decide)) (ne_ty h.rr.hc h.ar.hb (by decide)) (fun i hi => by
    obtain ⟨_, cs, h3⟩ := h.lrt hi; exact ne_ty h3 h.ar.hb (by decide)), h.ne, h3, h4, h5, fun j hj => ⟨h8 j hj (ne_ty (h.nd j hj).1 h.ar.hb (by decide)), h6 j hj⟩, fun j hj => ⟨h9 j hj (ne_ty (h.rd j hj).1 h.ar.hb (by decide)), h7 j hj⟩, fun j hj => h10 j hj (ne_ty (h.po j hj) h.ar.hb (by decide)), h.inj, h.lo, h.wf, h.len, h.wd, h.kp, h.cnt, h.lk, h.n64⟩
theorem TP.below (h : TP w wr X b gc rb rc Y Y2 Z n lv lr s t vP vN vG qs ps rs sv tv gs ds es K) (hb : Below wr.heap.size wr wr') : TP w wr' X b gc rb rc Y Y2 Z n lv lr s t vP vN vG qs ps rs sv tv gs ds es K := by
  obtain ⟨h1, h2, h3, h4, h5, h6, h7, h8, h9, h10⟩ := h.parts (S := fun _ => False) (Chg.of_below hb) (fun j hj => hj.elim)
  exact ⟨h1, h.zl, h2, h.ar.below hb, h.rr.below hb, h.ne, h3, h4, h5, fun j hj => ⟨h8 j hj id, h6 j hj⟩, fun j hj => ⟨h9 j hj id, h7 j hj⟩, fun j hj => h10 j hj id, h.inj, h.lo, h.wf, h.len, h.wd, h.kp, h.cnt, h.lk, h.n64⟩
theorem TP.mono (h : TP w wr X b gc rb rc Y Y2 Z n lv lr s t vP vN vG qs ps rs sv tv gs ds es K) {K' : Nat} (hk : K ≤ K') : TP w wr X b gc rb rc Y Y2 Z n lv lr s t vP vN vG qs ps rs sv tv gs ds es K' :=
  ⟨h.bel, h.zl, h.x, h.ar, h.rr, h.ne, h.rp, h.rn, h.rg, h.nd, h.rd, h.po, h.inj, h.lo, fun j hj => ⟨(h.wf j hj).1.mono hk, (h.wf j hj).2.mono hk⟩, h.len, h.wd, h.kp, h.cnt, ⟨Nat.le_trans h.lk.1 hk, Nat.le_trans h.lk.2 hk⟩, h.n64⟩
theorem tp_grant (h : TP w wr X b gc rb rc Y Y2 Z n lv lr s t vP vN vG qs ps rs sv tv gs ds es K) {i : Nat} (hi : i < n) : Calls Try.prog 10 #[.pointer (some ⟨ps i, 0, none⟩)] wr fun r w' => r = .returned (.tuple #[]) ∧ TP w w' X b gc rb rc Y Y2 Z n lv lr s t vP vN vG qs ps rs sv tv (upd gs i true) ds es K := by
  have hp := h.po i hi
  refine (grant_any (ps i) Y b gc lv s i (gs i) wr h.ar hp (ne_ty hp h.ar.hb (by decide)) (ne_ty hp h.ar.hc (by decide)) (fun e => by
    obtain ⟨_, cs, h3⟩ := h.lvt e
    exact ne_ty hp h3 (by decide) rfl)).mono ?_
  rintro e w' ⟨rfl, ha, hpo, c, _⟩
  obtain ⟨h1, h2, h3, h4, h5, h6, h7, h8, h9, h10⟩ := h.parts c (fun j hj => by
    rcases hj with rfl | rfl
    · exact ⟨h.zl.2.1, fun _ => ⟨_, _, h.ar.hb, .inl rfl⟩⟩
    · exact ⟨Nat.le_trans h.zl.1 (h.lo i hi).2.1, fun _ => ⟨_, _, hp, by simp [pT]⟩⟩)
  have no : ∀ {j : Nat} {cs : Array Value} {ty : TypeId}, wr.heap[j]? = some (.cells cs ty (0, 0)) → ty ≠ 97 → ty ≠ 99 → ¬ (j = b ∨ j = ps i) := fun hj e1 e2 e => by
    rcases e with e | e
    · exact ne_ty hj h.ar.hb e1 e
    · exact ne_ty hj hp e2 e
  refine ⟨rfl, h1, h.zl, h2, ha, h.rr.kept c (no h.rr.hb (by decide) (by decide)) (no h.rr.hc (by decide) (by decide)) (fun j hj => by
    obtain ⟨_, cs, h3⟩ := h.lrt hj; exact no h3 (by decide) (by decide)), h.ne, h3, h4, h5, fun j hj => ⟨h8 j hj (no (h.nd j hj).1 (by decide) (by decide)), h6 j hj⟩, fun j hj => ⟨h9 j hj (no (h.rd j hj).1 (by decide) (by decide)), h7 j hj⟩, fun j hj => ?_, h.inj, h.lo, h.wf, h.len, h.wd, h.kp, h.cnt, h.lk, h.n64⟩
  by_cases e : j = i
  · subst e; rw [upd_same]; exact hpo
  · rw [upd_other _ _ e]
    exact h10 j hj (fun q => by
      rcases q with q | q
      · exact ne_ty (h.po j hj) h.ar.hb (by decide) q
      · exact (h.pne hi hj e).2.1 q)
end
end Go.Proofs.Ytlncjbjdjciphaa

/- Both circles: a step of each. -/
namespace Go.Proofs.Ytlncjbjdjciphaa
open Go.RowKit Go.Lib Go.MuLone
set_option linter.unusedVariables false
set_option linter.unusedSimpArgs false
theorem Wf.left {n j K : Nat} {d : Nd} (hw : Wf n j K d) {x : Int} (hwd : W64 x) : W64 (d.acc x).left := by
  unfold Nd.acc
  have hm := hw.m
  unfold W64 at hm hwd
  split
  all_goals try (first | exact hwd | exact d.put8_range | exact d.put9_range | exact Nd.put10_range hw)
  · exact wr_range _
  · rename_i e
    have := hw.p4 e
    unfold W64
    simp only
    split <;> omega
  · unfold W64; simp
theorem wd_set {cs : List Int} {N c : Nat} {u : Int} (hl : cs.length = N) (hc : c < N) (h : ∀ i, i < N → W64 (nth cs i)) (hu : W64 u) : ∀ i, i < N → W64 (nth (cs.set c u) i) := fun i hi => by
  rw [nth_set _ _ _ _ (by rw [hl]; exact hc)]
  split
  · exact hu
  · exact h i hi
section
variable {w wr wr' : World} {X b gc rb rc Y Y2 Z n K : Nat} {lv lr vP vN vG : Value} {s t : Ast} {qs ps rs : Nat → Nat} {sv tv : Nat → Value} {gs : Nat → Bool} {ds es : Nat → Nd}
theorem tp_go_p (h : TP w wr X b gc rb rc Y Y2 Z n lv lr s t vP vN vG qs ps rs sv tv gs ds es K) {i : Nat} (hi : i < n) (hg : gs i = true) (h0 : (ds i).ph ≠ 0) (hst : s.stopped = false) (hK : K ≤ 4194304) :
    Calls Try.prog 11 #[.pointer (some ⟨qs i, 0, none⟩), .pointer (some ⟨ps i, 0, none⟩)] wr fun e w' => e = .returned (.tuple #[]) ∧ ∃ lv', TP w w' X b gc rb rc Y Y2 Z n lv' lr (s.made (ds i).cell ((ds i).acc (nth s.cells (ds i).cell))) t vP vN vG qs ps rs sv tv (upd gs i false) (upd ds i ((ds i).next (nth s.cells (ds i).cell))) es (K + 1) := by
  have hw := (h.wf i hi).1
  have hp := h.po i hi
  rw [hg] at hp
  obtain ⟨hn, hs⟩ := h.nd i hi
  have R : NRdy wr Y b gc (ps i) lv s (qs i) (ds i) (sv i) Z n K := ⟨h.ar, by rw [hw.who]; exact hp, fun e => by
      obtain ⟨_, cs, h3⟩ := h.lvt e; exact ne_ty hp h3 (by decide) rfl, hn, fun e => by
      obtain ⟨_, cs, h3⟩ := h.lvt e; exact ne_ty hn h3 (by decide) rfl, hs, fun g hg e => by
      obtain ⟨_, cs, h3⟩ := h.lvt e; obtain ⟨cs', h4⟩ := hs.typ hg; exact ne_ty h4 h3 (by decide) rfl, hst, h.len.1, by rw [h.cnt.1]; omega, by rw [h.cnt.1]; have := h.lk.1; omega, by have := h.lk.1; omega, ⟨i, hw⟩⟩
  refine (step_go R h0).mono ?_
  rintro e w' ⟨rfl, lv', a1, a2, a3, a4, c⟩
  rw [hw.who] at a3
  obtain ⟨h1, h2, h3, h4, h5, h6, h7, h8, h9, h10⟩ := h.parts c (fun j hj => by
    rcases hj with (e | e | e | e) | e
    · subst e; exact ⟨h.zl.2.1, fun _ => ⟨_, _, h.ar.hb, .inl rfl⟩⟩
    · subst e; exact ⟨h.zl.2.2.1, fun _ => ⟨_, _, h.ar.hc, .inr (.inl rfl)⟩⟩
    · subst e; exact ⟨Nat.le_trans h.zl.1 (h.lo i hi).2.1, fun _ => ⟨_, _, hp, by simp [pT]⟩⟩
    · obtain ⟨hy, cs, ht⟩ := h.lvt e
      exact ⟨hy, fun _ => ⟨_, _, ht, by simp [pT]⟩⟩
    · subst e; exact ⟨Nat.le_trans h.zl.1 (h.lo i hi).1, fun _ => ⟨_, _, hn, by simp [pT]⟩⟩)
  have nS : ∀ {j : Nat} {cs : Array Value} {ty : TypeId}, wr.heap[j]? = some (.cells cs ty (0, 0)) → (ty = 88 ∧ j ≠ qs i ∨ ty = 99 ∧ j ≠ ps i ∨ ty = 55 ∨ ty = 102 ∨ ty = 47 ∧ j ≠ gc ∨ ty = 59 ∧ lv.ownBlock ≠ some j) → ¬ (accSet b gc (ps i) lv j ∨ j = qs i) := fun {j cs ty} hj ht hS => by
    rcases hS with (e | e | e | e) | e
    · exact ne_ty hj h.ar.hb (by rcases ht with ⟨q, _⟩ | ⟨q, _⟩ | q | q | ⟨q, _⟩ | ⟨q, _⟩ <;> rw [q] <;> decide) e
    · rcases ht with ⟨q, _⟩ | ⟨q, _⟩ | q | q | ⟨_, q⟩ | ⟨q, _⟩
      all_goals first | exact q e | exact ne_ty hj h.ar.hc (by rw [q]; decide) e
    · rcases ht with ⟨q, _⟩ | ⟨_, q⟩ | q | q | ⟨q, _⟩ | ⟨q, _⟩
      all_goals first | exact q e | exact ne_ty hj hp (by rw [q]; decide) e
    · obtain ⟨_, cs', h3⟩ := h.lvt e
      rcases ht with ⟨q, _⟩ | ⟨q, _⟩ | q | q | ⟨q, _⟩ | ⟨_, q⟩
      all_goals first | exact q e | exact ne_ty hj h3 (by rw [q]; decide) rfl
    · rcases ht with ⟨_, q⟩ | ⟨q, _⟩ | q | q | ⟨q, _⟩ | ⟨q, _⟩
      all_goals first | exact q e | exact ne_ty hj hn (by rw [q]; decide) e
  have hwd := (h.wd _ hw.cell).1
  refine ⟨rfl, lv', h1, h.zl, h2, a1, h.rr.kept c (nS h.rr.hb (by simp)) (nS h.rr.hc (by simp; exact fun e => h.ne.1 e.symm)) (fun j hj => by
    obtain ⟨_, cs, h3⟩ := h.lrt hj; exact nS h3 (by simp; exact fun e => h.ne.2 j e hj)), ⟨h.ne.1, fun g hg' e => ?_⟩, h3, h4, h5, fun j hj => ?_, fun j hj => ⟨h9 j hj (nS (h.rd j hj).1 (by simp)), h7 j hj⟩, fun j hj => ?_, h.inj, h.lo, fun j hj => ?_, ⟨by show (s.cells.set _ _).length = _; rw [List.length_set]; exact h.len.1, h.len.2⟩, fun j hj => ⟨wd_set h.len.1 hw.cell (fun i hi => (h.wd i hi).1) (hw.left hwd) j hj, (h.wd j hj).2⟩, h.kp, ⟨?_, h.cnt.2⟩, ⟨?_, Nat.le_succ_of_le h.lk.2⟩, h.n64⟩
  · rcases a2 with q | ⟨g', q, hl⟩
    · exact h.ne.2 g (by rw [← q]; exact hg') e
    · rw [q] at hg'; cases hg'
      obtain ⟨_, cs, h3⟩ := h.lrt e
      have := lt_of_heap h3
      omega
  · by_cases e : j = i
    · subst e; rw [upd_same]; exact ⟨a4, by rw [Nd.next_sends]; exact h6 j hj⟩
    · rw [upd_other _ _ e]; exact ⟨h8 j hj (nS (h.nd j hj).1 (.inl ⟨rfl, (h.pne hi hj e).1⟩)), h6 j hj⟩
  · by_cases e : j = i
    · subst e; rw [upd_same]; exact a3
    · rw [upd_other _ _ e]; exact h10 j hj (nS (h.po j hj) (.inr (.inl ⟨rfl, (h.pne hi hj e).2.1⟩)))
  · refine ⟨?_, (h.wf j hj).2.mono (Nat.le_succ K)⟩
    by_cases e : j = i
    · subst e; rw [upd_same]; exact hw.next hwd
    · rw [upd_other _ _ e]; exact (h.wf j hj).1.mono (Nat.le_succ K)
  · show s.count + 1 = ((if s.keep then s.log ++ [_] else s.log).length : Int)
    rw [h.kp.1, h.cnt.1]; simp
  · show (if s.keep then s.log ++ [_] else s.log).length ≤ K + 1
    rw [h.kp.1]; simp; exact h.lk.1
theorem TP.rn_ (h : TP w wr X b gc rb rc Y Y2 Z n lv lr s t vP vN vG qs ps rs sv tv gs ds es K) {i : Nat} (hi : i < n) (hK : K ≤ 4194305) : RN wr Y2 rb rc lr t (rs i) (es i) (tv i) Z n K := by
  obtain ⟨hn, hs⟩ := h.rd i hi
  exact ⟨h.rr, hn, fun e => by
      obtain ⟨_, cs, h3⟩ := h.lrt e; exact ne_ty hn h3 (by decide) rfl, hs, fun g hg e => by
      obtain ⟨_, cs, h3⟩ := h.lrt e; obtain ⟨cs', h4⟩ := hs.typ hg; exact ne_ty h4 h3 (by decide) rfl, h.len.2, by rw [h.cnt.2]; omega, by rw [h.cnt.2]; have := h.lk.2; omega, by have := h.lk.2; omega, ⟨i, (h.wf i hi).2⟩, by omega⟩
theorem tp_go_r (h : TP w wr X b gc rb rc Y Y2 Z n lv lr s t vP vN vG qs ps rs sv tv gs ds es K) {i : Nat} (hi : i < n) (h0 : (es i).ph ≠ 0) (hst : t.stopped = false) (hK : K ≤ 4194305) :
    Calls Try.prog 17 #[.pointer (some ⟨rs i, 0, none⟩), .pointer (some ⟨rb, 0, none⟩), .int .i64 (i : Int)] wr fun e w' => e = .returned (.tuple #[]) ∧ ∃ lr', TP w w' X b gc rb rc Y Y2 Z n lv lr' s (t.made (es i).cell ((es i).acc (nth t.cells (es i).cell))) vP vN vG qs ps rs sv tv gs ds (upd es i ((es i).next (nth t.cells (es i).cell))) (K + 1) := by
  have hw := (h.wf i hi).2
  obtain ⟨hn, hs⟩ := h.rd i hi
  have hh := rstep_go (h.rn_ hi hK) hst h0
  rw [hw.who] at hh
  refine hh.mono ?_
  rintro e w' ⟨rfl, lr', a1, a2, a4, c⟩
  obtain ⟨h1, h2, h3, h4, h5, h6, h7, h8, h9, h10⟩ := h.parts c (fun j hj => by
    rcases hj with (e | e | e) | e
    · subst e; exact ⟨h.zl.2.2.2.1, fun _ => ⟨_, _, h.rr.hb, by simp [pT]⟩⟩
    · subst e; exact ⟨h.zl.2.2.2.2, fun _ => ⟨_, _, h.rr.hc, .inr (.inl rfl)⟩⟩
    · obtain ⟨hy, cs, ht⟩ := h.lrt e
      exact ⟨hy, fun _ => ⟨_, _, ht, by simp [pT]⟩⟩
    · subst e; exact ⟨Nat.le_trans h.zl.1 (h.lo i hi).2.2, fun _ => ⟨_, _, hn, by simp [pT]⟩⟩)
  have nS : ∀ {j : Nat} {cs : Array Value} {ty : TypeId}, wr.heap[j]? = some (.cells cs ty (0, 0)) → (ty = 88 ∨ ty = 99 ∨ ty = 97 ∨ ty = 102 ∧ j ≠ rs i ∨ ty = 47 ∧ j ≠ rc ∨ ty = 59 ∧ lr.ownBlock ≠ some j) → ¬ (refSet rb rc lr j ∨ j = rs i) := fun {j cs ty} hj ht hS => by
    rcases hS with (e | e | e) | e
    · exact ne_ty hj h.rr.hb (by rcases ht with q | q | q | ⟨q, _⟩ | ⟨q, _⟩ | ⟨q, _⟩ <;> rw [q] <;> decide) e
    · rcases ht with q | q | q | ⟨q, _⟩ | ⟨_, q⟩ | ⟨q, _⟩
      all_goals first | exact q e | exact ne_ty hj h.rr.hc (by rw [q]; decide) e
    · obtain ⟨_, cs', h3⟩ := h.lrt e
      rcases ht with q | q | q | ⟨q, _⟩ | ⟨q, _⟩ | ⟨_, q⟩
      all_goals first | exact q e | exact ne_ty hj h3 (by rw [q]; decide) rfl
    · rcases ht with q | q | q | ⟨_, q⟩ | ⟨q, _⟩ | ⟨q, _⟩
      all_goals first | exact q e | exact ne_ty hj hn (by rw [q]; decide) e
  have hwd := (h.wd _ hw.cell).2
  refine ⟨rfl, lr', h1, h.zl, h2, h.ar.kept c (nS h.ar.hb (by simp)) (nS h.ar.hc (by simp; exact h.ne.1)) (fun j hj => by
    obtain ⟨_, cs, h3⟩ := h.lvt hj; exact nS h3 (by simp; exact h.ne.2 j hj)), a1, ⟨h.ne.1, fun g hg' e => ?_⟩, h3, h4, h5, fun j hj => ⟨h8 j hj (nS (h.nd j hj).1 (by simp)), h6 j hj⟩, fun j hj => ?_, fun j hj => h10 j hj (nS (h.po j hj) (by simp)), h.inj, h.lo, fun j hj => ?_, ⟨h.len.1, by show (t.cells.set _ _).length = _; rw [List.length_set]; exact h.len.2⟩, fun j hj => ⟨(h.wd j hj).1, wd_set h.len.2 hw.cell (fun i hi => (h.wd i hi).2) (hw.left hwd) j hj⟩, h.kp, ⟨h.cnt.1, ?_⟩, ⟨Nat.le_succ_of_le h.lk.1, ?_⟩, h.n64⟩
  · rcases a2 with q | ⟨g', q, hl⟩
    · exact h.ne.2 g hg' (by rw [← q]; exact e)
    · rw [q] at e; cases e
      obtain ⟨_, cs, h3⟩ := h.lvt hg'
      have := lt_of_heap h3
      omega
  · by_cases e : j = i
    · subst e; rw [upd_same]; exact ⟨a4, by rw [Nd.next_sends]; exact h7 j hj⟩
    · rw [upd_other _ _ e]; exact ⟨h9 j hj (nS (h.rd j hj).1 (.inr (.inr (.inr (.inl ⟨rfl, (h.pne hi hj e).2.2⟩))))), h7 j hj⟩
  · refine ⟨(h.wf j hj).1.mono (Nat.le_succ K), ?_⟩
    by_cases e : j = i
    · subst e; rw [upd_same]; exact hw.next hwd
    · rw [upd_other _ _ e]; exact (h.wf j hj).2.mono (Nat.le_succ K)
  · show t.count + 1 = ((if t.keep then t.log ++ [_] else t.log).length : Int)
    rw [h.kp.2, h.cnt.2]; simp
  · show (if t.keep then t.log ++ [_] else t.log).length ≤ K + 1
    rw [h.kp.2]; simp; exact h.lk.2
end
end Go.Proofs.Ytlncjbjdjciphaa

/- Both circles: a step where no access is made, or that is over; the document's arena is stopped. -/
namespace Go.Proofs.Ytlncjbjdjciphaa
open Go.RowKit Go.Lib Go.MuLone
set_option linter.unusedVariables false
set_option linter.unusedSimpArgs false
section
variable {w wr wr' : World} {X b gc rb rc Y Y2 Z n K : Nat} {lv lr vP vN vG : Value} {s t : Ast} {qs ps rs : Nat → Nat} {sv tv : Nat → Value} {gs : Nat → Bool} {ds es : Nat → Nd}
theorem w64_zero : W64 0 := by unfold W64; omega
theorem tp_zero_p (h : TP w wr X b gc rb rc Y Y2 Z n lv lr s t vP vN vG qs ps rs sv tv gs ds es K) {i : Nat} (hi : i < n) (hg : s.stopped = true ∨ (s.stopped = false ∧ gs i = false)) (h0 : (ds i).ph ≠ 0) :
    Calls Try.prog 11 #[.pointer (some ⟨qs i, 0, none⟩), .pointer (some ⟨ps i, 0, none⟩)] wr fun e w' => e = .returned (.tuple #[]) ∧ ∃ s', Stp s s' ∧ TP w w' X b gc rb rc Y Y2 Z n lv lr s' t vP vN vG qs ps rs sv tv gs (upd ds i ((ds i).next 0)) es (K + 1) := by
  have hw := (h.wf i hi).1
  have hp := h.po i hi
  obtain ⟨hn, hs⟩ := h.nd i hi
  have R : NZ wr Y b gc (ps i) lv s (qs i) (ds i) (sv i) Z n K (gs i) := ⟨h.ar, by rw [hw.who]; exact hp, hn, fun e => by
      obtain ⟨_, cs, h3⟩ := h.lvt e; exact ne_ty hn h3 (by decide) rfl, hs, hg, ⟨i, hw⟩⟩
  refine (step_zero R h0).mono ?_
  rintro e w' ⟨rfl, s', hss, a1, a4, c⟩
  obtain ⟨h1, h2, h3, h4, h5, h6, h7, h8, h9, h10⟩ := h.parts c (fun j hj => by
    rcases hj with e | e
    · subst e; exact ⟨h.zl.2.1, fun _ => ⟨_, _, h.ar.hb, .inl rfl⟩⟩
    · subst e; exact ⟨Nat.le_trans h.zl.1 (h.lo i hi).1, fun _ => ⟨_, _, hn, by simp [pT]⟩⟩)
  have nS : ∀ {j : Nat} {cs : Array Value} {ty : TypeId}, wr.heap[j]? = some (.cells cs ty (0, 0)) → (ty ≠ 97 ∧ (ty ≠ 88 ∨ j ≠ qs i)) → ¬ (j = b ∨ j = qs i) := fun {j cs ty} hj ht hS => by
    rcases hS with e | e
    · exact ne_ty hj h.ar.hb ht.1 e
    · rcases ht.2 with q | q
      · exact ne_ty hj hn q e
      · exact q e
  refine ⟨rfl, s', hss, h1, h.zl, h2, a1, h.rr.kept c (nS h.rr.hb (by simp)) (nS h.rr.hc (by simp)) (fun j hj => by
    obtain ⟨_, cs, h3⟩ := h.lrt hj; exact nS h3 (by simp)), h.ne, h3, h4, h5, fun j hj => ?_, fun j hj => ⟨h9 j hj (nS (h.rd j hj).1 (by simp)), h7 j hj⟩, fun j hj => h10 j hj (nS (h.po j hj) (by simp)), h.inj, h.lo, fun j hj => ?_, ⟨by rw [hss.cells]; exact h.len.1, h.len.2⟩, fun j hj => ⟨by rw [hss.cells]; exact (h.wd j hj).1, (h.wd j hj).2⟩, ⟨by rw [hss.keep]; exact h.kp.1, h.kp.2⟩, ⟨by rw [hss.count, hss.log]; exact h.cnt.1, h.cnt.2⟩, ⟨by rw [hss.log]; exact Nat.le_succ_of_le h.lk.1, Nat.le_succ_of_le h.lk.2⟩, h.n64⟩
  · by_cases e : j = i
    · subst e; rw [upd_same]; exact ⟨a4, by rw [Nd.next_sends]; exact h6 j hj⟩
    · rw [upd_other _ _ e]; exact ⟨h8 j hj (nS (h.nd j hj).1 ⟨by decide, .inr (h.pne hi hj e).1⟩), h6 j hj⟩
  · refine ⟨?_, (h.wf j hj).2.mono (Nat.le_succ K)⟩
    by_cases e : j = i
    · subst e; rw [upd_same]; exact hw.next w64_zero
    · rw [upd_other _ _ e]; exact (h.wf j hj).1.mono (Nat.le_succ K)
theorem tp_zero_r (h : TP w wr X b gc rb rc Y Y2 Z n lv lr s t vP vN vG qs ps rs sv tv gs ds es K) {i : Nat} (hi : i < n) (hst : t.stopped = true) (h0 : (es i).ph ≠ 0) (hK : K ≤ 4194305) :
    Calls Try.prog 17 #[.pointer (some ⟨rs i, 0, none⟩), .pointer (some ⟨rb, 0, none⟩), .int .i64 (i : Int)] wr fun e w' => e = .returned (.tuple #[]) ∧ TP w w' X b gc rb rc Y Y2 Z n lv lr s t vP vN vG qs ps rs sv tv gs ds (upd es i ((es i).next 0)) (K + 1) := by
  have hw := (h.wf i hi).2
  obtain ⟨hn, hs⟩ := h.rd i hi
  have hh := rstep_zero (h.rn_ hi hK) hst h0
  rw [hw.who] at hh
  refine hh.mono ?_
  rintro e w' ⟨rfl, a1, a4, c⟩
  obtain ⟨h1, h2, h3, h4, h5, h6, h7, h8, h9, h10⟩ := h.parts c (fun j hj => by
    subst hj; exact ⟨Nat.le_trans h.zl.1 (h.lo i hi).2.2, fun _ => ⟨_, _, hn, by simp [pT]⟩⟩)
  have nS : ∀ {j : Nat} {cs : Array Value} {ty : TypeId}, wr.heap[j]? = some (.cells cs ty (0, 0)) → ty ≠ 102 → ¬ j = rs i := fun {j cs ty} hj ht e => ne_ty hj hn ht e
  refine ⟨rfl, h1, h.zl, h2, h.ar.kept c (nS h.ar.hb (by simp)) (nS h.ar.hc (by simp)) (fun j hj => by
    obtain ⟨_, cs, h3⟩ := h.lvt hj; exact nS h3 (by simp)), a1, h.ne, h3, h4, h5, fun j hj => ⟨h8 j hj (nS (h.nd j hj).1 (by simp)), h6 j hj⟩, fun j hj => ?_, fun j hj => h10 j hj (nS (h.po j hj) (by simp)), h.inj, h.lo, fun j hj => ?_, h.len, h.wd, h.kp, h.cnt, ⟨Nat.le_succ_of_le h.lk.1, Nat.le_succ_of_le h.lk.2⟩, h.n64⟩
  · by_cases e : j = i
    · subst e; rw [upd_same]; exact ⟨a4, by rw [Nd.next_sends]; exact h7 j hj⟩
    · rw [upd_other _ _ e]; exact ⟨h9 j hj (h.pne hi hj e).2.2, h7 j hj⟩
  · refine ⟨(h.wf j hj).1.mono (Nat.le_succ K), ?_⟩
    by_cases e : j = i
    · subst e; rw [upd_same]; exact hw.next w64_zero
    · rw [upd_other _ _ e]; exact (h.wf j hj).2.mono (Nat.le_succ K)
set_option maxRecDepth 100000 in
theorem tp_idle_p (h : TP w wr X b gc rb rc Y Y2 Z n lv lr s t vP vN vG qs ps rs sv tv gs ds es K) {i : Nat} (hi : i < n) (h0 : (ds i).ph = 0) (p : Nat) : Calls Try.prog 11 #[.pointer (some ⟨qs i, 0, none⟩), .pointer (some ⟨p, 0, none⟩)] wr fun e w' => e = .returned (.tuple #[]) ∧ w' = wr := by
  have HOV := hide (over_nd (w := wr) (q := qs i) (h.nd i hi).1 (h.wf i hi).1.ph)
  rw [show decide ((ds i).ph = 0) = true by simpa using h0] at HOV
  clear h h0 hi
  go_enter Try.func11, Try.ntmps11
  go_wp2_with fail
  refine HOV.out.mono ?_
  rintro e w1 ⟨rfl, rfl⟩
  go_wp2_with fail
  first | go_end0 | refine bodyPost_ret (results_none rfl _ _ _) rfl ?_
  exact ⟨rfl, rfl⟩
theorem tp_idle_r (h : TP w wr X b gc rb rc Y Y2 Z n lv lr s t vP vN vG qs ps rs sv tv gs ds es K) {i : Nat} (hi : i < n) (h0 : (es i).ph = 0) : Calls Try.prog 17 #[.pointer (some ⟨rs i, 0, none⟩), .pointer (some ⟨rb, 0, none⟩), .int .i64 (i : Int)] wr fun e w' => e = .returned (.tuple #[]) ∧ w' = wr := by
  have hw := (h.wf i hi).2
  exact rph0 h0 (by have := hw.who; have := hw.lt; have := hw.n64; omega) (h.rd i hi).1
/-- The document's arena is stopped. -/
theorem tp_stop (h : TP w wr X b gc rb rc Y Y2 Z n lv lr s t vP vN vG qs ps rs sv tv gs ds es K) : TP w (wr.setCell ⟨rb, 3, none⟩ (.bool true)) X b gc rb rc Y Y2 Z n lv lr s { t with stopped := true } vP vN vG qs ps rs sv tv gs ds es K := by
  have c : Chg (fun k => k = rb) wr (wr.setCell ⟨rb, 3, none⟩ (.bool true)) := set_one wr rb 3 _
  obtain ⟨h1, h2, h3, h4, h5, h6, h7, h8, h9, h10⟩ := h.parts c (fun j hj => by subst hj; exact ⟨h.zl.2.2.2.1, fun _ => ⟨_, _, h.rr.hb, by simp [pT]⟩⟩)
  have nS : ∀ {j : Nat} {cs : Array Value} {ty : TypeId}, wr.heap[j]? = some (.cells cs ty (0, 0)) → ty ≠ 55 → ¬ j = rb := fun {j cs ty} hj ht e => ne_ty hj h.rr.hb ht e
  have hr := h.rr
  exact ⟨h1, h.zl, h2, h.ar.kept c (nS h.ar.hb (by simp)) (nS h.ar.hc (by simp)) (fun j hj => by
    obtain ⟨_, cs, h3⟩ := h.lvt hj; exact nS h3 (by simp)), ⟨by rw [heap_set hr.hb]; rfl, c.heap hr.hc (fun e => hr.ne e.symm), ownsRow_block hr.hl (fun i hi => c.block i (owns_lt hr.hl hi).2 (hr.own_ne hi).1), hr.bY, hr.gY, hr.ne, hr.len, Nat.le_trans hr.yw c.size⟩, h.ne, h3, h4, h5, fun j hj => ⟨h8 j hj (nS (h.nd j hj).1 (by simp)), h6 j hj⟩, fun j hj => ⟨h9 j hj (nS (h.rd j hj).1 (by simp)), h7 j hj⟩, fun j hj => h10 j hj (nS (h.po j hj) (by simp)), h.inj, h.lo, h.wf, h.len, h.wd, h.kp, h.cnt, h.lk, h.n64⟩
end
end Go.Proofs.Ytlncjbjdjciphaa
