/- The circle under picks, in memory. -/
import Derived.Test.YtdjkidgkeekenaaGreatL4
namespace Go.Proofs.YtdjkidgkeekenaaGreat
open Go.RowKit Go.Lib
set_option linter.unusedVariables false
set_option linter.unusedSimpArgs false
structure TBm (w wr : World) (X b gc Y Z n : Nat) (lv : Value) (s : Ast) (vP vN : Value) (qs ps : Nat → Nat) (sv : Nat → Value) (gs : Nat → Bool) (ds : Nat → Nd) (K : Nat) : Prop where
  bel : Below w.heap.size w wr
  zl : w.heap.size ≤ Z ∧ w.heap.size ≤ b ∧ w.heap.size ≤ gc
  x : ∃ pb vG, wr.heap[X]? = some (.cells #[.pointer (some ⟨b, 0, none⟩), vP, vN, pb, vG] 45 (0, 0))
  ar : AIs wr Y b gc lv s
  rp : wr.ownsRow Z 85 1 vP n (ptrs ps n)
  rn : wr.ownsRow Z 52 1 vN n (ptrs qs n)
  nd : ∀ j, j < n → wr.heap[qs j]? = some ((ds j).obj (sv j)) ∧ Snd wr Z (sv j) (ds j).sends
  po : ∀ j, j < n → wr.heap[ps j]? = some (PObj b j (gs j))
  inj : ∀ i j, i < j → j < n → qs i ≠ qs j ∧ ps i ≠ ps j
  lo : ∀ j, j < n → Z ≤ qs j ∧ Z ≤ ps j
  sys : Sys n K ds s.cells
  go : s.stopped = false
  kp : s.keep = true
  cnt : s.count = s.log.length
  lk : s.log.length ≤ K
  n64 : 1 ≤ n ∧ n ≤ 64
theorem own_ty8 {w : World} {lo n z : Nat} {t : TypeId} {v : Value} {xs : List Value} (h : w.ownsRow lo t z v n xs) {g : Nat} (hg : v.ownBlock = some g) : lo ≤ g ∧ ∃ cs, w.heap[g]? = some (.cells cs t (0, 0)) := by
  obtain ⟨_, ⟨rfl, _⟩ | ⟨g', cap, cur, rfl, hg', hc, _⟩⟩ := h
  · cases hg
  · cases hg; exact ⟨hg', cur, hc⟩
section
variable {w wr wr' : World} {X b gc Y Z n K : Nat} {lv lv' vP vN : Value} {s s' : Ast} {qs ps : Nat → Nat} {sv : Nat → Value} {gs : Nat → Bool} {ds : Nat → Nd}
/-- What does not turn. -/
theorem TBm.parts {S : Nat → Prop} (h : TBm w wr X b gc Y Z n lv s vP vN qs ps sv gs ds K) (c : Chg S wr wr') (hS : ∀ j, S j → w.heap.size ≤ j ∧ (j < wr.heap.size → ∃ cs t, wr.heap[j]? = some (.cells cs t (0, 0)) ∧ (t = 112 ∨ t = 36 ∨ t = 132 ∨ t = 58 ∨ t = 119))) :
    Below w.heap.size w wr' ∧ (∃ pb vG, wr'.heap[X]? = some (.cells #[.pointer (some ⟨b, 0, none⟩), vP, vN, pb, vG] 45 (0, 0))) ∧ wr'.ownsRow Z 85 1 vP n (ptrs ps n) ∧ wr'.ownsRow Z 52 1 vN n (ptrs qs n) ∧
    (∀ j, j < n → Snd wr' Z (sv j) (ds j).sends) ∧ (∀ j, j < n → ¬ S (qs j) → wr'.heap[qs j]? = some ((ds j).obj (sv j))) ∧ (∀ j, j < n → ¬ S (ps j) → wr'.heap[ps j]? = some (PObj b j (gs j))) := by
  have no : ∀ {j : Nat} {cs : Array Value} {t : TypeId}, wr.heap[j]? = some (.cells cs t (0, 0)) → t ≠ 112 → t ≠ 36 → t ≠ 132 → t ≠ 58 → t ≠ 119 → wr'.heap[j]? = wr.heap[j]? := fun {j cs t} hj h1 h2 h3 h4 h5 => c.block _ (lt_of_heap hj) (fun e => by
    obtain ⟨cs', t', h', ho⟩ := (hS j e).2 (lt_of_heap hj)
    rw [ty_of h' hj] at h1 h2 h3 h4 h5
    rcases ho with e | e | e | e | e
    · exact h1 e
    · exact h2 e
    · exact h3 e
    · exact h4 e
    · exact h5 e)
  refine ⟨c.below h.bel (fun j hj => (hS j hj).1) h.bel.size, ?_, own_stayR h.rp (fun g hg => ?_), own_stayR h.rn (fun g hg => ?_), fun j hj => (h.nd j hj).2.stay fun g hg => ?_, fun j hj hn => c.heap (h.nd j hj).1 hn, fun j hj hn => c.heap (h.po j hj) hn⟩
  · obtain ⟨pb, vG, hx⟩ := h.x
    exact ⟨pb, vG, (no hx (by decide) (by decide) (by decide) (by decide) (by decide)).trans hx⟩
  · obtain ⟨_, _, cs, h3⟩ := own_ty h.rp hg
    exact no h3 (by decide) (by decide) (by decide) (by decide) (by decide)
  · obtain ⟨_, _, cs, h3⟩ := own_ty h.rn hg
    exact no h3 (by decide) (by decide) (by decide) (by decide) (by decide)
  · obtain ⟨cs, ht⟩ := (h.nd j hj).2.typ hg
    exact no ht (by decide) (by decide) (by decide) (by decide) (by decide)
theorem TBm.look (h : TBm w wr X b gc Y Z n lv s vP vN qs ps sv gs ds K) (ha : AIs wr' Y b gc lv s) (c : Chg (fun j => j = b) wr wr') : TBm w wr' X b gc Y Z n lv s vP vN qs ps sv gs ds K := by
  obtain ⟨h1, h2, h3, h4, h5, h6, h7⟩ := h.parts c (fun j hj => by subst hj; exact ⟨h.zl.2.1, fun _ => ⟨_, _, h.ar.hb, .inl rfl⟩⟩)
  exact ⟨h1, h.zl, h2, ha, h3, h4, fun j hj => ⟨h6 j hj (ne_ty (h.nd j hj).1 h.ar.hb (by decide)), h5 j hj⟩, fun j hj => h7 j hj (ne_ty (h.po j hj) h.ar.hb (by decide)), h.inj, h.lo, h.sys, h.go, h.kp, h.cnt, h.lk, h.n64⟩
theorem TBm.below (h : TBm w wr X b gc Y Z n lv s vP vN qs ps sv gs ds K) (hb : Below wr.heap.size wr wr') : TBm w wr' X b gc Y Z n lv s vP vN qs ps sv gs ds K := by
  obtain ⟨h1, h2, h3, h4, h5, h6, h7⟩ := h.parts (S := fun _ => False) (Chg.of_below hb) (fun j hj => hj.elim)
  exact ⟨h1, h.zl, h2, h.ar.below hb, h3, h4, fun j hj => ⟨h6 j hj id, h5 j hj⟩, fun j hj => h7 j hj id, h.inj, h.lo, h.sys, h.go, h.kp, h.cnt, h.lk, h.n64⟩
theorem TBm.pne (h : TBm w wr X b gc Y Z n lv s vP vN qs ps sv gs ds K) {i j : Nat} (hi : i < n) (hj : j < n) (hij : j ≠ i) : qs j ≠ qs i ∧ ps j ≠ ps i := by
  rcases Nat.lt_or_gt_of_ne hij with e | e
  · exact h.inj j i e hi
  · exact ⟨fun q => (h.inj i j e hj).1 q.symm, fun q => (h.inj i j e hj).2 q.symm⟩
theorem tb_grant (h : TBm w wr X b gc Y Z n lv s vP vN qs ps sv gs ds K) {i : Nat} (hi : i < n) : Calls Tryz.prog 60 #[.pointer (some ⟨ps i, 0, none⟩)] wr fun r w' => r = .returned (.tuple #[]) ∧ TBm w w' X b gc Y Z n lv s vP vN qs ps sv (upd gs i true) ds K := by
  have hp := h.po i hi
  refine (grant_any (ps i) Y b gc lv s i (gs i) wr h.ar hp (ne_ty hp h.ar.hb (by decide)) (ne_ty hp h.ar.hc (by decide)) (fun e => by
    obtain ⟨_, cs, h3⟩ := own_ty8 h.ar.hl e
    exact ne_ty hp h3 (by decide) rfl)).mono ?_
  rintro e w' ⟨rfl, ha, hpo, c, _⟩
  obtain ⟨h1, h2, h3, h4, h5, h6, h7⟩ := h.parts c (fun j hj => by
    rcases hj with rfl | rfl
    · exact ⟨h.zl.2.1, fun _ => ⟨_, _, h.ar.hb, .inl rfl⟩⟩
    · exact ⟨Nat.le_trans h.zl.1 (h.lo i hi).2, fun _ => ⟨_, _, hp, by simp⟩⟩)
  refine ⟨rfl, h1, h.zl, h2, ha, h3, h4, fun j hj => ⟨h6 j hj (fun e => ?_), h5 j hj⟩, fun j hj => ?_, h.inj, h.lo, h.sys, h.go, h.kp, h.cnt, h.lk, h.n64⟩
  · rcases e with e | e
    · exact ne_ty (h.nd j hj).1 h.ar.hb (by decide) e
    · exact ne_ty (h.nd j hj).1 hp (by decide) e
  · by_cases e : j = i
    · subst e; rw [upd_same]; exact hpo
    · rw [upd_other _ _ e]
      exact h7 j hj (fun q => by
        rcases q with q | q
        · exact ne_ty (h.po j hj) h.ar.hb (by decide) q
        · exact (h.pne hi hj e).2 q)
theorem TBm.mono (h : TBm w wr X b gc Y Z n lv s vP vN qs ps sv gs ds K) {K' : Nat} (hk : K ≤ K') : TBm w wr X b gc Y Z n lv s vP vN qs ps sv gs ds K' :=
  ⟨h.bel, h.zl, h.x, h.ar, h.rp, h.rn, h.nd, h.po, h.inj, h.lo, h.sys.mono hk, h.go, h.kp, h.cnt, Nat.le_trans h.lk hk, h.n64⟩
theorem Nd.next_sends (d : Nd) (x : Int) : (d.next x).sends = d.sends := by
  unfold Nd.next
  split <;> first | rfl | (split <;> first | rfl | (split <;> rfl))
theorem tb_step (h : TBm w wr X b gc Y Z n lv s vP vN qs ps sv gs ds K) {i : Nat} (hi : i < n) (hg : gs i = true) (h0 : (ds i).ph ≠ 0) (hK : K ≤ 1099511627776) :
    Calls Tryz.prog 118 #[.pointer (some ⟨qs i, 0, none⟩), .pointer (some ⟨ps i, 0, none⟩)] wr fun e w' => e = .returned (.tuple #[]) ∧ ∃ lv' s' gs' ds', TBm w w' X b gc Y Z n lv' s' vP vN qs ps sv gs' ds' (K + 1) ∧ s'.count = s.count + 1 := by
  have hw := h.sys.wf i hi
  have hp := h.po i hi
  rw [hg] at hp
  obtain ⟨hn, hs⟩ := h.nd i hi
  have lg : ∀ g, lv.ownBlock = some g → ∃ cs, wr.heap[g]? = some (.cells cs 58 (0, 0)) := fun g hg => (own_ty8 h.ar.hl hg).2
  have R : NRdy wr Y b gc (ps i) lv s (qs i) (ds i) (sv i) Z n K := ⟨h.ar, by rw [hw.who]; exact hp, fun e => by
      obtain ⟨cs, h3⟩ := lg _ e; exact ne_ty hp h3 (by decide) rfl, hn, fun e => by
      obtain ⟨cs, h3⟩ := lg _ e; exact ne_ty hn h3 (by decide) rfl, hs, fun g hg e => by
      obtain ⟨cs, h3⟩ := lg _ e; obtain ⟨cs', h4⟩ := hs.typ hg; exact ne_ty h4 h3 (by decide) rfl, h.go, h.sys.len, by rw [h.cnt]; omega, by rw [h.cnt]; have := h.lk; omega, by have := h.lk; omega, ⟨i, hw⟩⟩
  refine (step_go R h0).mono ?_
  rintro e w' ⟨rfl, lv', a1, a2, a3, a4, c⟩
  rw [hw.who] at a3
  obtain ⟨h1, h2, h3, h4, h5, h6, h7⟩ := h.parts c (fun j hj => by
    rcases hj with (e | e | e | e) | e
    · subst e; exact ⟨h.zl.2.1, fun _ => ⟨_, _, h.ar.hb, .inl rfl⟩⟩
    · subst e; exact ⟨h.zl.2.2, fun _ => ⟨_, _, h.ar.hc, .inr (.inl rfl)⟩⟩
    · subst e; exact ⟨Nat.le_trans h.zl.1 (h.lo i hi).2, fun _ => ⟨_, _, hp, by simp⟩⟩
    · obtain ⟨hy, cs, ht⟩ := own_ty8 h.ar.hl e
      exact ⟨by have := h.ar.gY; have := h.zl.2.2; omega, fun _ => ⟨_, _, ht, by simp⟩⟩
    · subst e; exact ⟨Nat.le_trans h.zl.1 (h.lo i hi).1, fun _ => ⟨_, _, hn, by simp⟩⟩)
  have nS : ∀ {j : Nat} {cs : Array Value} {t : TypeId}, wr.heap[j]? = some (.cells cs t (0, 0)) → (t = 119 ∧ j ≠ qs i ∨ t = 132 ∧ j ≠ ps i) → ¬ (accSet b gc (ps i) lv j ∨ j = qs i) := fun {j cs t} hj ht hS => by
    rcases hS with (e | e | e | e) | e
    · exact ne_ty hj h.ar.hb (by rcases ht with ⟨q, _⟩ | ⟨q, _⟩ <;> rw [q] <;> decide) e
    · exact ne_ty hj h.ar.hc (by rcases ht with ⟨q, _⟩ | ⟨q, _⟩ <;> rw [q] <;> decide) e
    · rcases ht with ⟨q, _⟩ | ⟨_, q⟩
      · exact ne_ty hj hp (by rw [q]; decide) e
      · exact q e
    · obtain ⟨cs', h3⟩ := lg _ e
      exact ne_ty hj h3 (by rcases ht with ⟨q, _⟩ | ⟨q, _⟩ <;> rw [q] <;> decide) rfl
    · rcases ht with ⟨_, q⟩ | ⟨q, _⟩
      · exact q e
      · exact ne_ty hj hn (by rw [q]; decide) e
  refine ⟨rfl, lv', _, upd gs i false, upd ds i ((ds i).next (nth s.cells (ds i).cell)), ⟨h1, h.zl, h2, a1, h3, h4, fun j hj => ?_, fun j hj => ?_, h.inj, h.lo, h.sys.step h.n64.2 hK hi h0, h.go, h.kp, ?_, ?_, h.n64⟩, rfl⟩
  · by_cases e : j = i
    · subst e; rw [upd_same]; exact ⟨a4, by rw [Nd.next_sends]; exact h5 j hj⟩
    · rw [upd_other _ _ e]; exact ⟨h6 j hj (nS (h.nd j hj).1 (.inl ⟨rfl, (h.pne hi hj e).1⟩)), h5 j hj⟩
  · by_cases e : j = i
    · subst e; rw [upd_same]; exact a3
    · rw [upd_other _ _ e]; exact h7 j hj (nS (h.po j hj) (.inr ⟨rfl, (h.pne hi hj e).2⟩))
  · show s.count + 1 = ((if s.keep then s.log ++ [_] else s.log).length : Int)
    rw [h.kp, h.cnt]; simp
  · show (if s.keep then s.log ++ [_] else s.log).length ≤ K + 1
    rw [h.kp]; simp; exact h.lk
set_option maxRecDepth 100000 in
theorem tb_idle (h : TBm w wr X b gc Y Z n lv s vP vN qs ps sv gs ds K) {i : Nat} (hi : i < n) (h0 : (ds i).ph = 0) (p : Nat) : Calls Tryz.prog 118 #[.pointer (some ⟨qs i, 0, none⟩), .pointer (some ⟨p, 0, none⟩)] wr fun e w' => e = .returned (.tuple #[]) ∧ w' = wr := by
  have HOV := hide (over_nd (w := wr) (q := qs i) (h.nd i hi).1 (h.sys.wf i hi).ph)
  rw [show decide ((ds i).ph = 0) = true by simpa using h0] at HOV
  clear h h0 hi
  go_enter Tryz.func118, Tryz.ntmps118
  go_wp2_with fail
  refine HOV.out.mono ?_
  rintro e w1 ⟨rfl, rfl⟩
  go_wp2_with fail
  first | go_end0 | refine bodyPost_ret (results_none rfl _ _ _) rfl ?_
  exact ⟨rfl, rfl⟩
end
end Go.Proofs.YtdjkidgkeekenaaGreat
