/- The circle while nodes and ports are laid. -/
import Derived.Test.YtdjkidgkeekenaaGreatL2
import Derived.Test.YtdjkidgkeekenaaGreatHold
namespace Go.Proofs.YtdjkidgkeekenaaGreat
open Go.RowKit Go.Lib
set_option linter.unusedVariables false
set_option linter.unusedSimpArgs false
def ptr (q : Nat) : Value := .pointer (some ⟨q, 0, none⟩)
def ptrs (f : Nat → Nat) (i : Nat) : List Value := (List.range i).map fun j => ptr (f j)
theorem ptrs_succ (f : Nat → Nat) (i : Nat) : ptrs f (i + 1) = ptrs f i ++ [ptr (f i)] := by simp [ptrs, List.range_succ]
theorem ptrs_congr {f g : Nat → Nat} {i : Nat} (h : ∀ j, j < i → f j = g j) : ptrs f i = ptrs g i := by
  unfold ptrs
  apply List.map_congr_left
  intro j hj
  rw [h j (List.mem_range.1 hj)]
/-- All but the circle's own block and its three rows. -/
structure LC (w wr : World) (T : Nat) (v0 v1 : Value) (G C g c : Nat) (ls : List (List Int)) (aw : List Int) (bu : Int) (b gc rb rc Y Y2 : Nat) (s sr : Ast) (Z m : Nat) (qs ps : Nat → Nat) (sv : Nat → Value) : Prop where
  tz : TZ w wr T v0 v1 G C g c ls aw bu
  ar : AIs wr Y b gc (.slice none 0 0) s
  rr : RIs wr Y2 rb rc (.slice none 0 0) sr
  low : w.heap.size ≤ b ∧ w.heap.size ≤ gc
  zr : w.heap.size ≤ Z ∧ Z ≤ wr.heap.size
  sp : SpM wr (w.heap.size, Z) G g ls aw.length
  nd : ∀ j, j < m → wr.heap[qs j]? = some ((Nd.new ls aw bu j).obj (sv j)) ∧ Snd wr Z (sv j) (rowL ls j)
  po : ∀ j, j < m → wr.heap[ps j]? = some (PObj b j false)
  inj : ∀ i j, i < j → j < m → qs i ≠ qs j ∧ ps i ≠ ps j
  lo : ∀ j, j < m → Z ≤ qs j ∧ Z ≤ ps j
def okT (t : TypeId) : Prop := t = 45 ∨ t = 52 ∨ t = 85 ∨ t = 68
section
variable {w wr wr' : World} {T G C g c b gc rb rc Y Y2 Z m : Nat} {v0 v1 : Value} {ls : List (List Int)} {aw : List Int} {bu : Int} {s sr : Ast} {qs ps : Nat → Nat} {sv : Nat → Value}
theorem LC.far {S : Nat → Prop} (h : LC w wr T v0 v1 G C g c ls aw bu b gc rb rc Y Y2 s sr Z m qs ps sv) (k : Chg S wr wr') (hS : ∀ j, j < wr.heap.size → S j → w.heap.size ≤ j ∧ ∃ cs t, wr.heap[j]? = some (.cells cs t (0, 0)) ∧ okT t) : LC w wr' T v0 v1 G C g c ls aw bu b gc rb rc Y Y2 s sr Z m qs ps sv := by
  have no : ∀ {j : Nat} {cs : Array Value} {t : TypeId}, wr.heap[j]? = some (.cells cs t (0, 0)) → ¬ okT t → ¬ S j := fun {j cs t} hj ht e => by
    obtain ⟨_, cs', t', h', ho⟩ := hS j (lt_of_heap hj) e
    rw [ty_of h' hj] at ht
    exact ht ho
  have k' : Chg (fun j => S j ∧ j < wr.heap.size) wr wr' := k.old fun j hj e => ⟨e, hj⟩
  have no' : ∀ {j : Nat} {cs : Array Value} {t : TypeId}, wr.heap[j]? = some (.cells cs t (0, 0)) → ¬ okT t → wr'.heap[j]? = wr.heap[j]? := fun hj ht => k.block _ (lt_of_heap hj) (no hj ht)
  refine ⟨h.tz.far k' (fun j hj => ?_), h.ar.kept k (no h.ar.hb (by unfold okT; decide)) (no h.ar.hc (by unfold okT; decide)) (fun i hi => by cases hi), h.rr.kept k (no h.rr.hb (by unfold okT; decide)) (no h.rr.hc (by unfold okT; decide)) (fun i hi => by cases hi), h.low, ⟨h.zr.1, Nat.le_trans h.zr.2 k.size⟩, ?_, fun j hj => ?_, fun j hj => ?_, h.inj, h.lo⟩
  · obtain ⟨h1, cs', t', h', ho⟩ := hS j hj.2 hj.1
    refine ⟨h1, fun cs t ht => ?_⟩
    rw [ty_of h' ht]
    rcases ho with rfl | rfl | rfl | rfl <;> decide
  · obtain ⟨cs, ht⟩ := h.sp.ty
    have i3 : ∀ {n g}, I3 wr (w.heap.size, Z) n g → I3 wr' (w.heap.size, Z) n g := fun ⟨hz, cur, h1, h2⟩ => ⟨hz, cur, (no' h1 (by unfold okT; decide)).trans h1, h2⟩
    refine ⟨⟨cs, (no' ht (by unfold okT; decide)).trans ht⟩, fun i hi => ?_, i3 h.sp.aw⟩
    obtain ⟨g', c', e1, e2⟩ := h.sp.row i hi
    refine ⟨g', c', ?_, i3 e2⟩
    simp only [World.cell?] at e1 ⊢
    rw [no' ht (by unfold okT; decide)]; exact e1
  · obtain ⟨h1, h2⟩ := h.nd j hj
    refine ⟨(no' h1 (by unfold okT; decide)).trans h1, h2.stay fun g hg => ?_⟩
    obtain ⟨cs, ht⟩ := h2.typ hg
    exact no' ht (by unfold okT; decide)
  · have h1 := h.po j hj
    exact (no' h1 (by unfold okT; decide)).trans h1
theorem LC.below (h : LC w wr T v0 v1 G C g c ls aw bu b gc rb rc Y Y2 s sr Z m qs ps sv) (hb : Below wr.heap.size wr wr') : LC w wr' T v0 v1 G C g c ls aw bu b gc rb rc Y Y2 s sr Z m qs ps sv :=
  h.far (S := fun _ => False) (Chg.of_below hb) (fun j _ hj => hj.elim)
/-- A node and its port more. -/
theorem LC.more (h : LC w wr T v0 v1 G C g c ls aw bu b gc rb rc Y Y2 s sr Z m qs ps sv) {q p : Nat} {v : Value} (hq : wr.heap[q]? = some ((Nd.new ls aw bu m).obj v)) (hs : Snd wr Z v (rowL ls m)) (hp : wr.heap[p]? = some (PObj b m false)) (hq0 : ∀ j, j < m → qs j ≠ q) (hp0 : ∀ j, j < m → ps j ≠ p) (hl : Z ≤ q ∧ Z ≤ p) :
    LC w wr T v0 v1 G C g c ls aw bu b gc rb rc Y Y2 s sr Z (m + 1) (upd qs m q) (upd ps m p) (upd sv m v) := by
  refine ⟨h.tz, h.ar, h.rr, h.low, h.zr, h.sp, fun j hj => ?_, fun j hj => ?_, fun i j hij hj => ?_, fun j hj => ?_⟩
  · by_cases e : j = m
    · subst e; rw [upd_same, upd_same]; exact ⟨hq, hs⟩
    · rw [upd_other _ _ e, upd_other _ _ e]; exact h.nd j (by omega)
  · by_cases e : j = m
    · subst e; rw [upd_same]; exact hp
    · rw [upd_other _ _ e]; exact h.po j (by omega)
  · rw [upd_other _ _ (show i ≠ m by omega), upd_other _ _ (show i ≠ m by omega)]
    by_cases e : j = m
    · subst e; rw [upd_same, upd_same]; exact ⟨hq0 i hij, hp0 i hij⟩
    · rw [upd_other _ _ e, upd_other _ _ e]; exact h.inj i j hij (by omega)
  · by_cases e : j = m
    · subst e; rw [upd_same, upd_same]; exact hl
    · rw [upd_other _ _ e, upd_other _ _ e]; exact h.lo j (by omega)
/-- The circle's block and its rows. -/
structure LX (w wr : World) (X b rb Z : Nat) (vP vN vG : Value) (iP iN iG : Nat) (qs ps : Nat → Nat) : Prop where
  x : wr.heap[X]? = some (.cells #[.pointer (some ⟨b, 0, none⟩), vP, vN, .pointer (some ⟨rb, 0, none⟩), vG] 45 (0, 0))
  xl : w.heap.size ≤ X ∧ X < Z
  p : wr.ownsRow Z 85 1 vP iP (ptrs ps iP)
  n : wr.ownsRow Z 52 1 vN iN (ptrs qs iN)
  g : ∃ vals, wr.ownsRow Z 68 1 vG iG vals
variable {X iP iN iG : Nat} {vP vN vG : Value}
theorem LX.below (h : LX w wr X b rb Z vP vN vG iP iN iG qs ps) (hb : Below wr.heap.size wr wr') : LX w wr' X b rb Z vP vN vG iP iN iG qs ps :=
  ⟨(hb.block _ (lt_of_heap h.x)).trans h.x, h.xl, own_stayR h.p (fun g hg => hb.block _ (h.p.lt g hg).2), own_stayR h.n (fun g hg => hb.block _ (h.n.lt g hg).2), by obtain ⟨vals, hv⟩ := h.g; exact ⟨vals, own_stayR hv (fun g hg => hb.block _ (hv.lt g hg).2)⟩⟩
theorem LX.upd (h : LX w wr X b rb Z vP vN vG iP iN iG qs ps) {m q p : Nat} (hP : iP ≤ m) (hN : iN ≤ m) : LX w wr X b rb Z vP vN vG iP iN iG (upd qs m q) (upd ps m p) :=
  ⟨h.x, h.xl, by rw [ptrs_congr (g := ps) (fun j hj => upd_other _ _ (by omega))]; exact h.p, by rw [ptrs_congr (g := qs) (fun j hj => upd_other _ _ (by omega))]; exact h.n, h.g⟩
theorem own_ty {w : World} {lo n : Nat} {t : TypeId} {v : Value} {xs : List Value} (h : w.ownsRow lo t 1 v n xs) {g : Nat} (hg : v.ownBlock = some g) : lo ≤ g ∧ g < w.heap.size ∧ ∃ cs, w.heap[g]? = some (.cells cs t (0, 0)) := by
  obtain ⟨a, b⟩ := h.lt g hg
  refine ⟨a, b, ?_⟩
  obtain ⟨_, ⟨rfl, _⟩ | ⟨g', cap, cur, rfl, hg', hc, _⟩⟩ := h
  · cases hg
  · cases hg; exact ⟨cur, hc⟩

theorem LX.pushN (h : LX w wr X b rb Z vP vN vG iP iN iG qs ps) {w2 : World} {v2 : Value} {g2 c2 : Nat} (hv2 : v2 = .slice (some ⟨g2, 0, none⟩) (iN + 1) c2) (hown : w2.ownsRow Z 52 1 v2 (iN + 1) (ptrs qs iN ++ [ptr (qs iN)])) (hgr : (wr.alloc (.cells #[ptr (qs iN)] 52)).grownBy w2 vN.ownBlock) (hZ : Z ≤ wr.heap.size) :
    w2.heap[X]? = wr.heap[X]? ∧ LX w (w2.setCell ⟨X, 2, none⟩ v2) X b rb Z vP v2 vG iP (iN + 1) iG qs ps ∧ Chg (fun k => k = X ∨ vN.ownBlock = some k) wr (w2.setCell ⟨X, 2, none⟩ v2) := by
  obtain ⟨vals0, hg0⟩ := h.g
  have hx : w2.heap[X]? = wr.heap[X]? := by
    refine (hgr.block _ (by have := lt_of_heap h.x; simp; omega) (fun e => ?_)).trans (Below.heap_alloc _ _ _ (lt_of_heap h.x))
    obtain ⟨b1, b2, cs', b3⟩ := own_ty h.n e.symm
    exact ne_ty h.x b3 (by decide) rfl
  have hgg : v2.ownBlock = some g2 := by rw [hv2]; rfl
  refine ⟨hx, ⟨by rw [heap_set (hx.trans h.x)]; rfl, h.xl, ?_, ?_, ?_⟩, ?_⟩
  · exact own_stayR h.p (fun j hj => by
      obtain ⟨a1, a2, cs, a3⟩ := own_ty h.p hj
      rw [Below.heap_setCell _ _ _ _ (show j ≠ X by have := h.xl; omega)]
      refine (hgr.block _ (by simp; omega) (fun e => ?_)).trans (Below.heap_alloc _ _ _ a2)
      obtain ⟨b1, b2, cs', b3⟩ := own_ty h.n e.symm
      exact ne_ty a3 b3 (by decide) rfl)
  · exact own_stayR ((show w2.ownsRow Z 52 1 v2 (iN + 1) (ptrs qs (iN + 1)) by rw [ptrs_succ]; exact hown)) (fun j hj => Below.heap_setCell _ _ _ _ (by have := (hown.lt j hj).1; have := h.xl; simp; omega))
  · exact ⟨vals0, own_stayR hg0 (fun j hj => by
      obtain ⟨a1, a2, cs, a3⟩ := own_ty hg0 hj
      rw [Below.heap_setCell _ _ _ _ (show j ≠ X by have := h.xl; omega)]
      refine (hgr.block _ (by simp; omega) (fun e => ?_)).trans (Below.heap_alloc _ _ _ a2)
      obtain ⟨b1, b2, cs', b3⟩ := own_ty h.n e.symm
      exact ne_ty a3 b3 (by decide) rfl)⟩
  · refine ((((Chg.refl (fun k => k = X ∨ vN.ownBlock = some k) wr).alloc _).grown hgr (fun j hj => .inl (.inr hj))).setCell (p := ⟨X, 2, none⟩) (.inl rfl) _)
theorem LX.pushP (h : LX w wr X b rb Z vP vN vG iP iN iG qs ps) {w2 : World} {v2 : Value} {g2 c2 : Nat} (hv2 : v2 = .slice (some ⟨g2, 0, none⟩) (iP + 1) c2) (hown : w2.ownsRow Z 85 1 v2 (iP + 1) (ptrs ps iP ++ [ptr (ps iP)])) (hgr : (wr.alloc (.cells #[ptr (ps iP)] 85)).grownBy w2 vP.ownBlock) (hZ : Z ≤ wr.heap.size) :
    w2.heap[X]? = wr.heap[X]? ∧ LX w (w2.setCell ⟨X, 1, none⟩ v2) X b rb Z v2 vN vG (iP + 1) iN iG qs ps ∧ Chg (fun k => k = X ∨ vP.ownBlock = some k) wr (w2.setCell ⟨X, 1, none⟩ v2) := by
  obtain ⟨vals0, hg0⟩ := h.g
  have hx : w2.heap[X]? = wr.heap[X]? := by
    refine (hgr.block _ (by have := lt_of_heap h.x; simp; omega) (fun e => ?_)).trans (Below.heap_alloc _ _ _ (lt_of_heap h.x))
    obtain ⟨b1, b2, cs', b3⟩ := own_ty h.p e.symm
    exact ne_ty h.x b3 (by decide) rfl
  have hgg : v2.ownBlock = some g2 := by rw [hv2]; rfl
  refine ⟨hx, ⟨by rw [heap_set (hx.trans h.x)]; rfl, h.xl, ?_, ?_, ?_⟩, ?_⟩
  · exact own_stayR ((show w2.ownsRow Z 85 1 v2 (iP + 1) (ptrs ps (iP + 1)) by rw [ptrs_succ]; exact hown)) (fun j hj => Below.heap_setCell _ _ _ _ (by have := (hown.lt j hj).1; have := h.xl; simp; omega))
  · exact own_stayR h.n (fun j hj => by
      obtain ⟨a1, a2, cs, a3⟩ := own_ty h.n hj
      rw [Below.heap_setCell _ _ _ _ (show j ≠ X by have := h.xl; omega)]
      refine (hgr.block _ (by simp; omega) (fun e => ?_)).trans (Below.heap_alloc _ _ _ a2)
      obtain ⟨b1, b2, cs', b3⟩ := own_ty h.p e.symm
      exact ne_ty a3 b3 (by decide) rfl)
  · exact ⟨vals0, own_stayR hg0 (fun j hj => by
      obtain ⟨a1, a2, cs, a3⟩ := own_ty hg0 hj
      rw [Below.heap_setCell _ _ _ _ (show j ≠ X by have := h.xl; omega)]
      refine (hgr.block _ (by simp; omega) (fun e => ?_)).trans (Below.heap_alloc _ _ _ a2)
      obtain ⟨b1, b2, cs', b3⟩ := own_ty h.p e.symm
      exact ne_ty a3 b3 (by decide) rfl)⟩
  · refine ((((Chg.refl (fun k => k = X ∨ vP.ownBlock = some k) wr).alloc _).grown hgr (fun j hj => .inl (.inr hj))).setCell (p := ⟨X, 1, none⟩) (.inl rfl) _)
theorem LX.pushG (h : LX w wr X b rb Z vP vN vG iP iN iG qs ps) {u : Value} {vals : List Value} (hv : wr.ownsRow Z 68 1 vG iG vals) {w2 : World} {v2 : Value} {g2 c2 : Nat} (hv2 : v2 = .slice (some ⟨g2, 0, none⟩) (iG + 1) c2) (hown : w2.ownsRow Z 68 1 v2 (iG + 1) (vals ++ [u])) (hgr : (wr.alloc (.cells #[u] 68)).grownBy w2 vG.ownBlock) (hZ : Z ≤ wr.heap.size) :
    w2.heap[X]? = wr.heap[X]? ∧ LX w (w2.setCell ⟨X, 4, none⟩ v2) X b rb Z vP vN v2 iP iN (iG + 1) qs ps ∧ Chg (fun k => k = X ∨ vG.ownBlock = some k) wr (w2.setCell ⟨X, 4, none⟩ v2) := by
  obtain ⟨vals0, hg0⟩ := h.g
  have hx : w2.heap[X]? = wr.heap[X]? := by
    refine (hgr.block _ (by have := lt_of_heap h.x; simp; omega) (fun e => ?_)).trans (Below.heap_alloc _ _ _ (lt_of_heap h.x))
    obtain ⟨b1, b2, cs', b3⟩ := own_ty hv e.symm
    exact ne_ty h.x b3 (by decide) rfl
  have hgg : v2.ownBlock = some g2 := by rw [hv2]; rfl
  refine ⟨hx, ⟨by rw [heap_set (hx.trans h.x)]; rfl, h.xl, ?_, ?_, ?_⟩, ?_⟩
  · exact own_stayR h.p (fun j hj => by
      obtain ⟨a1, a2, cs, a3⟩ := own_ty h.p hj
      rw [Below.heap_setCell _ _ _ _ (show j ≠ X by have := h.xl; omega)]
      refine (hgr.block _ (by simp; omega) (fun e => ?_)).trans (Below.heap_alloc _ _ _ a2)
      obtain ⟨b1, b2, cs', b3⟩ := own_ty hv e.symm
      exact ne_ty a3 b3 (by decide) rfl)
  · exact own_stayR h.n (fun j hj => by
      obtain ⟨a1, a2, cs, a3⟩ := own_ty h.n hj
      rw [Below.heap_setCell _ _ _ _ (show j ≠ X by have := h.xl; omega)]
      refine (hgr.block _ (by simp; omega) (fun e => ?_)).trans (Below.heap_alloc _ _ _ a2)
      obtain ⟨b1, b2, cs', b3⟩ := own_ty hv e.symm
      exact ne_ty a3 b3 (by decide) rfl)
  · exact ⟨_, own_stayR (hown) (fun j hj => Below.heap_setCell _ _ _ _ (by have := (hown.lt j hj).1; have := h.xl; simp; omega))⟩
  · refine ((((Chg.refl (fun k => k = X ∨ vG.ownBlock = some k) wr).alloc _).grown hgr (fun j hj => .inl (.inr hj))).setCell (p := ⟨X, 4, none⟩) (.inl rfl) _)
end
end Go.Proofs.YtdjkidgkeekenaaGreat
