/- TopToken: round, which lays arena, nodes and loom. -/
import Derived.Test.YtdjkidgkeekenaaCc
import Derived.Test.YtdjkidgkeekenaaLmH
namespace Go.Proofs.Ytdjkidgkeekenaa
open Go.RowKit Go.Lib Go.MuLone
set_option linter.unusedVariables false
set_option linter.unusedSimpArgs false
theorem info54 : (Try.prog.info? 54).map (fun i => (i.zero, i.size, i.bytes)) = some (some (.pointer none), 1, 8) := by kernel_rfl
theorem info68 : (Try.prog.info? 68).map (fun i => (i.zero, i.size, i.bytes)) = some (some .nilIface, 1, 16) := by kernel_rfl
def okT (t : TypeId) : Prop := t = 36 ∨ t = 54 ∨ t = 68
/-- All but the round's own block and its rows. -/
structure RC (w wr : World) (T : Nat) (v0 v1 : Value) (ls : List (List Int)) (aw : List Int) (bu : Int) (b gc Y : Nat) (s : Ast) (m : Nat) (qs : Nat → Nat) (sv : Nat → Value) : Prop where
  bel : Below w.heap.size w wr
  bx : wr.heap[T]? = some (.cells #[v0, v1, .int .i64 bu] 25 (0, 0))
  ar : AIs wr Y b gc (.slice none 0 0) s
  low : w.heap.size ≤ b ∧ w.heap.size ≤ gc
  nd : ∀ j, j < m → wr.heap[qs j]? = some ((Nd.new ls aw bu j).obj (sv j)) ∧ Snd wr w.heap.size (sv j) (rowL ls j)
  inj : ∀ i j, i < j → j < m → qs i ≠ qs j
  lo : ∀ j, j < m → w.heap.size ≤ qs j
section
variable {w wr wr' : World} {T b gc Y m : Nat} {v0 v1 : Value} {ls : List (List Int)} {aw : List Int} {bu : Int} {s : Ast} {qs : Nat → Nat} {sv : Nat → Value}
theorem RC.far {S : Nat → Prop} (h : RC w wr T v0 v1 ls aw bu b gc Y s m qs sv) (k : Chg S wr wr') (hS : ∀ j, S j → w.heap.size ≤ j ∧ (j < wr.heap.size → ∃ cs t, wr.heap[j]? = some (.cells cs t (0, 0)) ∧ okT t)) : RC w wr' T v0 v1 ls aw bu b gc Y s m qs sv := by
  have no : ∀ {j : Nat} {cs : Array Value} {t : TypeId}, wr.heap[j]? = some (.cells cs t (0, 0)) → ¬ okT t → ¬ S j := fun {j cs t} hj ht e => by
    obtain ⟨cs', t', h', ho⟩ := (hS j e).2 (lt_of_heap hj)
    rw [ty_of h' hj] at ht
    exact ht ho
  have no' : ∀ {j : Nat} {cs : Array Value} {t : TypeId}, wr.heap[j]? = some (.cells cs t (0, 0)) → ¬ okT t → wr'.heap[j]? = wr.heap[j]? := fun hj ht => k.block _ (lt_of_heap hj) (no hj ht)
  refine ⟨k.below h.bel (fun j hj => (hS j hj).1) h.bel.size, (no' h.bx (by unfold okT; decide)).trans h.bx, h.ar.kept k (no h.ar.hb (by unfold okT; decide)) (no h.ar.hc (by unfold okT; decide)) (fun i hi => by cases hi), h.low, fun j hj => ?_, h.inj, h.lo⟩
  obtain ⟨h1, h2⟩ := h.nd j hj
  refine ⟨(no' h1 (by unfold okT; decide)).trans h1, h2.stay fun g hg => ?_⟩
  obtain ⟨cs, ht⟩ := h2.typ hg
  exact no' ht (by unfold okT; decide)
theorem RC.below (h : RC w wr T v0 v1 ls aw bu b gc Y s m qs sv) (hb : Below wr.heap.size wr wr') : RC w wr' T v0 v1 ls aw bu b gc Y s m qs sv :=
  h.far (S := fun _ => False) (Chg.of_below hb) (fun j hj => hj.elim)
theorem RC.more (h : RC w wr T v0 v1 ls aw bu b gc Y s m qs sv) {q : Nat} {v : Value} (hq : wr.heap[q]? = some ((Nd.new ls aw bu m).obj v)) (hs : Snd wr w.heap.size v (rowL ls m)) (hq0 : ∀ j, j < m → qs j ≠ q) (hl : w.heap.size ≤ q) :
    RC w wr T v0 v1 ls aw bu b gc Y s (m + 1) (upd qs m q) (upd sv m v) := by
  refine ⟨h.bel, h.bx, h.ar, h.low, fun j hj => ?_, fun i j hij hj => ?_, fun j hj => ?_⟩
  · by_cases e : j = m
    · subst e; rw [upd_same, upd_same]; exact ⟨hq, hs⟩
    · rw [upd_other _ _ e, upd_other _ _ e]; exact h.nd j (by omega)
  · rw [upd_other _ _ (show i ≠ m by omega)]
    by_cases e : j = m
    · subst e; rw [upd_same]; exact hq0 i hij
    · rw [upd_other _ _ e]; exact h.inj i j hij (by omega)
  · by_cases e : j = m
    · subst e; rw [upd_same]; exact hl
    · rw [upd_other _ _ e]; exact h.lo j (by omega)
theorem RC.poke {s' : Ast} (h : RC w wr T v0 v1 ls aw bu b gc Y s m qs sv) (ha : AIs wr' Y b gc (.slice none 0 0) s') (k : Chg (fun k => k = b ∨ k = gc) wr wr') : RC w wr' T v0 v1 ls aw bu b gc Y s' m qs sv := by
  have no : ∀ {j : Nat} {cs : Array Value} {t : TypeId}, wr.heap[j]? = some (.cells cs t (0, 0)) → t ≠ 85 → t ≠ 41 → wr'.heap[j]? = wr.heap[j]? := fun {j cs t} hj h1 h2 => k.block _ (lt_of_heap hj) (fun e => by
    rcases e with e | e
    · exact ne_ty hj h.ar.hb h1 e
    · exact ne_ty hj h.ar.hc h2 e)
  refine ⟨k.below h.bel (fun j hj => by rcases hj with e | e <;> rw [e]; exact h.low.1; exact h.low.2) h.bel.size, (no h.bx (by decide) (by decide)).trans h.bx, ha, h.low, fun j hj => ?_, h.inj, h.lo⟩
  obtain ⟨h1, h2⟩ := h.nd j hj
  refine ⟨(no h1 (by decide) (by decide)).trans h1, h2.stay fun g hg => ?_⟩
  obtain ⟨cs, ht⟩ := h2.typ hg
  exact no ht (by decide) (by decide)
/-- The round's block and its two rows. -/
structure RX (w wr : World) (X b : Nat) (c0 c1 : Value) (bu : Int) (vN vM : Value) (iN iM : Nat) (qs : Nat → Nat) : Prop where
  x : wr.heap[X]? = some (.cells #[c0, c1, .int .i64 bu, .pointer (some ⟨b, 0, none⟩), .pointer none, vN] 36 (0, 0))
  xl : w.heap.size ≤ X
  n : wr.ownsRow w.heap.size 54 1 vN iN (ptrs qs iN)
  m : wr.ownsRow w.heap.size 68 1 vM iM (mVs qs iM)
variable {X iN iM : Nat} {c0 c1 vN vM : Value}
theorem RX.below (h : RX w wr X b c0 c1 bu vN vM iN iM qs) (hb : Below wr.heap.size wr wr') : RX w wr' X b c0 c1 bu vN vM iN iM qs :=
  ⟨(hb.block _ (lt_of_heap h.x)).trans h.x, h.xl, own_stayR h.n (fun g hg => hb.block _ (h.n.lt g hg).2), own_stayR h.m (fun g hg => hb.block _ (h.m.lt g hg).2)⟩
theorem mVs_congr {f g : Nat → Nat} {i : Nat} (h : ∀ j, j < i → f j = g j) : mVs f i = mVs g i := by
  unfold mVs
  apply List.map_congr_left
  intro j hj
  rw [h j (List.mem_range.1 hj)]
theorem RX.upd (h : RX w wr X b c0 c1 bu vN vM iN iM qs) {m q : Nat} (hN : iN ≤ m) (hM : iM ≤ m) : RX w wr X b c0 c1 bu vN vM iN iM (upd qs m q) :=
  ⟨h.x, h.xl, by rw [ptrs_congr (g := qs) (fun j hj => upd_other _ _ (by omega))]; exact h.n, by rw [mVs_congr (g := qs) (fun j hj => upd_other _ _ (by omega))]; exact h.m⟩
theorem RX.pushN (h : RX w wr X b c0 c1 bu vN vM iN iM qs) {w2 : World} {g2 c2 : Nat} (hown : w2.ownsRow w.heap.size 54 1 (.slice (some ⟨g2, 0, none⟩) (iN + 1) c2) (iN + 1) (ptrs qs iN ++ [ptr (qs iN)])) (hgr : (wr.alloc (.cells #[ptr (qs iN)] 54)).grownBy w2 vN.ownBlock) (hZ : w.heap.size ≤ wr.heap.size) :
    w2.heap[X]? = wr.heap[X]? ∧ RX w (w2.setCell ⟨X, 5, none⟩ (.slice (some ⟨g2, 0, none⟩) (iN + 1) c2)) X b c0 c1 bu (.slice (some ⟨g2, 0, none⟩) (iN + 1) c2) vM (iN + 1) iM qs ∧ Chg (fun k => k = X ∨ vN.ownBlock = some k) wr (w2.setCell ⟨X, 5, none⟩ (.slice (some ⟨g2, 0, none⟩) (iN + 1) c2)) := by
  have hx : w2.heap[X]? = wr.heap[X]? := by
    refine (hgr.block _ (by have := lt_of_heap h.x; simp; omega) (fun e => ?_)).trans (Below.heap_alloc _ _ _ (lt_of_heap h.x))
    obtain ⟨b1, b2, cs', b3⟩ := own_ty h.n e.symm
    exact ne_ty h.x b3 (by decide) rfl
  refine ⟨hx, ⟨by rw [heap_set (hx.trans h.x)]; rfl, h.xl, ?_, ?_⟩, ?_⟩
  · refine own_stayR (show w2.ownsRow w.heap.size 54 1 (.slice (some ⟨g2, 0, none⟩) (iN + 1) c2) (iN + 1) (ptrs qs (iN + 1)) by rw [ptrs_succ]; exact hown) (fun j hj => Below.heap_setCell _ _ _ _ ?_)
    obtain ⟨_, _, cs', b3⟩ := own_ty hown hj
    exact ne_ty b3 (hx.trans h.x) (by decide)
  · exact own_stayR h.m (fun j hj => by
      obtain ⟨a1, a2, cs, a3⟩ := own_ty h.m hj
      rw [Below.heap_setCell _ _ _ _ (show j ≠ X from ne_ty a3 h.x (by decide))]
      refine (hgr.block _ (by simp; omega) (fun e => ?_)).trans (Below.heap_alloc _ _ _ a2)
      obtain ⟨b1, b2, cs', b3⟩ := own_ty h.n e.symm
      exact ne_ty a3 b3 (by decide) rfl)
  · exact ((((Chg.refl (fun k => k = X ∨ vN.ownBlock = some k) wr).alloc _).grown hgr (fun j hj => .inl (.inr hj))).setCell (p := ⟨X, 5, none⟩) (.inl rfl) _)
theorem RX.pushM (h : RX w wr X b c0 c1 bu vN vM iN iM qs) {w2 : World} {g2 c2 : Nat} (hown : w2.ownsRow w.heap.size 68 1 (.slice (some ⟨g2, 0, none⟩) (iM + 1) c2) (iM + 1) (mVs qs iM ++ [mV (qs iM)])) (hgr : (wr.alloc (.cells #[mV (qs iM)] 68)).grownBy w2 vM.ownBlock) :
    RX w w2 X b c0 c1 bu vN (.slice (some ⟨g2, 0, none⟩) (iM + 1) c2) iN (iM + 1) qs ∧ Chg (fun k => vM.ownBlock = some k) wr w2 := by
  have hx : w2.heap[X]? = wr.heap[X]? := by
    refine (hgr.block _ (by have := lt_of_heap h.x; simp; omega) (fun e => ?_)).trans (Below.heap_alloc _ _ _ (lt_of_heap h.x))
    obtain ⟨b1, b2, cs', b3⟩ := own_ty h.m e.symm
    exact ne_ty h.x b3 (by decide) rfl
  refine ⟨⟨hx.trans h.x, h.xl, ?_, by rw [mVs_succ]; exact hown⟩, (((Chg.refl (fun k => vM.ownBlock = some k) wr).alloc _).grown hgr (fun j hj => .inl hj))⟩
  exact own_stayR h.n (fun j hj => by
    obtain ⟨a1, a2, cs, a3⟩ := own_ty h.n hj
    refine (hgr.block _ (by simp; omega) (fun e => ?_)).trans (Below.heap_alloc _ _ _ a2)
    obtain ⟨b1, b2, cs', b3⟩ := own_ty h.m e.symm
    exact ne_ty a3 b3 (by decide) rfl)
end
section
variable {w wr w9 : World} {T b gc Y X lb sb : Nat} {v0 v1 c0 c1 vN vM : Value} {ls : List (List Int)} {aw : List Int} {bu : Int} {s : Ast} {qs rs : Nat → Nat} {sv : Nat → Value}
theorem rd_start (hck : CkA ls aw bu 0) (hbu : bu ≤ 9223372036854775807) (h : RC w wr T v0 v1 ls aw bu b gc Y s ls.length qs sv) (hx : RX w wr X b c0 c1 bu vN vM ls.length ls.length qs) (hp : PLm wr w9 b ls.length lb sb qs rs) (hs : s = { Ast.new (4 + ls.length) true with cells := cl0 ls.length }) :
    LMm w (w9.setCell ⟨X, 4, none⟩ (.pointer (some ⟨lb, 0, none⟩))) X b gc Y w.heap.size ls.length lb sb (.slice none 0 0) s vN qs rs sv (fun _ => false) (fun j => Nd.new ls aw bu j) (fun _ => 0) 0 := by
  obtain ⟨h1, h2, _, _⟩ := hck.len
  have hb := hp.bel
  have hw := h.bel.size
  have hx9 := (hb.block _ (lt_of_heap hx.x)).trans hx.x
  have c : Chg (fun j => j = X) wr (w9.setCell ⟨X, 4, none⟩ (.pointer (some ⟨lb, 0, none⟩))) := (Chg.of_below (S := fun j => j = X) hb).setCell (p := ⟨X, 4, none⟩) rfl _
  have no : ∀ {j : Nat} {cs : Array Value} {t : TypeId}, wr.heap[j]? = some (.cells cs t (0, 0)) → t ≠ 36 → (w9.setCell ⟨X, 4, none⟩ (.pointer (some ⟨lb, 0, none⟩))).heap[j]? = wr.heap[j]? := fun hj ht => c.block _ (lt_of_heap hj) (ne_ty hj hx.x ht)
  have no9 : ∀ {j : Nat} {cs : Array Value} {t : TypeId}, w9.heap[j]? = some (.cells cs t (0, 0)) → t ≠ 36 → (w9.setCell ⟨X, 4, none⟩ (.pointer (some ⟨lb, 0, none⟩))).heap[j]? = w9.heap[j]? := fun hj ht => Below.heap_setCell _ _ _ _ (ne_ty hj hx9 ht)
  refine ⟨c.below h.bel (fun j hj => by rw [hj]; exact hx.xl) hw, ⟨Nat.le_refl _, h.low.1, h.low.2, by have := hp.lo.2; omega⟩, ⟨_, _, _, by rw [heap_set hx9]; rfl⟩, h.ar.kept c (ne_ty h.ar.hb hx.x (by decide)) (ne_ty h.ar.hc hx.x (by decide)) (fun i hi => by cases hi), own_stayR hx.n (fun g hg => ?_), (no9 hp.lm (by decide)).trans hp.lm, ?_, fun j hj => ⟨(no (h.nd j hj).1 (by decide)).trans (h.nd j hj).1, (h.nd j hj).2.stay fun g hg => ?_⟩, fun j hj => (no9 (hp.po j hj).1 (by decide)).trans (hp.po j hj).1, fun i j hij hj => ⟨h.inj i j hij hj, hp.inj i j hij hj⟩, fun j hj => ⟨h.lo j hj, by have := (hp.po j hj).2; omega⟩, by rw [hs]; exact inv_new hck hbu, by rw [hs]; rfl, by rw [hs]; rfl, by rw [hs]; rfl, by rw [hs]; exact Nat.zero_le _, ⟨h1, h2⟩, fun j hj => ⟨Int.le_refl _, by simp⟩⟩
  · obtain ⟨_, _, cs, h3⟩ := own_ty hx.n hg
    exact no h3 (by decide)
  · obtain ⟨cs, hc, hall⟩ := hp.se
    exact ⟨cs, (no9 hc (by decide)).trans hc, hall⟩
  · obtain ⟨cs, ht⟩ := (h.nd j hj).2.typ hg
    exact no ht (by decide)
end
/-- What round makes. -/
def RdP (w : World) (ls : List (List Int)) (aw : List Int) (bu : Int) (e : Ending) (w' : World) : Prop :=
  ∃ (X b gc Y lb sb : Nat) (vN : Value) (qs rs : Nat → Nat) (sv : Nat → Value), e = .returned (.pointer (some ⟨X, 0, none⟩)) ∧
    LMm w w' X b gc Y w.heap.size ls.length lb sb (.slice none 0 0) { Ast.new (4 + ls.length) true with cells := cl0 ls.length } vN qs rs sv (fun _ => false) (fun j => Nd.new ls aw bu j) (fun _ => 0) 0
set_option maxRecDepth 100000 in
set_option maxHeartbeats 4000000 in
theorem round_any (v0 v1 : Value) (b : Int) (ls : List (List Int)) (aw : List Int) (w : World) (hr : RwsI w v0 ls) (ha : RowAt .i64 w v1 aw) (hN : Bnd ls aw) (hck : CkA ls aw b 0) (hbu : b ≤ 9223372036854775807) :
    Calls Try.prog 5 #[.agg #[v0, v1, .int .i64 b]] w fun e w' => RdP w ls aw b e w' := by
  obtain ⟨so, sc, rfl, hsc⟩ := hr.shape
  obtain ⟨bo, bc, rfl⟩ := ha.shape
  obtain ⟨hn1, hn64, _, _⟩ := hck.len
  have HCK := hide hck
  have HBU := hide hbu
  have HC12 := hide (fun W (hb : Below w.heap.size w W) => cells_any _ _ b ls aw W (hr.below hb) (ha.below hb) hN)
  have HC15 := hide (fun W x (hb : Below w.heap.size w W) (hx : x < ls.length) => nodeNew_full _ _ b x ls aw W (hr.below hb) (ha.below hb) hN hck hx)
  have HNEW := hide (fun W => new_any (4 + ls.length) true W (by omega))
  have HN1 := hide hn1; have HN64 := hide hn64
  obtain ⟨X0, hX0⟩ : ∃ X0, X0 = w.alloc (.cells #[.slice so ls.length sc, .slice bo aw.length bc, .int .i64 b] 25) := ⟨_, rfl⟩
  have HB := hide (show Below w.heap.size w X0 by rw [hX0]; exact below_alloc (Below.refl _ _) _)
  have HA := hide (show X0.heap[w.heap.size]? = some (.cells #[.slice so ls.length sc, .slice bo aw.length bc, .int .i64 b] 25 (0, 0)) by rw [hX0]; exact heap_new _ _)
  have a0 := cell_of HA.out (i := 0) rfl; have a1 := cell_of HA.out (i := 1) rfl; have a2 := cell_of HA.out (i := 2) rfl
  clear hr ha hN hsc hck hbu
  rw [hX0] at a0 a1 a2
  go_enter Try.func5, Try.ntmps5
  go_wp2_with fail
  rw [← hX0]
  clear hX0 a0 a1 a2
  refine (HC12.out X0 HB.out).mono ?_
  rintro e w6 ⟨hb6, u, L, r, rfl, hcl, hla⟩
  obtain rfl : r = 0 := hla.1.one HCK.out
  obtain rfl : L = cl0 ls.length := by
    rcases hla.2 with ⟨q, _⟩ | ⟨_, q⟩
    · exact (q rfl).elim
    · exact q
  obtain ⟨g8, hg8, rfl, hL0, hA8⟩ : ∃ g, X0.heap.size ≤ g ∧ u = .slice (some ⟨g, 0, none⟩) (cl0 ls.length).length (cl0 ls.length).length ∧ 0 < (cl0 ls.length).length ∧ ArrU w6 g (cl0 ls.length) := by
    rcases hcl with ⟨_, q⟩ | ⟨g, a1, a2, a3, a4⟩
    · have := cl0_len ls.length; rw [q] at this; simp only [List.length_nil] at this; omega
    · exact ⟨g, a1, a2, a3, a4⟩
  replace HA := hide ((hb6.block _ (lt_of_heap HA.out)).trans HA.out)
  replace HB := hide (below_on HB.out hb6)
  have HA8 := hide hA8
  have HG8 := hide (lt_of_heap hA8)
  have HCL := hide (cl0_len ls.length)
  have HLEQ := hide (rfl : cl0 ls.length = cl0 ls.length)
  generalize hLL : cl0 ls.length = L at HA8 HCL hL0
  have HLE := hide hLL
  rw [HCL.out]
  obtain ⟨nn, hnn⟩ : ∃ nn, nn = 4 + ls.length := ⟨_, rfl⟩
  have HNN := hide hnn
  have hnn68 : nn ≤ 68 := by omega
  rw [← hnn] at HNEW ⊢
  clear hnn hLL hL0 hcl hla hb6 hA8 hg8 HLEQ
  go_wp2_with fail
  refine (HNEW.out w6).mono ?_
  rintro e w7 ⟨rfl, har, hs7, hb7⟩
  have hpn : ∀ w, (binOp .eql 32 (.pointer (some ⟨w6.heap.size + 1, 0, none⟩)) (.pointer none)).run Try.prog w = .ok (.bool false) w := fun w => rfl
  have HRC : Hid (RC w w7 w.heap.size (.slice so ls.length sc) (.slice bo aw.length bc) ls aw b (w6.heap.size + 1) w6.heap.size (w6.heap.size + 2) { Ast.new nn true with cells := pk L 0 } 0 (fun _ => 0) (fun _ => .nilFunc)) := by
    have e : ({ Ast.new nn true with cells := pk L 0 } : Ast) = Ast.new nn true := by rw [pk_zero, HCL.out, ← HNN.out]; rfl
    have h6 := HB.out.size
    refine ⟨below_on HB.out hb7, (hb7.block _ (lt_of_heap HA.out)).trans HA.out, by rw [e]; exact har, ⟨by omega, h6⟩, fun j hj => absurd hj (Nat.not_lt_zero _), fun i j _ hj => absurd hj (Nat.not_lt_zero _), fun j hj => absurd hj (Nat.not_lt_zero _)⟩
  have HA87 : Hid (ArrU w7 g8 L) := (hb7.block _ HG8.out).trans HA8.out
  clear har hs7 hb7 HNEW
  go_wp2_with fail
  go_loopw [7] (fun t wr => ∃ i : Nat, i ≤ nn ∧ t = .int .i64 (i : Int) ∧ Hid (RC w wr w.heap.size (.slice so ls.length sc) (.slice bo aw.length bc) ls aw b (w6.heap.size + 1) w6.heap.size (w6.heap.size + 2) { Ast.new nn true with cells := pk L i } 0 (fun _ => 0) (fun _ => .nilFunc)) ∧ Hid (ArrU wr g8 L)) (fun t _ => nn - (RowKit.intOf t).toNat)
  case atStart => exact ⟨0, Nat.zero_le _, rfl, HRC, HA87⟩
  case round =>
    obtain ⟨i, hin, rfl, HC, HA2⟩ := hrel
    clear HRC HA87
    by_cases hlt : i < nn
    · have hli : (i : Int) < (nn : Int) := by omega
      have x8 : wr.cell? ⟨g8, i, none⟩ = some (.int .u64 (at_ L i)) := HA2.out.cell i (by rw [HCL.out, ← HNN.out]; exact hlt)
      have HP := hide (poke_in _ _ _ _ _ i (at_ L i) wr HC.out.ar (by show i < (pk L i).length; rw [pk_len, HCL.out, ← HNN.out]; exact hlt))
      obtain ⟨x, hx⟩ : ∃ x, x = at_ L i := ⟨_, rfl⟩
      have HXE := hide hx
      rw [← hx] at x8 HP
      clear hx
      go_wp2_with fail
      refine HP.out.mono ?_
      rintro e wa ⟨rfl, ha, hc⟩
      have HCN := hide (HC.out.poke ha hc)
      have HAN := hide (show ArrU wa g8 L from hc.heap HA2.out (fun e => by
        have := HG8.out
        rcases e with e | e <;> omega))
      clear ha hc HP x8
      go_wp2_with fail
      refine ⟨⟨i + 1, hlt, by simp, ?_, HAN⟩, by simp [RowKit.intOf]; omega⟩
      have h1 := HCN.out
      rw [HXE.out] at h1
      rw [← pk_set L i (by rw [HCL.out, ← HNN.out]; exact hlt)]
      exact h1
    · have hli : ¬ (i : Int) < (nn : Int) := by omega
      obtain rfl : i = nn := by omega
      obtain ⟨i5, hi5, hy0, hy1, hy2⟩ := info_parts info54
      obtain ⟨i6, hi6, hz0, hz1, hz2⟩ := info_parts info68
      have t0 : wr.cell? ⟨w.heap.size, 0, none⟩ = some (.slice so ls.length sc) := cell_of HC.out.bx rfl
      have t1 : wr.cell? ⟨w.heap.size, 1, none⟩ = some (.slice bo aw.length bc) := cell_of HC.out.bx rfl
      have t2 : wr.cell? ⟨w.heap.size, 2, none⟩ = some (.int .i64 b) := cell_of HC.out.bx rfl
      obtain ⟨wz, hwz⟩ : ∃ wz, wz = wr.alloc (.cells #[.slice so ls.length sc, .slice bo aw.length bc, .int .i64 b, .pointer (some ⟨w6.heap.size + 1, 0, none⟩), .pointer none, .slice none 0 0] 36) := ⟨_, rfl⟩
      obtain ⟨X, hX⟩ : ∃ X, X = wr.heap.size := ⟨_, rfl⟩
      obtain ⟨ss, hss⟩ : ∃ ss : Ast, ss = { Ast.new i true with cells := pk L i } := ⟨_, rfl⟩
      have HSS := hide hss
      have hZ := HC.out.bel.size
      have HCZ : Hid (RC w wz w.heap.size (.slice so ls.length sc) (.slice bo aw.length bc) ls aw b (w6.heap.size + 1) w6.heap.size (w6.heap.size + 2) ss 0 (fun _ => 0) (fun _ => .nilFunc)) := by
        rw [hwz, hss]; exact HC.out.below (below_alloc (Below.refl _ _) _)
      have HXZ : Hid (RX w wz X (w6.heap.size + 1) (.slice so ls.length sc) (.slice bo aw.length bc) b (.slice none 0 0) (.slice none 0 0) 0 0 (fun _ => 0)) := by
        refine ⟨by rw [hwz, hX]; exact heap_new _ _, by omega, World.ownsRow_nil _ _ _ _, World.ownsRow_nil _ _ _ _⟩
      clear hss hpn HC HA2 hZ
      go_upto_region 10 with fail
      rw [← hwz, ← hX]
      clear hwz hX t0 t1 t2
      go_wp2_with fail
      go_loopw [9, 10] (fun v t wr => ∃ (k : Nat) (vN : Value) (qs : Nat → Nat) (sv : Nat → Value), k ≤ ls.length ∧ t = .int .i64 (k : Int) ∧
        Hid (RC w wr w.heap.size (.slice so ls.length sc) (.slice bo aw.length bc) ls aw b (w6.heap.size + 1) w6.heap.size (w6.heap.size + 2) ss k qs sv) ∧
        Hid (RX w wr X (w6.heap.size + 1) (.slice so ls.length sc) (.slice bo aw.length bc) b vN v k k qs)) (fun _ t _ => ls.length - (RowKit.intOf t).toNat)
      case atStart => exact ⟨0, _, _, _, Nat.zero_le _, rfl, HCZ, HXZ⟩
      case round =>
        obtain ⟨k, vN, qs, sv, hkn, rfl, HC, HX⟩ := hrel
        clear HCZ HXZ
        have t0 : wr.cell? ⟨w.heap.size, 0, none⟩ = some (.slice so ls.length sc) := cell_of HC.out.bx rfl
        have t1 : wr.cell? ⟨w.heap.size, 1, none⟩ = some (.slice bo aw.length bc) := cell_of HC.out.bx rfl
        have t2 : wr.cell? ⟨w.heap.size, 2, none⟩ = some (.int .i64 b) := cell_of HC.out.bx rfl
        have hn64 := HN64.out
        obtain ⟨oM, cM, rfl⟩ := owns_shape HX.out.m
        obtain ⟨oN, cN, rfl⟩ := owns_shape HX.out.n
        by_cases hkl : k < ls.length
        · have hki : (k : Int) < (ls.length : Int) := by omega
          have H15 := hide (HC15.out wr k HC.out.bel hkl)
          go_wp2_with fail
          refine H15.out.mono ?_
          rintro e wa ⟨q, vq, rfl, hnd, hsd, hql, hba⟩
          have HCa := hide ((HC.out.below hba).more hnd (hsd.low HC.out.bel.size) (fun j hj e => by have := lt_of_heap (HC.out.nd j hj).1; omega) (Nat.le_trans HC.out.bel.size hql))
          have HXa := hide ((HX.out.below hba).upd (m := k) (q := q) (Nat.le_refl _) (Nat.le_refl _))
          have hpn1 : ∀ w, (binOp .eql 54 (.pointer (some ⟨q, 0, none⟩)) (.pointer none)).run Try.prog w = .ok (.bool false) w := fun w => rfl
          have hwa := HCa.out.bel.size
          have s5 : wa.cell? ⟨X, 5, none⟩ = some (.slice oN k cN) := cell_of HXa.out.x rfl
          clear t0 t1 t2 hnd hsd hql hba H15 HC HX
          go_upto_region 18 with (first
            | (at_builtin; refine wpList_append_lies _ rfl (.tmp 76) (.tmp 78) 34 rfl w.heap.size 54 i5 (.pointer none) 1 8 Try.underlying34 hi5 hy0 hy1 hy2 rfl (by decide) _ k _ rfl (HXa.out.n.alloc _) ⟨wa.heap.size, 0, none⟩ 1 1 [.pointer (some ⟨q, 0, none⟩)] rfl rfl (arr_at wa _ _) (by simp [Value.oneCell']) (by omega) (by unfold maxLen; omega) (by omega) (by simp; omega) _ rfl ?_; intro gN dN wd hown hgr _ _; obtain ⟨hxs, hlx, hch⟩ := HXa.out.pushN (g2 := gN) (c2 := dN) (by rw [show ptr (upd qs k q k) = .pointer (some ⟨q, 0, none⟩) by rw [upd_same]; rfl]; exact hown) (by rw [show ptr (upd qs k q k) = .pointer (some ⟨q, 0, none⟩) by rw [upd_same]; rfl]; exact hgr) hwa; have HXd := hide hlx; have HCd := hide (HCa.out.far hch (fun j hS => ⟨(by rcases hS with e | e; exact (by rw [e]; exact HXa.out.xl); exact ((HXa.out.n).lt j e).1), fun _ => (by rcases hS with e | e; exact ⟨_, _, (by rw [e]; exact HXa.out.x), .inl rfl⟩; exact (by obtain ⟨_, _, cs, h3⟩ := own_ty HXa.out.n e; exact ⟨cs, _, h3, (by unfold okT; decide)⟩))⟩)); have hxd := hxs.trans HXa.out.x; have d5 := cell_of hxd (i := 5) rfl; have df5 := free_of hxd 5; clear hown hgr hxs hlx hch)
            | fail)
          have hmv : mV (upd qs k q k) = .iface 54 (.pointer (some ⟨q, 0, none⟩)) := by rw [upd_same]; rfl
          have hwe := HCd.out.bel.size
          have HMVE := hide hmv
          clear d5 df5 hxd s5 HCa HXa hmv hwa
          generalize wd.setCell ⟨X, 5, none⟩ (.slice (some ⟨gN, 0, none⟩) (k + 1) dN) = we at HXd HCd hwe ⊢
          go_wp2_with (first
            | (at_builtin; refine wpList_append_lies _ rfl (.tmp 82) (.tmp 85) 53 rfl w.heap.size 68 i6 .nilIface 1 16 Try.underlying53 hi6 hz0 hz1 hz2 rfl (by decide) _ k _ rfl (HXd.out.m.alloc _) ⟨we.heap.size, 0, none⟩ 1 1 [.iface 54 (.pointer (some ⟨q, 0, none⟩))] rfl rfl (arr_at we _ _) (by simp [Value.oneCell']) (by omega) (by unfold maxLen; omega) (by omega) (by simp; omega) _ rfl ?_; intro gM dM wf hown hgr _ _; obtain ⟨hlx, hch⟩ := HXd.out.pushM (g2 := gM) (c2 := dM) (by rw [HMVE.out]; exact hown) (by rw [HMVE.out]; exact hgr); have HXe := hide hlx; have HCe := hide (HCd.out.far hch (fun j hS => ⟨((HXd.out.m).lt j hS).1, fun _ => (by obtain ⟨_, _, cs, h3⟩ := own_ty HXd.out.m hS; exact ⟨cs, _, h3, (by unfold okT; decide)⟩)⟩)); clear hown hgr hlx hch)
            | fail)
          exact ⟨⟨k + 1, _, _, _, hkl, by simp, HCe, HXe⟩, by simp [RowKit.intOf]; omega⟩
        · have hki : ¬ (k : Int) < (ls.length : Int) := by omega
          obtain rfl : k = ls.length := by omega
          have hn1 := HN1.out
          obtain ⟨mg, mc, hm⟩ := row_ptrM HX.out.m (by omega)
          simp only [Value.slice.injEq] at hm
          obtain ⟨rfl, _, hmc⟩ := hm
          have HNL := hide (newL_any (w6.heap.size + 1) ls.length w.heap.size mg cM qs wr ⟨hn1, hn64⟩ HX.out.m)
          clear hmc
          go_wp2_with fail
          refine HNL.out.mono ?_
          rintro e w9 ⟨lb, sb, rs, rfl, h9⟩
          have hpn3 : ∀ w, (binOp .eql 33 (.pointer (some ⟨lb, 0, none⟩)) (.pointer none)).run Try.prog w = .ok (.bool false) w := fun w => rfl
          have hx9 := (h9.bel.block _ (lt_of_heap HX.out.x)).trans HX.out.x
          have x4 := cell_of hx9 (i := 4) rfl
          have f4 := free_of hx9 4
          have H9 := hide h9
          have HX9 := hide hx9
          clear h9 hx9 HNL t0 t1 t2
          go_wp2_with fail
          go_ret
          have hs : ss = { Ast.new (4 + ls.length) true with cells := cl0 ls.length } := by rw [HSS.out, show i = L.length by rw [HCL.out, ← HNN.out], pk_full, ← HLE.out, cl0_len]
          have hl := rd_start HCK.out HBU.out HC.out HX.out H9.out hs
          rw [hs] at hl
          exact ⟨X, _, _, _, lb, sb, _, qs, rs, sv, rfl, hl⟩
end Go.Proofs.Ytdjkidgkeekenaa
