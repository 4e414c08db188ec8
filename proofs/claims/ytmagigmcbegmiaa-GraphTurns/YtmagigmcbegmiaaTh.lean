/- GraphTurns: one call after the other; the walk. -/
import Derived.Test.YtmagigmcbegmiaaTv
import Derived.Test.YtmagigmcbegmiaaSf
import Derived.Test.YtmagigmcbegmiaaTn
import Derived.BigQuiet
import Derived.Deep.Cut
import Derived.Deep.CutRange
namespace Go.Proofs.Ytmagigmcbegmiaa
open Go.RowKit Go.Lib
set_option linter.unusedVariables false
set_option linter.unusedSimpArgs false
theorem LsE.lt {w : World} {base : Nat} {L : List Value} {ls : List (List Ed3)} (h : LsE w base L ls) {u : Value} (hu : u ∈ L) {g : Nat} (hg : u.ownBlock = some g) : g < w.heap.size := by
  obtain ⟨i, hi⟩ := List.mem_iff_getElem?.mp hu
  have hlt : i < ls.length := by rw [h.len]; exact (List.getElem?_eq_some_iff.mp hi).1
  exact ((h.own i u _ hi (List.getElem?_eq_getElem hlt)).lt g hg).2
theorem LsE.snoc {w : World} {base : Nat} {L : List Value} {ls : List (List Ed3)} (h : LsE w base L ls) {v : Value} {l : List Ed3} (ho : w.ownsRow base 50 3 v l.length (eCells l)) (ha : ∀ u ∈ L, ∀ g, u.ownBlock = some g → v.ownBlock ≠ some g) : LsE w base (L ++ [v]) (ls ++ [l]) := by
  have hs : ∀ (i : Nat) (u : Value), (L ++ [v])[i]? = some u → L[i]? = some u ∨ (i = L.length ∧ u = v) := fun i u hu => by
    rw [List.getElem?_append] at hu
    split at hu
    · exact .inl hu
    · rename_i hi
      rcases Nat.eq_zero_or_pos (i - L.length) with q | q
      · rw [q] at hu; simp at hu; exact .inr ⟨by omega, hu.symm⟩
      · rw [List.getElem?_eq_none (by simp; omega)] at hu; cases hu
  refine ⟨by simp [h.len], fun i u m hu hm => ?_, fun i j u u' b hi hj q1 q2 => ?_⟩
  · rcases hs i u hu with q | ⟨rfl, rfl⟩
    · have hlt : i < ls.length := by rw [h.len]; exact (List.getElem?_eq_some_iff.mp q).1
      rw [List.getElem?_append_left hlt] at hm
      exact h.own i u m q hm
    · rw [← h.len, List.getElem?_append_right (Nat.le_refl _)] at hm
      simp at hm
      subst hm
      exact ho
  · rcases hs i u hi with r1 | ⟨rfl, rfl⟩ <;> rcases hs j u' hj with r2 | ⟨rfl, rfl⟩
    · exact h.apart i j u u' b r1 r2 q1 q2
    · exact absurd q2 (ha u (List.mem_of_getElem? r1) b q1)
    · exact absurd q1 (ha u' (List.mem_of_getElem? r2) b q2)
    · rfl
/-- The book and its lists. -/
structure Bk3 (base B : Nat) (w : World) (L1 L2 L3 : List Value) (ls1 ls2 : List (List Int)) (ls3 : List (List Ed3)) : Prop where
  h : BkE base B w L1 L2 L3
  l1 : LsO .i64 3 w base L1 ls1
  l2 : LsO .u64 48 w base L2 ls2
  l3 : LsE w base L3 ls3
/-- Two lists of a graph put behind. -/
theorem ints_more {w : World} {base lo hi c : Nat} {L : List Value} {ls : List (List Int)} {va vb vc : Value} {st tl wt : List Int} (h : LsO .i64 3 w base L ls) (ho : OwB w lo hi va vb vc st tl wt) (hb : base ≤ lo) (hc : c ≤ lo) (hl : ∀ u ∈ L, ∀ g, u.ownBlock = some g → g < c) (hh : c ≤ hi) :
    LsO .i64 3 w base (L ++ [va, vb]) (ls ++ [st, tl]) ∧ ∀ u ∈ L ++ [va, vb], ∀ g, u.ownBlock = some g → g < hi := by
  have s1 := h.snoc (v := va) (l := st) (ownA_base ho.og.s hb) (fun u hu g hg q => by have := hl u hu g hg; have := (ho.og.s.lt g q).1; omega)
  have s2 := s1.snoc (v := vb) (l := tl) (ownA_base ho.og.t hb) (fun u hu g hg q => by
    rcases List.mem_append.mp hu with hu | hu
    · have := hl u hu g hg; have := (ho.og.t.lt g q).1; omega
    · simp at hu; subst hu; exact ho.og.ne g hg q)
  refine ⟨by simpa using s2, fun u hu g hg => ?_⟩
  simp only [List.mem_append, List.mem_cons, List.not_mem_nil, or_false] at hu
  rcases hu with hu | rfl | rfl
  · have := hl u hu g hg; omega
  · exact ho.l1 g hg
  · exact ho.l2 g hg
/-- The book behind k calls of turns; all below it is as it was. -/
structure TB (B : Nat) (X0 y : World) (k : Nat) : Prop where
  ex : ∃ L1 L2 L3 ls1 ls2 ls3, Bk3 B B y L1 L2 L3 ls1 ls2 ls3 ∧ L1.length = 6 * k ∧ L2.length = 3 * k ∧ L3.length = k ∧ (∀ l ∈ ls1, l.length ≤ 1099511627776) ∧ (∀ l ∈ ls2, l.length ≤ 1099511627776) ∧ (∀ l ∈ ls3, l.length ≤ 1099511627776)
  bel : Below B X0 y
theorem TB.start (x : World) : TB x.heap.size x (x.alloc (.cells #[.slice none 0 0, .slice none 0 0, .slice none 0 0] 56)) 0 :=
  ⟨⟨[], [], [], [], [], [], ⟨⟨⟨_, _, _, heap_new _ _, World.ownsRow_nil _ _ _ _, World.ownsRow_nil _ _ _ _, World.ownsRow_nil _ _ _ _⟩, Nat.le_refl _⟩, ⟨rfl, fun i v l h => (by simp at h), fun i j u v b h => (by simp at h)⟩, ⟨rfl, fun i v l h => (by simp at h), fun i j u v b h => (by simp at h)⟩, ⟨rfl, fun i v l h => (by simp at h), fun i j u v b h => (by simp at h)⟩⟩, rfl, rfl, rfl, by simp, by simp, by simp⟩, below_alloc (Below.refl _ _) _⟩
theorem Bk3.on {base B : Nat} {y y' : World} {L1 L2 L3 : List Value} {ls1 ls2 : List (List Int)} {ls3 : List (List Ed3)} (hk : Bk3 base B y L1 L2 L3 ls1 ls2 ls3) (hb : Below y.heap.size y y') : Bk3 base B y' L1 L2 L3 ls1 ls2 ls3 :=
  ⟨hk.h.below hb, hk.l1.stay (fun b cur hc => hb.block b (lt_of_heap hc)), hk.l2.stay (fun b cur hc => hb.block b (lt_of_heap hc)), hk.l3.stay (fun b cur hc => hb.block b (lt_of_heap hc))⟩
theorem TB.on {B k : Nat} {X0 y y' : World} (h : TB B X0 y k) (hb : Below y.heap.size y y') : TB B X0 y' k := by
  obtain ⟨L1, L2, L3, ls1, ls2, ls3, hk, r⟩ := h.ex
  exact ⟨⟨L1, L2, L3, ls1, ls2, ls3, hk.on hb, r⟩, h.bel.trans (hb.mono (by have := hk.h.lt; omega))⟩
theorem TB.step {B k : Nat} {X0 y : World} {N : Int} {va vb vc va' vb' vc' : Value} {st tl wt : List Int} (h : TB B X0 y k) (hk : k ≤ 100) (hg : GIs y N va vb vc st tl wt) (hg' : GIs y N va' vb' vc' st tl wt) (hst : st.length ≤ 17592186044416) (hto : tl.length ≤ 17592186044416) (hwt : wt.length ≤ 17592186044416) (hw : ∀ e, 0 ≤ at_ wt e) :
    Calls Try.prog 41 #[.pointer (some ⟨B, 0, none⟩), gAgg N va vb vc, gAgg N va' vb' vc'] y fun e y' => e = .returned (.bool true) ∧ TB B X0 y' (k + 1) := by
  obtain ⟨L1, L2, L3, ls1, ls2, ls3, hb, e1, e2, e3, n1, n2, n3⟩ := h.ex
  refine (turns_any B B N va vb vc va' vb' vc' st tl wt L1 L2 L3 y hb.h hg hg' hst hto hwt hw (by omega) (by omega) (by omega)).mono ?_
  rintro e w' ⟨rfl, hd, xv, a1, b1, c1, a2, b2, c2, a3, b3, c3, l, p1, q1, r1, p2, q2, r2, p3, q3, r3, hbk, htd⟩
  obtain ⟨h1, h2, h3, o1, o2, o3, i1, i2⟩ := htd.og
  have hlt := hb.h.lt
  have k1 := hb.l1.stay (w' := w') (fun b cur hc => hd.keep b cur _ hc (by decide) (by decide) (by decide) (by decide))
  have k2 := hb.l2.stay (w' := w') (fun b cur hc => hd.keep b cur _ hc (by decide) (by decide) (by decide) (by decide))
  have k3 := hb.l3.stay (w' := w') (fun b cur hc => hd.keep b cur _ hc (by decide) (by decide) (by decide) (by decide))
  obtain ⟨m1, j1⟩ := ints_more (c := y.heap.size) k1 o1 (by omega) (Nat.le_refl _) (fun u hu g hg => hb.l1.lt hu hg) i1
  obtain ⟨m2, j2⟩ := ints_more (c := h1) m1 o2 (by omega) (Nat.le_refl _) j1 i2
  have m3 : LsO .i64 3 w' B (L1 ++ [a1, b1] ++ [a2, b2] ++ [a3, b3]) (ls1 ++ [p1, q1] ++ [p2, q2] ++ [p3, q3]) := by
    have o3' : OwB w' h2 (max h2 h3) a3 b3 c3 p3 q3 r3 := ⟨o3.og, fun g hg => by have := o3.l1 g hg; omega, fun g hg => by have := o3.l2 g hg; omega, fun g hg => by have := o3.l3 g hg; omega⟩
    exact (ints_more (c := h2) m2 o3' (by omega) (Nat.le_refl _) j2 (by omega)).1
  have u1 := k2.snoc (v := c1) (l := r1) (ownA_base o1.og.u (by omega)) (fun u hu g hg q => by have := hb.l2.lt hu hg; have := (o1.og.u.lt g q).1; omega)
  have z1 : ∀ g, c1.ownBlock = some g → c2.ownBlock ≠ some g := fun g hg q => by have := o1.l3 g hg; have := (o2.og.u.lt g q).1; omega
  have z2 : ∀ g, c3.ownBlock = some g → c1.ownBlock ≠ some g ∧ c2.ownBlock ≠ some g := fun g hg => ⟨fun q => by have := o1.l3 g q; have := (o3.og.u.lt g hg).1; omega, fun q => by have := o2.l3 g q; have := (o3.og.u.lt g hg).1; omega⟩
  refine ⟨rfl, ⟨_, _, _, ls1 ++ [p1, q1] ++ [p2, q2] ++ [p3, q3], ls2 ++ [r1] ++ [r2] ++ [r3], ls3 ++ [l], ⟨hbk, m3, ?_, ?_⟩, by simp; omega, by simp; omega, by simp; omega, fun m hm => ?_, fun m hm => ?_, fun m hm => ?_⟩, h.bel.trans hd.low_below⟩
  · have u2 := u1.snoc (v := c2) (l := r2) (ownA_base o2.og.u (by omega)) (fun u hu g hg q => by
      rcases List.mem_append.mp hu with hu | hu
      · have := hb.l2.lt hu hg; have := (o2.og.u.lt g q).1; omega
      · simp at hu; subst hu; exact z1 g hg q)
    exact u2.snoc (v := c3) (l := r3) (ownA_base o3.og.u (by omega)) (fun u hu g hg q => by
      rcases List.mem_append.mp hu with hu | hu
      · rcases List.mem_append.mp hu with hu | hu
        · have := hb.l2.lt hu hg; have := (o3.og.u.lt g q).1; omega
        · simp at hu; subst hu; exact (z2 g q).1 hg
      · simp at hu; subst hu; exact (z2 g q).2 hg)
  · exact k3.snoc (ownA_base htd.oe (by omega)) (fun u hu g hg q => by have := hb.l3.lt hu hg; have := (htd.oe.lt g q).1; omega)
  · simp only [List.mem_append, List.mem_cons, List.not_mem_nil, or_false] at hm
    rcases hm with ((hm | rfl | rfl) | rfl | rfl) | rfl | rfl
    · exact n1 m hm
    · exact o1.og.len.1
    · exact o1.og.len.2.1
    · exact o2.og.len.1
    · exact o2.og.len.2.1
    · exact o3.og.len.1
    · exact o3.og.len.2.1
  · simp only [List.mem_append, List.mem_cons, List.not_mem_nil, or_false] at hm
    rcases hm with ((hm | rfl) | rfl) | rfl
    · exact n2 m hm
    · exact o1.og.len.2.2
    · exact o2.og.len.2.2
    · exact o3.og.len.2.2
  · simp only [List.mem_append, List.mem_cons, List.not_mem_nil, or_false] at hm
    rcases hm with hm | rfl
    · exact n3 m hm
    · exact htd.le
theorem nsE_all {ls : List (List Ed3)} {K : Nat} (h : ∀ l ∈ ls, l.length ≤ K) (p : Nat) : nsE ls p ≤ K := by
  unfold nsE
  cases q : ls[p]? with
  | none => simp
  | some l => simpa using h l (List.mem_of_getElem? q)
/-- The book behind apart. -/
structure TBT (B : Nat) (X0 y : World) (k : Nat) : Prop where
  ex : ∃ L1 L2 L3, BkE B B y L1 L2 L3 ∧ L1.length = 6 * k ∧ L2.length = 3 * k ∧ L3.length = k
  bel : Below B X0 y
theorem Bk3.apart {base B : Nat} {w w' : World} {L1 L2 L3 : List Value} {ls1 ls2 : List (List Int)} {ls3 : List (List Ed3)} (h : Bk3 base B w L1 L2 L3 ls1 ls2 ls3) (hf : Ft (L1 ++ L2 ++ L3) w w') : BkE base B w' L1 L2 L3 ∧ Below base w w' := by
  have hne : ∀ (b : Nat) (cur : Array Value) (t : TypeId), w.heap[b]? = some (.cells cur t (0, 0)) → t ≠ 3 → t ≠ 48 → t ≠ 50 → w'.heap[b]? = w.heap[b]? := fun b cur t hc h3 h48 h50 => by
    refine hf.block b (lt_of_heap hc) (fun u hu q => ?_)
    rcases List.mem_append.mp hu with hu | hu
    · rcases List.mem_append.mp hu with hu | hu <;> obtain ⟨i, hi⟩ := List.mem_iff_getElem?.mp hu
      · have hlt : i < ls1.length := by rw [h.l1.len]; exact (List.getElem?_eq_some_iff.mp hi).1
        obtain ⟨c, hc'⟩ := ownA_type (h.l1.own i u _ hi (List.getElem?_eq_getElem hlt)) q
        rw [hc] at hc'; cases hc'; exact h3 rfl
      · have hlt : i < ls2.length := by rw [h.l2.len]; exact (List.getElem?_eq_some_iff.mp hi).1
        obtain ⟨c, hc'⟩ := ownA_type (h.l2.own i u _ hi (List.getElem?_eq_getElem hlt)) q
        rw [hc] at hc'; cases hc'; exact h48 rfl
    · obtain ⟨i, hi⟩ := List.mem_iff_getElem?.mp hu
      have hlt : i < ls3.length := by rw [h.l3.len]; exact (List.getElem?_eq_some_iff.mp hi).1
      obtain ⟨c, hc'⟩ := ownA_type (h.l3.own i u _ hi (List.getElem?_eq_getElem hlt)) q
      rw [hc] at hc'; cases hc'; exact h50 rfl
  obtain ⟨v1, v2, v3, h1, h2, h3, h4⟩ := h.h.ex
  refine ⟨⟨⟨v1, v2, v3, (hne _ _ _ h1 (by decide) (by decide) (by decide)).trans h1, ownA_stay h2 (fun g hg => let ⟨c, hc⟩ := ownA_type h2 hg; hne g c _ hc (by decide) (by decide) (by decide)), ownA_stay h3 (fun g hg => let ⟨c, hc⟩ := ownA_type h3 hg; hne g c _ hc (by decide) (by decide) (by decide)), ownA_stay h4 (fun g hg => let ⟨c, hc⟩ := ownA_type h4 hg; hne g c _ hc (by decide) (by decide) (by decide))⟩, h.h.le⟩, ⟨hf.os, hf.tape, hf.output, hf.size, fun b hb => ?_⟩⟩
  have hlt := h.h.lt
  have hle := h.h.le
  refine hf.block b (by omega) (fun u hu q => ?_)
  rcases List.mem_append.mp hu with hu | hu
  · rcases List.mem_append.mp hu with hu | hu <;> obtain ⟨i, hi⟩ := List.mem_iff_getElem?.mp hu
    · have hlt : i < ls1.length := by rw [h.l1.len]; exact (List.getElem?_eq_some_iff.mp hi).1
      have := ((h.l1.own i u _ hi (List.getElem?_eq_getElem hlt)).lt b q).1; omega
    · have hlt : i < ls2.length := by rw [h.l2.len]; exact (List.getElem?_eq_some_iff.mp hi).1
      have := ((h.l2.own i u _ hi (List.getElem?_eq_getElem hlt)).lt b q).1; omega
  · obtain ⟨i, hi⟩ := List.mem_iff_getElem?.mp hu
    have hlt : i < ls3.length := by rw [h.l3.len]; exact (List.getElem?_eq_some_iff.mp hi).1
    have := ((h.l3.own i u _ hi (List.getElem?_eq_getElem hlt)).lt b q).1; omega
theorem TB.apart {B k : Nat} {X0 y : World} (h : TB B X0 y k) (hk : k ≤ 100) : Calls Try.prog 22 #[.pointer (some ⟨B, 0, none⟩)] y fun e y' => e = .returned (.bool true) ∧ TBT B X0 y' k := by
  obtain ⟨L1, L2, L3, ls1, ls2, ls3, hb, e1, e2, e3, n1, n2, n3⟩ := h.ex
  refine (apartE_any B B L1 L2 L3 ls1 ls2 ls3 y hb.h hb.l1 hb.l2 hb.l3 (by omega) (by omega) (by omega) (nsL_all n1) (nsL_all n2) (nsE_all n3)).mono ?_
  rintro e w' ⟨rfl, hf⟩
  obtain ⟨q1, q2⟩ := hb.apart hf
  exact ⟨rfl, ⟨L1, L2, L3, q1, e1, e2, e3⟩, h.bel.trans q2⟩
theorem TBT.on {B k : Nat} {X0 y y' : World} (h : TBT B X0 y k) (hb : Below y.heap.size y y') : TBT B X0 y' k := by
  obtain ⟨L1, L2, L3, hk, r⟩ := h.ex
  exact ⟨⟨L1, L2, L3, hk.below hb, r⟩, h.bel.trans (hb.mono (by have := hk.lt; omega))⟩
/-- What only turns blocks below B leaves the book as it is. -/
theorem BkE.high {B : Nat} {w w' : World} {L1 L2 L3 : List Value} (h : BkE B B w L1 L2 L3) (hc : ∀ k, B ≤ k → k < w.heap.size → w'.heap[k]? = w.heap[k]?) : BkE B B w' L1 L2 L3 := by
  obtain ⟨v1, v2, v3, h1, h2, h3, h4⟩ := h.ex
  exact ⟨⟨v1, v2, v3, (hc _ (Nat.le_refl _) (lt_of_heap h1)).trans h1, ownA_stay h2 (fun g hg => hc g (h2.lt g hg).1 (h2.lt g hg).2), ownA_stay h3 (fun g hg => hc g (h3.lt g hg).1 (h3.lt g hg).2), ownA_stay h4 (fun g hg => hc g (h4.lt g hg).1 (h4.lt g hg).2)⟩, h.le⟩
/-- The other graph, as it was answered. -/
def TWE (y : World) (v : Value) : Prop := ∃ G1 G2 G3, v = .agg #[.int .i64 2, .slice (some ⟨G1, 0, none⟩) 3 3, .slice (some ⟨G2, 0, none⟩) 2 2, .slice (some ⟨G3, 0, none⟩) 2 2] ∧ GIs y 2 (.slice (some ⟨G1, 0, none⟩) 3 3) (.slice (some ⟨G2, 0, none⟩) 2 2) (.slice (some ⟨G3, 0, none⟩) 2 2) [0, 2, 2] [1, 0] [3, 4]
theorem TWE.below {y y' : World} {v : Value} (h : TWE y v) (hb : Below y.heap.size y y') : TWE y' v := by
  obtain ⟨G1, G2, G3, e, hg⟩ := h
  exact ⟨G1, G2, G3, e, hg.below hb⟩
theorem two_nnE : ∀ e, 0 ≤ at_ [3, 4] e := fun e => match e with
  | 0 => by decide
  | 1 => by decide
  | e + 2 => by simp [at_]
theorem two_stepE {B k : Nat} {X0 y : World} (h : TB B X0 y k) : Calls Try.prog 39 #[] y fun e y' => ∃ v, e = .returned v ∧ TB B X0 y' k ∧ TWE y' v ∧ Below y.heap.size y y' := by
  refine (two_any y).mono ?_
  rintro e y' ⟨G1, G2, G3, rfl, t1, t2, t3, _, _, _, _, hb⟩
  exact ⟨_, rfl, h.on hb, ⟨G1, G2, G3, rfl, t1.row rfl (by omega), t2.row rfl (by omega), t3.row rfl (by omega)⟩, hb⟩
theorem three_stepE {B k : Nat} {X0 y : World} {va vb : Value} (h : TB B X0 y k) (hk : k ≤ 100) (ha : TWE y va) (hb : TWE y vb) :
    Calls Try.prog 41 #[.pointer (some ⟨B, 0, none⟩), va, vb] y fun e y' => e = .returned (.bool true) ∧ TB B X0 y' (k + 1) := by
  obtain ⟨G1, G2, G3, rfl, hg⟩ := ha
  obtain ⟨K1, K2, K3, rfl, hg'⟩ := hb
  exact h.step hk hg hg' (by decide) (by decide) (by decide) two_nnE
/-- Blocks that are no rows of lists and no book stay. -/
def KeepE (w w' : World) : Prop := ∀ (b : Nat) (cur : Array Value) (t : TypeId), w.heap[b]? = some (.cells cur t (0, 0)) → t ≠ 22 → t ≠ 23 → t ≠ 45 → t ≠ 56 → w'.heap[b]? = w.heap[b]?
set_option maxRecDepth 100000 in
set_option maxHeartbeats 16000000 in
theorem turns_law (N : Int) (va vb vc : Value) (st tl wt : List Int) (w : World) (hg : GIs w N va vb vc st tl wt) (hN : N ≤ 9223372036854775807) (hst : st.length * 8 ≤ 140737488351232) (hto : tl.length * 8 ≤ 140737488351232) (hwt : wt.length * 8 ≤ 140737488351232) (hw : ∀ e, 0 ≤ at_ wt e) :
    Calls Try.prog 12 #[gAgg N va vb vc] w fun e w' => e = .returned (.bool true) ∧ Below w.heap.size w w' := by
  obtain ⟨ao, ca, rfl⟩ := hg.s.shape
  obtain ⟨bo, cb, rfl⟩ := hg.t.shape
  obtain ⟨co, cc, rfl⟩ := hg.u.shape
  have HG := hide hg; have HWN := hide hw
  obtain ⟨c0, c1, c2, c3, hb1, hs1⟩ := boxed w (.int .i64 N) (.slice ao st.length ca) (.slice bo tl.length cb) (.slice co wt.length cc)
  have HA1 := hide (heap_new w (.cells #[.int .i64 N, .slice ao st.length ca, .slice bo tl.length cb, .slice co wt.length cc] 25))
  have HRM := hide (room_anyX N _ _ _ st tl wt _ (HG.out.below hb1) hst hto hwt)
  have HG1 := hide (HG.out.below hb1)
  unfold gAgg at HRM ⊢
  have HB1 := hide hb1
  clear hb1 hg hw
  go_enter Try.func12, Try.ntmps12
  go_wp2_with fail
  generalize (w.alloc (.cells #[.int .i64 N, .slice ao st.length ca, .slice bo tl.length cb, .slice co wt.length cc] 25)) = w1 at c0 c1 c2 c3 hs1 HB1 HRM HG1 HA1 ⊢
  refine HRM.out.mono ?_
  rintro e X0 ⟨R, rfl, hR, hroom, hb2⟩
  have HAX := hide ((hb2.block _ (lt_of_heap HA1.out)).trans HA1.out)
  have HG3 := hide (HG1.out.below hb2)
  have HB3 := hide (below_on HB1.out hb2)
  have HRX := hide hroom
  have hs3 : w1.heap.size ≤ X0.heap.size := hb2.size
  clear hroom hb2 HB1 HG1 HRM c0 c1 c2 c3 HA1 hR
  obtain ⟨xo, xa, yo, yb, zo, zc, h1, f1, h2, f2, h3, f3, hh, hg, r1, r2, r3, hx12, kHR, kRS, kS1, kS2, kS3, kS4⟩ := HRX.out
  have q1 := row_marks r1 rfl; have q2 := row_marks r2 rfl; have q3 := row_marks r3 rfl
  have HGI : Hid (GIs X0 N (.slice (some ⟨h1, 0, none⟩) st.length f1) (.slice (some ⟨h2, 0, none⟩) tl.length f2) (.slice (some ⟨h3, 0, none⟩) wt.length f3) st tl wt) := ⟨q1.front, q2.front, q3.front⟩
  have HCE : Hid (∀ x, Below X0.heap.size X0 x → (fun x => x.cell? ⟨w.heap.size, 0, none⟩ = some (.int .i64 N) ∧ x.cell? ⟨w.heap.size, 1, none⟩ = some (.slice ao st.length ca) ∧ x.cell? ⟨w.heap.size, 2, none⟩ = some (.slice bo tl.length cb) ∧ x.cell? ⟨w.heap.size, 3, none⟩ = some (.slice co wt.length cc) ∧ x.cell? ⟨R, 7, none⟩ = some (.int .i64 N) ∧ x.cell? ⟨R, 8, none⟩ = some (.slice (some ⟨h1, 0, none⟩) st.length f1) ∧ x.cell? ⟨R, 9, none⟩ = some (.slice (some ⟨h2, 0, none⟩) tl.length f2) ∧ x.cell? ⟨R, 10, none⟩ = some (.slice (some ⟨h3, 0, none⟩) wt.length f3)) x) := fun x hx => by
    have ha := (hx.block _ (lt_of_heap HAX.out)).trans HAX.out
    have hb := (hx.block _ (lt_of_heap hh)).trans hh
    exact ⟨cell_of ha rfl, cell_of ha rfl, cell_of ha rfl, cell_of ha rfl, cell_of hb rfl, cell_of hb rfl, cell_of hb rfl, cell_of hb rfl⟩
  have HSTEP : Hid (∀ y k, TB X0.heap.size X0 y k → k ≤ 100 → Calls Try.prog 41 #[.pointer (some ⟨X0.heap.size, 0, none⟩), .agg #[.int .i64 N, .slice (some ⟨h1, 0, none⟩) st.length f1, .slice (some ⟨h2, 0, none⟩) tl.length f2, .slice (some ⟨h3, 0, none⟩) wt.length f3], .agg #[.int .i64 N, .slice ao st.length ca, .slice bo tl.length cb, .slice co wt.length cc]] y fun e y' => e = .returned (.bool true) ∧ TB X0.heap.size X0 y' (k + 1)) := fun y k hy hk =>
    hy.step hk (HGI.out.below hy.bel) (HG3.out.below hy.bel) (by omega) (by omega) (by omega) HWN.out
  have HTWO : Hid (∀ y, TB X0.heap.size X0 y 2 → Calls Try.prog 39 #[] y fun e y' => ∃ v, e = .returned v ∧ TB X0.heap.size X0 y' 2 ∧ TWE y' v ∧ Below y.heap.size y y') := fun y h => two_stepE h
  have HC58 : Hid (∀ y va vb, TB X0.heap.size X0 y 2 → TWE y va → TWE y vb → Calls Try.prog 41 #[.pointer (some ⟨X0.heap.size, 0, none⟩), va, vb] y fun e y' => e = .returned (.bool true) ∧ TB X0.heap.size X0 y' 3) := fun y va vb h ha hb => three_stepE h (by decide) ha hb
  have HKP : Hid (∀ y, Below X0.heap.size X0 y → Calls Try.prog 17 #[.pointer (some ⟨R, 0, none⟩)] y fun e w' => e = .returned (.bool true) ∧ Below y.heap.size y w') := fun y hy => kept_any R N st tl wt y (HRX.out.is.below hy) (by omega) (by omega) (by omega)
  have HRK : Hid (w1.heap.size ≤ R ∧ R < X0.heap.size) := ⟨kHR, kRS⟩
  clear hh hg r1 r2 r3 q1 q2 q3 kHR kRS kS1 kS2 kS3 kS4 hx12 HAX
  have HS := hide ((TB.start X0).on (below_drew (Below.refl _ _)))
  have HM39 : Hid True := trivial
  go_wp2_with fail
  go_cut [53] from 9 to 53 (fun t wx => t = .bool false ∧ TBT X0.heap.size X0 wx 4)
  case first =>
    go_region_held3 (fun x => x.cell? ⟨w.heap.size, 0, none⟩ = some (.int .i64 N) ∧ x.cell? ⟨w.heap.size, 1, none⟩ = some (.slice ao st.length ca) ∧ x.cell? ⟨w.heap.size, 2, none⟩ = some (.slice bo tl.length cb) ∧ x.cell? ⟨w.heap.size, 3, none⟩ = some (.slice co wt.length cc) ∧ x.cell? ⟨R, 7, none⟩ = some (.int .i64 N) ∧ x.cell? ⟨R, 8, none⟩ = some (.slice (some ⟨h1, 0, none⟩) st.length f1) ∧ x.cell? ⟨R, 9, none⟩ = some (.slice (some ⟨h2, 0, none⟩) tl.length f2) ∧ x.cell? ⟨R, 10, none⟩ = some (.slice (some ⟨h3, 0, none⟩) wt.length f3)) (first | with_reducible exact HCE.out _ HS.out.bel | with_reducible exact HCE.out _ HT5.out.bel)
      (first
      | (go_at_call 41; (with_reducible show Calls _ 41 #[_, .agg #[_, .slice (some ⟨h1, 0, none⟩) _ _, _, _], _] _ _); refine (HSTEP.out _ _ HS.out (by decide)).mono ?_; clear HS; rintro e Y ⟨rfl, hs⟩; have HS := hide hs; clear hs)
      | (go_at_call 41; refine (HC58.out _ _ _ HS.out HTa.out HTb.out).mono ?_; clear HS HTa HTb; rintro e Y ⟨rfl, hs⟩; have HS := hide hs; clear hs)
      | (go_at_call 39; clear HM39; refine (HTWO.out _ HS.out).mono ?_; clear HS; rintro e Y ⟨va1, rfl, hs, ht, hb⟩; have HS := hide hs; have HTa := hide ht; clear hs ht hb)
      | (go_at_call 39; refine (HTWO.out _ HS.out).mono ?_; clear HS; rintro e Y ⟨vb1, rfl, hs, ht, hb⟩; have HS := hide hs; have HTb := hide ht; have HTn := hide (HTa.out.below hb); clear hs ht hb HTa; have HTa := HTn; clear HTn)
      | (go_at_call 22; refine (HS.out.apart (by decide)).mono ?_; clear HS; rintro e Y ⟨rfl, hs⟩; have HT5 := hide hs; clear hs)
      | (go_at_call 17; refine (HKP.out _ HT5.out.bel).mono ?_; rintro e Y ⟨rfl, hb⟩; have HTn := hide (HT5.out.on hb); clear HT5 hb; have HT5 := HTn; clear HTn))
    all_goals
      go_wp2_with fail
      go_meet
      case rel => exact ⟨rfl, HT5.out⟩
  case rest =>
    obtain ⟨rfl, ht⟩ := hcut
    have HT := hide ht
    have HSH := hide (shift_any w1.heap.size X0.heap.size R N st tl wt wc (HRX.out.below ht.bel) hN hst hto hwt HWN.out)
    clear ht HS HSTEP HTWO HC58 HKP HGI HCE HM39
    go_wp2_with fail
    refine HSH.out.mono ?_
    clear HSH
    rintro e V ⟨rfl, st', tl', wt', hl1, hl2, hl3, hnn, hrt, hch⟩
    have hrk := HRK.out
    have hws : X0.heap.size ≤ wc.heap.size := HT.out.bel.size
    have HVB : Hid (Below w.heap.size w V) := Chg.below (below_on HB3.out HT.out.bel) hch (fun i hi => by have := hi.1; omega) (by omega)
    have HVS : Hid (X0.heap.size ≤ wc.heap.size ∧ wc.heap.size ≤ V.heap.size) := ⟨hws, hch.size⟩
    obtain ⟨L1, L2, L3, hbk, n1, n2, n3⟩ := HT.out.ex
    have hbk1 := hbk.high (w' := V.drew) (fun k h1 h2 => hch.block k h2 (fun h => by have := h.2; omega))
    have HRT := hide hrt
    obtain ⟨po, pa, qo, qa, ro, ra, k1, d1, k2, d2, k3, d3, hh, hg, r1, r2, r3⟩ := hrt.1
    have HL41 := hide (turns_any X0.heap.size X0.heap.size N _ _ _ _ _ _ st' tl' wt' L1 L2 L3 V.drew hbk1 ((⟨r1.front, r2.front, r3.front⟩ : GIs V N _ _ _ st' tl' wt').below (Below.refl _ _).drew) (hg.below (Below.refl _ _).drew) (by omega) (by omega) (by omega) hnn (by omega) (by omega) (by omega))
    unfold gAgg at HL41
    have HC6 : Hid (∀ x, Below X0.heap.size V x → (fun x => x.cell? ⟨R, 0, none⟩ = some (.int .i64 N) ∧ x.cell? ⟨R, 1, none⟩ = some (.slice po st'.length pa) ∧ x.cell? ⟨R, 2, none⟩ = some (.slice qo tl'.length qa) ∧ x.cell? ⟨R, 3, none⟩ = some (.slice ro wt'.length ra) ∧ x.cell? ⟨R, 7, none⟩ = some (.int .i64 N) ∧ x.cell? ⟨R, 8, none⟩ = some (.slice (some ⟨k1, 0, none⟩) st'.length d1) ∧ x.cell? ⟨R, 9, none⟩ = some (.slice (some ⟨k2, 0, none⟩) tl'.length d2) ∧ x.cell? ⟨R, 10, none⟩ = some (.slice (some ⟨k3, 0, none⟩) wt'.length d3)) x) := fun x hx => by
      have hb := (hx.block R HRK.out.2).trans hh
      exact ⟨cell_of hb rfl, cell_of hb rfl, cell_of hb rfl, cell_of hb rfl, cell_of hb rfl, cell_of hb rfl, cell_of hb rfl, cell_of hb rfl⟩
    have HKP : Hid (∀ y, KeepE V y → Below X0.heap.size V y → Calls Try.prog 17 #[.pointer (some ⟨R, 0, none⟩)] y fun e w' => e = .returned (.bool true) ∧ Below y.heap.size y w') := fun y hk hy => kept_any R N st' tl' wt' y (HRT.out.2 y hy (fun b cur t _ h a1 a2 a3 a4 => hk b cur t h a1 a2 a3 a4)) (by omega) (by omega) (by omega)
    clear hrt hch hl1 hl2 hl3 hnn hh hg r1 r2 r3 hbk hbk1 n1 n2 n3 hrk hws HT HRX HB3 HG3 HG HWN
    go_wp2_with fail
    go_region_held3 (fun x => x.cell? ⟨R, 0, none⟩ = some (.int .i64 N) ∧ x.cell? ⟨R, 1, none⟩ = some (.slice po st'.length pa) ∧ x.cell? ⟨R, 2, none⟩ = some (.slice qo tl'.length qa) ∧ x.cell? ⟨R, 3, none⟩ = some (.slice ro wt'.length ra) ∧ x.cell? ⟨R, 7, none⟩ = some (.int .i64 N) ∧ x.cell? ⟨R, 8, none⟩ = some (.slice (some ⟨k1, 0, none⟩) st'.length d1) ∧ x.cell? ⟨R, 9, none⟩ = some (.slice (some ⟨k2, 0, none⟩) tl'.length d2) ∧ x.cell? ⟨R, 10, none⟩ = some (.slice (some ⟨k3, 0, none⟩) wt'.length d3)) (first | with_reducible exact HC6.out _ (Below.refl _ _).drew | with_reducible exact HC6.out _ HY.out.2)
      (first
      | (go_at_call 17; refine (HKP.out _ HY.out.1 HY.out.2).mono ?_; rintro e z ⟨rfl, hb⟩; have HZ : Hid (KeepE V z ∧ Below X0.heap.size V z) := ⟨fun b cur t h a1 a2 a3 a4 => ((hb.block b (lt_of_heap ((HY.out.1 b cur t h a1 a2 a3 a4).trans h))).trans (HY.out.1 b cur t h a1 a2 a3 a4)), HY.out.2.trans (hb.mono (by have := HY.out.2.size; have := HVS.out; omega))⟩; clear hb HY; have HY := HZ; clear HZ)
      | (go_at_call 41; refine HL41.out.mono ?_; clear HL41; rintro e y ⟨rfl, hd, _⟩; have HY : Hid (KeepE V y ∧ Below X0.heap.size V y) := ⟨hd.keep, Below.trans (Below.drew (Below.refl _ _)) hd.low_below⟩; clear hd))
    go_wp2_with fail
    go_ret
    exact ⟨rfl, HVB.out.trans (HY.out.2.mono (by have := HVB.out.size; omega))⟩
end Go.Proofs.Ytmagigmcbegmiaa
