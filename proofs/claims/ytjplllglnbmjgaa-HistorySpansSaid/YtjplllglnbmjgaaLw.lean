/- HistorySpans: the law. -/
import Derived.Test.YtjplllglnbmjgaaSa
import Derived.Test.YtjplllglnbmjgaaOw2
namespace Go.Proofs.Ytjplllglnbmjgaa
open Go.RowKit Go.Lib Go.Maps
set_option linter.unusedVariables false
set_option linter.unusedSimpArgs false
/-- A row of spans in a block of [S, T). -/
def SI (X : World) (S T : Nat) (v : Value) (l : List Sp) : Prop := SOwn X S v l ∧ ∀ g, v.ownBlock = some g → g < T
theorem SI.below {X Y : World} {S T : Nat} {v : Value} {l : List Sp} (h : SI X S T v l) (hb : Below X.heap.size X Y) : SI Y S T v l := ⟨h.1.below hb, h.2⟩
theorem SI.chg {X Y : World} {S T : Nat} {v : Value} {l : List Sp} {g : Nat} (h : SI X S T v l) (hc : Chg (fun b => b = g) X Y) (hg : g < S) : SI Y S T v l :=
  ⟨h.1.stay fun b e => hc.block b (h.1.lt b e).2 (by have := (h.1.lt b e).1; omega), h.2⟩
theorem SI.mk' {X : World} {S T : Nat} {v : Value} {l : List Sp} (h : SI X S T v l) (mk : Int) : MkT X S T v l.length 0 mk :=
  ⟨_, h.1, fun i hi => absurd hi (Nat.not_lt_zero _), h.2⟩
theorem SI.of {X Y : World} {v : Value} {l : List Sp} (h : SOwn Y X.heap.size v l) : SI Y X.heap.size Y.heap.size v l := ⟨h, fun g e => (h.lt g e).2⟩
/-- The four lists that came first, and where they lie. -/
structure Q4 (X : World) (g : Nat) (S1 S2 S3 S4 S5 S6 : Nat) (vs vt vo vu : Value) (a b : List Sp) : Prop where
  s : SI X S1 S2 vs a
  t : SI X S2 S3 vt a
  o : SI X S4 S5 vo b
  u : SI X S5 S6 vu a
  ord : g < S1 ∧ S1 ≤ S2 ∧ S2 ≤ S3 ∧ S3 ≤ S4 ∧ S4 ≤ S5 ∧ S5 ≤ S6 ∧ S6 ≤ X.heap.size
section
variable {X Y : World} {g S1 S2 S3 S4 S5 S6 : Nat} {vs vt vo vu : Value} {a b : List Sp}
theorem Q4.below (h : Q4 X g S1 S2 S3 S4 S5 S6 vs vt vo vu a b) (hb : Below X.heap.size X Y) : Q4 Y g S1 S2 S3 S4 S5 S6 vs vt vo vu a b := by
  obtain ⟨o1, o2, o3, o4, o5, o6, o7⟩ := h.ord
  exact ⟨h.s.below hb, h.t.below hb, h.o.below hb, h.u.below hb, o1, o2, o3, o4, o5, o6, Nat.le_trans o7 hb.size⟩
theorem Q4.chg (h : Q4 X g S1 S2 S3 S4 S5 S6 vs vt vo vu a b) (hc : Chg (fun b => b = g) X Y) : Q4 Y g S1 S2 S3 S4 S5 S6 vs vt vo vu a b := by
  obtain ⟨o1, o2, o3, o4, o5, o6, o7⟩ := h.ord
  exact ⟨h.s.chg hc o1, h.t.chg hc (by omega), h.o.chg hc (by omega), h.u.chg hc (by omega), o1, o2, o3, o4, o5, o6, Nat.le_trans o7 hc.size⟩
end
def p5 {α : Type} (a b c d e : α) : Nat → α := fun i => if i = 0 then a else if i = 1 then b else if i = 2 then c else if i = 3 then d else e
theorem five {P : Nat → Prop} (h0 : P 0) (h1 : P 1) (h2 : P 2) (h3 : P 3) (h4 : P 4) : ∀ i, i < 5 → P i := by
  intro i hi
  have : i = 0 ∨ i = 1 ∨ i = 2 ∨ i = 3 ∨ i = 4 := by omega
  rcases this with rfl | rfl | rfl | rfl | rfl
  · exact h0
  · exact h1
  · exact h2
  · exact h3
  · exact h4
theorem os_made {X : World} {A g S1 S2 S3 S4 S5 S6 S7 S8 : Nat} {vs vt vo vu vv : Value} {a b d : List Sp} (h : Q4 X g S1 S2 S3 S4 S5 S6 vs vt vo vu a b) (hv : SI X S7 S8 vv d) (h7 : S6 ≤ S7) (h8 : S7 ≤ S8) (h9 : S8 ≤ X.heap.size) (hA : A ≤ g) (la : a.length ≤ 2000) (lb : b.length ≤ 2000) (ld : d.length ≤ 2000) :
    OS A X.heap.size (X.heap.size + 1) (p5 vs vt vo vu vv) (p5 a.length a.length b.length a.length d.length) (p5 S1 S2 S4 S5 S7) (p5 S2 S3 S5 S6 S8) (fun _ => 0) (X.alloc (.cells #[vs, vt, vo, vu, vv] 23)) := by
  obtain ⟨o1, o2, o3, o4, o5, o6, o7⟩ := h.ord
  have hh : (X.alloc (.cells #[vs, vt, vo, vu, vv] 23)).heap[X.heap.size]? = some (.cells #[vs, vt, vo, vu, vv] 23 (0, 0)) := heap_new _ _
  have hb : Below X.heap.size X (X.alloc (.cells #[vs, vt, vo, vu, vv] 23)) := below_alloc (Below.refl _ _) _
  have e1 := five (P := fun i => (X.alloc (.cells #[vs, vt, vo, vu, vv] 23)).cell? ⟨X.heap.size, i, none⟩ = some (p5 vs vt vo vu vv i)) (cell_of hh rfl) (cell_of hh rfl) (cell_of hh rfl) (cell_of hh rfl) (cell_of hh rfl)
  have e2 := five (P := fun i => MkT (X.alloc (.cells #[vs, vt, vo, vu, vv] 23)) (p5 S1 S2 S4 S5 S7 i) (p5 S2 S3 S5 S6 S8 i) (p5 vs vt vo vu vv i) (p5 a.length a.length b.length a.length d.length i) 0 (1000 + (i : Int))) ((h.s.below hb).mk' _) ((h.t.below hb).mk' _) ((h.o.below hb).mk' _) ((h.u.below hb).mk' _) ((hv.below hb).mk' _)
  have e4 : ∀ i, i < 5 → X.heap.size < p5 S1 S2 S4 S5 S7 i ∨ p5 S2 S3 S5 S6 S8 i ≤ X.heap.size := by
    intro i hi
    right
    unfold p5
    repeat' split
    all_goals omega
  have e5 : ∀ i, i < 5 → p5 a.length a.length b.length a.length d.length i ≤ 2000 ∧ A ≤ p5 S1 S2 S4 S5 S7 i ∧ p5 S2 S3 S5 S6 S8 i ≤ X.heap.size + 1 := by
    intro i hi
    unfold p5
    refine ⟨?_, ?_, ?_⟩
    all_goals repeat' split
    all_goals omega
  have e3 : ∀ i j, i < 5 → j < 5 → i ≠ j → p5 S2 S3 S5 S6 S8 i ≤ p5 S1 S2 S4 S5 S7 j ∨ p5 S2 S3 S5 S6 S8 j ≤ p5 S1 S2 S4 S5 S7 i := by
    intro i j hi hj hne
    unfold p5
    repeat' split
    all_goals omega
  exact ⟨e1, e2, e3, e4, e5, by omega, Nat.lt_succ_self _, by simp⟩
theorem Eok.set {l : List Ev} {k : Nat} {e : Ev} (h : Eok l) (he : In64 e.who) : Eok (l.set k e) := by
  intro i hi
  rw [List.length_set] at hi
  have h1 := h i hi
  unfold evAt at h1 ⊢
  rw [List.getElem?_set]
  by_cases hk : k = i
  · subst hk; rw [if_pos rfl, if_pos hi]; exact he
  · rw [if_neg hk]; exact h1
theorem put5_chg {w : World} {g : Nat} (a0 a1 a2 a3 a4 : Nat) (u0 u1 u2 u3 u4 : Value) : Chg (fun b => b = g) w (((((w.setCell ⟨g, a0, none⟩ u0).setCell ⟨g, a1, none⟩ u1).setCell ⟨g, a2, none⟩ u2).setCell ⟨g, a3, none⟩ u3).setCell ⟨g, a4, none⟩ u4) :=
  Chg.setCell (Chg.setCell (Chg.setCell (Chg.setCell (Chg.setCell (Chg.refl (fun b => b = g) w) (p := ⟨g, a0, none⟩) rfl _) (p := ⟨g, a1, none⟩) rfl _) (p := ⟨g, a2, none⟩) rfl _) (p := ⟨g, a3, none⟩) rfl _) (p := ⟨g, a4, none⟩) rfl _
set_option maxRecDepth 100000 in
set_option maxHeartbeats 16000000 in
theorem spans_law (v1 v2 : Value) (l other : List Ev) (w : World) (h1 : EAt w v1 l) (h2 : EAt w v2 other) (hl1 : l.length ≤ 3518437208780) (hl2 : other.length ≤ 3518437208780) (k1 : Eok l) (k2 : Eok other) :
    Calls Try.prog 3 #[v1, v2] w fun e w' => e = .returned (.bool true) ∧ Below w.heap.size w w' := by
  obtain ⟨i0, hi0, hz0, hz1, hz2⟩ := info_parts Try.info36
  have H1 := hide h1
  have H2 := hide h2
  have K1 := hide k1
  have K2 := hide k2
  obtain ⟨ao, ca, rfl, hca, h63a⟩ := h1.shape
  obtain ⟨bo, cb, rfl, hcb, h63b⟩ := h2.shape
  have HR : Hid (∀ v evs W, EAt W v evs → evs.length ≤ 3518437208780 → Calls Try.prog 4 #[v] W (SpP evs W)) := fun v evs W h hl => refSpans_any v evs W h (by omega)
  have HP : Hid (∀ v evs W, EAt W v evs → evs.length ≤ 3518437208780 → Eok evs → Calls Try.prog 6 #[v] W (SpP evs W)) := fun v evs W h hl hk => spans_any v evs W h (by omega) hk
  have HEV : Hid (∀ v evs W, EAt W v evs → evs.length ≤ 3518437208780 → Calls Try.prog 5 #[v] W fun e w' => ∃ g c, e = .returned (.slice (some ⟨g, 0, none⟩) evs.length c) ∧ EM w' W.heap.size g c evs ∧ Below W.heap.size W w') := fun v evs W h hl => events_any v evs W h (by omega)
  unfold SpP at HR HP
  have HSS := hide sameSpans_any
  have HKE := hide kept_any
  have HL1 := hide hl1
  have HL2 := hide hl2
  obtain ⟨n, hn⟩ : ∃ n, n = l.length := ⟨_, rfl⟩
  obtain ⟨m, hm⟩ : ∃ m, m = other.length := ⟨_, rfl⟩
  have HN := hide hn
  have HM := hide hm
  rw [← hn] at hca H1 hl1 ⊢
  rw [← hm] at hcb H2 hl2 ⊢
  clear h1 h2 hn hm k1 k2
  obtain ⟨e1, he1⟩ : ∃ e1, e1 = aEr l := ⟨_, rfl⟩
  obtain ⟨x1, hx1⟩ : ∃ x1, x1 = aIx l := ⟨_, rfl⟩
  obtain ⟨e2, he2⟩ : ∃ e2, e2 = aEr other := ⟨_, rfl⟩
  obtain ⟨x2, hx2⟩ : ∃ x2, x2 = aIx other := ⟨_, rfl⟩
  have HAL := hide (And.intro he1 hx1)
  have HAO := hide (And.intro he2 hx2)
  clear he1 hx1 he2 hx2
  have st0 := hide True.intro
  go_enter Try.func3, Try.ntmps3
  go_upto_region 8 with (first
    | (go_at_call 4; clear st0; refine (HR.out _ l _ H1.out HL1.out).mono ?_; rintro e w1 ⟨vw, rfl, hso, hb⟩; rw [← HAL.out.1, ← HAL.out.2]; have HW1 := hide (hso.rat Sp.size); have HB1 := hide hb; clear hso hb)
    | (go_at_call 4; refine (HR.out _ other _ (H2.out.below HB1.out) HL2.out).mono ?_; rintro e w2 ⟨va, rfl, hso, hb⟩; rw [← HAO.out.1, ← HAO.out.2]; have HW2 := hide (HW1.out.below hb); have HA2 := hide (hso.rat Sp.size); have HB2 := hide (below_on HB1.out hb); clear hso hb HB1 HW1)
    | (go_at_call 5; refine (HEV.out _ l _ (H1.out.below HB2.out) HL1.out).mono ?_; rintro e w3 ⟨g, c, rfl, hem, hb⟩; rw [← HN.out]; have HW3 := hide (HW2.out.below hb); have HA3 := hide (HA2.out.below hb); have HB3 := hide (below_on HB2.out hb); have HC3 := hide hem; have hgc := hem.cap; rw [← HN.out] at hgc; have hS0 : w.heap.size ≤ g := Nat.le_trans HB2.out.size hgc.2.2.1; clear hem hb HB2 HW2 HA2)
    | (go_at_call 6; refine (HP.out _ l _ (by have := HC3.out.eat; rw [← HN.out] at this; exact this) HL1.out K1.out).mono ?_; rintro e w4 ⟨vs, rfl, hso, hb⟩; rw [← HAL.out.1, ← HAL.out.2]; have HW4 := hide (HW3.out.below hb); have HA4 := hide (HA3.out.below hb); have HB4 := hide (below_on HB3.out hb); have HC4 := hide (HC3.out.below hb); have HS4 := hide (SI.of hso); have q34 := hb.size; clear hso hb HB3 HW3 HA3 HC3)
    | (go_at_call 6; refine (HP.out _ l _ (by have := HC4.out.eat; rw [← HN.out] at this; exact this) HL1.out K1.out).mono ?_; rintro e w5 ⟨vt, rfl, hso, hb⟩; rw [← HAL.out.1, ← HAL.out.2]; have HW5 := hide (HW4.out.below hb); have HA5 := hide (HA4.out.below hb); have HB5 := hide (below_on HB4.out hb); have HC5 := hide (HC4.out.below hb); have HS5 := hide (HS4.out.below hb); have HT5 := hide (SI.of hso); have q45 := hb.size; clear hso hb HB4 HW4 HA4 HC4 HS4)
    | (go_at_call 5; refine (HEV.out _ other _ (H2.out.below HB5.out) HL2.out).mono ?_; rintro e w6 ⟨g6, c6, rfl, hem, hb⟩; rw [← HM.out]; have HW6 := hide (HW5.out.below hb); have HA6 := hide (HA5.out.below hb); have HB6 := hide (below_on HB5.out hb); have HC6 := hide (HC5.out.below hb); have HS6 := hide (HS5.out.below hb); have HT6 := hide (HT5.out.below hb); have HX6 := hide hem.eat; rw [← HM.out] at HX6; have q56 := hb.size; clear hem hb HB5 HW5 HA5 HC5 HS5 HT5)
    | (go_at_call 6; refine (HP.out _ other _ HX6.out HL2.out K2.out).mono ?_; rintro e w7 ⟨vo, rfl, hso, hb⟩; rw [← HAO.out.1, ← HAO.out.2]; have HW7 := hide (HW6.out.below hb); have HA7 := hide (HA6.out.below hb); have HB7 := hide (below_on HB6.out hb); have HC7 := hide (HC6.out.below hb); have HS7 := hide (HS6.out.below hb); have HT7 := hide (HT6.out.below hb); have HO7 := hide (SI.of hso); have q67 := hb.size; clear hso hb HB6 HW6 HA6 HC6 HS6 HT6 HX6)
    | (go_at_call 6; refine (HP.out _ l _ (by have := HC7.out.eat; rw [← HN.out] at this; exact this) HL1.out K1.out).mono ?_; rintro e w8 ⟨vu, rfl, hso, hb⟩; rw [← HAL.out.1, ← HAL.out.2]; have HW8 := hide (HW7.out.below hb); have HA8 := hide (HA7.out.below hb); have HB8 := hide (below_on HB7.out hb); have HC8 := hide (HC7.out.below hb); have HS8 := hide (HS7.out.below hb); have HT8 := hide (HT7.out.below hb); have HO8 := hide (HO7.out.below hb); have HU8 := hide (SI.of hso); have q78 := hb.size; clear hso hb HB7 HW7 HA7 HC7 HS7 HT7 HO7)
    | fail)
  have HQ8 := hide (show Q4 w8 g w3.heap.size w4.heap.size w5.heap.size w6.heap.size w7.heap.size w8.heap.size vs vt vo vu (aSp l) (aSp other) from ⟨HS8.out, HT8.out, HO8.out, HU8.out, hgc.2.2.2, q34, q45, q56, q67, q78, Nat.le_refl _⟩)
  clear HS8 HT8 HO8 HU8 q34 q45 q56 q67 q78
  generalize w3.heap.size = S1 at HQ8 hgc
  generalize w4.heap.size = S2 at HQ8
  generalize w5.heap.size = S3 at HQ8
  generalize w6.heap.size = S4 at HQ8
  generalize w7.heap.size = S5 at HQ8
  generalize w8.heap.size = S6 at HQ8
  go_upto_block 0 with (first
    | (go_at_call 7; refine (HSS.out _ _ (aSp l) _ (HQ8.out.s.1.rat Sp.size) HW8.out).mono ?_; rintro e w9 ⟨rfl, hb⟩; have HQ9 := hide (HQ8.out.below hb); have HW9 := hide (HW8.out.below hb); have HA9 := hide (HA8.out.below hb); have HB9 := hide (below_on HB8.out hb); have HC9 := hide (HC8.out.below hb); clear hb HQ8 HW8 HA8 HB8 HC8)
    | (go_at_call 7; refine (HSS.out _ _ (aSp l) _ (HQ9.out.t.1.rat Sp.size) HW9.out).mono ?_; rintro e wa ⟨rfl, hb⟩; have HQa := hide (HQ9.out.below hb); have HWa := hide (HW9.out.below hb); have HAa := hide (HA9.out.below hb); have HBa := hide (below_on HB9.out hb); have HCa := hide (HC9.out.below hb); clear hb HQ9 HW9 HA9 HB9 HC9)
    | (go_at_call 7; refine (HSS.out _ _ (aSp l) _ (HQa.out.u.1.rat Sp.size) HWa.out).mono ?_; rintro e wb ⟨rfl, hb⟩; have HQb := hide (HQa.out.below hb); have HAb := hide (HAa.out.below hb); have HBb := hide (below_on HBa.out hb); have HCb := hide (HCa.out.below hb); clear hb HQa HWa HAa HBa HCa)
    | (go_at_call 7; refine (HSS.out _ _ (aSp other) _ (HQb.out.o.1.rat Sp.size) HAb.out).mono ?_; rintro e wc1 ⟨rfl, hb⟩; have HQc := hide (HQb.out.below hb); have HBc := hide (below_on HBb.out hb); have HCc := hide (HCb.out.below hb); clear hb HQb HAb HBb HCb)
    | (go_at_call 8; refine (by have := HKE.out _ g c (.slice ao n ca) l _ HCc.out (H1.out.below HBc.out); rw [← HN.out] at this; exact this : Calls Try.prog 8 _ _ _).mono ?_; rintro e wd ⟨rfl, hb⟩; have HQd := hide (HQc.out.below hb); have HBd := hide (below_on HBc.out hb); have HCd := hide (HCc.out.below hb); clear hb HQc HBc HCc)
    | fail)
  generalize w2.heap.size = fr at HCd
  go_cut [24] from 115 to 133 (fun t wx => ∃ ml : List Ev, ml.length = n ∧ Eok ml ∧ EM wx fr g c ml ∧ Q4 wx g S1 S2 S3 S4 S5 S6 vs vt vo vu (aSp l) (aSp other) ∧ Below w.heap.size w wx)
  case first =>
    go_wp2_with fail
    go_loopw [24] (fun t wr => ∃ (i : Nat) (ml : List Ev), i ≤ n ∧ t = .int .i64 i ∧ ml.length = n ∧ Eok ml ∧ EM wr fr g c ml ∧ Q4 wr g S1 S2 S3 S4 S5 S6 vs vt vo vu (aSp l) (aSp other) ∧ Below w.heap.size w wr) (fun t _ => n - (RowKit.intOf t).toNat)
    case atStart => exact ⟨0, l, by omega, rfl, HN.out.symm, K1.out, HCd.out, HQd.out, HBd.out⟩
    case round =>
      obtain ⟨i, ml, hin, rfl, hml, hek, hem, hq, hbl⟩ := hrel
      clear HCd HQd HBd
      by_cases hi1 : i < n
      · have hi1i : (i : Int) < (n : Int) := by omega
        by_cases hi2 : i < m
        · have hi2i : (i : Int) < (m : Int) := by omega
          obtain ⟨g2, o2, rfl, hg2, p⟩ := (H2.out.below hbl).at i (by have := HM.out; omega)
          have hev : evAt other i = other[i]'(by have := HM.out; omega) := by have := HM.out; simp [evAt, show i < other.length by omega]
          have hin64 := K2.out i (by have := HM.out; omega)
          rw [← hev] at p
          generalize evAt other i = e at p hin64
          obtain ⟨tm, who, kind, key, load⟩ := e
          have p0 : wr.cell? ⟨g2, o2 + i * 5, none⟩ = some (.int .i64 tm) := p 0 _ rfl
          have p1 : wr.cell? ⟨g2, o2 + i * 5 + 1, none⟩ = some (.int .i64 who) := p 1 _ rfl
          have p2 : wr.cell? ⟨g2, o2 + i * 5 + 2, none⟩ = some (.int .i64 kind) := p 2 _ rfl
          have p3 : wr.cell? ⟨g2, o2 + i * 5 + 3, none⟩ = some (.int .u64 key) := p 3 _ rfl
          have p4 : wr.cell? ⟨g2, o2 + i * 5 + 4, none⟩ = some (.int .u64 load) := p 4 _ rfl
          have hget : (ml ++ [mkE 71, mkE 72])[i]? = some (evAt ml i) := by rw [List.getElem?_append_left (by omega)]; exact evAt_get (by omega)
          have hc := ROwn.cell Ev.size hem hget
          have hf := ROwn.free hem
          have c0 : wr.cell? ⟨g, i * 5, none⟩ = some _ := hc 0 _ rfl
          have c1 := hc 1 _ rfl
          have c2 := hc 2 _ rfl
          have c3 := hc 3 _ rfl
          have c4 := hc 4 _ rfl
          have f0 := hf (i * 5)
          have f1 := hf (i * 5 + 1)
          have f2 := hf (i * 5 + 2)
          have f3 := hf (i * 5 + 3)
          have f4 := hf (i * 5 + 4)
          have HP5 := hide (hem.put (k := i) (by omega) ⟨tm, who, kind, key, load⟩)
          have HQ5 : Hid (∀ u0 u1 u2 u3 u4, Q4 (((((wr.setCell ⟨g, i * 5, none⟩ u0).setCell ⟨g, i * 5 + 1, none⟩ u1).setCell ⟨g, i * 5 + 2, none⟩ u2).setCell ⟨g, i * 5 + 3, none⟩ u3).setCell ⟨g, i * 5 + 4, none⟩ u4) g S1 S2 S3 S4 S5 S6 vs vt vo vu (aSp l) (aSp other)) := fun u0 u1 u2 u3 u4 => hq.chg (put5_chg _ _ _ _ _ _ _ _ _ _)
          have HB5 : Hid (∀ u0 u1 u2 u3 u4, Below w.heap.size w (((((wr.setCell ⟨g, i * 5, none⟩ u0).setCell ⟨g, i * 5 + 1, none⟩ u1).setCell ⟨g, i * 5 + 2, none⟩ u2).setCell ⟨g, i * 5 + 3, none⟩ u3).setCell ⟨g, i * 5 + 4, none⟩ u4)) := fun u0 u1 u2 u3 u4 => ((((hbl.setCell hS0 _).setCell hS0 _).setCell hS0 _).setCell hS0 _).setCell hS0 _
          have HML := hide hml
          have HEK := hide (hek.set (k := i) (e := ⟨tm, who, kind, key, load⟩) hin64)
          clear p hev hin64 hget hc hf hem hq hbl hml hek
          have hnc : n ≤ c := by omega
          go_wp2
          go_roundw
          case rel => exact ⟨i + 1, _, hi1, by simp, by rw [List.length_set]; exact HML.out, HEK.out, HP5.out, HQ5.out _ _ _ _ _, HB5.out _ _ _ _ _⟩
          case measure => exact mdec hi1
        · have hi2i : ¬ (i : Int) < (m : Int) := by omega
          have HX := hide (And.intro hml (And.intro hek (And.intro hem (And.intro hq hbl))))
          clear hml hek hem hq hbl
          go_wp2_with fail
          go_meet
          case rel => exact ⟨ml, HX.out⟩
      · have hi1i : ¬ (i : Int) < (n : Int) := by omega
        have HX := hide (And.intro hml (And.intro hek (And.intro hem (And.intro hq hbl))))
        clear hml hek hem hq hbl
        go_wp2_with fail
        go_meet
        case rel => exact ⟨ml, HX.out⟩
  case rest =>
    obtain ⟨ml, hml, hek, hem, hq, hbl⟩ := hcut
    have HML := hide hml
    have HEK := hide hek
    have HEM := hide hem
    have HQ := hide hq
    have HBL := hide hbl
    have HMLL : Hid (ml.length ≤ 3518437208780) := hide (by omega)
    clear hml hek hem hq hbl HCd HQd HBd
    obtain ⟨e3, he3⟩ : ∃ e3, e3 = aEr ml := ⟨_, rfl⟩
    obtain ⟨x3, hx3⟩ : ∃ x3, x3 = aIx ml := ⟨_, rfl⟩
    have HAM := hide (And.intro he3 hx3)
    clear he3 hx3
    have HEA : Hid (∀ o, EAt (wc.alloc o) (.slice (some ⟨g, 0, none⟩) n c) ml) := fun o => by have := (HEM.out.below (below_alloc (Below.refl _ _) o)).eat; rw [HML.out] at this; exact this
    have HEZ : Hid (∀ W, EM W fr g c ml → EAt W (.slice (some ⟨g, 0, none⟩) n c) ml) := fun W h => by have := h.eat; rw [HML.out] at this; exact this
    obtain ⟨a1, k1, rfl, _, _⟩ := (HQ.out.s.1.rat Sp.size).shape
    obtain ⟨a2, k2, rfl, _, _⟩ := (HQ.out.t.1.rat Sp.size).shape
    obtain ⟨a3, k3, rfl, _, _⟩ := (HQ.out.o.1.rat Sp.size).shape
    obtain ⟨a4, k4, rfl, _, _⟩ := (HQ.out.u.1.rat Sp.size).shape
    go_wp2_with (first
      | (at_builtin; refine wpList_freshR Ev.size (by decide) rfl (.tmp 134) (.tmp 135) 22 rfl 36 i0 _ 40 Try.underlying22 hi0 hz0 hz1 hz2 rfl wc.heap.size wc.heap.size (own_newr wc 36 _ 5 rfl) (by simp) _ ml rfl rfl (HEA.out _) (by rw [HML.out]; omega) (by rw [HML.out]; unfold maxLen; omega) ?_; intro vn we hownA hbelA; have hbe := below_on (below_alloc (Below.refl _ _) _) hbelA; have HNe := hide (ROwn.rat Ev.size hownA); have HEe := hide (HEM.out.below hbe); have HQe := hide (HQ.out.below hbe); have HBe := hide (below_on HBL.out hbe); clear hownA hbelA hbe HEM HQ HBL)
      | (go_at_call 4; refine (HR.out _ ml _ HNe.out HMLL.out).mono ?_; rintro e wf ⟨vr, rfl, hso, hb⟩; rw [← HAM.out.1, ← HAM.out.2]; have HVf := hide (hso.rat Sp.size); have HEf := hide (HEe.out.below hb); have HQf := hide (HQe.out.below hb); have HBf := hide (below_on HBe.out hb); clear hso hb HNe HEe HQe HBe)
      | (go_at_call 6; refine (HP.out _ ml _ (HEZ.out _ HEf.out) HMLL.out HEK.out).mono ?_; rintro e wg ⟨vv, rfl, hso, hb⟩; obtain ⟨a5, k5, rfl, _, _⟩ := (hso.rat Sp.size).shape; rw [← HAM.out.1, ← HAM.out.2]; have HVg := hide (HVf.out.below hb); have HSg := hide (SI.of hso); have HQg := hide (HQf.out.below hb); have HBg := hide (below_on HBf.out hb); have q6f := HQf.out.ord.2.2.2.2.2.2; have qfg := hb.size; clear hso hb HVf HEf HQf HBf)
      | (go_at_call 7; refine (HSS.out _ _ (aSp ml) _ (HSg.out.1.rat Sp.size) HVg.out).mono ?_; rintro e wh ⟨rfl, hb⟩; have HSh := hide (HSg.out.below hb); have HQh := hide (HQg.out.below hb); have HBh := hide (below_on HBg.out hb); have qgh := hb.size; have HOW := hide (os_made (A := w.heap.size) HQh.out HSh.out q6f qfg qgh hS0 (aSp_len l) (aSp_len other) (aSp_len ml)); clear hb HSg HVg HQg HBg)
      | (go_at_call 9; refine (ownSpans_any w.heap.size _ _ _ _ _ _ _ HOW.out (Nat.le_trans HBh.out.size (by simp))).mono ?_; rintro e wi ⟨rfl, hb⟩; have HBi := hide (show Below w.heap.size w wi from (below_alloc HBh.out _).trans hb); clear hb HOW)
      | fail)
    go_ret
    exact ⟨rfl, HBi.out⟩
end Go.Proofs.Ytjplllglnbmjgaa
