/- OctetReads: the walk. -/
import Derived.Test.YtpfpelhhebafeaaDoorRdC
import Derived.Deep.Cut
import Derived.Deep.CutBlock
namespace Go.Proofs.YtpfpelhhebafeaaDoor
open Go.RowKit Go.Lib
set_option linter.unusedVariables false
set_option linter.unusedSimpArgs false
/-- One Op: what its bytes are plays no part. -/
structure OpX where
  kind : Int
  sec : Bool
  v : Int
  n : Int
  ba : Option Addr
  bl : Nat
  bc : Nat
def OpX.arr (o : OpX) : Array Value := #[.int .i64 o.kind, .bool o.sec, .int .u64 o.v, .int .i64 o.n, .slice o.ba o.bl o.bc]
theorem OpX.size (o : OpX) : o.arr.size = 5 := rfl
section
variable {α : Type} {A : α → Array Value} {c : Nat} {t : TypeId}
/-- Records that lie anywhere. -/
def RAt (A : α → Array Value) (c : Nat) (w : World) (v : Value) (l : List α) : Prop :=
  ∃ ao cap, v = .slice ao l.length cap ∧ l.length ≤ cap ∧ cap ≤ 9223372036854775807 ∧
    ∀ i x, l[i]? = some x → ∃ g o, ao = some ⟨g, o, none⟩ ∧ g < w.heap.size ∧ ∀ j u, (A x)[j]? = some u → w.cell? ⟨g, o + i * c + j, none⟩ = some u
theorem RAt.nil (w : World) : RAt A c w (.slice none 0 0) [] := ⟨none, 0, rfl, Nat.le_refl _, by omega, fun i x hi => by simp at hi⟩
theorem RAt.shape {w : World} {v : Value} {l : List α} (h : RAt A c w v l) : ∃ ao cap, v = .slice ao l.length cap ∧ l.length ≤ cap ∧ cap ≤ 9223372036854775807 := by
  obtain ⟨ao, cap, rfl, h1, h2, _⟩ := h; exact ⟨ao, cap, rfl, h1, h2⟩
theorem RAt.at {w : World} {ao : Option Addr} {n cap : Nat} {l : List α} (h : RAt A c w (.slice ao n cap) l) (i : Nat) (hi : i < l.length) :
    ∃ g o, ao = some ⟨g, o, none⟩ ∧ g < w.heap.size ∧ ∀ j u, (A l[i])[j]? = some u → w.cell? ⟨g, o + i * c + j, none⟩ = some u := by
  obtain ⟨ao', c', he, h1, h2, h3⟩ := h
  simp only [Value.slice.injEq] at he
  obtain ⟨rfl, _, _⟩ := he
  exact h3 i _ (List.getElem?_eq_getElem hi)
theorem RAt.below {w w' : World} {v : Value} {l : List α} (h : RAt A c w v l) (hb : Below w.heap.size w w') : RAt A c w' v l := by
  obtain ⟨ao, cap, rfl, h1, h2, h3⟩ := h
  refine ⟨ao, cap, rfl, h1, h2, fun i x hi => ?_⟩
  obtain ⟨g, o, e, hg, p⟩ := h3 i x hi
  exact ⟨g, o, e, Nat.lt_of_lt_of_le hg hb.size, fun j u hu => (below_cell hb hg).trans (p j u hu)⟩
end
/-- A reader whose bytes lie from F on. -/
def RdF (w : World) (r : Nat) (bs : List Int) (F : Nat) : Prop :=
  ∃ ao c, w.heap[r]? = some (.cells #[.slice ao bs.length c, .int .i64 0] 71 (0, 0)) ∧ RowAt .u8 w (.slice ao bs.length c) bs ∧ (ao = none ∨ ∃ g, ao = some ⟨g, 0, none⟩ ∧ F ≤ g ∧ g ≠ r)
theorem RdF.is {w : World} {r F : Nat} {bs : List Int} (h : RdF w r bs F) : RdIs w r bs 0 := by
  obtain ⟨ao, c, h1, h2, h3⟩ := h
  exact ⟨ao, c, h1, h2, h3.imp id fun ⟨g, e, _, hg⟩ => ⟨g, e, hg⟩⟩
theorem RdF.below {w w' : World} {r F : Nat} {bs : List Int} (h : RdF w r bs F) (hb : Below w.heap.size w w') : RdF w' r bs F := by
  obtain ⟨ao, c, h1, h2, h3⟩ := h
  exact ⟨ao, c, (hb.block r (lt_of_heap h1)).trans h1, h2.below hb, h3⟩
theorem RdF.but {w w' : World} {r F g : Nat} {bs : List Int} (h : RdF w r bs F) (hb : But g w w') (hg : g < F) (hr : r ≠ g) : RdF w' r bs F := by
  obtain ⟨ao, c, h1, h2, h3⟩ := h
  refine ⟨ao, c, hb.heap h1 hr, ?_, h3⟩
  obtain ⟨ao', c', he, k1, k2, k3, k4⟩ := h2
  simp only [Value.slice.injEq] at he
  obtain ⟨rfl, _, rfl⟩ := he
  refine ⟨ao, c, rfl, k1, k2, k3, fun a ha i hi => ?_⟩
  have h5 := k4 a ha i hi
  rcases h3 with rfl | ⟨g', rfl, hg', _⟩
  · cases ha
  · cases ha
    rw [Addr.add_lit] at h5 ⊢
    have hlt := block_of_cell h5
    simp only [World.cell?] at h5 ⊢
    rw [hb.block g' hlt (by omega)]
    exact h5
set_option maxRecDepth 100000 in
theorem newReader_new (w : World) (v : Value) (bs : List Int) (h : RowAt .u8 w v bs) (hbig : bs.length ≤ 175921860444160) :
    Calls Tryd.prog 17 #[v] w fun e w' => ∃ r, e = .returned (.pointer (some ⟨r, 0, none⟩)) ∧ w.heap.size ≤ r ∧ RdF w' r bs w.heap.size ∧ Below w.heap.size w w' := by
  have HC := hide (clone_any v bs w h hbig)
  obtain ⟨ao, c, rfl⟩ : ∃ ao c, v = .slice ao bs.length c := by obtain ⟨ao, c, h, _⟩ := h; exact ⟨ao, c, h⟩
  clear h
  go_enter Tryd.func17, Tryd.ntmps17
  go_wp2_with fail
  refine HC.out.mono ?_
  rintro e w' ⟨v', rfl, hown, hb⟩
  have HO := hide hown; have HB := hide hb
  obtain ⟨ao', c', rfl⟩ := own_shape hown
  clear hown hb
  go_wp2
  go_ret
  have hal : Below w'.heap.size w' (w'.alloc (.cells #[.slice ao' bs.length c', .int .i64 0] 71)) := (Below.refl _ _).alloc (Nat.le_refl _) _
  refine ⟨w'.heap.size, rfl, HB.out.size, ⟨ao', c', heap_new _ _, (RowAt.of_owns HO.out).below hal, ?_⟩, HB.out.alloc HB.out.size _⟩
  obtain ⟨_, ⟨he, _⟩ | ⟨g', cap', cur', he, hg, hh, _⟩⟩ := HO.out
  · simp only [Value.slice.injEq] at he; exact .inl he.1
  · simp only [Value.slice.injEq] at he; exact .inr ⟨g', he.1, hg, Nat.ne_of_lt (lt_of_heap hh)⟩
theorem reads_any (X : World) (p r P : Nat) (v : Value) (bs : List Int) (o : OpX) (h : Rp X p r v bs P) (hby : Byt bs) (hbig : bs.length ≤ 140737488351232) (hs : SumsAt X) (hp0 : 0 < p) :
    Calls Tryd.prog 32 #[.agg #[.int .i64 o.kind, .bool o.sec, .int .u64 o.v, .int .i64 o.n, .slice o.ba o.bl o.bc], .pointer (some ⟨p, 0, none⟩), .pointer (some ⟨r, 0, none⟩)] X (RP X p r v bs) := by
  by_cases hk : 11 ≤ o.kind ∧ o.kind ≤ 16
  · have h6 : o.kind = 11 ∨ o.kind = 12 ∨ o.kind = 13 ∨ o.kind = 14 ∨ o.kind = 15 ∨ o.kind = 16 := by omega
    rcases h6 with e | e | e | e | e | e <;> rw [e]
    · exact reads_word X p r P v bs o.sec o.v o.n o.ba o.bl o.bc h hby hbig
    · exact reads_var X p r P v bs o.sec o.v o.n o.ba o.bl o.bc h hby hbig
    · exact reads_bytes X p r P v bs o.sec o.v o.n o.ba o.bl o.bc h hby hbig
    · exact reads_sealed X p r P v bs o.sec o.v o.n o.ba o.bl o.bc h hby hbig hs hp0
    · exact reads_at X p r P v bs o.sec o.v o.n o.ba o.bl o.bc h hby hbig
    · exact reads_seek X p r P v bs o.sec o.v o.n o.ba o.bl o.bc h hby hbig
  · exact reads_else X p r P v bs o.kind o.sec o.v o.n o.ba o.bl o.bc h hby hbig hk
/-- The four readers, in two pairs. -/
structure R4 (w X : World) (p r q s : Nat) (vx vy : Value) (x y : List Int) (P Q : Nat) : Prop where
  a : Rp X p r vx x P
  b : Rp X q s vy y Q
  d : p ≠ q ∧ p ≠ s ∧ r ≠ q ∧ r ≠ s
  lo : w.heap.size ≤ p ∧ w.heap.size ≤ r ∧ w.heap.size ≤ q ∧ w.heap.size ≤ s
  bel : Below w.heap.size w X
  su : SumsAt X
section
variable {w X X' : World} {p r q s P Q P' : Nat} {vx vy : Value} {x y : List Int}
theorem But2.below {B : Nat} (h : Below B w X) (k : But2 p r X X') (h1 : B ≤ p) (h2 : B ≤ r) (h3 : B ≤ X.heap.size) : Below B w X' :=
  h.trans ⟨k.os, k.tape, k.output, k.size, fun i hi => k.block i (by omega) (by omega) (by omega)⟩
theorem Rp.but2 (h : Rp X q s vy y Q) (k : But2 p r X X') (hp : Hd X p) (hr : Hd X r) (d : q ≠ p ∧ q ≠ r ∧ s ≠ p ∧ s ≠ r) : Rp X' q s vy y Q := by
  obtain ⟨a, c, hh, hrow, hao⟩ := h.a
  have hrow2 : ∀ v bs, RowAt .u8 X v bs → RowAt .u8 X' v bs := by
    intro v bs hv
    by_cases hne : bs = []
    · subst hne
      obtain ⟨ao, c, rfl, h1, h2, h3, h4⟩ := hv
      exact ⟨ao, c, rfl, h1, h2, h3, fun a ha i hi => absurd hi (Nat.not_lt_zero _)⟩
    · obtain ⟨g, o, c', rfl, h1, h2, h3⟩ := hv.spot hne
      have hgne : ∀ b, Hd X b → g ≠ b := by
        intro b hb e
        subst e
        obtain ⟨_, _, _, _, _, hb⟩ := hb
        have h5 := h3 0 (List.length_pos_iff.2 hne)
        simp only [World.cell?, hb] at h5
        match hq : o + 0, h5 with
        | 0, h5 => simp at h5
        | 1, h5 => simp at h5
        | j + 2, h5 => simp at h5
      refine ⟨_, c', rfl, h1, h2, (fun e => by cases e), fun a' ha i hi => ?_⟩
      cases ha
      have h5 := h3 i hi
      rw [Addr.add_lit]
      have hlt := block_of_cell h5
      simp only [World.cell?] at h5 ⊢
      rw [k.block g hlt (hgne p hp) (hgne r hr)]
      simpa [List.getD] using h5
  refine ⟨⟨a, c, (k.block q (lt_of_heap hh) d.1 d.2.1).trans hh, hrow2 _ _ hrow, hao⟩, ⟨(k.block s (lt_of_heap h.b.hh) d.2.2.1 d.2.2.2).trans h.b.hh, hrow2 _ _ h.b.row, h.b.far⟩, h.ne, h.le⟩
theorem SumsAt.but2 (h : SumsAt X) (k : But2 p r X X') (hp : 0 < p) (hr : 0 < r) : SumsAt X' := ⟨Nat.lt_of_lt_of_le h.1 k.size, fun i hi => by
  rw [← h.2 i hi]
  unfold World.cell?
  rw [k.block 0 h.1 (by omega) (by omega)]⟩
theorem R4.one (h : R4 w X p r q s vx vy x y P Q) (hw : 0 < w.heap.size) (ha : Rp X' p r vx x P') (k : But2 p r X X') : R4 w X' p r q s vx vy x y P' Q := by
  obtain ⟨l1, l2, l3, l4⟩ := h.lo
  obtain ⟨d1, d2, d3, d4⟩ := h.d
  exact ⟨ha, h.b.but2 k h.a.a.hd h.a.b.hd ⟨d1.symm, d3.symm, d2.symm, d4.symm⟩, h.d, h.lo, But2.below h.bel k l1 l2 h.bel.size, h.su.but2 k (by omega) (by omega)⟩
theorem R4.two (h : R4 w X p r q s vx vy x y P Q) (hw : 0 < w.heap.size) (hb : Rp X' q s vy y P') (k : But2 q s X X') : R4 w X' p r q s vx vy x y P P' := by
  obtain ⟨l1, l2, l3, l4⟩ := h.lo
  obtain ⟨d1, d2, d3, d4⟩ := h.d
  exact ⟨h.a.but2 k h.b.a.hd h.b.b.hd ⟨d1, d2, d3, d4⟩, hb, h.d, h.lo, But2.below h.bel k l3 l4 h.bel.size, h.su.but2 k (by omega) (by omega)⟩
theorem R4.below (h : R4 w X p r q s vx vy x y P Q) (hb : Below X.heap.size X X') : R4 w X' p r q s vx vy x y P Q :=
  ⟨h.a.below hb, h.b.below hb, h.d, h.lo, below_alloc_on h.bel hb, h.su.below hb⟩
end
theorem rrd_new {w X : World} {v : Value} {bs : List Int} (hrow : RowAt .u8 w v bs) (hb : Below w.heap.size w X) : RRd (X.alloc (.cells #[v, .int .i64 0] 58)) X.heap.size v bs 0 := by
  refine ⟨heap_new _ _, hrow.below (below_alloc' hb _), fun hne g o n c e => ?_⟩
  obtain ⟨g', o', c', he, _, _, h3⟩ := hrow.spot hne
  rw [he] at e
  simp only [Value.slice.injEq, Option.some.injEq, Addr.mk.injEq] at e
  obtain ⟨⟨rfl, _⟩, _⟩ := e
  have h4 := block_of_cell (h3 0 (List.length_pos_iff.2 hne))
  have h5 := hb.size
  simp only at h4
  omega
theorem own_apart {w : World} {B B' g g' c c' : Nat} {xs ys : List Int} (h : Own8 w B g c xs) (k : Own8 w B' g' c' ys) : True := trivial
theorem gw_cell {w : World} {b i : Nat} {v : Value} (h : w.cell? ⟨b, i, none⟩ = some v) (x : GW w) : x.world.cell? ⟨b, i, none⟩ = some v := (below_cell x.bel (block_of_cell h)).trans h
theorem mdecR {i n : Nat} (h : i < n) : n - (RowKit.intOf (Value.int .i64 ((i : Int) + 1))).toNat < n - (RowKit.intOf (Value.int .i64 (i : Int))).toNat := by
  simp [RowKit.intOf]; omega
set_option maxRecDepth 100000 in
set_option maxHeartbeats 16000000 in
theorem reads_law (vx vy vs : Value) (x y : List Int) (ops : List OpX) (w : World) (hx : RowAt .u8 w vx x) (hy : RowAt .u8 w vy y) (hs : RAt OpX.arr 5 w vs ops) (bx : Byt x) (by' : Byt y) (lx : x.length ≤ 140737488351232) (ly : y.length ≤ 140737488351232) (hsu : SumsAt w) :
    Calls Tryd.prog 8 #[vx, vy, vs] w fun e w' => e = .returned (.bool true) ∧ Below w.heap.size w w' := by
  have HX := hide hx
  have HY := hide hy
  have HS := hide hs
  have HBX := hide bx
  have HBY := hide by'
  have HSU := hide hsu
  have hw0 : 0 < w.heap.size := hsu.1
  obtain ⟨ax, cx, rfl⟩ : ∃ ao c, vx = .slice ao x.length c := by obtain ⟨ao, c, h, _⟩ := hx; exact ⟨ao, c, h⟩
  obtain ⟨ay, cy, rfl⟩ : ∃ ao c, vy = .slice ao y.length c := by obtain ⟨ao, c, h, _⟩ := hy; exact ⟨ao, c, h⟩
  obtain ⟨az, cz, rfl, hcs, h63⟩ := hs.shape
  have HRO : Hid (∀ v bs W, RowAt .u8 W v bs → bs.length ≤ 140737488351232 → Calls Tryd.prog 27 #[v] W fun e w' => ∃ g c, e = .returned (.slice (some ⟨g, 0, none⟩) (bs.length + 2) c) ∧ Own8 w' W.heap.size g c (bs ++ [201, 202]) ∧ Below W.heap.size W w') := fun v bs W h hl => roomy_any v bs W h (by omega)
  have HNR : Hid (∀ v bs W, RowAt .u8 W v bs → bs.length ≤ 140737488351232 → Calls Tryd.prog 17 #[v] W fun e w' => ∃ r, e = .returned (.pointer (some ⟨r, 0, none⟩)) ∧ W.heap.size ≤ r ∧ RdF w' r bs W.heap.size ∧ Below W.heap.size W w') := fun v bs W h hl => newReader_new W v bs h (by omega)
  have HKP : Hid (∀ B g c lv bs W, Own8 W B g c (bs ++ [201, 202]) → RowAt .u8 W lv bs → bs.length ≤ 140737488351232 → Calls Tryd.prog 31 #[.slice (some ⟨g, 0, none⟩) (bs.length + 2) c, lv] W fun e w' => e = .returned (.bool true) ∧ Below W.heap.size W w') := fun B g c lv bs W h hl hb => kept_any B g c lv bs W h hl (by omega)
  have HSB : Hid (∀ B g c bs W, Own8 W B g c (bs ++ [201, 202]) → RowAt .u8 W (.slice (some ⟨g, 0, none⟩) bs.length c) bs ∧ bs.length + 2 ≤ c) := fun B g c bs W h => by
    have hll : (bs ++ [201, 202]).length = bs.length + 2 := by rw [List.length_append]; rfl
    have hsub := sub_row (f := 0) (p := bs.length) h.row (by omega) (by rw [hll]; omega)
    rw [List.drop_zero, List.take_left, Nat.sub_zero, Nat.sub_zero] at hsub
    have hcl := h.parts.2.1
    rw [hll] at hcl
    exact ⟨hsub, hcl⟩
  have HLX := hide lx
  have HLY := hide ly
  obtain ⟨n, hn⟩ : ∃ n, n = x.length := ⟨_, rfl⟩
  obtain ⟨m, hm⟩ : ∃ m, m = y.length := ⟨_, rfl⟩
  obtain ⟨k, hk⟩ : ∃ k, k = ops.length := ⟨_, rfl⟩
  have HN := hide hn
  have HM := hide hm
  have HK := hide hk
  rw [← hn] at HX lx ⊢
  rw [← hm] at HY ly ⊢
  rw [← hk] at HS hcs ⊢
  clear hx hy hs bx by' hsu hn hm hk
  have st0 := hide True.intro
  go_enter Tryd.func8, Tryd.ntmps8
  go_upto_block 0 with (first
    | (go_at_call 27; clear st0; refine (HRO.out _ x _ HX.out HLX.out).mono ?_; rintro e w1 ⟨gc, cc, rfl, hown, hb⟩; rw [← HN.out]; have HC1 := hide hown; have HB1 := hide hb; have hg1 := hown.parts.1; have hgs1 : gc < w1.heap.size := (by obtain ⟨_, _, _, hh, _⟩ := hown.parts; exact lt_of_heap hh); clear hown hb)
    | (go_at_call 27; refine (HRO.out _ y _ (HY.out.below HB1.out) HLY.out).mono ?_; rintro e w2 ⟨gd, cd, rfl, hown, hb⟩; rw [← HM.out]; have HD2 := hide hown; have HC2 := hide (HC1.out.below hb); have HB2 := hide (below_alloc_on HB1.out hb); have hg2 := hown.parts.1; have hgs2 : gd < w2.heap.size := (by obtain ⟨_, _, _, hh, _⟩ := hown.parts; exact lt_of_heap hh); have hs12 := hb.size; obtain ⟨sr1, hcc⟩ := HSB.out _ _ _ _ _ HC2.out; rw [← HN.out] at hcc sr1; have HR2 := hide sr1; have j1 : (n : Int) ≤ (cc : Int) := (by omega); clear hown hb HC1 HB1 sr1)
    | (go_at_call 17; refine (HNR.out _ x _ HR2.out HLX.out).mono ?_; rintro e w3 ⟨p, rfl, hp, hrd, hb⟩; have HP3 := hide hrd; have HC3 := hide (HC2.out.below hb); have HD3 := hide (HD2.out.below hb); have HB3 := hide (below_alloc_on HB2.out hb); have hs23 := hb.size; have hp3 : p < w3.heap.size := (by obtain ⟨_, _, hh, _⟩ := hrd; exact lt_of_heap hh); obtain ⟨sr2, hcd⟩ := HSB.out _ _ _ _ _ HD3.out; rw [← HM.out] at hcd sr2; have HR3 := hide sr2; have j2 : (m : Int) ≤ (cd : Int) := (by omega); clear hrd hb HC2 HD2 HB2 sr2 HR2)
    | (go_at_call 17; refine (HNR.out _ y _ HR3.out HLY.out).mono ?_; rintro e w4 ⟨q, rfl, hq, hrd, hb⟩; have HQ4 := hide hrd; have HP4 := hide (HP3.out.below hb); have HC4 := hide (HC3.out.below hb); have HD4 := hide (HD3.out.below hb); have HB4 := hide (below_alloc_on HB3.out hb); have hs34 := hb.size; have hq4 : q < w4.heap.size := (by obtain ⟨_, _, hh, _⟩ := hrd; exact lt_of_heap hh); clear hrd hb HC3 HD3 HB3 HR3 HP3)
    | (go_at_call 31; refine (by have := HKP.out _ gc cc (.slice ax n cx) x _ HC4.out (HX.out.below HB4.out) HLX.out; rw [← HN.out] at this; exact this : Calls Tryd.prog 31 _ _ _).mono ?_; rintro e w5 ⟨rfl, hb⟩; have HQ5 := hide (HQ4.out.below hb); have HP5 := hide (HP4.out.below hb); have HC5 := hide (HC4.out.below hb); have HD5 := hide (HD4.out.below hb); have HB5 := hide (below_alloc_on HB4.out hb); have hs45 := hb.size; clear hb HC4 HD4 HB4 HQ4 HP4)
    | (go_at_call 31; refine (by have := HKP.out _ gd cd (.slice ay m cy) y _ HD5.out (HY.out.below HB5.out) HLY.out; rw [← HM.out] at this; exact this : Calls Tryd.prog 31 _ _ _).mono ?_; rintro e w6 ⟨rfl, hb⟩; have HQ6 := hide (HQ5.out.below hb); have HP6 := hide (HP5.out.below hb); have HC6 := hide (HC5.out.below hb); have HD6 := hide (HD5.out.below hb); have HB6 := hide (below_alloc_on HB5.out hb); have hs56 := hb.size; clear hb HC5 HD5 HB5 HQ5 HP5)
    | fail)
  have hd1 : gc ≠ gd := by omega
  have hF1 : gc < w2.heap.size := by omega
  have HFQ : Hid (gd < w3.heap.size ∧ gc < w3.heap.size ∧ q ≠ gc ∧ q ≠ gd ∧ p ≠ gc ∧ p ≠ gd ∧ p ≠ q ∧ w.heap.size ≤ gc ∧ w.heap.size ≤ gd ∧ w.heap.size ≤ p ∧ w.heap.size ≤ q ∧ gc < w2.heap.size ∧ gd < w2.heap.size ∧ gd ≠ gc) := by
    have a1 := HB6.out.size
    exact ⟨by omega, by omega, by omega, by omega, by omega, by omega, by omega, by omega, by omega, by omega, by omega, by omega, by omega, by omega⟩
  generalize w2.heap.size = F2 at HP6 HFQ
  generalize w3.heap.size = F3 at HQ6 HFQ
  clear hd1 hF1 hg1 hg2 hgs1 hgs2 hs12 hs23 hs34 hs45 hs56 hp hq hp3 hq4 j1 j2 HSB HKP HNR HRO
  go_cut [11] from 49 to 57 (fun t wx => RdF wx p x F2 ∧ RdF wx q y F3 ∧ (∃ dd : List Int, dd.length = m + 2 ∧ Own8 wx w1.heap.size gd cd dd) ∧ Below w.heap.size w wx)
  case first =>
    go_wp2_with fail
    go_loopw [11] (fun t wr => ∃ (i : Nat) (ee : List Int), i ≤ n + 2 ∧ t = .int .i64 (i : Int) ∧ ee.length = n + 2 ∧ Own8 wr w.heap.size gc cc ee ∧ RdF wr p x F2 ∧ RdF wr q y F3 ∧ (∃ dd : List Int, dd.length = m + 2 ∧ Own8 wr w1.heap.size gd cd dd) ∧ Below w.heap.size w wr) (fun t _ => n + 2 - (RowKit.intOf t).toNat)
    case atStart => exact ⟨0, _, by omega, rfl, by rw [List.length_append, ← HN.out]; rfl, HC6.out, HP6.out, HQ6.out, ⟨_, by rw [List.length_append, ← HM.out]; rfl, HD6.out⟩, HB6.out⟩
    case round =>
      obtain ⟨i, ee, hi, rfl, hee, hown, hpf, hqf, hdd, hbl⟩ := hrel
      clear HC6 HP6 HQ6 HD6 HB6
      by_cases hlt : i < n + 2
      · have c0 := hown.cell (k := i) (by omega)
        have f0 := hown.free i
        have hbut : But gc wr (wr.setCell ⟨gc, i, none⟩ (.int .u8 77)) := But.setCell wr ⟨gc, i, none⟩ _
        have HO := hide (hown.put (k := i) (by omega) 77)
        obtain ⟨q1, q2, q3, q4, q5, q6, q7, q8, q9, q10, q11, q12, q13, q14⟩ := HFQ.out
        have HPF := hide (hpf.but hbut q12 q5)
        have HQF := hide (hqf.but hbut q2 q3)
        have HDD : Hid (∃ dd : List Int, dd.length = m + 2 ∧ Own8 (wr.setCell ⟨gc, i, none⟩ (.int .u8 77)) w1.heap.size gd cd dd) := by
          obtain ⟨dd, h1, h2⟩ := hdd
          refine ⟨dd, h1, ⟨own_other h2.own (Nat.zero_le _) (fun g' e => ?_)⟩⟩
          simp only [Option.some.injEq, Addr.mk.injEq] at e
          exact fun h => q14 (e.1.trans h)
        have HBL := hide (hbl.setCell (p := ⟨gc, i, none⟩) q8 (.int .u8 77))
        have HEE : Hid ((ee.set i 77).length = n + 2) := hide (by rw [List.length_set]; exact hee)
        have hcc2 : i < cc := by omega
        clear hown hpf hqf hdd hbl hbut hee q1 q2 q3 q4 q5 q6 q7 q8 q9 q10 q11 q12 q13 q14
        go_wp2
        go_roundw
        case rel => exact ⟨i + 1, _, hlt, by simp, HEE.out, HO.out, HPF.out, HQF.out, HDD.out, HBL.out⟩
        case measure => exact mdecR hlt
      · obtain rfl : i = n + 2 := by omega
        have HZ := hide (And.intro hpf (And.intro hqf (And.intro hdd hbl)))
        clear hown hpf hqf hdd hbl hee
        go_wp2_with fail
        go_meet
        case rel => exact HZ.out
  case rest =>
    clear HC6 HP6 HQ6 HD6 HB6
    obtain ⟨hpf, hqf, hdd, hbl⟩ := hcut
    have HP7 := hide hpf
    have HQ7 := hide hqf
    have HD7 := hide hdd
    have HB7 := hide hbl
    clear hpf hqf hdd hbl
    go_upto_block 2 with fail
    go_cut [12] from 58 to 66 (fun t wx => RdF wx p x F2 ∧ RdF wx q y F3 ∧ Below w.heap.size w wx)
    case first =>
      go_wp2_with fail
      go_loopw [12] (fun t wr => ∃ (i : Nat) (ee : List Int), i ≤ m + 2 ∧ t = .int .i64 (i : Int) ∧ ee.length = m + 2 ∧ Own8 wr w1.heap.size gd cd ee ∧ RdF wr p x F2 ∧ RdF wr q y F3 ∧ Below w.heap.size w wr) (fun t _ => m + 2 - (RowKit.intOf t).toNat)
      case atStart => obtain ⟨dd, h1, h2⟩ := HD7.out; exact ⟨0, dd, by omega, rfl, h1, h2, HP7.out, HQ7.out, HB7.out⟩
      case round =>
        obtain ⟨i, ee, hi, rfl, hee, hown, hpf, hqf, hbl⟩ := hrel
        clear HP7 HQ7 HD7 HB7
        by_cases hlt : i < m + 2
        · have c0 := hown.cell (k := i) (by omega)
          have f0 := hown.free i
          have hbut : But gd wr (wr.setCell ⟨gd, i, none⟩ (.int .u8 78)) := But.setCell wr ⟨gd, i, none⟩ _
          have HO := hide (hown.put (k := i) (by omega) 78)
          obtain ⟨q1, q2, q3, q4, q5, q6, q7, q8, q9, q10, q11, q12, q13, q14⟩ := HFQ.out
          have HPF := hide (hpf.but hbut q13 q6)
          have HQF := hide (hqf.but hbut q1 q4)
          have HBL := hide (hbl.setCell (p := ⟨gd, i, none⟩) q9 (.int .u8 78))
          have HEE : Hid ((ee.set i 78).length = m + 2) := hide (by rw [List.length_set]; exact hee)
          have hcc2 : i < cd := by omega
          clear hown hpf hqf hbl hbut hee q1 q2 q3 q4 q5 q6 q7 q8 q9 q10 q11 q12 q13 q14
          go_wp2
          go_roundw
          case rel => exact ⟨i + 1, _, hlt, by simp, HEE.out, HO.out, HPF.out, HQF.out, HBL.out⟩
          case measure => exact mdecR hlt
        · obtain rfl : i = m + 2 := by omega
          have HZ := hide (And.intro hpf (And.intro hqf hbl))
          clear hown hpf hqf hbl hee
          go_wp2_with fail
          go_meet
          case rel => exact HZ.out
    case rest =>
      clear HP7 HQ7 HD7 HB7
      obtain ⟨hpf, hqf, hbl⟩ := hcut
      have HP8 := hide hpf
      have HQ8 := hide hqf
      have HB8 := hide hbl
      clear hpf hqf hbl
      obtain ⟨q1, q2, q3, q4, q5, q6, q7, q8, q9, q10, q11, q12, q13, q14⟩ := HFQ.out
      have hbs := HB8.out.size
      obtain ⟨vx, hvx⟩ : ∃ v, v = Value.slice ax n cx := ⟨_, rfl⟩
      obtain ⟨vy, hvy⟩ : ∃ v, v = Value.slice ay m cy := ⟨_, rfl⟩
      have HR4 : Hid (R4 w ((wc.alloc (.cells #[.slice ax n cx, .int .i64 0] 58)).alloc (.cells #[.slice ay m cy, .int .i64 0] 58)) p wc.heap.size q (wc.heap.size + 1) (.slice ax n cx) (.slice ay m cy) x y 0 0) := by
        have b1 : Below wc.heap.size wc (wc.alloc (.cells #[.slice ax n cx, .int .i64 0] 58)) := below_alloc' (Below.refl _ _) _
        have b2 : Below (wc.alloc (.cells #[.slice ax n cx, .int .i64 0] 58)).heap.size (wc.alloc (.cells #[.slice ax n cx, .int .i64 0] 58)) ((wc.alloc (.cells #[.slice ax n cx, .int .i64 0] 58)).alloc (.cells #[.slice ay m cy, .int .i64 0] 58)) := below_alloc' (Below.refl _ _) _
        have b12 := below_alloc_on b1 b2
        have hpl : p < wc.heap.size := by obtain ⟨_, _, hh, _⟩ := HP8.out; exact lt_of_heap hh
        have hql : q < wc.heap.size := by obtain ⟨_, _, hh, _⟩ := HQ8.out; exact lt_of_heap hh
        have r1 := (rrd_new HX.out HB8.out).below b2
        have r2 := rrd_new HY.out (below_alloc_on HB8.out b1)
        have e1 : (wc.alloc (.cells #[.slice ax n cx, .int .i64 0] 58)).heap.size = wc.heap.size + 1 := by simp
        rw [e1] at r2
        exact ⟨⟨HP8.out.is.below b12, r1, by omega, Nat.zero_le _⟩, ⟨HQ8.out.is.below b12, r2, by omega, Nat.zero_le _⟩, ⟨q7, by omega, by omega, by omega⟩, ⟨by omega, by omega, by omega, by omega⟩, below_alloc_on HB8.out b12, HSU.out.below (below_alloc_on HB8.out b12)⟩
      clear q1 q2 q3 q4 q5 q6 q7 q8 q9 q10 q11 q12 q13 q14 hvx hvy vx vy HP8 HQ8 HB8
      have HP0 : Hid (0 < p ∧ 0 < q) := hide (by have := HFQ.out; omega)
      go_wp2_with fail
      generalize ((wc.alloc (.cells #[.slice ax n cx, .int .i64 0] 58)).alloc (.cells #[.slice ay m cy, .int .i64 0] 58)) = wd at HR4 ⊢
      generalize wc.heap.size = r at HR4 ⊢
      obtain ⟨s, hs⟩ : ∃ s, s = r + 1 := ⟨_, rfl⟩
      rw [← hs] at HR4 ⊢
      clear hs HFQ
      go_loopw [15] (fun t wr => ∃ (i P Q : Nat), i ≤ k ∧ t = .int .i64 (i : Int) ∧ R4 w wr p r q s (.slice ax n cx) (.slice ay m cy) x y P Q) (fun t _ => k - (RowKit.intOf t).toNat)
      case atStart => exact ⟨0, 0, 0, by omega, rfl, HR4.out⟩
      case round =>
        obtain ⟨i, P, Q, hi, rfl, hr4⟩ := hrel
        clear HR4
        have HR4 := hide hr4
        by_cases hlt : i < k
        · have hlti : (i : Int) < (k : Int) := by omega
          obtain ⟨g, o, rfl, hg, pc⟩ := (HS.out.below hr4.bel).at i (by have := HK.out; omega)
          have HRA1 := hide (fun o => reads_any wr p r P _ x o hr4.a HBX.out HLX.out hr4.su HP0.out.1)
          have HRA2 := hide (fun o => reads_any wr q s Q _ y o hr4.b HBY.out HLY.out hr4.su HP0.out.2)
          clear hr4
          obtain ⟨op, hop⟩ : ∃ op, op = ops[i]'(by have := HK.out; omega) := ⟨_, rfl⟩
          rw [← hop] at pc
          clear hop
          obtain ⟨kind, sec, vv, nn, ba, bl, bc⟩ := op
          have p0 : wr.cell? ⟨g, o + i * 5, none⟩ = some (.int .i64 kind) := pc 0 _ rfl
          have p1 : wr.cell? ⟨g, o + i * 5 + 1, none⟩ = some (.bool sec) := pc 1 _ rfl
          have p2 : wr.cell? ⟨g, o + i * 5 + 2, none⟩ = some (.int .u64 vv) := pc 2 _ rfl
          have p3 : wr.cell? ⟨g, o + i * 5 + 3, none⟩ = some (.int .i64 nn) := pc 3 _ rfl
          have p4 : wr.cell? ⟨g, o + i * 5 + 4, none⟩ = some (.slice ba bl bc) := pc 4 _ rfl
          have HA1 := hide (HRA1.out ⟨kind, sec, vv, nn, ba, bl, bc⟩)
          have HA2 := hide (HRA2.out ⟨kind, sec, vv, nn, ba, bl, bc⟩)
          unfold RP at HA1 HA2
          clear pc HRA1 HRA2
          cases sec with
          | false =>
            go_upto_region 24 with (first
              | (go_at_call 32; refine HA1.out.mono ?_; rintro e w2 ⟨rfl, P2, hrp, hb2⟩; have HF' := hide (HR4.out.one hw0 hrp hb2); clear hrp hb2)
              | fail)
            obtain ⟨Q2, hQ2⟩ : ∃ Q2, Q2 = Q := ⟨_, rfl⟩
            have HF : Hid (R4 w w2 p r q s (.slice ax n cx) (.slice ay m cy) x y P2 Q2) := hide (by rw [hQ2]; exact HF'.out)
            clear HF' hQ2 p0 p1 p2 p3 p4 HA1 HA2
            have HF2 := hide HF.out
            obtain ⟨c0, c1, f1⟩ := HF.out.a.b.cells
            obtain ⟨d0, d1, f2⟩ := HF.out.b.b.cells
            have y1 := gw_cell c1
            have y2 := gw_cell d1
            have HT1 : Hid (∀ W, RdIs W p x P2 → Calls Tryd.prog 20 #[.pointer (some ⟨p, 0, none⟩)] W fun e w' => e = .returned (.int .i64 P2) ∧ w' = W) := fun W hW => at_any W p x P2 hW
            have HT2 : Hid (∀ W, RdIs W q y Q2 → Calls Tryd.prog 20 #[.pointer (some ⟨q, 0, none⟩)] W fun e w' => e = .returned (.int .i64 Q2) ∧ w' = W) := fun W hW => at_any W q y Q2 hW
            have HL1 : Hid (∀ W, RdIs W p x P2 → Calls Tryd.prog 22 #[.pointer (some ⟨p, 0, none⟩)] W _) := fun W hW => left_any W p x P2 hW HF.out.a.le (Nat.le_trans HLX.out (by omega))
            have HL2 : Hid (∀ W, RdIs W q y Q2 → Calls Tryd.prog 22 #[.pointer (some ⟨q, 0, none⟩)] W _) := fun W hW => left_any W q y Q2 hW HF.out.b.le (Nat.le_trans HLY.out (by omega))
            have HM1 : Hid (∀ W, RRd W r (.slice ax n cx) x P2 → Calls Tryd.prog 33 #[.pointer (some ⟨r, 0, none⟩)] W _) := fun W hW => rleft_any W r P2 _ x hW HF.out.a.le (Nat.le_trans HLX.out (by omega))
            have HM2 : Hid (∀ W, RRd W s (.slice ay m cy) y Q2 → Calls Tryd.prog 33 #[.pointer (some ⟨s, 0, none⟩)] W _) := fun W hW => rleft_any W s Q2 _ y hW HF.out.b.le (Nat.le_trans HLY.out (by omega))
            refine wp_region_gw (by kernel_rfl) (by kernel_rfl) ?_
            repeat (go_big_quiet_step (first
              | (go_at_call_of 20 (Value.pointer (some ⟨p, 0, none⟩)); exact gw_same (HT1.out _ (HF2.out.a.a.below (GW.bel _))))
              | (go_at_call_of 20 (Value.pointer (some ⟨q, 0, none⟩)); exact gw_same (HT2.out _ (HF2.out.b.a.below (GW.bel _))))
              | (go_at_call_of 22 (Value.pointer (some ⟨p, 0, none⟩)); exact gw_of (HL1.out _ (HF2.out.a.a.below (GW.bel _))))
              | (go_at_call_of 22 (Value.pointer (some ⟨q, 0, none⟩)); exact gw_of (HL2.out _ (HF2.out.b.a.below (GW.bel _))))
              | (go_at_call_of 33 (Value.pointer (some ⟨r, 0, none⟩)); exact gw_of (HM1.out _ (HF2.out.a.b.below (GW.bel _))))
              | (go_at_call_of 33 (Value.pointer (some ⟨s, 0, none⟩)); exact gw_of (HM2.out _ (HF2.out.b.b.below (GW.bel _))))
              | rfl))
            refine wpQuiet_nil ?_
            intro _ hw'
            obtain ⟨x', hw''⟩ := hw'
            subst hw''
            have HZ := hide (HF2.out.below x'.bel)
            clear y1 y2 c0 c1 d0 d1 f1 f2 HF HF2
            generalize x'.world = w3 at HZ ⊢
            clear x'
            go_wp2
            go_roundw
            case rel => exact ⟨i + 1, P2, Q2, hlt, by simp, HZ.out⟩
            case measure => exact mdecR hlt
          | true =>
            go_upto_region 24 with (first
              | (go_at_call 32; refine HA2.out.mono ?_; rintro e w2 ⟨rfl, Q2, hrp, hb2⟩; have HF' := hide (HR4.out.two hw0 hrp hb2); clear hrp hb2)
              | fail)
            obtain ⟨P2, hP2⟩ : ∃ P2, P2 = P := ⟨_, rfl⟩
            have HF : Hid (R4 w w2 p r q s (.slice ax n cx) (.slice ay m cy) x y P2 Q2) := hide (by rw [hP2]; exact HF'.out)
            clear HF' hP2 p0 p1 p2 p3 p4 HA1 HA2
            have HF2 := hide HF.out
            obtain ⟨c0, c1, f1⟩ := HF.out.a.b.cells
            obtain ⟨d0, d1, f2⟩ := HF.out.b.b.cells
            have y1 := gw_cell c1
            have y2 := gw_cell d1
            have HT1 : Hid (∀ W, RdIs W p x P2 → Calls Tryd.prog 20 #[.pointer (some ⟨p, 0, none⟩)] W fun e w' => e = .returned (.int .i64 P2) ∧ w' = W) := fun W hW => at_any W p x P2 hW
            have HT2 : Hid (∀ W, RdIs W q y Q2 → Calls Tryd.prog 20 #[.pointer (some ⟨q, 0, none⟩)] W fun e w' => e = .returned (.int .i64 Q2) ∧ w' = W) := fun W hW => at_any W q y Q2 hW
            have HL1 : Hid (∀ W, RdIs W p x P2 → Calls Tryd.prog 22 #[.pointer (some ⟨p, 0, none⟩)] W _) := fun W hW => left_any W p x P2 hW HF.out.a.le (Nat.le_trans HLX.out (by omega))
            have HL2 : Hid (∀ W, RdIs W q y Q2 → Calls Tryd.prog 22 #[.pointer (some ⟨q, 0, none⟩)] W _) := fun W hW => left_any W q y Q2 hW HF.out.b.le (Nat.le_trans HLY.out (by omega))
            have HM1 : Hid (∀ W, RRd W r (.slice ax n cx) x P2 → Calls Tryd.prog 33 #[.pointer (some ⟨r, 0, none⟩)] W _) := fun W hW => rleft_any W r P2 _ x hW HF.out.a.le (Nat.le_trans HLX.out (by omega))
            have HM2 : Hid (∀ W, RRd W s (.slice ay m cy) y Q2 → Calls Tryd.prog 33 #[.pointer (some ⟨s, 0, none⟩)] W _) := fun W hW => rleft_any W s Q2 _ y hW HF.out.b.le (Nat.le_trans HLY.out (by omega))
            refine wp_region_gw (by kernel_rfl) (by kernel_rfl) ?_
            repeat (go_big_quiet_step (first
              | (go_at_call_of 20 (Value.pointer (some ⟨p, 0, none⟩)); exact gw_same (HT1.out _ (HF2.out.a.a.below (GW.bel _))))
              | (go_at_call_of 20 (Value.pointer (some ⟨q, 0, none⟩)); exact gw_same (HT2.out _ (HF2.out.b.a.below (GW.bel _))))
              | (go_at_call_of 22 (Value.pointer (some ⟨p, 0, none⟩)); exact gw_of (HL1.out _ (HF2.out.a.a.below (GW.bel _))))
              | (go_at_call_of 22 (Value.pointer (some ⟨q, 0, none⟩)); exact gw_of (HL2.out _ (HF2.out.b.a.below (GW.bel _))))
              | (go_at_call_of 33 (Value.pointer (some ⟨r, 0, none⟩)); exact gw_of (HM1.out _ (HF2.out.a.b.below (GW.bel _))))
              | (go_at_call_of 33 (Value.pointer (some ⟨s, 0, none⟩)); exact gw_of (HM2.out _ (HF2.out.b.b.below (GW.bel _))))
              | rfl))
            refine wpQuiet_nil ?_
            intro _ hw'
            obtain ⟨x', hw''⟩ := hw'
            subst hw''
            have HZ := hide (HF2.out.below x'.bel)
            clear y1 y2 c0 c1 d0 d1 f1 f2 HF HF2
            generalize x'.world = w3 at HZ ⊢
            clear x'
            go_wp2
            go_roundw
            case rel => exact ⟨i + 1, P2, Q2, hlt, by simp, HZ.out⟩
            case measure => exact mdecR hlt
        · obtain rfl : i = k := by omega
          have HBL := hide hr4.bel
          clear hr4
          go_wp2
          go_ret
          exact ⟨rfl, HBL.out⟩
end Go.Proofs.YtpfpelhhebafeaaDoor
