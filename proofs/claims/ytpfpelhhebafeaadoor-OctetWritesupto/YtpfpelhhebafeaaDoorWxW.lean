/- OctetWrites: the walk. -/
import Derived.Test.YtpfpelhhebafeaaDoorWxD
import Derived.Test.YtpfpelhhebafeaaDoorOpenOps
import Derived.LaidEqlPtr
namespace Go.Proofs.YtpfpelhhebafeaaDoor
open Go.RowKit Go.Lib Go.Maps
set_option linter.unusedVariables false
set_option linter.unusedSimpArgs false
theorem writes_any (w X : World) (f : Nat → WR) (p r : Nat) (bs : List Int) (o : OpR) (h : WS w X f) (t : Two f p r bs) (hx : o.v < 18446744073709551616) (hb : RowAt .u8 w o.bv o.b) (hbb : Byt o.b) (hlen : bs.length + o.b.length ≤ 90000000000000) (hs : SumsAt w) :
    Calls Tryd.prog 30 #[.agg #[.int .i64 o.kind, .bool o.sec, .int .u64 (o.v : Int), .int .i64 o.n, o.bv], .pointer (some ⟨(f p).b, 0, none⟩), .pointer (some ⟨(f r).b, 0, none⟩)] X (RW w X f p r bs (10 + o.b.length)) := by
  by_cases hk : 1 ≤ o.kind ∧ o.kind ≤ 6
  · have h6 : o.kind = 1 ∨ o.kind = 2 ∨ o.kind = 3 ∨ o.kind = 4 ∨ o.kind = 5 ∨ o.kind = 6 := by omega
    rcases h6 with e | e | e | e | e | e <;> rw [e]
    · exact writes_word w X f p r bs o.sec o.v o.n o.bv o.b h t hx hb hbb hlen hs
    · exact writes_var w X f p r bs o.sec o.v o.n o.bv o.b h t hx hb hbb hlen hs
    · exact writes_bytes w X f p r bs o.sec o.v o.n o.bv o.b h t hx hb hbb hlen hs
    · exact writes_seal w X f p r bs o.sec o.v o.n o.bv o.b h t hx hb hbb hlen hs
    · exact writes_len w X f p r bs o.sec o.v o.n o.bv o.b h t hx hb hbb hlen hs
    · exact writes_out w X f p r bs o.sec o.v o.n o.bv o.b h t hx hb hbb hlen hs
  · exact writes_else w X f p r bs o.kind o.sec o.v o.n o.bv o.b h t hx hb hbb hlen hs hk
theorem size69 : (Tryd.prog.info? 69).map (·.size) = some 1 := by kernel_rfl
/-- Two writers are two pointers. -/
theorem eql_two {W : World} {a b : Nat} {va vb : Value} {xs ys : List Int} (ha : WX W 69 a va xs) (hb : WX W 69 b vb ys) (h : ¬ a = b) :
    (binOp .eql 25 (.pointer (some ⟨a, 0, none⟩)) (.pointer (some ⟨b, 0, none⟩))).run Tryd.prog W = .ok (.bool false) W := by
  obtain ⟨j, hj, hjs⟩ := Option.map_eq_some_iff.1 size69
  exact run_eql_ptr_other W Tryd.underlying25 hj (by rw [hjs]; decide) (fun e => h (by injection e)) ha.hb hb.hb
/-- The four writers at their places. -/
structure W4 (w X : World) (a r b s : Nat) (xs ys : List Int) (f : Nat → WR) : Prop where
  ws : WS w X f
  one : Two f 0 1 xs
  two : Two f 2 3 ys
  fa : (f 0).b = a
  fr : (f 1).b = r
  fb : (f 2).b = b
  fs : (f 3).b = s
section
variable {w X Y : World} {a r b s : Nat} {xs ys : List Int} {f : Nat → WR}
theorem W4.below (h : W4 w X a r b s xs ys f) (hb : Below X.heap.size X Y) : W4 w Y a r b s xs ys f := ⟨h.ws.below hb, h.one, h.two, h.fa, h.fr, h.fb, h.fs⟩
theorem W4.first {v1 v2 : Value} {bs' : List Int} (h : W4 w X a r b s xs ys f) (hw : WS w Y (wup (wup f 0 ⟨69, (f 0).b, v1, bs'⟩) 1 ⟨54, (f 1).b, v2, bs'⟩)) : W4 w Y a r b s bs' ys (wup (wup f 0 ⟨69, (f 0).b, v1, bs'⟩) 1 ⟨54, (f 1).b, v2, bs'⟩) := by
  refine ⟨hw, ⟨by decide, by decide, by decide, ?_, ?_, ?_, ?_⟩, ⟨by decide, by decide, by decide, ?_, ?_, ?_, ?_⟩, ?_, ?_, ?_, ?_⟩
  all_goals simp [wup]
  · exact h.two.tp
  · exact h.two.tr
  · exact h.two.bp
  · exact h.two.br
  · exact h.fa
  · exact h.fr
  · exact h.fb
  · exact h.fs
theorem W4.second {v1 v2 : Value} {bs' : List Int} (h : W4 w X a r b s xs ys f) (hw : WS w Y (wup (wup f 2 ⟨69, (f 2).b, v1, bs'⟩) 3 ⟨54, (f 3).b, v2, bs'⟩)) : W4 w Y a r b s xs bs' (wup (wup f 2 ⟨69, (f 2).b, v1, bs'⟩) 3 ⟨54, (f 3).b, v2, bs'⟩) := by
  refine ⟨hw, ⟨by decide, by decide, by decide, ?_, ?_, ?_, ?_⟩, ⟨by decide, by decide, by decide, ?_, ?_, ?_, ?_⟩, ?_, ?_, ?_, ?_⟩
  all_goals simp [wup]
  · exact h.one.tp
  · exact h.one.tr
  · exact h.one.bp
  · exact h.one.br
  · exact h.fa
  · exact h.fr
  · exact h.fb
  · exact h.fs
end
theorem wx_new {X : World} {t : TypeId} : WX (X.alloc (.cells #[.slice none 0 0] t)) t X.heap.size (.slice none 0 0) [] := ⟨heap_new _ _, World.ownsRow_nil _ _ _ _⟩
def f4 (a r b s : Nat) : Nat → WR := fun i => if i = 0 then ⟨69, a, .slice none 0 0, []⟩ else if i = 1 then ⟨54, r, .slice none 0 0, []⟩ else if i = 2 then ⟨69, b, .slice none 0 0, []⟩ else ⟨54, s, .slice none 0 0, []⟩
theorem four {P : Nat → Prop} (h0 : P 0) (h1 : P 1) (h2 : P 2) (h3 : P 3) : ∀ i, i < 4 → P i := by
  intro i hi
  have : i = 0 ∨ i = 1 ∨ i = 2 ∨ i = 3 := by omega
  rcases this with rfl | rfl | rfl | rfl
  · exact h0
  · exact h1
  · exact h2
  · exact h3
theorem w4_start {w X : World} {a r b s : Nat} (h0 : WX X 69 a (.slice none 0 0) []) (h1 : WX X 54 r (.slice none 0 0) []) (h2 : WX X 69 b (.slice none 0 0) []) (h3 : WX X 54 s (.slice none 0 0) []) (hb : Below w.heap.size w X)
    (la : w.heap.size ≤ a) (lr : w.heap.size ≤ r) (lb : w.heap.size ≤ b) (ls : w.heap.size ≤ s) (d1 : a ≠ r) (d2 : a ≠ b) (d3 : a ≠ s) (d4 : r ≠ b) (d5 : r ≠ s) (d6 : b ≠ s) : W4 w X a r b s [] [] (f4 a r b s) := by
  refine ⟨⟨four h0 h1 h2 h3, four (by simp [f4]) (by simp [f4]) (by simp [f4]) (by simp [f4]), ?_, ?_, ?_, ?_, hb⟩, ⟨by decide, by decide, by decide, rfl, rfl, rfl, rfl⟩, ⟨by decide, by decide, by decide, rfl, rfl, rfl, rfl⟩, rfl, rfl, rfl, rfl⟩
  · intro i j hi hj hne
    unfold f4
    repeat' split
    all_goals first | omega | (simp only; omega)
  · intro i j k hi hj hne e
    have : (f4 a r b s i).v = .slice none 0 0 := by unfold f4; (repeat' split) <;> rfl
    rw [this] at e
    cases e
  · intro i hi
    have h5 : (f4 a r b s i).v = .slice none 0 0 := by unfold f4; (repeat' split) <;> rfl
    refine ⟨?_, fun k e => by rw [h5] at e; cases e⟩
    unfold f4
    repeat' split
    all_goals (simp only; omega)
  · intro i hi
    have h5 : (f4 a r b s i).bs = [] := by unfold f4; (repeat' split) <;> rfl
    rw [h5]
    intro x hx
    simp at hx
theorem mdecW {i n : Nat} (h : i < n) : n - (RowKit.intOf (Value.int .i64 ((i : Int) + 1))).toNat < n - (RowKit.intOf (Value.int .i64 (i : Int))).toNat := by
  simp [RowKit.intOf]; omega
theorem sum_next {ops : List OpR} {i : Nat} {o : OpR} (h : ops[i]? = some o) : ((ops.take (i + 1)).map fun o => 10 + o.b.length).sum = ((ops.take i).map fun o => 10 + o.b.length).sum + (10 + o.b.length) := by
  rw [List.take_add_one, h]
  simp
set_option maxRecDepth 100000 in
set_option maxHeartbeats 16000000 in
theorem writes_law (v : Value) (ops : List OpR) (w : World) (hv : OpsAt w v ops) (ho : OpsOk w ops) (hsu : SumsAt w) :
    Calls Tryd.prog 7 #[v] w fun e w' => e = .returned (.bool true) ∧ Below w.heap.size w w' := by
  have HO := hide ho
  have HV := hide hv
  have HSU := hide hsu
  obtain ⟨ao, c, rfl, hc, h63, _⟩ := hv
  have HNW := hide newWriter_any
  obtain ⟨k, hk⟩ : ∃ k, k = ops.length := ⟨_, rfl⟩
  have HK := hide hk
  rw [← hk] at hc HV ⊢
  clear ho hsu hk
  have st0 := hide True.intro
  go_enter Tryd.func7, Tryd.ntmps7
  go_wp2_with (first
    | (go_at_call 12; clear st0; refine (HNW.out _).mono ?_; rintro e w1 ⟨a, rfl, hwo, hb1⟩; have HA1 : Hid (WX w1 69 a (.slice none 0 0) []) := hide ⟨hwo.hb, World.ownsRow_nil _ _ _ _⟩; have hal : w.heap.size ≤ a := hwo.lo; have ha1 : a < w1.heap.size := lt_of_heap hwo.hb; have HB1 := hide hb1; clear hwo hb1)
    | (go_at_call 12; refine (HNW.out _).mono ?_; rintro e w2 ⟨b, rfl, hwo, hb2⟩; have HBb : Hid (WX w2 69 b (.slice none 0 0) []) := hide ⟨hwo.hb, World.ownsRow_nil _ _ _ _⟩; have hbl : w1.heap.size ≤ b := hwo.lo; have hb2l : b < w2.heap.size := lt_of_heap hwo.hb; have HA2 := hide (HA1.out.below hb2); have HB2 := hide (below_alloc_on HB1.out hb2); have hab : ¬ a = b := (by omega); have hs12 := hb2.size; have hql := eql_two HA2.out HBb.out hab; clear hwo hb2 HA1 HB1)
    | fail)
  have HW0 : Hid (W4 w ((w2.alloc (.cells #[.slice none 0 0] 54)).alloc (.cells #[.slice none 0 0] 54)) a w2.heap.size b (w2.heap.size + 1) [] [] (f4 a w2.heap.size b (w2.heap.size + 1))) := by
    have b1 : Below w2.heap.size w2 (w2.alloc (.cells #[.slice none 0 0] 54)) := below_alloc' (Below.refl _ _) _
    have b2 : Below (w2.alloc (.cells #[.slice none 0 0] 54)).heap.size (w2.alloc (.cells #[.slice none 0 0] 54)) ((w2.alloc (.cells #[.slice none 0 0] 54)).alloc (.cells #[.slice none 0 0] 54)) := below_alloc' (Below.refl _ _) _
    have b12 := below_alloc_on b1 b2
    have h3 := wx_new (X := w2.alloc (.cells #[.slice none 0 0] 54)) (t := 54)
    rw [show (w2.alloc (.cells #[.slice none 0 0] 54)).heap.size = w2.heap.size + 1 by simp] at h3
    have h5 := HB2.out.size
    exact w4_start (HA2.out.below b12) (wx_new.below b2) (HBb.out.below b12) h3 (below_alloc_on HB2.out b12) hal h5 (by omega) (by omega) (by omega) (by omega) (by omega) (by omega) (by omega) (by omega)
  generalize ((w2.alloc (.cells #[.slice none 0 0] 54)).alloc (.cells #[.slice none 0 0] 54)) = w3 at HW0 ⊢
  obtain ⟨r, hr⟩ : ∃ r, r = w2.heap.size := ⟨_, rfl⟩
  rw [← hr] at HW0 ⊢
  obtain ⟨s, hs⟩ : ∃ s, s = r + 1 := ⟨_, rfl⟩
  rw [← hs] at HW0 ⊢
  clear hql hr hs hal ha1 hbl hb2l HA2 HBb HB2 hs12
  go_loopw [7] (fun t wr => ∃ (i : Nat) (xs ys : List Int) (f : Nat → WR), i ≤ k ∧ t = .int .i64 (i : Int) ∧ W4 w wr a r b s xs ys f ∧ xs.length + ys.length ≤ ((ops.take i).map fun o => 10 + o.b.length).sum) (fun t _ => k - (RowKit.intOf t).toNat)
  case atStart => exact ⟨0, [], [], _, by omega, rfl, HW0.out, by simp⟩
  case round =>
    obtain ⟨i, xs, ys, f, hik, rfl, hw4, hsum⟩ := hrel
    clear HW0
    have HW4 := hide hw4
    have HSM := hide hsum
    have HS0 := hide (HO.out.sum i (by rw [← HK.out]; exact hik))
    by_cases hlt : i < k
    · have hil : i < ops.length := by rw [← HK.out]; exact hlt
      obtain ⟨o, ho⟩ : ∃ o, ops[i]? = some o := ⟨_, List.getElem?_eq_getElem hil⟩
      have hmem : o ∈ ops := List.mem_of_getElem? ho
      have HS1 := hide (HO.out.sum (i + 1) hil)
      rw [sum_next ho] at HS1
      have HSN := hide (sum_next ho)
      obtain ⟨ao', c', he, _, _, h3⟩ := HV.out.below hw4.ws.bel
      simp only [Value.slice.injEq] at he
      obtain ⟨rfl, hd1, rfl⟩ := he
      obtain ⟨g, q, rfl, c0, c1, c2, c3, c4⟩ := h3 i o ho
      have e0 := writes_any w wr f 0 1 xs o hw4.ws hw4.one (HO.out.v o hmem) (HO.out.b o hmem) (HO.out.r o hmem) (by have := HS1.out; omega) HSU.out
      have e1 := writes_any w wr f 2 3 ys o hw4.ws hw4.two (HO.out.v o hmem) (HO.out.b o hmem) (HO.out.r o hmem) (by have := HS1.out; omega) HSU.out
      rw [hw4.fa, hw4.fr] at e0
      rw [hw4.fb, hw4.fs] at e1
      unfold RW at e0 e1
      have HE0 := hide e0
      have HE1 := hide e1
      obtain ⟨kind, sec, vv, nn, bv, bb⟩ := o
      simp only at c0 c1 c2 c3 c4 HE0 HE1 HSN HS1
      have hlti : (i : Int) < (k : Int) := by omega
      clear e0 e1 hw4 hsum h3 hmem ho hil hd1
      cases sec with
      | false =>
        go_wp2_with (first
          | (go_at_call 30; refine HE0.out.mono ?_; rintro e w2 ⟨rfl, v1, v2, bs', hws, hln⟩; have HN4 := hide (HW4.out.first hws); have HLN := hide hln; clear hws hln)
          | fail)
        go_roundw
        case rel => exact ⟨i + 1, _, ys, _, hlt, by simp, HN4.out, by rw [HSN.out]; have h1 := HLN.out; have h2 := HSM.out; omega⟩
        case measure => exact mdecW hlt
      | true =>
        go_wp2_with (first
          | (go_at_call 30; refine HE1.out.mono ?_; rintro e w2 ⟨rfl, v1, v2, bs', hws, hln⟩; have HN4 := hide (HW4.out.second hws); have HLN := hide hln; clear hws hln)
          | fail)
        go_roundw
        case rel => exact ⟨i + 1, xs, _, _, hlt, by simp, HN4.out, by rw [HSN.out]; have h1 := HLN.out; have h2 := HSM.out; omega⟩
        case measure => exact mdecW hlt
    · obtain rfl : i = k := by omega
      have hbx : xs.length ≤ 50000000 := by have := HS0.out; omega
      have hby : ys.length ≤ 50000000 := by have := HS0.out; omega
      have HQ1 : Hid (∀ W, W4 w W a r b s xs ys f → WX W 69 a (f 0).v xs ∧ WX W 54 r (f 1).v xs ∧ WX W 69 b (f 2).v ys ∧ WX W 54 s (f 3).v ys) := fun W h => by
        have h1 := h.ws.prog h.one
        have h2 := h.ws.ref h.one
        have h3 := h.ws.prog h.two
        have h4 := h.ws.ref h.two
        rw [h.fa] at h1
        rw [h.fr] at h2
        rw [h.fb] at h3
        rw [h.fs] at h4
        exact ⟨h1, h2, h3, h4⟩
      obtain ⟨g1, g2, g3, g4⟩ := HQ1.out _ hw4
      obtain ⟨ra, rc, hrv⟩ := own_shape g2.own
      obtain ⟨sa, sc, hsv⟩ := own_shape g4.own
      have HRV := hide hrv
      have HSV := hide hsv
      have HO1 : Hid (∀ W, WX W 69 a (f 0).v xs → Calls Tryd.prog 15 #[.pointer (some ⟨a, 0, none⟩)] W _) := fun W hW => out_any W 0 a (f 0).v xs hW.prog (by omega)
      have HO2 : Hid (∀ W, WX W 69 b (f 2).v ys → Calls Tryd.prog 15 #[.pointer (some ⟨b, 0, none⟩)] W _) := fun W hW => out_any W 0 b (f 2).v ys hW.prog (by omega)
      have HLE1 : Hid (∀ W, WX W 69 a (f 0).v xs → Calls Tryd.prog 23 #[.pointer (some ⟨a, 0, none⟩)] W _) := fun W hW => wlen_any W 0 a (f 0).v xs hW.prog
      have HLE2 : Hid (∀ W, WX W 69 b (f 2).v ys → Calls Tryd.prog 23 #[.pointer (some ⟨b, 0, none⟩)] W _) := fun W hW => wlen_any W 0 b (f 2).v ys hW.prog
      have HSA : Hid (∀ bs v1 v2 W, RowAt .u8 W v1 bs → RowAt .u8 W v2 bs → Calls Tryd.prog 28 #[v1, v2] W _) := fun bs v1 v2 W h1 h2 => same_any v1 v2 bs W h1 h2
      have HCS : Hid (∀ W, W4 w W a r b s xs ys f → W.cell? ⟨r, 0, none⟩ = some (.slice ra xs.length rc) ∧ W.cell? ⟨s, 0, none⟩ = some (.slice sa ys.length sc) ∧ RowAt .u8 W (.slice ra xs.length rc) xs ∧ RowAt .u8 W (.slice sa ys.length sc) ys) := fun W h => by
        obtain ⟨q1, q2, q3, q4⟩ := HQ1.out _ h
        have z1 := cell_of q2.hb (i := 0) rfl
        have z2 := cell_of q4.hb (i := 0) rfl
        have z3 := RowAt.of_owns q2.own
        have z4 := RowAt.of_owns q4.own
        rw [HRV.out] at z1 z3
        rw [HSV.out] at z2 z4
        exact ⟨z1, z2, z3, z4⟩
      obtain ⟨L, hL⟩ : ∃ L, L = xs.length := ⟨_, rfl⟩
      obtain ⟨M, hM⟩ : ∃ M, M = ys.length := ⟨_, rfl⟩
      rw [← hL] at HO1 HLE1 HCS hbx
      rw [← hM] at HO2 HLE2 HCS hby
      obtain ⟨c0, d0, _, _⟩ := HCS.out _ hw4
      clear hw4 hsum g1 g2 g3 g4 hrv hsv hL hM
      go_wp2_with fail
      have st1 := hide True.intro
      have st5 := hide True.intro
      go_region_held3 (fun Z => Z.cell? ⟨r, 0, none⟩ = some (.slice ra L rc) ∧ Z.cell? ⟨s, 0, none⟩ = some (.slice sa M sc))
        (first | go_keep | exact QK4.out | exact QK3.out | exact QK2.out | exact QK1.out)
        ((first
          | (go_at_call 15; clear st1; refine (HO1.out _ (HQ1.out _ (HW4.out.below (Below.refl _ _).drew)).1).mono ?_; rintro e y1 ⟨ao1, c1, rfl, hrow, hb⟩; have HX1 := hide ((HW4.out.below (Below.refl _ _).drew).below hb); have HR1 := hide hrow; have QK1 : Hid (y1.cell? ⟨r, 0, none⟩ = some (.slice ra L rc) ∧ y1.cell? ⟨s, 0, none⟩ = some (.slice sa M sc)) := hide ⟨(HCS.out _ HX1.out).1, (HCS.out _ HX1.out).2.1⟩; clear hb hrow)
          | (go_at_call 28; refine (HSA.out _ _ _ _ HR1.out (HCS.out _ HX1.out).2.2.1).mono ?_; rintro e y2 ⟨rfl, hb⟩; have HX2 := hide ((HX1.out).below hb); have QK2 : Hid (y2.cell? ⟨r, 0, none⟩ = some (.slice ra L rc) ∧ y2.cell? ⟨s, 0, none⟩ = some (.slice sa M sc)) := hide ⟨(HCS.out _ HX2.out).1, (HCS.out _ HX2.out).2.1⟩; clear hb HR1 HX1 QK1)
          | (go_at_call 15; refine (HO2.out _ (HQ1.out _ HX2.out).2.2.1).mono ?_; rintro e y3 ⟨ao3, c3, rfl, hrow, hb⟩; have HX3 := hide ((HX2.out).below hb); have HR3 := hide hrow; have QK3 : Hid (y3.cell? ⟨r, 0, none⟩ = some (.slice ra L rc) ∧ y3.cell? ⟨s, 0, none⟩ = some (.slice sa M sc)) := hide ⟨(HCS.out _ HX3.out).1, (HCS.out _ HX3.out).2.1⟩; clear hb hrow HX2 QK2)
          | (go_at_call 28; refine (HSA.out _ _ _ _ HR3.out (HCS.out _ HX3.out).2.2.2).mono ?_; rintro e y4 ⟨rfl, hb⟩; have HX4 := hide ((HX3.out).below hb); have QK4 : Hid (y4.cell? ⟨r, 0, none⟩ = some (.slice ra L rc) ∧ y4.cell? ⟨s, 0, none⟩ = some (.slice sa M sc)) := hide ⟨(HCS.out _ HX4.out).1, (HCS.out _ HX4.out).2.1⟩; clear hb HR3 HX3 QK3)
          | (go_at_call 23; clear st5; refine (HLE1.out _ (HQ1.out _ HX4.out).1).mono ?_; rintro e y5 ⟨rfl, rfl⟩)
          | (go_at_call 23; refine (HLE2.out _ (HQ1.out _ HX4.out).2.2.1).mono ?_; rintro e y6 ⟨rfl, rfl⟩)))
      all_goals
        go_wp2
        go_ret
        exact ⟨rfl, HX4.out.ws.bel⟩
end Go.Proofs.YtpfpelhhebafeaaDoor
