/- bucket: overfull; Fill. -/
import Derived.Test.YtmnicdankdapgaaB3
namespace Go.Proofs.Ytmnicdankdapgaa
open Go.RowKit Go.Lib
set_option linter.unusedVariables false
theorem Try.info3 : (Try.prog.info? 3).map (fun i => (i.zero, i.size, i.bytes)) = some (some (.int .i64 0), 1, 8) := by kernel_rfl
theorem arr_new {w : World} {g n : Nat} (h : w.heap[g]? = some (.cells (madeCells #[.int .i64 0] n) 3 (0, 0))) : Arr w g (tab n (fun _ => 0)) := by
  unfold Arr
  rw [h]
  have e : madeCells #[Value.int .i64 0] n = iCells (tab n (fun _ => 0)) := by
    apply Array.ext'
    apply List.ext_getElem
    · simp [madeCells, iCells, tab]
    · intro i h1 h2
      simp [madeCells, iCells, tab, Nat.mod_one]
  rw [e]
/-- What overfull has in memory. -/
structure OM (w : World) (B g : Nat) (b W S C D : Int) (L : List Int) (X : World) : Prop where
  m : GM w B 108 b W S C D X
  a : Arr X g L
  ne : B ≠ g
  hg : w.heap.size ≤ g
theorem OM.below {w : World} {B g : Nat} {b W S C D : Int} {L : List Int} {X Y : World} (h : OM w B g b W S C D L X) (hb : Below X.heap.size X Y) : OM w B g b W S C D L Y :=
  ⟨h.m.below hb, h.a.below hb (lt_of_heap h.a), h.ne, h.hg⟩
theorem OM.put {w : World} {B g : Nat} {b W S C D : Int} {L : List Int} {X : World} (h : OM w B g b W S C D L X) (i : Nat) (x : Int) : OM w B g b W S C D (L.set i x) (X.setCell ⟨g, i, none⟩ (.int .i64 x)) :=
  ⟨⟨(Below.heap_setCell _ _ _ _ h.ne).trans h.m.bx, h.m.bel.setCell (p := ⟨g, i, none⟩) h.hg _, h.m.hB⟩, h.a.put i x, h.ne, h.hg⟩
theorem om_made {w : World} {B : Nat} {b W S C D : Int} {X : World} (n : Nat) (h : GM w B 108 b W S C D X) : OM w B X.heap.size b W S C D (tab n (fun _ => 0)) (X.alloc (.cells (madeCells #[.int .i64 0] n) 3)) :=
  ⟨h.below (below_alloc (Below.refl _ _) _), arr_new (heap_new _ _), Nat.ne_of_lt (lt_of_heap h.bx), h.bel.size⟩
theorem ov_some {S C D : Int} {l : List Tk} {k : Nat} (hk : k < l.length) (h : Fit S C D l k) (he : hiB S D l k = C) : ovB S C D l = some k :=
  first_some (p := fun k => decide (hiB S D l k = C)) hk (by simp [he]) (fun j hj => by simp [h j hj])
theorem ov_none {S C D : Int} {l : List Tk} (h : Fit S C D l l.length) : ovB S C D l = none :=
  first_none (p := fun k => decide (hiB S D l k = C)) fun j hj => by simp [h j hj]
set_option maxRecDepth 100000 in
set_option maxHeartbeats 4000000 in
theorem overfull_any (b W D : Int) (S C : Nat) (v : Value) (l : List Tk) (w : World) (hl : TAt w v l) (htk : Tok l) (hS1 : 1 ≤ S) (hS2 : S ≤ 1024) (hC1 : 1 ≤ C) (hC2 : C ≤ 65536) (hD1 : 1 ≤ D) (hD2 : D < 18446744073709551616) :
    Calls Try.prog 61 #[bAgg b W S C D, v] w fun e w' => e = .returned (.bool (ovB S C D l).isSome) ∧ Below w.heap.size w w' := by
  obtain ⟨i0, hi, hz0, hz1, hz2⟩ := info_parts Try.info3
  obtain ⟨ao, c, rfl, k1, k2⟩ := hl.shape
  have HL := hide hl
  have HTK := hide htk
  have HST := hide (fun x y w h1 h2 => stackOf_any b W S C D x y w (by omega) (by omega) hD1 hD2 h1 h2)
  obtain ⟨M, hM⟩ : ∃ M, M = l.length := ⟨_, rfl⟩
  have HM := hide hM
  have HM0 := hide (om_made S (gm_one w 108 b W S C D))
  rw [← hM] at k1 HL ⊢
  unfold bAgg at HST ⊢
  clear hl htk hM
  go_enter Try.func61, Try.ntmps61
  go_wp2_with (at_make; refine wpList_make_row _ rfl _ _ 123 rfl 3 i0 (.int .i64 0) Try.underlying123 hi hz0 hz1 rfl _ _ S rfl rfl (by rw [hz2]; omega) (by omega) ?_)
  obtain ⟨g, hg⟩ : ∃ g, g = (w.alloc (.cells #[.int .i64 b, .int .i64 W, .int .i64 S, .int .i64 C, .int .u64 D] 108)).heap.size := ⟨_, rfl⟩
  have hg2 : g = w.heap.size + 1 := by rw [hg]; simp
  rw [← hg] at HM0
  try rw [← hg]
  try rw [← hg2]
  clear hg hg2
  go_loopw [14] (fun t wr => ∃ k : Nat, k ≤ M ∧ t = .int .i64 k ∧ Fit S C D l k ∧ OM w w.heap.size g b W S C D (szB S D l k) wr) (fun t _ => M - (RowKit.intOf t).toNat)
  case atStart => exact ⟨0, by omega, rfl, fun j hj => absurd hj (Nat.not_lt_zero _), HM0.out⟩
  case round =>
    obtain ⟨k, hk, rfl, hfit, hom⟩ := hrel
    clear HM0
    by_cases hlt : k < M
    · obtain ⟨gl, ol, he, p0, p1⟩ := (HL.out.below hom.m.bel).cellAt k (by have := HM.out; omega)
      subst he
      have htk := (HTK.out k (by have := HM.out; omega)).1
      obtain ⟨x, hx⟩ : ∃ x, x = (tAt l k).1 := ⟨_, rfl⟩
      obtain ⟨y, hy⟩ : ∃ y, y = (tAt l k).2 := ⟨_, rfl⟩
      rw [← hx] at p0 htk
      rw [← hy] at p1
      have HS1 := hide (fun w => HST.out x y w htk.1 htk.2)
      obtain ⟨s, hs⟩ : ∃ s, s = stB S D l k := ⟨_, rfl⟩
      have hsS : s < S := by have := stB_lt (D := D) (l := l) (k := k) (show (1 : Int) ≤ (S : Int) by omega); rw [hs]; simpa using this
      have e1 : stk S D x = s := by rw [hs, hx]; rfl
      rw [e1] at HS1
      obtain ⟨n, hn⟩ : ∃ n, n = hiB S D l k := ⟨_, rfl⟩
      have hnr := szB_rng (show (1 : Int) ≤ (S : Int) by omega) (show (1 : Int) ≤ (C : Int) by omega) k hfit s (by simpa using hsS)
      have e2 : at_ (szB S D l k) s = n := by rw [hn, hs]; rfl
      rw [e2] at hnr
      have HNX : Hid (szB S D l (k + 1) = (szB S D l k).set s (n + 1)) := by
        show (szB S D l k).set (stB S D l k) (hiB S D l k + 1) = _
        rw [← hs, ← hn]
      have HFIT := hide hfit
      have HN := hide hn
      have HE2 := hide e2
      have HLN : Hid ((szB S D l k).length = S) := hide (by have := szB_length S D l k; simpa using this)
      have HO1 := hide (hom.below (below_alloc (Below.refl _ wr) (.cells #[.int .u64 x, .int .u64 y] 35)))
      obtain ⟨s0, s1, s2, s3, s4⟩ := hom.m.five
      have hbz : w.heap.size < wr.heap.size := lt_of_heap hom.m.bx
      clear hom hfit hx hy hs hn e1 e2 htk
      go_wp2_with fail
      refine (HS1.out _).mono ?_
      rintro e w3 ⟨rfl, hb3⟩
      have HO3 := hide (HO1.out.below hb3)
      clear hb3 HO1 s0 s1 s2 s3 s4 p0 p1 hbz
      obtain ⟨s0, s1, s2, s3, s4⟩ := HO3.out.m.five
      have sn := HO3.out.a.cell s (by have := HLN.out; omega)
      rw [HE2.out] at sn
      have i1 : (s : Int) < (S : Int) := by omega
      have x3 := gw_cell s3
      have xn := gw_cell sn
      by_cases hC : n = (C : Int)
      · have HOV := hide (ov_some (by have := HM.out; omega) HFIT.out (by rw [← HN.out]; exact hC))
        have hd : (n == (C : Int)) = true := by simpa using hC
        have HC := hide hC
        clear hC s0 s1 s2 s3 s4 sn
        go_wp2_with fail
        refine wp_region_gw (by kernel_rfl) (by kernel_rfl) ?_
        repeat (go_big_quiet_step (rfl))
        refine wpQuiet_nil ?_
        intro _ hw'
        obtain ⟨x', hw''⟩ := hw'
        subst hw''
        go_wp2
        go_ret
        exact ⟨by rw [HOV.out]; rfl, below_on HO3.out.m.bel x'.bel⟩
      · have hd : (n == (C : Int)) = false := by simpa using hC
        have HF2 : Hid (Fit S C D l (k + 1)) := fun j hj => by
          rcases Nat.lt_or_ge j k with h | h
          · exact HFIT.out j h
          · obtain rfl : j = k := by omega
            rw [← HN.out]; exact hC
        clear s0 s1 s2 s3 s4 sn
        go_wp2_with fail
        refine wp_region_gw (by kernel_rfl) (by kernel_rfl) ?_
        repeat (go_big_quiet_step (rfl))
        refine wpQuiet_nil ?_
        intro _ hw'
        obtain ⟨x', hw''⟩ := hw'
        subst hw''
        have HO4 := hide (HO3.out.below x'.bel)
        clear x3 xn
        generalize x'.world = w4 at HO4 ⊢
        have sn := HO4.out.a.cell s (by have := HLN.out; omega)
        rw [HE2.out] at sn
        have fn := HO4.out.a.free s
        have hfin := HO4.out.put s (n + 1)
        rw [← HNX.out] at hfin
        have HFIN := hide hfin
        clear hfin x'
        go_wp2
        go_roundw
        case rel => exact ⟨k + 1, by omega, by simp, HF2.out, HFIN.out⟩
        case measure => simp [RowKit.intOf]; omega
    · obtain rfl : k = M := by omega
      have HOV := hide (ov_none (show Fit S C D l l.length by rw [← HM.out]; exact hfit))
      have HB := hide hom.m.bel
      clear hom hfit
      go_wp2
      go_ret
      exact ⟨by rw [HOV.out]; rfl, HB.out⟩
def errB (b W S C D : Int) (l : List Tk) : Int := if OkB b W S C D then (if hasNev l = true then 51 else if (ovB S C D l).isSome = true then 62 else 0) else 60
def ansB (b W S C D : Int) (l : List Tk) : List Int := if errB b W S C D l = 0 then cB (S * (2 + 2 * C)).toNat C.toNat S D l l.length else []
theorem okB_nat {b W S C D : Int} (h : OkB b W S C D) : ∃ S' C' : Nat, S = (S' : Int) ∧ C = (C' : Int) ∧ 1 ≤ S' ∧ S' ≤ 1024 ∧ 1 ≤ C' ∧ C' ≤ 65536 := by
  obtain ⟨⟨⟨_, _, h1, h2⟩, h3, h4, _⟩, _⟩ := h
  exact ⟨S.toNat, C.toNat, by omega, by omega, by omega, by omega, by omega, by omega⟩
/-- A shape of five in its box B, with the cells g. -/
structure GA (w : World) (B g : Nat) (ty : TypeId) (W S C D : Int) (L : List Int) (X : World) : Prop where
  m : GM w B ty 0 W S C D X
  a : ArrU X g L
  ne : B ≠ g
  hg : w.heap.size ≤ g
theorem GA.below {w : World} {B g : Nat} {ty : TypeId} {W S C D : Int} {L : List Int} {X Y : World} (h : GA w B g ty W S C D L X) (hb : Below X.heap.size X Y) : GA w B g ty W S C D L Y :=
  ⟨h.m.below hb, h.a.below hb (lt_of_heap h.a), h.ne, h.hg⟩
theorem GA.drew {w : World} {B g : Nat} {ty : TypeId} {W S C D : Int} {L : List Int} {X : World} (h : GA w B g ty W S C D L X) : GA w B g ty W S C D L X.drew := h.below (Below.refl _ _).drew
theorem GA.put {w : World} {B g : Nat} {ty : TypeId} {W S C D : Int} {L : List Int} {X : World} (h : GA w B g ty W S C D L X) (i : Nat) (x : Int) : GA w B g ty W S C D (L.set i x) (X.setCell ⟨g, i, none⟩ (.int .u64 x)) :=
  ⟨⟨(Below.heap_setCell _ _ _ _ h.ne).trans h.m.bx, h.m.bel.setCell (p := ⟨g, i, none⟩) h.hg _, h.m.hB⟩, h.a.put i x, h.ne, h.hg⟩
theorem GA.chg {w : World} {B g : Nat} {ty : TypeId} {W S C D : Int} {L L' : List Int} {X Y : World} (h : GA w B g ty W S C D L X) (k : Chg (fun k => k = g) X Y) (hA : ArrU Y g L') : GA w B g ty W S C D L' Y :=
  ⟨⟨k.heap h.m.bx h.ne, Chg.below h.m.bel k (fun i hi => by rw [hi]; exact h.hg) h.m.bel.size, h.m.hB⟩, hA, h.ne, h.hg⟩
theorem ga_made {w : World} {B : Nat} {ty : TypeId} {W S C D : Int} {X : World} (n : Nat) (h : GM w B ty 0 W S C D X) : GA w B X.heap.size ty W S C D (tab n (fun _ => 0)) (X.alloc (.cells (madeCells #[.int .u64 0] n) 33)) :=
  ⟨h.below (below_alloc (Below.refl _ _) _), arru_new (heap_new _ _), Nat.ne_of_lt (lt_of_heap h.bx), h.bel.size⟩
set_option maxRecDepth 100000 in
theorem bucketFill_shape (b W S C D : Int) (v : Value) (l : List Tk) (w : World) (hD : 0 ≤ D) (hl : TAt w v l) (h : ¬ OkB b W S C D) : Calls Try.prog 31 #[bAgg b W S C D, v] w (FillPost w 60 []) := by
  obtain ⟨ao, c, rfl, k1, k2⟩ := hl.shape
  have HC := hide (fun w => bCheck_any b W S C D w hD)
  rw [if_neg h] at HC
  unfold bAgg at HC ⊢
  clear h hl
  go_enter Try.func31, Try.ntmps31
  go_wp2_with (go_at_call 58; refine (HC.out _).mono ?_; rintro e w2 ⟨rfl, hb1⟩)
  go_ret2
  exact ⟨_, rfl, RowAt.nil _ _, below_on (below_alloc (below_alloc (Below.refl _ _) _) _) hb1⟩
set_option maxRecDepth 100000 in
theorem bucketFill_never (b W S C D : Int) (v : Value) (l : List Tk) (w : World) (hD : 0 ≤ D) (hl : TAt w v l) (h : OkB b W S C D) (hn : hasNev l = true) : Calls Try.prog 31 #[bAgg b W S C D, v] w (FillPost w 51 []) := by
  obtain ⟨ao, c, rfl, k1, k2⟩ := hl.shape
  have HC := hide (fun w => bCheck_any b W S C D w hD)
  rw [if_pos h] at HC
  have HL := hide hl
  have HN := hide (fun w h => anyNever_any (.slice ao l.length c) l w h)
  rw [hn] at HN
  unfold bAgg at HC ⊢
  clear h hl hn
  go_enter Try.func31, Try.ntmps31
  go_wp2_with (first
    | (go_at_call 58; refine (HC.out _).mono ?_; rintro e w2 ⟨rfl, hb1⟩; have HB1 := hide (below_on (below_alloc (below_alloc (Below.refl _ w) _) _) hb1); clear hb1)
    | (go_at_call 44; refine (HN.out _ (HL.out.below HB1.out)).mono ?_; rintro e w3 ⟨rfl, hb2⟩))
  go_ret2
  exact ⟨_, rfl, RowAt.nil _ _, below_on HB1.out hb2⟩
set_option maxRecDepth 100000 in
theorem bucketFill_full (b W D : Int) (S C : Nat) (v : Value) (l : List Tk) (w : World) (hl : TAt w v l) (htk : Tok l) (h : OkB b W S C D) (hD2 : D < 18446744073709551616) (hn : hasNev l = false) (hf : (ovB S C D l).isSome = true) : Calls Try.prog 31 #[bAgg b W S C D, v] w (FillPost w 62 []) := by
  obtain ⟨ao, c, rfl, k1, k2⟩ := hl.shape
  have HC := hide (fun w => bCheck_any b W S C D w (by have := h.1.2.2.2; omega))
  rw [if_pos h] at HC
  have HL := hide hl
  have HN := hide (fun w h => anyNever_any (.slice ao l.length c) l w h)
  rw [hn] at HN
  have HO := hide (fun w h' => overfull_any b W D S C (.slice ao l.length c) l w h' htk (by have := h.1.1.2.2.1; omega) (by have := h.1.1.2.2.2; omega) (by have := h.1.2.1; omega) (by have := h.1.2.2.1; omega) h.1.2.2.2 hD2)
  rw [hf] at HO
  unfold bAgg at HC HO ⊢
  clear h hl hn hf
  go_enter Try.func31, Try.ntmps31
  go_wp2_with (first
    | (go_at_call 58; refine (HC.out _).mono ?_; rintro e w2 ⟨rfl, hb1⟩; have HM1 := hide ((gm_two w 108 _ b W S C D).below hb1); clear hb1)
    | (go_at_call 44; refine (HN.out _ (HL.out.below HM1.out.bel)).mono ?_; rintro e w3 ⟨rfl, hb2⟩; have hm2 := HM1.out.below hb2; obtain ⟨s0, s1, s2, s3, s4⟩ := hm2.five; have HM2 := hide hm2; clear hb2 hm2)
    | (go_at_call 61; refine (HO.out _ (HL.out.below HM2.out.bel)).mono ?_; rintro e w4 ⟨rfl, hb4⟩))
  go_ret2
  exact ⟨_, rfl, RowAt.nil _ _, below_on HM2.out.bel hb4⟩
theorem ov_fit {S C D : Int} {l : List Tk} (h : (ovB S C D l).isSome = false) : Fit S C D l l.length := by
  intro j hj
  have : ovB S C D l = none := by simpa using h
  have := first_none_of this j hj
  simpa using this
set_option maxRecDepth 100000 in
set_option maxHeartbeats 8000000 in
theorem bucketFill_good (b W D : Int) (S C n : Nat) (v : Value) (l : List Tk) (w : World) (hl : TAt w v l) (htk : Tok l) (h : OkB b W S C D) (hD2 : D < 18446744073709551616) (hn : hasNev l = false) (hf : (ovB S C D l).isSome = false) (hnn : n = S * (2 + 2 * C)) : Calls Try.prog 31 #[bAgg b W S C D, v] w (FillPost w 0 (cB n C S D l l.length)) := by
  obtain ⟨i0, hi, hz0, hz1, hz2⟩ := info_parts Try.info33
  obtain ⟨ao, c, rfl, k1, k2⟩ := hl.shape
  have HC := hide (fun w => bCheck_any b W S C D w (by have := h.1.2.2.2; omega))
  rw [if_pos h] at HC
  have HL := hide hl
  have HTK := hide htk
  have HN := hide (fun w h => anyNever_any (.slice ao l.length c) l w h)
  rw [hn] at HN
  have HO := hide (fun w h' => overfull_any b W D S C (.slice ao l.length c) l w h' htk (by have := h.1.1.2.2.1; omega) (by have := h.1.1.2.2.2; omega) (by have := h.1.2.1; omega) (by have := h.1.2.2.1; omega) h.1.2.2.2 hD2)
  rw [hf] at HO
  have HFIT := hide (ov_fit hf)
  obtain ⟨⟨⟨a1, a2, a3, a4⟩, a5, a6, a9⟩, a7, a8⟩ := h
  have HS := hide (fun w => bCells_any 0 W S C D w a3 a4 a5 a6)
  have e0 : (S : Int) * (2 + 2 * (C : Int)) = (n : Int) := by rw [hnn]; push_cast; rfl
  have hn8 := (prodB_le a3 a4 a5 a6).2
  rw [e0] at HS hn8
  have HNN := hide hnn
  unfold bAgg at HC HO HS ⊢
  clear hl hn htk e0 a8 hnn hf
  obtain ⟨M, hM⟩ : ∃ M, M = l.length := ⟨_, rfl⟩
  rw [← hM] at k1 HL HN HO HFIT ⊢
  have HM := hide hM
  clear hM
  go_enter Try.func31, Try.ntmps31
  go_wp2_with (first
    | (go_at_call 58; refine (HC.out _).mono ?_; rintro e w2 ⟨rfl, hb1⟩; have HM1 := hide ((gm_two w 108 _ b W S C D).below hb1); clear hb1)
    | (go_at_call 44; refine (HN.out _ (HL.out.below HM1.out.bel)).mono ?_; rintro e w3 ⟨rfl, hb2⟩; have hm2 := HM1.out.below hb2; obtain ⟨s0, s1, s2, s3, s4⟩ := hm2.five; have HM2 := hide hm2; clear hb2 hm2)
    | (go_at_call 61; refine (HO.out _ (HL.out.below HM2.out.bel)).mono ?_; rintro e w4 ⟨rfl, hb4⟩; have hm4 := HM2.out.below hb4; clear s0 s1 s2 s3 s4; obtain ⟨s0, s1, s2, s3, s4⟩ := hm4.five; have f0 := free_of hm4.bx 0; have HM4 := hide hm4.zero; clear hb4 hm4)
    | (go_at_call 59; refine (HS.out _).mono ?_; rintro e w5 ⟨rfl, hb5⟩; have HM5 := hide (HM4.out.below hb5); clear hb5 s0 s1 s2 s3 s4 f0 HM4)
    | (at_make; refine wpList_make_row _ rfl _ _ 30 rfl 33 i0 (.int .u64 0) Try.underlying30 hi hz0 hz1 rfl _ _ n rfl rfl (by rw [hz2]; omega) (by omega) ?_; have HA := hide (ga_made n HM5.out)))
  obtain ⟨g, hg⟩ : ∃ g, g = w5.heap.size := ⟨_, rfl⟩
  rw [← hg] at HA ⊢
  clear hg HM5 HM2 HM1 HC HN HS HO
  go_loopw [28] (fun t wr => ∃ k : Nat, k ≤ M ∧ t = .int .i64 k ∧ GA w (w.heap.size + 1) g 108 W S C D (cB n C S D l k) wr) (fun t _ => M - (RowKit.intOf t).toNat)
  case atStart => exact ⟨0, by omega, rfl, HA.out⟩
  case round =>
    obtain ⟨k, hk, rfl, hfa⟩ := hrel
    clear HA
    by_cases hlt : k < M
    · obtain ⟨gl, ol, he, p0, p1⟩ := (HL.out.below hfa.m.bel).cellAt k (by have := HM.out; omega)
      subst he
      have htk := (HTK.out k (by have := HM.out; omega)).1
      obtain ⟨x, hx⟩ : ∃ x, x = (tAt l k).1 := ⟨_, rfl⟩
      obtain ⟨y, hy⟩ : ∃ y, y = (tAt l k).2 := ⟨_, rfl⟩
      have hfk : Fit S C D l k := fun j hj => HFIT.out j (by omega)
      have hSi : (1 : Int) ≤ (S : Int) := a3
      have hst : stB S D l k < S := by have := stB_lt (D := D) (l := l) (k := k) hSi; simpa using this
      have hrg := szB_rng hSi a5 k hfk (stB S D l k) (by simpa using hst)
      have hne := HFIT.out k hlt
      have ehi : hiB S D l k = at_ (szB S D l k) (stB S D l k) := rfl
      have HFI : Hid (cB n C S D l (k + 1) = layB C (stB S D l k) (hiB S D l k).toNat (cB n C S D l k) (x, y)) := by rw [hx, hy]; rfl
      have hsz := cB_size hSi (show 1 ≤ C by omega) (by simpa using HNN.out) k hfk (stB S D l k) (by simpa using hst)
      rw [← hx] at p0 htk
      rw [← hy] at p1
      have HLY := hide (fun X hA => layB_any S C (stB S D l k) (hiB S D l k).toNat n g W D x y (cB n C S D l k) X hA (cB_length n C S D l k) HNN.out (by omega) (by omega) (by omega) (by omega) a9 hD2 (by rw [hx]; rfl) hst (by rw [hsz, ← ehi]; omega) (by omega) htk.1 htk.2)
      unfold bAgg at HLY
      have HF1 := hide (hfa.below (below_alloc (Below.refl _ wr) (.cells #[.int .u64 x, .int .u64 y] 35)))
      obtain ⟨s0, s1, s2, s3, s4⟩ := hfa.m.five
      have hbz : w.heap.size + 1 < wr.heap.size := lt_of_heap hfa.m.bx
      clear hfa hx hy htk hfk hst hrg hne ehi hsz
      go_wp2_with fail
      refine (HLY.out _ HF1.out.a).mono ?_
      rintro e w6 ⟨rfl, hA6, hC6⟩
      have hfin := HF1.out.chg hC6 hA6
      rw [← HFI.out] at hfin
      have HFIN := hide hfin
      clear hfin hA6 hC6 s0 s1 s2 s3 s4 p0 p1 HF1
      go_wp2
      go_roundw
      case rel => exact ⟨k + 1, by omega, by simp, HFIN.out⟩
      case measure => simp [RowKit.intOf]; omega
    · obtain rfl : k = M := by omega
      have HA := hide hfa
      clear hfa
      go_wp2
      go_ret2
      exact ⟨_, rfl, HA.out.a.row (cB_length _ _ _ _ _ _) (by omega), HA.out.m.bel⟩
end Go.Proofs.Ytmnicdankdapgaa
