/- OctetBack: the walk. -/
import Derived.Test.YtpfpelhhebafeaaDoorDone2
namespace Go.Proofs.YtpfpelhhebafeaaDoor
open Go.RowKit Go.Lib
set_option linter.unusedVariables false

theorem Tryd.info42 : (Tryd.prog.info? 42).map (fun i => (i.zero, i.size, i.bytes)) = some (some (.agg #[.int .i64 0, .bool false, .int .u64 0, .int .i64 0, .slice none 0 0]), 5, 56) := by kernel_rfl
theorem Tryd.size42 : (Tryd.prog.info? 42).map (·.size) = some 5 := by kernel_rfl
/-- What the calls may be: their numbers fit, their bytes lie where nothing turns. -/
structure OpsOk (W0 : World) (ops : List OpR) : Prop where
  v : ∀ o ∈ ops, o.v < 18446744073709551616
  b : ∀ o ∈ ops, RowAt .u8 W0 o.bv o.b
  r : ∀ o ∈ ops, ∀ x ∈ o.b, 0 ≤ x ∧ x < 256
  sum : ∀ i, i ≤ ops.length → ((ops.take i).map fun o => 10 + o.b.length).sum ≤ 50000000
  len : ops.length ≤ 2000000
/-- The first loop. -/
structure Loop1 (W0 : World) (ops : List OpR) (B b i : Nat) (vd : Value) (wr : World) : Prop where
  ex : ∃ D S vw, Wrote D S ∧ (∀ o ∈ D, o ∈ ops) ∧ D.length ≤ i ∧ S.flatten.length ≤ ((ops.take i).map fun o => 10 + o.b.length).sum ∧ DoneAt wr B vd D ∧ WOwn wr B b vw S.flatten ∧ Below W0.heap.size W0 wr ∧ B ≤ wr.heap.size

theorem wrote_bytes {D : List OpR} {S : List (List Int)} (h : Wrote D S) (hb : ∀ o ∈ D, ∀ x ∈ o.b, 0 ≤ x ∧ x < 256) : ∀ y ∈ S.flatten, 0 ≤ y ∧ y < 256 := by
  intro y hy
  obtain ⟨s, hs, hys⟩ := List.mem_flatten.1 hy
  obtain ⟨j, hj, rfl⟩ := List.mem_iff_getElem.1 hs
  have hjD : j < D.length := by rw [← h.len]; exact hj
  exact seg_bytes (h.seg j _ _ (List.getElem?_eq_getElem hjD) (List.getElem?_eq_getElem hj)) (hb _ (List.getElem_mem hjD)) y hys
theorem take_sum {ops : List OpR} {i : Nat} {o : OpR} (h : ops[i]? = some o) : ((ops.take (i + 1)).map fun o => 10 + o.b.length).sum = ((ops.take i).map fun o => 10 + o.b.length).sum + (10 + o.b.length) := by
  rw [List.take_add_one, h]
  simp
theorem Loop1.skip {W0 wr' : World} {ops : List OpR} {B b i : Nat} {vd vw : Value} {D : List OpR} {S : List (List Int)} {o : OpR} (ho : ops[i]? = some o) (h1 : Wrote D S) (h2 : ∀ o ∈ D, o ∈ ops) (h3 : D.length ≤ i) (h4 : S.flatten.length ≤ ((ops.take i).map fun o => 10 + o.b.length).sum) (h5 : DoneAt wr' B vd D) (h6 : WOwn wr' B b vw S.flatten) (h7 : Below W0.heap.size W0 wr') (h8 : B ≤ wr'.heap.size) : Loop1 W0 ops B b (i + 1) vd wr' :=
  ⟨D, S, vw, h1, h2, by omega, by rw [take_sum ho]; omega, h5, h6, h7, h8⟩
theorem Loop1.done {W0 wr' : World} {ops : List OpR} {B b i : Nat} {vd vw : Value} {D : List OpR} {S : List (List Int)} {o : OpR} {seg : List Int} (ho : ops[i]? = some o) (hv : o.v < 18446744073709551616) (h1 : Wrote D S) (hs : Seg o S.flatten seg) (h2 : ∀ o ∈ D, o ∈ ops) (h3 : D.length ≤ i) (h4 : S.flatten.length ≤ ((ops.take i).map fun o => 10 + o.b.length).sum) (h5 : DoneAt wr' B vd (D ++ [o])) (h6 : WOwn wr' B b vw (S.flatten ++ seg)) (h7 : Below W0.heap.size W0 wr') (h8 : B ≤ wr'.heap.size) : Loop1 W0 ops B b (i + 1) vd wr' := by
  refine ⟨D ++ [o], S ++ [seg], vw, h1.snoc hs, fun x hx => ?_, by simp; omega, ?_, h5, by simpa using h6, h7, h8⟩
  · rcases List.mem_append.1 hx with h | h
    · exact h2 x h
    · rw [List.mem_singleton.1 h]; exact List.mem_of_getElem? ho
  · have h9 := seg_len hs hv
    have e : (S ++ [seg]).flatten = S.flatten ++ seg := by simp
    rw [take_sum ho, e, List.length_append]
    omega
theorem done_app {w2 : World} {B n : Nat} {v2 : Value} {D : List OpR} {o : OpR} (h : w2.ownsRow B 42 5 v2 (D.length + 1) (opCells D ++ o.cells)) : DoneAt w2 B v2 (D ++ [o]) := by
  unfold DoneAt
  have e1 : opCells (D ++ [o]) = opCells D ++ o.cells := by simp [opCells]
  rw [e1, List.length_append]
  exact h
theorem own5_shape {w : World} {B : Nat} {v : Value} {n : Nat} {xs : List Value} (h : w.ownsRow B 42 5 v (n + 1) xs) : ∃ a c, v = .slice a (n + 1) c := by
  obtain ⟨_, ⟨he, h0⟩ | ⟨g', cap', cur', he, _⟩⟩ := h
  · omega
  · exact ⟨_, _, he⟩
theorem five_at (w : World) (x0 x1 x2 x3 x4 : Value) : ∀ j u, [x0, x1, x2, x3, x4][j]? = some u → (w.alloc (.cells #[x0, x1, x2, x3, x4] 42)).cell? ((⟨w.heap.size, 0, none⟩ : Addr).add j) = some u := by
  intro j u hj
  have hh : (w.alloc (.cells #[x0, x1, x2, x3, x4] 42)).heap[w.heap.size]? = some (.cells #[x0, x1, x2, x3, x4] 42 (0, 0)) := heap_new _ _
  rw [Addr.add_lit]
  match j, hj with
  | 0, hj => simp at hj; subst hj; exact cell_of hh rfl
  | 1, hj => simp at hj; subst hj; exact cell_of hh rfl
  | 2, hj => simp at hj; subst hj; exact cell_of hh rfl
  | 3, hj => simp at hj; subst hj; exact cell_of hh rfl
  | 4, hj => simp at hj; subst hj; exact cell_of hh rfl

set_option maxRecDepth 100000 in
set_option maxHeartbeats 4000000 in
theorem back_law (sv : Value) (ops : List OpR) (W0 : World) (hs : SumsAt W0) (ho : OpsAt W0 sv ops) (hok : OpsOk W0 ops) :
    Calls Tryd.prog 5 #[sv] W0 fun e w' => e = .returned (.bool true) ∧ Below W0.heap.size W0 w' := by
  obtain ⟨i0, hi, hz0, hz1, hz2⟩ := info_parts Tryd.info42
  have HHD := hide (heads_any W0 hs)
  have HS := hide hs; have HOPS := hide ho; have HOK := hide hok
  have hlen := hok.len
  obtain ⟨ao, c, rfl, hlc, hcm, _⟩ := ho
  obtain ⟨M, hM⟩ : ∃ M, M = ops.length := ⟨_, rfl⟩
  rw [← hM] at hlen hlc HOPS ⊢
  have HM := hide hM
  clear hs hok hM
  go_enter Tryd.func5, Tryd.ntmps5
  go_wp2_with fail
  refine HHD.out.mono ?_
  rintro e w1 ⟨rfl, hb1⟩
  have HB1 := hide hb1
  have hB1 : W0.heap.size ≤ w1.heap.size := hb1.size
  clear hb1 HHD
  go_wp2_with fail
  refine (newWriter_any w1).mono ?_
  rintro e w2 ⟨b, rfl, hw2, hb2⟩
  have HB2 := hide (below_on HB1.out hb2)
  have hsz2 := hb2.size
  have HW2 := hide hw2
  clear hw2 hb2 HB1
  go_wp2_with fail
  go_loopw [4, 5] (fun x t wr => ∃ (i : Nat) (a : Option Addr) (n d : Nat), i ≤ M ∧ x = .slice a n d ∧ t = .int .i64 i ∧ Loop1 W0 ops w1.heap.size b i (.slice a n d) wr) (fun _ t _ => M - (RowKit.intOf t).toNat)
  case atStart =>
    refine ⟨0, none, 0, 0, by omega, rfl, rfl, ⟨[], [], _, Wrote.nil, fun o ho => by simp at ho, Nat.le_refl _, by simp, World.ownsRow_nil _ _ _ _, HW2.out, HB2.out, hsz2⟩⟩
  case round =>
    obtain ⟨i, a, nd, cd, hiM, rfl, rfl, D, S, vw, hWr, hsubs, hDi, hSl, hD, hWO, hB, hBs⟩ := hrel
    clear HW2 HB2 hsz2
    by_cases hlt : i < M
    · have hil : i < ops.length := by rw [← HM.out]; exact hlt
      obtain ⟨o, hoi⟩ : ∃ o, ops[i]? = some o := ⟨_, List.getElem?_eq_getElem hil⟩
      have homem : o ∈ ops := List.mem_of_getElem? hoi
      obtain ⟨_, _, he, _, _, hcells⟩ := HOPS.out.below hB
      simp only [Value.slice.injEq] at he
      obtain ⟨rfl, hdr, rfl⟩ := he
      obtain ⟨g, q, hao, c0, c1, c2, c3, c4⟩ := hcells i o hoi
      subst hao
      clear hdr hcells
      have hnl : nd = D.length := by
        obtain ⟨_, ⟨he, h0⟩ | ⟨g', cap', cur', he, _⟩⟩ := hD
        · simp only [Value.slice.injEq] at he; omega
        · simp only [Value.slice.injEq] at he; omega
      have HV := hide (HOK.out.v o homem); have HBV := hide (HOK.out.b o homem); have HBR := hide (HOK.out.r o homem)
      obtain ⟨kd, sec, x, n, bv, bb⟩ := o
      simp only at c0 c1 c2 c3 c4
      obtain ⟨ba, bc, hbv⟩ : ∃ ao c, bv = .slice ao bb.length c := by obtain ⟨ao, c, h, _⟩ := HBV.out; exact ⟨ao, c, h⟩
      subst hbv
      have HWR := hide hWr; have HSUB := hide hsubs; have HSL := hide hSl; have HD := hide hD; have HWO := hide hWO; have HB := hide hB
      have hli : (i : Int) < (M : Int) := by omega
      have HOI := hide hoi
      have HOB : Hid ((wr.alloc (.cells #[.int .i64 kd, .bool sec, .int .u64 (x : Int), .int .i64 n, .slice ba bb.length bc] 42)).heap[wr.heap.size]? = some (.cells #[.int .i64 kd, .bool sec, .int .u64 (x : Int), .int .i64 n, .slice ba bb.length bc] 42 (0, 0))) := heap_new _ _
      obtain ⟨e0, e2, e3, e4, hb3, hsz3⟩ := boxed5 wr (.int .i64 kd) (.bool sec) (.int .u64 (x : Int)) (.int .i64 n) (.slice ba bb.length bc)
      have HD3 := hide (HD.out.below hb3)
      have HW3 := hide (HWO.out.below hb3)
      have HB3 := hide (below_on HB.out hb3)
      have hs3 : w1.heap.size ≤ (wr.alloc (.cells #[.int .i64 kd, .bool sec, .int .u64 (x : Int), .int .i64 n, .slice ba bb.length bc] 42)).heap.size := Nat.le_trans hBs hb3.size
      have hOBb : wr.heap.size ≠ b := by have := lt_of_heap HWO.out.hb; omega
      rw [hnl] at HD3
      obtain ⟨OB, hOB⟩ : ∃ OB, OB = wr.heap.size := ⟨_, rfl⟩
      have hDM : D.length ≤ 2000000 := by omega
      have hFL : S.flatten.length ≤ 60000000 := by have h1 := HSL.out; have h2 := HOK.out.sum i (by rw [← HM.out]; exact hiM); omega
      have HFB : Hid (∀ y ∈ S.flatten, 0 ≤ y ∧ y < 256) := wrote_bytes HWR.out (fun o ho => HOK.out.r o (HSUB.out o ho))
      have HBL : Hid (bb.length ≤ 60000000) := by
        show bb.length ≤ 60000000
        have h2 := HOK.out.sum (i + 1) (by omega)
        rw [take_sum HOI.out] at h2
        simp only at h2
        omega
      clear hWr hsubs hSl hD hWO hB hoi hb3 HD HWO HB
      go_wp2_with fail
      generalize (wr.alloc (.cells #[.int .i64 kd, .bool sec, .int .u64 (x : Int), .int .i64 n, .slice ba bb.length bc] 42)) = w3 at e0 e2 e3 e4 hsz3 HD3 HW3 HB3 HOB hs3 ⊢
      have HLN := hide (wlen_any w3 _ b _ _ HW3.out)
      refine HLN.out.mono ?_
      rintro e w3 ⟨rfl, rfl⟩
      rw [← hOB] at e0 e2 e3 e4 HOB hOBb ⊢
      clear hOB c0 c1 c2 c3 c4
      by_cases k1 : kd = 1
      · subst k1
        by_cases hn : 1 ≤ n ∧ n ≤ 8
        · obtain ⟨s, rfl⟩ : ∃ s : Nat, n = (s : Int) := ⟨n.toNat, by omega⟩
          by_cases hx0 : x / 2 ^ (8 * s) = 0
          · have HWD := hide (word_any w3 _ b _ _ x s HW3.out hs3 HV.out hx0 (by omega) (by omega) (by omega))
            have HSEG : Hid (Seg ⟨1, sec, x, (s : Int), .slice ba bb.length bc, bb⟩ S.flatten (le x s)) := .inl ⟨rfl, hn, by rw [Int.toNat_natCast]; exact hx0, by rw [Int.toNat_natCast]⟩
            clear hx0 hn
            go_wp2_with fail
            refine HWD.out.mono ?_
            rintro e w4 ⟨rfl, vw4, hw4, ht4⟩
            have HW4 := hide hw4
            have HB4 := hide (HB3.out.trans (ht4.bel.mono hB1))
            have HD4 : Hid (DoneAt w4 w1.heap.size (.slice a D.length cd) D) := HD3.out.far ht4.far (fun cs fr hc => by rw [HW3.out.hb] at hc; cases hc)
            have hh4 := ht4.far _ _ _ _ HOB.out (by decide) hOBb
            have o0 := cell_of hh4 (i := 0) rfl
            have o1 := cell_of hh4 (i := 1) rfl
            have o2 := cell_of hh4 (i := 2) rfl
            have o3 := cell_of hh4 (i := 3) rfl
            have o4 := cell_of hh4 (i := 4) rfl
            have hs4 : w1.heap.size ≤ w4.heap.size := Nat.le_trans hs3 ht4.bel.size
            clear hw4 ht4 hh4
            go_wp2_with (first
              | (go_at_call 16; refine (no_any _ _).mono ?_; rintro e w4 ⟨rfl, rfl⟩)
              | (at_builtin; (refine wpList_append_own_wide _ rfl _ _ 39 rfl w1.heap.size 42 i0 _ 5 56 Tryd.underlying39 hi hz0 hz1 hz2 rfl (by decide) _ _ _ rfl (HD4.out.alloc _) ⟨w4.heap.size, 0, none⟩ 1 1 [.int .i64 _, .bool sec, .int .u64 (x : Int), .int .i64 _, .slice ba bb.length bc] rfl rfl (five_at w4 _ _ _ _ _) (by simp [Value.oneCell']) (by unfold maxLen; omega) (by omega) (by simp; omega) ?_; intro v2 w5 hown5 hgrow5 hq5; obtain ⟨a5, c5, rfl⟩ := own5_shape hown5; have HD5 := hide (done_app (n := 0) (o := ⟨1, sec, x, (s : Int), .slice ba bb.length bc, bb⟩) hown5); have HW5 := hide ((HW4.out.below ((Below.refl _ _).alloc (Nat.le_refl _) _)).grown (HD4.out.below ((Below.refl _ _).alloc (Nat.le_refl _) _)) hgrow5); have HB5 := hide ((HB4.out.alloc HB4.out.size _).grown hgrow5 (by simp; have := HB4.out.size; omega) (fun k hk => Nat.le_trans hB1 (DoneAt.grown (w' := w4) HD4.out k hk))); have hs5 : w1.heap.size ≤ w5.heap.size := Nat.le_trans hs4 (Nat.le_trans (by simp) hgrow5.size); clear hown5 hgrow5 hq5))
              | fail)
            go_roundw
            case rel => exact ⟨i + 1, a5, D.length + 1, c5, by omega, rfl, by simp, Loop1.done HOI.out HV.out HWR.out HSEG.out HSUB.out hDi HSL.out HD5.out HW5.out HB5.out hs5⟩
            case measure => simp [RowKit.intOf]; omega
          · have HWD := hide (word_big w3 b x s (by omega) (by omega) hx0)
            clear hx0 hn
            go_wp2_with fail
            refine HWD.out.mono ?_
            rintro e w4 ⟨rfl, rfl⟩
            go_wp2_with (first
              | (go_at_call 16; refine (no_any _ _).mono ?_; rintro e w3 ⟨rfl, rfl⟩)
              | (go_at_call 23; refine HLN.out.mono ?_; rintro e w3 ⟨rfl, rfl⟩)
              | fail)
            go_roundw
            case rel => exact ⟨i + 1, a, D.length, cd, by omega, rfl, by simp, Loop1.skip HOI.out HWR.out HSUB.out hDi HSL.out HD3.out HW3.out HB3.out hs3⟩
            case measure => simp [RowKit.intOf]; omega
        · have HWD := hide (word_narrow w3 b (x : Int) n hn)
          clear hn
          go_wp2_with fail
          refine HWD.out.mono ?_
          rintro e w4 ⟨rfl, rfl⟩
          go_wp2_with (first
            | (go_at_call 16; refine (no_any _ _).mono ?_; rintro e w3 ⟨rfl, rfl⟩)
            | (go_at_call 23; refine HLN.out.mono ?_; rintro e w3 ⟨rfl, rfl⟩)
            | fail)
          go_roundw
          case rel => exact ⟨i + 1, a, D.length, cd, by omega, rfl, by simp, Loop1.skip HOI.out HWR.out HSUB.out hDi HSL.out HD3.out HW3.out HB3.out hs3⟩
          case measure => simp [RowKit.intOf]; omega
      · by_cases k2 : kd = 2
        · subst k2
          have HWD := hide (var_any w3 _ b _ _ x HW3.out hs3 HV.out (by omega))
          have HSEG : Hid (Seg ⟨2, sec, x, n, .slice ba bb.length bc, bb⟩ S.flatten (enc x)) := .inr (.inl ⟨rfl, rfl⟩)
          go_wp2_with fail
          refine HWD.out.mono ?_
          rintro e w4 ⟨rfl, vw4, hw4, ht4⟩
          have HW4 := hide hw4
          have HB4 := hide (HB3.out.trans (ht4.bel.mono hB1))
          have HD4 : Hid (DoneAt w4 w1.heap.size (.slice a D.length cd) D) := HD3.out.far ht4.far (fun cs fr hc => by rw [HW3.out.hb] at hc; cases hc)
          have hh4 := ht4.far _ _ _ _ HOB.out (by decide) hOBb
          have o0 := cell_of hh4 (i := 0) rfl
          have o1 := cell_of hh4 (i := 1) rfl
          have o2 := cell_of hh4 (i := 2) rfl
          have o3 := cell_of hh4 (i := 3) rfl
          have o4 := cell_of hh4 (i := 4) rfl
          have hs4 : w1.heap.size ≤ w4.heap.size := Nat.le_trans hs3 ht4.bel.size
          clear hw4 ht4 hh4
          go_wp2_with (first
            | (go_at_call 16; refine (no_any _ _).mono ?_; rintro e w4 ⟨rfl, rfl⟩)
            | (at_builtin; (refine wpList_append_own_wide _ rfl _ _ 39 rfl w1.heap.size 42 i0 _ 5 56 Tryd.underlying39 hi hz0 hz1 hz2 rfl (by decide) _ _ _ rfl (HD4.out.alloc _) ⟨w4.heap.size, 0, none⟩ 1 1 [.int .i64 _, .bool sec, .int .u64 (x : Int), .int .i64 _, .slice ba bb.length bc] rfl rfl (five_at w4 _ _ _ _ _) (by simp [Value.oneCell']) (by unfold maxLen; omega) (by omega) (by simp; omega) ?_; intro v2 w5 hown5 hgrow5 hq5; obtain ⟨a5, c5, rfl⟩ := own5_shape hown5; have HD5 := hide (done_app (n := 0) (o := ⟨2, sec, x, n, .slice ba bb.length bc, bb⟩) hown5); have HW5 := hide ((HW4.out.below ((Below.refl _ _).alloc (Nat.le_refl _) _)).grown (HD4.out.below ((Below.refl _ _).alloc (Nat.le_refl _) _)) hgrow5); have HB5 := hide ((HB4.out.alloc HB4.out.size _).grown hgrow5 (by simp; have := HB4.out.size; omega) (fun k hk => Nat.le_trans hB1 (DoneAt.grown (w' := w4) HD4.out k hk))); have hs5 : w1.heap.size ≤ w5.heap.size := Nat.le_trans hs4 (Nat.le_trans (by simp) hgrow5.size); clear hown5 hgrow5 hq5))
            | fail)
          go_roundw
          case rel => exact ⟨i + 1, a5, D.length + 1, c5, by omega, rfl, by simp, Loop1.done HOI.out HV.out HWR.out HSEG.out HSUB.out hDi HSL.out HD5.out HW5.out HB5.out hs5⟩
          case measure => simp [RowKit.intOf]; omega
        · by_cases k3 : kd = 3
          · subst k3
            have HWD := hide (wbytes_any w3 _ b _ _ _ bb HW3.out hs3 (HBV.out.below HB3.out) (by have := HBL.out; omega))
            have HSEG : Hid (Seg ⟨3, sec, x, n, .slice ba bb.length bc, bb⟩ S.flatten bb) := .inr (.inr (.inl ⟨rfl, rfl⟩))
            go_wp2_with fail
            refine HWD.out.mono ?_
            rintro e w4 ⟨rfl, vw4, hw4, ht4⟩
            have HW4 := hide hw4
            have HB4 := hide (HB3.out.trans (ht4.bel.mono hB1))
            have HD4 : Hid (DoneAt w4 w1.heap.size (.slice a D.length cd) D) := HD3.out.far ht4.far (fun cs fr hc => by rw [HW3.out.hb] at hc; cases hc)
            have hh4 := ht4.far _ _ _ _ HOB.out (by decide) hOBb
            have o0 := cell_of hh4 (i := 0) rfl
            have o1 := cell_of hh4 (i := 1) rfl
            have o2 := cell_of hh4 (i := 2) rfl
            have o3 := cell_of hh4 (i := 3) rfl
            have o4 := cell_of hh4 (i := 4) rfl
            have hs4 : w1.heap.size ≤ w4.heap.size := Nat.le_trans hs3 ht4.bel.size
            clear hw4 ht4 hh4
            go_wp2_with (first
              | (go_at_call 16; refine (no_any _ _).mono ?_; rintro e w4 ⟨rfl, rfl⟩)
              | (at_builtin; (refine wpList_append_own_wide _ rfl _ _ 39 rfl w1.heap.size 42 i0 _ 5 56 Tryd.underlying39 hi hz0 hz1 hz2 rfl (by decide) _ _ _ rfl (HD4.out.alloc _) ⟨w4.heap.size, 0, none⟩ 1 1 [.int .i64 _, .bool sec, .int .u64 (x : Int), .int .i64 _, .slice ba bb.length bc] rfl rfl (five_at w4 _ _ _ _ _) (by simp [Value.oneCell']) (by unfold maxLen; omega) (by omega) (by simp; omega) ?_; intro v2 w5 hown5 hgrow5 hq5; obtain ⟨a5, c5, rfl⟩ := own5_shape hown5; have HD5 := hide (done_app (n := 0) (o := ⟨3, sec, x, n, .slice ba bb.length bc, bb⟩) hown5); have HW5 := hide ((HW4.out.below ((Below.refl _ _).alloc (Nat.le_refl _) _)).grown (HD4.out.below ((Below.refl _ _).alloc (Nat.le_refl _) _)) hgrow5); have HB5 := hide ((HB4.out.alloc HB4.out.size _).grown hgrow5 (by simp; have := HB4.out.size; omega) (fun k hk => Nat.le_trans hB1 (DoneAt.grown (w' := w4) HD4.out k hk))); have hs5 : w1.heap.size ≤ w5.heap.size := Nat.le_trans hs4 (Nat.le_trans (by simp) hgrow5.size); clear hown5 hgrow5 hq5))
              | fail)
            go_roundw
            case rel => exact ⟨i + 1, a5, D.length + 1, c5, by omega, rfl, by simp, Loop1.done HOI.out HV.out HWR.out HSEG.out HSUB.out hDi HSL.out HD5.out HW5.out HB5.out hs5⟩
            case measure => simp [RowKit.intOf]; omega
          · by_cases k4 : kd = 4
            · subst k4
              by_cases hn : 0 ≤ n ∧ n ≤ (S.flatten.length : Int)
              · obtain ⟨s, rfl⟩ : ∃ s : Nat, n = (s : Int) := ⟨n.toNat, by omega⟩
                have HWD := hide (seal_from w3 _ b s _ _ HW3.out hs3 (HS.out.below HB3.out) HFB.out (by omega) (by omega))
                have HSEG : Hid (Seg ⟨4, sec, x, (s : Int), .slice ba bb.length bc, bb⟩ S.flatten (le (crc (S.flatten.drop s)) 4)) := .inr (.inr (.inr ⟨rfl, hn, by rw [Int.toNat_natCast]⟩))
                clear hn
                go_wp2_with fail
                refine HWD.out.mono ?_
                rintro e w4 ⟨rfl, vw4, hw4, ht4⟩
                have HW4 := hide hw4
                have HB4 := hide (HB3.out.trans (ht4.bel.mono hB1))
                have HD4 : Hid (DoneAt w4 w1.heap.size (.slice a D.length cd) D) := HD3.out.far ht4.far (fun cs fr hc => by rw [HW3.out.hb] at hc; cases hc)
                have hh4 := ht4.far _ _ _ _ HOB.out (by decide) hOBb
                have o0 := cell_of hh4 (i := 0) rfl
                have o1 := cell_of hh4 (i := 1) rfl
                have o2 := cell_of hh4 (i := 2) rfl
                have o3 := cell_of hh4 (i := 3) rfl
                have o4 := cell_of hh4 (i := 4) rfl
                have hs4 : w1.heap.size ≤ w4.heap.size := Nat.le_trans hs3 ht4.bel.size
                clear hw4 ht4 hh4
                go_wp2_with (first
                  | (go_at_call 16; refine (no_any _ _).mono ?_; rintro e w4 ⟨rfl, rfl⟩)
                  | (at_builtin; (refine wpList_append_own_wide _ rfl _ _ 39 rfl w1.heap.size 42 i0 _ 5 56 Tryd.underlying39 hi hz0 hz1 hz2 rfl (by decide) _ _ _ rfl (HD4.out.alloc _) ⟨w4.heap.size, 0, none⟩ 1 1 [.int .i64 _, .bool sec, .int .u64 (x : Int), .int .i64 _, .slice ba bb.length bc] rfl rfl (five_at w4 _ _ _ _ _) (by simp [Value.oneCell']) (by unfold maxLen; omega) (by omega) (by simp; omega) ?_; intro v2 w5 hown5 hgrow5 hq5; obtain ⟨a5, c5, rfl⟩ := own5_shape hown5; have HD5 := hide (done_app (n := 0) (o := ⟨4, sec, x, (s : Int), .slice ba bb.length bc, bb⟩) hown5); have HW5 := hide ((HW4.out.below ((Below.refl _ _).alloc (Nat.le_refl _) _)).grown (HD4.out.below ((Below.refl _ _).alloc (Nat.le_refl _) _)) hgrow5); have HB5 := hide ((HB4.out.alloc HB4.out.size _).grown hgrow5 (by simp; have := HB4.out.size; omega) (fun k hk => Nat.le_trans hB1 (DoneAt.grown (w' := w4) HD4.out k hk))); have hs5 : w1.heap.size ≤ w5.heap.size := Nat.le_trans hs4 (Nat.le_trans (by simp) hgrow5.size); clear hown5 hgrow5 hq5))
                  | fail)
                go_roundw
                case rel => exact ⟨i + 1, a5, D.length + 1, c5, by omega, rfl, by simp, Loop1.done HOI.out HV.out HWR.out HSEG.out HSUB.out hDi HSL.out HD5.out HW5.out HB5.out hs5⟩
                case measure => simp [RowKit.intOf]; omega
              · have HWD := hide (seal_bad w3 _ b _ _ n HW3.out hn)
                clear hn
                go_wp2_with fail
                refine HWD.out.mono ?_
                rintro e w4 ⟨rfl, rfl⟩
                go_wp2_with (first
                  | (go_at_call 16; refine (no_any _ _).mono ?_; rintro e w3 ⟨rfl, rfl⟩)
                  | (go_at_call 23; refine HLN.out.mono ?_; rintro e w3 ⟨rfl, rfl⟩)
                  | fail)
                go_roundw
                case rel => exact ⟨i + 1, a, D.length, cd, by omega, rfl, by simp, Loop1.skip HOI.out HWR.out HSUB.out hDi HSL.out HD3.out HW3.out HB3.out hs3⟩
                case measure => simp [RowKit.intOf]; omega
            · have z1 : (kd == 1) = false := by simp [k1]
              have z2 : (kd == 2) = false := by simp [k2]
              have z3 : (kd == 3) = false := by simp [k3]
              have z4 : (kd == 4) = false := by simp [k4]
              clear k1 k2 k3 k4
              go_wp2_with fail
              go_roundw
              case rel => exact ⟨i + 1, a, D.length, cd, by omega, rfl, by simp, Loop1.skip HOI.out HWR.out HSUB.out hDi HSL.out HD3.out HW3.out HB3.out hs3⟩
              case measure => simp [RowKit.intOf]; omega
    · obtain rfl : i = M := by omega
      have hFL : S.flatten.length ≤ 60000000 := by have h1 := hSl; have h2 := HOK.out.sum i (by rw [← HM.out]; exact Nat.le_refl _); omega
      have HFB : Hid (∀ y ∈ S.flatten, 0 ≤ y ∧ y < 256) := wrote_bytes hWr (fun o ho => HOK.out.r o (hsubs o ho))
      have HWR := hide hWr; have HSUB := hide hsubs; have HD := hide hD; have HWO := hide hWO; have HB := hide hB
      obtain ⟨hnd, hcd⟩ := hD.shape
      have HOU := hide (out_any wr _ b _ _ hWO (by omega))
      obtain ⟨bs, hbs⟩ : ∃ bs, bs = S.flatten := ⟨_, rfl⟩
      rw [← hbs] at HOU HFB hFL HWO
      have HBS := hide hbs
      obtain ⟨K, hK⟩ : ∃ K, K = bs.length := ⟨_, rfl⟩
      have HK := hide hK
      rw [← hK] at HOU hFL
      have hdM : nd ≤ 2000000 := by omega
      have HND := hide hnd
      have hlt0 : ¬ (i : Int) < (i : Int) := by omega
      clear hWr hsubs hSl hD hWO hB hbs hK hlt hnd hDi
      go_wp2_with fail
      refine HOU.out.mono ?_
      rintro e w4 ⟨ao4, c4, rfl, hr4, hb4⟩
      have HB4 := hide (below_on HB.out hb4)
      have HD4 := hide (HD.out.below hb4)
      have HW4 := hide (HWO.out.below hb4)
      have HNR := hide (newReader_any w4 _ bs hr4 (by rw [← HK.out]; omega))
      clear hr4 hb4 HB HD HWO HOU
      go_wp2_with fail
      refine HNR.out.mono ?_
      rintro e w5 ⟨r, rfl, hr5, hrd5, hb5⟩
      have HB5 := hide (below_on HB4.out hb5)
      have HD5 := hide (HD4.out.below hb5)
      have HW5 := hide (HW4.out.below hb5)
      have HRD5 := hide hrd5
      have hrW : W0.heap.size ≤ r := by have := HB4.out.size; omega
      have HLF := hide (left_any w5 r bs 0 hrd5 (by omega) (by rw [← HK.out]; omega))
      rw [← HK.out] at HLF
      clear hrd5 hb5 hr5 HB4 HD4 HW4 HNR
      go_wp2_with fail
      refine HLF.out.mono ?_
      rintro e w6 ⟨rfl, hb6⟩
      have HB6 := hide (below_on HB5.out hb6)
      have HD6 := hide (HD5.out.below hb6)
      have HW6 := hide (HW5.out.below hb6)
      have HRD6 := hide (HRD5.out.below hb6)
      have HLN := hide (wlen_any w6 _ b _ _ HW6.out)
      rw [← HK.out] at HLN
      clear hb6 HB5 HD5 HW5 HRD5 HLF
      go_wp2_with fail
      refine HLN.out.mono ?_
      rintro e w6 ⟨rfl, rfl⟩
      go_wp2_with fail
      go_loopw [10] (fun t wr => ∃ j : Nat, j ≤ nd ∧ t = .int .i64 j ∧ RdIs wr r bs (S.take j).flatten.length ∧ DoneAt wr w1.heap.size (.slice a nd cd) D ∧ WOwn wr w1.heap.size b vw bs ∧ Below W0.heap.size W0 wr) (fun t _ => nd - (RowKit.intOf t).toNat)
      case atStart => exact ⟨0, by omega, rfl, HRD6.out, HD6.out, HW6.out, HB6.out⟩
      case round =>
        obtain ⟨j, hj, rfl, hrd, hD, hW, hB⟩ := hrel
        clear HRD6 HD6 HW6 HB6 HLN
        by_cases hltj : j < nd
        · have hjD : j < D.length := by rw [← HND.out]; exact hltj
          have hjS : j < S.length := by rw [HWR.out.len]; exact hjD
          obtain ⟨o, hoj⟩ : ∃ o, D[j]? = some o := ⟨_, List.getElem?_eq_getElem hjD⟩
          obtain ⟨s, hsj⟩ : ∃ s, S[j]? = some s := ⟨_, List.getElem?_eq_getElem hjS⟩
          have hseg := HWR.out.seg j o s hoj hsj
          have homem : o ∈ ops := HSUB.out o (List.mem_of_getElem? hoj)
          obtain ⟨hfl, hft⟩ := split_at hsj
          rw [← HBS.out] at hfl
          obtain ⟨g, rfl, d0, d1, d2, d3, d4⟩ := hD.cells hoj
          have hbl : bs.length ≤ 100000000 := by rw [← HK.out]; omega
          have HBK : Hid (Calls Tryd.prog 26 #[.agg #[.int .i64 o.kind, .bool o.sec, .int .u64 (o.v : Int), .int .i64 o.n, o.bv], .pointer (some ⟨r, 0, none⟩)] wr (BackPost wr r bs (S.take (j + 1)).flatten.length)) := by
            show Calls Tryd.prog 26 _ _ _
            rw [hft, List.length_append, hfl]
            rw [hfl] at hrd hbl
            exact back_any W0 wr r o (S.take j).flatten s _ hB hrW HS.out (HOK.out.b o homem) (HOK.out.v o homem) (by rw [← hfl]; exact HFB.out) hrd hbl hseg
          have HRD := hide hrd; have HD := hide hD; have HW := hide hW; have HB := hide hB
          obtain ⟨kd, sec, x, n, bv, bb⟩ := o
          simp only at d0 d1 d2 d3 d4 HBK
          obtain ⟨ba, bc, hbv⟩ : ∃ ao c, bv = .slice ao bb.length c := by obtain ⟨ao, c, h, _⟩ := HOK.out.b _ homem; exact ⟨ao, c, h⟩
          subst hbv
          have hli : (j : Int) < (nd : Int) := by omega
          unfold BackPost at HBK
          clear hrd hD hW hB hoj hsj hseg homem hfl hft hjD hjS hbl
          go_wp2_with fail
          refine HBK.out.mono ?_
          rintro e w7 ⟨rfl, hrd7, hbut7⟩
          have HRD7 := hide hrd7
          have HD7 := hide (HD.out.but HRD.out hbut7)
          have HW7 := hide (HW.out.but HRD.out hbut7)
          have HB7 := hide (But.below HB.out hbut7 hrW HB.out.size)
          clear hrd7 hbut7 d0 d1 d2 d3 d4
          go_wp2_with fail
          go_roundw
          case rel => exact ⟨j + 1, by omega, by simp, HRD7.out, HD7.out, HW7.out, HB7.out⟩
          case measure => simp [RowKit.intOf]; omega
        · obtain rfl : j = nd := by omega
          have hall : (S.take j).flatten.length = K := by
            have h1 : j = S.length := by rw [HWR.out.len]; exact HND.out
            rw [h1, List.take_length, ← HBS.out]
            exact HK.out.symm
          rw [hall] at hrd
          have HRD := hide hrd; have HB := hide hB
          have HLF := hide (left_any wr r bs K hrd (by rw [← HK.out]; exact Nat.le_refl _) (by rw [← HK.out]; omega))
          rw [← HK.out, show ((K : Int) - (K : Int)) = 0 by omega] at HLF
          have HWW := hide hW
          have hlt1 : ¬ (j : Int) < (j : Int) := by omega
          clear hrd hD hW hB hall hltj
          go_wp2_with fail
          refine HLF.out.mono ?_
          rintro e w8 ⟨rfl, hb8⟩
          have HB8 := hide (below_on HB.out hb8)
          have HAT := hide (at_any w8 r bs K (HRD.out.below hb8))
          have HLN := hide (wlen_any w8 _ b _ _ (HWW.out.below hb8))
          rw [← HK.out] at HLN
          clear hb8 HLF
          go_wp2_with fail
          refine HAT.out.mono ?_
          rintro e w8 ⟨rfl, rfl⟩
          go_wp2_with fail
          refine HLN.out.mono ?_
          rintro e w8 ⟨rfl, rfl⟩
          go_wp2
          go_ret
          exact ⟨by first | rfl | (simp; done), HB8.out⟩
end Go.Proofs.YtpfpelhhebafeaaDoor
