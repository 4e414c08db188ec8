/- The document's First: the error of spans. -/
import Derived.Test.YtfoeljcgbfpknaaH4
import Derived.Deep.RegionHeld3
import Derived.Deep.Cut
import Derived.Deep.CutRange
namespace Go.Proofs.Ytfoeljcgbfpknaa
open Go.RowKit Go.Lib
set_option linter.unusedVariables false
set_option linter.unusedSimpArgs false
/-- Does the operation count? -/
def cntD (s : Sp) : Bool := if s.ins = true then s.kind == 2 else s.kind == 4
/-- An insertion that counts or is open. -/
def putD (s : Sp) : Bool := s.ins && (s.kind == 2 || s.en == -1)
set_option maxRecDepth 100000 in
set_option maxHeartbeats 2000000 in
theorem counts_any (s : Sp) (w : World) : Calls Try.prog 40 #[.agg s.arr] w fun x w' => x = .returned (.bool (cntD s)) ∧ Below w.heap.size w w' := by
  obtain ⟨who, ins, key, load, beg, en, kind⟩ := s
  have HA : Hid (Below w.heap.size w (w.alloc (.cells #[.int .i64 who, .bool ins, .int .u64 key, .int .u64 load, .int .i64 beg, .int .i64 en, .int .i64 kind] 69))) := below_alloc (Below.refl _ _) _
  unfold Sp.arr cntD
  simp only
  cases ins with
  | true =>
    by_cases hk : kind = 2
    · subst hk
      go_enter Try.func40, Try.ntmps40
      go_wp2_with fail
      go_ret
      exact ⟨rfl, HA.out⟩
    · have hk2 : (kind == 2) = false := by simp [hk]
      clear hk
      rw [hk2]
      go_enter Try.func40, Try.ntmps40
      go_wp2_with fail
      go_ret
      exact ⟨rfl, HA.out⟩
  | false =>
    by_cases hk : kind = 4
    · subst hk
      go_enter Try.func40, Try.ntmps40
      go_wp2_with fail
      go_ret
      exact ⟨rfl, HA.out⟩
    · have hk2 : (kind == 4) = false := by simp [hk]
      clear hk
      rw [hk2]
      go_enter Try.func40, Try.ntmps40
      go_wp2_with fail
      go_ret
      exact ⟨rfl, HA.out⟩
set_option maxRecDepth 100000 in
theorem may_any (s : Sp) (w : World) : Calls Try.prog 65 #[.agg s.arr] w fun x w' => x = .returned (.bool (s.en == -1)) ∧ Below w.heap.size w w' := by
  obtain ⟨who, ins, key, load, beg, en, kind⟩ := s
  have HA : Hid (Below w.heap.size w (w.alloc (.cells #[.int .i64 who, .bool ins, .int .u64 key, .int .u64 load, .int .i64 beg, .int .i64 en, .int .i64 kind] 69))) := below_alloc (Below.refl _ _) _
  unfold Sp.arr
  simp only
  by_cases hk : en = -1
  · subst hk
    go_enter Try.func65, Try.ntmps65
    go_wp2_with fail
    go_ret
    exact ⟨rfl, HA.out⟩
  · have hk2 : (en == -1) = false := by simp [hk]
    clear hk
    rw [hk2]
    go_enter Try.func65, Try.ntmps65
    go_wp2_with fail
    go_ret
    exact ⟨rfl, HA.out⟩
set_option maxRecDepth 100000 in
set_option maxHeartbeats 2000000 in
theorem put_any (s : Sp) (w : World) : Calls Try.prog 41 #[.agg s.arr] w fun x w' => x = .returned (.bool (putD s)) ∧ Below w.heap.size w w' := by
  have HC := hide (fun W => counts_any s W)
  have HY := hide (fun W => may_any s W)
  obtain ⟨who, ins, key, load, beg, en, kind⟩ := s
  have HA : Hid (Below w.heap.size w (w.alloc (.cells #[.int .i64 who, .bool ins, .int .u64 key, .int .u64 load, .int .i64 beg, .int .i64 en, .int .i64 kind] 69))) := below_alloc (Below.refl _ _) _
  have HB : Hid ((w.alloc (.cells #[.int .i64 who, .bool ins, .int .u64 key, .int .u64 load, .int .i64 beg, .int .i64 en, .int .i64 kind] 69)).heap[w.heap.size]? = some (.cells #[.int .i64 who, .bool ins, .int .u64 key, .int .u64 load, .int .i64 beg, .int .i64 en, .int .i64 kind] 69 (0, 0))) := heap_new _ _
  unfold Sp.arr at HC HY ⊢
  unfold putD
  unfold cntD at HC
  simp only at HC HY ⊢
  cases ins with
  | false =>
    go_enter Try.func41, Try.ntmps41
    go_wp2_with fail
    go_ret
    exact ⟨rfl, HA.out⟩
  | true =>
    simp only [if_true] at HC
    cases hk : (kind == 2) with
    | true =>
      rw [hk] at HC
      go_enter Try.func41, Try.ntmps41
      go_wp2_with fail
      refine (HC.out _).mono ?_
      rintro e w5 ⟨rfl, hb⟩
      have HP := hide (below_on HA.out hb)
      clear hb
      go_wp2_with fail
      go_ret
      exact ⟨rfl, HP.out⟩
    | false =>
      rw [hk] at HC
      go_enter Try.func41, Try.ntmps41
      go_wp2_with fail
      refine (HC.out _).mono ?_
      rintro e w5 ⟨rfl, hb⟩
      have HP := hide (below_on HA.out hb)
      have hq := (hb.block _ (lt_of_heap HB.out)).trans HB.out
      have z0 := cell_of hq (i := 0) rfl; have z1 := cell_of hq (i := 1) rfl; have z2 := cell_of hq (i := 2) rfl; have z3 := cell_of hq (i := 3) rfl; have z4 := cell_of hq (i := 4) rfl; have z5 := cell_of hq (i := 5) rfl; have z6 := cell_of hq (i := 6) rfl
      clear hb hq
      go_wp2_with fail
      refine (HY.out _).mono ?_
      rintro e w6 ⟨rfl, hb⟩
      have HP2 := hide (below_on HP.out hb)
      clear hb
      go_wp2_with fail
      go_ret
      exact ⟨by simp, HP2.out⟩
/-- Two insertions with one task. -/
def Twc (l : List Sp) (i k : Nat) : Prop := putD (spAt l i) = true ∧ putD (spAt l k) = true ∧ (spAt l i).key = (spAt l k).key ∧ (spAt l i).load = (spAt l k).load
/-- The error of spans. -/
def FiA (l : List Sp) (r : Int) : Prop :=
  (¬ HsAll (momD l l.length) l ∧ r = 70) ∨ (HsAll (momD l l.length) l ∧ 2000 < momD l l.length ∧ r = 71) ∨ (HsAll (momD l l.length) l ∧ ¬ 2000 < momD l l.length ∧ (∃ i k, i < l.length ∧ k < i ∧ Twc l i k) ∧ r = 72) ∨ (HsAll (momD l l.length) l ∧ ¬ 2000 < momD l l.length ∧ (∀ i k, i < l.length → k < i → ¬ Twc l i k) ∧ r = 0)
theorem FiA.one {l : List Sp} {r r' : Int} (h : FiA l r) (h' : FiA l r') : r = r' := by
  rcases h with ⟨a, rfl⟩ | ⟨a, b, rfl⟩ | ⟨a, b, ⟨i, k, hi, hk, ht⟩, rfl⟩ | ⟨a, b, c, rfl⟩ <;> rcases h' with ⟨a', rfl⟩ | ⟨a', b', rfl⟩ | ⟨a', b', ⟨i', k', hi', hk', ht'⟩, rfl⟩ | ⟨a', b', c', rfl⟩ <;> first | rfl | exact (a a').elim | exact (a' a).elim | exact (b b').elim | exact (b' b).elim | exact (c' _ _ hi hk ht).elim | exact (c _ _ hi' hk' ht').elim
/-- What First answers. -/
def FiP (l : List Sp) (w : World) (x : Ending) (w' : World) : Prop := Below w.heap.size w w' ∧ ∃ r, x = .returned (.int .i64 r) ∧ FiA l r
theorem FiP.made {l : List Sp} {w w' : World} {x : Ending} {r : Int} (h1 : Below w.heap.size w w') (h2 : x = .returned (.int .i64 r)) (h3 : FiA l r) : FiP l w x w' := ⟨h1, r, h2, h3⟩
set_option maxRecDepth 100000 in
set_option maxHeartbeats 4000000 in
theorem first_any (v : Value) (l : List Sp) (w : World) (h : RAt Sp.arr 7 w v l) (hl : l.length * 56 ≤ 140737488351232) : Calls Try.prog 30 #[v] w (FiP l w) := by
  have HH := hide (fun W (hb : Below w.heap.size w W) => history_any v l W (h.below hb) hl)
  have HMo := hide (fun W (hb : Below w.heap.size w W) => momR_any v l W (h.below hb) (by omega))
  obtain ⟨ao, cap, rfl, hcap, h63⟩ := h.shape
  have H := hide h
  obtain ⟨n, hn⟩ : ∃ n, n = l.length := ⟨_, rfl⟩
  have HN := hide hn
  have hml := momD_le l l.length
  have HFA : Hid (∀ r, FiA l r → FiA l r) := fun _ a => a
  rw [← hn] at hcap H hl HH HMo hml ⊢
  obtain ⟨m, hm⟩ : ∃ m, m = momD l n := ⟨_, rfl⟩
  have HMM : Hid (m = momD l l.length) := by show m = momD l l.length; rw [hm, hn]
  rw [← hm] at HMo HH hml
  clear h hn hm
  go_enter Try.func30, Try.ntmps30
  go_wp2_with fail
  refine (HH.out w (Below.refl _ _)).mono ?_
  rintro e w1 ⟨hb1, b, rfl, hbi⟩
  have HB1 := hide hb1
  have HBI : Hid (b = true ↔ HsAll (momD l l.length) l) := by rw [← HMM.out]; unfold HsAll; rw [← HN.out]; exact hbi
  clear hb1 hbi HH
  cases b with
  | false =>
    have HR : Hid (FiA l 70) := .inl ⟨fun q => (by have := HBI.out.2 q; cases this), rfl⟩
    go_wp2_with fail
    go_ret
    exact FiP.made HB1.out rfl HR.out
  | true =>
    have HHS := hide (HBI.out.1 rfl)
    clear HBI
    go_wp2_with fail
    refine (HMo.out w1 HB1.out).mono ?_
    rintro e w2 ⟨rfl, hw2⟩
    subst hw2
    clear HMo
    by_cases hm2 : (2000 : Int) < (m : Int)
    · have HR : Hid (FiA l 71) := .inr (.inl ⟨HHS.out, by rw [← HMM.out]; omega, rfl⟩)
      go_wp2_with fail
      go_ret
      exact FiP.made HB1.out rfl HR.out
    · have HMS : Hid (¬ 2000 < momD l l.length) := by rw [← HMM.out]; show ¬ _; omega
      go_wp2_with fail
      clear hm2
      go_loopw [2, 3, 4] (fun va t _ wr => ∃ i : Nat, i ≤ n ∧ va = .int .i64 0 ∧ t = .int .i64 (i : Int) ∧ Below w.heap.size w wr ∧ ∀ a k, a < i → k < a → ¬ Twc l a k) (fun _ t _ _ => n - (RowKit.intOf t).toNat)
      case atStart => exact ⟨0, Nat.zero_le _, rfl, rfl, HB1.out, fun a k ha => by omega⟩
      case round =>
        clear HB1
        obtain ⟨i, hin, rfl, rfl, hb, hno⟩ := hrel
        have HB := hide hb; have HNO := hide hno
        clear hb hno
        by_cases hlt : i < n
        · have hli : (i : Int) < (n : Int) := by omega
          go_wp2_with fail
          go_loopw [2, 4] (fun va t wx => ∃ k : Nat, k ≤ i ∧ va = .int .i64 0 ∧ t = .int .i64 (k : Int) ∧ Below w.heap.size w wx ∧ ∀ a, a < k → ¬ Twc l i a) (fun _ t _ => i - (RowKit.intOf t).toNat)
          case atStart => exact ⟨0, Nat.zero_le _, rfl, rfl, HB.out, fun a ha => by omega⟩
          case round =>
            clear HB
            obtain ⟨k, hki, rfl, rfl, hb, hnk⟩ := hrel
            have HB := hide hb; have HNK := hide hnk
            clear hb hnk
            by_cases hkl : k < i
            · have hkli : (k : Int) < (i : Int) := by omega
              have hkn : (k : Int) < (n : Int) := by omega
              obtain ⟨gs, os, rfl, hgs, i0, i1, i2, i3, i4, i5, i6⟩ := sp_cells (H.out.below HB.out) i (by rw [← HN.out]; exact hlt)
              obtain ⟨gs', os', hgo, _, k0, k1, k2, k3, k4, k5, k6⟩ := sp_cells (H.out.below HB.out) k (by rw [← HN.out]; omega)
              simp only [Option.some.injEq, Addr.mk.injEq, and_true] at hgo
              obtain ⟨rfl, rfl⟩ := hgo
              have HTW : Hid (Twc l i k ↔ putD (spAt l i) = true ∧ putD (spAt l k) = true ∧ (spAt l i).key = (spAt l k).key ∧ (spAt l i).load = (spAt l k).load) := Iff.rfl
              have HPI := hide (fun W => put_any (spAt l i) W)
              have HPK := hide (fun W => put_any (spAt l k) W)
              generalize spAt l i = si at i0 i1 i2 i3 i4 i5 i6 HTW HPI
              generalize spAt l k = sk at k0 k1 k2 k3 k4 k5 k6 HTW HPK
              obtain ⟨whoi, insi, keyi, loadi, begi, eni, kindi⟩ := si
              obtain ⟨whok, insk, keyk, loadk, begk, enk, kindk⟩ := sk
              unfold Sp.arr at HPI HPK
              simp only at i0 i1 i2 i3 i4 i5 i6 k0 k1 k2 k3 k4 k5 k6 HTW HPI HPK
              generalize putD ⟨whoi, insi, keyi, loadi, begi, eni, kindi⟩ = pi at HTW HPI
              generalize putD ⟨whok, insk, keyk, loadk, begk, enk, kindk⟩ = pk at HTW HPK
              obtain ⟨q, hq⟩ : ∃ q : Bool, (keyi == keyk && (loadi == loadk && true)) = q := ⟨_, rfl⟩
              have heq := fun W => eql_task keyi loadi keyk loadk W
              rw [hq] at heq
              have HTQ : Hid (Twc l i k ↔ (pi && pk && q) = true) := by
                show Twc l i k ↔ (pi && pk && q) = true
                rw [HTW.out, ← hq]
                cases pi <;> cases pk <;> simp
              clear hq HTW
              have HSC : Hid (∀ x, Below wr.heap.size wr x → (fun x => x.cell? ⟨gs, os + i * 7, none⟩ = some (.int .i64 whoi) ∧ x.cell? ⟨gs, os + i * 7 + 1, none⟩ = some (.bool insi) ∧ x.cell? ⟨gs, os + i * 7 + 2, none⟩ = some (.int .u64 keyi) ∧ x.cell? ⟨gs, os + i * 7 + 3, none⟩ = some (.int .u64 loadi) ∧ x.cell? ⟨gs, os + i * 7 + 4, none⟩ = some (.int .i64 begi) ∧ x.cell? ⟨gs, os + i * 7 + 5, none⟩ = some (.int .i64 eni) ∧ x.cell? ⟨gs, os + i * 7 + 6, none⟩ = some (.int .i64 kindi) ∧ x.cell? ⟨gs, os + k * 7, none⟩ = some (.int .i64 whok) ∧ x.cell? ⟨gs, os + k * 7 + 1, none⟩ = some (.bool insk) ∧ x.cell? ⟨gs, os + k * 7 + 2, none⟩ = some (.int .u64 keyk) ∧ x.cell? ⟨gs, os + k * 7 + 3, none⟩ = some (.int .u64 loadk) ∧ x.cell? ⟨gs, os + k * 7 + 4, none⟩ = some (.int .i64 begk) ∧ x.cell? ⟨gs, os + k * 7 + 5, none⟩ = some (.int .i64 enk) ∧ x.cell? ⟨gs, os + k * 7 + 6, none⟩ = some (.int .i64 kindk)) x) := fun x hx => ⟨(below_cell hx hgs).trans i0, (below_cell hx hgs).trans i1, (below_cell hx hgs).trans i2, (below_cell hx hgs).trans i3, (below_cell hx hgs).trans i4, (below_cell hx hgs).trans i5, (below_cell hx hgs).trans i6, (below_cell hx hgs).trans k0, (below_cell hx hgs).trans k1, (below_cell hx hgs).trans k2, (below_cell hx hgs).trans k3, (below_cell hx hgs).trans k4, (below_cell hx hgs).trans k5, (below_cell hx hgs).trans k6⟩
              have HB0 : Hid (Below wr.heap.size wr wr.drew) := below_drew (Below.refl _ _)
              clear i0 i1 i2 i3 i4 i5 i6 k0 k1 k2 k3 k4 k5 k6
              go_wp2_with fail
              go_cut [46] from 22 to 46 (fun t wx => t = .bool (pi && pk && q) ∧ Below wr.heap.size wr wx)
              case first =>
                have ic0 : ∀ x : GW wr, x.world.cell? ⟨gs, os + i * 7, none⟩ = some (.int .i64 whoi) := fun x => (HSC.out x.world x.bel).1
                have ic1 : ∀ x : GW wr, x.world.cell? ⟨gs, os + i * 7 + 1, none⟩ = some (.bool insi) := fun x => (HSC.out x.world x.bel).2.1
                have ic2 : ∀ x : GW wr, x.world.cell? ⟨gs, os + i * 7 + 2, none⟩ = some (.int .u64 keyi) := fun x => (HSC.out x.world x.bel).2.2.1
                have ic3 : ∀ x : GW wr, x.world.cell? ⟨gs, os + i * 7 + 3, none⟩ = some (.int .u64 loadi) := fun x => (HSC.out x.world x.bel).2.2.2.1
                have ic4 : ∀ x : GW wr, x.world.cell? ⟨gs, os + i * 7 + 4, none⟩ = some (.int .i64 begi) := fun x => (HSC.out x.world x.bel).2.2.2.2.1
                have ic5 : ∀ x : GW wr, x.world.cell? ⟨gs, os + i * 7 + 5, none⟩ = some (.int .i64 eni) := fun x => (HSC.out x.world x.bel).2.2.2.2.2.1
                have ic6 : ∀ x : GW wr, x.world.cell? ⟨gs, os + i * 7 + 6, none⟩ = some (.int .i64 kindi) := fun x => (HSC.out x.world x.bel).2.2.2.2.2.2.1
                have kc0 : ∀ x : GW wr, x.world.cell? ⟨gs, os + k * 7, none⟩ = some (.int .i64 whok) := fun x => (HSC.out x.world x.bel).2.2.2.2.2.2.2.1
                have kc1 : ∀ x : GW wr, x.world.cell? ⟨gs, os + k * 7 + 1, none⟩ = some (.bool insk) := fun x => (HSC.out x.world x.bel).2.2.2.2.2.2.2.2.1
                have kc2 : ∀ x : GW wr, x.world.cell? ⟨gs, os + k * 7 + 2, none⟩ = some (.int .u64 keyk) := fun x => (HSC.out x.world x.bel).2.2.2.2.2.2.2.2.2.1
                have kc3 : ∀ x : GW wr, x.world.cell? ⟨gs, os + k * 7 + 3, none⟩ = some (.int .u64 loadk) := fun x => (HSC.out x.world x.bel).2.2.2.2.2.2.2.2.2.2.1
                have kc4 : ∀ x : GW wr, x.world.cell? ⟨gs, os + k * 7 + 4, none⟩ = some (.int .i64 begk) := fun x => (HSC.out x.world x.bel).2.2.2.2.2.2.2.2.2.2.2.1
                have kc5 : ∀ x : GW wr, x.world.cell? ⟨gs, os + k * 7 + 5, none⟩ = some (.int .i64 enk) := fun x => (HSC.out x.world x.bel).2.2.2.2.2.2.2.2.2.2.2.2.1
                have kc6 : ∀ x : GW wr, x.world.cell? ⟨gs, os + k * 7 + 6, none⟩ = some (.int .i64 kindk) := fun x => (HSC.out x.world x.bel).2.2.2.2.2.2.2.2.2.2.2.2.2
                cases pi with
                | false =>
                  refine wp_region_gw (by kernel_rfl) (by kernel_rfl) ?_
                  repeat (go_big_quiet_step (first
                    | (go_at_call 41; (with_reducible show Calls _ 41 #[.agg #[.int .i64 whoi, _, _, _, _, _, _]] _ _); exact gw_of (HPI.out _)) | (go_at_call 41; (with_reducible show Calls _ 41 #[.agg #[.int .i64 whok, _, _, _, _, _, _]] _ _); exact gw_of (HPK.out _))
                    | rfl))
                  refine wpQuiet_nil ?_
                  intro _ hw'
                  obtain ⟨x, hw''⟩ := hw'
                  subst hw''
                  go_wp2_with fail
                  go_meet
                  case rel => exact ⟨rfl, x.bel⟩
                | true =>
                  cases pk with
                  | false =>
                    refine wp_region_gw (by kernel_rfl) (by kernel_rfl) ?_
                    repeat (go_big_quiet_step (first
                      | (go_at_call 41; (with_reducible show Calls _ 41 #[.agg #[.int .i64 whoi, _, _, _, _, _, _]] _ _); exact gw_of (HPI.out _)) | (go_at_call 41; (with_reducible show Calls _ 41 #[.agg #[.int .i64 whok, _, _, _, _, _, _]] _ _); exact gw_of (HPK.out _))
                      | rfl))
                    refine wpQuiet_nil ?_
                    intro _ hw'
                    obtain ⟨x, hw''⟩ := hw'
                    subst hw''
                    go_wp2_with fail
                    go_meet
                    case rel => exact ⟨rfl, x.bel⟩
                  | true =>
                    cases q with
                    | false =>
                      refine wp_region_gw (by kernel_rfl) (by kernel_rfl) ?_
                      repeat (go_big_quiet_step (first
                        | (go_at_call 41; (with_reducible show Calls _ 41 #[.agg #[.int .i64 whoi, _, _, _, _, _, _]] _ _); exact gw_of (HPI.out _)) | (go_at_call 41; (with_reducible show Calls _ 41 #[.agg #[.int .i64 whok, _, _, _, _, _, _]] _ _); exact gw_of (HPK.out _))
                        | rfl))
                      refine wpQuiet_nil ?_
                      intro _ hw'
                      obtain ⟨x, hw''⟩ := hw'
                      subst hw''
                      go_wp2_with fail
                      go_meet
                      case rel => exact ⟨rfl, x.bel⟩
                    | true =>
                      refine wp_region_gw (by kernel_rfl) (by kernel_rfl) ?_
                      repeat (go_big_quiet_step (first
                        | (go_at_call 41; (with_reducible show Calls _ 41 #[.agg #[.int .i64 whoi, _, _, _, _, _, _]] _ _); exact gw_of (HPI.out _)) | (go_at_call 41; (with_reducible show Calls _ 41 #[.agg #[.int .i64 whok, _, _, _, _, _, _]] _ _); exact gw_of (HPK.out _))
                        | rfl))
                      refine wpQuiet_nil ?_
                      intro _ hw'
                      obtain ⟨x, hw''⟩ := hw'
                      subst hw''
                      go_wp2_with fail
                      go_meet
                      case rel => exact ⟨rfl, x.bel⟩
              case rest =>
                obtain ⟨rfl, hbc⟩ := hcut
                have HBC := hide (below_on HB.out hbc)
                clear hbc HSC HPI HPK heq HB0
                generalize (pi && pk && q) = tw at HTQ ⊢
                cases tw with
                | true =>
                  have HR : Hid (FiA l 72) := .inr (.inr (.inl ⟨HHS.out, HMS.out, ⟨i, k, by rw [← HN.out]; exact hlt, hkl, HTQ.out.2 rfl⟩, rfl⟩))
                  go_wp2_with fail
                  go_ret
                  exact FiP.made HBC.out rfl HR.out
                | false =>
                  have HR : Hid (∀ a, a < k + 1 → ¬ Twc l i a) := fun a ha q => by
                    by_cases e : a = k
                    · subst e; have := HTQ.out.1 q; cases this
                    · exact HNK.out a (by omega) q
                  go_wp2_with fail
                  exact ⟨⟨k + 1, by omega, rfl, by simp, HBC.out, HR.out⟩, mdecH hkl⟩
            · obtain rfl : k = i := by omega
              have hkli : ¬ (k : Int) < (k : Int) := by omega
              have HR : Hid (∀ a b, a < k + 1 → b < a → ¬ Twc l a b) := fun a b ha hb => by
                by_cases e : a = k
                · subst e; exact HNK.out b hb
                · exact HNO.out a b (by omega) hb
              go_wp2_with fail
              exact ⟨⟨k + 1, by omega, rfl, by simp, HB.out, HR.out⟩, mdecH hlt⟩
        · obtain rfl : i = n := by omega
          have hli : ¬ (i : Int) < (i : Int) := by omega
          have HR : Hid (FiA l 0) := .inr (.inr (.inr ⟨HHS.out, HMS.out, fun a k ha hk => HNO.out a k (by rw [HN.out]; exact ha) hk, rfl⟩))
          go_wp2_with fail
          go_ret
          exact FiP.made HB.out rfl HR.out
end Go.Proofs.Ytfoeljcgbfpknaa
