/- The document's twice and fresh. -/
import Derived.Test.YtfoeljcgbfpknaaB1
namespace Go.Proofs.Ytfoeljcgbfpknaa
open Go.RowKit Go.Lib
set_option linter.unusedVariables false
set_option linter.unusedSimpArgs false
def TwP2 (l : List Sp) (w : World) (x : Ending) (w' : World) : Prop := Below w.heap.size w w' ∧ ∃ a b : Int, x = .returned (.tuple #[.int .i64 a, .int .i64 b]) ∧ (0 ≤ a ↔ TwiD l)
theorem TwP2.yes {l : List Sp} {w w' : World} {x : Ending} {a b : Int} (hb : Below w.heap.size w w') (hx : x = .returned (.tuple #[.int .i64 a, .int .i64 b])) (hr : 0 ≤ a) (h : TwiD l) : TwP2 l w x w' := ⟨hb, a, b, hx, fun _ => h, fun _ => hr⟩
theorem TwP2.no {l : List Sp} {w w' : World} {x : Ending} (hb : Below w.heap.size w w') (hx : x = .returned (.tuple #[.int .i64 (-1), .int .i64 (-1)])) (h : ¬ TwiD l) : TwP2 l w x w' := ⟨hb, -1, -1, hx, fun e => by omega, fun e => (h e).elim⟩
/-- Two removals that take the same. -/
def Pr2 (l : List Sp) (a b : Nat) : Prop := tkn (spAt l a) = true ∧ tkn (spAt l b) = true ∧ tkS (spAt l a) = tkS (spAt l b)
set_option maxRecDepth 100000 in
set_option maxHeartbeats 4000000 in
theorem twice_any (v : Value) (l : List Sp) (w : World) (h : RAt Sp.arr 7 w v l) (hl : l.length ≤ 1759218604440) : Calls Try.prog 37 #[v] w (TwP2 l w) := by
  obtain ⟨ao, cap, rfl, hcap, h63⟩ := h.shape
  have H := hide h
  obtain ⟨n, hn⟩ : ∃ n, n = l.length := ⟨_, rfl⟩
  have HN := hide hn
  rw [← hn] at hcap H hl ⊢
  clear h hn
  go_enter Try.func37, Try.ntmps37
  go_wp2_with fail
  go_loopw [2, 3, 4] (fun va vb t wr => ∃ i : Nat, i ≤ n ∧ va = .int .i64 0 ∧ vb = .int .i64 0 ∧ t = .int .i64 (i : Int) ∧ Below w.heap.size w wr ∧ ∀ b, b < i → ∀ a, a < b → ¬ Pr2 l a b) (fun _ _ t _ => n - (RowKit.intOf t).toNat)
  case atStart => exact ⟨0, Nat.zero_le _, rfl, rfl, rfl, Below.refl _ _, fun b hb => by omega⟩
  case round =>
    obtain ⟨i, hin, rfl, rfl, rfl, hb, hno⟩ := hrel
    have HB := hide hb; have HNO := hide hno
    clear hb hno
    by_cases hlt : i < n
    · have hli : (i : Int) < (n : Int) := by omega
      go_wp2_with fail
      go_loopw [2, 3, 5] (fun va vb t wr => ∃ k : Nat, k ≤ i ∧ va = .int .i64 0 ∧ vb = .int .i64 0 ∧ t = .int .i64 (k : Int) ∧ Below w.heap.size w wr ∧ ∀ a, a < k → ¬ Pr2 l a i) (fun _ _ t _ => i - (RowKit.intOf t).toNat)
      case atStart => exact ⟨0, Nat.zero_le _, rfl, rfl, rfl, HB.out, fun a ha => by omega⟩
      case round =>
        clear HB
        obtain ⟨k, hki, rfl, rfl, rfl, hb, hnk⟩ := hrel
        have HB := hide hb; have HNK := hide hnk
        clear hb hnk
        by_cases hkl : k < i
        · have hkli : (k : Int) < (i : Int) := by omega
          have hkn : (k : Int) < (n : Int) := by omega
          obtain ⟨gs, os, rfl, hgs, K0, K1, K2, K3, K4, K5, K6⟩ := sp_cells (H.out.below HB.out) k (by rw [← HN.out]; omega)
          obtain ⟨gq, oq, e, hgq, I0, I1, I2, I3, I4, I5, I6⟩ := sp_cells (H.out.below HB.out) i (by rw [← HN.out]; exact hlt)
          simp only [Option.some.injEq, Addr.mk.injEq, and_true] at e
          obtain ⟨rfl, rfl⟩ := e
          have HTK := hide (fun W => taken_any (spAt l k) W)
          have HTI := hide (fun W => taken_any (spAt l i) W)
          have HTE := hide (tks_eq (spAt l k) (spAt l i))
          have HYE : Hid (tkn (spAt l k) = true → tkn (spAt l i) = true → tkS (spAt l k) = tkS (spAt l i) → TwiD l) := fun a b c => ⟨k, i, hkl, by rw [← HN.out]; exact hlt, a, b, c⟩
          have HNX : Hid (¬ (tkn (spAt l k) = true ∧ tkn (spAt l i) = true ∧ tkS (spAt l k) = tkS (spAt l i)) → ∀ a, a < k + 1 → ¬ Pr2 l a i) := fun q j hj => by
            by_cases e : j = k
            · rw [e]; exact q
            · exact HNK.out j (by omega)
          generalize spAt l k = sk at K0 K1 K2 K3 K4 K5 K6 HTK HTE HYE HNX
          generalize spAt l i = si at I0 I1 I2 I3 I4 I5 I6 HTI HTE HYE HNX
          generalize tkn sk = tb at HTK HYE HNX
          generalize tkn si = tc at HTI HYE HNX
          obtain ⟨whoK, insK, keyK, loadK, begK, enK, kindK⟩ := sk
          obtain ⟨whoI, insI, keyI, loadI, begI, enI, kindI⟩ := si
          unfold Sp.arr at HTK HTI
          simp only at K0 K1 K2 K3 K4 K5 K6 I0 I1 I2 I3 I4 I5 I6 HTK HTI HTE
          have K0' : ∀ x : GW wr, x.world.cell? ⟨gs, os + k * 7, none⟩ = some (.int .i64 whoK) := fun x => (below_cell x.bel hgs).trans K0
          have K1' : ∀ x : GW wr, x.world.cell? ⟨gs, os + k * 7 + 1, none⟩ = some (.bool insK) := fun x => (below_cell x.bel hgs).trans K1
          have K2' : ∀ x : GW wr, x.world.cell? ⟨gs, os + k * 7 + 2, none⟩ = some (.int .u64 keyK) := fun x => (below_cell x.bel hgs).trans K2
          have K3' : ∀ x : GW wr, x.world.cell? ⟨gs, os + k * 7 + 3, none⟩ = some (.int .u64 loadK) := fun x => (below_cell x.bel hgs).trans K3
          have K4' : ∀ x : GW wr, x.world.cell? ⟨gs, os + k * 7 + 4, none⟩ = some (.int .i64 begK) := fun x => (below_cell x.bel hgs).trans K4
          have K5' : ∀ x : GW wr, x.world.cell? ⟨gs, os + k * 7 + 5, none⟩ = some (.int .i64 enK) := fun x => (below_cell x.bel hgs).trans K5
          have K6' : ∀ x : GW wr, x.world.cell? ⟨gs, os + k * 7 + 6, none⟩ = some (.int .i64 kindK) := fun x => (below_cell x.bel hgs).trans K6
          have I0' : ∀ x : GW wr, x.world.cell? ⟨gs, os + i * 7, none⟩ = some (.int .i64 whoI) := fun x => (below_cell x.bel hgs).trans I0
          have I1' : ∀ x : GW wr, x.world.cell? ⟨gs, os + i * 7 + 1, none⟩ = some (.bool insI) := fun x => (below_cell x.bel hgs).trans I1
          have I2' : ∀ x : GW wr, x.world.cell? ⟨gs, os + i * 7 + 2, none⟩ = some (.int .u64 keyI) := fun x => (below_cell x.bel hgs).trans I2
          have I3' : ∀ x : GW wr, x.world.cell? ⟨gs, os + i * 7 + 3, none⟩ = some (.int .u64 loadI) := fun x => (below_cell x.bel hgs).trans I3
          have I4' : ∀ x : GW wr, x.world.cell? ⟨gs, os + i * 7 + 4, none⟩ = some (.int .i64 begI) := fun x => (below_cell x.bel hgs).trans I4
          have I5' : ∀ x : GW wr, x.world.cell? ⟨gs, os + i * 7 + 5, none⟩ = some (.int .i64 enI) := fun x => (below_cell x.bel hgs).trans I5
          have I6' : ∀ x : GW wr, x.world.cell? ⟨gs, os + i * 7 + 6, none⟩ = some (.int .i64 kindI) := fun x => (below_cell x.bel hgs).trans I6
          have heq := fun W => eql_task keyK loadK keyI loadI W
          generalize (keyK == keyI && (loadK == loadI && true)) = qq at HTE heq
          clear K0 K1 K2 K3 K4 K5 K6 I0 I1 I2 I3 I4 I5 I6
          cases tb with
          | false =>
            have HY2 := hide (HNX.out (fun a => by simp at a))
            go_upto_region 7 with fail
            refine wp_region_gw (by kernel_rfl) (by kernel_rfl) ?_
            repeat (go_big_quiet_step (first | (go_at_call 64; (with_reducible show Calls _ 64 #[.agg #[.int .i64 whoK, _, _, _, _, _, _]] _ _); exact gw_of (HTK.out _)) | (go_at_call 64; (with_reducible show Calls _ 64 #[.agg #[.int .i64 whoI, _, _, _, _, _, _]] _ _); exact gw_of (HTI.out _)) | rfl))
            refine wpQuiet_nil ?_
            rintro _ ⟨x, rfl⟩
            go_wp2_with fail
            exact ⟨⟨k + 1, by omega, rfl, rfl, by simp, below_on HB.out x.bel, HY2.out⟩, by simp [RowKit.intOf]; omega⟩
          | true =>
            cases tc with
            | false =>
              have HY2 := hide (HNX.out (fun a => by simp at a))
              go_upto_region 7 with fail
              refine wp_region_gw (by kernel_rfl) (by kernel_rfl) ?_
              repeat (go_big_quiet_step (first | (go_at_call 64; (with_reducible show Calls _ 64 #[.agg #[.int .i64 whoK, _, _, _, _, _, _]] _ _); exact gw_of (HTK.out _)) | (go_at_call 64; (with_reducible show Calls _ 64 #[.agg #[.int .i64 whoI, _, _, _, _, _, _]] _ _); exact gw_of (HTI.out _)) | rfl))
              refine wpQuiet_nil ?_
              rintro _ ⟨x, rfl⟩
              go_wp2_with fail
              exact ⟨⟨k + 1, by omega, rfl, rfl, by simp, below_on HB.out x.bel, HY2.out⟩, by simp [RowKit.intOf]; omega⟩
            | true =>
              cases qq with
              | false =>
                have HY2 := hide (HNX.out (fun a => by have := HTE.out.2 a.2.2; cases this))
                go_upto_region 7 with fail
                refine wp_region_gw (by kernel_rfl) (by kernel_rfl) ?_
                repeat (go_big_quiet_step (first | (go_at_call 64; (with_reducible show Calls _ 64 #[.agg #[.int .i64 whoK, _, _, _, _, _, _]] _ _); exact gw_of (HTK.out _)) | (go_at_call 64; (with_reducible show Calls _ 64 #[.agg #[.int .i64 whoI, _, _, _, _, _, _]] _ _); exact gw_of (HTI.out _)) | rfl))
                refine wpQuiet_nil ?_
                rintro _ ⟨x, rfl⟩
                go_wp2_with fail
                exact ⟨⟨k + 1, by omega, rfl, rfl, by simp, below_on HB.out x.bel, HY2.out⟩, by simp [RowKit.intOf]; omega⟩
              | true =>
                have HY2 := hide (HYE.out rfl rfl (HTE.out.1 rfl))
                go_upto_region 7 with fail
                refine wp_region_gw (by kernel_rfl) (by kernel_rfl) ?_
                repeat (go_big_quiet_step (first | (go_at_call 64; (with_reducible show Calls _ 64 #[.agg #[.int .i64 whoK, _, _, _, _, _, _]] _ _); exact gw_of (HTK.out _)) | (go_at_call 64; (with_reducible show Calls _ 64 #[.agg #[.int .i64 whoI, _, _, _, _, _, _]] _ _); exact gw_of (HTI.out _)) | rfl))
                refine wpQuiet_nil ?_
                rintro _ ⟨x, rfl⟩
                go_wp2_with fail
                go_ret2
                exact TwP2.yes (below_on HB.out x.bel) rfl (by omega) HY2.out
        · obtain rfl : i = k := by omega
          go_wp2_with fail
          exact ⟨⟨i + 1, by omega, rfl, rfl, by simp, HB.out, fun b hb a ha => by
            by_cases e : b = i
            · subst e; exact HNK.out a ha
            · exact HNO.out b (by omega) a ha⟩, by simp [RowKit.intOf]; omega⟩
    · obtain rfl : n = i := by omega
      have HNOT : Hid (¬ TwiD l) := fun ⟨a, b, h1, h2, h3, h4, h5⟩ => HNO.out b (by rw [HN.out]; exact h2) a h1 ⟨h3, h4, h5⟩
      go_wp2_with fail
      go_ret2
      exact TwP2.no HB.out rfl HNOT.out
/-- It was put in in time. -/
def Fr1 (l : List Sp) (a i : Nat) : Prop := putD (spAt l i) = true ∧ tkS (spAt l i) = tkS (spAt l a) ∧ (spAt l i).beg < (spAt l a).en
set_option maxRecDepth 100000 in
set_option maxHeartbeats 4000000 in
theorem fresh_any (v : Value) (l : List Sp) (w : World) (h : RAt Sp.arr 7 w v l) (hl : l.length ≤ 1759218604440) : Calls Try.prog 38 #[v] w (NoP (FreD l) w) := by
  obtain ⟨ao, cap, rfl, hcap, h63⟩ := h.shape
  have H := hide h
  obtain ⟨n, hn⟩ : ∃ n, n = l.length := ⟨_, rfl⟩
  have HN := hide hn
  rw [← hn] at hcap H hl ⊢
  clear h hn
  go_enter Try.func38, Try.ntmps38
  go_wp2_with fail
  go_loopw [2, 3] (fun va t wr => ∃ i : Nat, i ≤ n ∧ va = .int .i64 0 ∧ t = .int .i64 (i : Int) ∧ Below w.heap.size w wr ∧ ∀ a, a < i → tkn (spAt l a) = true → ∃ q, q < l.length ∧ Fr1 l a q) (fun _ t _ => n - (RowKit.intOf t).toNat)
  case atStart => exact ⟨0, Nat.zero_le _, rfl, rfl, Below.refl _ _, fun b hb => by omega⟩
  case round =>
    obtain ⟨i, hin, rfl, rfl, hb, hno⟩ := hrel
    have HB := hide hb; have HNO := hide hno
    clear hb hno
    by_cases hlt : i < n
    · have hli : (i : Int) < (n : Int) := by omega
      obtain ⟨gs, os, rfl, hgs, I0, I1, I2, I3, I4, I5, I6⟩ := sp_cells (H.out.below HB.out) i (by rw [← HN.out]; exact hlt)
      have HTI := hide (fun W => taken_any (spAt l i) W)
      have HNX : Hid ((tkn (spAt l i) = true → ∃ q, q < l.length ∧ Fr1 l i q) → ∀ a, a < i + 1 → tkn (spAt l a) = true → ∃ q, q < l.length ∧ Fr1 l a q) := fun q j hj => by
        by_cases e : j = i
        · rw [e]; exact q
        · exact HNO.out j (by omega)
      have HYE : Hid (tkn (spAt l i) = true → (¬ ∃ q, q < l.length ∧ Fr1 l i q) → FreD l) := fun a b => ⟨i, by rw [← HN.out]; exact hlt, a, fun q h1 h2 h3 h4 => b ⟨q, h1, h2, h3, h4⟩⟩
      have HFR : Hid (∀ q, Fr1 l i q ↔ putD (spAt l q) = true ∧ tkS (spAt l q) = tkS (spAt l i) ∧ (spAt l q).beg < (spAt l i).en) := fun _ => Iff.rfl
      have HTE := hide (fun q => tks_eq (spAt l q) (spAt l i))
      have HIC := hide (fun W (hb : Below wr.heap.size wr W) => sp_cells ((H.out.below HB.out).below hb) i (by rw [← HN.out]; exact hlt))
      generalize tkn (spAt l i) = tb at HTI HNX HYE
      generalize spAt l i = si at I0 I1 I2 I3 I4 I5 I6 HTI HFR HTE HIC
      obtain ⟨whoI, insI, keyI, loadI, begI, enI, kindI⟩ := si
      unfold Sp.arr at HTI
      simp only at I0 I1 I2 I3 I4 I5 I6 HTI HTE HFR HIC
      cases tb with
      | false =>
        have HY2 := hide (HNX.out (fun a => by simp at a))
        go_wp2_with fail
        refine (HTI.out _).mono ?_
        rintro e w5 ⟨rfl, hb5⟩
        have HB5 := hide (below_on HB.out hb5)
        clear hb5
        go_wp2_with fail
        exact ⟨⟨i + 1, by omega, rfl, by simp, HB5.out, HY2.out⟩, by simp [RowKit.intOf]; omega⟩
      | true =>
        go_wp2_with fail
        refine (HTI.out _).mono ?_
        rintro e w5 ⟨rfl, hb5⟩
        have HB5 := hide hb5
        have HW := hide (H.out.below HB.out)
        have HBO := hide HB.out
        clear hb5 I0 I1 I2 I3 I4 I5 I6 HTI
        go_wp2_with fail
        go_loopw [4, 5] (fun vf t wq => ∃ k : Nat, k ≤ n ∧ t = .int .i64 (k : Int) ∧ Below wr.heap.size wr wq ∧ ∃ b : Bool, vf = .bool b ∧ (b = true ↔ ∃ q, q < k ∧ Fr1 l i q)) (fun _ t _ => n - (RowKit.intOf t).toNat)
        case atStart => exact ⟨0, Nat.zero_le _, rfl, HB5.out, false, rfl, fun e => (by cases e), fun ⟨q, hq, _⟩ => by omega⟩
        case round =>
          clear HB

          obtain ⟨k, hkn, rfl, hbq, b, rfl, hbi⟩ := hrel
          have HBQ := hide hbq
          have HBI := hide hbi
          clear hbq hbi
          by_cases hk : k < n
          · have hki : (k : Int) < (n : Int) := by omega
            obtain ⟨gs, os, e0, hgs, K0, K1, K2, K3, K4, K5, K6⟩ := sp_cells (HW.out.below HBQ.out) k (by rw [← HN.out]; exact hk)
            simp only [Option.some.injEq, Addr.mk.injEq, and_true] at e0
            obtain ⟨rfl, rfl⟩ := e0
            obtain ⟨gq, oq, e, hgq, I0, I1, I2, I3, I4, I5, I6⟩ := HIC.out _ HBQ.out
            simp only [Option.some.injEq, Addr.mk.injEq, and_true] at e
            obtain ⟨rfl, rfl⟩ := e
            have HPK := hide (fun W => put_any (spAt l k) W)
            have HTK := hide (HTE.out k)
            have HFK := hide (HFR.out k)
            have HST : Hid (∀ c : Bool, (c = true ↔ Fr1 l i k) → ((b || c) = true ↔ ∃ q, q < k + 1 ∧ Fr1 l i q)) := fun c hc => by
              rw [Bool.or_eq_true, HBI.out, hc]
              constructor
              · rintro (⟨q, h1, h2⟩ | h)
                · exact ⟨q, by omega, h2⟩
                · exact ⟨k, by omega, h⟩
              · rintro ⟨q, h1, h2⟩
                by_cases e : q = k
                · subst e; exact .inr h2
                · exact .inl ⟨q, by omega, h2⟩
            generalize spAt l k = sk at K0 K1 K2 K3 K4 K5 K6 HPK HTK HFK
            generalize putD sk = pk at HPK HFK
            obtain ⟨whoK, insK, keyK, loadK, begK, enK, kindK⟩ := sk
            unfold Sp.arr at HPK
            simp only at K0 K1 K2 K3 K4 K5 K6 I0 I1 I2 I3 I4 I5 I6 HPK HTK HFK
            have K0' : ∀ x : GW wr, x.world.cell? ⟨gs, os + k * 7, none⟩ = some (.int .i64 whoK) := fun x => (below_cell x.bel hgs).trans K0
            have K1' : ∀ x : GW wr, x.world.cell? ⟨gs, os + k * 7 + 1, none⟩ = some (.bool insK) := fun x => (below_cell x.bel hgs).trans K1
            have K2' : ∀ x : GW wr, x.world.cell? ⟨gs, os + k * 7 + 2, none⟩ = some (.int .u64 keyK) := fun x => (below_cell x.bel hgs).trans K2
            have K3' : ∀ x : GW wr, x.world.cell? ⟨gs, os + k * 7 + 3, none⟩ = some (.int .u64 loadK) := fun x => (below_cell x.bel hgs).trans K3
            have K4' : ∀ x : GW wr, x.world.cell? ⟨gs, os + k * 7 + 4, none⟩ = some (.int .i64 begK) := fun x => (below_cell x.bel hgs).trans K4
            have K5' : ∀ x : GW wr, x.world.cell? ⟨gs, os + k * 7 + 5, none⟩ = some (.int .i64 enK) := fun x => (below_cell x.bel hgs).trans K5
            have K6' : ∀ x : GW wr, x.world.cell? ⟨gs, os + k * 7 + 6, none⟩ = some (.int .i64 kindK) := fun x => (below_cell x.bel hgs).trans K6
            have I0' : ∀ x : GW wr, x.world.cell? ⟨gs, os + i * 7, none⟩ = some (.int .i64 whoI) := fun x => (below_cell x.bel hgs).trans I0
            have I1' : ∀ x : GW wr, x.world.cell? ⟨gs, os + i * 7 + 1, none⟩ = some (.bool insI) := fun x => (below_cell x.bel hgs).trans I1
            have I2' : ∀ x : GW wr, x.world.cell? ⟨gs, os + i * 7 + 2, none⟩ = some (.int .u64 keyI) := fun x => (below_cell x.bel hgs).trans I2
            have I3' : ∀ x : GW wr, x.world.cell? ⟨gs, os + i * 7 + 3, none⟩ = some (.int .u64 loadI) := fun x => (below_cell x.bel hgs).trans I3
            have I4' : ∀ x : GW wr, x.world.cell? ⟨gs, os + i * 7 + 4, none⟩ = some (.int .i64 begI) := fun x => (below_cell x.bel hgs).trans I4
            have I5' : ∀ x : GW wr, x.world.cell? ⟨gs, os + i * 7 + 5, none⟩ = some (.int .i64 enI) := fun x => (below_cell x.bel hgs).trans I5
            have I6' : ∀ x : GW wr, x.world.cell? ⟨gs, os + i * 7 + 6, none⟩ = some (.int .i64 kindI) := fun x => (below_cell x.bel hgs).trans I6
            have heq := fun W => eql_task keyK loadK keyI loadI W
            generalize (keyK == keyI && (loadK == loadI && true)) = qq at HTK heq
            clear K0 K1 K2 K3 K4 K5 K6 I0 I1 I2 I3 I4 I5 I6 HTE HFR
            cases pk with
            | false =>
              have HY2 := hide (HST.out false ⟨fun e => (by cases e), fun e => (by have := (HFK.out.1 e).1; cases this)⟩)
              rw [Bool.or_false] at HY2
              go_upto_region 9 with fail
              refine wp_region_gw (by kernel_rfl) (by kernel_rfl) ?_
              repeat (go_big_quiet_step (first | (go_at_call 41; exact gw_of (HPK.out _)) | rfl))
              refine wpQuiet_nil ?_
              rintro _ ⟨x, rfl⟩
              go_wp2_with fail
              exact ⟨⟨k + 1, by omega, by simp, below_on HBQ.out x.bel, b, rfl, HY2.out⟩, by simp [RowKit.intOf]; omega⟩
            | true =>
              cases qq with
              | false =>
                have HY2 := hide (HST.out false ⟨fun e => (by cases e), fun e => (by have := HTK.out.2 (HFK.out.1 e).2.1; cases this)⟩)
                rw [Bool.or_false] at HY2
                go_upto_region 9 with fail
                refine wp_region_gw (by kernel_rfl) (by kernel_rfl) ?_
                repeat (go_big_quiet_step (first | (go_at_call 41; exact gw_of (HPK.out _)) | rfl))
                refine wpQuiet_nil ?_
                rintro _ ⟨x, rfl⟩
                go_wp2_with fail
                exact ⟨⟨k + 1, by omega, by simp, below_on HBQ.out x.bel, b, rfl, HY2.out⟩, by simp [RowKit.intOf]; omega⟩
              | true =>
                by_cases hbe : begK < enI
                · have HY2 := hide (HST.out true ⟨fun _ => HFK.out.2 ⟨rfl, HTK.out.1 rfl, hbe⟩, fun _ => rfl⟩)
                  rw [Bool.or_true] at HY2
                  have hbd : decide (begK < enI) = true := by simp [hbe]
                  go_upto_region 9 with fail
                  refine wp_region_gw (by kernel_rfl) (by kernel_rfl) ?_
                  repeat (go_big_quiet_step (first | (go_at_call 41; exact gw_of (HPK.out _)) | rfl))
                  refine wpQuiet_nil ?_
                  rintro _ ⟨x, rfl⟩
                  go_wp2_with fail
                  exact ⟨⟨k + 1, by omega, by simp, below_on HBQ.out x.bel, true, rfl, HY2.out⟩, by simp [RowKit.intOf]; omega⟩
                · have HY2 := hide (HST.out false ⟨fun e => (by cases e), fun e => (hbe (HFK.out.1 e).2.2).elim⟩)
                  rw [Bool.or_false] at HY2
                  have hbd : decide (begK < enI) = false := by simp; omega
                  go_upto_region 9 with fail
                  refine wp_region_gw (by kernel_rfl) (by kernel_rfl) ?_
                  repeat (go_big_quiet_step (first | (go_at_call 41; exact gw_of (HPK.out _)) | rfl))
                  refine wpQuiet_nil ?_
                  rintro _ ⟨x, rfl⟩
                  go_wp2_with fail
                  exact ⟨⟨k + 1, by omega, by simp, below_on HBQ.out x.bel, b, rfl, HY2.out⟩, by simp [RowKit.intOf]; omega⟩
          · obtain rfl : n = k := by omega
            cases b with
            | false =>
              have HY2 := hide (HYE.out (by simp) (fun ⟨q, h1, h2⟩ => by have := HBI.out.2 ⟨q, by rw [HN.out]; exact h1, h2⟩; cases this))
              go_wp2_with fail
              go_ret
              exact NoP.yes (below_on HBO.out HBQ.out) rfl (by omega) HY2.out
            | true =>
              have HY2 := hide (HNX.out (fun _ => by obtain ⟨q, h1, h2⟩ := HBI.out.1 rfl; exact ⟨q, by rw [← HN.out]; exact h1, h2⟩))
              go_wp2_with fail
              exact ⟨⟨i + 1, by omega, rfl, by simp, below_on HBO.out HBQ.out, HY2.out⟩, by simp [RowKit.intOf]; omega⟩
    · obtain rfl : n = i := by omega
      have HNOT : Hid (¬ FreD l) := fun ⟨a, h1, h2, h3⟩ => by
        obtain ⟨q, g1, g2, g3, g4⟩ := HNO.out a (by rw [HN.out]; exact h1) h2
        exact h3 q g1 g2 g3 g4
      go_wp2_with fail
      go_ret
      exact NoP.no HB.out rfl HNOT.out
end Go.Proofs.Ytfoeljcgbfpknaa
