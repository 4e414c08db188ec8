/- The document's taken, remover, twice, fresh, moment. -/
import Derived.Test.YtfoeljcgbfpknaaBp
import Derived.Deep.Cut
import Derived.Deep.CutRange
namespace Go.Proofs.Ytfoeljcgbfpknaa
open Go.RowKit Go.Lib
set_option linter.unusedVariables false
set_option linter.unusedSimpArgs false
set_option maxRecDepth 100000 in
set_option maxHeartbeats 2000000 in
theorem taken_any (s : Sp) (w : World) : Calls Try.prog 64 #[.agg s.arr] w fun x w' => x = .returned (.bool (tkn s)) ∧ Below w.heap.size w w' := by
  have HC := hide (fun W => counts_any s W)
  obtain ⟨who, ins, key, load, beg, en, kind⟩ := s
  have HA : Hid (Below w.heap.size w (w.alloc (.cells #[.int .i64 who, .bool ins, .int .u64 key, .int .u64 load, .int .i64 beg, .int .i64 en, .int .i64 kind] 69))) := below_alloc (Below.refl _ _) _
  unfold Sp.arr at HC ⊢
  unfold cntD at HC
  unfold tkn
  simp only at HC ⊢
  cases ins with
  | true =>
    go_enter Try.func64, Try.ntmps64
    go_wp2_with fail
    go_ret
    exact ⟨rfl, HA.out⟩
  | false =>
    simp only [Bool.false_eq_true, if_false] at HC
    generalize (kind == 4) = cb at HC ⊢
    go_enter Try.func64, Try.ntmps64
    go_wp2_with fail
    refine (HC.out _).mono ?_
    rintro e w5 ⟨rfl, hb⟩
    have HP := hide (below_on HA.out hb)
    clear hb
    go_wp2_with fail
    go_ret
    exact ⟨rfl, HP.out⟩
set_option maxRecDepth 100000 in
set_option maxHeartbeats 2000000 in
theorem moment_any (s : Sp) (w : World) : Calls Try.prog 43 #[.agg s.arr] w fun x w' => x = .returned (.int .i64 (momB s)) ∧ Below w.heap.size w w' := by
  obtain ⟨who, ins, key, load, beg, en, kind⟩ := s
  have HA : Hid (Below w.heap.size w (w.alloc (.cells #[.int .i64 who, .bool ins, .int .u64 key, .int .u64 load, .int .i64 beg, .int .i64 en, .int .i64 kind] 69))) := below_alloc (Below.refl _ _) _
  unfold Sp.arr momB
  simp only
  cases ins with
  | true =>
    go_enter Try.func43, Try.ntmps43
    go_wp2_with fail
    go_ret
    exact ⟨rfl, HA.out⟩
  | false =>
    go_enter Try.func43, Try.ntmps43
    go_wp2_with fail
    go_ret
    exact ⟨rfl, HA.out⟩
/-- A number that is not below 0 just if something is so. -/
def NoP (p : Prop) (w : World) (x : Ending) (w' : World) : Prop := Below w.heap.size w w' ∧ ∃ r : Int, x = .returned (.int .i64 r) ∧ (0 ≤ r ↔ p)
theorem NoP.yes {p : Prop} {w w' : World} {x : Ending} {r : Int} (hb : Below w.heap.size w w') (hx : x = .returned (.int .i64 r)) (hr : 0 ≤ r) (h : p) : NoP p w x w' := ⟨hb, r, hx, fun _ => h, fun _ => hr⟩
theorem NoP.no {p : Prop} {w w' : World} {x : Ending} (hb : Below w.heap.size w w') (hx : x = .returned (.int .i64 (-1))) (h : ¬ p) : NoP p w x w' := ⟨hb, -1, hx, fun e => by omega, fun e => (h e).elim⟩
theorem tks_eq (a b : Sp) : (a.key == b.key && (a.load == b.load && true)) = true ↔ tkS a = tkS b := by unfold tkS; simp
set_option maxRecDepth 100000 in
set_option maxHeartbeats 4000000 in
theorem remover_any (v : Value) (l : List Sp) (i : Nat) (w : World) (h : RAt Sp.arr 7 w v l) (hi : i < l.length) (hl : l.length ≤ 1759218604440) : Calls Try.prog 42 #[v, .int .i64 (i : Int)] w (NoP (Tkn l i) w) := by
  obtain ⟨ao, cap, rfl, hcap, h63⟩ := h.shape
  have H := hide h
  obtain ⟨n, hn⟩ : ∃ n, n = l.length := ⟨_, rfl⟩
  have HN := hide hn
  rw [← hn] at hcap H hl hi ⊢
  have hii : (i : Int) < (n : Int) := by omega
  clear h hn
  go_enter Try.func42, Try.ntmps42
  go_wp2_with fail
  go_loopw [4, 5] (fun va t wr => ∃ k : Nat, k ≤ n ∧ va = .int .i64 0 ∧ t = .int .i64 (k : Int) ∧ Below w.heap.size w wr ∧ ∀ j, j < k → ¬ (tkn (spAt l j) = true ∧ tkS (spAt l j) = tkS (spAt l i))) (fun _ t _ => n - (RowKit.intOf t).toNat)
  case atStart => exact ⟨0, Nat.zero_le _, rfl, rfl, Below.refl _ _, fun j hj => by omega⟩
  case round =>
    obtain ⟨k, hkn, rfl, rfl, hb, hno⟩ := hrel
    have HB := hide hb; have HNO := hide hno
    clear hb hno
    by_cases hlt : k < n
    · have hli : (k : Int) < (n : Int) := by omega
      obtain ⟨gs, os, rfl, hgs, K0, K1, K2, K3, K4, K5, K6⟩ := sp_cells (H.out.below HB.out) k (by rw [← HN.out]; exact hlt)
      obtain ⟨gq, oq, e, hgq, I0, I1, I2, I3, I4, I5, I6⟩ := sp_cells (H.out.below HB.out) i (by rw [← HN.out]; exact hi)
      simp only [Option.some.injEq, Addr.mk.injEq, and_true] at e
      obtain ⟨rfl, rfl⟩ := e
      have HTK := hide (fun W => taken_any (spAt l k) W)
      have HTE := hide (tks_eq (spAt l k) (spAt l i))
      have HYE : Hid (tkn (spAt l k) = true → tkS (spAt l k) = tkS (spAt l i) → Tkn l i) := fun a b => ⟨k, by rw [← HN.out]; exact hlt, a, b⟩
      have HNX : Hid (¬ (tkn (spAt l k) = true ∧ tkS (spAt l k) = tkS (spAt l i)) → ∀ j, j < k + 1 → ¬ (tkn (spAt l j) = true ∧ tkS (spAt l j) = tkS (spAt l i))) := fun a j hj => by
        by_cases e : j = k
        · rw [e]; exact a
        · exact HNO.out j (by omega)
      generalize spAt l k = sk at K0 K1 K2 K3 K4 K5 K6 HTK HTE HYE HNX
      generalize spAt l i = si at I0 I1 I2 I3 I4 I5 I6 HTE HYE HNX
      generalize tkn sk = tb at HTK HYE HNX
      obtain ⟨whoK, insK, keyK, loadK, begK, enK, kindK⟩ := sk
      obtain ⟨whoI, insI, keyI, loadI, begI, enI, kindI⟩ := si
      unfold Sp.arr at HTK
      simp only at K0 K1 K2 K3 K4 K5 K6 I0 I1 I2 I3 I4 I5 I6 HTK HTE
      have K0' : ∀ x : GW wr, x.world.cell? ⟨gs, os + k * 7, none⟩ = some (.int .i64 whoK) := fun x => (below_cell x.bel hgs).trans K0
      have K1' : ∀ x : GW wr, x.world.cell? ⟨gs, os + k * 7 + 1, none⟩ = some (.bool insK) := fun x => (below_cell x.bel hgs).trans K1
      have K2' : ∀ x : GW wr, x.world.cell? ⟨gs, os + k * 7 + 2, none⟩ = some (.int .u64 keyK) := fun x => (below_cell x.bel hgs).trans K2
      have K3' : ∀ x : GW wr, x.world.cell? ⟨gs, os + k * 7 + 3, none⟩ = some (.int .u64 loadK) := fun x => (below_cell x.bel hgs).trans K3
      have K4' : ∀ x : GW wr, x.world.cell? ⟨gs, os + k * 7 + 4, none⟩ = some (.int .i64 begK) := fun x => (below_cell x.bel hgs).trans K4
      have K5' : ∀ x : GW wr, x.world.cell? ⟨gs, os + k * 7 + 5, none⟩ = some (.int .i64 enK) := fun x => (below_cell x.bel hgs).trans K5
      have K6' : ∀ x : GW wr, x.world.cell? ⟨gs, os + k * 7 + 6, none⟩ = some (.int .i64 kindK) := fun x => (below_cell x.bel hgs).trans K6
      have I0' : ∀ x : GW wr, x.world.cell? ⟨gs, os + i * 7, none⟩ = some (.int .i64 whoI) := fun x => (below_cell x.bel hgs).trans I0
      have I1' : ∀ x : GW wr, x.world.cell? ⟨gs, os + i * 7 + 1, none⟩ = some (.bool insI) := fun x => (below_cell x.bel hgs).trans I1
      have I2' : ∀ x : GW wr, x.world.cell? ⟨gs, os + i * 7 + 2, none⟩ = some (.int .u64 keyI) := fun x => (below_cell x.bel hgs).trans I2
      have I3' : ∀ x : GW wr, x.world.cell? ⟨gs, os + i * 7 + 3, none⟩ = some (.int .u64 loadI) := fun x => (below_cell x.bel hgs).trans I3
      have I4' : ∀ x : GW wr, x.world.cell? ⟨gs, os + i * 7 + 4, none⟩ = some (.int .i64 begI) := fun x => (below_cell x.bel hgs).trans I4
      have I5' : ∀ x : GW wr, x.world.cell? ⟨gs, os + i * 7 + 5, none⟩ = some (.int .i64 enI) := fun x => (below_cell x.bel hgs).trans I5
      have I6' : ∀ x : GW wr, x.world.cell? ⟨gs, os + i * 7 + 6, none⟩ = some (.int .i64 kindI) := fun x => (below_cell x.bel hgs).trans I6
      have heq := fun W => eql_task keyK loadK keyI loadI W
      generalize (keyK == keyI && (loadK == loadI && true)) = qq at HTE heq
      clear K0 K1 K2 K3 K4 K5 K6 I0 I1 I2 I3 I4 I5 I6
      cases tb with
      | false =>
        have HY2 := hide (HNX.out (fun a => by simp at a))
        go_upto_region 4 with fail
        refine wp_region_gw (by kernel_rfl) (by kernel_rfl) ?_
        repeat (go_big_quiet_step (first | (go_at_call 64; exact gw_of (HTK.out _)) | rfl))
        refine wpQuiet_nil ?_
        rintro _ ⟨x, rfl⟩
        go_wp2_with fail
        exact ⟨⟨k + 1, by omega, rfl, by simp, below_on HB.out x.bel, HY2.out⟩, by simp [RowKit.intOf]; omega⟩
      | true =>
        cases qq with
        | false =>
          have HY2 := hide (HNX.out (fun a => by have := HTE.out.2 a.2; cases this))
          go_upto_region 4 with fail
          refine wp_region_gw (by kernel_rfl) (by kernel_rfl) ?_
          repeat (go_big_quiet_step (first | (go_at_call 64; exact gw_of (HTK.out _)) | rfl))
          refine wpQuiet_nil ?_
          rintro _ ⟨x, rfl⟩
          go_wp2_with fail
          exact ⟨⟨k + 1, by omega, rfl, by simp, below_on HB.out x.bel, HY2.out⟩, by simp [RowKit.intOf]; omega⟩
        | true =>
          have HY2 := hide (HYE.out rfl (HTE.out.1 rfl))
          go_upto_region 4 with fail
          refine wp_region_gw (by kernel_rfl) (by kernel_rfl) ?_
          repeat (go_big_quiet_step (first | (go_at_call 64; exact gw_of (HTK.out _)) | rfl))
          refine wpQuiet_nil ?_
          rintro _ ⟨x, rfl⟩
          go_wp2_with fail
          go_ret
          exact NoP.yes (below_on HB.out x.bel) rfl (by omega) HY2.out
    · obtain rfl : n = k := by omega
      have HNOT : Hid (¬ Tkn l i) := fun ⟨j, h1, h2, h3⟩ => HNO.out j (by rw [HN.out]; exact h1) ⟨h2, h3⟩
      go_wp2_with fail
      go_ret
      exact NoP.no HB.out rfl HNOT.out
end Go.Proofs.Ytfoeljcgbfpknaa
