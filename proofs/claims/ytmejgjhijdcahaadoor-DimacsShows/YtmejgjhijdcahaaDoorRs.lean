/- The reference's ShowSs. -/
import Derived.Test.YtmejgjhijdcahaaDoorKd
namespace Go.Proofs.YtmejgjhijdcahaaDoor
open Go.Shelf Go.RowKit Go.Sort Go.Lib
set_option linter.unusedVariables false
set_option linter.unusedSimpArgs false
theorem ct_len (n : Nat) (h : n < 9223372036854775808) : (ct (n : Int)).length ≤ 20 := by
  unfold ct; rw [Int.toNat_natCast]; exact dec_len (by omega)
theorem vx_len (n : Nat) (h : n < 9223372036854775808) : (vx (n : Int)).length ≤ 20 := by
  unfold vx; rw [show ((n : Int) + 1).toNat = n + 1 by omega]; exact dec_len (by omega)
theorem tx_len2 {α : Type} (d0 : α) (it : Nat → α → List UInt8) {l : List α} {m : Nat} : ∀ n, (∀ i, i < n → (it i (aAt d0 l i)).length ≤ m) → (tx d0 it l n).length ≤ n * m
  | 0, _ => by simp [tx]
  | n + 1, h => by
    have h1 := tx_len2 d0 it n (fun i hi => h i (by omega))
    have h2 := h n (by omega)
    rw [tx, List.length_append, Nat.succ_mul]; omega
theorem ss_len {l : List Int} {k : Nat} (h : okN 0 vdI l k) : (tx 0 itI l k).length ≤ k * 40 := by
  refine tx_len2 0 itI k fun i hi => ?_
  have hv := h i hi
  unfold vdI at hv
  split at hv
  · rename_i hr
    obtain ⟨m, hm⟩ : ∃ m : Nat, aAt 0 l i = (m : Int) := ⟨(aAt 0 l i).toNat, by omega⟩
    have := vx_len m (by omega)
    rw [hm]; unfold itI lineW; simp; omega
  · cases hv
set_option maxHeartbeats 2000000 in
set_option maxRecDepth 100000 in
theorem refSs_big (v : Value) (l : List Int) (w : World) (h : RAt iArr 1 w v l) (hb : 4194304 < l.length) : Calls Tryd.prog 10 #[v] w fun e w' => e = .returned (.tuple #[.string ⟨#[]⟩, .int .i64 22]) ∧ w' = w := by
  obtain ⟨ao, cap, rfl, hc1, hc2⟩ := h.shape
  clear h hc1 hc2
  obtain ⟨n, hn⟩ : ∃ n, n = l.length := ⟨_, rfl⟩
  rw [← hn] at hb ⊢
  have hbi : (4194304 : Int) < (n : Int) := by omega
  clear hb hn
  go_enter Tryd.func10, Tryd.ntmps10
  go_wp2
  go_ret2
  exact ⟨rfl, rfl⟩
set_option maxHeartbeats 2000000 in
set_option maxRecDepth 100000 in
theorem refSs_any (v : Value) (l : List Int) (w : World) (h : RAt iArr 1 w v l) (hb : l.length ≤ 4194304) : Calls Tryd.prog 10 #[v] w fun e w' => e = .returned (.tuple #[.string (gS 0 itI vdI (lineW pSs [ct (l.length : Int)]) l), .int .i64 (gE 0 vdI l)]) ∧ w' = w := by
  obtain ⟨ao, cap, rfl, hc1, hc2⟩ := h.shape
  have HA := hide (fun i hi => h.at i hi)
  clear h
  obtain ⟨n, hn⟩ : ∃ n, n = l.length := ⟨_, rfl⟩
  have HN := hide hn
  rw [← hn] at hb hc1 ⊢
  have hbi : ¬ (4194304 : Int) < (n : Int) := by omega
  have hcl := ct_len n (by omega)
  obtain ⟨C1, a1, e1⟩ := add_let (A := ⟨#[112, 32, 97, 117, 120, 32, 115, 112, 32, 115, 115, 32]⟩) (pSs ++ [32]) (ct (n : Int)) rfl rfl (by simp [pSs]; omega)
  obtain ⟨C2, a2, e2⟩ := add_let (B := ⟨#[10]⟩) (pSs ++ [32] ++ ct (n : Int)) [10] e1 rfl (by simp [pSs]; omega)
  have HH : Hid (C2 = bs (lineW pSs [ct (n : Int)])) := by rw [e2]; unfold lineW; simp [hide]
  have HB := hide hb; have HC := hide hc2; have HC1 := hide hc1
  have HNu := hide (number_any n (by omega) w)
  clear hn hb hc1 hc2 hcl e1 e2
  go_enter Tryd.func10, Tryd.ntmps10
  go_wp2_with (first
    | (go_at_call 24; refine HNu.out.mono ?_; rintro e w' ⟨rfl, hww⟩; have hww2 := hww.symm; subst hww2; clear hww)
    | fail)
  go_loopw [4, 5] (fun s t wr => ∃ k : Nat, k ≤ n ∧ t = .int .i64 k ∧ s = .string (bs (lineW pSs [ct (n : Int)] ++ tx 0 itI l k)) ∧ okN 0 vdI l k ∧ wr = w) (fun _ t _ => n - (RowKit.intOf t).toNat)
  case atStart => exact ⟨0, by omega, rfl, by rw [HH.out]; simp [tx], fun i hi => by omega, rfl⟩
  case round =>
    obtain ⟨k, hk, rfl, rfl, hok, rfl⟩ := hrel
    have HO := hide hok
    clear hok a1 a2 HH
    by_cases hlt : k < n
    · obtain ⟨g, o, rfl, hg, hcell⟩ := HA.out k (by have := HN.out; omega)
      have hx : wr.cell? ⟨g, o + k, none⟩ = some (.int .i64 (aAt 0 l k)) := by
        have := hcell 0 (.int .i64 (l[k]'(by have := HN.out; omega))) rfl
        simp only [Nat.mul_one, Nat.add_zero] at this
        rw [this]
        simp [aAt, List.getElem?_eq_getElem (show k < l.length by have := HN.out; omega)]
      have hkm : (k : Int) + 1 ≤ 9223372036854775807 := by have := HB.out; omega
      have hkc : (k : Int) < cap := by have := HC1.out; omega
      clear hcell
      by_cases hv : 0 ≤ aAt 0 l k ∧ aAt 0 l k < 1048576
      · obtain ⟨m, hm⟩ : ∃ m : Nat, aAt 0 l k = (m : Int) := ⟨(aAt 0 l k).toNat, by omega⟩
        have hm2 : m < 1048576 := by omega
        have hvd : vdI (aAt 0 l k) = 0 := by unfold vdI; rw [if_pos hv]
        have hit : itI k (aAt 0 l k) = [115, 32] ++ vx (m : Int) ++ [10] := by rw [hm]; unfold itI lineW; simp
        have hR := refVertex_any (m : Int) wr
        rw [show decide (0 ≤ (m : Int) ∧ (m : Int) < 1048576) = true by simp; omega] at hR
        rw [hm] at hx
        have HR := hide hR
        have HU := hide (up_any m (by omega) wr)
        have hlen : (lineW pSs [ct (n : Int)] ++ tx 0 itI l k).length ≤ 1000000000 := by
          have h1 := ss_len HO.out; have h2 := ct_len n (by have := HB.out; omega); have := HB.out
          rw [List.length_append]; unfold lineW; simp [pSs]; omega
        have hvl := vx_len m (by omega)
        obtain ⟨S1, a1, e1⟩ := add_let (A := bs (lineW pSs [ct (n : Int)] ++ tx 0 itI l k)) (B := ⟨#[115, 32]⟩) (lineW pSs [ct (n : Int)] ++ tx 0 itI l k) [115, 32] rfl rfl (by simp only [List.length_cons, List.length_nil]; omega)
        obtain ⟨S2, a2, e2⟩ := add_let (B := bs (vx (m : Int))) (lineW pSs [ct (n : Int)] ++ tx 0 itI l k ++ [115, 32]) (vx (m : Int)) e1 rfl (by rw [List.length_append]; simp only [List.length_cons, List.length_nil]; omega)
        obtain ⟨S3, a3, e3⟩ := add_let (B := ⟨#[10]⟩) (lineW pSs [ct (n : Int)] ++ tx 0 itI l k ++ [115, 32] ++ vx (m : Int)) [10] e2 rfl (by rw [List.length_append, List.length_append]; simp only [List.length_cons, List.length_nil]; omega)
        have HS3 : Hid (S3 = bs (lineW pSs [ct (n : Int)] ++ tx 0 itI l (k + 1))) := by
          rw [e3, tx, hit]
          refine hide ?_
          simp only [List.append_assoc]
        have HVD := hide hvd
        clear hm hm2 hvd hit hR hlen hvl e1 e2 e3 hv
        generalize bs (lineW pSs [ct (n : Int)] ++ tx 0 itI l k) = S0 at a1 ⊢
        go_wp2_with fail
        refine HR.out.mono ?_
        rintro e w2 ⟨rfl, hww⟩; have hww2 := hww.symm; subst hww2; clear hww
        go_wp2_with fail
        refine HU.out.mono ?_
        rintro e w2 ⟨rfl, hww⟩; have hww2 := hww.symm; subst hww2; clear hww
        go_wp2_with fail
        go_roundw
        case rel => exact ⟨k + 1, by omega, by go_num, by rw [HS3.out], okN_next 0 vdI HO.out HVD.out, trivial⟩
        case measure => simp [RowKit.intOf]; omega
      · have hvd : vdI (aAt 0 l k) = 30 := by unfold vdI; rw [if_neg hv]
        have hb := g_bad 0 itI vdI (hd := lineW pSs [ct (n : Int)]) (show k < l.length by have := HN.out; omega) (by rw [hvd]; decide) HO.out
        rw [hvd] at hb
        have hR := refVertex_any (aAt 0 l k) wr
        rw [show decide (0 ≤ aAt 0 l k ∧ aAt 0 l k < 1048576) = false by simp only [decide_eq_false_iff_not]; exact hv] at hR
        have HR := hide hR; have HBd := hide hb
        clear hv hvd hb hR
        generalize bs (lineW pSs [ct (n : Int)] ++ tx 0 itI l k) = S0
        generalize aAt 0 l k = xv at hx HR
        go_wp2_with fail
        refine HR.out.mono ?_
        rintro e w2 ⟨rfl, hww⟩; have hww2 := hww.symm; subst hww2; clear hww
        go_wp2_with fail
        go_ret2
        rw [HBd.out.1, HBd.out.2]
        exact ⟨rfl, rfl⟩
    · have hkn : k = n := by omega
      subst hkn
      have hb := g_good 0 itI vdI (hd := lineW pSs [ct (k : Int)]) (l := l) (by have := HN.out; rw [← this]; exact HO.out)
      rw [← HN.out] at hb
      have HBd := hide hb
      clear hb
      go_wp2_with fail
      go_ret2
      rw [HBd.out.1, HBd.out.2]
      exact ⟨rfl, rfl⟩
end Go.Proofs.YtmejgjhijdcahaaDoor
