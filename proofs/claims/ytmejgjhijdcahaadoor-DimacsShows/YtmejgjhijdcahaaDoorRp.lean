/- The reference's ShowCo. -/
import Derived.Test.YtmejgjhijdcahaaDoorRq
namespace Go.Proofs.YtmejgjhijdcahaaDoor
open Go.Shelf Go.RowKit Go.Sort Go.Lib
set_option linter.unusedVariables false
set_option linter.unusedSimpArgs false
def vdP (e : Pt) : Int := 0
def Ranged (l : List Pt) : Prop := ∀ (i : Nat) (x : Pt), l[i]? = some x → (-9223372036854775808 ≤ x.x ∧ x.x ≤ 9223372036854775807) ∧ (-9223372036854775808 ≤ x.y ∧ x.y ≤ 9223372036854775807)
theorem itoa_len (n : Int) (h0 : -9223372036854775808 ≤ n) (h1 : n ≤ 9223372036854775807) : (Lib.itoa n).length ≤ 21 := by
  unfold Lib.itoa
  split
  · have := dec_len (u := n.natAbs) (by omega); simp; omega
  · have := dec_len (u := n.toNat) (by omega); omega
theorem pp_len {l : List Pt} {k : Nat} (h : Ranged l) (hk : k ≤ l.length) (hl : l.length ≤ 1048576) : (tx pt0 itP l k).length ≤ k * 80 := by
  refine tx_len2 pt0 itP k fun i hi => ?_
  obtain ⟨hx, hy⟩ := h i _ (aAt_get pt0 (show i < l.length by omega))
  have := vx_len i (by omega)
  have := itoa_len _ hx.1 hx.2
  have := itoa_len _ hy.1 hy.2
  unfold itP lineW; simp; omega
theorem okP (l : List Pt) (k : Nat) : okN pt0 vdP l k := fun _ _ => rfl
set_option maxHeartbeats 2000000 in
set_option maxRecDepth 100000 in
theorem refP_big (v : Value) (l : List Pt) (w : World) (h : RAt Pt.arr 2 w v l) (hb : 1048576 < l.length) : Calls Tryd.prog 8 #[v] w fun e w' => e = .returned (.tuple #[.string ⟨#[]⟩, .int .i64 22]) ∧ Below w.heap.size w w' := by
  obtain ⟨ao, cap, rfl, hc1, hc2⟩ := h.shape
  clear h hc1 hc2
  obtain ⟨n, hn⟩ : ∃ n, n = l.length := ⟨_, rfl⟩
  rw [← hn] at hb ⊢
  have hbi : (1048576 : Int) < (n : Int) := by omega
  clear hb hn
  go_enter Tryd.func8, Tryd.ntmps8
  go_wp2
  go_ret2
  exact ⟨rfl, Below.refl _ _⟩
set_option maxHeartbeats 2000000 in
set_option maxRecDepth 100000 in
theorem refP_any (v : Value) (l : List Pt) (w : World) (h : RAt Pt.arr 2 w v l) (hb : l.length ≤ 1048576) (hra : Ranged l) : Calls Tryd.prog 8 #[v] w fun e w' => e = .returned (.tuple #[.string (gS pt0 itP vdP (lineW pCo [ct (l.length : Int)]) l), .int .i64 (gE pt0 vdP l)]) ∧ Below w.heap.size w w' := by
  obtain ⟨ao, cap, rfl, hc1, hc2⟩ := h.shape
  have HA := hide (fun i hi => h.at i hi)
  clear h
  obtain ⟨n, hn⟩ : ∃ n, n = l.length := ⟨_, rfl⟩
  have HN := hide hn
  rw [← hn] at hb hc1 ⊢
  have hbi : ¬ (1048576 : Int) < (n : Int) := by omega
  have hcl := ct_len n (by omega)
  obtain ⟨C1, a1, e1⟩ := add_let (A := ⟨#[112, 32, 97, 117, 120, 32, 115, 112, 32, 99, 111, 32]⟩) (pCo ++ [32]) (ct (n : Int)) rfl rfl (by simp [pCo]; omega)
  obtain ⟨C2, a2, e2⟩ := add_let (B := ⟨#[10]⟩) (pCo ++ [32] ++ ct (n : Int)) [10] e1 rfl (by simp [pCo]; omega)
  have HH : Hid (C2 = bs (lineW pCo [ct (n : Int)])) := by rw [e2]; unfold lineW; simp [hide]
  have HB := hide hb; have HC := hide hc2; have HC1 := hide hc1
  have HRA := hide hra
  clear hra
  have HNu := hide (number_any n (by omega) w)
  clear hn hb hc1 hc2 hcl e1 e2
  go_enter Tryd.func8, Tryd.ntmps8
  go_wp2_with (first
    | (go_at_call 24; refine HNu.out.mono ?_; rintro e w' ⟨rfl, hww⟩; have hww2 := hww.symm; subst hww2; clear hww)
    | fail)
  go_loopw [4, 5] (fun s t wr => ∃ k : Nat, k ≤ n ∧ t = .int .i64 k ∧ s = .string (bs (lineW pCo [ct (n : Int)] ++ tx pt0 itP l k)) ∧ Below w.heap.size w wr) (fun _ t _ => n - (RowKit.intOf t).toNat)
  case atStart => exact ⟨0, by omega, rfl, by rw [HH.out]; simp [tx], Below.refl _ _⟩
  case round =>
    obtain ⟨k, hk, rfl, rfl, hbel⟩ := hrel
    have HBL := hide hbel
    clear a1 a2 HH hbel
    by_cases hlt : k < n
    · obtain ⟨g, o, rfl, hg, hcell⟩ := HA.out k (by have := HN.out; omega)
      obtain ⟨⟨px, py⟩, hp⟩ : ∃ p, p = aAt pt0 l k := ⟨_, rfl⟩
      have hget : l[k]'(by have := HN.out; omega) = ⟨px, py⟩ := by
        rw [hp]; simp [aAt, List.getElem?_eq_getElem (show k < l.length by have := HN.out; omega)]
      rw [hget] at hcell
      have x0 : wr.cell? ⟨g, o + k * 2, none⟩ = some (.int .i64 px) := (below_cell HBL.out hg).trans (hcell 0 _ rfl)
      have x1 : wr.cell? ⟨g, o + k * 2 + 1, none⟩ = some (.int .i64 py) := (below_cell HBL.out hg).trans (hcell 1 _ rfl)
      have hkm : (k : Int) + 1 ≤ 9223372036854775807 := by have := HB.out; omega
      have hkc : (k : Int) < cap := by have := HC1.out; omega
      clear hcell hget
      have hra : (-9223372036854775808 ≤ px ∧ px ≤ 9223372036854775807) ∧ (-9223372036854775808 ≤ py ∧ py ≤ 9223372036854775807) := by
        have := HRA.out k _ (aAt_get pt0 (show k < l.length by have := HN.out; omega))
        rw [← hp] at this
        exact this
      have hkb : k < 1048576 := by have := HB.out; omega
      have hit : itP k (aAt pt0 l k) = [118, 32] ++ vx (k : Int) ++ [32] ++ Lib.itoa px ++ [32] ++ Lib.itoa py ++ [10] := by rw [← hp]; unfold itP lineW; simp
      have HU : Hid (∀ x : GW wr, Calls Tryd.prog 25 #[.int .i64 (k : Int)] x.world fun e w'' => e = .returned (.string (bs (vx (k : Int)))) ∧ ∃ y : GW wr, w'' = y.world) := fun x => gw_same (up_any k (by omega) _)
      have HS1 : Hid (∀ x : GW wr, Calls Tryd.prog 29 #[.int .i64 px] x.world fun e w'' => e = .returned (.string (bs (Lib.itoa px))) ∧ ∃ y : GW wr, w'' = y.world) := fun x => gw_same (signed_any px hra.1.1 hra.1.2 _)
      have HS2 : Hid (∀ x : GW wr, Calls Tryd.prog 29 #[.int .i64 py] x.world fun e w'' => e = .returned (.string (bs (Lib.itoa py))) ∧ ∃ y : GW wr, w'' = y.world) := fun x => gw_same (signed_any py hra.2.1 hra.2.2 _)
      have hlen : (lineW pCo [ct (n : Int)] ++ tx pt0 itP l k).length ≤ 1000000000 := by
        have h1 := pp_len HRA.out (show k ≤ l.length by have := HN.out; omega) (by have := HN.out; have := HB.out; omega); have h2 := ct_len n (by have := HB.out; omega); have := HB.out
        rw [List.length_append]; unfold lineW; simp [pCo]; omega
      have hvl := vx_len k (by omega)
      have hi1 := itoa_len px hra.1.1 hra.1.2
      have hi2 := itoa_len py hra.2.1 hra.2.2
      obtain ⟨S0, hS0⟩ : ∃ S0, S0 = lineW pCo [ct (n : Int)] ++ tx pt0 itP l k := ⟨_, rfl⟩
      rw [← hS0] at hlen
      obtain ⟨S1, a1, e1⟩ := add_let (A := bs S0) (B := ⟨#[118, 32]⟩) S0 [118, 32] rfl rfl (by simp only [List.length_cons, List.length_nil]; omega)
      obtain ⟨S2, a2, e2⟩ := add_let (B := bs (vx (k : Int))) (S0 ++ [118, 32]) (vx (k : Int)) e1 rfl (by simp only [List.length_append, List.length_cons, List.length_nil]; omega)
      obtain ⟨S3, a3, e3⟩ := add_let (B := ⟨#[32]⟩) (S0 ++ [118, 32] ++ vx (k : Int)) [32] e2 rfl (by simp only [List.length_append, List.length_cons, List.length_nil]; omega)
      obtain ⟨S4, a4, e4⟩ := add_let (B := bs (Lib.itoa px)) (S0 ++ [118, 32] ++ vx (k : Int) ++ [32]) (Lib.itoa px) e3 rfl (by simp only [List.length_append, List.length_cons, List.length_nil]; omega)
      obtain ⟨S5, a5, e5⟩ := add_let (B := ⟨#[32]⟩) (S0 ++ [118, 32] ++ vx (k : Int) ++ [32] ++ Lib.itoa px) [32] e4 rfl (by simp only [List.length_append, List.length_cons, List.length_nil]; omega)
      obtain ⟨S6, a6, e6⟩ := add_let (B := bs (Lib.itoa py)) (S0 ++ [118, 32] ++ vx (k : Int) ++ [32] ++ Lib.itoa px ++ [32]) (Lib.itoa py) e5 rfl (by simp only [List.length_append, List.length_cons, List.length_nil]; omega)
      obtain ⟨S7, a7, e7⟩ := add_let (B := ⟨#[10]⟩) (S0 ++ [118, 32] ++ vx (k : Int) ++ [32] ++ Lib.itoa px ++ [32] ++ Lib.itoa py) [10] e6 rfl (by simp only [List.length_append, List.length_cons, List.length_nil]; omega)
      have HS7 : Hid (S7 = bs (lineW pCo [ct (n : Int)] ++ tx pt0 itP l (k + 1))) := by
        rw [e7, tx, hit, hS0]
        refine hide ?_
        simp only [List.append_assoc]
      rw [← hS0]
      have y0 := gw_cell x0
      have y1 := gw_cell x1
      clear hit hlen hvl hi1 hi2 e1 e2 e3 e4 e5 e6 e7 hp hS0 hkb hra
      generalize bs S0 = Z0 at a1 ⊢
      go_wp2_with fail
      refine wp_region_gw (by kernel_rfl) (by kernel_rfl) ?_
      repeat (go_big_quiet_step (first
        | (go_at_call 25; exact HU.out _)
        | (go_at_call_of 29 (Value.int .i64 px); exact HS1.out _)
        | (go_at_call_of 29 (Value.int .i64 py); exact HS2.out _)
        | rfl))
      refine wpQuiet_nil ?_
      intro _ hw'
      obtain ⟨x, hw''⟩ := hw'
      subst hw''
      go_wp2_with fail
      go_roundw
      case rel => exact ⟨k + 1, by omega, by go_num, by rw [HS7.out], HBL.out.trans (x.bel.mono HBL.out.size)⟩
      case measure => simp [RowKit.intOf]; omega
    · have hkn : k = n := by omega
      subst hkn
      have hb := g_good pt0 itP vdP (hd := lineW pCo [ct (k : Int)]) (l := l) (okP _ _)
      rw [← HN.out] at hb
      have HBd := hide hb
      clear hb
      go_wp2_with fail
      go_ret2
      rw [HBd.out.1, HBd.out.2]
      exact ⟨rfl, HBL.out⟩
end Go.Proofs.YtmejgjhijdcahaaDoor
