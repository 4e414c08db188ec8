/- ownSpans, the walk. -/
import Derived.Test.YtjplllglnbmjgaaOw
namespace Go.Proofs.Ytjplllglnbmjgaa
open Go.RowKit Go.Lib
set_option linter.unusedVariables false
set_option linter.unusedSimpArgs false
/-- How far the marks go: the lists ahead of i are done, of i the first k. -/
def upC (ns : Nat → Nat) (i k : Nat) : Nat → Nat := fun j => if j = i then k else if j < i then ns j else 0
theorem upC_next (ns : Nat → Nat) (i k : Nat) : (fun j => if j = i then k + 1 else upC ns i k j) = upC ns i (k + 1) := by
  funext j
  unfold upC
  by_cases e : j = i
  · rw [if_pos e, if_pos e]
  · rw [if_neg e, if_neg e, if_neg e]
theorem upC_row (ns : Nat → Nat) (i : Nat) : upC ns i (ns i) = upC ns (i + 1) 0 := by
  funext j
  unfold upC
  by_cases e : j = i
  · subst e; rw [if_pos rfl, if_neg (by omega), if_pos (by omega)]
  · rw [if_neg e]
    by_cases e2 : j = i + 1
    · rw [if_pos e2, if_neg (by omega)]
    · rw [if_neg e2]
      by_cases e3 : j < i
      · rw [if_pos e3, if_pos (by omega)]
      · rw [if_neg e3, if_neg (by omega)]
theorem mdec' {i n : Nat} (h : i < n) : n - (RowKit.intOf (Value.int .i64 ((i : Int) + 1))).toNat < n - (RowKit.intOf (Value.int .i64 (i : Int))).toNat := by
  simp [RowKit.intOf]; omega
theorem put7_below {A : Nat} {a X : World} {g k : Nat} {x : Int} (h : Below A a X) (hg : A ≤ g) : Below A a (put7 X g k x) := by
  unfold put7
  exact ((((((h.setCell hg _).setCell hg _).setCell hg _).setCell hg _).setCell hg _).setCell hg _).setCell hg _
set_option maxRecDepth 100000 in
set_option maxHeartbeats 16000000 in
theorem ownSpans_any (A G B : Nat) (vs : Nat → Value) (ns S T : Nat → Nat) (w : World) (h : OS A G B vs ns S T (fun _ => 0) w) (hA : A ≤ w.heap.size) :
    Calls Try.prog 9 #[.slice (some ⟨G, 0, none⟩) 5 5] w fun e w' => e = .returned (.bool true) ∧ Below A w w' := by
  obtain ⟨i0, hi0, hz0, hz1, hz2⟩ := info_parts Try.info42'
  have H0 := hide (h.mono (c' := upC ns 0 0) (fun i _ => by unfold upC; by_cases e : i = 0 <;> simp [e]))
  clear h
  go_enter Try.func9, Try.ntmps9
  go_wp2
  go_loopw [3] (fun t wr => ∃ i : Nat, i ≤ 5 ∧ t = .int .i64 i ∧ OS A G B vs ns S T (upC ns i 0) wr ∧ Below A w wr) (fun t _ => 5 - (RowKit.intOf t).toNat)
  case atStart => exact ⟨0, by omega, rfl, H0.out, Below.refl _ _⟩
  case round =>
    obtain ⟨i, hi5, rfl, hos, hbl⟩ := hrel
    clear H0
    by_cases hlt : i < 5
    · have hcel := hos.cel i hlt
      have hbd := (hos.bd i hlt).1
      have HOS := hide hos
      have HBL := hide hbl
      have hlti : (i : Int) < 5 := by omega
      rcases (hos.l i hlt).spot with ⟨hv, hn⟩ | ⟨g, cap, hv, hnc, hcm, hSg, hgT, _, _, _, _⟩
      · rw [hv] at hcel
        have HR : Hid (OS A G B vs ns S T (upC ns (i + 1) 0) wr) := hide (by rw [← upC_row, hn]; exact hos)
        clear hos hbl hv hn hbd
        go_wp2
        go_loopw [4] (fun t wr' => t = .int .i64 0 ∧ wr' = wr) (fun _ _ => 0)
        case atStart => exact ⟨rfl, rfl⟩
        case round =>
          obtain ⟨rfl, rfl⟩ := hrel
          go_wp2
          go_roundw
          case rel => exact ⟨i + 1, hlt, by simp, HR.out, HBL.out⟩
          case measure => exact mdec' hlt
      · rw [hv] at hcel
        obtain ⟨n, hn⟩ : ∃ n, n = ns i := ⟨_, rfl⟩
        rw [← hn] at hcel hbd hnc hv
        have HN := hide hn
        have HV := hide hv
        have HG := hide (And.intro hSg hgT)
        have HAg : Hid (A ≤ g) := hide (by have := (hos.bd i hlt).2.1; omega)
        clear hos hbl hv hn hSg hgT
        go_wp2
        go_loopw [4] (fun t wr' => ∃ k : Nat, k ≤ n ∧ t = .int .i64 k ∧ OS A G B vs ns S T (upC ns i k) wr' ∧ Below A w wr') (fun t _ => n - (RowKit.intOf t).toNat)
        case atStart => exact ⟨0, by omega, rfl, HOS.out, HBL.out⟩
        case round =>
          obtain ⟨k, hk, rfl, hos, hbl⟩ := hrel
          clear HOS HBL hcel
          have hcel := hos.cel i hlt
          rw [HV.out] at hcel
          have HOS := hide hos
          have HBL := hide hbl
          by_cases hkn : k < n
          · have hl := hos.l i hlt
            rw [HV.out, ← HN.out] at hl
            obtain ⟨cj, fz⟩ : (∀ j, j < 7 → ∃ v, wr.cell? ⟨g, k * 7 + j, none⟩ = some v) ∧ (∀ j, wr.frozen? ⟨g, j, none⟩ = false) := by
              rcases hl.spot with ⟨e, _⟩ | ⟨g', cap', e, _, _, _, _, _, h1, h2, _⟩
              · simp at e
              · simp only [Value.slice.injEq, Option.some.injEq, Addr.mk.injEq, true_and, and_true] at e
                obtain ⟨rfl, rfl⟩ := e
                exact ⟨fun j hj => h1 k j hkn hj, h2⟩
            obtain ⟨v0, c0⟩ := cj 0 (by decide)
            obtain ⟨v1, c1⟩ := cj 1 (by decide)
            obtain ⟨v2, c2⟩ := cj 2 (by decide)
            obtain ⟨v3, c3⟩ := cj 3 (by decide)
            obtain ⟨v4, c4⟩ := cj 4 (by decide)
            obtain ⟨v5, c5⟩ := cj 5 (by decide)
            obtain ⟨v6, c6⟩ := cj 6 (by decide)
            rw [Nat.add_zero] at c0
            have f0 := fz (k * 7)
            have f1 := fz (k * 7 + 1)
            have f2 := fz (k * 7 + 2)
            have f3 := fz (k * 7 + 3)
            have f4 := fz (k * 7 + 4)
            have f5 := fz (k * 7 + 5)
            have f6 := fz (k * 7 + 6)
            have hp := hos.put hlt HV.out HN.out hkn (show upC ns i k i = k by unfold upC; rw [if_pos rfl]) HG.out
            rw [upC_next] at hp
            have HP := hide hp
            have HCP := hide (put7_below (g := g) (k := k) (x := 1000 + (i : Int)) hbl HAg.out)
            unfold put7 at HP HCP
            clear hos hbl hp hl cj fz
            go_wp2
            go_roundw
            case rel => exact ⟨k + 1, hkn, by simp, HP.out, HCP.out⟩
            case measure => exact mdec' hkn
          · obtain rfl : k = n := by omega
            have HR : Hid (OS A G B vs ns S T (upC ns (i + 1) 0) wr) := hide (by rw [← upC_row, ← HN.out]; exact hos)
            clear hos hbl
            go_wp2
            go_roundw
            case rel => exact ⟨i + 1, hlt, by simp, HR.out, HBL.out⟩
            case measure => exact mdec' hlt
    · obtain rfl : i = 5 := by omega
      have HF : Hid (OS A G B vs ns S T ns wr) := hide (hos.mono (fun j hj => by unfold upC; rw [if_neg (by omega), if_pos hj]; exact Nat.le_refl _))
      have HBL := hide hbl
      clear hos hbl
      rw [show ((5 : Nat) : Int) = 5 from rfl]
      go_wp2
      go_loopw [5] (fun t wr => ∃ i : Nat, i ≤ 5 ∧ t = .int .i64 i ∧ OS A G B vs ns S T ns wr ∧ Below A w wr) (fun t _ => 5 - (RowKit.intOf t).toNat)
      case atStart => exact ⟨0, by omega, rfl, HF.out, HBL.out⟩
      case round =>
        obtain ⟨i, hi5, rfl, hos, hbl⟩ := hrel
        clear HF HBL
        have HOS := hide hos
        have HBL := hide hbl
        by_cases hlt2 : i < 5
        · have hcel := hos.cel i hlt2
          have hbd := (hos.bd i hlt2).1
          have hlo := hos.lo
          have hTB := (hos.bd i hlt2).2.2
          have hAS := (hos.bd i hlt2).2.1
          have hst := ST.start (B := B) (hos.l i hlt2)
          obtain ⟨v, hv⟩ : ∃ v, v = vs i := ⟨_, rfl⟩
          obtain ⟨n, hn⟩ : ∃ n, n = ns i := ⟨_, rfl⟩
          rw [← hv] at hcel
          have HFIN : Hid (∀ Y v', Tch (S i) (T i) B wr Y → ST Y (S i) (T i) B v v' n (n + 64) (1000 + (i : Int)) → OS A G B vs ns S T ns Y ∧ Below A w Y) := fun Y v' h1 h2 => by
            have h3 := h2.marks
            rw [hv, hn] at h3
            exact ⟨HOS.out.tch hlt2 h1 h3, h1.below HBL.out hAS hlo.1 (by omega)⟩
          rw [← hv, ← hn] at hst
          rw [← hn] at hbd
          have HST := hide hst
          have HLO := hide (And.intro hlo.2.2 hTB)
          obtain ⟨S', hS'⟩ : ∃ S', S' = S i := ⟨_, rfl⟩
          obtain ⟨T', hT'⟩ : ∃ T', T' = T i := ⟨_, rfl⟩
          rw [← hS', ← hT'] at HST HFIN
          rw [← hT'] at HLO
          clear hos hbl hst hv hn hlo hTB hAS hS' hT'
          have hi5i : (i : Int) < 5 := by omega
          have hdi : decide ((i : Int) < 5) = true := decide_eq_true hi5i
          go_wp2
          obtain ⟨X0, hX0⟩ : ∃ X0, X0 = wr := ⟨_, rfl⟩
          have HT0 : Hid (Tch S' T' B X0 wr) := hide (by rw [hX0]; exact Tch.refl _ _ _ _)
          rw [← hX0] at HFIN HLO
          clear hX0 HOS HBL
          go_loopw [6, 7] (fun x t wr => ∃ k : Nat, k ≤ 64 ∧ t = .int .i64 k ∧ ST wr S' T' B v x n (n + k) (1000 + (i : Int)) ∧ Tch S' T' B X0 wr) (fun _ t _ => 64 - (RowKit.intOf t).toNat)
          case atStart => exact ⟨0, by omega, rfl, HST.out, HT0.out⟩
          case round =>
            obtain ⟨k, hk, rfl, hst, htc⟩ := hrel
            clear HST HT0 hcel
            have HST := hide hst
            have HTC := hide htc
            by_cases hk64 : k < 64
            · clear hst htc
              have hk64' : (k : Int) < 64 := by omega
              go_wp2_with (at_builtin; refine wpList_append_st rfl (.tmp 48) (.tmp 50) rfl i0 hi0 hz0 hz1 hz2 S' T' B v _ n (n + k) _ rfl HST.out (Nat.le_trans HLO.out.1 HTC.out.size) HLO.out.2 (by omega) rfl ?_; intro v5 w5 hst5 htc5; have HST5 := hide hst5; have HTC5 := hide (HTC.out.trans htc5); clear hst5 htc5)
              go_roundw
              case rel => exact ⟨k + 1, hk64, by simp, HST5.out, HTC5.out⟩
              case measure => exact mdec' hk64
            · obtain rfl : k = 64 := by omega
              have HE := hide (HFIN.out _ _ htc hst)
              clear hst htc
              rw [show ((64 : Nat) : Int) = 64 from rfl]
              go_wp2
              go_roundw
              case rel => exact ⟨i + 1, hlt2, by simp, HE.out.1, HE.out.2⟩
              case measure => exact mdec' hlt2
        · obtain rfl : i = 5 := by omega
          clear hos hbl
          rw [show ((5 : Nat) : Int) = 5 from rfl]
          obtain ⟨W1, hW1⟩ : ∃ W1, W1 = wr := ⟨_, rfl⟩
          rw [← hW1] at HOS HBL ⊢
          clear hW1
          go_wp2
          go_loopw [8] (fun t wr => ∃ i : Nat, i ≤ 5 ∧ t = .int .i64 i ∧ wr = W1) (fun t _ => 5 - (RowKit.intOf t).toNat)
          case atStart => exact ⟨0, by omega, rfl, rfl⟩
          case round =>
            obtain ⟨i, hi5, rfl, hwr⟩ := hrel
            subst hwr
            by_cases hlt3 : i < 5
            · have hcel := HOS.out.cel i hlt3
              have hbd := (HOS.out.bd i hlt3).1
              have hi5i : (i : Int) < 5 := by omega
              have hw : IntKind.i64.wrap (1000 + (i : Int)) = 1000 + (i : Int) := IntWalk.i64_in _ (by omega)
              rcases (HOS.out.l i hlt3).spot with ⟨hv, hn⟩ | ⟨g, cap, hv, hnc, hcm, _, _, _, _, _, hmk⟩
              · rw [hv] at hcel
                clear hv hn hbd
                go_wp2
                go_loopw [9] (fun t wr' => t = .int .i64 0 ∧ wr' = wr) (fun _ _ => 0)
                case atStart => exact ⟨rfl, rfl⟩
                case round =>
                  obtain ⟨rfl, rfl⟩ := hrel
                  go_wp2
                  go_roundw
                  case rel => exact ⟨i + 1, hlt3, by simp, by trivial⟩
                  case measure => exact mdec' hlt3
              · rw [hv] at hcel
                obtain ⟨n, hn⟩ : ∃ n, n = ns i := ⟨_, rfl⟩
                rw [← hn] at hcel hbd hnc hmk
                have HLC : Hid (∀ k, k < n → wr.cell? ⟨g, k * 7, none⟩ = some (.int .i64 (1000 + (i : Int)))) := fun k hk => hmk k hk hk
                clear hv hn hmk
                go_wp2
                go_loopw [9] (fun t wr' => ∃ k : Nat, k ≤ n ∧ t = .int .i64 k ∧ wr' = wr) (fun t _ => n - (RowKit.intOf t).toNat)
                case atStart => exact ⟨0, by omega, rfl, rfl⟩
                case round =>
                  obtain ⟨k, hk, rfl, hwr2⟩ := hrel
                  subst hwr2
                  by_cases hkn : k < n
                  · have hc := HLC.out k hkn
                    go_wp2
                    go_roundw
                    case rel => exact ⟨k + 1, hkn, by simp, by trivial⟩
                    case measure => exact mdec' hkn
                  · obtain rfl : k = n := by omega
                    go_wp2
                    go_roundw
                    case rel => exact ⟨i + 1, hlt3, by simp, by trivial⟩
                    case measure => exact mdec' hlt3
            · obtain rfl : i = 5 := by omega
              rw [show ((5 : Nat) : Int) = 5 from rfl]
              go_wp2
              go_ret
              exact ⟨rfl, HBL.out⟩
end Go.Proofs.Ytjplllglnbmjgaa
