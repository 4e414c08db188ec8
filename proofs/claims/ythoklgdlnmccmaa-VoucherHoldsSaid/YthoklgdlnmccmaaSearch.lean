/- slices.BinarySearch over a list of numbers that never falls; source. -/
import Derived.Test.YthoklgdlnmccmaaSrc
namespace Go.Proofs.Ythoklgdlnmccmaa
open Go.RowKit Go.Lib
set_option linter.unusedVariables false

set_option maxRecDepth 100000 in
theorem nan_any (x : Int) (w : World) : Calls Try.prog 145 #[.int .i64 x] w fun e w' => e = .returned (.bool false) ∧ w' = w := by
  go_enter Try.func145, Try.ntmps145
  go_wp2
  go_ret
  exact ⟨rfl, rfl⟩
set_option maxRecDepth 100000 in
theorem nan2_any (x : Int) (w : World) : Calls Try.prog 139 #[.int .i64 x] w fun e w' => e = .returned (.bool false) ∧ w' = w := by
  go_enter Try.func139, Try.ntmps139
  go_wp2
  go_ret
  exact ⟨rfl, rfl⟩
set_option maxRecDepth 100000 in
theorem less_any (x y : Int) (w : World) : Calls Try.prog 138 #[.int .i64 x, .int .i64 y] w fun e w' => e = .returned (.bool (decide (x < y))) ∧ w' = w := by
  go_enter Try.func138, Try.ntmps138
  go_wp2_with fail
  refine (nan_any x w).mono ?_
  rintro e w1 ⟨rfl, rfl⟩
  go_wp2
  all_goals (go_ret; exact ⟨by simp, rfl⟩)

set_option maxRecDepth 100000 in
set_option maxHeartbeats 4000000 in
theorem search_any (v : Value) (xs : List Int) (x : Int) (w : World) (hv : RowAt .i64 w v xs) (hne : xs ≠ []) (hlen : xs.length ≤ 1048577) (hmono : ∀ i j, i ≤ j → j < xs.length → at_ xs i ≤ at_ xs j) :
    Calls Try.prog 122 #[v, .int .i64 x] w fun e w' => ∃ (i : Nat) (b : Bool), e = .returned (.tuple #[.int .i64 (i : Int), .bool b]) ∧ i ≤ xs.length ∧ (∀ j, j < i → at_ xs j < x) ∧ (∀ j, i ≤ j → j < xs.length → x ≤ at_ xs j) ∧ w' = w := by
  obtain ⟨g, o, c, rfl, hc, hcm, hcell⟩ := hv.spot hne
  have HC := hide (fun i (hi : i < xs.length) => show w.cell? ⟨g, o + i, none⟩ = some (.int .i64 (at_ xs i)) from hcell i hi)
  have HM := hide hmono
  obtain ⟨n, hn⟩ : ∃ n, n = xs.length := ⟨_, rfl⟩
  rw [← hn] at HC HM hc hlen ⊢
  have HL := hide (fun a b w => less_any a b w)
  have HQ := hide (fun a w => nan2_any a w)
  clear hv hne hmono hcell hn
  go_enter Try.func122, Try.ntmps122
  go_wp2
  go_loopw [7, 8] (fun t u wr => ∃ i j : Nat, i ≤ j ∧ j ≤ n ∧ t = .int .i64 i ∧ u = .int .i64 j ∧ (∀ q, q < i → at_ xs q < x) ∧ (∀ q, j ≤ q → q < n → x ≤ at_ xs q) ∧ wr = w) (fun t u _ => (RowKit.intOf u).toNat - (RowKit.intOf t).toNat)
  case atStart => exact ⟨0, n, by omega, by omega, rfl, rfl, fun q hq => by omega, fun q h1 h2 => by omega, rfl⟩
  case round =>
    obtain ⟨i, j, hij, hjn, rfl, rfl, hlo, hhi, rfl⟩ := hrel
    have HLO := hide hlo; have HHI := hide hhi
    clear hlo hhi
    by_cases hlt : i < j
    · obtain ⟨h, hh⟩ : ∃ h : Nat, ((i : Int) + (j : Int)) / 2 = (h : Int) := ⟨(i + j) / 2, by omega⟩
      have h1 : i ≤ h := by omega
      have h2 : h < j := by omega
      have d := HC.out h (by omega)
      have HMH := hide (fun q => HM.out q h)
      have HMK := hide (fun q => HM.out h q)
      by_cases hx : at_ xs h < x
      · have HLT := hide (HL.out (at_ xs h) x wr)
        rw [decide_eq_true hx] at HLT
        have HX := hide hx
        obtain ⟨y, hy⟩ : ∃ y, y = at_ xs h := ⟨_, rfl⟩
        rw [← hy] at d HLT
        have HY := hide hy
        clear hx hy
        go_wp2_with fail
        refine HLT.out.mono ?_
        rintro e w1 ⟨rfl, rfl⟩
        go_wp2
        refine ⟨⟨h + 1, j, by omega, hjn, by simp, rfl, fun q hq => ?_, HHI.out, by trivial⟩, by simp [RowKit.intOf]; omega⟩
        have := HMH.out q (by omega) (by omega)
        have := HX.out
        omega
      · have HLT := hide (HL.out (at_ xs h) x wr)
        rw [decide_eq_false hx] at HLT
        have HX := hide hx
        obtain ⟨y, hy⟩ : ∃ y, y = at_ xs h := ⟨_, rfl⟩
        rw [← hy] at d HLT
        have HY := hide hy
        clear hx hy
        go_wp2_with fail
        refine HLT.out.mono ?_
        rintro e w1 ⟨rfl, rfl⟩
        go_wp2
        refine ⟨⟨i, h, h1, by omega, rfl, rfl, HLO.out, fun q h3 h4 => ?_, by trivial⟩, by simp [RowKit.intOf]; omega⟩
        have := HMK.out q h3 h4
        have := HX.out
        omega
    · obtain rfl : i = j := by omega
      by_cases hin : i < n
      · have d := HC.out i hin
        obtain ⟨y, hy⟩ : ∃ y, y = at_ xs i := ⟨_, rfl⟩
        rw [← hy] at d
        clear hy
        by_cases hx : y = x
        · have hxb : (y == x) = true := by simp [hx]
          have HX := hide hx
          clear hx
          go_wp2
          go_ret2
          exact ⟨i, _, rfl, hjn, HLO.out, HHI.out, rfl⟩
        · have hxb : (y == x) = false := by simp [hx]
          clear hx
          go_wp2_with fail
          refine (HQ.out _ _).mono ?_
          rintro e w1 ⟨rfl, rfl⟩
          go_wp2
          go_ret2
          exact ⟨i, _, rfl, hjn, HLO.out, HHI.out, rfl⟩
      · go_wp2
        go_ret2
        exact ⟨i, _, rfl, hjn, HLO.out, HHI.out, rfl⟩

/-- source: of an edge's place. -/
theorem src_found {n : Nat} {st to wt : List Int} (h : Good n st to wt) {p i : Nat} (hp : p < to.length) (hi : i ≤ st.length) (h1 : ∀ j, j < i → at_ st j < (p : Int) + 1) (h2 : ∀ j, i ≤ j → j < st.length → (p : Int) + 1 ≤ at_ st j) : 1 ≤ i ∧ (i : Int) - 1 = (src st n p : Int) := by
  have hz := h.zero
  have hl := h.last
  have hs := h.s_len
  have i1 : 1 ≤ i := by
    rcases Nat.lt_or_ge 0 i with g | g
    · exact g
    · have := h2 0 (by omega) (by omega); omega
  have i2 : i ≤ n := by
    rcases Nat.lt_or_ge n i with g | g
    · have := h1 n g; omega
    · exact g
  refine ⟨i1, ?_⟩
  have a := h1 (i - 1) (by omega)
  have b := h2 i (Nat.le_refl _) (by omega)
  have e := src_eq h (v := i - 1) (p := p) (by omega) (by omega) (by rw [show i - 1 + 1 = i by omega]; omega)
  rw [e]; omega

set_option maxRecDepth 100000 in
set_option maxHeartbeats 2000000 in
theorem source_any (n : Nat) (va vb vc : Value) (st to wt : List Int) (p : Nat) (w : World) (hg : GIs w n va vb vc st to wt) (hgd : Good n st to wt) (hp : p < to.length) :
    Calls Try.prog 79 #[gAgg n va vb vc, .int .i64 (p : Int)] w fun e w' => e = .returned (.int .i64 (src st n p : Int)) ∧ Below w.heap.size w w' := by
  have hne : st ≠ [] := by intro e; have := hgd.s_len; rw [e] at this; simp at this
  obtain ⟨ao, ca, rfl⟩ := hg.s.shape
  obtain ⟨bo, cb, rfl⟩ := hg.t.shape
  obtain ⟨co, cc, rfl⟩ := hg.u.shape
  have hm := hgd.m_le
  have hn := hgd.n_le
  have hsl := hgd.s_len
  have hle : st.length ≤ 1048577 := by omega
  have hmo : ∀ i j, i ≤ j → j < st.length → at_ st i ≤ at_ st j := fun i j h1 h2 => hgd.mono i j h1 (by omega)
  obtain ⟨c0, c1, c2, c3, hb1, hs1⟩ := boxed w (.int .i64 n) (.slice ao st.length ca) (.slice bo to.length cb) (.slice co wt.length cc)
  have HSE := hide (search_any (.slice ao st.length ca) st ((p : Int) + 1) _ (hg.s.below hb1) hne hle hmo)
  have HF := hide (fun i h1 h2 h3 => src_found hgd (p := p) (i := i) hp h1 h2 h3)
  have HB1 := hide hb1
  unfold gAgg
  clear hb1 hg hgd hne hmo hsl
  go_enter Try.func79, Try.ntmps79
  go_wp2_with fail
  refine HSE.out.mono ?_
  rintro e w2 ⟨i, b, rfl, hi, h1, h2, rfl⟩
  obtain ⟨i1, he⟩ := HF.out i hi h1 h2
  have HE := hide he
  clear h1 h2 he
  go_wp2
  go_ret
  exact ⟨by rw [← HE.out]; rfl, HB1.out⟩
end Go.Proofs.Ythoklgdlnmccmaa
