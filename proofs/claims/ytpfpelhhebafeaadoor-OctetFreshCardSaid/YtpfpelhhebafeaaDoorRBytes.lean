/- Bytes of the reader. -/
import Derived.Test.YtpfpelhhebafeaaDoorBurstWalk
import Derived.Deep.CutRange
import Derived.Deep.RegionHeld3
namespace Go.Proofs.YtpfpelhhebafeaaDoor
open Go.RowKit Go.Lib
set_option linter.unusedVariables false

theorem cell_drew {w : World} {a : Addr} {v : Value} (h : w.cell? a = some v) : w.drew.cell? a = some v := h
theorem own_lower {w : World} {B B' : Nat} {v : Value} {n : Nat} {xs : List Value} (h : w.ownsRow B 5 1 v n xs) (hB : B' ≤ B) : w.ownsRow B' 5 1 v n xs := by
  obtain ⟨h1, h2 | ⟨g, cap, cur, he, hg, hr⟩⟩ := h
  · exact ⟨h1, .inl h2⟩
  · exact ⟨h1, .inr ⟨g, cap, cur, he, Nat.le_trans hB hg, hr⟩⟩
theorem own_other {w : World} {B r k n c : Nat} {a : Option Addr} {u : Value} {xs : List Value} (h : w.ownsRow B 5 1 (.slice a n c) n xs) (hn : 0 ≤ n) (hg : ∀ g', a = some ⟨g', 0, none⟩ → g' ≠ r) : (w.setCell ⟨r, k, none⟩ u).ownsRow B 5 1 (.slice a n c) n xs := by
  obtain ⟨h1, h2 | ⟨g, cap, cur, he, hgB, hh, hr⟩⟩ := h
  · exact ⟨h1, .inl h2⟩
  · simp only [Value.slice.injEq] at he
    refine ⟨h1, .inr ⟨g, cap, cur, by simp [he], hgB, ?_, hr⟩⟩
    rw [Below.heap_setCell _ _ _ _ (hg g he.1)]
    exact hh

set_option maxRecDepth 100000 in
set_option maxHeartbeats 2000000 in
theorem rbytes_any (w : World) (r p n : Nat) (bs : List Int) (h : RdIs w r bs p) (hps : p + n ≤ bs.length) (hne : p < bs.length) (hbig : bs.length ≤ 175921860444160) :
    Calls Tryd.prog 21 #[.pointer (some ⟨r, 0, none⟩), .int .i64 n] w fun e w' => ∃ ao c, e = .returned (.tuple #[.slice ao n c, .int .i64 0]) ∧ w'.ownsRow w.heap.size 5 1 (.slice ao n c) n (((bs.take (p + n)).drop p).map (Value.int .u8)) ∧ RdIs w' r bs (p + n) ∧ But r w w' := by
  have HLF := hide (left_any w r bs p h (by omega) hbig)
  have H := hide h
  obtain ⟨ao, c, hh, hrow, hao⟩ := h
  obtain ⟨g, rfl, hgr⟩ : ∃ g, ao = some ⟨g, 0, none⟩ ∧ g ≠ r := by
    rcases hao with rfl | hg
    · obtain ⟨ao', c', he, k1, _, k3, _⟩ := hrow
      simp only [Value.slice.injEq] at he
      obtain ⟨rfl, _, rfl⟩ := he
      have := k3 rfl
      omega
    · exact hg
  have HH := hide hh
  have hcl : bs.length ≤ c := by
    obtain ⟨ao', c', he, k1, _⟩ := hrow
    simp only [Value.slice.injEq] at he
    obtain ⟨_, _, rfl⟩ := he
    exact k1
  have c0 := cell_of hh (i := 0) rfl
  have c1 := cell_of hh (i := 1) rfl
  have hsl : ((bs.take (p + n)).drop p).length = n := by rw [List.length_drop, List.length_take]; omega
  obtain ⟨xs, hxs⟩ : ∃ xs, xs = (bs.take (p + n)).drop p := ⟨_, rfl⟩
  rw [← hxs] at hsl ⊢
  have HCL : Hid (∀ W, Below w.heap.size w W → ∀ q d, q = p ∨ n = 0 → Calls Tryd.prog 38 #[.slice (some ⟨g, q, none⟩) n d] W fun e w' => ∃ v', e = .returned v' ∧ w'.ownsRow W.heap.size 5 1 v' n (xs.map (Value.int .u8)) ∧ Below W.heap.size W w') := by
    intro W hW q d hq
    refine clone_at ⟨g, q, none⟩ n d xs W hsl (by omega) (fun i hi => ?_)
    obtain rfl : q = p := by rcases hq with h | h <;> omega
    obtain ⟨_, _, he, _, _, _, h4⟩ := sub_row (hrow.below hW) (f := q) (p := q + n) (by omega) (by omega)
    simp only [Value.slice.injEq] at he
    have h5 := h4 _ he.1.symm i (by rw [← hxs, hsl]; exact hi)
    rw [hxs]
    exact h5
  obtain ⟨L, hL⟩ : ∃ L, L = bs.length := ⟨_, rfl⟩
  rw [← hL] at HLF hcl hps hbig c0 hne
  have HL := hide hL
  have hsub : ¬ (L : Int) - (p : Int) < (n : Int) := by omega
  clear hh hrow hao hL hsl hxs
  go_enter Tryd.func21, Tryd.ntmps21
  go_wp2_with fail
  refine HLF.out.mono ?_
  rintro e w2 ⟨rfl, hb2⟩
  have hh2 := (hb2.block r (lt_of_heap HH.out)).trans HH.out
  rw [← HL.out] at hh2
  have c0' := cell_of hh2 (i := 0) rfl
  have c1' := cell_of hh2 (i := 1) rfl
  have HB2 := hide hb2
  have HH2 := hide hh2
  have HRW : Hid (r < w2.heap.size) := lt_of_heap hh2
  clear c0 c1 hb2 hh2
  have hwr : IntKind.i64.wrap ((p : Int) + (n : Int)) = (p : Int) + (n : Int) := IntWalk.i64_in _ ⟨by omega, by omega⟩
  have hpn : (p : Int) ≤ (p : Int) + (n : Int) := by omega
  have hpc : (p : Int) + (n : Int) ≤ (c : Int) := by omega
  have HCC : Hid (Calls Tryd.prog 38 #[.slice (if c = p then some ⟨g, 0, none⟩ else some ⟨g, p, none⟩) (((p : Int) + (n : Int)).toNat - p) (c - p)] w2.drew fun e w' => ∃ v', e = .returned v' ∧ w'.ownsRow w2.drew.heap.size 5 1 v' n (xs.map (Value.int .u8)) ∧ Below w2.drew.heap.size w2.drew w') := by
    show Calls Tryd.prog 38 _ _ _
    rw [show ((p : Int) + (n : Int)).toNat - p = n by omega]
    by_cases hcp : c = p
    · rw [if_pos hcp]
      exact HCL.out w2.drew (HB2.out.drew) 0 (c - p) (.inr (by omega))
    · rw [if_neg hcp]
      exact HCL.out w2.drew (HB2.out.drew) p (c - p) (.inl rfl)
  clear HCL
  go_wp2_with fail
  go_cut [6] from 13 to 28 (fun t wx => ∃ ao c, t = .slice ao n c ∧ wx.ownsRow w.heap.size 5 1 (.slice ao n c) n (xs.map (Value.int .u8)) ∧ Below w2.heap.size w2 wx)
  case first =>
    have hcp : ¬ c = p := by omega
    rw [if_neg hcp] at HCC
    refine wp_region_noPanic ?_
    go_region_held3 (fun x => x.cell? ⟨r, 0, none⟩ = some (.slice (some ⟨g, 0, none⟩) L c) ∧ x.cell? ⟨r, 1, none⟩ = some (.int .i64 p)) (first | go_keep | exact ⟨m0, m1⟩)
      ((go_at_call 38; refine HCC.out.mono ?_; rintro e w3 ⟨v3, rfl, hown3, hb3⟩; obtain ⟨a3, c3, rfl⟩ := own_shape hown3; have m0 := (below_cell (o := 0) hb3 HRW.out).trans (cell_drew c0'); have m1 := (below_cell (o := 1) hb3 HRW.out).trans (cell_drew c1'); have HO3 := hide (And.intro hown3 hb3); clear hown3 hb3))
    all_goals
      refine NoPanic.normal ?_
      go_wp2_with fail
      go_meet
      case rel => exact ⟨_, _, rfl, own_lower HO3.out.1 HB2.out.size, below_on (Below.refl _ _).drew HO3.out.2⟩
  case rest =>
    obtain ⟨a3, c3, rfl, hown3, hb3⟩ := hcut
    have HO3 := hide hown3
    have hh3 := (hb3.block r HRW.out).trans HH2.out
    have z1 := cell_of hh3 (i := 1) rfl
    have f1 := free_of hh3 1
    have HR3 := hide ((H.out.below HB2.out).below hb3)
    have HB3 := hide (below_on HB2.out hb3)
    have hgn : ∀ g', a3 = some ⟨g', 0, none⟩ → g' ≠ r := by
      rintro g' rfl rfl
      obtain ⟨_, ⟨he, _⟩ | ⟨g1, cap, cur, he, hg1, _⟩⟩ := hown3
      · simp at he
      · simp only [Value.slice.injEq, Option.some.injEq, Addr.mk.injEq] at he
        have := lt_of_heap HH.out
        omega
    have HGN := hide hgn
    clear hown3 hb3 hh3 hgn c0' c1'
    go_wp2
    go_ret2
    have hz := rd_set HR3.out (q := p + n) ((p : Int) + (n : Int)) (by push_cast; rfl)
    refine ⟨_, _, rfl, own_other HO3.out (by omega) HGN.out, hz.1, (But.of_below HB3.out).trans hz.2⟩
end Go.Proofs.YtpfpelhhebafeaaDoor
