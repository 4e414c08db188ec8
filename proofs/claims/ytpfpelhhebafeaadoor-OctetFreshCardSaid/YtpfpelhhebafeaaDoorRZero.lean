/- Bytes of the reader, none of them; any number. -/
import Derived.Test.YtpfpelhhebafeaaDoorErrs
namespace Go.Proofs.YtpfpelhhebafeaaDoor
open Go.RowKit Go.Lib
set_option linter.unusedVariables false

theorem clone_zero (ao : Option Addr) (c : Nat) (w : World) : Calls Tryd.prog 38 #[.slice ao 0 c] w fun e w' => ∃ v', e = .returned v' ∧ w'.ownsRow w.heap.size 5 1 v' 0 [] ∧ Below w.heap.size w w' := by
  cases ao with
  | none =>
    refine (clone_nil 0 c w).mono ?_
    rintro e w' ⟨rfl, rfl⟩
    exact ⟨_, rfl, World.ownsRow_nil _ _ _ _, Below.refl _ _⟩
  | some a => exact clone_at a 0 c [] w rfl (by omega) (fun i hi => absurd hi (Nat.not_lt_zero _))

set_option maxRecDepth 100000 in
set_option maxHeartbeats 800000 in
theorem rbytes_zero (w : World) (r p : Nat) (bs : List Int) (h : RdIs w r bs p) (hp : p ≤ bs.length) (hbig : bs.length ≤ 175921860444160) :
    Calls Tryd.prog 21 #[.pointer (some ⟨r, 0, none⟩), .int .i64 0] w fun e w' => ∃ ao c, e = .returned (.tuple #[.slice ao 0 c, .int .i64 0]) ∧ RowAt .u8 w' (.slice ao 0 c) [] ∧ RdIs w' r bs p ∧ But r w w' := by
  have HLF := hide (left_any w r bs p h hp hbig)
  have H := hide h
  obtain ⟨ao, c, hh, hrow, hao⟩ := h
  have HH := hide hh
  have hcl : bs.length ≤ c := by
    obtain ⟨ao', c', he, k1, _⟩ := hrow
    simp only [Value.slice.injEq] at he
    obtain ⟨_, _, rfl⟩ := he
    exact k1
  have hnil : ao = none → c = 0 := by
    obtain ⟨ao', c', he, _, _, k3, _⟩ := hrow
    simp only [Value.slice.injEq] at he
    obtain ⟨rfl, _, rfl⟩ := he
    exact k3
  obtain ⟨L, hL⟩ : ∃ L, L = bs.length := ⟨_, rfl⟩
  have hr1 : r < w.heap.size := lt_of_heap hh
  rw [← hL] at HLF hcl hp hbig
  have HL := hide hL
  have hsub : ¬ (L : Int) - (p : Int) < 0 := by omega
  clear hh hrow hL
  go_enter Tryd.func21, Tryd.ntmps21
  go_wp2_with fail
  refine HLF.out.mono ?_
  rintro e w2 ⟨rfl, hb2⟩
  have hh2 := (hb2.block r (lt_of_heap HH.out)).trans HH.out
  rw [← HL.out] at hh2
  have c0' := cell_of hh2 (i := 0) rfl
  have c1' := cell_of hh2 (i := 1) rfl
  have HB2 := hide hb2
  have HH2 := hide hh2
  have HRW : Hid (r < w2.heap.size) := lt_of_heap hh2
  have HCC := hide (fun a d => clone_zero a d w2.drew)
  have hpc : (p : Int) ≤ (c : Int) := by omega
  have hwr : IntKind.i64.wrap ((p : Int) + 0) = (p : Int) := by rw [Int.add_zero]; exact IntWalk.i64_in _ ⟨by omega, by omega⟩
  have hwr2 : IntKind.i64.wrap (p : Int) = (p : Int) := IntWalk.i64_in _ ⟨by omega, by omega⟩
  have hpp : (p : Int) ≤ (p : Int) := by omega
  clear hb2 hh2 HLF
  go_wp2_with fail
  go_cut [6] from 13 to 28 (fun t wx => ∃ ao c, t = .slice ao 0 c ∧ wx.ownsRow w.heap.size 5 1 (.slice ao 0 c) 0 [] ∧ Below w2.heap.size w2 wx)
  case first =>
    cases ao with
    | none =>
      clear hnil hao
      refine wp_region_noPanic ?_
      go_region_held3 (fun x => x.cell? ⟨r, 0, none⟩ = some (.slice none L c) ∧ x.cell? ⟨r, 1, none⟩ = some (.int .i64 p)) (first | go_keep | exact ⟨m0, m1⟩)
        ((go_at_call 38; refine (HCC.out _ _).mono ?_; rintro e w3 ⟨v3, rfl, hown3, hb3⟩; obtain ⟨a3, c3, rfl⟩ := own_shape hown3; have m0 := (below_cell (o := 0) hb3 HRW.out).trans (cell_drew c0'); have m1 := (below_cell (o := 1) hb3 HRW.out).trans (cell_drew c1'); have HO3 := hide (And.intro hown3 hb3); clear hown3 hb3))
      all_goals
        refine NoPanic.normal ?_
        go_wp2_with fail
        go_meet
        case rel => exact ⟨_, _, rfl, own_lower HO3.out.1 HB2.out.size, below_on (Below.refl _ _).drew HO3.out.2⟩
    | some a =>
      obtain ⟨g, rfl⟩ : ∃ g, a = ⟨g, 0, none⟩ := by
        rcases hao with hn | ⟨g, hg, _⟩
        · cases hn
        · exact ⟨g, Option.some.inj hg⟩
      clear hnil hao
      by_cases hcp : c = p
      · refine wp_region_noPanic ?_
        go_region_held3 (fun x => x.cell? ⟨r, 0, none⟩ = some (.slice (some ⟨g, 0, none⟩) L c) ∧ x.cell? ⟨r, 1, none⟩ = some (.int .i64 p)) (first | go_keep | exact ⟨m0, m1⟩)
          ((go_at_call 38; refine (HCC.out _ _).mono ?_; rintro e w3 ⟨v3, rfl, hown3, hb3⟩; obtain ⟨a3, c3, rfl⟩ := own_shape hown3; have m0 := (below_cell (o := 0) hb3 HRW.out).trans (cell_drew c0'); have m1 := (below_cell (o := 1) hb3 HRW.out).trans (cell_drew c1'); have HO3 := hide (And.intro hown3 hb3); clear hown3 hb3))
        all_goals
          refine NoPanic.normal ?_
          go_wp2_with fail
          go_meet
          case rel => exact ⟨_, _, rfl, own_lower HO3.out.1 HB2.out.size, below_on (Below.refl _ _).drew HO3.out.2⟩
      · refine wp_region_noPanic ?_
        go_region_held3 (fun x => x.cell? ⟨r, 0, none⟩ = some (.slice (some ⟨g, 0, none⟩) L c) ∧ x.cell? ⟨r, 1, none⟩ = some (.int .i64 p)) (first | go_keep | exact ⟨m0, m1⟩)
          ((go_at_call 38; refine (HCC.out _ _).mono ?_; rintro e w3 ⟨v3, rfl, hown3, hb3⟩; obtain ⟨a3, c3, rfl⟩ := own_shape hown3; have m0 := (below_cell (o := 0) hb3 HRW.out).trans (cell_drew c0'); have m1 := (below_cell (o := 1) hb3 HRW.out).trans (cell_drew c1'); have HO3 := hide (And.intro hown3 hb3); clear hown3 hb3))
        all_goals
          refine NoPanic.normal ?_
          go_wp2_with fail
          go_meet
          case rel => exact ⟨_, _, rfl, own_lower HO3.out.1 HB2.out.size, below_on (Below.refl _ _).drew HO3.out.2⟩
  case rest =>
    obtain ⟨a3, c3, rfl, hown3, hb3⟩ := hcut
    have HO3 := hide hown3
    have hh3 := (hb3.block r HRW.out).trans HH2.out
    have z1 := cell_of hh3 (i := 1) rfl
    have f1 := free_of hh3 1
    have HR3 := hide ((H.out.below HB2.out).below hb3)
    have HB3 := hide (below_on HB2.out hb3)
    have hgn : ∀ g', a3 = some ⟨g', 0, none⟩ → g' ≠ r := by
      rintro g' rfl rfl
      obtain ⟨_, ⟨he, _⟩ | ⟨g1, cap, cur, he, hg1, _⟩⟩ := hown3
      · simp at he
      · simp only [Value.slice.injEq, Option.some.injEq, Addr.mk.injEq] at he
        omega
    have HGN := hide hgn
    clear hown3 hb3 hh3 hgn c0' c1' hnil hao
    go_wp2
    go_ret2
    have hz := rd_set HR3.out (q := p) (p : Int) rfl
    refine ⟨_, _, rfl, ?_, hz.1, (But.of_below HB3.out).trans hz.2⟩
    exact RowAt.of_owns (xs := []) (own_other HO3.out (Nat.zero_le _) HGN.out)
end Go.Proofs.YtpfpelhhebafeaaDoor
