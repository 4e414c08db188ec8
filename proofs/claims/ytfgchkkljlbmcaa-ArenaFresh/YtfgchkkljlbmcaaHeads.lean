/- heads. -/
import Derived.Test.YtfgchkkljlbmcaaHold
namespace Go.Proofs.Ytfgchkkljlbmcaa
open Go.RowKit Go.Lib Go.MuLone

def hs0 : Ast := Ast.new 2 true
def hs1 : Ast := ⟨[0, 5], true, [⟨3, 4, 1, 0, 5, 0, 5, true⟩], 1, false, 0, 0, 0⟩
def hs2 : Ast := ⟨[0, 5], true, [⟨3, 4, 1, 0, 5, 0, 5, true⟩, ⟨3, 3, 1, 4, 9, 5, 5, false⟩], 2, false, 0, 0, 0⟩
def hs3 : Ast := ⟨[0, 9], true, [⟨3, 4, 1, 0, 5, 0, 5, true⟩, ⟨3, 3, 1, 4, 9, 5, 5, false⟩, ⟨3, 3, 1, 5, 9, 5, 9, true⟩], 3, false, 0, 0, 0⟩

set_option maxRecDepth 100000 in
set_option maxHeartbeats 1000000 in
theorem heads_any (w : World) : Calls Try.prog 17 #[] w fun r w' => r = .returned (.bool true) ∧ Below w.heap.size w w' := by
  have HN := hide (new_any 2 true w (by decide))
  go_enter Try.func17, Try.ntmps17
  go_wp2_with fail
  refine HN.out.mono ?_
  rintro e w1 ⟨rfl, ha, hsz, hbel⟩
  have H0 := hide (hold_new w w1 ha hbel (by omega) (Nat.le_refl _) 3)
  clear ha hsz hbel HN
  go_wp2_with (go_at_call 31; refine (no_any _ _).mono ?_; rintro e w' ⟨rfl, hw⟩; subst w')
  refine (port_any _ 3 _ (by decide)).mono ?_
  rintro e w2 ⟨rfl, hw⟩
  rw [← hw] at H0
  clear hw
  go_wp2_with (go_at_call 31; refine (no_any _ _).mono ?_; rintro e w' ⟨rfl, hw⟩; subst w')
  refine (hold_grant H0.out).mono ?_
  rintro e w3 ⟨rfl, h3⟩
  have H3 := hide h3
  clear h3 H0
  go_wp2_with fail
  refine (hold_add (i := 1) H3.out 5 rfl (by decide) (by decide) (by decide) (by decide)).mono ?_
  rintro e w4 ⟨he, h4⟩
  obtain rfl : e = .returned (.int .u64 0) := he
  have H4 : Hid (Hold w w4 _ _ _ _ hs1 3 false) := h4
  clear h4 H3
  go_wp2_with fail
  refine (hold_grant H4.out).mono ?_
  rintro e w5 ⟨rfl, h5⟩
  have H5 := hide h5
  clear h5 H4
  go_wp2_with fail
  refine (hold_cas (i := 1) H5.out 4 9 rfl (by decide) (by decide) (by decide) (by decide)).mono ?_
  rintro e w6 ⟨he, h6⟩
  obtain rfl : e = .returned (.bool false) := he
  have H6 : Hid (Hold w w6 _ _ _ _ hs2 3 false) := h6
  clear h6 H5
  go_wp2_with fail
  refine (hold_grant H6.out).mono ?_
  rintro e w7 ⟨rfl, h7⟩
  have H7 := hide h7
  clear h7 H6
  go_wp2_with fail
  refine (hold_cas (i := 1) H7.out 5 9 rfl (by decide) (by decide) (by decide) (by decide)).mono ?_
  rintro e w8 ⟨he, h8⟩
  obtain rfl : e = .returned (.bool true) := he
  have H8 : Hid (Hold w w8 _ _ _ _ hs3 3 false) := h8
  clear h8 H7
  go_wp2_with fail
  refine (hold_peek (i := 1) H8.out (by decide)).mono ?_
  rintro e w9 ⟨he, h9⟩
  obtain rfl : e = .returned (.tuple #[.int .u64 9, .int .i64 0]) := he
  have H9 := hide h9
  clear h9 H8
  go_wp2_with fail
  refine (hold_log H9.out (by decide)).mono ?_
  rintro e w10 ⟨v, rfl, hv, h10⟩
  obtain ⟨g, c, rfl, hc, hg, hg2, hcell⟩ := owns_row (n := 3) hv (by decide)
  have hgb : g ≠ w.heap.size + 1 := by have := H9.out.bl; omega
  have HL := hide (And.intro hcell (And.intro hg2 hgb))
  have H10 := hide h10
  clear h10 H9 hv hcell hg hgb
  go_wp2_with (first | (go_at_call 31; refine (no_any _ _).mono ?_; rintro e w' ⟨rfl, hw⟩; subst w'))
  refine (hold_count H10.out).mono ?_
  rintro e w11 ⟨he, h11, k11⟩
  obtain rfl : e = .returned (.int .i64 3) := he
  have hq : ∀ j x, (logCells hs3.log)[j]? = some x → w11.cell? ⟨g, j, none⟩ = some x := fun j x hx => (World.cell?_of_block (k11.block g HL.out.2.1 HL.out.2.2)).trans (HL.out.1 j x hx)
  have c0 : w11.cell? ⟨g, 0, none⟩ = some (.int .i64 3) := hq 0 _ rfl
  have c1 : w11.cell? ⟨g, 1, none⟩ = some (.int .i64 4) := hq 1 _ rfl
  have c2 : w11.cell? ⟨g, 2, none⟩ = some (.int .i64 1) := hq 2 _ rfl
  have c3 : w11.cell? ⟨g, 3, none⟩ = some (.int .u64 0) := hq 3 _ rfl
  have c4 : w11.cell? ⟨g, 4, none⟩ = some (.int .u64 5) := hq 4 _ rfl
  have c5 : w11.cell? ⟨g, 5, none⟩ = some (.int .u64 0) := hq 5 _ rfl
  have c6 : w11.cell? ⟨g, 6, none⟩ = some (.int .u64 5) := hq 6 _ rfl
  have c7 : w11.cell? ⟨g, 7, none⟩ = some (.bool true) := hq 7 _ rfl
  have c8 : w11.cell? ⟨g, 8, none⟩ = some (.int .i64 3) := hq 8 _ rfl
  have c9 : w11.cell? ⟨g, 9, none⟩ = some (.int .i64 3) := hq 9 _ rfl
  have c10 : w11.cell? ⟨g, 10, none⟩ = some (.int .i64 1) := hq 10 _ rfl
  have c11 : w11.cell? ⟨g, 11, none⟩ = some (.int .u64 4) := hq 11 _ rfl
  have c12 : w11.cell? ⟨g, 12, none⟩ = some (.int .u64 9) := hq 12 _ rfl
  have c13 : w11.cell? ⟨g, 13, none⟩ = some (.int .u64 5) := hq 13 _ rfl
  have c14 : w11.cell? ⟨g, 14, none⟩ = some (.int .u64 5) := hq 14 _ rfl
  have c15 : w11.cell? ⟨g, 15, none⟩ = some (.bool false) := hq 15 _ rfl
  have HE := hide h11.bel
  clear hq k11 h11 HL H10
  go_wp2_with fail
  go_ret
  exact ⟨rfl, HE.out⟩
end Go.Proofs.Ytfgchkkljlbmcaa
