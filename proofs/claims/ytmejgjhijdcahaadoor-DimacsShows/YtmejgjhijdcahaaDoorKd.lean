/- The kinds of lines. -/
import Derived.Test.YtmejgjhijdcahaaDoorLn
namespace Go.Proofs.YtmejgjhijdcahaaDoor
open Go.Shelf Go.RowKit Go.Sort Go.Lib
set_option linter.unusedVariables false
set_option linter.unusedSimpArgs false
theorem kindE (w : World) : Calls Tryd.prog 18 #[] w fun e w' => (∃ g : Nat, e = .returned (.agg #[.string (bs pSp), .slice (some ⟨g, 0, none⟩) 2 2, .string (bs [97]), .string ⟨#[118, 118, 119]⟩, .bool true])) ∧ Below w.heap.size w w' := by
  go_enter Tryd.func18, Tryd.ntmps18
  go_wp2
  refine bodyPost_ret (v := .agg #[.string (bs pSp), .slice (some ⟨w.heap.size + 1, 0, none⟩) 2 2, .string (bs [97]), .string ⟨#[118, 118, 119]⟩, .bool true]) (by simp [results, Tryd.results18, go_sem, bs, pSp]) rfl ⟨⟨_, rfl⟩, ?_⟩
  exact ((Below.refl _ w).alloc (Nat.le_refl _) _).alloc (by simp) _
theorem kindP (w : World) : Calls Tryd.prog 27 #[] w fun e w' => (∃ g : Nat, e = .returned (.agg #[.string (bs pCo), .slice (some ⟨g, 0, none⟩) 1 1, .string (bs [118]), .string ⟨#[112, 115, 115]⟩, .bool true])) ∧ Below w.heap.size w w' := by
  go_enter Tryd.func27, Tryd.ntmps27
  go_wp2
  refine bodyPost_ret (v := .agg #[.string (bs pCo), .slice (some ⟨w.heap.size + 1, 0, none⟩) 1 1, .string (bs [118]), .string ⟨#[112, 115, 115]⟩, .bool true]) (by simp [results, Tryd.results27, go_sem, bs, pCo]) rfl ⟨⟨_, rfl⟩, ?_⟩
  exact ((Below.refl _ w).alloc (Nat.le_refl _) _).alloc (by simp) _
theorem kindI (w : World) : Calls Tryd.prog 30 #[] w fun e w' => (∃ g : Nat, e = .returned (.agg #[.string (bs pSs), .slice (some ⟨g, 0, none⟩) 1 1, .string (bs [115]), .string ⟨#[118]⟩, .bool false])) ∧ Below w.heap.size w w' := by
  go_enter Tryd.func30, Tryd.ntmps30
  go_wp2
  refine bodyPost_ret (v := .agg #[.string (bs pSs), .slice (some ⟨w.heap.size + 1, 0, none⟩) 1 1, .string (bs [115]), .string ⟨#[118]⟩, .bool false]) (by simp [results, Tryd.results30, go_sem, bs, pSs]) rfl ⟨⟨_, rfl⟩, ?_⟩
  exact ((Below.refl _ w).alloc (Nat.le_refl _) _).alloc (by simp) _
theorem kindQ (w : World) : Calls Tryd.prog 32 #[] w fun e w' => (∃ g : Nat, e = .returned (.agg #[.string (bs pPp), .slice (some ⟨g, 0, none⟩) 1 1, .string (bs [113]), .string ⟨#[118, 118]⟩, .bool false])) ∧ Below w.heap.size w w' := by
  go_enter Tryd.func32, Tryd.ntmps32
  go_wp2
  refine bodyPost_ret (v := .agg #[.string (bs pPp), .slice (some ⟨w.heap.size + 1, 0, none⟩) 1 1, .string (bs [113]), .string ⟨#[118, 118]⟩, .bool false]) (by simp [results, Tryd.results32, go_sem, bs, pPp]) rfl ⟨⟨_, rfl⟩, ?_⟩
  exact ((Below.refl _ w).alloc (Nat.le_refl _) _).alloc (by simp) _
end Go.Proofs.YtmejgjhijdcahaaDoor
