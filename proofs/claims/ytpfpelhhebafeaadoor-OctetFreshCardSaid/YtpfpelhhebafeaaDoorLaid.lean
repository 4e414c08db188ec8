/- The listed table gives SumsAt; rows of bytes that come in. -/
import Derived.Test.YtpfpelhhebafeaaDoorCrc
import Derived.SizedLaws
import Derived.WalkKit
import Derived.ProofKit
import Derived.OpenShut
import Derived.ChangeOld
import Derived.LaidMore
import Derived.LaidHandle
import Derived.MakeChecks
namespace Go.Proofs.YtpfpelhhebafeaaDoor
open Go.ChangeShapes Go.WideShapes Go.ChangeAt Go.RowKit
set_option linter.unusedVariables false

theorem gS : Tryd.prog.globalNamed "wayfare/octet.sums" = some 0 := by kernel_rfl
theorem tS : (Tryd.prog.globals[0]?).map (·.type) = some 83 := by kernel_rfl
theorem list_tbl : (Rows.laid_wayfare_octet_sums (H := Unit)) = .agg (tbl.map fun (n : Nat) => DataW.lit (.int .u32 (n : Int))) := rfl

theorem of_laid {W : World} (h : laidMetH Tryd.prog Rows.octetBurstRow.laid W) : SumsAt W := by
  rw [MakeChecks.laidMetH_plain _ _ _ (by kernel_rfl)] at h
  obtain ⟨ps, ⟨g0, t0, cs0, f0, p0, q0, hg0, ht0, hv0, hd0, _, _⟩, _, _⟩ := h
  obtain rfl := Option.some.inj (gS.symm.trans hg0)
  obtain rfl := Option.some.inj (tS.symm.trans ht0)
  obtain ⟨xs, m1, rfl, hx1, hlen, hn, hel⟩ := DataW.trod_array Tryd.underlying83 hd0
  have ce : Tryd.prog.cellsOf 23 = 1 := by kernel_rfl
  rw [list_tbl] at hx1
  simp only [Prod.mk.injEq, DataW.agg.injEq] at hx1
  have key : ∀ i, i < 16 → cs0[i]? = some (.int .u32 ((tb i : Nat) : Int)) := by
    intro i hi
    have h0 := hel i hi
    obtain ⟨y, hy⟩ : ∃ y, xs[i]? = some y := ⟨_, List.getElem?_eq_getElem (by omega)⟩
    obtain ⟨z, hz⟩ : ∃ z, tbl[i]? = some z := ⟨_, List.getElem?_eq_getElem (by simpa [tbl] using hi)⟩
    rw [hy] at h0
    obtain ⟨k, e1, e2, _⟩ := DataW.trod_int (show Tryd.prog.underlying 23 = some (.int .u32) from Tryd.underlying23) h0
    have h7 := congrArg (fun l => l[i]?) hx1.1
    simp only [List.getElem?_map, hy, hz, Option.map_some, e2, Option.some.injEq, DataW.lit.injEq, Lit.int.injEq, true_and] at h7
    have htb : tb i = z := by simp [tb, hz]
    rw [ce] at e1
    have h8 := congrArg (fun l => l[0]?) e1
    simp [List.getElem?_drop] at h8
    rw [htb, h7]
    exact h8
  have hcell : ∀ i, i < 16 → W.cell? ⟨0, i, none⟩ = some (.int .u32 ((tb i : Nat) : Int)) := fun i hi => (World.var?_cell hg0 hv0 i).trans (key i hi)
  exact ⟨World.block_lt_of_cell? W ⟨0, 0, none⟩ (hcell 0 (by decide)), hcell⟩
end Go.Proofs.YtpfpelhhebafeaaDoor
