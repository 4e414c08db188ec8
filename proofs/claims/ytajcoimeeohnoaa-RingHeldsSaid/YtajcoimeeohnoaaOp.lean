/- A ring that comes in, as it is read. -/
import Derived.Test.YtajcoimeeohnoaaLw
import Derived.SizedLaws
import Derived.ProofKit
import Derived.OpenShut
namespace Go.Proofs.Ytajcoimeeohnoaa
open Go.ChangeShapes Go.WideShapes Go.ChangeAt Go.RowKit Go.Deep
set_option linter.unusedVariables false
theorem Try.c3 : Try.prog.cellsOf 3 = 1 := by kernel_rfl
section
variable {H : Type} {enc : TypeId × Value → H} {w : World} {base : Nat} {held : Bool} {fuel : Nat} {cs : List Value} {y : DataW H × List MemPlace}
theorem one_int {t : TypeId} {k : IntKind} {z : Option (DataW H × List MemPlace)} {o : Nat} (ht : Try.prog.underlying t = some (.int k)) (hc : Try.prog.cellsOf t = 1) (hy : z.isSome = true)
    (h : DataW.trod enc Try.prog w base (fun _ => true) held fuel t ((cs.drop o).take (Try.prog.cellsOf t)) = z) : ∃ n, cs[o]? = some (.int k n) ∧ (Lit.int k n).wf = true := by
  obtain ⟨q, rfl⟩ := Option.isSome_iff_exists.1 hy
  rw [hc] at h
  obtain ⟨n, e, _, hw⟩ := DataW.trod_int ht h
  refine ⟨n, ?_, hw⟩
  have e2 : ((cs.drop o).take 1)[0]? = some (.int k n) := by rw [e]; rfl
  rw [List.getElem?_take_of_lt (by omega), List.getElem?_drop] at e2
  simpa using e2


theorem Try.c47 : Try.prog.cellsOf 47 = 2 := by kernel_rfl
set_option maxRecDepth 100000 in
theorem open_ring {W : World} {v : Value} {d : DataW H} {p : List MemPlace} (hv : Value.okWide Try.prog W .any base 47 v) (h : DataW.Trod enc Try.prog W 0 (fun _ => true) held 47 v d p) :
    ∃ a b : Int, v = .agg #[.int .i64 a, .int .i64 b] ∧ (Lit.int .i64 a).wf = true ∧ (Lit.int .i64 b).wf = true := by
  obtain ⟨cs, rfl, hsz⟩ := okWide_struct Try.underlying47 hv
  obtain ⟨fuel, hf⟩ := h
  obtain ⟨xs, n, _, _, hlen, hxs, hel⟩ := DataW.trod_struct Try.underlying47 hf
  rw [Try.c47] at hlen
  have hx : ∀ i, i < 2 → (xs[i]?).isSome = true := fun i hi => by rw [List.getElem?_eq_getElem (show i < xs.length by rw [hxs]; exact hi)]; rfl
  obtain ⟨k0, h0, w0⟩ := one_int Try.underlying3 Try.c3 (hx 0 (by omega)) (hel 0 _ rfl)
  obtain ⟨k1, h1, w1⟩ := one_int Try.underlying3 Try.c3 (hx 1 (by omega)) (hel 1 _ rfl)
  refine ⟨k0, k1, ?_, w0, w1⟩
  congr 1
  have : cs.toList = [.int .i64 k0, .int .i64 k1] := by
    have hl2 : cs.toList.length = 2 := by simpa [Value.cells] using hlen
    apply List.ext_getElem?
    intro i
    match i with
    | 0 => simpa [Value.cells] using h0
    | 1 => simpa [Value.cells] using h1
    | i + 2 => rw [List.getElem?_eq_none (by omega), List.getElem?_eq_none (by simp)]
  rw [← Array.toList_inj, this]

end
end Go.Proofs.Ytajcoimeeohnoaa
