/- HistorySpans: the frame after the kit's template (with the form's own reach), the walk by hand. -/
import Derived.Test.YtjplllglnbmjgaaOe
import Derived.SizedLaws
import Derived.WalkKit
import Derived.ProofKit
import Derived.OpenShut
import Derived.ShutString
import Derived.ChangeOld
import Derived.Below
namespace Go.Proofs.Ytjplllglnbmjgaa.historySpans
open Go.ChangeShapes Go.WideShapes Go.ChangeAt Go.RowKit
open Go.ChangeMaps (open_string shut_string)
set_option linter.unusedVariables false

theorem own : ownKnob Try.prog.godebug = none := by kernel_rfl
theorem laidOut : laidOutB Try.prog = true := by kernel_rfl

theorem walk (v1 : Value) (l : List Ev) {W : World} (h1 : EAt W v1 l) (k1 : Eok l) (b1 : l.length * 40 ≤ 140737488351232) (v2 : Value) (m : List Ev) (h2 : EAt W v2 m) (k2 : Eok m) (b2 : m.length * 40 ≤ 140737488351232) (_ : World) :
    Calls Try.prog 3 #[v1, v2] W fun e w' => e = .returned (.bool true) ∧ Below W.heap.size W w' := spans_law v1 v2 l m W h1 h2 (by omega) (by omega) k1 k2

set_option maxRecDepth 100000 in
theorem lifted (os : Os) (started : os.Started) (H : Type) (enc : TypeId × Value → H) :
    ReturnsInHanded {} Try.checked os 3 .any (Rows.historySpansSpec.pre6 enc Try.prog Try.f3 Rows.historySpansRow.domain false) (Rows.historySpansSpec.post enc Try.prog Try.f3 false true false false) := by
  refine returnsInHanded_of_change_sized (C := Try.checked) own started (by kernel_rfl) Try.func3
    (ChangeSpec.witness6 (enc := enc) (C := Try.checked) false ⟨#[], #[.slice none 0 0, .slice none 0 0], []⟩ 8 (by kernel_rfl) (by kernel_rfl) (by kernel_rfl) (by kernel_rfl)) ?_
  intro W base args ds gs before hval0 hW hcnd hsz0 _
  have hval : ∀ (j : Nat) t v, Try.f3.params[j]? = some t → args[j]? = some v → Value.okWide Try.prog W .any base t v := hval0
  have hW' := hW
  obtain ⟨p, q, hA0, hV, rfl, hfz, hnd⟩ := hW
  have hA : DataW.TrodAll enc Try.prog W 0 (fun _ => true) true Try.f3.params.toList args.toList ds p := hA0
  have hsz : (DataW.weightsEach Try.prog (Try.f3.params.toList ++ Rows.historySpansSpec.plain.varTypes Try.prog) (ds ++ gs)).all (· ≤ reachBytes) = true := hsz0
  rw [Try.params3] at hA hval hsz
  obtain ⟨v0, vs0, d0, ds0, p0, q0, hargs, rfl, rfl, h0, r0⟩ := trodAll_cons hA
  obtain ⟨v1, vs1, d1, ds1, p1, q1, rfl, rfl, rfl, h1, r1⟩ := trodAll_cons r0
  obtain ⟨rfl, rfl, rfl⟩ := trodAll_nil r1
  obtain rfl : args = #[v0, v1] := by cases args; simp_all
  obtain ⟨rfl, rfl⟩ := trodVars_none hV
  have k0 := h0
  have lt0 : ∀ x ∈ p0, x.block < W.heap.size := by obtain ⟨m, hm⟩ := k0; exact DataW.trod_lt m _ _ _ hm
  obtain ⟨len0, cap0, S0, hl0, sa0, sb0, hd0⟩ := open_events (hval 0 22 v0 rfl rfl) h0
  have hs0 : S0.length * 40 ≤ 140737488351232 := by
    rcases hd0 with ⟨h0, _⟩ | ⟨D, hD⟩
    · rw [hl0, h0]; decide
    · have hs := sized_slice hsz (j := 0) (t := 22) (e := 36) (elems := (List.range len0).map D) (spare := (List.range (cap0 - len0)).map fun j => D (len0 + j)) rfl (by rw [hD]; rfl) Try.underlying22
      rw [show Try.prog.bytesOf 36 = 40 from by kernel_rfl] at hs
      simp only [List.length_map, List.length_range, reachBytes] at hs
      rw [hl0]
      omega
  have k1 := h1
  have lt1 : ∀ x ∈ p1, x.block < W.heap.size := by obtain ⟨m, hm⟩ := k1; exact DataW.trod_lt m _ _ _ hm
  obtain ⟨len1, cap1, S1, hl1, sa1, sb1, hd1⟩ := open_events (hval 1 22 v1 rfl rfl) h1
  have hs1 : S1.length * 40 ≤ 140737488351232 := by
    rcases hd1 with ⟨h0, _⟩ | ⟨D, hD⟩
    · rw [hl1, h0]; decide
    · have hs := sized_slice hsz (j := 1) (t := 22) (e := 36) (elems := (List.range len1).map D) (spare := (List.range (cap1 - len1)).map fun j => D (len1 + j)) rfl (by rw [hD]; rfl) Try.underlying22
      rw [show Try.prog.bytesOf 36 = 40 from by kernel_rfl] at hs
      simp only [List.length_map, List.length_range, reachBytes] at hs
      rw [hl1]
      omega
  clear hA0 hval0
  refine (walk v0 S0 sa0 sb0 hs0 v1 S1 sa1 sb1 hs1 W).mono fun e W' ⟨he, bel⟩ => ?_
  subst he
  exact ⟨_, rfl, _, _, _, [], _, [], hW', trodAll_mk1 (shut_bool Try.underlying4 _), (trodAll_cons_mk (Below.trod laidOut (by kernel_rfl) (of_decide_eq_true (by kernel_rfl)) k0 bel lt0) (trodAll_cons_mk (Below.trod laidOut (by kernel_rfl) (of_decide_eq_true (by kernel_rfl)) k1 bel lt1) trodAll_mk0)), rfl, bel.frame _, fun h => by cases h⟩

theorem over : Rows.historySpansRow.holds Try.pinned (OpenSpec.ofChange Rows.historySpansSpec) :=
  OpenClaim.holds_of_wide 3 Try.f3 rfl rfl rfl rfl rfl rfl rfl ⟨rfl, rfl, rfl, rfl, rfl⟩ rfl rfl rfl rfl rfl (by kernel_rfl) Try.func3 (by kernel_rfl)
    (of_decide_eq_true (by kernel_rfl)) (by unfold Func.isWrapper; first | (rw [if_pos (by decide +kernel)]; kernel_rfl) | (rw [if_neg (by decide +kernel)]; exact ⟨rfl, rfl⟩))
    (fun os started H enc _ => lifted os started H enc)

theorem proved : Rows.HistorySpansSaid := over
#print axioms proved
end Go.Proofs.Ytjplllglnbmjgaa.historySpans
