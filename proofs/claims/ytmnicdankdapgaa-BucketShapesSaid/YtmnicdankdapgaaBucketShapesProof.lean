/- BucketShapes: the frame after the kit's template (with the form's own reach), the walk by hand. -/
import Derived.Test.YtmnicdankdapgaaB7
import Derived.Test.YtmnicdankdapgaaOp
import Derived.SizedLaws
import Derived.WalkKit
import Derived.ProofKit
import Derived.OpenShut
import Derived.ShutString
import Derived.ChangeOld
import Derived.Below
namespace Go.Proofs.Ytmnicdankdapgaa.bucketShapes
open Go.ChangeShapes Go.WideShapes Go.ChangeAt Go.RowKit
open Go.ChangeMaps (open_string shut_string)
set_option linter.unusedVariables false

theorem own : ownKnob Try.prog.godebug = none := by kernel_rfl
theorem laidOut : laidOutB Try.prog = true := by kernel_rfl

theorem walk (b W S C D : Int) (w0 : (Lit.int .i64 b).wf = true) (w1 : (Lit.int .i64 W).wf = true) (w2 : (Lit.int .i64 S).wf = true) (w3 : (Lit.int .i64 C).wf = true) (w4 : (Lit.int .u64 D).wf = true) (who : Int) (ww : (Lit.int .i64 who).wf = true) (v : Value) (l : List Tk) {X : World} (hl : TAt X v l) (htk : Tok l) (hs : l.length * 16 ≤ 140737488351232) (_ : World) :
    Calls Try.prog 5 #[.agg #[.int .i64 b, .int .i64 W, .int .i64 S, .int .i64 C, .int .u64 D], .int .i64 who, v] X fun e w' => e = .returned (.bool true) ∧ Below X.heap.size X w' := shapesB_law b W S C D who v l X hl htk hs (Go.bounds_u64 w4).1 (by have := (Go.bounds_u64 w4).2; omega)

set_option maxRecDepth 100000 in
theorem lifted (os : Os) (started : os.Started) (H : Type) (enc : TypeId × Value → H) :
    ReturnsInHanded {} Try.checked os 5 .any (Rows.bucketShapesSpec.pre6 enc Try.prog Try.f5 Rows.bucketShapesRow.domain false) (Rows.bucketShapesSpec.post enc Try.prog Try.f5 false true false false) := by
  refine returnsInHanded_of_change_sized (C := Try.checked) own started (by kernel_rfl) Try.func5
    (ChangeSpec.witness6 (enc := enc) (C := Try.checked) false ⟨#[], #[.agg #[.int .i64 0, .int .i64 0, .int .i64 0, .int .i64 0, .int .u64 0], .int .i64 0, .slice none 0 0], []⟩ 8 (by kernel_rfl) (by kernel_rfl) (by kernel_rfl) (by kernel_rfl)) ?_
  intro W base args ds gs before hval0 hW hcnd hsz0 _
  have hval : ∀ (j : Nat) t v, Try.f5.params[j]? = some t → args[j]? = some v → Value.okWide Try.prog W .any base t v := hval0
  have hW' := hW
  obtain ⟨p, q, hA0, hV, rfl, hfz, hnd⟩ := hW
  have hA : DataW.TrodAll enc Try.prog W 0 (fun _ => true) true Try.f5.params.toList args.toList ds p := hA0
  have hsz : (DataW.weightsEach Try.prog (Try.f5.params.toList ++ Rows.bucketShapesSpec.plain.varTypes Try.prog) (ds ++ gs)).all (· ≤ reachBytes) = true := hsz0
  rw [Try.params5] at hA hval hsz
  obtain ⟨v0, vs0, d0, ds0, p0, q0, hargs, rfl, rfl, h0, r0⟩ := trodAll_cons hA
  obtain ⟨v1, vs1, d1, ds1, p1, q1, rfl, rfl, rfl, h1, r1⟩ := trodAll_cons r0
  obtain ⟨v2, vs2, d2, ds2, p2, q2, rfl, rfl, rfl, h2, r2⟩ := trodAll_cons r1
  obtain ⟨rfl, rfl, rfl⟩ := trodAll_nil r2
  obtain rfl : args = #[v0, v1, v2] := by cases args; simp_all
  obtain ⟨rfl, rfl⟩ := trodVars_none hV
  have k0 := h0
  have lt0 : ∀ x ∈ p0, x.block < W.heap.size := by obtain ⟨m, hm⟩ := k0; exact DataW.trod_lt m _ _ _ hm
  obtain ⟨a0_0, a0_1, a0_2, a0_3, a0_4, rfl, w0_0, w0_1, w0_2, w0_3, w0_4⟩ := open_bucket (hval 0 69 v0 rfl rfl) h0
  obtain ⟨a1, rfl, rfl, rfl, w1⟩ := open_int Try.underlying3 (hval 1 3 v1 rfl rfl) h1
  have k2 := h2
  have lt2 : ∀ x ∈ p2, x.block < W.heap.size := by obtain ⟨m, hm⟩ := k2; exact DataW.trod_lt m _ _ _ hm
  obtain ⟨len2, cap2, S2, hl2, sa2, sb2, hd2⟩ := open_tasks (hval 2 24 v2 rfl rfl) h2
  have hs2 : S2.length * 16 ≤ 140737488351232 := by
    rcases hd2 with ⟨h0, _⟩ | ⟨D, hD⟩
    · rw [hl2, h0]; decide
    · have hs := sized_slice hsz (j := 2) (t := 24) (e := 35) (elems := (List.range len2).map D) (spare := (List.range (cap2 - len2)).map fun j => D (len2 + j)) rfl (by rw [hD]; rfl) Try.underlying24
      rw [show Try.prog.bytesOf 35 = 16 from by kernel_rfl] at hs
      simp only [List.length_map, List.length_range, reachBytes] at hs
      rw [hl2]
      omega
  clear hA0 hval0
  refine (walk a0_0 a0_1 a0_2 a0_3 a0_4 w0_0 w0_1 w0_2 w0_3 w0_4 a1 w1 v2 S2 sa2 sb2 hs2 W).mono fun e W' ⟨he, bel⟩ => ?_
  subst he
  exact ⟨_, rfl, _, _, _, [], _, [], hW', trodAll_mk1 (shut_bool Try.underlying4 _), (trodAll_cons_mk (Below.trod laidOut (by kernel_rfl) (of_decide_eq_true (by kernel_rfl)) k0 bel lt0) (trodAll_cons_mk (shut_int Try.underlying3 w1) (trodAll_cons_mk (Below.trod laidOut (by kernel_rfl) (of_decide_eq_true (by kernel_rfl)) k2 bel lt2) trodAll_mk0))), rfl, bel.frame _, fun h => by cases h⟩

theorem over : Rows.bucketShapesRow.holds Try.pinned (OpenSpec.ofChange Rows.bucketShapesSpec) :=
  OpenClaim.holds_of_wide 5 Try.f5 rfl rfl rfl rfl rfl rfl rfl ⟨rfl, rfl, rfl, rfl, rfl⟩ rfl rfl rfl rfl rfl (by kernel_rfl) Try.func5 (by kernel_rfl)
    (of_decide_eq_true (by kernel_rfl)) (by unfold Func.isWrapper; first | (rw [if_pos (by decide +kernel)]; kernel_rfl) | (rw [if_neg (by decide +kernel)]; exact ⟨rfl, rfl⟩))
    (fun os started H enc _ => lifted os started H enc)

theorem proved : Rows.BucketShapesSaid := over
#print axioms proved
end Go.Proofs.Ytmnicdankdapgaa.bucketShapes
