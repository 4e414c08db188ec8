/- SeekChecks: the frame after the kit's template (with the form's own reach), the walk by hand. -/
import Derived.Test.YtehlciejhegndaaClM
import Derived.SizedLaws
import Derived.WalkKit
import Derived.ProofKit
import Derived.OpenShut
import Derived.ShutString
import Derived.ChangeOld
import Derived.Below
namespace Go.Proofs.Ytehlciejhegndaa.seekChecks
open Go.ChangeShapes Go.WideShapes Go.ChangeAt Go.RowKit
open Go.ChangeMaps (open_string shut_string)
set_option linter.unusedVariables false

theorem own : ownKnob Try.prog.godebug = none := by kernel_rfl
theorem laidOut : laidOutB Try.prog = true := by kernel_rfl

theorem walk (N : Int) (va vb vc : Value) (st tl wt : List Int) {W : World} (hg : GIs W N va vb vc st tl wt) (wN : (Lit.int .i64 N).wf = true) (ba : st.length * 8 ≤ 140737488351232) (bb : tl.length * 8 ≤ 140737488351232) (bc : wt.length * 8 ≤ 140737488351232) (bw : ∀ n ∈ wt, (Lit.int .u64 n).wf = true)
    (v0 v1 v2 : Value) (at' : List Int) (fr ts : List (List Int)) (hm : MkI W v0 v1 v2 at' fr ts) (hb : MkB at' fr ts) (hf : ∀ i v, 0 ≤ at_ (rowL fr i) v ∧ at_ (rowL fr i) v ≤ Nev) (ht : ∀ i v, 0 ≤ at_ (rowL ts i) v ∧ at_ (rowL ts i) v ≤ Nev) (_ : World) :
    Calls Try.prog 6 #[gAgg N va vb vc, mAgg v0 v1 v2] W fun e w' => e = .returned (.bool true) ∧ Below W.heap.size W w' :=
  checks_law N va vb vc st tl wt v0 v1 v2 at' fr ts W hg ba bb bc (words_bound bw) hm hb hf ht

set_option maxRecDepth 100000 in
theorem lifted (os : Os) (started : os.Started) (H : Type) (enc : TypeId × Value → H) :
    ReturnsInHanded {} Try.checked os 6 .any (Rows.seekChecksSpec.pre6 enc Try.prog Try.f6 Rows.seekChecksRow.domain false) (Rows.seekChecksSpec.post enc Try.prog Try.f6 false true false false) := by
  refine returnsInHanded_of_change_sized (C := Try.checked) own started (by kernel_rfl) Try.func6
    (ChangeSpec.witness6 (enc := enc) (C := Try.checked) false ⟨#[], #[.agg #[.int .i64 0, .slice none 0 0, .slice none 0 0, .slice none 0 0], .agg #[.slice none 0 0, .slice none 0 0, .slice none 0 0]], []⟩ 8 (by kernel_rfl) (by kernel_rfl) (by kernel_rfl) (by kernel_rfl)) ?_
  intro W base args ds gs before hval0 hW hcnd hsz0 _
  have hval : ∀ (j : Nat) t v, Try.f6.params[j]? = some t → args[j]? = some v → Value.okWide Try.prog W .any base t v := hval0
  have hW' := hW
  obtain ⟨p, q, hA0, hV, rfl, hfz, hnd⟩ := hW
  have hA : DataW.TrodAll enc Try.prog W 0 (fun _ => true) true Try.f6.params.toList args.toList ds p := hA0
  have hsz : (DataW.weightsEach Try.prog (Try.f6.params.toList ++ Rows.seekChecksSpec.plain.varTypes Try.prog) (ds ++ gs)).all (· ≤ reachBytes) = true := hsz0
  rw [Try.params6] at hA hval hsz
  obtain ⟨v0, vs0, d0, ds0, p0, q0, hargs, rfl, rfl, h0, r0⟩ := trodAll_cons hA
  obtain ⟨v1, vs1, d1, ds1, p1, q1, rfl, rfl, rfl, h1, r1⟩ := trodAll_cons r0
  obtain ⟨rfl, rfl, rfl⟩ := trodAll_nil r1
  obtain rfl : args = #[v0, v1] := by cases args; simp_all
  obtain ⟨rfl, rfl⟩ := trodVars_none hV
  have k0 := h0
  have lt0 : ∀ x ∈ p0, x.block < W.heap.size := by obtain ⟨m, hm⟩ := k0; exact DataW.trod_lt m _ _ _ hm
  obtain ⟨N0, va0, vb0, vc0, st0, to0, wt0, rfl, hg0, wN0, ba0, bb0, bc0, bw0⟩ := open_graph (hval 0 25 v0 rfl rfl) h0 (fun n hn => by
    have hq := List.all_eq_true.1 hsz n (DataW.weights_mem_each (j := 0) (t := 25) (d := d0) rfl rfl n hn)
    simpa using hq)
  have k1 := h1
  have lt1 : ∀ x ∈ p1, x.block < W.heap.size := by obtain ⟨m, hm⟩ := k1; exact DataW.trod_lt m _ _ _ hm
  obtain ⟨va1, vb1, vc1, at1, fr1, ts1, rfl, hm1, hb1, hf1, ht1⟩ := open_marks (hval 1 41 v1 rfl rfl) h1 (fun n hn => by
    have hq := List.all_eq_true.1 hsz n (DataW.weights_mem_each (j := 1) (t := 41) (d := d1) rfl rfl n hn)
    simpa using hq)
  clear hA0 hval0
  refine (walk N0 va0 vb0 vc0 st0 to0 wt0 hg0 wN0 ba0 bb0 bc0 bw0 va1 vb1 vc1 at1 fr1 ts1 hm1 hb1 hf1 ht1 W).mono fun e W' ⟨he, bel⟩ => ?_
  subst he
  exact ⟨_, rfl, _, _, _, [], _, [], hW', trodAll_mk1 (shut_bool Try.underlying4 _), (trodAll_cons_mk (Below.trod laidOut (by kernel_rfl) (of_decide_eq_true (by kernel_rfl)) k0 bel lt0) (trodAll_cons_mk (Below.trod laidOut (by kernel_rfl) (of_decide_eq_true (by kernel_rfl)) k1 bel lt1) trodAll_mk0)), rfl, bel.frame _, fun h => by cases h⟩

theorem over : Rows.seekChecksRow.holds Try.pinned (OpenSpec.ofChange Rows.seekChecksSpec) :=
  OpenClaim.holds_of_wide 6 Try.f6 rfl rfl rfl rfl rfl rfl rfl ⟨rfl, rfl, rfl, rfl, rfl⟩ rfl rfl rfl rfl rfl (by kernel_rfl) Try.func6 (by kernel_rfl)
    (of_decide_eq_true (by kernel_rfl)) (by unfold Func.isWrapper; first | (rw [if_pos (by decide +kernel)]; kernel_rfl) | (rw [if_neg (by decide +kernel)]; exact ⟨rfl, rfl⟩))
    (fun os started H enc _ => lifted os started H enc)

theorem proved : Rows.SeekChecksSaid := over
#print axioms proved
end Go.Proofs.Ytehlciejhegndaa.seekChecks
