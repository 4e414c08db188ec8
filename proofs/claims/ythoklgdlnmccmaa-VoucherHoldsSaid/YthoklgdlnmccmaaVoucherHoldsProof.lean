/- VoucherHolds: the frame after the kit's template (with the form's own reach), the walk by hand. -/
import Derived.Test.YthoklgdlnmccmaaHoldG
import Derived.Test.YthoklgdlnmccmaaStG
import Derived.Test.YthoklgdlnmccmaaOpenV
import Derived.SizedLaws
import Derived.WalkKit
import Derived.ProofKit
import Derived.OpenShut
import Derived.ShutString
import Derived.ChangeOld
import Derived.Below
namespace Go.Proofs.Ythoklgdlnmccmaa.voucherHolds
open Go.ChangeShapes Go.WideShapes Go.ChangeAt Go.RowKit
open Go.ChangeMaps (open_string shut_string)
set_option linter.unusedVariables false

theorem own : ownKnob Try.prog.godebug = none := by kernel_rfl
theorem laidOut : laidOutB Try.prog = true := by kernel_rfl

theorem walk (N : Int) (va vb vc : Value) (st tl wt : List Int) {W : World} (hg : GIs W N va vb vc st tl wt) (wN : (Lit.int .i64 N).wf = true) (ba : st.length * 8 ≤ 140737488351232) (bb : tl.length * 8 ≤ 140737488351232) (bc : wt.length * 8 ≤ 140737488351232) (bw : ∀ n ∈ wt, (Lit.int .u64 n).wf = true)
    (a1 : Int) (w1 : (Lit.int .i64 a1).wf = true) (sv : Value) (S : List Pr) (sa : SAt W sv S) (sb : ∀ j, j < S.length → 0 ≤ (sAt S j).2 ∧ (sAt S j).2 < 18446744073709551616) (hs : S.length * 16 ≤ 140737488351232) (a3 : Int) (w3 : (Lit.int .i64 a3).wf = true) (a4 : Int) (w4 : (Lit.int .u64 a4).wf = true) :
    Calls Try.prog 18 #[gAgg N va vb vc, .int .i64 a1, sv, .int .i64 a3, .int .u64 a4] W fun e w' => e = .returned (.bool true) ∧ Below W.heap.size W w' := by
  by_cases hno : srchNo N st tl wt a1 S = 0
  · obtain ⟨n, rfl, hgd, hst⟩ := srch_good hno
    have h3 := Go.bounds_i64 w3
    have h4 := Go.bounds_u64 w4
    exact holds_good n va vb vc st tl wt a1 sv S a3 a4 W hg sa hgd (words_bound bw) (fun j hj => by have := sb j hj; omega) (by omega) hno (by omega) (by omega)
  · exact holds_bad N va vb vc st tl wt a1 sv S a3 a4 W hg sa (by omega) (by omega) (by omega) (by omega) hno

set_option maxRecDepth 100000 in
theorem lifted (os : Os) (started : os.Started) (H : Type) (enc : TypeId × Value → H) :
    ReturnsInHanded {} Try.checked os 18 .any (Rows.voucherHoldsSpec.pre6 enc Try.prog Try.f18 Rows.voucherHoldsRow.domain false) (Rows.voucherHoldsSpec.post enc Try.prog Try.f18 false true false false) := by
  refine returnsInHanded_of_change_sized (C := Try.checked) own started (by kernel_rfl) Try.func18
    (ChangeSpec.witness6 (enc := enc) (C := Try.checked) false ⟨#[], #[.agg #[.int .i64 0, .slice none 0 0, .slice none 0 0, .slice none 0 0], .int .i64 0, .slice none 0 0, .int .i64 0, .int .u64 0], []⟩ 8 (by kernel_rfl) (by kernel_rfl) (by kernel_rfl) (by kernel_rfl)) ?_
  intro W base args ds gs before hval0 hW hcnd hsz0 _
  have hval : ∀ (j : Nat) t v, Try.f18.params[j]? = some t → args[j]? = some v → Value.okWide Try.prog W .any base t v := hval0
  have hW' := hW
  obtain ⟨p, q, hA0, hV, rfl, hfz, hnd⟩ := hW
  have hA : DataW.TrodAll enc Try.prog W 0 (fun _ => true) true Try.f18.params.toList args.toList ds p := hA0
  have hsz : (DataW.weightsEach Try.prog (Try.f18.params.toList ++ Rows.voucherHoldsSpec.plain.varTypes Try.prog) (ds ++ gs)).all (· ≤ reachBytes) = true := hsz0
  rw [Try.params18] at hA hval hsz
  obtain ⟨v0, vs0, d0, ds0, p0, q0, hargs, rfl, rfl, h0, r0⟩ := trodAll_cons hA
  obtain ⟨v1, vs1, d1, ds1, p1, q1, rfl, rfl, rfl, h1, r1⟩ := trodAll_cons r0
  obtain ⟨v2, vs2, d2, ds2, p2, q2, rfl, rfl, rfl, h2, r2⟩ := trodAll_cons r1
  obtain ⟨v3, vs3, d3, ds3, p3, q3, rfl, rfl, rfl, h3, r3⟩ := trodAll_cons r2
  obtain ⟨v4, vs4, d4, ds4, p4, q4, rfl, rfl, rfl, h4, r4⟩ := trodAll_cons r3
  obtain ⟨rfl, rfl, rfl⟩ := trodAll_nil r4
  obtain rfl : args = #[v0, v1, v2, v3, v4] := by cases args; simp_all
  obtain ⟨rfl, rfl⟩ := trodVars_none hV
  have k0 := h0
  have lt0 : ∀ x ∈ p0, x.block < W.heap.size := by obtain ⟨m, hm⟩ := k0; exact DataW.trod_lt m _ _ _ hm
  obtain ⟨N0, va0, vb0, vc0, st0, to0, wt0, rfl, hg0, wN0, ba0, bb0, bc0, bw0⟩ := open_graph (hval 0 32 v0 rfl rfl) h0 (fun n hn => by
    have hq := List.all_eq_true.1 hsz n (DataW.weights_mem_each (j := 0) (t := 32) (d := d0) rfl rfl n hn)
    simpa using hq)
  obtain ⟨a1, rfl, rfl, rfl, w1⟩ := open_int Try.underlying3 (hval 1 3 v1 rfl rfl) h1
  have k2 := h2
  have lt2 : ∀ x ∈ p2, x.block < W.heap.size := by obtain ⟨m, hm⟩ := k2; exact DataW.trod_lt m _ _ _ hm
  obtain ⟨len2, cap2, S2, hl2, sa2, sb2, hd2⟩ := open_starts (hval 2 33 v2 rfl rfl) h2
  have hs2 : S2.length * 16 ≤ 140737488351232 := by
    rcases hd2 with ⟨h0, _⟩ | ⟨D, hD⟩
    · rw [hl2, h0]; decide
    · have hs := sized_slice hsz (j := 2) (t := 33) (e := 41) (elems := (List.range len2).map D) (spare := (List.range (cap2 - len2)).map fun j => D (len2 + j)) rfl (by rw [hD]; rfl) Try.underlying33
      rw [show Try.prog.bytesOf 41 = 16 from by kernel_rfl] at hs
      simp only [List.length_map, List.length_range, reachBytes] at hs
      rw [hl2]
      omega
  obtain ⟨a3, rfl, rfl, rfl, w3⟩ := open_int Try.underlying3 (hval 3 3 v3 rfl rfl) h3
  obtain ⟨a4, rfl, rfl, rfl, w4⟩ := open_int Try.underlying22 (hval 4 22 v4 rfl rfl) h4
  clear hA0 hval0
  refine (walk N0 va0 vb0 vc0 st0 to0 wt0 hg0 wN0 ba0 bb0 bc0 bw0 a1 w1 v2 S2 sa2 sb2 hs2 a3 w3 a4 w4).mono fun e W' ⟨he, bel⟩ => ?_
  subst he
  exact ⟨_, rfl, _, _, _, [], _, [], hW', trodAll_mk1 (shut_bool Try.underlying4 _), (trodAll_cons_mk (Below.trod laidOut (by kernel_rfl) (of_decide_eq_true (by kernel_rfl)) k0 bel lt0) (trodAll_cons_mk (shut_int Try.underlying3 w1) (trodAll_cons_mk (Below.trod laidOut (by kernel_rfl) (of_decide_eq_true (by kernel_rfl)) k2 bel lt2) (trodAll_cons_mk (shut_int Try.underlying3 w3) (trodAll_cons_mk (shut_int Try.underlying22 w4) trodAll_mk0))))), rfl, bel.frame _, fun h => by cases h⟩

theorem over : Rows.voucherHoldsRow.holds Try.pinned (OpenSpec.ofChange Rows.voucherHoldsSpec) :=
  OpenClaim.holds_of_wide 18 Try.f18 rfl rfl rfl rfl rfl rfl rfl ⟨rfl, rfl, rfl, rfl, rfl⟩ rfl rfl rfl rfl rfl (by kernel_rfl) Try.func18 (by kernel_rfl)
    (of_decide_eq_true (by kernel_rfl)) (by unfold Func.isWrapper; first | (rw [if_pos (by decide +kernel)]; kernel_rfl) | (rw [if_neg (by decide +kernel)]; exact ⟨rfl, rfl⟩))
    (fun os started H enc _ => lifted os started H enc)

theorem proved : Rows.VoucherHoldsSaid := over
#print axioms proved
end Go.Proofs.Ythoklgdlnmccmaa.voucherHolds
