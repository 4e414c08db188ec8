/- ArenaFresh: the frame after the kit's template (with the form's own reach), the walk by hand. -/
import Derived.Test.YtfgchkkljlbmcaaFc
import Derived.Test.YtfgchkkljlbmcaaOpen
import Derived.SizedLaws
import Derived.WalkKit
import Derived.ProofKit
import Derived.OpenShut
import Derived.ShutString
import Derived.ChangeOld
import Derived.Below
namespace Go.Proofs.Ytfgchkkljlbmcaa.arenaFresh
open Go.ChangeShapes Go.WideShapes Go.ChangeAt Go.RowKit
open Go.ChangeMaps (open_string shut_string)
set_option linter.unusedVariables false

theorem own : ownKnob Try.prog.godebug = none := by kernel_rfl
theorem laidOut : laidOutB Try.prog = true := by kernel_rfl

theorem walk (n : Int) (_wn : (Lit.int .i64 n).wf = true) (ao : Option Addr) (len cap : Nat) (ops : Nat → Opr) {W : World} (hl : len ≤ cap) (hsc : Script W ao len ops) (_hok : ∀ k, k < len → (ops k).Ok) (hs : cap * 72 ≤ 140737488351232) :
    Calls Try.prog 10 #[.int .i64 n, .slice ao len cap] W fun e W' => e = .returned (.bool true) ∧ Below W.heap.size W W' :=
  fresh_law n ao len cap ops W (by omega) hl hsc

set_option maxRecDepth 100000 in
theorem lifted (os : Os) (started : os.Started) (H : Type) (enc : TypeId × Value → H) :
    ReturnsInHanded {} Try.checked os 10 .any (Rows.arenaFreshSpec.pre6 enc Try.prog Try.f10 Rows.arenaFreshRow.domain false) (Rows.arenaFreshSpec.post enc Try.prog Try.f10 false true false false) := by
  refine returnsInHanded_of_change_sized (C := Try.checked) own started (by kernel_rfl) Try.func10
    (ChangeSpec.witness6 (enc := enc) (C := Try.checked) false ⟨#[], #[.int .i64 0, .slice none 0 0], []⟩ 8 (by kernel_rfl) (by kernel_rfl) (by kernel_rfl) (by kernel_rfl)) ?_
  intro W base args ds gs before hval0 hW hcnd hsz0 _
  have hval : ∀ (j : Nat) t v, Try.f10.params[j]? = some t → args[j]? = some v → Value.okWide Try.prog W .any base t v := hval0
  have hW' := hW
  obtain ⟨p, q, hA0, hV, rfl, hfz, hnd⟩ := hW
  have hA : DataW.TrodAll enc Try.prog W 0 (fun _ => true) true Try.f10.params.toList args.toList ds p := hA0
  have hsz : (DataW.weightsEach Try.prog (Try.f10.params.toList ++ Rows.arenaFreshSpec.plain.varTypes Try.prog) (ds ++ gs)).all (· ≤ reachBytes) = true := hsz0
  rw [Try.params10] at hA hval hsz
  obtain ⟨v0, vs0, d0, ds0, p0, q0, hargs, rfl, rfl, h0, r0⟩ := trodAll_cons hA
  obtain ⟨v1, vs1, d1, ds1, p1, q1, rfl, rfl, rfl, h1, r1⟩ := trodAll_cons r0
  obtain ⟨rfl, rfl, rfl⟩ := trodAll_nil r1
  obtain rfl : args = #[v0, v1] := by cases args; simp_all
  obtain ⟨rfl, rfl⟩ := trodVars_none hV
  obtain ⟨a0, rfl, rfl, rfl, w0⟩ := open_int Try.underlying3 (hval 0 3 v0 rfl rfl) h0
  have k1 := h1
  have lt1 : ∀ x ∈ p1, x.block < W.heap.size := by obtain ⟨m, hm⟩ := k1; exact DataW.trod_lt m _ _ _ hm
  obtain ⟨ao1, len1, cap1, ops1, rfl, hl1, hm1, sc1, ok1, hd1⟩ := open_script (hval 1 22 v1 rfl rfl) h1
  have hs1 : cap1 * 72 ≤ 140737488351232 := by
    rcases hd1 with ⟨_, h0⟩ | ⟨D, hD⟩
    · rw [h0]; decide
    · have hs := sized_slice hsz (j := 1) (t := 22) (e := 47) (elems := (List.range len1).map D) (spare := (List.range (cap1 - len1)).map fun j => D (len1 + j)) rfl (by rw [hD]; rfl) Try.underlying22
      rw [show Try.prog.bytesOf 47 = 72 from by kernel_rfl] at hs
      simp only [List.length_map, List.length_range, reachBytes] at hs
      omega
  clear hA0 hval0
  refine (walk a0 w0 ao1 len1 cap1 ops1 hl1 sc1 ok1 hs1).mono fun e W' ⟨he, bel⟩ => ?_
  subst he
  exact ⟨_, rfl, _, _, _, [], _, [], hW', trodAll_mk1 (shut_bool Try.underlying4 _), (trodAll_cons_mk (shut_int Try.underlying3 w0) (trodAll_cons_mk (Below.trod laidOut (by kernel_rfl) (of_decide_eq_true (by kernel_rfl)) k1 bel lt1) trodAll_mk0)), rfl, bel.frame _, fun h => by cases h⟩

theorem over : Rows.arenaFreshRow.holds Try.pinned (OpenSpec.ofChange Rows.arenaFreshSpec) :=
  OpenClaim.holds_of_wide 10 Try.f10 rfl rfl rfl rfl rfl rfl rfl ⟨rfl, rfl, rfl, rfl, rfl⟩ rfl rfl rfl rfl rfl (by kernel_rfl) Try.func10 (by kernel_rfl)
    (of_decide_eq_true (by kernel_rfl)) (by unfold Func.isWrapper; first | (rw [if_pos (by decide +kernel)]; kernel_rfl) | (rw [if_neg (by decide +kernel)]; exact ⟨rfl, rfl⟩))
    (fun os started H enc _ => lifted os started H enc)

theorem proved : Rows.ArenaFreshSaid := over
#print axioms proved
end Go.Proofs.Ytfgchkkljlbmcaa.arenaFresh
