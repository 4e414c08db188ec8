/- ring's Held 15 in all its arms, with handles at rest. -/
import Derived.Test.YtgjdjdgondpjeaaGreatTo
import Derived.Test.YtgjdjdgondpjeaaGreatCo
import Derived.Test.YtgjdjdgondpjeaaGreatCk
import Derived.Test.YtgjdjdgondpjeaaGreatFi
import Derived.Test.YtgjdjdgondpjeaaGreatSoS
import Derived.Deep.RegionHeld3
namespace Go.Proofs.YtgjdjdgondpjeaaGreat
open Go.RowKit Go.Lib
set_option linter.unusedVariables false
set_option linter.unusedSimpArgs false
/-- 'append(s, nil...)' in a region that goes in the text's order. -/
theorem wpList_appendNil {P : Program} {w : World} {ops : Array Oper} {rest : List Oper} {o : Oper} {a : Act} {Q : Exit → Act → World → Prop} (hgd : o.guard = none) (s x : Operand) (t : TypeId)
    (hop : o.op = .call { callee := .builtin .append, args := #[s, x], argTypes := #[t, t] })
    (e : TypeId) (i : TypeInfo) (ht : P.underlying t = some (.slice e)) (hi : P.info? e = some i) (so : Option Addr) (n c : Nat) (hle : n ≤ c) (hs : a.eval s = .slice so n c) (hx : a.eval x = .slice none 0 0)
    (h : wpList P ops Q rest (a.put o.dst (.slice so n c)) w) : wpList P ops Q (o :: rest) a w := by
  refine wpList_plain hgd fun K hK => ?_
  have hrun := run_append_nothing w t t o.type e i ht hi so n c hle _ (Src.ofNil w ht 0)
  unfold Oper.wp
  simp [execOp, hop, resolve, invoke, builtin, hs, hx, hrun, Result.andThen]
  exact hK _ _ h
set_option maxRecDepth 100000 in
set_option maxHeartbeats 4000000 in
theorem held_check (b C : Int) (E : Int) (hE : E ≠ 0) (ao ho : Option Addr) (n c m d : Nat) (w : World) (hc : ∀ W, Calls Tryz.prog 57 #[qAgg b C, .slice ao n c] W fun e w' => e = .returned (.int .i64 E) ∧ Below W.heap.size W w') :
    Calls Tryz.prog 20 #[qAgg b C, .slice ao n c, .slice ho m d] w fun e w' => e = .returned (.tuple #[.slice none 0 0, .int .i64 E]) ∧ Below w.heap.size w w' := by
  have HC := hide hc
  have HQ := hide (qm_two w 121 (.cells #[.int .i64 b, .int .i64 C] 23) b C)
  have hEb : (E == 0) = false := by simpa using hE
  clear hc
  unfold qAgg at HC ⊢
  go_enter Tryz.func20, Tryz.ntmps20
  go_wp2_with (go_at_call 57; refine (HC.out _).mono ?_; rintro e w2 ⟨rfl, hb2⟩)
  go_ret2
  exact ⟨rfl, below_on HQ.out.bel hb2⟩
set_option maxRecDepth 100000 in
set_option maxHeartbeats 4000000 in
theorem held_other (b C : Int) (ao : Option Addr) (n c : Nat) (hv : Value) (hs : List Hn) (w : World) (hc : ∀ W, Calls Tryz.prog 57 #[qAgg b C, .slice ao n c] W fun e w' => e = .returned (.int .i64 0) ∧ Below W.heap.size W w')
    (hh : HsAt w hv hs) (hq : (List.range hs.length).any (fun i => hOth b C (hAt hs i)) = true) :
    Calls Tryz.prog 20 #[qAgg b C, .slice ao n c, hv] w fun e w' => e = .returned (.tuple #[.slice none 0 0, .int .i64 60]) ∧ Below w.heap.size w w' := by
  have HC := hide hc
  have HQ := hide (qm_two w 121 (.cells #[.int .i64 b, .int .i64 C] 23) b C)
  have HF := hide (fun W (hW : QM w (w.heap.size + 1) 121 b C W) => contains_any hv hs (w.heap.size + 1) b C W (hh.below hW.bel) hW.two.1 hW.two.2)
  rw [hq] at HF
  obtain ⟨ho, hd, rfl, _⟩ := hh
  clear hc hq
  unfold qAgg at HC ⊢
  go_enter Tryz.func20, Tryz.ntmps20
  go_wp2_with (first
    | (go_at_call 57; refine (HC.out _).mono ?_; rintro e w2 ⟨rfl, hb2⟩; replace HQ := hide (HQ.out.below hb2); clear hb2)
    | (go_at_call 58; refine (HF.out _ HQ.out).mono ?_; rintro e w3 ⟨rfl, hb3⟩; replace HQ := hide (HQ.out.below hb3); clear hb3))
  go_ret2
  exact ⟨rfl, HQ.out.bel⟩
end Go.Proofs.YtgjdjdgondpjeaaGreat
