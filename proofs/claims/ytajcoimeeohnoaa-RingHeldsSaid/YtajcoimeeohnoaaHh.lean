/- ring's Held 15 in all its arms, with handles at rest. -/
import Derived.Test.YtajcoimeeohnoaaTo
import Derived.Test.YtajcoimeeohnoaaCo
import Derived.Test.YtajcoimeeohnoaaCk
import Derived.Test.YtajcoimeeohnoaaFi
import Derived.Test.YtajcoimeeohnoaaSoS
import Derived.Deep.RegionHeld3
namespace Go.Proofs.Ytajcoimeeohnoaa
open Go.RowKit Go.Lib
set_option linter.unusedVariables false
set_option linter.unusedSimpArgs false
/-- 'append(s, nil...)' in a region that goes in the text's order. -/
theorem wpList_appendNil {P : Program} {w : World} {ops : Array Oper} {rest : List Oper} {o : Oper} {a : Act} {Q : Exit → Act → World → Prop} (hgd : o.guard = none) (s x : Operand) (t : TypeId)
    (hop : o.op = .call { callee := .builtin .append, args := #[s, x], argTypes := #[t, t] })
    (e : TypeId) (i : TypeInfo) (ht : P.underlying t = some (.slice e)) (hi : P.info? e = some i) (so : Option Addr) (n c : Nat) (hle : n ≤ c) (hs : a.eval s = .slice so n c) (hx : a.eval x = .slice none 0 0)
    (h : wpList P ops Q rest (a.put o.dst (.slice so n c)) w) : wpList P ops Q (o :: rest) a w := by
  refine wpList_plain hgd fun K hK => ?_
  have hrun := run_append_nothing w t t o.type e i ht hi so n c hle _ (Src.ofNil w ht 0)
  unfold Oper.wp
  simp [execOp, hop, resolve, invoke, builtin, hs, hx, hrun, Result.andThen]
  exact hK _ _ h
set_option maxRecDepth 100000 in
set_option maxHeartbeats 4000000 in
theorem held_check (b C : Int) (E : Int) (hE : E ≠ 0) (ao ho : Option Addr) (n c m d : Nat) (w : World) (hc : ∀ W, Calls Try.prog 31 #[qAgg b C, .slice ao n c] W fun e w' => e = .returned (.int .i64 E) ∧ Below W.heap.size W w') :
    Calls Try.prog 15 #[qAgg b C, .slice ao n c, .slice ho m d] w fun e w' => e = .returned (.tuple #[.slice none 0 0, .int .i64 E]) ∧ Below w.heap.size w w' := by
  have HC := hide hc
  have HQ := hide (qm_two w 75 (.cells #[.int .i64 b, .int .i64 C] 47) b C)
  have hEb : (E == 0) = false := by simpa using hE
  clear hc
  unfold qAgg at HC ⊢
  go_enter Try.func15, Try.ntmps15
  go_wp2_with (go_at_call 31; refine (HC.out _).mono ?_; rintro e w2 ⟨rfl, hb2⟩)
  go_ret2
  exact ⟨rfl, below_on HQ.out.bel hb2⟩
set_option maxRecDepth 100000 in
set_option maxHeartbeats 4000000 in
theorem held_other (b C : Int) (ao : Option Addr) (n c : Nat) (hv : Value) (hs : List Hn) (w : World) (hc : ∀ W, Calls Try.prog 31 #[qAgg b C, .slice ao n c] W fun e w' => e = .returned (.int .i64 0) ∧ Below W.heap.size W w')
    (hh : HsAt w hv hs) (hq : (List.range hs.length).any (fun i => hOth b C (hAt hs i)) = true) :
    Calls Try.prog 15 #[qAgg b C, .slice ao n c, hv] w fun e w' => e = .returned (.tuple #[.slice none 0 0, .int .i64 60]) ∧ Below w.heap.size w w' := by
  have HC := hide hc
  have HQ := hide (qm_two w 75 (.cells #[.int .i64 b, .int .i64 C] 47) b C)
  have HF := hide (fun W (hW : QM w (w.heap.size + 1) 75 b C W) => contains_any hv hs (w.heap.size + 1) b C W (hh.below hW.bel) hW.two.1 hW.two.2)
  rw [hq] at HF
  obtain ⟨ho, hd, rfl, _⟩ := hh
  clear hc hq
  unfold qAgg at HC ⊢
  go_enter Try.func15, Try.ntmps15
  go_wp2_with (first
    | (go_at_call 31; refine (HC.out _).mono ?_; rintro e w2 ⟨rfl, hb2⟩; replace HQ := hide (HQ.out.below hb2); clear hb2)
    | (go_at_call 32; refine (HF.out _ HQ.out).mono ?_; rintro e w3 ⟨rfl, hb3⟩; replace HQ := hide (HQ.out.below hb3); clear hb3))
  go_ret2
  exact ⟨rfl, HQ.out.bel⟩
set_option maxRecDepth 100000 in
set_option maxHeartbeats 8000000 in
theorem held_good (b C : Nat) (xs : List Int) (v hv : Value) (hs : List Hn) (w : World) (h : RowAt .u64 w v xs) (hw : Wds xs) (hc1 : 2 ≤ C) (hc2 : C ≤ 65536) (hbm : b + (2 + 3 * C) ≤ 16777216) (hlen : b + 2 + 3 * C ≤ xs.length) (h63 : (xs.length : Int) ≤ 9223372036854775807)
    (hh : HsAt w hv hs) (hq : (List.range hs.length).any (fun i => hOth b C (hAt hs i)) = false) :
    Calls Try.prog 15 #[qAgg b C, v, hv] w fun e w' => ∃ u, e = .returned (.tuple #[u, .int .i64 0]) ∧ TOwn w' w.heap.size u (srt (fil b C xs C)) ∧ Below w.heap.size w w' := by
  obtain ⟨ao, c, rfl⟩ := h.shape
  have hck := fun W => checkCells_ok b C ao xs.length c W ⟨⟨by omega, by omega⟩, by omega, by omega⟩ h63
  simp only [if_neg (show ¬ ((xs.length : Int) < (b : Int) + (2 + 3 * (C : Int))) by omega)] at hck
  have HC := hide hck
  have HQ := hide (qm_two w 75 (.cells #[.int .i64 (b : Int), .int .i64 (C : Int)] 47) b C)
  have HF := hide (fun W (hW : QM w (w.heap.size + 1) 75 b C W) => contains_any hv hs (w.heap.size + 1) b C W (hh.below hW.bel) hW.two.1 hW.two.2)
  rw [hq] at HF
  have HFI := hide (fun W (hW : Below w.heap.size w W) => filled_any b C xs _ W (h.below hW) hw hc1 hc2 hbm hlen)
  have HLE := hide (fil_length b C xs C)
  have HNO : Hid (∀ i, i < hs.length → hOth b C (hAt hs i) = false) := hide (fun i hi => by
    have := List.any_eq_false.1 hq i (List.mem_range.2 hi)
    simpa using this)
  have HHS := hide hh
  obtain ⟨ho, hd, rfl, m1, m2, _⟩ := hh
  obtain ⟨i0, hi, hz0, hz1, hz2⟩ := info_parts Try.info34
  clear hck hq h hw
  obtain ⟨n, hn⟩ : ∃ n, n = xs.length := ⟨_, rfl⟩
  rw [← hn] at HC HFI ⊢
  clear hn hlen h63
  obtain ⟨M, hM⟩ : ∃ M, M = hs.length := ⟨_, rfl⟩
  rw [← hM] at HHS HF m1 HNO ⊢
  have HM := hide hM
  clear hM
  have n1 : (M : Int) ≤ 9223372036854775807 := by omega
  unfold qAgg at HC HFI ⊢
  go_enter Try.func15, Try.ntmps15
  go_wp2_with (first
    | (go_at_call 31; refine (HC.out _).mono ?_; rintro e w2 ⟨rfl, hb2⟩; replace HQ := hide (HQ.out.below hb2); clear hb2)
    | (go_at_call 32; refine (HF.out _ HQ.out).mono ?_; rintro e w3 ⟨rfl, hb3⟩; replace HQ := hide (HQ.out.below hb3); clear hb3; obtain ⟨s0, s1⟩ := HQ.out.two)
    | (go_at_call 34; refine (HFI.out _ HQ.out.bel).mono ?_; rintro e w4 ⟨u4, rfl, ht4, hb4⟩; have HO := hide ht4; have HB4 := hide (below_on HQ.out.bel hb4); have HS := hide HQ.out.bel.size; have HW3 := hide hb4.size; obtain ⟨a4, c4, rfl, l4, _⟩ := ht4.tat.shape; clear ht4 hb4 s0 s1))
  have HSO := hide (sort_any _ _ _ w4 HO.out HW3.out (by have := HLE.out; omega))
  obtain ⟨F, hF⟩ : ∃ F, F = (fil b C xs C).length := ⟨_, rfl⟩
  rw [← hF] at HSO HO l4 ⊢
  clear hF
  have HPA : Hid (∀ i, i < M → ∃ g o H, ho = some ⟨g, o, none⟩ ∧ w4.cell? ⟨g, o + i, none⟩ = some (.pointer (some ⟨H, 0, none⟩)) ∧ w4.cell? ⟨H, 2, none⟩ = some (.int .i64 0)) := hide (fun i hi => by
    obtain ⟨ao', c', he, _, _, h3⟩ := HHS.out.below HB4.out
    simp only [Value.slice.injEq] at he
    obtain ⟨rfl, _, _⟩ := he
    obtain ⟨g, o, e, p, q⟩ := h3 i (by have := HM.out; omega)
    have hno := HNO.out i hi
    match hx : hAt hs i, p, q, hno with
    | none, _, _, hno => simp [hOth] at hno
    | some (H, b', C'), p, q, _ => exact ⟨g, o, H, e, p, q.c2⟩)
  clear m1 m2 HFI HF HC HNO
  go_loopw [10, 28] (fun u t wr => ∃ i : Nat, i ≤ M ∧ t = .int .i64 i ∧ u = .slice a4 F c4 ∧ wr = w4) (fun _ t _ => M - (RowKit.intOf t).toNat)
  case atStart => exact ⟨0, by omega, rfl, rfl, rfl⟩
  case round =>
    obtain ⟨i, hiM, rfl, rfl, rfl⟩ := hrel
    by_cases hlt : i < M
    · obtain ⟨g, o, H, rfl, p, q⟩ := HPA.out i hlt
      have HI := hide (inHand_idle H (.slice ao n c) wr q)
      have i1 : (i : Int) < (M : Int) := by omega
      have hwr : IntKind.i64.wrap ((i : Int) + 1) = (i : Int) + 1 := IntWalk.i64_in _ (by omega)
      clear q
      go_wp2_with (first
        | (go_at_call 35; refine HI.out.mono ?_; rintro e w5 ⟨rfl, rfl⟩)
        | (at_builtin; refine wpList_appendNil rfl (.tmp 32) (.tmp 35) 24 rfl 34 i0 Try.underlying24 hi a4 F c4 l4 rfl rfl ?_))
      go_roundw
      case rel => exact ⟨i + 1, by omega, by simp, by simp⟩
      case measure => simp [RowKit.intOf]; omega
    · obtain rfl : i = M := by omega
      go_wp2_with (go_at_call 36; refine HSO.out.mono ?_; rintro e w5 ⟨rfl, ht5, hb5⟩)
      go_ret2
      exact ⟨_, rfl, own_lower' ht5 HS.out, HB4.out.trans (hb5.mono HS.out)⟩
end Go.Proofs.Ytajcoimeeohnoaa
