/- Marking, in one word; what stays. -/
import Derived.Test.YtmagigmcbegmiaaReachM
namespace Go.Proofs.Ytmagigmcbegmiaa
open Go.RowKit Go.Lib
set_option linter.unusedVariables false
def mkB (B : List Bool) (x : Nat) : List Bool := if bAt B x = true then B else B.set x true
def mkO (B : List Bool) (O : List Nat) (x : Nat) : List Nat := if bAt B x = true then O else O ++ [x]
section
variable {n : Nat} {st tl wt fr : List Int} {B : List Bool} {O : List Nat} {v i x u : Nat}
theorem mkB_len : (mkB B x).length = B.length := by unfold mkB; split <;> simp
theorem mkB_at (hx : x < B.length) : bAt (mkB B x) x = true := by
  unfold mkB
  split
  · assumption
  · rw [bAt_set hx]; simp
theorem mkB_mono (hx : x < B.length) (h : bAt B u = true) : bAt (mkB B x) u = true := by
  unfold mkB
  split
  · exact h
  · rw [bAt_set hx]; split; rfl; exact h
theorem mk_sum (hx : x < B.length) : (mkO B O x).length + unm (mkB B x) = O.length + unm B := by
  unfold mkO mkB
  split
  · rfl
  · rename_i h
    have := unm_set hx (by simpa using h)
    simp
    omega
theorem mk_less (hx : x < B.length) : unm (mkB B x) ≤ unm B := by
  unfold mkB
  split
  · exact Nat.le_refl _
  · rename_i h
    have := unm_set hx (by simpa using h)
    omega
theorem RS.reach (h : RS n st tl fr B O v i) (hx : x < n) (hr : Rch n st tl fr x) : RS n st tl fr (mkB B x) (mkO B O x) v i := by
  unfold mkB mkO
  split
  · exact h
  · exact h.mark hx hr
theorem mkO_sub (h : u ∈ O) : u ∈ mkO B O x := by
  unfold mkO; split
  · exact h
  · exact List.mem_append.2 (.inl h)
theorem unm_fls : unm (fls n) = n := by simp [unm, fls]
end
theorem reach_any (n x lo R Br Bo : Nat) (ban : Nat → Prop) (B : List Bool) (O : List Nat) (ov : Value) (w : World) (h : RM w lo R Br Bo ban n B O ov) (hx : x < n) (hB : B.length = n) (hn : n ≤ 1048576) (hO : O.length + unm B ≤ n) (hR : lo ≤ R) (hBo : lo ≤ Bo) (hRb : ¬ ban R) (hBb : ¬ ban Bo) (hbl : ∀ k, ban k → k < w.heap.size) (hlo : lo ≤ w.heap.size) :
    Calls Try.prog 50 #[.int .i64 x, .pointer (some ⟨Br, 0, none⟩), .pointer (some ⟨Bo, 0, none⟩)] w (RPost w lo R Br Bo ban n (mkB B x) (mkO B O x)) := by
  unfold mkB mkO
  by_cases hb : bAt B x = true
  · rw [if_pos hb, if_pos hb]
    exact reach_old n x lo R Br Bo ban B O ov w h hx hB hb
  · rw [if_neg hb, if_neg hb]
    exact reach_new n x lo R Br Bo ban B O ov w h hx hB (by simpa using hb) hn (by omega) hR hBo hRb hBb hbl hlo
theorem RM.reban {w : World} {lo R Br Bo n : Nat} {ban ban' : Nat → Prop} {B : List Bool} {O : List Nat} {ov : Value} (h : RM w lo R Br Bo ban n B O ov) (hb : ∀ g, g < w.heap.size → ¬ ban' g) : RM w lo R Br Bo ban' n B O ov :=
  ⟨h.br, h.ab, h.bo, h.ow, fun g e => by
    obtain ⟨h1, c, f, h2⟩ := own_type h.ow e
    exact hb g (lt_of_heap h2)⟩
/-- What stays: the graph's box, the function's, all that was there ahead. -/
structure RX (w x : World) (Bg Bc Br Bo n : Nat) (va vb vc : Value) : Prop where
  bg : x.heap[Bg]? = some (.cells #[.int .i64 n, va, vb, vc] 25 (0, 0))
  bc : x.heap[Bc]? = some (.cells #[.func (.func 50) #[] #[.pointer (some ⟨Br, 0, none⟩), .pointer (some ⟨Bo, 0, none⟩)]] 92 (0, 0))
  bel : Below w.heap.size w x
theorem RX.chg {w x x' : World} {Bg Bc Br Bo n lo : Nat} {ban : Nat → Prop} {va vb vc : Value} (h : RX w x Bg Bc Br Bo n va vb vc) (hc : Chg (Tn x lo ban) x x') (hlo : w.heap.size ≤ lo) (hs : lo ≤ x.heap.size) : RX w x' Bg Bc Br Bo n va vb vc := by
  refine ⟨hc.heap h.bg ?_, hc.heap h.bc ?_, Chg.below h.bel hc (fun i hi => Nat.le_trans hlo hi.2.1) h.bel.size⟩
  · rintro ⟨_, _, c, t, f, he, ht⟩
    rw [h.bg] at he
    simp only [Option.some.injEq, Obj.cells.injEq] at he
    obtain ⟨_, rfl, _⟩ := he
    revert ht; decide
  · rintro ⟨_, _, c, t, f, he, ht⟩
    rw [h.bc] at he
    simp only [Option.some.injEq, Obj.cells.injEq] at he
    obtain ⟨_, rfl, _⟩ := he
    revert ht; decide
theorem RX.below {w x x' : World} {Bg Bc Br Bo n : Nat} {va vb vc : Value} (h : RX w x Bg Bc Br Bo n va vb vc) (hb : Below x.heap.size x x') : RX w x' Bg Bc Br Bo n va vb vc :=
  ⟨(hb.block _ (lt_of_heap h.bg)).trans h.bg, (hb.block _ (lt_of_heap h.bc)).trans h.bc, below_on h.bel hb⟩
theorem RM.below {w w' : World} {lo R Br Bo n : Nat} {ban : Nat → Prop} {B : List Bool} {O : List Nat} {ov : Value} (h : RM w lo R Br Bo ban n B O ov) (hb : Below w.heap.size w w') : RM w' lo R Br Bo ban n B O ov :=
  ⟨(hb.block _ (lt_of_heap h.br)).trans h.br, (hb.block _ (lt_of_heap h.ab)).trans h.ab, (hb.block _ (lt_of_heap h.bo)).trans h.bo, own_keepB h.ow (fun g hg => by
    obtain ⟨_, c, f, h2⟩ := own_type h.ow hg
    exact hb.block _ (lt_of_heap h2)), h.bn⟩
end Go.Proofs.Ytmagigmcbegmiaa
