/- RingFills: the walk. -/
import Derived.Test.YtgjdjdgondpjeaaGreatR4
import Derived.Test.YtgjdjdgondpjeaaGreatT2
namespace Go.Proofs.YtgjdjdgondpjeaaGreat
open Go.RowKit Go.Lib
set_option linter.unusedVariables false
/-- 'append([]Task{}, xs...)' as one step of a region that draws. -/
theorem step_freshT {P : Program} {w : World} {ops : Array Oper} {o : Oper} {a : Act} {K : Act → World → Prop} {Q : Exit → Act → World → Prop} {E : Prop} (hgd : o.guard = none) (s x : Operand) (t : TypeId)
    (hop : o.op = .call { callee := .builtin .append, args := #[s, x], argTypes := #[t, t] })
    (e : TypeId) (i : TypeInfo) (z : Value) (ht : P.underlying t = some (.slice e)) (hi : P.info? e = some i) (hz : i.zero = some z)
    (hsize : i.size = 2) (hby : i.bytes = 16) (hzs : z.cells.size = 2) (B : Nat) (fr : Nat) (hB : w.ownsRow fr e 2 (.slice (some ⟨B, 0, none⟩) 0 0) 0 []) (hfr : fr ≤ w.heap.size) (xv : Value) (xs : List Tk) (hs : a.eval s = .slice (some ⟨B, 0, none⟩) 0 0) (hx : a.eval x = xv) (hrow : TAt w xv xs) (hb : xs.length * 16 ≤ 140737488355328) (h63 : xs.length ≤ maxLen)
    (h : ∀ v' w', w'.ownsRow fr e 2 v' xs.length (tCells xs) → Below w.heap.size w w' → K (a.put o.dst v') w') :
    if Region.wanted o (yielded ops a.tmps) = true then Oper.wp P o a w K Q else E := by
  have hw : Region.wanted o (yielded ops a.tmps) = true := by simp [Region.wanted, hgd]
  rw [if_pos hw]
  obtain ⟨xo, c, rfl, h1, h2, h4⟩ := hrow
  rcases Nat.eq_zero_or_pos xs.length with h0 | h0
  · obtain rfl : xs = [] := List.eq_nil_of_length_eq_zero h0
    have hsrc : Src P i.size t (.slice xo 0 c) 0 [] w := by
      cases xo with
      | none => exact Src.ofNil w ht c
      | some a => exact Src.ofSlice w ht a 0 c [] (by simp) (fun j u h => by simp at h) (by simp)
    have hrun := run_append_nothing w t t o.type e i ht hi (some ⟨B, 0, none⟩) 0 0 (Nat.le_refl _) _ hsrc
    have hx' : a.eval x = .slice xo 0 c := hx
    unfold Oper.wp
    simp [execOp, hop, resolve, invoke, builtin, hs, hx', hrun, Result.andThen]
    exact h _ _ (by simpa [tCells] using hB) (Below.refl _ _)
  · obtain ⟨g, q, rfl, _, _⟩ := h4 0 h0
    have h5 : ∀ i, i < xs.length → w.cell? ⟨g, q + i * 2, none⟩ = some (.int .u64 (tAt xs i).1) ∧ w.cell? ⟨g, q + i * 2 + 1, none⟩ = some (.int .u64 (tAt xs i).2) := by
      intro i hi
      obtain ⟨g', q', he, p1, p2⟩ := h4 i hi
      simp only [Option.some.injEq, Addr.mk.injEq] at he
      obtain ⟨rfl, rfl, _⟩ := he
      exact ⟨p1, p2⟩
    obtain ⟨v', w', hrun, hown, hgrow⟩ := run_append_arg_grows (P := P) (w := w) t o.type e i z 2 16 ht hi hz hsize hby hzs (by decide) ⟨B, 0, none⟩ 0 0 [] rfl (fun j u h => by simp at h) ⟨g, q, none⟩ xs.length c (tCells xs) (by rw [tCells_length]) (tCells_at_all h5) (by omega) (by omega) (by rw [Nat.zero_add]; exact hb)
    simp only [Nat.zero_add, List.nil_append] at hown
    have hbel : Below w.heap.size w w' := (Below.refl _ _).grown hgrow (Nat.le_refl _) (by intro j hj; cases hj)
    unfold Oper.wp
    simp [execOp, hop, resolve, invoke, builtin, hs, hx, hrun, Result.andThen]
    refine h _ _ ?_ hbel
    obtain ⟨hl, hh⟩ := hown
    exact ⟨hl, hh.imp id fun ⟨g, cap, cur, he, hg, r⟩ => ⟨g, cap, cur, he, Nat.le_trans hfr hg, r⟩⟩
theorem TAt.of_owns {w : World} {base : Nat} {v : Value} {l : List Tk} (h : w.ownsRow base 42 2 v l.length (tCells l)) : TAt w v l := by
  obtain ⟨h1, h2⟩ := h
  rcases h2 with ⟨rfl, hn⟩ | ⟨g, cap, cur, rfl, hg, hh, hnc, hcm, hcur, htake⟩
  · obtain rfl : l = [] := List.eq_nil_of_length_eq_zero hn
    exact TAt.nil w
  · refine ⟨_, _, rfl, hnc, hcm, fun i hi => ⟨g, 0, rfl, ?_⟩⟩
    obtain ⟨p, q⟩ := tCells_at l i hi
    rw [← htake] at p q
    rw [List.getElem?_take_of_lt (by omega)] at p q
    simp only [World.cell?, hh, Nat.zero_add]
    exact ⟨by simpa using p, by simpa using q⟩
theorem Tok.take {l : List Tk} (h : Tok l) (k : Nat) : Tok (l.take k) := by
  intro i hi
  rw [List.length_take] at hi
  have e2 : tAt (l.take k) i = tAt l i := by unfold tAt; rw [List.getElem?_take_of_lt (by omega)]
  rw [e2]
  exact h i (by omega)
/-- A list that ring.Fill made, in a block from S on and below T. -/
def LA (S T : Nat) (X : World) (ao : Option Addr) (n : Nat) (A : List Int) : Prop :=
  (ao = none ∧ n = 0 ∧ A = []) ∨ (0 < n ∧ A.length = n ∧ ∃ g, S ≤ g ∧ g < T ∧ ao = some ⟨g, 0, none⟩ ∧ ArrU X g A)
theorem LA.below {S T : Nat} {X Y : World} {ao : Option Addr} {n : Nat} {A : List Int} (h : LA S T X ao n A) (hb : Below X.heap.size X Y) : LA S T Y ao n A := by
  rcases h with h | ⟨h1, h2, g, h3, h4, h5, h6⟩
  · exact .inl h
  · exact .inr ⟨h1, h2, g, h3, h4, h5, h6.below hb (lt_of_heap h6)⟩
theorem LA.row {S T : Nat} {X : World} {ao : Option Addr} {n : Nat} {A : List Int} (h : LA S T X ao n A) (hn : n ≤ 200000) : RowAt .u64 X (.slice ao n n) A := by
  rcases h with ⟨rfl, rfl, rfl⟩ | ⟨h1, h2, g, h3, h4, rfl, h6⟩
  · exact RowAt.nil _ _
  · exact h6.row h2 (by omega)
theorem ring_gives {w w' : World} {b C : Int} {l : List Tk} {e : Ending} (h : RingPost w (errR b C l) (ansR b C l) e w') :
    ∃ ao n, e = .returned (.tuple #[.slice ao n n, .int .i64 (errR b C l)]) ∧ n ≤ 200000 ∧ LA w.heap.size w'.heap.size w' ao n (ansR b C l) ∧ Below w.heap.size w w' := by
  obtain ⟨hb, ⟨h1, h2, rfl⟩ | ⟨h1, g, h2, rfl, h4⟩⟩ := h
  · exact ⟨none, 0, rfl, by omega, .inl ⟨rfl, rfl, h2⟩, hb⟩
  · have hok : OkR b C := by
      unfold errR at h1
      by_cases hk : OkR b C
      · exact hk
      · rw [if_neg hk] at h1; omega
    have hl : (ansR b C l).length = (2 + 3 * C).toNat := by unfold ansR; rw [if_pos h1, tab_length]
    obtain ⟨⟨a1, a2⟩, _⟩ := hok
    exact ⟨_, _, rfl, by omega, .inr ⟨by omega, rfl, g, h2, lt_of_heap h4, rfl, h4⟩, hb⟩
def blk (ao : Option Addr) : Nat := match ao with | some a => a.block | none => 0
theorem LA.lst {S T G : Nat} {X : World} {ao : Option Addr} {n : Nat} {A : List Int} (h : LA S T X ao n A) (hG : T ≤ G) (mk : Int) : Lst X G (.slice ao n n) n (blk ao) mk 0 := by
  rcases h with ⟨rfl, rfl, _⟩ | ⟨h1, h2, g, h3, h4, rfl, h6⟩
  · exact .inl ⟨rfl, rfl⟩
  · refine .inr ⟨rfl, h1, ?_, A, h6, h2, fun t ht => absurd ht (Nat.not_lt_zero _)⟩
    show G ≠ g
    omega
theorem LA.blk {S T : Nat} {X : World} {ao : Option Addr} {n : Nat} {A : List Int} (h : LA S T X ao n A) (hn : 0 < n) : S ≤ blk ao ∧ blk ao < T := by
  rcases h with ⟨rfl, rfl, _⟩ | ⟨h1, h2, g, h3, h4, rfl, h6⟩
  · omega
  · exact ⟨h3, h4⟩
def four (α : Type) (a b c d : α) : Nat → α := fun i => if i = 0 then a else if i = 1 then b else if i = 2 then c else d
theorem ow_made {S1 S2 S3 S4 S5 : Nat} {X : World} {a1 a2 a3 a4 : Option Addr} {n1 n2 n3 n4 : Nat} {A1 A2 A3 A4 : List Int} (h1 : LA S1 S2 X a1 n1 A1) (h2 : LA S2 S3 X a2 n2 A2) (h3 : LA S3 S4 X a3 n3 A3) (h4 : LA S4 S5 X a4 n4 A4)
    (e2 : S2 ≤ S3) (e3 : S3 ≤ S4) (e4 : S4 ≤ S5) (e5 : S5 ≤ X.heap.size) (b1 : n1 ≤ 200000) (b2 : n2 ≤ 200000) (b3 : n3 ≤ 200000) (b4 : n4 ≤ 200000) :
    OW X.heap.size (four _ (.slice a1 n1 n1) (.slice a2 n2 n2) (.slice a3 n3 n3) (.slice a4 n4 n4)) (four _ n1 n2 n3 n4) (four _ (blk a1) (blk a2) (blk a3) (blk a4)) (fun _ => 0) (X.alloc (.cells #[.slice a1 n1 n1, .slice a2 n2 n2, .slice a3 n3 n3, .slice a4 n4 n4] 47)) := by
  have hh : (X.alloc (.cells #[.slice a1 n1 n1, .slice a2 n2 n2, .slice a3 n3 n3, .slice a4 n4 n4] 47)).heap[X.heap.size]? = some (.cells #[.slice a1 n1 n1, .slice a2 n2 n2, .slice a3 n3 n3, .slice a4 n4 n4] 47 (0, 0)) := heap_new _ _
  have hb : Below X.heap.size X (X.alloc (.cells #[.slice a1 n1 n1, .slice a2 n2 n2, .slice a3 n3 n3, .slice a4 n4 n4] 47)) := below_alloc (Below.refl _ _) _
  refine ⟨fun i hi => ?_, fun i hi => ?_, fun i j hi hj hij p q => ?_, fun i hi => ?_⟩
  · match i, hi with
    | 0, _ => exact cell_of hh rfl
    | 1, _ => exact cell_of hh rfl
    | 2, _ => exact cell_of hh rfl
    | 3, _ => exact cell_of hh rfl
  · match i, hi with
    | 0, _ => exact (h1.below hb).lst (by omega) _
    | 1, _ => exact (h2.below hb).lst (by omega) _
    | 2, _ => exact (h3.below hb).lst (by omega) _
    | 3, _ => exact (h4.below hb).lst (by omega) _
  · have k1 : 0 < n1 → S1 ≤ blk a1 ∧ blk a1 < S2 := h1.blk
    have k2 : 0 < n2 → S2 ≤ blk a2 ∧ blk a2 < S3 := h2.blk
    have k3 : 0 < n3 → S3 ≤ blk a3 ∧ blk a3 < S4 := h3.blk
    have k4 : 0 < n4 → S4 ≤ blk a4 ∧ blk a4 < S5 := h4.blk
    match i, j, hi, hj with
    | 0, 0, _, _ => omega
    | 1, 1, _, _ => omega
    | 2, 2, _, _ => omega
    | 3, 3, _, _ => omega
    | 0, 1, _, _ => have := k1 p; have := k2 q; show blk a1 ≠ blk a2; omega
    | 0, 2, _, _ => have := k1 p; have := k3 q; show blk a1 ≠ blk a3; omega
    | 0, 3, _, _ => have := k1 p; have := k4 q; show blk a1 ≠ blk a4; omega
    | 1, 0, _, _ => have := k2 p; have := k1 q; show blk a2 ≠ blk a1; omega
    | 1, 2, _, _ => have := k2 p; have := k3 q; show blk a2 ≠ blk a3; omega
    | 1, 3, _, _ => have := k2 p; have := k4 q; show blk a2 ≠ blk a4; omega
    | 2, 0, _, _ => have := k3 p; have := k1 q; show blk a3 ≠ blk a1; omega
    | 2, 1, _, _ => have := k3 p; have := k2 q; show blk a3 ≠ blk a2; omega
    | 2, 3, _, _ => have := k3 p; have := k4 q; show blk a3 ≠ blk a4; omega
    | 3, 0, _, _ => have := k4 p; have := k1 q; show blk a4 ≠ blk a1; omega
    | 3, 1, _, _ => have := k4 p; have := k2 q; show blk a4 ≠ blk a2; omega
    | 3, 2, _, _ => have := k4 p; have := k3 q; show blk a4 ≠ blk a3; omega
  · match i, hi with
    | 0, _ => exact b1
    | 1, _ => exact b2
    | 2, _ => exact b3
    | 3, _ => exact b4
theorem own4_low {S1 S2 S3 S4 S5 : Nat} {X : World} {a1 a2 a3 a4 : Option Addr} {n1 n2 n3 n4 : Nat} {A1 A2 A3 A4 : List Int} (h1 : LA S1 S2 X a1 n1 A1) (h2 : LA S2 S3 X a2 n2 A2) (h3 : LA S3 S4 X a3 n3 A3) (h4 : LA S4 S5 X a4 n4 A4)
    (e1 : S1 ≤ S2) (e2 : S2 ≤ S3) (e3 : S3 ≤ S4) (k : Nat) (hk : Own4 (four _ n1 n2 n3 n4) (four _ (blk a1) (blk a2) (blk a3) (blk a4)) k) : S1 ≤ k := by
  obtain ⟨i, hi, hp, rfl⟩ := hk
  match i, hi with
  | 0, _ => exact (h1.blk hp).1
  | 1, _ => have := (h2.blk hp).1; show S1 ≤ blk a2; omega
  | 2, _ => have := (h3.blk hp).1; show S1 ≤ blk a3; omega
  | 3, _ => have := (h4.blk hp).1; show S1 ≤ blk a4; omega
end Go.Proofs.YtgjdjdgondpjeaaGreat
