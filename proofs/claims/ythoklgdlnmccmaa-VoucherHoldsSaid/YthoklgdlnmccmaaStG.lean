import Derived.Test.YthoklgdlnmccmaaFits
import Derived.Test.YthoklgdlnmccmaaStarts
import Derived.Test.YthoklgdlnmccmaaLists
import Derived.Test.YthoklgdlnmccmaaCheck
import Derived.Deep.Slices
import Derived.SizedLaws
import Derived.ProofKit
import Derived.OpenShut
/- starts: a copy of a list of starts in new memory with one mark behind it. -/
namespace Go.Proofs.Ythoklgdlnmccmaa
open Go.RowKit Go.Lib
set_option linter.unusedVariables false

theorem sCells_at_all {w : World} {g o : Nat} {l : List Pr} (h : ∀ i, i < l.length → w.cell? ⟨g, o + i * 2, none⟩ = some (.int .i64 (sAt l i).1) ∧ w.cell? ⟨g, o + i * 2 + 1, none⟩ = some (.int .u64 (sAt l i).2)) :
    ∀ j u, (sCells l)[j]? = some u → w.cell? ((⟨g, o, none⟩ : Addr).add j) = some u := by
  intro j u hj
  have hjn : j < l.length * 2 := by
    have := (List.getElem?_eq_some_iff.1 hj).1
    rwa [sCells_length] at this
  obtain ⟨p, q⟩ := sCells_at l (j / 2) (by omega)
  obtain ⟨p', q'⟩ := h (j / 2) (by omega)
  rw [Addr.add_lit]
  rcases Nat.mod_two_eq_zero_or_one j with hm | hm
  · have e : j = j / 2 * 2 := by omega
    rw [← e] at p p'
    rw [p] at hj
    rw [p', ← hj]
  · have e : j = j / 2 * 2 + 1 := by omega
    have e2 : o + j / 2 * 2 + 1 = o + j := by omega
    rw [← e] at q
    rw [e2] at q'
    rw [q] at hj
    rw [q', ← hj]

/-- 'append([]Start{}, xs...)' in a region that goes in the text's order. -/
theorem wpList_freshS {P : Program} {w : World} {ops : Array Oper} {rest : List Oper} {o : Oper} {a : Act} {Q : Exit → Act → World → Prop} (hgd : o.guard = none) (s x : Operand) (t : TypeId)
    (hop : o.op = .call { callee := .builtin .append, args := #[s, x], argTypes := #[t, t] })
    (e : TypeId) (i : TypeInfo) (z : Value) (ht : P.underlying t = some (.slice e)) (hi : P.info? e = some i) (hz : i.zero = some z)
    (hsize : i.size = 2) (hby : i.bytes = 16) (hzs : z.cells.size = 2) (B : Nat) (fr : Nat) (hB : w.ownsRow fr e 2 (.slice (some ⟨B, 0, none⟩) 0 0) 0 []) (hfr : fr ≤ w.heap.size) (xv : Value) (xs : List Pr) (hs : a.eval s = .slice (some ⟨B, 0, none⟩) 0 0) (hx : a.eval x = xv) (hrow : SAt w xv xs) (hb : xs.length * 16 ≤ 140737488355328) (h63 : xs.length ≤ maxLen)
    (h : ∀ v' w', w'.ownsRow fr e 2 v' xs.length (sCells xs) → Below w.heap.size w w' → wpList P ops Q rest (a.put o.dst v') w') : wpList P ops Q (o :: rest) a w := by
  refine wpList_plain hgd fun K hK => ?_
  obtain ⟨xo, c, rfl, h1, h2, h4⟩ := hrow
  rcases Nat.eq_zero_or_pos xs.length with h0 | h0
  · obtain rfl : xs = [] := List.eq_nil_of_length_eq_zero h0
    have hsrc : Src P i.size t (.slice xo 0 c) 0 [] w := by
      cases xo with
      | none => exact Src.ofNil w ht c
      | some a => exact Src.ofSlice w ht a 0 c [] (by simp) (fun j u h => by simp at h) (by simp)
    have hrun := run_append_nothing w t t o.type e i ht hi (some ⟨B, 0, none⟩) 0 0 (Nat.le_refl _) _ hsrc
    have hx' : a.eval x = .slice xo 0 c := hx
    unfold Oper.wp
    simp [execOp, hop, resolve, invoke, builtin, hs, hx', hrun, Result.andThen]
    exact hK _ _ (h _ _ (by simpa [sCells] using hB) (Below.refl _ _))
  · obtain ⟨g, q, rfl, _, _⟩ := h4 0 h0
    have h5 : ∀ i, i < xs.length → w.cell? ⟨g, q + i * 2, none⟩ = some (.int .i64 (sAt xs i).1) ∧ w.cell? ⟨g, q + i * 2 + 1, none⟩ = some (.int .u64 (sAt xs i).2) := by
      intro i hi
      obtain ⟨g', q', he, p1, p2⟩ := h4 i hi
      simp only [Option.some.injEq, Addr.mk.injEq] at he
      obtain ⟨rfl, rfl, _⟩ := he
      exact ⟨p1, p2⟩
    obtain ⟨v', w', hrun, hown, hgrow⟩ := run_append_arg_grows (P := P) (w := w) t o.type e i z 2 16 ht hi hz hsize hby hzs (by decide) ⟨B, 0, none⟩ 0 0 [] rfl (fun j u h => by simp at h) ⟨g, q, none⟩ xs.length c (sCells xs) (by rw [sCells_length]) (sCells_at_all h5) (by omega) (by omega) (by rw [Nat.zero_add]; exact hb)
    simp only [Nat.zero_add, List.nil_append] at hown
    have hbel : Below w.heap.size w w' := (Below.refl _ _).grown hgrow (Nat.le_refl _) (by intro j hj; cases hj)
    unfold Oper.wp
    simp [execOp, hop, resolve, invoke, builtin, hs, hx, hrun, Result.andThen]
    refine hK _ _ (h _ _ ?_ hbel)
    obtain ⟨hl, hh⟩ := hown
    exact ⟨hl, hh.imp id fun ⟨g, cap, cur, he, hg, r⟩ => ⟨g, cap, cur, he, Nat.le_trans hfr hg, r⟩⟩

theorem own_new2 (X : World) (e : TypeId) (B : Nat) (hB : B = X.heap.size) : (X.alloc (.cells #[] e)).ownsRow X.heap.size e 2 (.slice (some ⟨B, 0, none⟩) 0 0) 0 [] := by
  subst hB
  exact World.ownsRow_made X #[] 0 (Nat.le_refl _) (Nat.zero_le _) rfl

theorem markS_made {m : Pr} {w w1 w2 : World} {v1 v2 : Value} {ws : List Pr} {p : Obj} (h1 : w1.ownsRow w.heap.size 41 2 v1 ws.length (sCells ws)) (hb1 : Below w.heap.size w w1)
    (hown : w2.ownsRow w.heap.size 41 2 v2 (ws.length + 1) (sCells ws ++ [.int .i64 m.1, .int .u64 m.2])) (hgrow : (w1.alloc p).grownBy w2 v1.ownBlock) :
    ∃ g c, v2 = .slice (some ⟨g, 0, none⟩) (ws.length + 1) c ∧ ws.length + 1 ≤ c ∧ c ≤ 9223372036854775807 ∧ w.heap.size ≤ g ∧ SAt w2 (.slice (some ⟨g, 0, none⟩) (ws.length + 1) c) (ws ++ [m]) ∧ SAt w2 (.slice (some ⟨g, 0, none⟩) ws.length c) ws ∧ Below w.heap.size w w2 := by
  have hL : Below w.heap.size w w2 := by
    refine (hb1.alloc hb1.size _).grown hgrow (by have := hb1.size; simp; omega) ?_
    intro j hj
    obtain ⟨_, ⟨rfl, _⟩ | ⟨g', cap, cur', rfl, hg', _⟩⟩ := h1
    · simp [Value.ownBlock] at hj
    · simp [Value.ownBlock] at hj; omega
  have hl2 : (ws ++ [m]).length = ws.length + 1 := by simp
  have hr : SRow w2 v2 (ws ++ [m]) := SRow.of_owns (base := w.heap.size) (by rw [hl2, sCells_snoc]; exact hown)
  obtain ⟨_, ⟨rfl, h0⟩ | ⟨g, cap, cur, rfl, hg, hh, hnc, hcm, hcur, htake⟩⟩ := hown
  · omega
  · rcases hr with ⟨he, _⟩ | ⟨g', c', he, k1, k2, k3⟩
    · cases he
    · simp only [Value.slice.injEq, Option.some.injEq, Addr.mk.injEq] at he
      obtain ⟨⟨rfl, _⟩, _, rfl⟩ := he
      refine ⟨g, cap, rfl, hnc, hcm, hg, ⟨_, _, by rw [hl2], by rw [hl2]; exact hnc, hcm, fun i hi => ⟨g, 0, rfl, ?_⟩⟩, ⟨_, _, rfl, by omega, hcm, fun i hi => ⟨g, 0, rfl, ?_⟩⟩, hL⟩
      · simpa using k3 i hi
      · have := k3 i (by omega)
        have e : sAt (ws ++ [m]) i = sAt ws i := by simp [sAt, List.getElem?_append_left hi]
        rw [e] at this
        simpa using this

set_option maxRecDepth 100000 in
set_option maxHeartbeats 2000000 in
theorem startsC_any (xv : Value) (xs : List Pr) (w : World) (hx : SAt w xv xs) (hb : xs.length * 16 ≤ 140737488353280) :
    Calls Try.prog 34 #[xv] w fun e w' => ∃ g c, e = .returned (.slice (some ⟨g, 0, none⟩) xs.length c) ∧ w.heap.size ≤ g ∧ SAt w' (.slice (some ⟨g, 0, none⟩) xs.length c) xs ∧ Below w.heap.size w w' := by
  obtain ⟨i0, hi, hz0, hz1, hz2⟩ := info_parts Try.info41
  obtain ⟨ao, ca, rfl⟩ : ∃ ao c, xv = .slice ao xs.length c := by obtain ⟨ao, c, h, _⟩ := hx; exact ⟨ao, c, h⟩
  have HX := hide hx
  clear hx
  go_enter Try.func34, Try.ntmps34
  go_wp2_with (first
    | (at_builtin; refine wpList_freshS rfl (.tmp 4) (.tmp 5) 33 rfl 41 i0 (.agg #[.int .i64 0, .int .u64 0]) Try.underlying33 hi hz0 hz1 hz2 rfl w.heap.size _ (own_new2 _ 41 w.heap.size rfl) (by simp) _ xs rfl rfl (HX.out.below (below_alloc (Below.refl _ _) _)) (by omega) (by unfold maxLen; omega) ?_; intro v1 w1a hownA1 hbelA1)
    | (at_builtin; refine wpList_append_own _ rfl (.tmp 6) (.tmp 8) 33 rfl _ 41 i0 (.agg #[.int .i64 0, .int .u64 0]) 2 16 Try.underlying33 hi hz0 hz1 hz2 rfl (by decide) _ _ _ rfl (hownA1.alloc _) ⟨w1a.heap.size, 0, none⟩ 1 1 [.int .i64 71, .int .u64 72] rfl rfl (two_at w1a _ _ _) (by simp [Value.oneCell']) (by unfold maxLen; omega) (by omega) (by have hq := hbelA1.size; simp at hq; simp; omega) ?_; intro u1 w1b hownB1 hgrowB1 hqB1; obtain ⟨g1, e1, rfl, ka1, kb1, kc1, hrow1, hrow2, hbel1⟩ := markS_made (m := (71, 72)) hownA1 (below_on (below_alloc (Below.refl _ _) _) hbelA1) hownB1 hgrowB1; have HROW1 := hide hrow2; have HBEL1 := hide hbel1; clear hownA1 hbelA1 hownB1 hgrowB1 hqB1 hrow1 hrow2 hbel1)
    | fail)
  go_wp2
  go_ret
  exact ⟨g1, e1, rfl, kc1, HROW1.out, HBEL1.out⟩
end Go.Proofs.Ythoklgdlnmccmaa

/- '!=' of two starts. -/
namespace Go.Proofs.Ythoklgdlnmccmaa
open Go.RowKit Go.Lib
set_option linter.unusedVariables false

theorem field_int {d : Nat} {f : Field} {fs : List Field} {l m : Array Value} {k : IntKind} {x y : Int} {r : Bool} {w : World} (hn : f.name ≠ "_") (hu : Try.prog.underlying f.type = some (.int k))
    (hl : (part f.type l f.offset).run Try.prog w = .ok (.int k x) w) (hm : (part f.type m f.offset).run Try.prog w = .ok (.int k y) w)
    (h : (Op.eqFields (d + 1) l m fs).run Try.prog w = .ok r w) : (Op.eqFields (d + 1) l m (f :: fs)).run Try.prog w = .ok (x == y && r) w := by
  simp only [Op.eqFields, if_pos hn, Sem.run_bind]
  rw [hl, Result.andThen_ok, hm, Result.andThen_ok, run_equalIn_int w d f.type k k x y hu, Result.andThen_ok]
  cases hxy : (x == y)
  · simp
  · simpa using h
theorem part3 (l : Array Value) (i : Nat) (x : Value) (w : World) (h : l[i]? = some x) : (part 3 l i).run Try.prog w = .ok x w := by
  simp [part, Try.sizeOf3, Try.isAgg3, h]
theorem part22 (l : Array Value) (i : Nat) (x : Value) (w : World) (h : l[i]? = some x) : (part 22 l i).run Try.prog w = .ok x w := by
  simp [part, Try.sizeOf22, Try.isAgg22, h]
theorem Try.fields41 : Try.prog.underlying 41 = some (.struct (Try.prog.fieldsOf 41)) := by kernel_rfl
theorem Try.held41 : Try.prog.stoodInHeld 41 = false := by kernel_rfl
theorem Try.list41 : (Try.prog.fieldsOf 41).toList = [{ name := "Vertex", type := 3, offset := 0, embedded := false, tag := "", pkgPath := "", byteOffset := 0 }, { name := "Label", type := 22, offset := 1, embedded := false, tag := "", pkgPath := "", byteOffset := 8 }] := by kernel_rfl
theorem neq_start (a0 a1 b0 b1 : Int) (w : World) :
    (binOp .neq 41 (.agg #[.int .i64 a0, .int .u64 a1]) (.agg #[.int .i64 b0, .int .u64 b1])).run Try.prog w = .ok (.bool (!(a0 == b0 && (a1 == b1 && true)))) w := by
  have h : (Op.equalIn 10000 41 (.agg #[.int .i64 a0, .int .u64 a1]) (.agg #[.int .i64 b0, .int .u64 b1])).run Try.prog w = .ok (a0 == b0 && (a1 == b1 && true)) w := by
    rw [show (10000 : Nat) = 9998 + 1 + 1 from rfl, run_equalIn_struct w (9998 + 1) 41 _ _ Try.fields41 Try.held41, Try.list41]
    refine field_int (by decide) Try.underlying3 (part3 _ _ _ _ rfl) (part3 _ _ _ _ rfl) ?_
    refine field_int (by decide) Try.underlying22 (part22 _ _ _ _ rfl) (part22 _ _ _ _ rfl) ?_
    simp [Op.eqFields]
  rw [run_neq_struct, h, Result.andThen_ok]
end Go.Proofs.Ythoklgdlnmccmaa

/- intsKept, wordsKept: the copy is as it was, its marks too. -/
namespace Go.Proofs.Ythoklgdlnmccmaa
open Go.RowKit Go.Lib
set_option linter.unusedVariables false

set_option maxRecDepth 100000 in
set_option maxHeartbeats 2000000 in
theorem intsKept_any (g c : Nat) (lv : Value) (xs : List Int) (w : World) (hm : MarkAt .i64 w g c xs) (hl : RowAt .i64 w lv xs) (hb : xs.length * 8 ≤ 140737488351232) :
    Calls Try.prog 29 #[.slice (some ⟨g, 0, none⟩) xs.length c, lv] w fun e w' => e = .returned (.bool true) ∧ Below w.heap.size w w' := by
  obtain ⟨lo, cl, rfl⟩ : ∃ ao c, lv = .slice ao xs.length c := by obtain ⟨ao, c, h, _⟩ := hl; exact ⟨ao, c, h⟩
  obtain ⟨p1, p2, p3⟩ := hm.ends
  obtain ⟨hc, hc2⟩ := hm.cap
  have HC := hide (fun (i : Nat) (hi : i < xs.length) => hl.cellAt i hi)
  have HM := hide (fun (i : Nat) (hi : i < xs.length) => hm.row.cellAt i hi)
  obtain ⟨n, hn⟩ : ∃ n, n = xs.length := ⟨_, rfl⟩
  rw [← hn] at HC HM p1 p2 p3 hc hb ⊢
  clear hn hl hm
  go_enter Try.func29, Try.ntmps29
  go_wp2
  go_loopw [6] (fun t wr => ∃ k : Nat, k ≤ n ∧ t = .int .i64 k ∧ ∃ m, wr = w.drewN m) (fun t _ => n - (RowKit.intOf t).toNat)
  case atStart => exact ⟨0, by omega, rfl, 0, rfl⟩
  case round =>
    obtain ⟨k, hk, rfl, m, rfl⟩ := hrel
    by_cases hlt : k < n
    · obtain ⟨gb, ob, cb', hsb, hcb, d1⟩ := HC.out k hlt
      obtain ⟨gc, oc, cc', hsc, hcc, d2⟩ := HM.out k hlt
      simp only [Value.slice.injEq, true_and] at hsb
      obtain ⟨rfl, rfl⟩ := hsb
      simp only [Value.slice.injEq, Option.some.injEq, Addr.mk.injEq, true_and, and_true] at hsc
      obtain ⟨⟨rfl, rfl⟩, rfl⟩ := hsc
      obtain ⟨x, hx⟩ : ∃ x, x = at_ xs k := ⟨_, rfl⟩
      rw [← hx] at d1 d2
      rw [Nat.zero_add] at d2
      clear hx p1 p2 p3
      go_wp2
      go_region
      all_goals
        go_wp2
        go_roundw
        case rel => exact ⟨k + 1, by omega, by go_num, m + 1, rfl⟩
        case measure => simp [RowKit.intOf]; omega
    · obtain rfl : k = n := by omega
      go_wp2
      go_ret
      exact ⟨rfl, below_drewN (Below.refl _ _) _⟩

set_option maxRecDepth 100000 in
set_option maxHeartbeats 2000000 in
theorem wordsKept_any (g c : Nat) (lv : Value) (xs : List Int) (w : World) (hm : MarkAt .u64 w g c xs) (hl : RowAt .u64 w lv xs) (hb : xs.length * 8 ≤ 140737488351232) :
    Calls Try.prog 46 #[.slice (some ⟨g, 0, none⟩) xs.length c, lv] w fun e w' => e = .returned (.bool true) ∧ Below w.heap.size w w' := by
  obtain ⟨lo, cl, rfl⟩ : ∃ ao c, lv = .slice ao xs.length c := by obtain ⟨ao, c, h, _⟩ := hl; exact ⟨ao, c, h⟩
  obtain ⟨p1, p2, p3⟩ := hm.ends
  obtain ⟨hc, hc2⟩ := hm.cap
  have HC := hide (fun (i : Nat) (hi : i < xs.length) => hl.cellAt i hi)
  have HM := hide (fun (i : Nat) (hi : i < xs.length) => hm.row.cellAt i hi)
  obtain ⟨n, hn⟩ : ∃ n, n = xs.length := ⟨_, rfl⟩
  rw [← hn] at HC HM p1 p2 p3 hc hb ⊢
  clear hn hl hm
  go_enter Try.func46, Try.ntmps46
  go_wp2
  go_loopw [6] (fun t wr => ∃ k : Nat, k ≤ n ∧ t = .int .i64 k ∧ ∃ m, wr = w.drewN m) (fun t _ => n - (RowKit.intOf t).toNat)
  case atStart => exact ⟨0, by omega, rfl, 0, rfl⟩
  case round =>
    obtain ⟨k, hk, rfl, m, rfl⟩ := hrel
    by_cases hlt : k < n
    · obtain ⟨gb, ob, cb', hsb, hcb, d1⟩ := HC.out k hlt
      obtain ⟨gc, oc, cc', hsc, hcc, d2⟩ := HM.out k hlt
      simp only [Value.slice.injEq, true_and] at hsb
      obtain ⟨rfl, rfl⟩ := hsb
      simp only [Value.slice.injEq, Option.some.injEq, Addr.mk.injEq, true_and, and_true] at hsc
      obtain ⟨⟨rfl, rfl⟩, rfl⟩ := hsc
      obtain ⟨x, hx⟩ : ∃ x, x = at_ xs k := ⟨_, rfl⟩
      rw [← hx] at d1 d2
      rw [Nat.zero_add] at d2
      clear hx p1 p2 p3
      go_wp2
      go_region
      all_goals
        go_wp2
        go_roundw
        case rel => exact ⟨k + 1, by omega, by go_num, m + 1, rfl⟩
        case measure => simp [RowKit.intOf]; omega
    · obtain rfl : k = n := by omega
      go_wp2
      go_ret
      exact ⟨rfl, below_drewN (Below.refl _ _) _⟩
end Go.Proofs.Ythoklgdlnmccmaa

/- twin: a graph's lists, each in new memory with marks behind it; twinKept. -/
namespace Go.Proofs.Ythoklgdlnmccmaa
open Go.RowKit Go.Lib
set_option linter.unusedVariables false

/-- The cells of two blocks of four, as they were. -/
theorem two_keep {W x : World} {A B : Nat} {p0 p1 p2 p3 q0 q1 q2 q3 : Value} (hA : W.heap[A]? = some (.cells #[p0, p1, p2, p3] 32 (0, 0))) (hB : W.heap[B]? = some (.cells #[q0, q1, q2, q3] 32 (0, 0))) (h : Below W.heap.size W x) :
    (x.cell? ⟨A, 0, none⟩ = some p0 ∧ x.cell? ⟨A, 1, none⟩ = some p1 ∧ x.cell? ⟨A, 2, none⟩ = some p2 ∧ x.cell? ⟨A, 3, none⟩ = some p3) ∧ x.heap[B]? = some (.cells #[q0, q1, q2, q3] 32 (0, 0)) := by
  have hA' := (h.block A (lt_of_heap hA)).trans hA
  have hB' := (h.block B (lt_of_heap hB)).trans hB
  exact ⟨⟨cell_of hA' rfl, cell_of hA' rfl, cell_of hA' rfl, cell_of hA' rfl⟩, hB'⟩

theorem RowAt.setOther {k : IntKind} {w : World} {ao : Option Addr} {n c : Nat} {xs : List Int} (h : RowAt k w (.slice ao n c) xs) (B i : Nat) (u : Value) (hn : ∀ a, ao = some a → ¬ a.block = B) : RowAt k (w.setCell ⟨B, i, none⟩ u) (.slice ao n c) xs := by
  obtain ⟨ao', c', he, h1, h2, h3, h4⟩ := h
  simp only [Value.slice.injEq] at he
  obtain ⟨rfl, rfl, rfl⟩ := he
  refine ⟨ao, c, rfl, h1, h2, h3, fun a ha j hj => ?_⟩
  have h5 := h4 a ha j hj
  rw [← h5]
  have hb : (a.add j).block ≠ B := by
    have e : (a.add j).block = a.block := by unfold Addr.add; split <;> rfl
    rw [e]; exact hn a ha
  unfold World.cell?
  rw [Below.heap_setCell w ⟨B, i, none⟩ u (a.add j).block hb]
theorem MarkAt.setOther {k : IntKind} {w : World} {g c : Nat} {xs : List Int} (h : MarkAt k w g c xs) (B i : Nat) (u : Value) (hn : ¬ g = B) : MarkAt k (w.setCell ⟨B, i, none⟩ u) g c xs :=
  RowAt.setOther h B i u fun a ha => by cases ha; exact hn

/-- A twin in memory. -/
structure TIs (w : World) (N : Int) (g1 c1 g2 c2 g3 c3 : Nat) (st tl wt : List Int) : Prop where
  s : MarkAt .i64 w g1 c1 st
  t : MarkAt .i64 w g2 c2 tl
  u : MarkAt .u64 w g3 c3 wt
theorem TIs.below {w w' : World} {N : Int} {g1 c1 g2 c2 g3 c3 : Nat} {st tl wt : List Int} (h : TIs w N g1 c1 g2 c2 g3 c3 st tl wt) (hb : Below w.heap.size w w') : TIs w' N g1 c1 g2 c2 g3 c3 st tl wt := ⟨h.s.below hb, h.t.below hb, h.u.below hb⟩
def tAgg (N : Int) (g1 c1 g2 c2 g3 c3 n1 n2 n3 : Nat) : Value := gAgg N (.slice (some ⟨g1, 0, none⟩) n1 c1) (.slice (some ⟨g2, 0, none⟩) n2 c2) (.slice (some ⟨g3, 0, none⟩) n3 c3)
theorem TIs.gis {w : World} {N : Int} {g1 c1 g2 c2 g3 c3 : Nat} {st tl wt : List Int} (h : TIs w N g1 c1 g2 c2 g3 c3 st tl wt) :
    GIs w N (.slice (some ⟨g1, 0, none⟩) st.length c1) (.slice (some ⟨g2, 0, none⟩) tl.length c2) (.slice (some ⟨g3, 0, none⟩) wt.length c3) st tl wt := ⟨h.s.row, h.t.row, h.u.row⟩

theorem twin_end {w W w3 : World} {N : Int} {g1 g2 g3 c1 c2 c3 : Nat} {st tl wt : List Int} {q0 q1 q2 q3 : Value} (hbW : Below w.heap.size w W) (hb3 : Below W.heap.size W w3)
    (hz : w3.heap[w.heap.size + 1]? = some (.cells #[q0, q1, q2, q3] 32 (0, 0))) (h : TIs w3 N g1 c1 g2 c2 g3 c3 st tl wt)
    (m1 : ¬ g1 = w.heap.size + 1) (m2 : ¬ g2 = w.heap.size + 1) (m3 : ¬ g3 = w.heap.size + 1) :
    let v1 : Value := .slice (some ⟨g1, 0, none⟩) st.length c1; let v2 : Value := .slice (some ⟨g2, 0, none⟩) tl.length c2; let v3 : Value := .slice (some ⟨g3, 0, none⟩) wt.length c3
    let wf := (((w3.setCell ⟨w.heap.size + 1, 0, none⟩ (.int .i64 N)).setCell ⟨w.heap.size + 1, 1, none⟩ v1).setCell ⟨w.heap.size + 1, 2, none⟩ v2).setCell ⟨w.heap.size + 1, 3, none⟩ v3
    wf.heap[w.heap.size + 1]? = some (.cells #[.int .i64 N, v1, v2, v3] 32 (0, 0)) ∧ TIs wf N g1 c1 g2 c2 g3 c3 st tl wt ∧ Below w.heap.size w wf := by
  intro v1 v2 v3 wf
  have hh := heap_set (i := 3) (heap_set (i := 2) (heap_set (i := 1) (heap_set (i := 0) hz (.int .i64 N)) v1) v2) v3
  have hw : wf.heap[w.heap.size + 1]? = some (.cells #[.int .i64 N, v1, v2, v3] 32 (0, 0)) := by
    show ((((w3.setCell ⟨w.heap.size + 1, 0, none⟩ (.int .i64 N)).setCell ⟨w.heap.size + 1, 1, none⟩ v1).setCell ⟨w.heap.size + 1, 2, none⟩ v2).setCell ⟨w.heap.size + 1, 3, none⟩ v3).heap[w.heap.size + 1]? = _
    rw [hh]
    simp
  refine ⟨hw, ⟨?_, ?_, ?_⟩, ?_⟩
  · exact (((h.s.setOther _ _ _ m1).setOther _ _ _ m1).setOther _ _ _ m1).setOther _ _ _ m1
  · exact (((h.t.setOther _ _ _ m2).setOther _ _ _ m2).setOther _ _ _ m2).setOther _ _ _ m2
  · exact (((h.u.setOther _ _ _ m3).setOther _ _ _ m3).setOther _ _ _ m3).setOther _ _ _ m3
  · have hb : Below w.heap.size w w3 := below_on hbW hb3
    exact (((hb.setCell (p := ⟨w.heap.size + 1, 0, none⟩) (by show w.heap.size ≤ w.heap.size + 1; omega) _).setCell (p := ⟨w.heap.size + 1, 1, none⟩) (by show w.heap.size ≤ w.heap.size + 1; omega) _).setCell (p := ⟨w.heap.size + 1, 2, none⟩) (by show w.heap.size ≤ w.heap.size + 1; omega) _).setCell (p := ⟨w.heap.size + 1, 3, none⟩) (by show w.heap.size ≤ w.heap.size + 1; omega) _

set_option maxRecDepth 100000 in
set_option maxHeartbeats 8000000 in
theorem twin_any (N : Int) (va vb vc : Value) (st tl wt : List Int) (w : World) (hg : GIs w N va vb vc st tl wt) (hst : st.length * 8 ≤ 140737488351232) (hto : tl.length * 8 ≤ 140737488351232) (hwt : wt.length * 8 ≤ 140737488351232) :
    Calls Try.prog 22 #[gAgg N va vb vc] w fun e w' => ∃ g1 c1 g2 c2 g3 c3, e = .returned (tAgg N g1 c1 g2 c2 g3 c3 st.length tl.length wt.length) ∧ TIs w' N g1 c1 g2 c2 g3 c3 st tl wt ∧ Below w.heap.size w w' := by
  obtain ⟨ao, ca, rfl⟩ := hg.s.shape
  obtain ⟨bo, cb, rfl⟩ := hg.t.shape
  obtain ⟨co, cc, rfl⟩ := hg.u.shape
  have HG := hide hg
  clear hg
  unfold gAgg tAgg
  go_enter Try.func22, Try.ntmps22
  go_wp2_with fail
  obtain ⟨W, hW⟩ : ∃ W, W = (w.alloc (.cells #[.int .i64 N, .slice ao st.length ca, .slice bo tl.length cb, .slice co wt.length cc] 32)).alloc (.cells #[.int .i64 0, .slice none 0 0, .slice none 0 0, .slice none 0 0] 32) := ⟨_, rfl⟩
  have hbW : Below w.heap.size w W := by rw [hW]; exact below_alloc (below_alloc (Below.refl _ _) _) _
  have hA : W.heap[w.heap.size]? = some (.cells #[.int .i64 N, .slice ao st.length ca, .slice bo tl.length cb, .slice co wt.length cc] 32 (0, 0)) := by
    rw [hW]
    exact (((Below.refl _ _).alloc (Nat.le_refl _) _).block w.heap.size (by simp)).trans (heap_new w _)
  have hB : W.heap[w.heap.size + 1]? = some (.cells #[.int .i64 0, .slice none 0 0, .slice none 0 0, .slice none 0 0] 32 (0, 0)) := by
    rw [hW]
    have := heap_new (w.alloc (.cells #[.int .i64 N, .slice ao st.length ca, .slice bo tl.length cb, .slice co wt.length cc] 32)) (.cells #[.int .i64 0, .slice none 0 0, .slice none 0 0, .slice none 0 0] 32)
    simpa using this
  rw [← hW]
  have HA := hide hA; have HB := hide hB; have HBW := hide hbW
  have HGW := hide (HG.out.below hbW)
  obtain ⟨⟨c0, c1, c2, c3⟩, _⟩ := two_keep hA hB (Below.refl _ W)
  have HR := hide (Below.refl W.heap.size W)
  have hWs : w.heap.size + 1 < W.heap.size := lt_of_heap hB
  clear hA hB hbW hW
  refine wp_region_noPanic ?_
  go_region_held3 (fun x => x.cell? ⟨w.heap.size, 0, none⟩ = some (.int .i64 N) ∧ x.cell? ⟨w.heap.size, 1, none⟩ = some (.slice ao st.length ca) ∧ x.cell? ⟨w.heap.size, 2, none⟩ = some (.slice bo tl.length cb) ∧ x.cell? ⟨w.heap.size, 3, none⟩ = some (.slice co wt.length cc)) (first | go_keep | exact ⟨z0, z1, z2, z3⟩)
    (first
      | (go_at_call 26; have hq0 := HB1.out; clear hq0; refine (ints_any (.slice bo tl.length cb) tl _ (HGW.out.below HB1.out).t hto).mono ?_; rintro e w2 ⟨g2, cp2, rfl, hg2, hm2, hbel⟩; have hB2 := below_on (a := W) HB1.out hbel; have hS2 : Below w1.heap.size w1 w2 := hbel; have HS2 := hide hS2; obtain ⟨⟨z0, z1, z2, z3⟩, zB⟩ := two_keep HA.out HB.out hB2; have p2 := HB1.out.size; have hn2 : ¬ g2 = w.heap.size + 1 := (by omega); have HN2 := hide hn2; have HB2 := hide hB2; have HM2 := hide hm2; clear hn2 hg2 hm2 hbel hB2 zB hS2 p2)
      | (go_at_call 26; refine (ints_any (.slice ao st.length ca) st _ (HGW.out.below (below_drew HR.out)).s hst).mono ?_; rintro e w1 ⟨g1, cp1, rfl, hg1, hm1, hbel⟩; have hB1 := below_on (a := W) (below_drew HR.out) hbel; obtain ⟨⟨z0, z1, z2, z3⟩, zB⟩ := two_keep HA.out HB.out hB1; have hn1 : ¬ g1 = w.heap.size + 1 := (by simp at hg1; omega); have HN1 := hide hn1; have HB1 := hide hB1; have HM1 := hide hm1; clear hn1 hg1 hm1 hbel hB1 zB)
      | (go_at_call 44; refine (words_any (.slice co wt.length cc) wt _ (HGW.out.below HB2.out).u hwt).mono ?_; rintro e w3 ⟨g3, cp3, rfl, hg3, hm3, hbel⟩; have hB3 := below_on (a := W) HB2.out hbel; have hS3 : Below w2.heap.size w2 w3 := hbel; have HS3 := hide hS3; obtain ⟨⟨z0, z1, z2, z3⟩, zB⟩ := two_keep HA.out HB.out hB3; have p3 := HB2.out.size; have hn3 : ¬ g3 = w.heap.size + 1 := (by omega); have HN3 := hide hn3; have HB3 := hide hB3; have HM3 := hide hm3; have HZ := hide zB; have e0 : w3.cell? ⟨w.heap.size + 1, 0, none⟩ = some (.int .i64 0) := cell_of HZ.out rfl; have e1 : w3.cell? ⟨w.heap.size + 1, 1, none⟩ = some (.slice none 0 0) := cell_of HZ.out rfl; have e2 : w3.cell? ⟨w.heap.size + 1, 2, none⟩ = some (.slice none 0 0) := cell_of HZ.out rfl; have e3 : w3.cell? ⟨w.heap.size + 1, 3, none⟩ = some (.slice none 0 0) := cell_of HZ.out rfl; have q0 := free_of HZ.out 0; have q1 := free_of HZ.out 1; have q2 := free_of HZ.out 2; have q3 := free_of HZ.out 3; clear hn3 hg3 hm3 hbel hB3 zB hS3 p3))
  all_goals
    refine NoPanic.normal ?_
    obtain ⟨hwf, hG, hL⟩ := twin_end HBW.out HB3.out HZ.out (N := N) ⟨(HM1.out.below HS2.out).below HS3.out, HM2.out.below HS3.out, HM3.out⟩ HN1.out HN2.out HN3.out
    have HGG := hide hG; have HLL := hide hL; have HWF := hide hwf
    generalize ((((w3.setCell ⟨w.heap.size + 1, 0, none⟩ (.int .i64 N)).setCell ⟨w.heap.size + 1, 1, none⟩ (.slice (some ⟨g1, 0, none⟩) st.length cp1)).setCell ⟨w.heap.size + 1, 2, none⟩ (.slice (some ⟨g2, 0, none⟩) tl.length cp2)).setCell ⟨w.heap.size + 1, 3, none⟩ (.slice (some ⟨g3, 0, none⟩) wt.length cp3)) = wf at HWF HGG HLL ⊢
    clear hG hL hwf
    go_wp2
    exact bodyPost_ret (results_cell_row Try.results22 _ wf (w.heap.size + 1) 32 _ (0, 0) _ rfl HWF.out Try.underlying32 rfl (by kernel_rfl)) rfl ⟨_, _, _, _, _, _, rfl, HGG.out, HLL.out⟩
end Go.Proofs.Ythoklgdlnmccmaa

/- twinKept: a twin is as its graph was. -/
namespace Go.Proofs.Ythoklgdlnmccmaa
open Go.RowKit Go.Lib
set_option linter.unusedVariables false

theorem boxedB (w : World) (x0 x1 x2 x3 : Value) (h : Below w.heap.size w w) :
    ∀ A, A < w.heap.size → ∀ i, (w.alloc (.cells #[x0, x1, x2, x3] 32)).cell? ⟨A, i, none⟩ = w.cell? ⟨A, i, none⟩ := fun A hA i => below_cell (below_alloc h _) hA

set_option maxRecDepth 100000 in
set_option maxHeartbeats 4000000 in
theorem twinKept_any (N : Int) (va vb vc : Value) (st tl wt : List Int) (g1 c1 g2 c2 g3 c3 : Nat) (w : World) (ht : TIs w N g1 c1 g2 c2 g3 c3 st tl wt) (hg : GIs w N va vb vc st tl wt) (hst : st.length * 8 ≤ 140737488351232) (hto : tl.length * 8 ≤ 140737488351232) (hwt : wt.length * 8 ≤ 140737488351232) :
    Calls Try.prog 24 #[tAgg N g1 c1 g2 c2 g3 c3 st.length tl.length wt.length, gAgg N va vb vc] w fun e w' => e = .returned (.bool true) ∧ Below w.heap.size w w' := by
  obtain ⟨ao, ca, rfl⟩ := hg.s.shape
  obtain ⟨bo, cb, rfl⟩ := hg.t.shape
  obtain ⟨co, cc, rfl⟩ := hg.u.shape
  have HG := hide hg; have HT := hide ht
  clear hg ht
  unfold tAgg gAgg
  go_enter Try.func24, Try.ntmps24
  go_wp2_with fail
  obtain ⟨W, hW⟩ : ∃ W, W = (w.alloc (.cells #[.int .i64 N, .slice (some ⟨g1, 0, none⟩) st.length c1, .slice (some ⟨g2, 0, none⟩) tl.length c2, .slice (some ⟨g3, 0, none⟩) wt.length c3] 32)).alloc (.cells #[.int .i64 N, .slice ao st.length ca, .slice bo tl.length cb, .slice co wt.length cc] 32) := ⟨_, rfl⟩
  have hbW : Below w.heap.size w W := by rw [hW]; exact below_alloc (below_alloc (Below.refl _ _) _) _
  have hA : W.heap[w.heap.size]? = some (.cells #[.int .i64 N, .slice (some ⟨g1, 0, none⟩) st.length c1, .slice (some ⟨g2, 0, none⟩) tl.length c2, .slice (some ⟨g3, 0, none⟩) wt.length c3] 32 (0, 0)) := by
    rw [hW]
    exact (((Below.refl _ _).alloc (Nat.le_refl _) _).block w.heap.size (by simp)).trans (heap_new w _)
  have hB : W.heap[w.heap.size + 1]? = some (.cells #[.int .i64 N, .slice ao st.length ca, .slice bo tl.length cb, .slice co wt.length cc] 32 (0, 0)) := by
    rw [hW]
    have := heap_new (w.alloc (.cells #[.int .i64 N, .slice (some ⟨g1, 0, none⟩) st.length c1, .slice (some ⟨g2, 0, none⟩) tl.length c2, .slice (some ⟨g3, 0, none⟩) wt.length c3] 32)) (.cells #[.int .i64 N, .slice ao st.length ca, .slice bo tl.length cb, .slice co wt.length cc] 32)
    simpa using this
  rw [← hW]
  have HA := hide hA; have HB := hide hB; have HBW := hide hbW
  have HK1 := hide (intsKept_any g1 c1 (.slice ao st.length ca) st W (HT.out.below hbW).s (HG.out.below hbW).s hst)
  clear hA hB hbW hW
  refine HK1.out.mono ?_
  rintro e w1 ⟨rfl, hb1⟩
  obtain ⟨⟨z0, z1, z2, z3⟩, _⟩ := two_keep HA.out HB.out hb1
  obtain ⟨⟨y0, y1, y2, y3⟩, _⟩ := two_keep HB.out HA.out hb1
  have HB1 := hide hb1
  clear hb1
  go_wp2_with fail
  refine (intsKept_any g2 c2 (.slice bo tl.length cb) tl w1 ((HT.out.below HBW.out).below HB1.out).t ((HG.out.below HBW.out).below HB1.out).t hto).mono ?_
  rintro e w2 ⟨rfl, hb2⟩
  have hb2' := below_on HB1.out hb2
  clear z0 z1 z2 z3 y0 y1 y2 y3 hb2
  obtain ⟨⟨z0, z1, z2, z3⟩, _⟩ := two_keep HA.out HB.out hb2'
  obtain ⟨⟨y0, y1, y2, y3⟩, _⟩ := two_keep HB.out HA.out hb2'
  have HB2 := hide hb2'
  clear hb2'
  go_wp2_with fail
  refine (wordsKept_any g3 c3 (.slice co wt.length cc) wt w2 ((HT.out.below HBW.out).below HB2.out).u ((HG.out.below HBW.out).below HB2.out).u hwt).mono ?_
  rintro e w3 ⟨rfl, hb3⟩
  have HB3 := hide (below_on HBW.out (below_on HB2.out hb3))
  clear hb3
  go_wp2
  go_ret
  exact ⟨rfl, HB3.out⟩
end Go.Proofs.Ythoklgdlnmccmaa

/- A graph that comes in, as it is read. -/
namespace Go.Proofs.Ythoklgdlnmccmaa
open Go.ChangeShapes Go.WideShapes Go.ChangeAt Go.RowKit Go.Deep

section
variable {H : Type} {enc : TypeId × Value → H} {w : World} {base : Nat} {held : Bool} {fuel : Nat} {cs : List Value} {y : DataW H × List MemPlace}

theorem open_row {t e : TypeId} {k : IntKind} (ht : Try.prog.underlying t = some (.slice e)) (he : Try.prog.underlying e = some (.int k)) (hc : Try.prog.cellsOf e = 1)
    (h : DataW.trod enc Try.prog w 0 (fun _ => true) held fuel t cs = some y) :
    ∃ v xs, cs = [v] ∧ RowAt k w v xs ∧ (∀ n ∈ xs, (Lit.int k n).wf = true) ∧ ∀ M, (∀ n ∈ (y.1).weights Try.prog t, n ≤ M) → xs.length * Try.prog.bytesOf e ≤ M := by
  rcases open_ints ht he hc h with ⟨hcs, hy⟩ | ⟨a, len, cap, zs, hcs, _, hl, hm, hz, hy, hcell, hwz⟩
  · exact ⟨_, [], hcs, ⟨none, 0, rfl, by simp, by omega, (fun _ => rfl), (fun a ha => by cases ha)⟩, by simp, fun M _ => by simp⟩
  · simp only [if_true] at hz
    have hlen : (zs.take len).length = len := by rw [List.length_take]; omega
    refine ⟨_, zs.take len, hcs, ⟨some a, cap, by rw [hlen], by omega, hm, (fun e => by cases e), ?_⟩, fun n hn => hwz n (List.mem_of_mem_take hn), ?_⟩
    · intro b hb i hi
      cases hb
      rw [hlen] at hi
      rw [hcell i (by omega)]
      simp [List.getD, List.getElem?_take_of_lt hi]
    · intro M hM
      have h1 := hM ((zs.take len).length * Try.prog.bytesOf e + (zs.drop len).length * Try.prog.bytesOf e) (by
        rw [hy]
        simp only [DataW.weights, ht, lits, List.length_map, List.mem_cons]
        left
        rw [Nat.add_mul])
      omega

theorem one_int {t : TypeId} {k : IntKind} {z : Option (DataW H × List MemPlace)} {o : Nat} (ht : Try.prog.underlying t = some (.int k)) (hc : Try.prog.cellsOf t = 1) (hy : z.isSome = true)
    (h : DataW.trod enc Try.prog w base (fun _ => true) held fuel t ((cs.drop o).take (Try.prog.cellsOf t)) = z) : ∃ n, cs[o]? = some (.int k n) ∧ (Lit.int k n).wf = true := by
  obtain ⟨q, rfl⟩ := Option.isSome_iff_exists.1 hy
  rw [hc] at h
  obtain ⟨n, e, _, hw⟩ := DataW.trod_int ht h
  refine ⟨n, ?_, hw⟩
  have e2 : ((cs.drop o).take 1)[0]? = some (.int k n) := by rw [e]; rfl
  rw [List.getElem?_take_of_lt (by omega), List.getElem?_drop] at e2
  simpa using e2

theorem one_row {t e : TypeId} {k : IntKind} {z : Option (DataW H × List MemPlace)} {o : Nat} (ht : Try.prog.underlying t = some (.slice e)) (he : Try.prog.underlying e = some (.int k)) (hc : Try.prog.cellsOf e = 1) (hc1 : Try.prog.cellsOf t = 1) (hy : z.isSome = true)
    (h : DataW.trod enc Try.prog w 0 (fun _ => true) held fuel t ((cs.drop o).take (Try.prog.cellsOf t)) = z) :
    ∃ v xs q, cs[o]? = some v ∧ z = some q ∧ RowAt k w v xs ∧ (∀ n ∈ xs, (Lit.int k n).wf = true) ∧ ∀ M, (∀ n ∈ (q.1).weights Try.prog t, n ≤ M) → xs.length * Try.prog.bytesOf e ≤ M := by
  obtain ⟨q, rfl⟩ := Option.isSome_iff_exists.1 hy
  rw [hc1] at h
  obtain ⟨v, xs, e1, hr, hw, hM⟩ := open_row ht he hc h
  refine ⟨v, xs, q, ?_, rfl, hr, hw, hM⟩
  have e2 : ((cs.drop o).take 1)[0]? = some v := by rw [e1]; rfl
  rw [List.getElem?_take_of_lt (by omega), List.getElem?_drop] at e2
  simpa using e2
end
theorem Try.c3 : Try.prog.cellsOf 3 = 1 := by kernel_rfl
theorem Try.c29 : Try.prog.cellsOf 29 = 1 := by kernel_rfl
theorem Try.c30 : Try.prog.cellsOf 30 = 1 := by kernel_rfl
theorem Try.c22 : Try.prog.cellsOf 22 = 1 := by kernel_rfl
theorem Try.c32 : Try.prog.cellsOf 32 = 4 := by kernel_rfl
theorem Try.b3 : Try.prog.bytesOf 3 = 8 := by kernel_rfl
theorem Try.b22 : Try.prog.bytesOf 22 = 8 := by kernel_rfl
theorem list4 {l : List Value} {a b c d : Value} (h : l.length = 4) (h0 : l[0]? = some a) (h1 : l[1]? = some b) (h2 : l[2]? = some c) (h3 : l[3]? = some d) : l = [a, b, c, d] := by
  match l, h with
  | [x, y, z, u], _ => simp at h0 h1 h2 h3; subst h0 h1 h2 h3; rfl

set_option maxRecDepth 100000 in
theorem open_graph {H : Type} {enc : TypeId × Value → H} {base : Nat} {held : Bool} {W : World} {v : Value} {d : DataW H} {p : List MemPlace} (hv : Value.okWide Try.prog W .any base 32 v) (h : DataW.Trod enc Try.prog W 0 (fun _ => true) held 32 v d p)
    (hsz : ∀ n ∈ d.weights Try.prog 32, n ≤ reachBytes) :
    ∃ N va vb vc st tl wt, v = gAgg N va vb vc ∧ GIs W N va vb vc st tl wt ∧ (Lit.int .i64 N).wf = true ∧ st.length * 8 ≤ 140737488351232 ∧ tl.length * 8 ≤ 140737488351232 ∧ wt.length * 8 ≤ 140737488351232 ∧ (∀ n ∈ wt, (Lit.int .u64 n).wf = true) := by
  obtain ⟨cs, rfl, hcs⟩ := okWide_struct Try.underlying32 hv
  obtain ⟨fuel, hf⟩ := h
  obtain ⟨xs, n, _, hx, hlen, hxs, hel⟩ := DataW.trod_struct Try.underlying32 hf
  rw [Try.c32] at hlen
  have hxx : ∀ i, i < 4 → (xs[i]?).isSome = true := fun i hi => by rw [List.getElem?_eq_getElem (show i < xs.length by rw [hxs]; exact hi)]; rfl
  obtain ⟨N, h0, w0⟩ := one_int Try.underlying3 Try.c3 (hxx 0 (by omega)) (hel 0 _ rfl)
  obtain ⟨va, st, q1, h1, e1, r1, _, m1⟩ := one_row Try.underlying29 Try.underlying3 Try.c3 Try.c29 (hxx 1 (by omega)) (hel 1 _ rfl)
  obtain ⟨vb, tl, q2, h2, e2, r2, _, m2⟩ := one_row Try.underlying29 Try.underlying3 Try.c3 Try.c29 (hxx 2 (by omega)) (hel 2 _ rfl)
  obtain ⟨vc, wt, q3, h3, e3, r3, z3, m3⟩ := one_row Try.underlying30 Try.underlying22 Try.c22 Try.c30 (hxx 3 (by omega)) (hel 3 _ rfl)
  have hl := list4 hlen h0 h1 h2 h3
  simp only [Prod.mk.injEq] at hx
  have hw : ∀ (i : Nat) (t : TypeId) (q : DataW H × List MemPlace), ([3, 29, 29, 30] : List TypeId)[i]? = some t → xs[i]? = some q → ∀ k ∈ (q.1).weights Try.prog t, k ≤ reachBytes := by
    intro i t q ht hq k hk
    refine hsz k ?_
    rw [hx.1]
    simp only [DataW.weights, Try.underlying32]
    refine DataW.weights_mem_each (j := i) (t := t) (d := q.1) ?_ ?_ k hk
    · exact ht
    · rw [List.getElem?_map, hq]; rfl
  have b1 := m1 reachBytes (hw 1 29 q1 rfl e1)
  have b2 := m2 reachBytes (hw 2 29 q2 rfl e2)
  have b3 := m3 reachBytes (hw 3 30 q3 rfl e3)
  rw [Try.b3] at b1 b2
  rw [Try.b22] at b3
  simp only [reachBytes] at b1 b2 b3
  refine ⟨N, va, vb, vc, st, tl, wt, ?_, ⟨r1, r2, r3⟩, w0, by omega, by omega, by omega, z3⟩
  unfold gAgg
  congr 1
  have : cs.toList = [.int .i64 N, va, vb, vc] := by simpa [Value.cells] using hl
  rw [← Array.toList_inj, this]
end Go.Proofs.Ythoklgdlnmccmaa

/- A list of starts that comes in, as it is read. -/
namespace Go.Proofs.Ythoklgdlnmccmaa
open Go.ChangeShapes Go.WideShapes Go.ChangeAt Go.RowKit Go.Deep
set_option linter.unusedVariables false

theorem Try.c41 : Try.prog.cellsOf 41 = 2 := by kernel_rfl

section
variable {H : Type} {enc : TypeId × Value → H} {w : World} {base : Nat} {held : Bool} {fuel : Nat} {cs : List Value} {y : DataW H × List MemPlace}

set_option maxRecDepth 100000 in
theorem open_startC (h : DataW.trod enc Try.prog w base (fun _ => true) held fuel 41 cs = some y) : ∃ p : Pr, (0 ≤ p.2 ∧ p.2 < 18446744073709551616) ∧ cs[0]? = some (.int .i64 p.1) ∧ cs[1]? = some (.int .u64 p.2) := by
  obtain ⟨xs, n, _, _, hlen, hxs, hel⟩ := DataW.trod_struct Try.underlying41 h
  rw [Try.c41] at hlen
  have hx : ∀ i, i < 2 → (xs[i]?).isSome = true := fun i hi => by rw [List.getElem?_eq_getElem (show i < xs.length by rw [hxs]; exact hi)]; rfl
  obtain ⟨k0, h0, _⟩ := one_int Try.underlying3 Try.c3 (hx 0 (by omega)) (hel 0 _ rfl)
  obtain ⟨k1, h1, w1⟩ := one_int Try.underlying22 Try.c22 (hx 1 (by omega)) (hel 1 _ rfl)
  obtain ⟨b0, b1⟩ := Go.bounds_u64 w1
  exact ⟨(k0, k1), ⟨b0, by show k1 < _; omega⟩, h0, h1⟩

set_option maxRecDepth 100000 in
theorem open_starts {W : World} {v : Value} {d : DataW H} {p : List MemPlace} (hv : Value.okWide Try.prog W .any base 33 v) (h : DataW.Trod enc Try.prog W 0 (fun _ => true) held 33 v d p) :
    ∃ (len cap : Nat) (S : List Pr), S.length = len ∧ SAt W v S ∧ (∀ j, j < S.length → 0 ≤ (sAt S j).2 ∧ (sAt S j).2 < 18446744073709551616) ∧
      ((len = 0 ∧ cap = 0) ∨ ∃ D : Nat → DataW H, d = .slice ((List.range len).map D) ((List.range (cap - len)).map fun j => D (len + j))) := by
  obtain ⟨ao, len, cap, rfl⟩ := okWide_slice Try.underlying33 hv
  obtain ⟨fuel, hf⟩ := h
  rcases open_slice Try.underlying33 hf with ⟨hcs, _⟩ | ⟨a, len', cap', m, n, D, Pl, hcs, _, hl, hm, hmm, hx, hel⟩
  · simp [Value.cells] at hcs
    obtain ⟨rfl, rfl, rfl⟩ := hcs
    exact ⟨0, 0, [], rfl, ⟨none, 0, rfl, Nat.le_refl _, Nat.zero_le _, fun k hk => absurd hk (Nat.not_lt_zero _)⟩, fun k hk => absurd hk (Nat.not_lt_zero _), .inl ⟨rfl, rfl⟩⟩
  · simp [Value.cells] at hcs
    obtain ⟨rfl, rfl, rfl⟩ := hcs
    simp only [if_true] at hmm
    subst hmm
    simp only [Prod.mk.injEq] at hx
    have each : ∀ k, k < len → ∃ o : Pr, (0 ≤ o.2 ∧ o.2 < 18446744073709551616) ∧ ∃ g q, a = ⟨g, q, none⟩ ∧ W.cell? ⟨g, q + k * 2, none⟩ = some (.int .i64 o.1) ∧ W.cell? ⟨g, q + k * 2 + 1, none⟩ = some (.int .u64 o.2) := by
      intro k hk
      have hsp : a.spot = none := by
        obtain ⟨cs', h1, h2⟩ := hel 0 (by omega)
        rw [Try.c41] at h1
        obtain ⟨_, hlen, hc⟩ := World.cells?_some h1
        obtain ⟨o, hok, ho, _⟩ := open_startC h2
        have h0 := (hc 0 (by omega)).trans ho
        have := World.cell?_spot h0
        simpa [Addr.add] using this
      obtain ⟨cs', h1, h2⟩ := hel k (by omega)
      rw [Try.c41] at h1
      obtain ⟨_, hlen, hc⟩ := World.cells?_some h1
      obtain ⟨o, hok, ho0, ho1⟩ := open_startC h2
      obtain ⟨ab, aq, sp⟩ := a
      simp only at hsp
      subst hsp
      have e0 := (hc 0 (by omega)).trans ho0
      have e1 := (hc 1 (by omega)).trans ho1
      simp only [Addr.add_lit, Nat.add_zero] at e0 e1
      exact ⟨o, hok, ab, aq, rfl, e0, e1⟩
    have hin : Inhabited Pr := ⟨(0, 0)⟩
    obtain ⟨f, hf⟩ := choose_lt (α := Pr) (p := fun k o => (0 ≤ o.2 ∧ o.2 < 18446744073709551616) ∧ ∃ g q, a = ⟨g, q, none⟩ ∧ W.cell? ⟨g, q + k * 2, none⟩ = some (.int .i64 o.1) ∧ W.cell? ⟨g, q + k * 2 + 1, none⟩ = some (.int .u64 o.2)) each
    have hL : ((List.range len).map f).length = len := by simp
    have hA : ∀ k, k < len → sAt ((List.range len).map f) k = f k := fun k hk => by simp [sAt, hk]
    refine ⟨len, m, (List.range len).map f, hL, ⟨some a, m, by rw [hL], by rw [hL]; exact hl, by simp only [maxLen] at hm; omega, fun k hk => ?_⟩, fun k hk => ?_, .inr ⟨D, hx.1⟩⟩
    · rw [hL] at hk
      rw [hA k hk]
      obtain ⟨_, g, q, rfl, p1, p2⟩ := hf k hk
      exact ⟨g, q, rfl, p1, p2⟩
    · rw [hL] at hk
      rw [hA k hk]
      exact (hf k hk).1
end
end Go.Proofs.Ythoklgdlnmccmaa
