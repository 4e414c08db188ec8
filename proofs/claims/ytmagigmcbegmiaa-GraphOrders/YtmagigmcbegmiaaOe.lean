/- GraphOrders: one call after the other; the order turned round in place. -/
import Derived.Test.YtmagigmcbegmiaaOd
import Derived.Test.YtmagigmcbegmiaaSf
import Derived.Test.YtmagigmcbegmiaaTn
import Derived.Laws.CopyRow
namespace Go.Proofs.Ytmagigmcbegmiaa
open Go.RowKit Go.Lib
set_option linter.unusedVariables false
set_option linter.unusedSimpArgs false
/-- The book behind k calls of orders; all below it is as it was. -/
structure BO (B : Nat) (X0 y : World) (k : Nat) : Prop where
  ex : ∃ L1 L2 ls1 ls2, Bk B B y L1 L2 ls1 ls2 ∧ L1.length = 4 * k ∧ L2.length = k ∧ (∀ l ∈ ls1, l.length ≤ 1099511627776) ∧ (∀ l ∈ ls2, l.length ≤ 1099511627776)
  bel : Below B X0 y
theorem BO.start (x : World) : BO x.heap.size x (x.alloc (.cells #[.slice none 0 0, .slice none 0 0, .slice none 0 0] 56)) 0 :=
  ⟨⟨[], [], [], [], bk_new x, rfl, rfl, by simp, by simp⟩, below_alloc (Below.refl _ _) _⟩
theorem BO.on {B k : Nat} {X0 y y' : World} (h : BO B X0 y k) (hb : Below y.heap.size y y') : BO B X0 y' k := by
  obtain ⟨L1, L2, ls1, ls2, hk, r⟩ := h.ex
  refine ⟨⟨L1, L2, ls1, ls2, ⟨(hk.h.below hb).up hb.size, hk.l1.stay (fun b cur hc => hb.block b (lt_of_heap hc)), hk.l2.stay (fun b cur hc => hb.block b (lt_of_heap hc))⟩, r⟩, h.bel.trans (hb.mono (by have := hk.h.lt; omega))⟩
theorem BO.size {B k : Nat} {X0 y : World} (h : BO B X0 y k) : B < y.heap.size := by
  obtain ⟨L1, L2, ls1, ls2, hk, r⟩ := h.ex
  exact hk.h.lt
theorem BO.step {B k : Nat} {X0 y : World} {N : Int} {va vb vc va' vb' vc' ow ov : Value} {st tl wt o : List Int} {c : Int} (h : BO B X0 y k) (hk : k ≤ 100) (hg : GIs y N va vb vc st tl wt) (hg' : GIs y N va' vb' vc' st tl wt) (hst : st.length ≤ 17592186044416) (hto : tl.length ≤ 17592186044416) (hwt : wt.length ≤ 17592186044416) (hw : ∀ e, 0 ≤ at_ wt e) (ho : RowAt .i64 y ow o) (ho' : RowAt .i64 y ov o) :
    Calls Try.prog 38 #[.pointer (some ⟨B, 0, none⟩), gAgg N va vb vc, gAgg N va' vb' vc', ow, ov, .int .i64 c] y fun e y' => e = .returned (.bool true) ∧ BO B X0 y' (k + 1) := by
  obtain ⟨L1, L2, ls1, ls2, hb, e1, e2, q1, q2⟩ := h.ex
  refine (orders_any B B N va vb vc va' vb' vc' ow ov st tl wt o c L1 L2 y hb.h hg hg' hst hto hwt hw ho ho' (by omega) (by omega)).mono ?_
  rintro e w' ⟨rfl, hd, lv, xv, ga, gb, gc, l, x, a, b, d, hbk, hod⟩
  refine ⟨rfl, ⟨L1 ++ [lv, xv, ga, gb], L2 ++ [gc], ls1 ++ [l, x, a, b], ls2 ++ [d], hb.moreO hod (Nat.le_refl _) hbk hd.keep, by simp; omega, by simp; omega, fun m hm => ?_, fun m hm => ?_⟩, h.bel.trans hd.low_below⟩
  · simp only [List.mem_append, List.mem_cons, List.not_mem_nil, or_false] at hm
    rcases hm with hm | rfl | rfl | rfl | rfl
    · exact q1 m hm
    · exact hod.len.1
    · exact hod.len.2
    · exact hod.og.len.1
    · exact hod.og.len.2.1
  · simp only [List.mem_append, List.mem_cons, List.not_mem_nil, or_false] at hm
    rcases hm with hm | rfl
    · exact q2 m hm
    · exact hod.og.len.2.2
/-- The book behind apart. -/
structure BOT (B : Nat) (X0 y : World) (k : Nat) : Prop where
  ex : ∃ L1 L2, BkH B y.heap.size B y L1 L2 ∧ L1.length = 4 * k ∧ L2.length = k
  bel : Below B X0 y
theorem BO.apart {B k : Nat} {X0 y : World} (h : BO B X0 y k) (hk : k ≤ 100) : Calls Try.prog 22 #[.pointer (some ⟨B, 0, none⟩)] y fun e y' => e = .returned (.bool true) ∧ BOT B X0 y' k := by
  obtain ⟨L1, L2, ls1, ls2, hb, e1, e2, q1, q2⟩ := h.ex
  refine (apart_any B y.heap.size B L1 L2 ls1 ls2 y hb.h hb.l1 hb.l2 (by omega) (by omega) (nsL_all q1) (nsL_all q2)).mono ?_
  rintro e w' ⟨rfl, hf⟩
  obtain ⟨p1, p2⟩ := hb.apart hf
  exact ⟨rfl, ⟨L1, L2, p1, e1, e2⟩, h.bel.trans p2⟩
/-- What only turns blocks below B leaves the book as it is. -/
theorem BkH.high {B : Nat} {w w' : World} {L1 L2 : List Value} (h : BkH B w.heap.size B w L1 L2) (hs : w.heap.size ≤ w'.heap.size) (hc : ∀ k, B ≤ k → k < w.heap.size → w'.heap[k]? = w.heap[k]?) : BkH B w'.heap.size B w' L1 L2 := by
  obtain ⟨v1, v2, h1, h2, h3, h4, h5⟩ := h.ex
  exact ⟨⟨v1, v2, (hc _ (Nat.le_refl _) (lt_of_heap h1)).trans h1, ownA_stay h2 (fun g hg => hc g (h2.lt g hg).1 (h2.lt g hg).2), ownA_stay h3 (fun g hg => hc g (h3.lt g hg).1 (h3.lt g hg).2), fun g hg => Nat.lt_of_lt_of_le (h4 g hg) hs, fun g hg => Nat.lt_of_lt_of_le (h5 g hg) hs⟩, h.le, Nat.lt_of_lt_of_le h.lt hs⟩
/-- A last call, behind apart: whatever lies there now. -/
theorem BkH.last {B : Nat} {y : World} {L1 L2 : List Value} {N : Int} {va vb vc va' vb' vc' ow ov : Value} {st tl wt o : List Int} {c : Int} (h : BkH B y.heap.size B y L1 L2) (hl1 : L1.length ≤ 900) (hl2 : L2.length ≤ 900) (hg : GIs y N va vb vc st tl wt) (hg' : GIs y N va' vb' vc' st tl wt) (hst : st.length ≤ 17592186044416) (hto : tl.length ≤ 17592186044416) (hwt : wt.length ≤ 17592186044416) (hw : ∀ e, 0 ≤ at_ wt e) (ho : RowAt .i64 y ow o) (ho' : RowAt .i64 y ov o) :
    Calls Try.prog 38 #[.pointer (some ⟨B, 0, none⟩), gAgg N va vb vc, gAgg N va' vb' vc', ow, ov, .int .i64 c] y fun e y' => e = .returned (.bool true) ∧ Below B y y' ∧ ∀ (b : Nat) (cur : Array Value) (t : TypeId), y.heap[b]? = some (.cells cur t (0, 0)) → t ≠ 22 → t ≠ 23 → t ≠ 56 → y'.heap[b]? = y.heap[b]? := by
  refine (orders_any B B N va vb vc va' vb' vc' ow ov st tl wt o c L1 L2 y h hg hg' hst hto hwt hw ho ho' hl1 hl2).mono ?_
  rintro e w' ⟨rfl, hd, _⟩
  exact ⟨rfl, hd.low_below, hd.keep⟩
/-- The list whose head is written over by another of its length. -/
theorem size3 : (Try.prog.info? 3).map (·.size) = some 1 := by kernel_rfl
theorem copy_full {w : World} {g n cap : Nat} {xs ys : List Int} {m1 m2 : Int} {bo : Option Addr} {bc : Nat} (h : FI .i64 3 w g (xs ++ [m1, m2])) (hx : xs.length = n) (hr : RowAt .i64 w (.slice bo n bc) ys) (hy : ys.length = n) :
    ∃ w', (Builtin.copy_ #[22, 22] 3 #[.slice (some ⟨g, 0, none⟩) (n + 2) cap, .slice bo n bc]).run Try.prog w = .ok (goInt n) w' ∧ FI .i64 3 w' g (ys ++ [m1, m2]) ∧ w'.heap.size = w.heap.size ∧ Chg (fun k => k = g) w w' := by
  obtain ⟨T, hT⟩ := h
  rcases Nat.eq_zero_or_pos n with h0 | h0
  · subst h0
    obtain rfl : xs = [] := List.eq_nil_of_length_eq_zero hx
    obtain rfl : ys = [] := List.eq_nil_of_length_eq_zero hy
    refine ⟨w, ?_, ⟨T, hT⟩, rfl, Chg.refl _ _⟩
    cases bo with
    | none =>
      obtain ⟨_, _, he, _, _, h3, _⟩ := hr
      simp only [Value.slice.injEq] at he
      obtain ⟨rfl, _, rfl⟩ := he
      have : bc = 0 := by simpa using h3 rfl
      subst this
      exact run_copy_nil Try.prog w 22 22 3 3 _ _ _ Try.underlying22 (by rw [size3]; rfl)
    | some a =>
      have := run_copy_row Try.prog w 22 22 3 3 g 0 2 cap a 0 bc _ 3 [] Try.underlying22 size3 hT (by simp) (fun j v hj => by simp at hj) (by simp) (fun v hv => by simp at hv)
      simp only [Nat.zero_add] at this ⊢
      rw [this]
      simp only [List.length_nil, List.take_zero, Nat.add_zero, List.drop_zero, List.append_nil, List.nil_append, Array.toArray_toList]
      simp only [List.nil_append] at hT
      rw [setRow_self w g _ 3 (0, 0) hT]
  · obtain ⟨ao, c', he, h1, h2, h3, h4⟩ := hr
    simp only [Value.slice.injEq] at he
    obtain ⟨rfl, _, rfl⟩ := he
    cases bo with
    | none => have := h3 rfl; omega
    | some a =>
      have := run_copy_row Try.prog w 22 22 3 3 g 0 (n + 2) cap a n bc _ 3 (ys.map (Value.int .i64)) Try.underlying22 size3 hT (by simp [hy]) (fun j v hj => ?_) (by simp [hx, hy]) (fun v hv => by simp at hv; obtain ⟨a, _, rfl⟩ := hv; rfl)
      · simp only [List.length_map, hy] at this
        refine ⟨_, this, ⟨T, ?_⟩, by simp [World.setRow], ⟨rfl, rfl, rfl, by simp [World.setRow], fun k hk hn => setRow_other _ _ _ _ hn⟩⟩
        rw [setRow_heap _ _ _ _ _ _ hT]
        have e : n = (xs.map (Value.int .i64)).length := by simp [hx]
        have e2 : List.take 0 (List.map (Value.int .i64) (xs ++ [m1, m2]) ++ T) ++ List.map (Value.int .i64) ys ++ List.drop (0 + n) (List.map (Value.int .i64) (xs ++ [m1, m2]) ++ T) = List.map (Value.int .i64) (ys ++ [m1, m2]) ++ T := by
          simp only [List.take_zero, List.nil_append, Nat.zero_add, List.map_append, List.append_assoc]
          rw [e, List.drop_left]
        simp only [e2]
      · have hjl : j < ys.length := by have := (List.getElem?_eq_some_iff.1 hj).1; simpa using this
        rw [h4 a rfl j hjl, ← hj]
        simp [List.getD, hjl]
end Go.Proofs.Ytmagigmcbegmiaa
