/- bytes.Clone, Out, NewReader, At, Left. -/
import Derived.Test.YtahhlmmdmjocdaaDoorWriter
namespace Go.Proofs.YtahhlmmdmjocdaaDoor
open Go.RowKit Go.Lib
set_option linter.unusedVariables false

set_option maxHeartbeats 2000000 in
set_option maxRecDepth 100000 in
theorem clone_at (a : Addr) (n c : Nat) (xs : List Int) (w : World) (hx : xs.length = n) (hbig : n ≤ 175921860444160)
    (hc : ∀ i, i < n → w.cell? (a.add i) = some (.int .u8 (xs.getD i 0))) :
    Calls Tryd.prog 23 #[.slice (some a) n c] w fun e w' => ∃ v', e = .returned v' ∧ w'.ownsRow w.heap.size 5 1 v' n (xs.map (Value.int .u8)) ∧ Below w.heap.size w w' := by
  obtain ⟨i0, hi, hz0, hz1, hz2⟩ := info_parts Tryd.info5
  have q22 : ∀ (w : World) (a : Option Addr) (n c n' c' : Nat), (binOp .eql 37 (.slice a n c) (.slice none n' c')).run Tryd.prog w = .ok (.bool a.isNone) w := fun w a n c n' c' => Lib.run_eql_slice_nil w _ _ a n c n' c' Tryd.underlying37
  have A : Hid (∀ i, i < n → w.cell? (a.add i) = some (.int .u8 (xs.getD i 0))) := hc
  clear hc
  go_enter Tryd.func23, Tryd.ntmps23
  go_wp2_with (at_builtin; refine wpList_append_own_wide _ rfl _ _ 37 rfl w.heap.size 5 i0 (.int .u8 0) 1 1 Tryd.underlying37 hi hz0 hz1 hz2 rfl (by decide) _ _ _ rfl (World.ownsRow_made w #[] 0 (Nat.le_refl _) (Nat.zero_le _) rfl) a n c (xs.map (Value.int .u8)) rfl ?qc1 ?qc2 ?qc3 ?qc4 ?qc5 ?qc6 ?_)
  case qc1 => simp; omega
  case qc2 =>
    intro j u hj
    have hjn : j < n := by
      have := (List.getElem?_eq_some_iff.1 hj).1
      simp at this
      omega
    refine Lib.cell?_alloc_some _ ?_
    rw [A.out j hjn]
    have e : (xs.map (Value.int .u8))[j]? = some (Value.int .u8 (xs.getD j 0)) := by simp [List.getD, List.getElem?_eq_getElem (show j < xs.length by omega)]
    rw [e] at hj
    exact hj
  case qc3 => intro u hu; obtain ⟨x, _, rfl⟩ := List.mem_map.1 hu; rfl
  case qc4 => unfold maxLen; omega
  case qc5 => omega
  case qc6 => simp
  intro v' w1 hown hgrow hnil
  go_wp2
  go_ret
  refine ⟨v', rfl, by simpa using hown, ?_⟩
  exact ((Below.refl _ w).alloc (Nat.le_refl _) _).grown hgrow (by simp) (by intro k hk; simp [Value.ownBlock] at hk; omega)

set_option maxHeartbeats 1000000 in
theorem clone_nil (n c : Nat) (w : World) :
    Calls Tryd.prog 23 #[.slice none n c] w fun e w' => e = .returned (.slice none 0 0) ∧ w' = w := by
  have q22 : ∀ (w : World) (a : Option Addr) (n c n' c' : Nat), (binOp .eql 37 (.slice a n c) (.slice none n' c')).run Tryd.prog w = .ok (.bool a.isNone) w := fun w a n c n' c' => Lib.run_eql_slice_nil w _ _ a n c n' c' Tryd.underlying37
  go_enter Tryd.func23, Tryd.ntmps23
  go_wp2
  go_ret
  exact ⟨rfl, rfl⟩

theorem clone_any (v : Value) (xs : List Int) (w : World) (h : RowAt .u8 w v xs) (hbig : xs.length ≤ 175921860444160) :
    Calls Tryd.prog 23 #[v] w fun e w' => ∃ v', e = .returned v' ∧ w'.ownsRow w.heap.size 5 1 v' xs.length (xs.map (Value.int .u8)) ∧ Below w.heap.size w w' := by
  obtain ⟨ao, c, rfl, hl, hm, hn, hc⟩ := h
  cases ao with
  | none =>
    refine (clone_nil _ _ _).mono ?_
    rintro e w' ⟨rfl, rfl⟩
    have h0 := hn rfl
    have h1 : xs = [] := List.eq_nil_of_length_eq_zero (by omega)
    subst h1
    exact ⟨_, rfl, World.ownsRow_nil _ _ _ _, Below.refl _ _⟩
  | some a => exact clone_at a _ c xs w rfl hbig (hc a rfl)

theorem own_shape {w : World} {B : Nat} {e : TypeId} {v : Value} {n : Nat} {xs : List Value} (h : w.ownsRow B e 1 v n xs) : ∃ ao c, v = .slice ao n c := by
  obtain ⟨_, ⟨rfl, h0⟩ | ⟨g', cap', cur', rfl, _⟩⟩ := h
  · exact ⟨none, 0, by rw [h0]⟩
  · exact ⟨_, _, rfl⟩

set_option maxRecDepth 100000 in
theorem out_any (w : World) (B b : Nat) (v : Value) (bs : List Int) (h : WOwn w B b v bs) (hbig : bs.length ≤ 175921860444160) :
    Calls Tryd.prog 14 #[.pointer (some ⟨b, 0, none⟩)] w fun e w' => ∃ ao c, e = .returned (.slice ao bs.length c) ∧ RowAt .u8 w' (.slice ao bs.length c) bs ∧ Below w.heap.size w w' := by
  have c0 := cell_of h.hb (i := 0) rfl
  have HC := hide (clone_any v bs w (RowAt.of_owns h.own) hbig)
  obtain ⟨ao, c, rfl⟩ := own_shape h.own
  clear h
  go_enter Tryd.func14, Tryd.ntmps14
  go_wp2_with fail
  refine HC.out.mono ?_
  rintro e w' ⟨v', rfl, hown, hb⟩
  have HO := hide hown; have HB := hide hb
  obtain ⟨ao', c', rfl⟩ := own_shape hown
  clear hown hb
  go_wp2
  go_ret
  exact ⟨ao', c', rfl, RowAt.of_owns HO.out, HB.out⟩

/-- A reader in memory. -/
def RdIs (w : World) (r : Nat) (bs : List Int) (at_ : Nat) : Prop :=
  ∃ ao c, w.heap[r]? = some (.cells #[.slice ao bs.length c, .int .i64 at_] 55 (0, 0)) ∧ RowAt .u8 w (.slice ao bs.length c) bs ∧ (ao = none ∨ ∃ g, ao = some ⟨g, 0, none⟩ ∧ g ≠ r)

set_option maxRecDepth 100000 in
theorem newReader_any (w : World) (v : Value) (bs : List Int) (h : RowAt .u8 w v bs) (hbig : bs.length ≤ 175921860444160) :
    Calls Tryd.prog 15 #[v] w fun e w' => ∃ r, e = .returned (.pointer (some ⟨r, 0, none⟩)) ∧ w.heap.size ≤ r ∧ RdIs w' r bs 0 ∧ Below w.heap.size w w' := by
  have HC := hide (clone_any v bs w h hbig)
  obtain ⟨ao, c, rfl⟩ : ∃ ao c, v = .slice ao bs.length c := by obtain ⟨ao, c, h, _⟩ := h; exact ⟨ao, c, h⟩
  clear h
  go_enter Tryd.func15, Tryd.ntmps15
  go_wp2_with fail
  refine HC.out.mono ?_
  rintro e w' ⟨v', rfl, hown, hb⟩
  have HO := hide hown; have HB := hide hb
  obtain ⟨ao', c', rfl⟩ := own_shape hown
  clear hown hb
  go_wp2
  go_ret
  have hal : Below w'.heap.size w' (w'.alloc (.cells #[.slice ao' bs.length c', .int .i64 0] 55)) := (Below.refl _ _).alloc (Nat.le_refl _) _
  refine ⟨w'.heap.size, rfl, HB.out.size, ⟨ao', c', heap_new _ _, (RowAt.of_owns HO.out).below hal, ?_⟩, HB.out.alloc HB.out.size _⟩
  obtain ⟨_, ⟨he, _⟩ | ⟨g', cap', cur', he, _, hh, _⟩⟩ := HO.out
  · simp only [Value.slice.injEq] at he; exact .inl he.1
  · simp only [Value.slice.injEq] at he; exact .inr ⟨g', he.1, Nat.ne_of_lt (lt_of_heap hh)⟩

set_option maxRecDepth 100000 in
theorem left_any (w : World) (r : Nat) (bs : List Int) (p : Nat) (h : RdIs w r bs p) (hp : p ≤ bs.length) (hbig : bs.length ≤ 175921860444160) : Calls Tryd.prog 28 #[.pointer (some ⟨r, 0, none⟩)] w fun e w' => e = .returned (.int .i64 ((bs.length : Int) - p)) ∧ Below w.heap.size w w' := by
  obtain ⟨ao, c, hh, _⟩ := h
  have c0 := cell_of hh (i := 0) rfl
  have c1 := cell_of hh (i := 1) rfl
  clear hh
  go_enter Tryd.func28, Tryd.ntmps28
  go_wp2
  go_region
  all_goals
    go_wp2
    go_ret
    exact ⟨rfl, (Below.refl _ _).drew⟩
end Go.Proofs.YtahhlmmdmjocdaaDoor
