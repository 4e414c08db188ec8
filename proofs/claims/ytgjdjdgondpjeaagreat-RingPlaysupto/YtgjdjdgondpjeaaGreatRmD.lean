/- From lay to the table; fits 8, handles 11, without 56; rows of tasks that are written over. -/
import Derived.Test.YtgjdjdgondpjeaaGreatLyC
import Derived.Test.YtgjdjdgondpjeaaGreatRiA
import Derived.Test.YtgjdjdgondpjeaaGreatHeB
import Derived.Deep.RegionHeld3
import Derived.Deep.AppendLies
import Derived.BigQuiet
namespace Go.Proofs.YtgjdjdgondpjeaaGreat
open Go.RowKit Go.Lib
set_option linter.unusedVariables false
set_option linter.unusedSimpArgs false
theorem gR_w64 {l : List Tk} (h : Tok l) (hl : l.length ≤ 65536) {i : Nat} (hi : i < 2 + 3 * 65536) : W64 (gR l l.length i) := by
  unfold gR
  split
  · exact ⟨by omega, by omega⟩
  · split
    · exact ⟨by omega, by omega⟩
    · split
      · rename_i h3
        split
        · exact ⟨by omega, by omega⟩
        · split
          · exact (h _ h3).1
          · exact (h _ h3).2
      · split
        · exact ⟨by omega, by omega⟩
        · exact ⟨by omega, by omega⟩
def tb0 (b C : Nat) (ab rb : Nat) (vP vH vG : Value) : Array Value := #[.int .i64 (b : Int), .int .i64 (C : Int), .pointer (some ⟨ab, 0, none⟩), vP, vH, .pointer (some ⟨rb, 0, none⟩), vG]
theorem s0_len (b C : Nat) (l : List Tk) : (s0 b C l).cells.length = b + (2 + 3 * C) := by
  show (pkb b _ _).length = _
  rw [pkb_len, tab_length]
theorem LL.rm {w wr : World} {X ab gc rb rc Y Y2 Z b C n : Nat} {l : List Tk} {vP vH vG : Value} {qs ps rs : Nat → Nat} (h : LL w wr X ab gc rb rc Y Y2 Z b C (s0 b C l) (s0 b C l) vP vH vG n n n n qs ps rs) (hn : 1 ≤ n ∧ n ≤ 64) (htk : Tok l) (hC1 : 2 ≤ C) (hC2 : C ≤ 65536) (hl : l.length ≤ C) :
    RM w wr X ab gc Y Z n (tb0 b C ab rb vP vH vG) (.slice none 0 0) (s0 b C l) vP vH qs ps (fun _ => .slice none 0 0) (fun _ => false) (fun _ => Hs.new) (fun _ => b) (fun _ => C) 0 := by
  refine ⟨h.bel, ⟨h.zl.1, h.zl.2.1, h.zl.2.2.1⟩, h.x, ⟨rfl, rfl, rfl⟩, h.ar, h.rp, h.rh, fun j hj => ⟨(h.ob j hj).1, TOwn.nil _ _⟩, fun j hj => (h.ob j hj).2.1, fun i j hij hj => ⟨(h.inj i j hij hj).1, (h.inj i j hij hj).2.1⟩, fun j hj => ⟨(h.lo j hj).1, (h.lo j hj).2.1⟩, fun j hj => ⟨⟨by decide, by decide, by decide, by decide, by decide⟩, hC1, hC2, by rw [s0_len]; omega⟩, fun i hi => ?_, rfl, rfl, Nat.zero_le _, hn⟩
  rw [s0_len] at hi
  show W64 (nth (pkb b (tab (2 + 3 * C) (gR l l.length)) (2 + 3 * C)) i)
  rw [pkb_at (by rw [tab_length]; exact hi)]
  split
  · exact ⟨by omega, by omega⟩
  · rw [if_pos (by omega), tab_at _ _ _ (by omega)]
    exact gR_w64 htk (by omega) (by omega)
set_option maxRecDepth 100000 in
theorem fits_any (b C : Int) (v : Value) (l : List Tk) (w : World) (hl : TAt w v l) (htk : Tok l) : Calls Tryz.prog 8 #[qAgg b C, v] w fun e w' => e = .returned (.bool (decide (errR b C l = 0))) ∧ Below w.heap.size w w' := by
  obtain ⟨W, hW⟩ : ∃ W, W = w.alloc (.cells #[.int .i64 b, .int .i64 C] 23) := ⟨_, rfl⟩
  have hbW : Below w.heap.size w W := by rw [hW]; exact below_alloc (Below.refl _ _) _
  have HF := hide (refFillR_any b C v l W (hl.below hbW) htk)
  have HB := hide hbW
  have hz : W.heap[w.heap.size]? = some (.cells #[.int .i64 b, .int .i64 C] 23 (0, 0)) := by rw [hW]; exact heap_new _ _
  have a0 := cell_of hz (i := 0) rfl; have a1 := cell_of hz (i := 1) rfl
  obtain ⟨ao, c, rfl, _⟩ := hl.shape
  rw [show decide (errR b C l = 0) = (errR b C l == 0) from rfl]
  generalize errR b C l = E at HF ⊢
  unfold qAgg at HF ⊢
  clear hl hbW hz
  rw [hW] at a0 a1
  go_enter Tryz.func8, Tryz.ntmps8
  go_wp2_with fail
  rw [← hW]
  clear hW a0 a1
  refine HF.out.mono ?_
  rintro e w2 ⟨rv, rfl, hr, hb⟩
  have HB2 := hide (below_on HB.out hb)
  obtain ⟨ro, rc, rfl⟩ := hr.shape
  clear hr hb
  go_wp2_with fail
  go_ret
  exact ⟨rfl, HB2.out⟩
def hN (n : Int) : Nat := if n < 1 then 1 else if n > 8 then 8 else n.toNat
theorem hN_le (n : Int) : 1 ≤ hN n ∧ hN n ≤ 8 := by unfold hN; split <;> (try split) <;> omega
theorem handles_any (n : Int) (w : World) : Calls Tryz.prog 11 #[.int .i64 n] w fun e w' => e = .returned (.int .i64 (hN n)) ∧ w' = w := by
  unfold hN
  by_cases h1 : n < 1
  · rw [if_pos h1]
    go_enter Tryz.func11, Tryz.ntmps11
    go_wp2
    go_ret
    exact ⟨rfl, rfl⟩
  · rw [if_neg h1]
    by_cases h2 : n > 8
    · rw [if_pos h2]
      have h2' : (8 : Int) < n := h2
      go_enter Tryz.func11, Tryz.ntmps11
      go_wp2
      go_ret
      exact ⟨rfl, rfl⟩
    · rw [if_neg h2]
      have h2' : ¬ (8 : Int) < n := h2
      have e : ((n.toNat : Nat) : Int) = n := by omega
      rw [e]
      go_enter Tryz.func11, Tryz.ntmps11
      go_wp2
      go_ret
      exact ⟨rfl, rfl⟩
theorem eql_task (a0 a1 b0 b1 : Int) (w : World) :
    (binOp .eql 42 (.agg #[.int .u64 a0, .int .u64 a1]) (.agg #[.int .u64 b0, .int .u64 b1])).run Tryz.prog w = .ok (.bool (a0 == b0 && (a1 == b1 && true))) w := by
  have h : (Op.equalIn 10000 42 (.agg #[.int .u64 a0, .int .u64 a1]) (.agg #[.int .u64 b0, .int .u64 b1])).run Tryz.prog w = .ok (a0 == b0 && (a1 == b1 && true)) w := by
    rw [show (10000 : Nat) = 9998 + 1 + 1 from rfl, run_equalIn_struct w (9998 + 1) 42 _ _ Tryz.fields42 Tryz.held42, Tryz.list42]
    refine field_int (by decide) Tryz.underlying40 (part32 _ _ _ _ rfl) (part32 _ _ _ _ rfl) ?_
    refine field_int (by decide) Tryz.underlying40 (part32 _ _ _ _ rfl) (part32 _ _ _ _ rfl) ?_
    simp [Op.eqFields]
  rw [run_eql_struct, h, Result.andThen_ok]
set_option maxRecDepth 100000 in
theorem eql_yes {a b : Tk} (h : a = b) (w : World) : (binOp .eql 42 (.agg #[.int .u64 a.1, .int .u64 a.2]) (.agg #[.int .u64 b.1, .int .u64 b.2])).run Tryz.prog w = .ok (.bool true) w := by
  subst h; rw [eql_task]; simp
set_option maxRecDepth 100000 in
theorem eql_not {a b : Tk} (h : a ≠ b) (w : World) : (binOp .eql 42 (.agg #[.int .u64 a.1, .int .u64 a.2]) (.agg #[.int .u64 b.1, .int .u64 b.2])).run Tryz.prog w = .ok (.bool false) w := by
  rw [eql_task]
  congr 2
  rw [Bool.eq_false_iff]
  intro q
  have q' : (a.1 == b.1 && (a.2 == b.2 && true)) = true := q
  rw [Bool.and_eq_true, Bool.and_eq_true] at q'
  exact h (Prod.ext (by simpa using q'.1) (by simpa using q'.2.1))
/-- The tasks gone through without the first t. -/
theorem wo_step (l : List Tk) (t : Tk) (i : Nat) (hi : i < l.length) : (l.take (i + 1)).erase t = if tAt l i = t ∧ t ∉ l.take i then (l.take i).erase t else (l.take i).erase t ++ [tAt l i] := by
  have e : l.take (i + 1) = l.take i ++ [tAt l i] := by
    rw [List.take_add_one]
    simp [tAt, List.getElem?_eq_getElem hi]
  rw [e, List.erase_append]
  by_cases h : t ∈ l.take i
  · rw [if_pos h, if_neg (fun z => z.2 h)]
  · rw [if_neg h]
    by_cases h2 : tAt l i = t
    · rw [if_pos ⟨h2, h⟩, h2]
      simp [List.erase_of_not_mem h]
    · rw [if_neg (fun z => h2 z.1), List.erase_of_not_mem h]
      simp [List.erase_cons, h2]
theorem wo_mem (l : List Tk) (t : Tk) (i : Nat) (hi : i < l.length) : decide (t ∈ l.take (i + 1)) = (decide (t ∈ l.take i) || decide (tAt l i = t)) := by
  have e : l.take (i + 1) = l.take i ++ [tAt l i] := by
    rw [List.take_add_one]
    simp [tAt, List.getElem?_eq_getElem hi]
  rw [e]
  rw [Bool.eq_iff_iff]
  simp only [decide_eq_true_eq, Bool.or_eq_true, List.mem_append, List.mem_singleton]
  exact ⟨fun h => h.imp id Eq.symm, fun h => h.imp id Eq.symm⟩
def WoP (w : World) (l : List Tk) (t : Tk) (e : Ending) (w' : World) : Prop := ∃ u, e = .returned (.tuple #[u, .bool (decide (t ∈ l))]) ∧ TOwn w' w.heap.size u (l.erase t) ∧ Below w.heap.size w w'
set_option maxRecDepth 100000 in
set_option maxHeartbeats 4000000 in
theorem without_any (v : Value) (l : List Tk) (t : Tk) (w : World) (hl : TAt w v l) (hlen : l.length ≤ 4194304) : Calls Tryz.prog 56 #[v, .agg #[.int .u64 t.1, .int .u64 t.2]] w (WoP w l t) := by
  obtain ⟨W, hW⟩ : ∃ W, W = w.alloc (.cells #[.int .u64 t.1, .int .u64 t.2] 42) := ⟨_, rfl⟩
  have hbW : Below w.heap.size w W := by rw [hW]; exact below_alloc (Below.refl _ _) _
  have HZ := hide (show W.heap[w.heap.size]? = some (.cells #[.int .u64 t.1, .int .u64 t.2] 42 (0, 0)) by rw [hW]; exact heap_new _ _)
  have HB := hide hbW
  have HZS := hide (show w.heap.size < W.heap.size from lt_of_heap HZ.out)
  have HL := hide (fun V (k : Below w.heap.size w V) => (hl.below k))
  obtain ⟨ao, c, rfl, hc, hm⟩ := hl.shape
  obtain ⟨i0, hi, hz0, hz1, hz2⟩ := info_parts Tryz.info42
  obtain ⟨n, hn⟩ : ∃ n, n = l.length := ⟨_, rfl⟩
  have HN := hide hn
  rw [← hn] at HL hc hlen ⊢
  clear hl hbW hn
  go_enter Tryz.func56, Tryz.ntmps56
  go_wp2_with fail
  rw [← hW]
  clear hW
  go_loopw [6, 7, 8] (fun u f tt wq => ∃ i : Nat, i ≤ n ∧ tt = .int .i64 (i : Int) ∧ f = .bool (decide (t ∈ l.take i)) ∧ TOwn wq (w.heap.size + 1) u ((l.take i).erase t) ∧ Below w.heap.size w wq ∧ wq.heap[w.heap.size]? = some (.cells #[.int .u64 t.1, .int .u64 t.2] 42 (0, 0))) (fun _ _ tt _ => n - (RowKit.intOf tt).toNat)
  case atStart => exact ⟨0, by omega, rfl, by simp, by simp; exact TOwn.nil _ _, HB.out, HZ.out⟩
  case round =>
    obtain ⟨i, hin, rfl, rfl, hto, hbl, hz⟩ := hrel
    have HTO := hide hto; have HBL := hide hbl; have HZ1 := hide hz
    obtain ⟨au, cu, rfl, lu, _⟩ := hto.tat.shape
    by_cases hlt : i < n
    · have hll : i < l.length := by rw [← HN.out]; exact hlt
      have hli : (i : Int) < (n : Int) := by omega
      obtain ⟨g, o, he, p0, p1⟩ := (HL.out wr hbl).cellAt i hll
      subst he
      have z0 := cell_of hz (i := 0) rfl; have z1 := cell_of hz (i := 1) rfl
      have HW2 := hide (wo_step l t i hll)
      have HW3 := hide (wo_mem l t i hll)
      have HLE := hide (show ((l.take i).erase t).length ≤ i from by
        have := List.length_erase_le (a := t) (l := l.take i)
        rw [List.length_take] at this
        omega)
      have HEY := hide (fun (h : tAt l i = t) w => eql_yes h w)
      have HEN := hide (fun (h : tAt l i ≠ t) w => eql_not h w)
      have HCE : Hid (∀ V, Below wr.heap.size wr V → V.cell? ⟨g, o + i * 2, none⟩ = some (.int .u64 (tAt l i).1) ∧ V.cell? ⟨g, o + i * 2 + 1, none⟩ = some (.int .u64 (tAt l i).2)) := hide (fun V k => ⟨(below_cell k (block_of_cell p0)).trans p0, (below_cell k (block_of_cell p1)).trans p1⟩)
      generalize tAt l i = x at HW2 HW3 HEY HEN p0 p1 HCE
      generalize hL0 : (l.take i).erase t = L0 at HTO HW2 HLE lu hto
      generalize hf : decide (t ∈ l.take i) = f at HW3
      have hf' : (t ∉ l.take i) ↔ f = false := by rw [← hf]; simp
      have HF := hide hf'
      have hwr : IntKind.i64.wrap ((i : Int) + 1) = (i : Int) + 1 := IntWalk.i64_in _ (by omega)
      clear hto hbl hz hf hf' hL0
      obtain ⟨x1, x2⟩ := x
      obtain ⟨t1, t2⟩ := t
      simp only at p0 p1 z0 z1 HEY HEN HCE
      have HSZ := hide HBL.out.size
      have HSW : Hid (w.heap.size < wr.heap.size) := hide (lt_of_heap HZ1.out)
      by_cases hx : (x1, x2) = (t1, t2)
      · have hq := HEY.out hx
        have HX := hide hx
        clear hx HEY HEN
        cases f with
        | true =>
          go_upto_region 6 with fail
          go_quiet (fail)
          obtain ⟨wq, hwq⟩ : ∃ wq, wq = wr.drewN nq := ⟨_, rfl⟩
          have hbq : Below wr.heap.size wr wq := by rw [hwq]; exact below_drN _ _
          rw [← hwq]
          clear hwq p0 p1 z0 z1
          obtain ⟨p0, p1⟩ := HCE.out wq hbq
          have HBQ := hide hbq
          have HTQ := hide (HTO.out.below hbq)
          clear hbq hq
          go_wp2_with (at_builtin; refine wpList_append_lies _ rfl (.tmp 25) (.tmp 30) 24 rfl (w.heap.size + 1) 42 i0 (.agg #[.int .u64 0, .int .u64 0]) 2 16 Tryz.underlying24 hi hz0 hz1 hz2 rfl (by omega) _ L0.length (tCells L0) rfl (HTQ.out.alloc _) ⟨wq.heap.size, 0, none⟩ 1 1 [.int .u64 x1, .int .u64 x2] rfl rfl (two_at wq _ _ _) (by simp [Value.oneCell']) (by omega) (by have := HLE.out; unfold maxLen; omega) (by have := HLE.out; omega) (by have := HBQ.out.size; have := HSW.out; simp; omega) _ rfl ?_; intro g6 cap6 w6 hown hgrow _ _; have HW6 := hide (show TOwn w6 (w.heap.size + 1) (.slice (some ⟨g6, 0, none⟩) (L0.length + 1) cap6) (L0 ++ [(x1, x2)]) by unfold TOwn; rw [tCells_app, List.length_append]; exact hown); have HB6 := hide ((below_alloc (below_on HBL.out HBQ.out) _).grown hgrow (by have := HSZ.out; have := HBQ.out.size; simp; omega) (fun k e => by have := (World.ownsRow.lt HTQ.out k e).1; omega)); have HZ6 := hide (show w6.heap[w.heap.size]? = some (.cells #[.int .u64 t1, .int .u64 t2] 42 (0, 0)) from (hgrow.block _ (by have := HSW.out; have := HBQ.out.size; simp; omega) (fun e => by have := (World.ownsRow.lt HTQ.out _ e.symm).1; omega)).trans ((Below.heap_alloc _ _ _ (by have := HSW.out; have := HBQ.out.size; omega)).trans ((HBQ.out.block _ HSW.out).trans HZ1.out))); clear hown hgrow)
          exact ⟨⟨i + 1, hlt, by simp, by rw [HW3.out]; rfl, by rw [HW2.out, if_neg (fun z => by have := HF.out.1 z.2; cases this)]; exact HW6.out, HB6.out, HZ6.out⟩, by simp [RowKit.intOf]; omega⟩

        | false =>
          go_upto_region 6 with fail
          go_quiet (fail)
          obtain ⟨wq, hwq⟩ : ∃ wq, wq = wr.drewN nq := ⟨_, rfl⟩
          have hbq : Below wr.heap.size wr wq := by rw [hwq]; exact below_drN _ _
          rw [← hwq]
          clear hwq p0 p1 z0 z1
          have HBQ := hide hbq
          have HTQ := hide (HTO.out.below hbq)
          clear hbq hq
          go_wp2_with fail
          exact ⟨⟨i + 1, hlt, by simp, by rw [HW3.out]; have := HX.out; simp at this ⊢; exact this, by rw [HW2.out, if_pos ⟨HX.out, HF.out.2 rfl⟩]; exact HTQ.out, below_on HBL.out HBQ.out, (HBQ.out.block _ HSW.out).trans HZ1.out⟩, by simp [RowKit.intOf]; omega⟩
      · have hq := HEN.out hx
        have HX := hide hx
        clear hx HEY HEN
        cases f with
        | true =>
          go_upto_region 6 with fail
          go_quiet (fail)
          obtain ⟨wq, hwq⟩ : ∃ wq, wq = wr.drewN nq := ⟨_, rfl⟩
          have hbq : Below wr.heap.size wr wq := by rw [hwq]; exact below_drN _ _
          rw [← hwq]
          clear hwq p0 p1 z0 z1
          obtain ⟨p0, p1⟩ := HCE.out wq hbq
          have HBQ := hide hbq
          have HTQ := hide (HTO.out.below hbq)
          clear hbq hq
          go_wp2_with (at_builtin; refine wpList_append_lies _ rfl (.tmp 25) (.tmp 30) 24 rfl (w.heap.size + 1) 42 i0 (.agg #[.int .u64 0, .int .u64 0]) 2 16 Tryz.underlying24 hi hz0 hz1 hz2 rfl (by omega) _ L0.length (tCells L0) rfl (HTQ.out.alloc _) ⟨wq.heap.size, 0, none⟩ 1 1 [.int .u64 x1, .int .u64 x2] rfl rfl (two_at wq _ _ _) (by simp [Value.oneCell']) (by omega) (by have := HLE.out; unfold maxLen; omega) (by have := HLE.out; omega) (by have := HBQ.out.size; have := HSW.out; simp; omega) _ rfl ?_; intro g6 cap6 w6 hown hgrow _ _; have HW6 := hide (show TOwn w6 (w.heap.size + 1) (.slice (some ⟨g6, 0, none⟩) (L0.length + 1) cap6) (L0 ++ [(x1, x2)]) by unfold TOwn; rw [tCells_app, List.length_append]; exact hown); have HB6 := hide ((below_alloc (below_on HBL.out HBQ.out) _).grown hgrow (by have := HSZ.out; have := HBQ.out.size; simp; omega) (fun k e => by have := (World.ownsRow.lt HTQ.out k e).1; omega)); have HZ6 := hide (show w6.heap[w.heap.size]? = some (.cells #[.int .u64 t1, .int .u64 t2] 42 (0, 0)) from (hgrow.block _ (by have := HSW.out; have := HBQ.out.size; simp; omega) (fun e => by have := (World.ownsRow.lt HTQ.out _ e.symm).1; omega)).trans ((Below.heap_alloc _ _ _ (by have := HSW.out; have := HBQ.out.size; omega)).trans ((HBQ.out.block _ HSW.out).trans HZ1.out))); clear hown hgrow)
          exact ⟨⟨i + 1, hlt, by simp, by rw [HW3.out]; rfl, by rw [HW2.out, if_neg (fun z => HX.out z.1)]; exact HW6.out, HB6.out, HZ6.out⟩, by simp [RowKit.intOf]; omega⟩

        | false =>
          go_upto_region 6 with fail
          go_quiet (fail)
          obtain ⟨wq, hwq⟩ : ∃ wq, wq = wr.drewN nq := ⟨_, rfl⟩
          have hbq : Below wr.heap.size wr wq := by rw [hwq]; exact below_drN _ _
          rw [← hwq]
          clear hwq p0 p1 z0 z1
          obtain ⟨p0, p1⟩ := HCE.out wq hbq
          have HBQ := hide hbq
          have HTQ := hide (HTO.out.below hbq)
          clear hbq hq
          go_wp2_with (at_builtin; refine wpList_append_lies _ rfl (.tmp 25) (.tmp 30) 24 rfl (w.heap.size + 1) 42 i0 (.agg #[.int .u64 0, .int .u64 0]) 2 16 Tryz.underlying24 hi hz0 hz1 hz2 rfl (by omega) _ L0.length (tCells L0) rfl (HTQ.out.alloc _) ⟨wq.heap.size, 0, none⟩ 1 1 [.int .u64 x1, .int .u64 x2] rfl rfl (two_at wq _ _ _) (by simp [Value.oneCell']) (by omega) (by have := HLE.out; unfold maxLen; omega) (by have := HLE.out; omega) (by have := HBQ.out.size; have := HSW.out; simp; omega) _ rfl ?_; intro g6 cap6 w6 hown hgrow _ _; have HW6 := hide (show TOwn w6 (w.heap.size + 1) (.slice (some ⟨g6, 0, none⟩) (L0.length + 1) cap6) (L0 ++ [(x1, x2)]) by unfold TOwn; rw [tCells_app, List.length_append]; exact hown); have HB6 := hide ((below_alloc (below_on HBL.out HBQ.out) _).grown hgrow (by have := HSZ.out; have := HBQ.out.size; simp; omega) (fun k e => by have := (World.ownsRow.lt HTQ.out k e).1; omega)); have HZ6 := hide (show w6.heap[w.heap.size]? = some (.cells #[.int .u64 t1, .int .u64 t2] 42 (0, 0)) from (hgrow.block _ (by have := HSW.out; have := HBQ.out.size; simp; omega) (fun e => by have := (World.ownsRow.lt HTQ.out _ e.symm).1; omega)).trans ((Below.heap_alloc _ _ _ (by have := HSW.out; have := HBQ.out.size; omega)).trans ((HBQ.out.block _ HSW.out).trans HZ1.out))); clear hown hgrow)
          exact ⟨⟨i + 1, hlt, by simp, by rw [HW3.out]; have := HX.out; simp at this ⊢; exact this, by rw [HW2.out, if_neg (fun z => HX.out z.1)]; exact HW6.out, HB6.out, HZ6.out⟩, by simp [RowKit.intOf]; omega⟩

    · obtain rfl : i = n := by omega
      have hll : l.length ≤ i := by rw [← HN.out]; exact Nat.le_refl _
      go_wp2_with fail
      go_ret2
      rw [show WoP w l t = WoP w (l.take i) t by rw [List.take_of_length_le hll]]
      exact ⟨.slice au ((l.take i).erase t).length cu, rfl, own_lower HTO.out (Nat.le_succ _), HBL.out⟩
end Go.Proofs.YtgjdjdgondpjeaaGreat
