import Derived.Test.YtgjdjdgondpjeaaGreatRmC
import Derived.Test.YtgjdjdgondpjeaaGreatHh
import Derived.Deep.RegionHeld3
import Derived.Deep.RegionWith
import Derived.Deep.AppendLies
/- inHand 61 of any handle; Held 20 with handles at any phase. -/
namespace Go.Proofs.YtgjdjdgondpjeaaGreat
open Go.RowKit Go.Lib Go.MuLone
set_option linter.unusedVariables false
set_option linter.unusedSimpArgs false
section
variable {w : World} {q b C : Nat} {d : Hs} {v : Value} {xs : List Int}
set_option maxRecDepth 100000 in
set_option maxHeartbeats 4000000 in
theorem inHand_any (cv : Value) (h : w.heap[q]? = some (HObj b C d v)) (hr : RowAt .u64 w cv xs) (hC1 : 2 ≤ C) (hC2 : C ≤ 65536) (hb : b ≤ 16777216) (hlen : b + 2 + 3 * C ≤ xs.length) (hpl : 0 ≤ d.place ∧ d.place < 18446744073709551616) (hph : d.ph ≤ 12) :
    Calls Tryz.prog 61 #[.pointer (some ⟨q, 0, none⟩), cv] w fun e w' => ∃ u, e = .returned u ∧ TOwn w' w.heap.size u (hand b C xs d) ∧ Below w.heap.size w w' := by
  obtain ⟨g, o, c, rfl, hnc, _⟩ := hr.cellAt 0 (by omega)
  obtain ⟨ky, hky⟩ : ∃ p, p = d.t.1 := ⟨_, rfl⟩
  obtain ⟨ld, hld⟩ : ∃ p, p = d.t.2 := ⟨_, rfl⟩
  have HT2 : Hid (d.t = (ky, ld)) := by unfold Hid; rw [hky, hld]
  have HH := hide h
  unfold HObj at h
  rw [← hky, ← hld] at h
  by_cases k1 : 1 ≤ d.ph ∧ d.ph ≤ 6
  · have HD : Hid (hand b C xs d = [(ky, ld)]) := by unfold Hid hand; rw [if_pos k1, HT2.out]
    rw [HD.out]
    clear hky hld HD hr
    rcases (show d.ph = 1 ∨ d.ph = 2 ∨ d.ph = 3 ∨ d.ph = 4 ∨ d.ph = 5 ∨ d.ph = 6 by omega) with e | e | e | e | e | e
    all_goals
      rw [e] at h
      have c2 := cell_of h (i := 2) rfl; have c4 := cell_of h (i := 4) rfl; have c5 := cell_of h (i := 5) rfl
      clear h e k1
      go_enter Tryz.func61, Tryz.ntmps61
      go_wp2_with fail
      go_ret
      exact ⟨_, rfl, t_one (heap_new _ _) (Nat.le_refl _), below_alloc (Below.refl _ _) _⟩
  · by_cases k2 : 10 ≤ d.ph
    · have HD : Hid (hand b C xs d = [(nth xs (turnN b C d.place + 1), nth xs (turnN b C d.place + 2))]) := by unfold Hid hand; rw [if_neg k1, if_pos k2]
      rw [HD.out]
      obtain ⟨sl1, sl2⟩ := slotN_lt (C := C) d.place hC1
      obtain ⟨_, _, c', he1, _, hc1⟩ := hr.cellAt (turnN b C d.place + 1) (by unfold turnN; omega)
      obtain ⟨_, _, c'', he2, _, hc2⟩ := hr.cellAt (turnN b C d.place + 2) (by unfold turnN; omega)
      simp only [Value.slice.injEq, Option.some.injEq, Addr.mk.injEq, and_true, true_and] at he1 he2
      obtain ⟨⟨rfl, rfl⟩, rfl⟩ := he1
      obtain ⟨⟨rfl, rfl⟩, rfl⟩ := he2
      have HX : Hid (∀ X, Below w.heap.size w X → X.cell? ⟨g, o + (turnN b C d.place + 1), none⟩ = some (.int .u64 (nth xs (turnN b C d.place + 1))) ∧ X.cell? ⟨g, o + (turnN b C d.place + 2), none⟩ = some (.int .u64 (nth xs (turnN b C d.place + 2)))) := hide (fun X hX => ⟨(below_cell hX (block_of_cell hc1)).trans hc1, (below_cell hX (block_of_cell hc2)).trans hc2⟩)
      have ht := turn_cast (b := b) (d := d) hC1
      have hs1 : 0 ≤ d.place % (C : Int) ∧ d.place % (C : Int) ≤ 65536 := by omega
      have HSL := hide (fun W => slot_b b C d.place W (by omega) (by omega) hpl.1 hpl.2)
      have HTK := hide (fun X (hX : Below w.heap.size w X) => task_b b C (d.place % (C : Int)) g o xs.length c (nth xs (turnN b C d.place + 1)) (nth xs (turnN b C d.place + 2)) X (by omega) hs1.1 hs1.2 (by unfold turnN at ht; omega) (by omega) hnc _ _ (by rw [← ht]; rfl) (by rw [← ht]; rfl) (HX.out X hX).1 (HX.out X hX).2)
      generalize nth xs (turnN b C d.place + 1) = x1 at HTK ⊢
      generalize nth xs (turnN b C d.place + 2) = x2 at HTK ⊢
      generalize xs.length = n at HTK hlen hnc ⊢
      clear HX HD hc1 hc2 hr sl1 sl2 ht hs1
      obtain ⟨pl, hpl'⟩ : ∃ pl, pl = d.place := ⟨_, rfl⟩
      rw [← hpl'] at h HSL HTK
      generalize pl % (C : Int) = sl at HSL HTK
      unfold qAgg at HSL HTK
      clear hpl' hky hld hpl HH
      rcases (show d.ph = 10 ∨ d.ph = 11 ∨ d.ph = 12 by omega) with e | e | e
      all_goals
        rw [e] at h
        have hkk : ∀ X, Below w.heap.size w X → X.cell? ⟨q, 0, none⟩ = some (.int .i64 b) ∧ X.cell? ⟨q, 1, none⟩ = some (.int .i64 C) ∧ X.cell? ⟨q, 3, none⟩ = some (.int .u64 pl) := fun X hX => by
          have z := (hX.block _ (lt_of_heap h)).trans h
          exact ⟨cell_of z rfl, cell_of z rfl, cell_of z rfl⟩
        have HKK := hide hkk
        have c2 := cell_of h (i := 2) rfl
        obtain ⟨y0, y1, y3⟩ := hkk w (Below.refl _ _)
        clear h e k1 k2 hkk
        go_enter Tryz.func61, Tryz.ntmps61
        go_wp2_with fail
        refine wp_region_noPanic ?_
        go_region_held3 (fun x => x.cell? ⟨q, 0, none⟩ = some (.int .i64 b) ∧ x.cell? ⟨q, 1, none⟩ = some (.int .i64 C) ∧ x.cell? ⟨q, 3, none⟩ = some (.int .u64 pl)) (first | exact ⟨y0, y1, y3⟩ | exact ⟨z0, z1, z3⟩ | go_keep)
          (first
            | (go_at_call 76; refine (HSL.out _).mono ?_; rintro e w4 ⟨rfl, hb4⟩; have HB4 := hide (below_on (a := w) (below_drew (Below.refl _ _)) hb4); obtain ⟨z0, z1, z3⟩ := HKK.out w4 HB4.out; clear hb4)
            | (go_at_call 93; refine (HTK.out _ HB4.out).mono ?_; rintro e w5 ⟨rfl, hb5⟩; have HB5 := hide (below_on HB4.out hb5); obtain ⟨z0, z1, z3⟩ := HKK.out w5 HB5.out; clear hb5)
            | fail)
        all_goals
          refine NoPanic.normal ?_
          go_wp2_with fail
          go_ret
          exact ⟨_, rfl, own_lower (t_one (heap_new _ _) (Nat.le_refl _)) HB5.out.size, below_alloc HB5.out _⟩
    · have HD : Hid (hand b C xs d = []) := by unfold Hid hand; rw [if_neg k1, if_neg k2]
      rw [HD.out]
      clear hky hld HD hr
      rcases (show d.ph = 0 ∨ d.ph = 7 ∨ d.ph = 8 ∨ d.ph = 9 by omega) with e | e | e | e
      all_goals
        rw [e] at h
        have c2 := cell_of h (i := 2) rfl
        clear h e k1
        go_enter Tryz.func61, Tryz.ntmps61
        go_wp2_with fail
        go_ret
        exact ⟨_, rfl, TOwn.nil _ _, Below.refl _ _⟩
end
end Go.Proofs.YtgjdjdgondpjeaaGreat

/- Held 20 of a table's handles, at whatever phase. -/
namespace Go.Proofs.YtgjdjdgondpjeaaGreat
open Go.RowKit Go.Lib Go.MuLone
set_option linter.unusedVariables false
set_option linter.unusedSimpArgs false
theorem hand_len (b C : Nat) (xs : List Int) (d : Hs) : (hand b C xs d).length ≤ 1 := by
  unfold hand
  split
  · simp
  · split <;> simp
theorem hands_len (b C : Nat) (xs : List Int) (ds : Nat → Hs) (m : Nat) : (hands b C xs ds m).length ≤ m := by
  induction m with
  | zero => simp [hands]
  | succ m ih =>
    have := hand_len b C xs (ds m)
    simp only [hands, List.length_append]
    omega
theorem news_tc {w : World} {g c : Nat} {n : Nat} {l : List Tk} {fr : Nat} (h : TOwn w fr (.slice (some ⟨g, 0, none⟩) n c) l) : ∀ j u, (tCells l)[j]? = some u → w.cell? ((⟨g, 0, none⟩ : Addr).add j) = some u := by
  obtain ⟨h0, ⟨hv, _⟩ | ⟨g', cap, cur, hv, hg, hb, h1, h2, h3, h4⟩⟩ := h
  · cases hv
  · simp only [Value.slice.injEq, Option.some.injEq, Addr.mk.injEq] at hv
    obtain ⟨⟨rfl, _, _⟩, rfl, rfl⟩ := hv
    intro j u hj
    rw [Addr.add_lit, Nat.zero_add]
    rw [← h4] at hj
    refine cell_of hb ?_
    rw [List.getElem?_take] at hj
    split at hj
    · simpa using hj
    · cases hj
theorem tc_one (l : List Tk) : ∀ u ∈ tCells l, u.oneCell' = true := by
  intro u hu
  induction l with
  | nil => simp [tCells] at hu
  | cons a l ih =>
    rw [show tCells (a :: l) = [.int .u64 a.1, .int .u64 a.2] ++ tCells l by simp [tCells]] at hu
    rcases List.mem_append.1 hu with h | h
    · simp at h; rcases h with rfl | rfl <;> rfl
    · exact ih h
/-- 'append(s, x...)' where x is empty. -/
theorem wpList_append0 {P : Program} {w : World} {ops : Array Oper} {rest : List Oper} {o : Oper} {a : Act} {Q : Exit → Act → World → Prop} (hgd : o.guard = none) (s x : Operand) (t : TypeId)
    (hop : o.op = .call { callee := .builtin .append, args := #[s, x], argTypes := #[t, t] })
    (e : TypeId) (i : TypeInfo) (ht : P.underlying t = some (.slice e)) (hi : P.info? e = some i) (so : Option Addr) (n c : Nat) (hle : n ≤ c) (hs : a.eval s = .slice so n c) (xo : Option Addr) (xc : Nat) (hx : a.eval x = .slice xo 0 xc)
    (h : wpList P ops Q rest (a.put o.dst (.slice so n c)) w) : wpList P ops Q (o :: rest) a w := by
  refine wpList_plain hgd fun K hK => ?_
  have hsrc : Src P i.size t (.slice xo 0 xc) 0 [] w := by
    cases xo with
    | none => exact Src.ofNil w ht xc
    | some a => exact Src.ofSlice w ht a 0 xc [] (by simp) (fun j u h => by simp at h) (by simp)
  have hrun := run_append_nothing w t t o.type e i ht hi so n c hle _ hsrc
  unfold Oper.wp
  simp [execOp, hop, resolve, invoke, builtin, hs, hx, hrun, Result.andThen]
  exact hK _ _ h
theorem tCells_app (l m : List Tk) : tCells (l ++ m) = tCells l ++ tCells m := by simp [tCells]
section
variable {w wr : World} {X ab gc Y Z n K : Nat} {tb : Array Value} {lv vP vH : Value} {s : Ast} {qs ps : Nat → Nat} {vs : Nat → Value} {gs : Nat → Bool} {ds : Nat → Hs} {bs Cs : Nat → Nat}
/-- The handles as a list. -/
def hnL (qs : Nat → Nat) (b C : Nat) (n : Nat) : List Hn := (List.range n).map fun j => some (qs j, (b : Int), (C : Int))
theorem hnL_len (qs : Nat → Nat) (b C n : Nat) : (hnL qs b C n).length = n := by simp [hnL]
theorem hnL_at (qs : Nat → Nat) (b C : Nat) {n j : Nat} (h : j < n) : hAt (hnL qs b C n) j = some (qs j, (b : Int), (C : Int)) := by
  unfold hAt hnL
  rw [List.getElem?_map, List.getElem?_range h]; rfl
theorem RM.hsat {gH cH b C : Nat} (h : RM w wr X ab gc Y Z n tb lv s vP (.slice (some ⟨gH, 0, none⟩) n cH) qs ps vs gs ds bs Cs K) (hbs : ∀ j, j < n → bs j = b ∧ Cs j = C) : HsAt wr (.slice (some ⟨gH, 0, none⟩) n cH) (hnL qs b C n) := by
  obtain ⟨h0, ⟨hv, _⟩ | ⟨g', cap, cur, hv, hg, hb, h1, h2, h3, h4⟩⟩ := id h.rh
  · cases hv
  · simp only [Value.slice.injEq, Option.some.injEq, Addr.mk.injEq] at hv
    obtain ⟨⟨rfl, _, _⟩, _, rfl⟩ := hv
    refine ⟨_, _, by rw [hnL_len], by rw [hnL_len]; exact h1, h2, fun i hi => ?_⟩
    rw [hnL_len] at hi
    refine ⟨gH, 0, rfl, ?_, ?_⟩
    · rw [hnL_at _ _ _ hi, Nat.zero_add]
      exact own_at h.rh (ptrs_get qs hi) hi
    · rw [hnL_at _ _ _ hi]
      have z := (h.hd i hi).1
      rw [(hbs i hi).1, (hbs i hi).2] at z
      exact ⟨cell_of z rfl, cell_of z rfl⟩
theorem hOth_no (b C : Nat) (qs : Nat → Nat) (n : Nat) : (List.range n).any (fun i => hOth b C (hAt (hnL qs b C n) i)) = false := by
  rw [List.any_eq_false]
  intro i hi
  rw [hnL_at _ _ _ (List.mem_range.1 hi)]
  simp [hOth, oth]
set_option maxRecDepth 100000 in
set_option maxHeartbeats 8000000 in
theorem held_any {w0 : World} {gH cH b C : Nat} (h : RM w w0 X ab gc Y Z n tb lv s vP (.slice (some ⟨gH, 0, none⟩) n cH) qs ps vs gs ds bs Cs K) (hbs : ∀ j, j < n → bs j = b ∧ Cs j = C) (v : Value) (xs : List Int) (hr : RowAt .u64 w0 v xs) (hxl : b + 2 + 3 * C ≤ xs.length) (hx63 : xs.length ≤ 16777216) (hw : Wds xs) (hC1 : 2 ≤ C) (hC2 : C ≤ 65536) (hbm : b + (2 + 3 * C) ≤ 16777216) :
    Calls Tryz.prog 20 #[qAgg b C, v, .slice (some ⟨gH, 0, none⟩) n cH] w0 fun e w' => ∃ u, e = .returned (.tuple #[u, .int .i64 0]) ∧ TOwn w' w0.heap.size u (srt (fil b C xs C ++ hands b C xs ds n)) ∧ Below w0.heap.size w0 w' := by
  have hn64 := h.n64
  obtain ⟨ao, c, rfl⟩ := hr.shape
  have hck := fun W => checkCells_ok b C ao xs.length c W ⟨⟨by omega, by omega⟩, by omega, by omega⟩ (by omega)
  simp only [if_neg (show ¬ ((xs.length : Int) < (b : Int) + (2 + 3 * (C : Int))) by omega)] at hck
  have HC := hide hck
  have HQ := hide (qm_two w0 121 (.cells #[.int .i64 (b : Int), .int .i64 (C : Int)] 23) b C)
  have hh := h.hsat hbs
  have HF := hide (fun W (hW : QM w0 (w0.heap.size + 1) 121 b C W) => contains_any (.slice (some ⟨gH, 0, none⟩) n cH) (hnL qs b C n) (w0.heap.size + 1) b C W (hh.below hW.bel) hW.two.1 hW.two.2)
  rw [hnL_len, hOth_no] at HF
  have HFI := hide (fun W (hW : Below w0.heap.size w0 W) => filled_any b C xs _ W (hr.below hW) hw hC1 hC2 hbm hxl)
  have HLE := hide (fil_length b C xs C)
  have HIH := hide (fun W (hW : Below w0.heap.size w0 W) i (hi : i < n) => inHand_any (w := W) (q := qs i) (b := b) (C := C) (d := ds i) (v := vs i) _ (by have z := ((h.below hW).hd i hi).1; rw [(hbs i hi).1, (hbs i hi).2] at z; exact z) (hr.below hW) hC1 hC2 (by omega) hxl (h.hw i hi).1.place (h.hw i hi).1.ph)
  have HPA : Hid (∀ W, Below w0.heap.size w0 W → ∀ i, i < n → W.cell? ⟨gH, i, none⟩ = some (.pointer (some ⟨qs i, 0, none⟩))) := hide (fun W hW i hi => own_at (h.below hW).rh (ptrs_get qs hi) hi)
  obtain ⟨i0, hi, hz0, hz1, hz2⟩ := info_parts Tryz.info42
  clear hck hh hr hw h hbs
  obtain ⟨nx, hnx⟩ : ∃ nx, nx = xs.length := ⟨_, rfl⟩
  rw [← hnx] at HC HFI HIH ⊢
  clear hnx hxl hx63
  unfold qAgg at HC HFI ⊢
  go_enter Tryz.func20, Tryz.ntmps20
  go_wp2_with (first
    | (go_at_call 57; refine (HC.out _).mono ?_; rintro e w2 ⟨rfl, hb2⟩; replace HQ := hide (HQ.out.below hb2); clear hb2)
    | (go_at_call 58; refine (HF.out _ HQ.out).mono ?_; rintro e w3 ⟨rfl, hb3⟩; replace HQ := hide (HQ.out.below hb3); clear hb3; obtain ⟨s0, s1⟩ := HQ.out.two)
    | (go_at_call 60; refine (HFI.out _ HQ.out.bel).mono ?_; rintro e w4 ⟨u4, rfl, ht4, hb4⟩; have HO := hide (own_lower ht4 HQ.out.bel.size); have HB4 := hide (below_on HQ.out.bel hb4); obtain ⟨a4, c4, rfl, l4, _⟩ := ht4.tat.shape; clear ht4 hb4 s0 s1))
  have HL0 : Hid (TOwn w4 w0.heap.size (.slice a4 (fil b C xs C).length c4) (fil b C xs C ++ hands b C xs ds 0)) := hide (by rw [show hands b C xs ds 0 = [] from rfl, List.append_nil]; exact HO.out)
  have HLL : Hid (∀ i, (fil b C xs C ++ hands b C xs ds i).length ≤ 65536 + i) := hide (fun i => by rw [List.length_append]; have := HLE.out; have := hands_len b C xs ds i; omega)
  clear HO HFI HF HC l4
  go_loopw [10, 28] (fun u t wq => ∃ i : Nat, i ≤ n ∧ t = .int .i64 i ∧ TOwn wq w0.heap.size u (fil b C xs C ++ hands b C xs ds i) ∧ Below w0.heap.size w0 wq) (fun _ t _ => n - (RowKit.intOf t).toNat)
  case atStart => exact ⟨0, by omega, rfl, HL0.out, HB4.out⟩
  case round =>
    obtain ⟨i, hiM, rfl, hto, hbl⟩ := hrel
    clear HL0 HB4
    have HTO := hide hto
    have HBL := hide hbl
    obtain ⟨au, cu, rfl, lu, _⟩ := hto.tat.shape
    clear hto hbl
    by_cases hlt : i < n
    · have hp := HPA.out _ HBL.out i hlt
      have HI := hide (HIH.out _ HBL.out i hlt)
      have i1 : (i : Int) < (n : Int) := by omega
      have hwr : IntKind.i64.wrap ((i : Int) + 1) = (i : Int) + 1 := IntWalk.i64_in _ (by omega)
      have HS1 : Hid (fil b C xs C ++ hands b C xs ds (i + 1) = (fil b C xs C ++ hands b C xs ds i) ++ hand b C xs (ds i)) := hide (by rw [show hands b C xs ds (i + 1) = hands b C xs ds i ++ hand b C xs (ds i) from rfl, List.append_assoc])
      have HHL := hide (hand_len b C xs (ds i))
      have HLI := hide (HLL.out i)
      generalize hand b C xs (ds i) = hn at HI HS1 HHL
      generalize fil b C xs C ++ hands b C xs ds i = L at HTO HS1 HLI lu ⊢
      go_wp2_with fail
      refine HI.out.mono ?_
      rintro e w5 ⟨u5, rfl, ht5, hb5⟩
      have HT5 := hide ht5
      have HB5 := hide hb5
      have HTO5 := hide (HTO.out.below hb5)
      clear ht5 hb5 hp HTO HI
      obtain ⟨a5, c5, rfl, l5, _⟩ := HT5.out.tat.shape
      match hn, HHL, HS1, HT5 with
      | [], _, HS1, HT5 =>
        go_wp2_with (at_builtin; refine wpList_append0 rfl (.tmp 32) (.tmp 35) 24 rfl 42 i0 Tryz.underlying24 hi au L.length cu lu rfl a5 c5 rfl ?_)
        go_roundw
        case rel => exact ⟨i + 1, by omega, by simp, by rw [HS1.out, List.append_nil]; exact HTO5.out, below_on HBL.out HB5.out⟩
        case measure => simp [RowKit.intOf]; omega
      | [t], _, HS1, HT5 =>
        obtain ⟨g5, hg5⟩ : ∃ g5, a5 = some ⟨g5, 0, none⟩ := by
          obtain ⟨_, ⟨hv, hz⟩ | ⟨g', cap, cur, hv, _⟩⟩ := HT5.out
          · simp at hz
          · simp only [Value.slice.injEq] at hv; exact ⟨g', hv.1⟩
        subst hg5
        have hLI := HLI.out
        have hSZ := HBL.out.size
        have hSZ5 := HB5.out.size
        go_wp2_with (at_builtin; refine wpList_append_lies _ rfl (.tmp 32) (.tmp 35) 24 rfl w0.heap.size 42 i0 (.agg #[.int .u64 0, .int .u64 0]) 2 16 Tryz.underlying24 hi hz0 hz1 hz2 rfl (by omega) _ L.length (tCells L) rfl HTO5.out ⟨g5, 0, none⟩ 1 c5 (tCells [t]) rfl (by rw [tCells_length]; rfl) (news_tc HT5.out) (tc_one [t]) (by omega) (by unfold maxLen; omega) (by omega) (by omega) _ rfl ?_; intro g6 cap6 w6 hown hgrow _ _; have HW6 := hide (show TOwn w6 w0.heap.size (.slice (some ⟨g6, 0, none⟩) (L.length + 1) cap6) (L ++ [t]) by unfold TOwn; rw [tCells_app, List.length_append]; exact hown); have HB6 := hide ((below_on HBL.out HB5.out).grown hgrow (by omega) (fun k e => (World.ownsRow.lt HTO5.out k e).1)); clear hown hgrow)
        go_roundw
        case rel => exact ⟨i + 1, by omega, by simp, by rw [HS1.out]; exact HW6.out, HB6.out⟩
        case measure => simp [RowKit.intOf]; omega
      | _ :: _ :: _, HHL, _, _ => have := HHL.out; simp at this
    · obtain rfl : i = n := by omega
      have HLI := hide (HLL.out i)
      generalize hL : fil b C xs C ++ hands b C xs ds i = L at HTO HLI lu
      have HLQ := hide hL
      clear hL
      have HSO := hide (sort_any _ _ _ _ HTO.out HBL.out.size (by have := HLI.out; omega))
      go_wp2_with (go_at_call 62; refine HSO.out.mono ?_; rintro e w5 ⟨rfl, ht5, hb5⟩)
      go_ret2
      exact ⟨_, rfl, by rw [HLQ.out]; exact ht5, HBL.out.trans hb5⟩
end
end Go.Proofs.YtgjdjdgondpjeaaGreat
