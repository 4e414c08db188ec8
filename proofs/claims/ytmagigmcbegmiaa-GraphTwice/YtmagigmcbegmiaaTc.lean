/- slices.CompactFunc of edges: those alike with the one ahead are left out. -/
import Derived.Test.YtmagigmcbegmiaaTe
import Derived.Laws.IdiomCopy
import Derived.Deep.LoopGhost
import Derived.BigRegion
import Derived.BigQuiet
namespace Go.Proofs.Ytmagigmcbegmiaa
open Go.RowKit Go.Lib
set_option linter.unusedVariables false
set_option linter.unusedSimpArgs false
set_option maxHeartbeats 1000000 in
theorem alike_any (a0 a1 a2 b0 b1 b2 : Int) (w : World) : Calls Try.prog 74 #[.agg #[.int .i64 a0, .int .i64 a1, .int .u64 a2], .agg #[.int .i64 b0, .int .i64 b1, .int .u64 b2]] w fun e w' => e = .returned (.bool (alk (a0, a1, a2) (b0, b1, b2))) ∧ Below w.heap.size w w' := by
  obtain ⟨W, hW⟩ : ∃ W, W = (w.alloc (.cells #[.int .i64 a0, .int .i64 a1, .int .u64 a2] 50)).alloc (.cells #[.int .i64 b0, .int .i64 b1, .int .u64 b2] 50) := ⟨_, rfl⟩
  have hs : (w.alloc (.cells #[.int .i64 a0, .int .i64 a1, .int .u64 a2] 50)).heap.size = w.heap.size + 1 := by simp
  have hA : W.heap[w.heap.size]? = some (.cells #[.int .i64 a0, .int .i64 a1, .int .u64 a2] 50 (0, 0)) := by rw [hW]; exact (Below.heap_alloc _ _ _ (by rw [hs]; omega)).trans (heap_new _ _)
  have hB : W.heap[w.heap.size + 1]? = some (.cells #[.int .i64 b0, .int .i64 b1, .int .u64 b2] 50 (0, 0)) := by
    have := heap_new (w.alloc (.cells #[.int .i64 a0, .int .i64 a1, .int .u64 a2] 50)) (.cells #[.int .i64 b0, .int .i64 b1, .int .u64 b2] 50)
    rw [hs] at this; rw [hW]; exact this
  have HBW : Hid (Below w.heap.size w W) := by show Below _ _ _; rw [hW]; exact below_alloc (below_alloc (Below.refl _ _) _) _
  have p0 := cell_of hA (i := 0) rfl
  have p1 := cell_of hA (i := 1) rfl
  have q0 := cell_of hB (i := 0) rfl
  have q1 := cell_of hB (i := 1) rfl
  clear hA hB hs
  by_cases h0 : a0 = b0
  · have h0b : (a0 == b0) = true := by simp [h0]
    have HE : Hid (alk (a0, a1, a2) (b0, b1, b2) = (a1 == b1)) := by show _ = _; unfold alk; simp [h0]
    rw [HE.out]
    clear HE h0
    go_enter Try.func74, Try.ntmps74
    go_upto_region 1 with fail
    rw [← hW]
    clear hW
    go_wp2_with fail
    go_ret
    exact ⟨rfl, HBW.out⟩
  · have h0b : (a0 == b0) = false := by simp [h0]
    have HE : Hid (alk (a0, a1, a2) (b0, b1, b2) = false) := by show _ = _; unfold alk; simp [h0]
    rw [HE.out]
    clear HE h0
    go_enter Try.func74, Try.ntmps74
    go_upto_region 1 with fail
    rw [← hW]
    clear hW
    go_wp2_with fail
    go_ret
    exact ⟨rfl, HBW.out⟩
theorem mem_zeroCells {v : Value} {n : Nat} (h : v ∈ (Builtin.zeroCells (Value.agg #[.int .i64 0, .int .i64 0, .int .u64 0]).cells n).toList) : v.oneCell' = true := by
  simp only [Builtin.zeroCells, Value.cells, Array.toList_map, List.mem_map] at h
  obtain ⟨i, _, rfl⟩ := h
  have hm : i % 3 = 0 ∨ i % 3 = 1 ∨ i % 3 = 2 := by omega
  show (#[Value.int .i64 0, .int .i64 0, .int .u64 0][i % 3]!).oneCell' = true
  rcases hm with hm | hm | hm <;> rw [hm] <;> rfl
theorem zeroCells_len (n : Nat) : (Builtin.zeroCells (Value.agg #[.int .i64 0, .int .i64 0, .int .u64 0]).cells n).toList.length = n * 3 := by
  simp [Builtin.zeroCells, Value.cells]
theorem run_clearE {w : World} {R : Nat} {M : List Ed3} (h : EArr w R M) (k c : Nat) (hk : k < M.length) (ty : TypeId) :
    (Builtin.clear_ #[45] ty #[.slice (some ⟨R, k * 3, none⟩) (M.length - k) c]).run Try.prog w = .ok (.tuple #[]) (w.setCells R (k * 3) (Builtin.zeroCells (Value.agg #[.int .i64 0, .int .i64 0, .int .u64 0]).cells (M.length - k)).toList) := by
  have hst := run_storeCells_cells (P := Try.prog) R (k * 3) (Builtin.zeroCells (Value.agg #[.int .i64 0, .int .i64 0, .int .u64 0]).cells (M.length - k)).toList 0 w (fun j hj => by
    rw [zeroCells_len] at hj
    have hl := eCells_length M
    have : (eCells M).toArray[k * 3 + 0 + j]? = some (eCells M)[k * 3 + 0 + j] := by simp
    rw [cell_of h this]; rfl) (fun j hj => free_of h _) (fun v hv => mem_zeroCells hv)
  simp only [Nat.add_zero] at hst
  obtain ⟨m, hm⟩ : ∃ m, M.length - k = m + 1 := ⟨M.length - k - 1, by omega⟩
  rw [hm] at hst ⊢
  simp [Builtin.clear_, run_underlying Try.underlying45, Try.zeroValue50, hst]
theorem Chg.setCells {S : Nat → Prop} {R : Nat} (hR : S R) : ∀ (vs : List Value) (o : Nat) (a w : World), Chg S a w → Chg S a (w.setCells R o vs)
  | [], _, _, _, h => h
  | v :: r, o, a, w, h => Chg.setCells hR r (o + 1) a _ (h.setCell (p := ⟨R, o, none⟩) hR v)
theorem clearE_eat {w : World} {R k c : Nat} {M : List Ed3} (h : EArr w R M) (hk : k ≤ M.length) (hc : k ≤ c) (h63 : c ≤ 9223372036854775807) (vs : List Value) : EAt (w.setCells R (k * 3) vs) (.slice (some ⟨R, 0, none⟩) k c) (M.take k) := by
  obtain ⟨ao, c', he, h1, h2, h3⟩ := h.eat hk hc h63
  have hl : (M.take k).length = k := by rw [List.length_take]; omega
  rw [hl] at he
  cases he
  refine ⟨some ⟨R, 0, none⟩, c, by rw [hl], by omega, h63, fun i hi => ?_⟩
  obtain ⟨g, o, e, p, q, r⟩ := h3 i hi
  cases e
  have hout : ∀ x, x < k * 3 → (w.setCells R (k * 3) vs).cell? ⟨R, x, none⟩ = w.cell? ⟨R, x, none⟩ := fun x hx => World.cell?_setCells_out R vs (k * 3) w ⟨R, x, none⟩ (fun _ _ => .inl hx)
  refine ⟨R, 0, rfl, ?_, ?_, ?_⟩
  · rw [hout _ (by omega)]; exact p
  · rw [hout _ (by omega)]; exact q
  · rw [hout _ (by omega)]; exact r
/-- j looked at, k of them kept. -/
structure CI (L : List Ed3) (j k : Nat) (M : List Ed3) : Prop where
  len : M.length = L.length
  lt : k < j
  klen : (cpt (L.take j)).length = k
  low : M.take k = cpt (L.take j)
  high : ∀ i, j ≤ i + 1 → eAt M i = eAt L i
theorem CI.start {L : List Ed3} {k : Nat} (h1 : 1 ≤ k) (hk : k < L.length) (hc : cpt (L.take k) = L.take k) (ha : alk (eAt L k) (eAt L (k - 1)) = true) : CI L (k + 1) k L := by
  have e : cpt (L.take (k + 1)) = L.take k := by rw [cpt_take L k h1 hk, ha, if_pos rfl, List.append_nil, hc]
  exact ⟨rfl, by omega, by rw [e, List.length_take]; omega, e.symm, fun _ _ => rfl⟩
theorem CI.skip {L M : List Ed3} {j k : Nat} (h : CI L j k M) (hj : j < L.length) (ha : alk (eAt L j) (eAt L (j - 1)) = true) : CI L (j + 1) k M := by
  have hl := h.lt
  have e : cpt (L.take (j + 1)) = cpt (L.take j) := by rw [cpt_take L j (by omega) hj, ha, if_pos rfl, List.append_nil]
  exact ⟨h.len, by omega, by rw [e]; exact h.klen, by rw [e]; exact h.low, fun i hi => h.high i (by omega)⟩
theorem CI.keep {L M : List Ed3} {j k : Nat} (h : CI L j k M) (hj : j < L.length) (ha : alk (eAt L j) (eAt L (j - 1)) = false) : CI L (j + 1) (k + 1) (M.set k (eAt L j)) := by
  have hl := h.lt
  have hml := h.len
  have e : cpt (L.take (j + 1)) = cpt (L.take j) ++ [eAt L j] := by rw [cpt_take L j (by omega) hj, ha, if_neg (by simp)]
  refine ⟨by rw [List.length_set]; exact hml, by omega, by rw [e, List.length_append, h.klen]; rfl, ?_, fun i hi => ?_⟩
  · rw [e, ← h.low]
    have hk : k < (M.set k (eAt L j)).length := by rw [List.length_set]; omega
    rw [List.take_succ_eq_append_getElem hk, List.getElem_set_self, List.take_set, List.set_eq_of_length_le (by rw [List.length_take]; omega)]
  · rw [← h.high i (by omega)]
    unfold eAt
    rw [List.getElem?_set_ne (by omega)]
theorem cpt_all_step {L : List Ed3} {k : Nat} (h1 : 1 ≤ k) (hk : k < L.length) (hc : cpt (L.take k) = L.take k) (ha : alk (eAt L k) (eAt L (k - 1)) = false) : cpt (L.take (k + 1)) = L.take (k + 1) := by
  rw [cpt_take L k h1 hk, ha, if_neg (by simp), hc, List.take_succ_eq_append_getElem hk]
  simp [eAt, hk]
theorem gw_cells {w : World} {R i : Nat} {l : List Ed3} (h : EArr w R l) (hi : i < l.length) (x : GW w) : x.world.cell? ⟨R, i * 3, none⟩ = some (.int .i64 (eAt l i).1) ∧ x.world.cell? ⟨R, i * 3 + 1, none⟩ = some (.int .i64 (eAt l i).2.1) ∧ x.world.cell? ⟨R, i * 3 + 2, none⟩ = some (.int .u64 (eAt l i).2.2) := (h.below x.bel (lt_of_heap h)).cell hi
set_option maxRecDepth 100000 in
set_option maxHeartbeats 8000000 in
theorem compact_any (R m : Nat) (L : List Ed3) (w : World) (hA : EArr w R L) (hL : L.length = m) (hm : m ≤ 4194304) :
    Calls Try.prog 73 #[.slice (some ⟨R, 0, none⟩) m m, .func (.func 74) #[] #[]] w fun e w' => e = .returned (.slice (some ⟨R, 0, none⟩) (cpt L).length m) ∧ EAt w' (.slice (some ⟨R, 0, none⟩) (cpt L).length m) (cpt L) ∧ Chg (fun k => k = R) w w' := by
  have HA := hide hA
  have HL := hide hL
  have eg : ∀ args w, (callFunc 74 args).run Try.prog w = .ok (.enter 74 args) w := enters_of Try.func74 (by kernel_rfl) rfl
  have HAL := hide (fun a0 a1 a2 b0 b1 b2 W => alike_any a0 a1 a2 b0 b1 b2 W)
  by_cases h2 : m < 2
  · have HE : Hid (EAt w (.slice (some ⟨R, 0, none⟩) m m) L) := hA.whole hL (by omega)
    rw [cpt_one (show L.length < 2 by omega), hL]
    clear hA hL HA HL HAL
    have h2i : (m : Int) < 2 := by omega
    go_enter Try.func73, Try.ntmps73
    go_wp2_with fail
    go_ret
    exact ⟨rfl, HE.out, Chg.refl _ _⟩
  · have h2i : ¬ (m : Int) < 2 := by omega
    have HC1 := hide (cpt_first L (by omega))
    clear hA hL
    go_enter Try.func73, Try.ntmps73
    go_wp2_with fail
    go_loopg [5] m (fun g s5 wr => ∃ k : Nat, 1 ≤ k ∧ k ≤ m ∧ m - k ≤ g ∧ s5 = .int .i64 k ∧ EArr wr R L ∧ Below w.heap.size w wr ∧ cpt (L.take k) = L.take k)
    case atStart => exact ⟨1, Nat.le_refl _, by omega, by omega, rfl, HA.out, Below.refl _ _, HC1.out⟩
    case round =>
      obtain ⟨k, hk1, hk, hg, rfl, hE, hB, hcp⟩ := hrel
      have HE := hide hE; have HB := hide hB; have HCP := hide hcp
      clear hE hB hcp HA HC1
      by_cases hlt : k < m
      · obtain ⟨p, hp⟩ : ∃ p : Nat, (k : Int) - 1 = (p : Int) := ⟨k - 1, by omega⟩
        have hpk : p + 1 = k := by omega
        have hw1 : IntKind.i64.wrap ((k : Int) - 1) = (p : Int) := by rw [← hp]; exact IntWalk.i64_in _ (by omega)
        have X1 := hide (fun x : GW wr => gw_cells HE.out (i := k) (by rw [HL.out]; exact hlt) x)
        have X0 := hide (fun x : GW wr => gw_cells HE.out (i := p) (by rw [HL.out]; omega) x)
        obtain ⟨a0, ha0⟩ : ∃ a, a = (eAt L k).1 := ⟨_, rfl⟩
        obtain ⟨a1, ha1⟩ : ∃ a, a = (eAt L k).2.1 := ⟨_, rfl⟩
        obtain ⟨a2, ha2⟩ : ∃ a, a = (eAt L k).2.2 := ⟨_, rfl⟩
        obtain ⟨b0, hb0⟩ : ∃ a, a = (eAt L p).1 := ⟨_, rfl⟩
        obtain ⟨b1, hb1⟩ : ∃ a, a = (eAt L p).2.1 := ⟨_, rfl⟩
        obtain ⟨b2, hb2⟩ : ∃ a, a = (eAt L p).2.2 := ⟨_, rfl⟩
        have HAK : Hid (alk (eAt L k) (eAt L (k - 1)) = alk (a0, a1, a2) (b0, b1, b2)) := by
          show _ = _
          rw [show k - 1 = p by omega, ha0, ha1, ha2, hb0, hb1, hb2]
        rw [← ha0, ← ha1, ← ha2] at X1
        rw [← hb0, ← hb1, ← hb2] at X0
        have x1 := fun x => (X1.out x).1
        have x2 := fun x => (X1.out x).2.1
        have x3 := fun x => (X1.out x).2.2
        have y1 := fun x => (X0.out x).1
        have y2 := fun x => (X0.out x).2.1
        have y3 := fun x => (X0.out x).2.2
        have hkm : (k : Int) < (m : Int) := by omega
        have hpm : (p : Int) < (m : Int) := by omega
        clear ha0 ha1 ha2 hb0 hb1 hb2 X1 X0
        go_wp2_with fail
        refine wp_region_gw (by kernel_rfl) (by kernel_rfl) ?_
        repeat (go_big_quiet_step (first
          | (go_at_call 74; exact gw_of (HAL.out a0 a1 a2 b0 b1 b2 _))
          | rfl))
        refine wpQuiet_nil ?_
        rintro _ ⟨x, rfl⟩
        clear x1 x2 x3 y1 y2 y3
        have HE2 : Hid (EArr x.world R L) := HE.out.below x.bel (lt_of_heap HE.out)
        have HB2 : Hid (Below w.heap.size w x.world) := below_on HB.out x.bel
        have hmk : ¬ m = k := by omega
        generalize hal : alk (a0, a1, a2) (b0, b1, b2) = bb at HAK ⊢
        clear hal HE HB
        generalize x.world = X at HE2 HB2 ⊢
        clear x
        cases bb
        · go_wp2_with fail
          go_roundg (m - (k + 1))
          case measure => omega
          case rel => exact ⟨k + 1, by omega, by omega, Nat.le_refl _, by go_num, HE2.out, HB2.out, cpt_all_step (by omega) (by rw [HL.out]; exact hlt) HCP.out HAK.out⟩
        · have HCS := hide (CI.start (L := L) (k := k) (by omega) (by rw [HL.out]; exact hlt) HCP.out HAK.out)
          clear HAK HCP hp hpk hw1 hpm
          go_wp2_with fail
          obtain ⟨q, hq⟩ : ∃ q, m - k = q := ⟨_, rfl⟩
          have hkq : k + q = m := by omega
          rw [hq]
          clear hq
          go_loopg [5, 7] m (fun g s5 s7 wr2 => ∃ (kk k2 : Nat) (M : List Ed3), s5 = .int .i64 (kk : Int) ∧ s7 = .int .i64 (k2 : Int) ∧ 1 ≤ k2 ∧ k2 ≤ q ∧ q - k2 ≤ g ∧ EArr wr2 R M ∧ Chg (fun k => k = R) w wr2 ∧ CI L (k + k2) kk M)
          case atStart => exact ⟨k, 1, L, rfl, rfl, Nat.le_refl _, by omega, by omega, HE2.out, Chg.of_below HB2.out, HCS.out⟩
          case round =>
            obtain ⟨kk, k2, M, rfl, rfl, h1, hle, hg2, hE, hC, hI⟩ := hrel
            clear HE2 HB2 HCS
            have HE := hide hE; have HC := hide hC; have HI := hide hI
            have hkk : kk < k + k2 := hI.lt
            have HML : Hid (M.length = m) := hI.len.trans HL.out
            clear hE hC hI
            by_cases hlt2 : k2 < q
            · obtain ⟨p2, hp2⟩ : ∃ p2 : Nat, (k2 : Int) - 1 = (p2 : Int) := ⟨k2 - 1, by omega⟩
              have hpk2 : p2 + 1 = k2 := by omega
              have hw2 : IntKind.i64.wrap ((k2 : Int) - 1) = (p2 : Int) := by rw [← hp2]; exact IntWalk.i64_in _ (by omega)
              have X1 := hide (fun x : GW wr => gw_cells HE.out (i := k + k2) (by rw [HML.out]; omega) x)
              have X0 := hide (fun x : GW wr => gw_cells HE.out (i := k + p2) (by rw [HML.out]; omega) x)
              rw [HI.out.high (k + k2) (by omega), Nat.add_mul] at X1
              rw [HI.out.high (k + p2) (by omega), Nat.add_mul] at X0
              obtain ⟨c0, hc0⟩ : ∃ a, a = (eAt L (k + k2)).1 := ⟨_, rfl⟩
              obtain ⟨c1, hc1⟩ : ∃ a, a = (eAt L (k + k2)).2.1 := ⟨_, rfl⟩
              obtain ⟨c2, hc2⟩ : ∃ a, a = (eAt L (k + k2)).2.2 := ⟨_, rfl⟩
              obtain ⟨d0, hd0⟩ : ∃ a, a = (eAt L (k + p2)).1 := ⟨_, rfl⟩
              obtain ⟨d1, hd1⟩ : ∃ a, a = (eAt L (k + p2)).2.1 := ⟨_, rfl⟩
              obtain ⟨d2, hd2⟩ : ∃ a, a = (eAt L (k + p2)).2.2 := ⟨_, rfl⟩
              have HAK : Hid (alk (eAt L (k + k2)) (eAt L (k + k2 - 1)) = alk (c0, c1, c2) (d0, d1, d2)) := by
                show _ = _
                rw [show k + k2 - 1 = k + p2 by omega, hc0, hc1, hc2, hd0, hd1, hd2]
              have HCE : Hid (eAt L (k + k2) = (c0, c1, c2)) := by show _ = _; rw [hc0, hc1, hc2]
              rw [← hc0, ← hc1, ← hc2] at X1
              rw [← hd0, ← hd1, ← hd2] at X0
              have x1 := fun x => (X1.out x).1
              have x2 := fun x => (X1.out x).2.1
              have x3 := fun x => (X1.out x).2.2
              have y1 := fun x => (X0.out x).1
              have y2 := fun x => (X0.out x).2.1
              have y3 := fun x => (X0.out x).2.2
              have hkm2 : (k2 : Int) < (q : Int) := by omega
              have hpm2 : (p2 : Int) < (q : Int) := by omega
              clear hc0 hc1 hc2 hd0 hd1 hd2 X0
              go_wp2_with fail
              refine wp_region_gw (by kernel_rfl) (by kernel_rfl) ?_
              repeat (go_big_quiet_step (first
                | (go_at_call 74; exact gw_of (HAL.out c0 c1 c2 d0 d1 d2 _))
                | rfl))
              refine wpQuiet_nil ?_
              rintro _ ⟨x, rfl⟩
              clear x1 x2 x3 y1 y2 y3
              have HE2 : Hid (EArr x.world R M) := HE.out.below x.bel (lt_of_heap HE.out)
              have HC2 : Hid (Chg (fun k => k = R) w x.world) := HC.out.trans (Chg.of_below x.bel)
              obtain ⟨x1, x2, x3⟩ := X1.out x
              generalize hal : alk (c0, c1, c2) (d0, d1, d2) = bb at HAK ⊢
              clear hal HE HC X1
              generalize x.world = X at HE2 HC2 x1 x2 x3 ⊢
              clear x
              cases bb
              · obtain ⟨o1, o2, o3⟩ := HE2.out.cell (i := kk) (by rw [HML.out]; omega)
                have f1 := HE2.out.free (kk * 3)
                have f2 := HE2.out.free (kk * 3 + 1)
                have f3 := HE2.out.free (kk * 3 + 2)
                obtain ⟨z1, hz1⟩ : ∃ a, a = (eAt M kk).1 := ⟨_, rfl⟩
                obtain ⟨z2, hz2⟩ : ∃ a, a = (eAt M kk).2.1 := ⟨_, rfl⟩
                obtain ⟨z3, hz3⟩ : ∃ a, a = (eAt M kk).2.2 := ⟨_, rfl⟩
                rw [← hz1] at o1
                rw [← hz2] at o2
                rw [← hz3] at o3
                clear hz1 hz2 hz3
                have hkkm : (kk : Int) < (m : Int) := by omega
                go_wp2_with fail
                go_roundg (q - (k2 + 1))
                case measure => omega
                case rel =>
                  have hI := HI.out.keep (by rw [HL.out]; omega) HAK.out
                  rw [HCE.out] at hI
                  exact ⟨kk + 1, k2 + 1, M.set kk (c0, c1, c2), by go_num, by go_num, by omega, by omega, Nat.le_refl _, HE2.out.put (by rw [HML.out]; omega) c0 c1 c2, HC2.out.trans (Chg.three (S := fun k => k = R) rfl _ _ _), hI⟩
              · go_wp2_with fail
                go_roundg (q - (k2 + 1))
                case measure => omega
                case rel => exact ⟨kk, k2 + 1, M, by go_num, by go_num, by omega, by omega, Nat.le_refl _, HE2.out, HC2.out, HI.out.skip (by rw [HL.out]; omega) HAK.out⟩
            · obtain rfl : q = k2 := by omega
              have hkm2 : kk < m := by omega
              have hcl : ∀ ty, (Builtin.clear_ #[45] ty #[.slice (some ⟨R, kk * 3, none⟩) (m - kk) (m - kk)]).run Try.prog wr = .ok (.tuple #[]) (wr.setCells R (kk * 3) (Builtin.zeroCells (Value.agg #[.int .i64 0, .int .i64 0, .int .u64 0]).cells (m - kk)).toList) := fun ty => by
                have := run_clearE HE.out kk (m - kk) (by rw [HML.out]; exact hkm2) ty
                rw [HML.out] at this
                exact this
              have hmkk : ¬ m = kk := by omega
              have hkki : ¬ (m : Int) < (kk : Int) := by omega
              clear hkk
              go_wp2_with fail
              go_ret
              have hI := HI.out
              rw [hkq, ← HL.out] at hI
              have hcp := hI.klen
              have hlo := hI.low
              rw [List.take_length] at hcp hlo
              rw [hcp, ← hlo]
              exact ⟨rfl, clearE_eat HE.out (by rw [HML.out]; omega) (by omega) (by omega) _, Chg.setCells (S := fun k => k = R) rfl _ _ _ _ HC.out⟩
      · obtain rfl : m = k := by omega
        clear hlt
        have hfin := HCP.out
        rw [← HL.out, List.take_length] at hfin
        have HF : Hid (cpt L = L) := hfin
        clear hfin
        go_wp2_with fail
        go_ret
        rw [HF.out, HL.out]
        exact ⟨rfl, HE.out.whole HL.out (by omega), Chg.of_below HB.out⟩
end Go.Proofs.Ytmagigmcbegmiaa
