import Derived.Test.YtmagigmcbegmiaaTe
import Derived.Laws.IdiomCopy
import Derived.Deep.LoopGhost
import Derived.BigRegion
import Derived.BigQuiet
import Derived.Test.YtmagigmcbegmiaaTq
import Derived.Test.YtmagigmcbegmiaaSoE
import Derived.Test.YtmagigmcbegmiaaGEd
import Derived.Shelf.SlSortCmp.NoneTotal
import Derived.Test.YtmagigmcbegmiaaGT2
import Derived.Deep.RegionHeld3
/- slices.CompactFunc of edges: those alike with the one ahead are left out. -/
namespace Go.Proofs.Ytmagigmcbegmiaa
open Go.RowKit Go.Lib
set_option linter.unusedVariables false
set_option linter.unusedSimpArgs false
set_option maxHeartbeats 1000000 in
theorem alike_any (a0 a1 a2 b0 b1 b2 : Int) (w : World) : Calls Try.prog 74 #[.agg #[.int .i64 a0, .int .i64 a1, .int .u64 a2], .agg #[.int .i64 b0, .int .i64 b1, .int .u64 b2]] w fun e w' => e = .returned (.bool (alk (a0, a1, a2) (b0, b1, b2))) ∧ Below w.heap.size w w' := by
  obtain ⟨W, hW⟩ : ∃ W, W = (w.alloc (.cells #[.int .i64 a0, .int .i64 a1, .int .u64 a2] 50)).alloc (.cells #[.int .i64 b0, .int .i64 b1, .int .u64 b2] 50) := ⟨_, rfl⟩
  have hs : (w.alloc (.cells #[.int .i64 a0, .int .i64 a1, .int .u64 a2] 50)).heap.size = w.heap.size + 1 := by simp
  have hA : W.heap[w.heap.size]? = some (.cells #[.int .i64 a0, .int .i64 a1, .int .u64 a2] 50 (0, 0)) := by rw [hW]; exact (Below.heap_alloc _ _ _ (by rw [hs]; omega)).trans (heap_new _ _)
  have hB : W.heap[w.heap.size + 1]? = some (.cells #[.int .i64 b0, .int .i64 b1, .int .u64 b2] 50 (0, 0)) := by
    have := heap_new (w.alloc (.cells #[.int .i64 a0, .int .i64 a1, .int .u64 a2] 50)) (.cells #[.int .i64 b0, .int .i64 b1, .int .u64 b2] 50)
    rw [hs] at this; rw [hW]; exact this
  have HBW : Hid (Below w.heap.size w W) := by show Below _ _ _; rw [hW]; exact below_alloc (below_alloc (Below.refl _ _) _) _
  have p0 := cell_of hA (i := 0) rfl
  have p1 := cell_of hA (i := 1) rfl
  have q0 := cell_of hB (i := 0) rfl
  have q1 := cell_of hB (i := 1) rfl
  clear hA hB hs
  by_cases h0 : a0 = b0
  · have h0b : (a0 == b0) = true := by simp [h0]
    have HE : Hid (alk (a0, a1, a2) (b0, b1, b2) = (a1 == b1)) := by show _ = _; unfold alk; simp [h0]
    rw [HE.out]
    clear HE h0
    go_enter Try.func74, Try.ntmps74
    go_upto_region 1 with fail
    rw [← hW]
    clear hW
    go_wp2_with fail
    go_ret
    exact ⟨rfl, HBW.out⟩
  · have h0b : (a0 == b0) = false := by simp [h0]
    have HE : Hid (alk (a0, a1, a2) (b0, b1, b2) = false) := by show _ = _; unfold alk; simp [h0]
    rw [HE.out]
    clear HE h0
    go_enter Try.func74, Try.ntmps74
    go_upto_region 1 with fail
    rw [← hW]
    clear hW
    go_wp2_with fail
    go_ret
    exact ⟨rfl, HBW.out⟩
theorem mem_zeroCells {v : Value} {n : Nat} (h : v ∈ (Builtin.zeroCells (Value.agg #[.int .i64 0, .int .i64 0, .int .u64 0]).cells n).toList) : v.oneCell' = true := by
  simp only [Builtin.zeroCells, Value.cells, Array.toList_map, List.mem_map] at h
  obtain ⟨i, _, rfl⟩ := h
  have hm : i % 3 = 0 ∨ i % 3 = 1 ∨ i % 3 = 2 := by omega
  show (#[Value.int .i64 0, .int .i64 0, .int .u64 0][i % 3]!).oneCell' = true
  rcases hm with hm | hm | hm <;> rw [hm] <;> rfl
theorem zeroCells_len (n : Nat) : (Builtin.zeroCells (Value.agg #[.int .i64 0, .int .i64 0, .int .u64 0]).cells n).toList.length = n * 3 := by
  simp [Builtin.zeroCells, Value.cells]
theorem run_clearE {w : World} {R : Nat} {M : List Ed3} (h : EArr w R M) (k c : Nat) (hk : k < M.length) (ty : TypeId) :
    (Builtin.clear_ #[45] ty #[.slice (some ⟨R, k * 3, none⟩) (M.length - k) c]).run Try.prog w = .ok (.tuple #[]) (w.setCells R (k * 3) (Builtin.zeroCells (Value.agg #[.int .i64 0, .int .i64 0, .int .u64 0]).cells (M.length - k)).toList) := by
  have hst := run_storeCells_cells (P := Try.prog) R (k * 3) (Builtin.zeroCells (Value.agg #[.int .i64 0, .int .i64 0, .int .u64 0]).cells (M.length - k)).toList 0 w (fun j hj => by
    rw [zeroCells_len] at hj
    have hl := eCells_length M
    have : (eCells M).toArray[k * 3 + 0 + j]? = some (eCells M)[k * 3 + 0 + j] := by simp
    rw [cell_of h this]; rfl) (fun j hj => free_of h _) (fun v hv => mem_zeroCells hv)
  simp only [Nat.add_zero] at hst
  obtain ⟨m, hm⟩ : ∃ m, M.length - k = m + 1 := ⟨M.length - k - 1, by omega⟩
  rw [hm] at hst ⊢
  simp [Builtin.clear_, run_underlying Try.underlying45, Try.zeroValue50, hst]
theorem Chg.setCells {S : Nat → Prop} {R : Nat} (hR : S R) : ∀ (vs : List Value) (o : Nat) (a w : World), Chg S a w → Chg S a (w.setCells R o vs)
  | [], _, _, _, h => h
  | v :: r, o, a, w, h => Chg.setCells hR r (o + 1) a _ (h.setCell (p := ⟨R, o, none⟩) hR v)
theorem clearE_eat {w : World} {R k c : Nat} {M : List Ed3} (h : EArr w R M) (hk : k ≤ M.length) (hc : k ≤ c) (h63 : c ≤ 9223372036854775807) (vs : List Value) : EAt (w.setCells R (k * 3) vs) (.slice (some ⟨R, 0, none⟩) k c) (M.take k) := by
  obtain ⟨ao, c', he, h1, h2, h3⟩ := h.eat hk hc h63
  have hl : (M.take k).length = k := by rw [List.length_take]; omega
  rw [hl] at he
  cases he
  refine ⟨some ⟨R, 0, none⟩, c, by rw [hl], by omega, h63, fun i hi => ?_⟩
  obtain ⟨g, o, e, p, q, r⟩ := h3 i hi
  cases e
  have hout : ∀ x, x < k * 3 → (w.setCells R (k * 3) vs).cell? ⟨R, x, none⟩ = w.cell? ⟨R, x, none⟩ := fun x hx => World.cell?_setCells_out R vs (k * 3) w ⟨R, x, none⟩ (fun _ _ => .inl hx)
  refine ⟨R, 0, rfl, ?_, ?_, ?_⟩
  · rw [hout _ (by omega)]; exact p
  · rw [hout _ (by omega)]; exact q
  · rw [hout _ (by omega)]; exact r
/-- j looked at, k of them kept. -/
structure CI (L : List Ed3) (j k : Nat) (M : List Ed3) : Prop where
  len : M.length = L.length
  lt : k < j
  klen : (cpt (L.take j)).length = k
  low : M.take k = cpt (L.take j)
  high : ∀ i, j ≤ i + 1 → eAt M i = eAt L i
theorem CI.start {L : List Ed3} {k : Nat} (h1 : 1 ≤ k) (hk : k < L.length) (hc : cpt (L.take k) = L.take k) (ha : alk (eAt L k) (eAt L (k - 1)) = true) : CI L (k + 1) k L := by
  have e : cpt (L.take (k + 1)) = L.take k := by rw [cpt_take L k h1 hk, ha, if_pos rfl, List.append_nil, hc]
  exact ⟨rfl, by omega, by rw [e, List.length_take]; omega, e.symm, fun _ _ => rfl⟩
theorem CI.skip {L M : List Ed3} {j k : Nat} (h : CI L j k M) (hj : j < L.length) (ha : alk (eAt L j) (eAt L (j - 1)) = true) : CI L (j + 1) k M := by
  have hl := h.lt
  have e : cpt (L.take (j + 1)) = cpt (L.take j) := by rw [cpt_take L j (by omega) hj, ha, if_pos rfl, List.append_nil]
  exact ⟨h.len, by omega, by rw [e]; exact h.klen, by rw [e]; exact h.low, fun i hi => h.high i (by omega)⟩
theorem CI.keep {L M : List Ed3} {j k : Nat} (h : CI L j k M) (hj : j < L.length) (ha : alk (eAt L j) (eAt L (j - 1)) = false) : CI L (j + 1) (k + 1) (M.set k (eAt L j)) := by
  have hl := h.lt
  have hml := h.len
  have e : cpt (L.take (j + 1)) = cpt (L.take j) ++ [eAt L j] := by rw [cpt_take L j (by omega) hj, ha, if_neg (by simp)]
  refine ⟨by rw [List.length_set]; exact hml, by omega, by rw [e, List.length_append, h.klen]; rfl, ?_, fun i hi => ?_⟩
  · rw [e, ← h.low]
    have hk : k < (M.set k (eAt L j)).length := by rw [List.length_set]; omega
    rw [List.take_succ_eq_append_getElem hk, List.getElem_set_self, List.take_set, List.set_eq_of_length_le (by rw [List.length_take]; omega)]
  · rw [← h.high i (by omega)]
    unfold eAt
    rw [List.getElem?_set_ne (by omega)]
theorem cpt_all_step {L : List Ed3} {k : Nat} (h1 : 1 ≤ k) (hk : k < L.length) (hc : cpt (L.take k) = L.take k) (ha : alk (eAt L k) (eAt L (k - 1)) = false) : cpt (L.take (k + 1)) = L.take (k + 1) := by
  rw [cpt_take L k h1 hk, ha, if_neg (by simp), hc, List.take_succ_eq_append_getElem hk]
  simp [eAt, hk]
theorem gw_cells {w : World} {R i : Nat} {l : List Ed3} (h : EArr w R l) (hi : i < l.length) (x : GW w) : x.world.cell? ⟨R, i * 3, none⟩ = some (.int .i64 (eAt l i).1) ∧ x.world.cell? ⟨R, i * 3 + 1, none⟩ = some (.int .i64 (eAt l i).2.1) ∧ x.world.cell? ⟨R, i * 3 + 2, none⟩ = some (.int .u64 (eAt l i).2.2) := (h.below x.bel (lt_of_heap h)).cell hi
set_option maxRecDepth 100000 in
set_option maxHeartbeats 8000000 in
theorem compact_any (R m : Nat) (L : List Ed3) (w : World) (hA : EArr w R L) (hL : L.length = m) (hm : m ≤ 4194304) :
    Calls Try.prog 73 #[.slice (some ⟨R, 0, none⟩) m m, .func (.func 74) #[] #[]] w fun e w' => e = .returned (.slice (some ⟨R, 0, none⟩) (cpt L).length m) ∧ EAt w' (.slice (some ⟨R, 0, none⟩) (cpt L).length m) (cpt L) ∧ Chg (fun k => k = R) w w' := by
  have HA := hide hA
  have HL := hide hL
  have eg : ∀ args w, (callFunc 74 args).run Try.prog w = .ok (.enter 74 args) w := enters_of Try.func74 (by kernel_rfl) rfl
  have HAL := hide (fun a0 a1 a2 b0 b1 b2 W => alike_any a0 a1 a2 b0 b1 b2 W)
  by_cases h2 : m < 2
  · have HE : Hid (EAt w (.slice (some ⟨R, 0, none⟩) m m) L) := hA.whole hL (by omega)
    rw [cpt_one (show L.length < 2 by omega), hL]
    clear hA hL HA HL HAL
    have h2i : (m : Int) < 2 := by omega
    go_enter Try.func73, Try.ntmps73
    go_wp2_with fail
    go_ret
    exact ⟨rfl, HE.out, Chg.refl _ _⟩
  · have h2i : ¬ (m : Int) < 2 := by omega
    have HC1 := hide (cpt_first L (by omega))
    clear hA hL
    go_enter Try.func73, Try.ntmps73
    go_wp2_with fail
    go_loopg [5] m (fun g s5 wr => ∃ k : Nat, 1 ≤ k ∧ k ≤ m ∧ m - k ≤ g ∧ s5 = .int .i64 k ∧ EArr wr R L ∧ Below w.heap.size w wr ∧ cpt (L.take k) = L.take k)
    case atStart => exact ⟨1, Nat.le_refl _, by omega, by omega, rfl, HA.out, Below.refl _ _, HC1.out⟩
    case round =>
      obtain ⟨k, hk1, hk, hg, rfl, hE, hB, hcp⟩ := hrel
      have HE := hide hE; have HB := hide hB; have HCP := hide hcp
      clear hE hB hcp HA HC1
      by_cases hlt : k < m
      · obtain ⟨p, hp⟩ : ∃ p : Nat, (k : Int) - 1 = (p : Int) := ⟨k - 1, by omega⟩
        have hpk : p + 1 = k := by omega
        have hw1 : IntKind.i64.wrap ((k : Int) - 1) = (p : Int) := by rw [← hp]; exact IntWalk.i64_in _ (by omega)
        have X1 := hide (fun x : GW wr => gw_cells HE.out (i := k) (by rw [HL.out]; exact hlt) x)
        have X0 := hide (fun x : GW wr => gw_cells HE.out (i := p) (by rw [HL.out]; omega) x)
        obtain ⟨a0, ha0⟩ : ∃ a, a = (eAt L k).1 := ⟨_, rfl⟩
        obtain ⟨a1, ha1⟩ : ∃ a, a = (eAt L k).2.1 := ⟨_, rfl⟩
        obtain ⟨a2, ha2⟩ : ∃ a, a = (eAt L k).2.2 := ⟨_, rfl⟩
        obtain ⟨b0, hb0⟩ : ∃ a, a = (eAt L p).1 := ⟨_, rfl⟩
        obtain ⟨b1, hb1⟩ : ∃ a, a = (eAt L p).2.1 := ⟨_, rfl⟩
        obtain ⟨b2, hb2⟩ : ∃ a, a = (eAt L p).2.2 := ⟨_, rfl⟩
        have HAK : Hid (alk (eAt L k) (eAt L (k - 1)) = alk (a0, a1, a2) (b0, b1, b2)) := by
          show _ = _
          rw [show k - 1 = p by omega, ha0, ha1, ha2, hb0, hb1, hb2]
        rw [← ha0, ← ha1, ← ha2] at X1
        rw [← hb0, ← hb1, ← hb2] at X0
        have x1 := fun x => (X1.out x).1
        have x2 := fun x => (X1.out x).2.1
        have x3 := fun x => (X1.out x).2.2
        have y1 := fun x => (X0.out x).1
        have y2 := fun x => (X0.out x).2.1
        have y3 := fun x => (X0.out x).2.2
        have hkm : (k : Int) < (m : Int) := by omega
        have hpm : (p : Int) < (m : Int) := by omega
        clear ha0 ha1 ha2 hb0 hb1 hb2 X1 X0
        go_wp2_with fail
        refine wp_region_gw (by kernel_rfl) (by kernel_rfl) ?_
        repeat (go_big_quiet_step (first
          | (go_at_call 74; exact gw_of (HAL.out a0 a1 a2 b0 b1 b2 _))
          | rfl))
        refine wpQuiet_nil ?_
        rintro _ ⟨x, rfl⟩
        clear x1 x2 x3 y1 y2 y3
        have HE2 : Hid (EArr x.world R L) := HE.out.below x.bel (lt_of_heap HE.out)
        have HB2 : Hid (Below w.heap.size w x.world) := below_on HB.out x.bel
        have hmk : ¬ m = k := by omega
        generalize hal : alk (a0, a1, a2) (b0, b1, b2) = bb at HAK ⊢
        clear hal HE HB
        generalize x.world = X at HE2 HB2 ⊢
        clear x
        cases bb
        · go_wp2_with fail
          go_roundg (m - (k + 1))
          case measure => omega
          case rel => exact ⟨k + 1, by omega, by omega, Nat.le_refl _, by go_num, HE2.out, HB2.out, cpt_all_step (by omega) (by rw [HL.out]; exact hlt) HCP.out HAK.out⟩
        · have HCS := hide (CI.start (L := L) (k := k) (by omega) (by rw [HL.out]; exact hlt) HCP.out HAK.out)
          clear HAK HCP hp hpk hw1 hpm
          go_wp2_with fail
          obtain ⟨q, hq⟩ : ∃ q, m - k = q := ⟨_, rfl⟩
          have hkq : k + q = m := by omega
          rw [hq]
          clear hq
          go_loopg [5, 7] m (fun g s5 s7 wr2 => ∃ (kk k2 : Nat) (M : List Ed3), s5 = .int .i64 (kk : Int) ∧ s7 = .int .i64 (k2 : Int) ∧ 1 ≤ k2 ∧ k2 ≤ q ∧ q - k2 ≤ g ∧ EArr wr2 R M ∧ Chg (fun k => k = R) w wr2 ∧ CI L (k + k2) kk M)
          case atStart => exact ⟨k, 1, L, rfl, rfl, Nat.le_refl _, by omega, by omega, HE2.out, Chg.of_below HB2.out, HCS.out⟩
          case round =>
            obtain ⟨kk, k2, M, rfl, rfl, h1, hle, hg2, hE, hC, hI⟩ := hrel
            clear HE2 HB2 HCS
            have HE := hide hE; have HC := hide hC; have HI := hide hI
            have hkk : kk < k + k2 := hI.lt
            have HML : Hid (M.length = m) := hI.len.trans HL.out
            clear hE hC hI
            by_cases hlt2 : k2 < q
            · obtain ⟨p2, hp2⟩ : ∃ p2 : Nat, (k2 : Int) - 1 = (p2 : Int) := ⟨k2 - 1, by omega⟩
              have hpk2 : p2 + 1 = k2 := by omega
              have hw2 : IntKind.i64.wrap ((k2 : Int) - 1) = (p2 : Int) := by rw [← hp2]; exact IntWalk.i64_in _ (by omega)
              have X1 := hide (fun x : GW wr => gw_cells HE.out (i := k + k2) (by rw [HML.out]; omega) x)
              have X0 := hide (fun x : GW wr => gw_cells HE.out (i := k + p2) (by rw [HML.out]; omega) x)
              rw [HI.out.high (k + k2) (by omega), Nat.add_mul] at X1
              rw [HI.out.high (k + p2) (by omega), Nat.add_mul] at X0
              obtain ⟨c0, hc0⟩ : ∃ a, a = (eAt L (k + k2)).1 := ⟨_, rfl⟩
              obtain ⟨c1, hc1⟩ : ∃ a, a = (eAt L (k + k2)).2.1 := ⟨_, rfl⟩
              obtain ⟨c2, hc2⟩ : ∃ a, a = (eAt L (k + k2)).2.2 := ⟨_, rfl⟩
              obtain ⟨d0, hd0⟩ : ∃ a, a = (eAt L (k + p2)).1 := ⟨_, rfl⟩
              obtain ⟨d1, hd1⟩ : ∃ a, a = (eAt L (k + p2)).2.1 := ⟨_, rfl⟩
              obtain ⟨d2, hd2⟩ : ∃ a, a = (eAt L (k + p2)).2.2 := ⟨_, rfl⟩
              have HAK : Hid (alk (eAt L (k + k2)) (eAt L (k + k2 - 1)) = alk (c0, c1, c2) (d0, d1, d2)) := by
                show _ = _
                rw [show k + k2 - 1 = k + p2 by omega, hc0, hc1, hc2, hd0, hd1, hd2]
              have HCE : Hid (eAt L (k + k2) = (c0, c1, c2)) := by show _ = _; rw [hc0, hc1, hc2]
              rw [← hc0, ← hc1, ← hc2] at X1
              rw [← hd0, ← hd1, ← hd2] at X0
              have x1 := fun x => (X1.out x).1
              have x2 := fun x => (X1.out x).2.1
              have x3 := fun x => (X1.out x).2.2
              have y1 := fun x => (X0.out x).1
              have y2 := fun x => (X0.out x).2.1
              have y3 := fun x => (X0.out x).2.2
              have hkm2 : (k2 : Int) < (q : Int) := by omega
              have hpm2 : (p2 : Int) < (q : Int) := by omega
              clear hc0 hc1 hc2 hd0 hd1 hd2 X0
              go_wp2_with fail
              refine wp_region_gw (by kernel_rfl) (by kernel_rfl) ?_
              repeat (go_big_quiet_step (first
                | (go_at_call 74; exact gw_of (HAL.out c0 c1 c2 d0 d1 d2 _))
                | rfl))
              refine wpQuiet_nil ?_
              rintro _ ⟨x, rfl⟩
              clear x1 x2 x3 y1 y2 y3
              have HE2 : Hid (EArr x.world R M) := HE.out.below x.bel (lt_of_heap HE.out)
              have HC2 : Hid (Chg (fun k => k = R) w x.world) := HC.out.trans (Chg.of_below x.bel)
              obtain ⟨x1, x2, x3⟩ := X1.out x
              generalize hal : alk (c0, c1, c2) (d0, d1, d2) = bb at HAK ⊢
              clear hal HE HC X1
              generalize x.world = X at HE2 HC2 x1 x2 x3 ⊢
              clear x
              cases bb
              · obtain ⟨o1, o2, o3⟩ := HE2.out.cell (i := kk) (by rw [HML.out]; omega)
                have f1 := HE2.out.free (kk * 3)
                have f2 := HE2.out.free (kk * 3 + 1)
                have f3 := HE2.out.free (kk * 3 + 2)
                obtain ⟨z1, hz1⟩ : ∃ a, a = (eAt M kk).1 := ⟨_, rfl⟩
                obtain ⟨z2, hz2⟩ : ∃ a, a = (eAt M kk).2.1 := ⟨_, rfl⟩
                obtain ⟨z3, hz3⟩ : ∃ a, a = (eAt M kk).2.2 := ⟨_, rfl⟩
                rw [← hz1] at o1
                rw [← hz2] at o2
                rw [← hz3] at o3
                clear hz1 hz2 hz3
                have hkkm : (kk : Int) < (m : Int) := by omega
                go_wp2_with fail
                go_roundg (q - (k2 + 1))
                case measure => omega
                case rel =>
                  have hI := HI.out.keep (by rw [HL.out]; omega) HAK.out
                  rw [HCE.out] at hI
                  exact ⟨kk + 1, k2 + 1, M.set kk (c0, c1, c2), by go_num, by go_num, by omega, by omega, Nat.le_refl _, HE2.out.put (by rw [HML.out]; omega) c0 c1 c2, HC2.out.trans (Chg.three (S := fun k => k = R) rfl _ _ _), hI⟩
              · go_wp2_with fail
                go_roundg (q - (k2 + 1))
                case measure => omega
                case rel => exact ⟨kk, k2 + 1, M, by go_num, by go_num, by omega, by omega, Nat.le_refl _, HE2.out, HC2.out, HI.out.skip (by rw [HL.out]; omega) HAK.out⟩
            · obtain rfl : q = k2 := by omega
              have hkm2 : kk < m := by omega
              have hcl : ∀ ty, (Builtin.clear_ #[45] ty #[.slice (some ⟨R, kk * 3, none⟩) (m - kk) (m - kk)]).run Try.prog wr = .ok (.tuple #[]) (wr.setCells R (kk * 3) (Builtin.zeroCells (Value.agg #[.int .i64 0, .int .i64 0, .int .u64 0]).cells (m - kk)).toList) := fun ty => by
                have := run_clearE HE.out kk (m - kk) (by rw [HML.out]; exact hkm2) ty
                rw [HML.out] at this
                exact this
              have hmkk : ¬ m = kk := by omega
              have hkki : ¬ (m : Int) < (kk : Int) := by omega
              clear hkk
              go_wp2_with fail
              go_ret
              have hI := HI.out
              rw [hkq, ← HL.out] at hI
              have hcp := hI.klen
              have hlo := hI.low
              rw [List.take_length] at hcp hlo
              rw [hcp, ← hlo]
              exact ⟨rfl, clearE_eat HE.out (by rw [HML.out]; omega) (by omega) (by omega) _, Chg.setCells (S := fun k => k = R) rfl _ _ _ _ HC.out⟩
      · obtain rfl : m = k := by omega
        clear hlt
        have hfin := HCP.out
        rw [← HL.out, List.take_length] at hfin
        have HF : Hid (cpt L = L) := hfin
        clear hfin
        go_wp2_with fail
        go_ret
        rw [HF.out, HL.out]
        exact ⟨rfl, HE.out.whole HL.out (by omega), Chg.of_below HB.out⟩
end Go.Proofs.Ytmagigmcbegmiaa

/- A list of edges in a block of its own; a row of it sorted in place. -/
namespace Go.Proofs.Ytmagigmcbegmiaa
open Go.RowKit Go.Lib Go.Shelf Go.Sort
set_option linter.unusedVariables false
set_option linter.unusedSimpArgs false
def pcf (a b : Pq) : Int := or2 (cmpI a.1 b.1) (cmpI a.2 b.2)
theorem ltOf_pcf : ltOf pcf = plt := by
  funext a b
  simp only [ltOf, plt, pcf, or2, cmpI]
  congr 1
  apply propext
  constructor
  · intro h; repeat' split at h
    all_goals first | omega | (exfalso; omega)
  · intro h; repeat' split
    all_goals first | omega | (exfalso; omega)
theorem swo_pcf : Go.Sort.SWO (ltOf pcf) where
  irrefl x := by rw [ltOf_pcf, plt_niff]; omega
  trans x y z h1 h2 := by rw [ltOf_pcf, plt_iff] at *; omega
  ntrans x y z h1 h2 := by rw [ltOf_pcf, plt_niff] at *; omega
theorem tot_pcf (x y : Pq) (h1 : (ltOf pcf) x y = false) (h2 : (ltOf pcf) y x = false) : x = y := by
  rw [ltOf_pcf, plt_niff] at *
  exact Prod.ext (by omega) (by omega)
theorem psrt_pcf (l : List Pq) : (l.mergeSort fun x y => !(ltOf pcf) y x) = psrt l := by rw [ltOf_pcf]; rfl
def encV (v : Int) (p : Pq) : List Value := [.int .i64 v, .int .i64 p.1, .int .u64 p.2]
theorem flatV_at (v : Int) (l : List Pq) (t : Nat) (h : t < l.length * 3) : (eCells (l.map (mkE v)))[t]? = some (flatK (encV v) 3 l.toArray)[t]! := by
  rw [get_flatK _ _ _ _ (by simpa using h)]
  have hh : t / 3 < l.length := by omega
  obtain ⟨p, q, r⟩ := eCells_at (l.map (mkE v)) (t / 3) (by simpa using hh)
  have e1 : eAt (l.map (mkE v)) (t / 3) = mkE v l[t / 3] := by simp [eAt, hh]
  have e0 : l.toArray[t / 3]! = l[t / 3] := by
    rw [getElem!_pos _ _ (by simpa using hh)]; simp
  rw [e1] at p q r
  rw [e0]
  have hm : t % 3 = 0 ∨ t % 3 = 1 ∨ t % 3 = 2 := by omega
  rcases hm with hm | hm | hm
  · rw [show t / 3 * 3 = t by omega] at p
    rw [p, hm]; rfl
  · rw [show t / 3 * 3 + 1 = t by omega] at q
    rw [q, hm]; rfl
  · rw [show t / 3 * 3 + 2 = t by omega] at r
    rw [r, hm]; rfl
theorem EArr.holds {v : Int} {w : World} {R : Nat} {A C : List Ed3} {d : List Pq} (h : EArr w R (A ++ d.map (mkE v) ++ C)) : HoldsK (encV v) 3 w R (A.length * 3) d.toArray := by
  intro j hj
  rw [size_flatK] at hj
  have hj' : j < d.length * 3 := by simpa using hj
  have p := flatV_at v d j hj'
  refine ⟨cell_of h ?_, free_of h _⟩
  rw [eCells_append, eCells_append]
  simp only [List.getElem?_toArray]
  rw [List.append_assoc, List.getElem?_append_right (l₁ := eCells A) (l₂ := eCells (d.map (mkE v)) ++ eCells C) (by rw [eCells_length]; omega), eCells_length A, Nat.add_sub_cancel_left, List.getElem?_append_left (l₁ := eCells (d.map (mkE v))) (l₂ := eCells C) (by rw [eCells_length]; simpa using hj')]
  exact p
theorem putV {v : Int} {A C : List Ed3} {d d' : List Pq} (hm : d'.length = d.length) : putCells id (A.length * 3) (flatK (encV v) 3 d'.toArray) (eCells (A ++ d.map (mkE v) ++ C)).toArray = (eCells (A ++ d'.map (mkE v) ++ C)).toArray := by
  apply Array.ext_getElem?
  intro j
  have hs : (flatK (encV v) 3 d'.toArray).size = d'.length * 3 := by simp
  have l1 : (eCells (d.map (mkE v))).length = d.length * 3 := by rw [eCells_length]; simp
  have l2 : (eCells (d'.map (mkE v))).length = d.length * 3 := by rw [eCells_length]; simp [hm]
  simp only [putCells, Array.getElem?_mapIdx, List.getElem?_toArray, hs]
  rw [eCells_append, eCells_append, eCells_append, eCells_append, List.append_assoc, List.append_assoc]
  rcases Nat.lt_or_ge j (A.length * 3) with h1 | h1
  · rw [List.getElem?_append_left (by rw [eCells_length]; exact h1), List.getElem?_append_left (by rw [eCells_length]; exact h1)]
    cases h : (eCells A)[j]? with
    | none => rfl
    | some x => simp only [Option.map_some]; rw [if_neg (by omega)]
  · have la := eCells_length A
    rw [List.getElem?_append_right (l₁ := eCells A) (l₂ := eCells (d.map (mkE v)) ++ eCells C) (by omega), List.getElem?_append_right (l₁ := eCells A) (l₂ := eCells (d'.map (mkE v)) ++ eCells C) (by omega), la]
    rcases Nat.lt_or_ge (j - A.length * 3) (d.length * 3) with h2 | h2
    · rw [List.getElem?_append_left (l₁ := eCells (d.map (mkE v))) (l₂ := eCells C) (by omega), List.getElem?_append_left (l₁ := eCells (d'.map (mkE v))) (l₂ := eCells C) (by omega), flatV_at v d' _ (by omega), flatV_at v d _ h2]
      simp only [Option.map_some]
      rw [if_pos (by omega)]
      rfl
    · rw [List.getElem?_append_right (l₁ := eCells (d.map (mkE v))) (l₂ := eCells C) (by omega), List.getElem?_append_right (l₁ := eCells (d'.map (mkE v))) (l₂ := eCells C) (by omega), l1, l2]
      cases h : (eCells C)[j - A.length * 3 - d.length * 3]? with
      | none => rfl
      | some x => simp only [Option.map_some]; rw [if_neg (by omega)]
theorem EArr.sorted {v : Int} {w : World} {R : Nat} {A C : List Ed3} {d d' : List Pq} (h : EArr w R (A ++ d.map (mkE v) ++ C)) (hm : d'.length = d.length) (q : Nat) (os : Array Obj) :
    EArr (sortWorldK (encV v) 3 w R (A.length * 3) q d'.toArray os) R (A ++ d'.map (mkE v) ++ C) ∧ Chg (fun k => k = R) w (sortWorldK (encV v) 3 w R (A.length * 3) q d'.toArray os) := by
  have hgs : R < w.heap.size := lt_of_heap h
  have key : ∀ k, k < w.heap.size → (sortWorldK (encV v) 3 w R (A.length * 3) q d'.toArray os).heap[k]? = (mapBlock (Go.Sort.ahead w q) R (putCells id (A.length * 3) (flatK (encV v) 3 d'.toArray))).heap[k]? := fun k hk => by
    unfold sortWorldK
    rw [heap_grow_old _ _ (by show k < (putRow id _ R _ _).heap.size; rw [size_putRow]; exact hk)]
    rfl
  refine ⟨?_, rfl, rfl, rfl, ?_, fun k hk hne => ?_⟩
  · unfold EArr at h ⊢
    rw [key R hgs]
    simp only [mapBlock, heap_ahead, Array.getElem?_modify, if_true, h, Option.map_some, onCells]
    rw [putV hm]
  · unfold sortWorldK putRowK
    rw [size_grow, size_putRow, heap_ahead]; omega
  · rw [key k hk]
    simp only [mapBlock, heap_ahead, Array.getElem?_modify]
    rw [if_neg (fun e => hne e.symm)]
set_option maxHeartbeats 1000000 in
theorem sortRow_any (v : Int) (A C : List Ed3) (d : List Pq) (R c : Nat) (w : World) (h : EArr w R (A ++ d.map (mkE v) ++ C)) (hl : d.length < 4611686018427387904) :
    Calls Try.prog 93 #[.slice (some ⟨R, A.length * 3, none⟩) d.length c, .func (.func 94) #[] #[]] w fun e w' => e = .returned (.tuple #[]) ∧ EArr w' R (A ++ (psrt d).map (mkE v) ++ C) ∧ Chg (fun k => k = R) w w' := by
  have eg : ∀ args w, (callFunc 94 args).run Try.prog w = .ok (.enter 94 args) w := enters_of Try.func94 (by kernel_rfl) rfl
  have hcl : CmpLays Try.prog 94 #[] (encV v) 3 pcf R (A.length * 3) d.toArray.size w := fun m os dk _ x y => eclos_any (mkE v x) (mkE v y) _
  have hcon := AnyQ.slices_SortFunc_total Try.sortEd 3 Try.isAgg50 Try.sizeOf50 (encV v) (fun _ => rfl) (fun x u hu => by simp [encV] at hu; rcases hu with rfl | rfl | rfl <;> rfl) pcf swo_pcf 94 #[] R (A.length * 3) c d.toArray w eg hcl h.holds (lt_of_heap h) (by simpa using hl) tot_pcf
  change Calls Try.prog 93 _ _ _ at hcon
  rw [show (d.toArray).size = d.length by simp] at hcon
  refine hcon.mono ?_
  rintro e w' ⟨rfl, q, os, rfl⟩
  rw [show d.toArray.toList = d from rfl, psrt_pcf]
  exact ⟨rfl, h.sorted (psrt_length d) q os⟩
end Go.Proofs.Ytmagigmcbegmiaa

/- graph.sorted, graph.Sort. -/
namespace Go.Proofs.Ytmagigmcbegmiaa
open Go.RowKit Go.Lib Go.Shelf
set_option linter.unusedVariables false
set_option linter.unusedSimpArgs false
theorem part_runK (t : TypeId) (k : Nat) (ht : Try.prog.underlying t = some (.slice (Try.prog.elem t))) (hs : ∀ w, (sizeOf (Try.prog.elem t)).run Try.prog w = .ok k w) (ao : Option Addr) (n c p m : Nat) (hp : p + m ≤ c) (w : World) :
    (Instr.sliceAt t (.slice ao n c) (some (.int .i64 (p : Int))) (some (.int .i64 ((p : Int) + (m : Int)))) none).run Try.prog w = .ok (.slice (if c = p then ao else ao.map (·.add (p * k))) m (c - p)) w := by
  have e1 : ((p : Int) + (m : Int)).toNat = p + m := by omega
  have h := run_slice_lh (P := Try.prog) (w := w) t ao n c ht .i64 .i64 (p : Int) ((p : Int) + (m : Int)) (by omega) (by omega) (by omega)
  rw [run_sliceAt_slice (h := ht), h, hs]
  simp [sliced, e1]
theorem sortPart_any (v : Int) (A C : List Ed3) (d : List Pq) (R c : Nat) (so : Option Addr) (w : World) (h : EArr w R (A ++ d.map (mkE v) ++ C)) (hl : d.length ≤ 4194304) (hso : 0 < d.length → so = some ⟨R, A.length * 3, none⟩) :
    Calls Try.prog 93 #[.slice so d.length c, .func (.func 94) #[] #[]] w fun e w' => e = .returned (.tuple #[]) ∧ EArr w' R (A ++ (psrt d).map (mkE v) ++ C) ∧ Chg (fun k => k = R) w w' := by
  rcases Nat.eq_zero_or_pos d.length with h0 | h0
  · obtain rfl : d = [] := List.eq_nil_of_length_eq_zero h0
    have hc := AnyF.slices_SortFunc_none Try.sortEd so c (.func (.func 94) #[] #[]) w
    change Calls Try.prog 93 _ _ _ at hc
    refine hc.mono ?_
    rintro e w' ⟨rfl, rfl⟩
    exact ⟨rfl, by simpa [psrt] using h, Chg.refl _ _⟩
  · rw [hso h0]
    exact sortRow_any v A C d R c w h (by omega)
/-- AppendSeq of all edges, from any world behind w: a block of its own. -/
theorem list_own (n : Nat) (va vb vc : Value) (st tl wt : List Int) (w X : World) (R Bg Bc : Nat) (hg : GIs w n va vb vc st tl wt) (hgd : Good n st tl wt) (hb : Below w.heap.size w X) (hR : X.heap[R]? = some (eObj tl.length)) (hRw : w.heap.size ≤ R) (h1 : R ≠ Bg) (h2 : R ≠ Bc)
    (hB : X.heap[Bg]? = some (.cells #[.int .i64 n, va, vb, vc] 25 (0, 0))) (hC : X.heap[Bc]? = some (.cells #[.func (.func 86) #[] #[]] 109 (0, 0))) :
    Calls Try.prog 87 #[.slice (some ⟨R, 0, none⟩) 0 tl.length, .func (.func 89) #[] #[.pointer (some ⟨Bg, 0, none⟩), .pointer (some ⟨Bc, 0, none⟩)]] X fun e w' => e = .returned (.slice (some ⟨R, 0, none⟩) tl.length tl.length) ∧ EArr w' R (rowsE n st tl wt) ∧ Below w.heap.size w w' ∧ w.heap.size ≤ R := by
  have hl : (upto (edgeAt n st tl wt) tl.length).length = tl.length := upto_len _ _
  have := lt_of_heap hB
  have := lt_of_heap hC
  have hs := edges1_gives (fun k => k = R ∨ k = X.heap.size) n va vb vc st tl wt Bg Bc w X hg hgd hb (fun k hk => by have := hb.size; rcases hk with rfl | rfl <;> exact ⟨by omega, by omega, by omega⟩) hB hC
  have hc := appendSeq_any 0 R tl.length w.heap.size 89 _ _ X (enters_of Try.func89 (by kernel_rfl) rfl) (made_owns hR hRw hgd.m_le) (by rw [hl]; exact Nat.le_refl _) hs
  rw [hl] at hc
  refine (callsIn_wide.1 hc).mono ?_
  rintro e w' ⟨rfl, ho, hch⟩
  exact ⟨rfl, (EArr.of_owns ho).1, Chg.below hb hch (fun i hi => by subst hi; exact hRw) hb.size, hRw⟩
set_option maxRecDepth 100000 in
set_option maxHeartbeats 4000000 in
theorem listed_own (n : Nat) (va vb vc : Value) (st tl wt : List Int) (w : World) (hg : GIs w n va vb vc st tl wt) (hgd : Good n st tl wt) :
    Calls Try.prog 60 #[gAgg n va vb vc] w fun e w' => ∃ R, e = .returned (.slice (some ⟨R, 0, none⟩) tl.length tl.length) ∧ EArr w' R (rowsE n st tl wt) ∧ Below w.heap.size w w' ∧ w.heap.size ≤ R := by
  obtain ⟨ao, ca, rfl⟩ := hg.s.shape
  obtain ⟨bo, cb, rfl⟩ := hg.t.shape
  obtain ⟨co, cc, rfl⟩ := hg.u.shape
  have hml := hgd.m_le
  obtain ⟨c0, c1, c2, c3, hb1, hs1⟩ := boxed w (.int .i64 n) (.slice ao st.length ca) (.slice bo tl.length cb) (.slice co wt.length cc)
  have hmk := run_makeE tl.length hml
  have HL := hide (fun X R Bg Bc hb hR hRw h1 h2 hB hC => list_own n (.slice ao st.length ca) (.slice bo tl.length cb) (.slice co wt.length cc) st tl wt w X R Bg Bc hg hgd hb hR hRw h1 h2 hB hC)
  have HB := hide hb1
  unfold gAgg
  clear hg hgd hb1
  go_enter Try.func60, Try.ntmps60
  go_wp2
  generalize (w.alloc (.cells #[.int .i64 n, .slice ao st.length ca, .slice bo tl.length cb, .slice co wt.length cc] 25)) = w1 at c0 c1 c2 c3 hs1 HB ⊢
  have HLA := hide (HL.out (((w1.alloc (eObj tl.length)).alloc (.cells #[.int .i64 n, .slice ao st.length ca, .slice bo tl.length cb, .slice co wt.length cc] 25)).alloc (.cells #[.func (.func 86) #[] #[]] 109)).drew w1.heap.size (w1.heap.size + 1) (w1.heap.size + 1 + 1) (below_on HB.out (three_new w1 _ _ _ 50 25 109).2.2.2) (three_new w1 _ _ _ 50 25 109).1 HB.out.size (by omega) (by omega) (three_new w1 _ _ _ 50 25 109).2.1 (three_new w1 _ _ _ 50 25 109).2.2.1)
  have HLB := hide (HL.out (((w1.alloc (.cells #[.int .i64 n, .slice ao st.length ca, .slice bo tl.length cb, .slice co wt.length cc] 25)).alloc (.cells #[.func (.func 86) #[] #[]] 109)).alloc (eObj tl.length)).drew (w1.heap.size + 1 + 1) w1.heap.size (w1.heap.size + 1) (below_on HB.out (three_new w1 _ _ _ 25 109 50).2.2.2) (three_new w1 _ _ _ 25 109 50).2.2.1 (by have := HB.out.size; omega) (by omega) (by omega) (three_new w1 _ _ _ 25 109 50).1 (three_new w1 _ _ _ 25 109 50).2.1)
  clear HL HB
  go_region_with (first
    | (go_at_call 65; refine (callsIn_wide.1 (edgesI_any 0 n (.slice ao st.length ca) (.slice bo tl.length cb) (.slice co wt.length cc) (.int .i64 0) _)).mono ?_; rintro e9 w9 ⟨rfl, rfl⟩)
    | (go_at_call 87; with_reducible refine HLA.out.mono ?_; rintro e9 w9 ⟨rfl, hE, hbE, hlE⟩; have HE := hide hE; have HBE := hide hbE; have HLE := hide hlE; clear hE hbE hlE)
    | (go_at_call 87; with_reducible refine HLB.out.mono ?_; rintro e9 w9 ⟨rfl, hE, hbE, hlE⟩; have HE := hide hE; have HBE := hide hbE; have HLE := hide hlE; clear hE hbE hlE))
  all_goals
    go_wp2
    go_ret
    exact ⟨_, rfl, HE.out, HBE.out, HLE.out⟩
end Go.Proofs.Ytmagigmcbegmiaa

/- graph.sorted, graph.Sort, graph.Merge. -/
namespace Go.Proofs.Ytmagigmcbegmiaa
open Go.RowKit Go.Lib Go.Shelf
set_option linter.unusedVariables false
set_option linter.unusedSimpArgs false
/-- sorted under way: the box, the list with its first v rows sorted. -/
structure SM (w wr : World) (R : Nat) (gb : Array Value) (l : List Ed3) : Prop where
  box : wr.heap[w.heap.size]? = some (.cells gb 25 (0, 0))
  arr : EArr wr R l
  bel : Below w.heap.size w wr
  lt : w.heap.size < R
theorem SM.turn {w wr wx : World} {R : Nat} {gb : Array Value} {l l' : List Ed3} (h : SM w wr R gb l) (hl : EArr wx R l') (hc : Chg (fun k => k = R) wr wx) : SM w wx R gb l' := by
  have := h.lt
  exact ⟨hc.heap h.box (by omega), hl, Chg.below h.bel hc (fun k hk => by omega) h.bel.size, h.lt⟩
set_option maxRecDepth 100000 in
set_option maxHeartbeats 4000000 in
theorem sorted_any (n : Nat) (va vb vc : Value) (st tl wt : List Int) (w : World) (hg : GIs w n va vb vc st tl wt) (hgd : Good n st tl wt) :
    Calls Try.prog 72 #[gAgg n va vb vc] w fun e w' => ∃ R, e = .returned (.slice (some ⟨R, 0, none⟩) tl.length tl.length) ∧ EArr w' R (sortE n st tl wt) ∧ Below w.heap.size w w' ∧ w.heap.size ≤ R := by
  obtain ⟨ao, ca, rfl⟩ := hg.s.shape
  obtain ⟨bo, cb, rfl⟩ := hg.t.shape
  obtain ⟨co, cc, rfl⟩ := hg.u.shape
  have hml := hgd.m_le
  have hn := hgd.n_le
  have HLI := hide (fun W h => listed_own n (.slice ao st.length ca) (.slice bo tl.length cb) (.slice co wt.length cc) st tl wt W h hgd)
  obtain ⟨W, hW⟩ : ∃ W, W = w.alloc (.cells #[.int .i64 n, .slice ao st.length ca, .slice bo tl.length cb, .slice co wt.length cc] 25) := ⟨_, rfl⟩
  have hbW : Below w.heap.size w W := by rw [hW]; exact below_alloc (Below.refl _ _) _
  have hA : W.heap[w.heap.size]? = some (.cells #[.int .i64 n, .slice ao st.length ca, .slice bo tl.length cb, .slice co wt.length cc] 25 (0, 0)) := by rw [hW]; exact heap_new _ _
  have hWs : W.heap.size = w.heap.size + 1 := by rw [hW]; simp
  have HG := hide hg
  have HGD := hide hgd
  have HBW := hide hbW
  have HA := hide hA
  have HWS := hide hWs
  have c0 := cell_of hA (i := 0) rfl
  have c1 := cell_of hA (i := 1) rfl
  have c2 := cell_of hA (i := 2) rfl
  have c3 := cell_of hA (i := 3) rfl
  unfold gAgg at HLI ⊢
  clear hg hgd hbW hA hWs
  go_enter Try.func72, Try.ntmps72
  go_upto_region 1 with fail
  rw [← hW]
  clear hW
  go_wp2_with fail
  refine (HLI.out W (HG.out.below HBW.out)).mono ?_
  rintro e w2 ⟨R, rfl, hE, hb2, hR⟩
  have HSM : Hid (SM w w2 R #[.int .i64 n, .slice ao st.length ca, .slice bo tl.length cb, .slice co wt.length cc] (sL n st tl wt 0)) := by
    refine ⟨(hb2.block _ (lt_of_heap HA.out)).trans HA.out, ?_, below_on HBW.out hb2, by have := HWS.out; omega⟩
    rw [sL_zero HGD.out]; exact hE
  have d0 : w2.cell? ⟨w.heap.size, 0, none⟩ = some (.int .i64 n) := cell_of HSM.out.box (i := 0) rfl
  obtain ⟨M, hM⟩ : ∃ M, M = tl.length := ⟨_, rfl⟩
  rw [← hM] at hml ⊢
  have HM := hide hM
  clear c0 c1 c2 c3 hE hb2 hR HLI HA HBW HWS hM
  go_wp2_with fail
  clear d0
  go_loopw [9, 4] (fun t _ wr => ∃ v : Nat, t = .int .i64 (v : Int) ∧ v ≤ n ∧ SM w wr R #[.int .i64 n, .slice ao st.length ca, .slice bo M cb, .slice co wt.length cc] (sL n st tl wt v)) (fun t _ _ => n - (RowKit.intOf t).toNat)
  case atStart => exact ⟨0, rfl, Nat.zero_le _, by rw [HM.out]; exact HSM.out⟩
  case round =>
    obtain ⟨v, rfl, hv, hsm⟩ := hrel
    have HN := hide hsm
    clear hsm HSM
    by_cases hlt : v < n
    · obtain ⟨A, C, e1, e2, e3⟩ := sL_split HGD.out v hlt
      obtain ⟨p, hp⟩ : ∃ p : Nat, at_ st v = (p : Int) := ⟨A.length, e3.symm⟩
      have hmo := HGD.out.mono v (v + 1) (by omega) (by omega)
      have hrg := HGD.out.range (v + 1) (by omega)
      obtain ⟨d, hd⟩ : ∃ d : Nat, at_ st (v + 1) = (p : Int) + (d : Int) := ⟨(at_ st (v + 1) - at_ st v).toNat, by omega⟩
      have hAl : A.length = p := by omega
      have hpd : p + d ≤ M := by have := HM.out; omega
      have hdl : (rowP st tl wt v).length = d := by rw [rowP_len]; omega
      obtain ⟨so, hso⟩ : ∃ so : Option Addr, so = (if M = p then some ⟨R, 0, none⟩ else (some (⟨R, 0, none⟩ : Addr)).map (·.add (p * 3))) := ⟨_, rfl⟩
      have hsl := part_runK 45 3 Try.underlying45 (fun w => Try.sizeOf50 w) (some ⟨R, 0, none⟩) M M p d hpd
      rw [← hso] at hsl
      have hsp : ∀ W, EArr W R (sL n st tl wt v) → Calls Try.prog 93 #[.slice so d (M - p), .func (.func 94) #[] #[]] W fun e w' => e = .returned (.tuple #[]) ∧ EArr w' R (sL n st tl wt (v + 1)) ∧ Chg (fun k => k = R) W w' := fun W hW => by
        rw [e1] at hW
        have := sortPart_any v A C (rowP st tl wt v) R (M - p) so W hW (by omega) (fun h0 => by rw [hso, if_neg (by omega), hAl, Option.map_some, Addr.add_lit, Nat.zero_add])
        rw [hdl] at this
        rw [e2]; exact this
      obtain ⟨v1, hv1⟩ : ∃ v1, v1 = v + 1 := ⟨_, rfl⟩
      obtain ⟨gs, os, cs, he, hgs, sx0⟩ := HG.out.s.cellAt v (by have := HGD.out.s_len; omega)
      simp only [Value.slice.injEq, true_and] at he
      obtain ⟨rfl, rfl⟩ := he
      have sy0 : w.cell? ⟨gs, os + v1, none⟩ = some (.int .i64 ((p : Int) + (d : Int))) := by
        obtain ⟨gs2, os2, cs2, he2, _, sy⟩ := HG.out.s.cellAt (v + 1) (by have := HGD.out.s_len; omega)
        simp only [Value.slice.injEq, Option.some.injEq, Addr.mk.injEq, true_and, and_true] at he2
        obtain ⟨⟨rfl, rfl⟩, _⟩ := he2
        rw [hd, ← hv1] at sy; exact sy
      rw [hp] at sx0
      have HSX : Hid (∀ X : World, SM w X R #[.int .i64 n, .slice (some ⟨gs, os, none⟩) st.length ca, .slice bo M cb, .slice co wt.length cc] (sL n st tl wt v) ∨ SM w X R #[.int .i64 n, .slice (some ⟨gs, os, none⟩) st.length ca, .slice bo M cb, .slice co wt.length cc] (sL n st tl wt v1) → X.cell? ⟨w.heap.size, 1, none⟩ = some (.slice (some ⟨gs, os, none⟩) st.length ca) ∧ X.cell? ⟨gs, os + v, none⟩ = some (.int .i64 (p : Int)) ∧ X.cell? ⟨gs, os + v1, none⟩ = some (.int .i64 ((p : Int) + (d : Int)))) := by
        intro X hX
        have hb : Below w.heap.size w X := hX.elim (·.bel) (·.bel)
        have hbx : X.heap[w.heap.size]? = some (.cells #[.int .i64 n, .slice (some ⟨gs, os, none⟩) st.length ca, .slice bo M cb, .slice co wt.length cc] 25 (0, 0)) := hX.elim (·.box) (·.box)
        exact ⟨cell_of hbx (i := 1) rfl, (below_cell hb (block_of_cell sx0)).trans sx0, (below_cell hb (block_of_cell sy0)).trans sy0⟩
      obtain ⟨b1, sx, sy⟩ := HSX.out wr (.inl HN.out)
      rw [← hv1] at hsp
      have HSP := hide hsp
      have hvl : (v : Int) < (st.length : Int) := by have := HGD.out.s_len; omega
      have hvl2 : (v1 : Int) < (st.length : Int) := by have := HGD.out.s_len; omega
      have hvi : (v : Int) < (n : Int) := by omega
      have hwv : IntKind.i64.wrap ((v : Int) + 1) = (v1 : Int) := by rw [hv1]; exact (IntWalk.i64_in _ (by omega)).trans (by omega)
      clear e1 e2 e3 hp hd hAl hpd hdl hso hmo hrg hsp sx0 sy0
      have HV1 := hide hv1
      clear hv1
      go_wp2_with fail
      refine wp_region_noPanic ?_
      go_region_held3 (fun z => z.cell? ⟨w.heap.size, 1, none⟩ = some (.slice (some ⟨gs, os, none⟩) st.length ca) ∧ z.cell? ⟨gs, os + v, none⟩ = some (.int .i64 (p : Int)) ∧ z.cell? ⟨gs, os + v1, none⟩ = some (.int .i64 ((p : Int) + (d : Int)))) (first | exact ⟨b1, sx, sy⟩ | exact HSX.out _ (.inr HN3.out))
        ((go_at_call 93; refine (HSP.out wr.drew HN.out.arr).mono ?_; rintro e w3 ⟨rfl, hE3, hC3⟩; have HN3 := hide (HN.out.turn hE3 (show Chg (fun k => k = R) wr w3 from ⟨hC3.os, hC3.tape, hC3.output, hC3.size, hC3.block⟩)); clear hE3 hC3))
      refine NoPanic.normal ?_
      go_wp2_with fail
      have hfin := HN3.out
      have hv1 := HV1.out
      exact ⟨⟨v1, by rw [hv1], by omega, hfin⟩, by simp [RowKit.intOf]; omega⟩
    · obtain rfl : n = v := by omega
      go_wp2_with fail
      go_ret
      have ha := HN.out.arr
      rw [sL_all] at ha
      have hlt := HN.out.lt
      rw [HM.out]
      exact ⟨R, rfl, ha, HN.out.bel, by omega⟩
theorem MT.turn {w x x' : World} {N : Int} {va vb vc : Value} {R : Nat} (h : MT w x N va vb vc) (hR : w.heap.size + 1 < R) (hc : Chg (fun k => k = R) x x') : MT w x' N va vb vc :=
  ⟨hc.heap h.bg (by omega), hc.heap h.rs (by omega), Chg.below h.bel hc (fun k hk => by omega) h.bel.size⟩
theorem Try.results35 : Try.f35.results = #[.cell 2 25, .tmp 3] := by kernel_rfl
theorem Try.results36 : Try.f36.results = #[.cell 2 25, .tmp 3] := by kernel_rfl
/-- A graph laid of a list of edges. -/
def LaidW (w : World) (n : Nat) (L : List Ed3) (e : Ending) (w' : World) : Prop :=
  ∃ va vb vc st tl wt nx, e = .returned (.tuple #[gAgg n va vb vc, .int .i64 0]) ∧ GIs w' n va vb vc st tl wt ∧ Summed n L.length (eFrom L) n st ∧ Laying n L.length (eFrom L) (eTo L) (eWt L) L.length nx tl wt ∧ Below w.heap.size w w'
theorem arr_call (n : Nat) (L : List Ed3) (ht : Takes n L) (x : World) (lb : Array Value) (hs : ∀ Tt : Nat → Prop, (∀ k, Tt k → x.heap.size ≤ k) → Gw Tt Try.prog 88 lb encE (upto (fEd (eFrom L) (eTo L) (eWt L)) L.length) x) :
    Calls Try.prog 61 #[.int .i64 n, .func (.func 88) #[] lb] x (ArrW x n L.length (eFrom L) (eTo L) (eWt L)) :=
  callsIn_wide.1 (arrange_any 0 n L.length 88 (enters_of Try.func88 (by kernel_rfl) rfl) lb (eFrom L) (eTo L) (eWt L) x ht.n_le ht.m_le (fun i hi => by have := ht.efr i hi; unfold eFrom; omega) (fun i hi => by have := ht.eto i hi; unfold eTo; omega) (fun i hi => ht.ewt i hi) hs)
set_option maxRecDepth 100000 in
set_option maxHeartbeats 4000000 in
theorem sort_good (n : Nat) (va vb vc : Value) (st tl wt : List Int) (w : World) (hg : GIs w n va vb vc st tl wt) (hgd : Good n st tl wt) (hwn : ∀ e, e < tl.length → 0 ≤ at_ wt e) :
    Calls Try.prog 35 #[gAgg n va vb vc] w (LaidW w n (sortE n st tl wt)) := by
  obtain ⟨ao, ca, rfl⟩ := hg.s.shape
  obtain ⟨bo, cb, rfl⟩ := hg.t.shape
  obtain ⟨co, cc, rfl⟩ := hg.u.shape
  have hml := hgd.m_le
  have hn := hgd.n_le
  have hchk := good_chk' hgd
  obtain ⟨⟨r1, r2⟩, hrr⟩ : ∃ r, chk n st tl wt = r := ⟨_, rfl⟩
  rw [hrr] at hchk
  simp only at hchk
  subst hchk
  have hck := (fun W h => check_all n (.slice ao st.length ca) (.slice bo tl.length cb) (.slice co wt.length cc) st tl wt W h (by have := hgd.s_len; omega) (by omega) (by have := hgd.w_len; omega))
  rw [hrr] at hck
  have HCK := hide hck
  have HTK := hide (sortE_takes hgd hwn)
  have HSL := hide (sortE_len hgd)
  have HSO := hide (fun W h => sorted_any n (.slice ao st.length ca) (.slice bo tl.length cb) (.slice co wt.length cc) st tl wt W h hgd)
  have HK1 := hide (MT.start w n (.slice ao st.length ca) (.slice bo tl.length cb) (.slice co wt.length cc))
  have HG := hide hg
  have c0 := cell_of HK1.out.bg (i := 0) rfl
  have c1 := cell_of HK1.out.bg (i := 1) rfl
  have c2 := cell_of HK1.out.bg (i := 2) rfl
  have c3 := cell_of HK1.out.bg (i := 3) rfl
  obtain ⟨L, hL⟩ : ∃ L, L = sortE n st tl wt := ⟨_, rfl⟩
  rw [← hL] at HTK HSL HSO ⊢
  clear hL
  have HAR := hide (fun x lb hs => arr_call n L HTK.out x lb hs)
  have HSQ := hide (fun ao c w0 x x' he hb hx => values_seq n ao c L w0 x x' HTK.out he hb hx)
  obtain ⟨M, hM⟩ : ∃ M, M = tl.length := ⟨_, rfl⟩
  rw [← hM] at HSL HSO hml
  unfold gAgg at HCK HSO ⊢
  rw [← hM] at HCK HG HK1 c2 ⊢
  clear hg hck hrr hgd hM hwn
  go_enter Try.func35, Try.ntmps35
  go_wp2_with fail
  generalize ((w.alloc (.cells #[.int .i64 n, .slice ao st.length ca, .slice bo M cb, .slice co wt.length cc] 25)).alloc (.cells #[.int .i64 0, .slice none 0 0, .slice none 0 0, .slice none 0 0] 25)) = w1 at c0 c1 c2 c3 HK1 ⊢
  refine (HCK.out w1 (HG.out.below HK1.out.bel)).mono ?_
  rintro e w2 ⟨rfl, hb2⟩
  have HK2 := hide (HK1.out.below hb2)
  have HS2 := hide (HSO.out w2.drew (HG.out.below HK2.out.drew.bel))
  have d0 := cell_of HK2.out.bg (i := 0) rfl
  have d1 := cell_of HK2.out.bg (i := 1) rfl
  have d2 := cell_of HK2.out.bg (i := 2) rfl
  have d3 := cell_of HK2.out.bg (i := 3) rfl
  clear c0 c1 c2 c3 HK1 hb2 HCK HG HSO
  go_wp2_with fail
  go_region_with (first
    | (go_at_call 72; refine HS2.out.mono ?_; rintro e7 w7 ⟨R, rfl, hE7, hb7, hR7⟩; have HK7 := hide (HK2.out.drew.below hb7); have HE7 := hide (hE7.whole HSL.out (by omega)); have f0 := cell_of HK7.out.bg (i := 0) rfl; clear hE7 hb7 hR7)
    | (go_at_call 62; refine (callsIn_wide.1 (values_any 0 (some ⟨R, 0, none⟩) M M _)).mono ?_; rintro e9 w9 ⟨rfl, hw9⟩; have HS9 := hide (HSQ.out (some ⟨R, 0, none⟩) M w7 w7 w9 (by rw [HSL.out]; exact HE7.out) (Below.refl _ _) (by rw [HSL.out]; exact hw9)); have HK9 := hide (show MT w w9 n (.slice ao st.length ca) (.slice bo M cb) (.slice co wt.length cc) from HK7.out.below (by rw [hw9]; exact below_alloc (Below.refl _ _) _)); have g0 := cell_of HK9.out.bg (i := 0) rfl; clear hw9)
    | (go_at_call 61; refine (HAR.out _ _ HS9.out).mono ?_; rintro e8 w8 ⟨va8, vb8, vc8, st8, tl8, wt8, nx8, rfl, hGI, hSm, hLy, hb8⟩; obtain ⟨ao8, ca8, rfl⟩ := (hGI w8 (fun _ _ => rfl)).s.shape; obtain ⟨bo8, cb8, rfl⟩ := (hGI w8 (fun _ _ => rfl)).t.shape; obtain ⟨co8, cc8, rfl⟩ := (hGI w8 (fun _ _ => rfl)).u.shape; have HK8 := hide (HK9.out.below hb8); have HGI := hide hGI; have HSM := hide hSm; have HLY := hide hLy; have b0 := cell_of HK8.out.bg (i := 0) rfl; have r0 := cell_of HK8.out.rs (i := 0) rfl; have r1 := cell_of HK8.out.rs (i := 1) rfl; have r2 := cell_of HK8.out.rs (i := 2) rfl; have r3 := cell_of HK8.out.rs (i := 3) rfl; have q0 := free_of HK8.out.rs 0; have q1 := free_of HK8.out.rs 1; have q2 := free_of HK8.out.rs 2; have q3 := free_of HK8.out.rs 3; clear hGI hSm hLy hb8; unfold gAgg))
  all_goals
    go_wp2
    have hlt : w.heap.size + 1 < w9.heap.size := lt_of_heap HK9.out.rs
    have HPU := HK8.out.put (.int .i64 n) (.slice ao8 st8.length ca8) (.slice bo8 tl8.length cb8) (.slice co8 wt8.length cc8)
    exact bodyPost_ret (results_cell2 Try.results35 _ _ (w.heap.size + 1) 25 _ (0, 0) _ rfl HPU.1 Try.underlying25 rfl (by kernel_rfl) (.int .i64 0) rfl) rfl ⟨_, _, _, _, _, _, _, rfl, HGI.out _ (fun k hk => HPU.2.2 k (by omega)), HSM.out, HLY.out, HPU.2.1⟩
end Go.Proofs.Ytmagigmcbegmiaa

/- graph.Merge. -/
namespace Go.Proofs.Ytmagigmcbegmiaa
open Go.RowKit Go.Lib Go.Shelf
set_option linter.unusedVariables false
set_option linter.unusedSimpArgs false
set_option maxRecDepth 100000 in
set_option maxHeartbeats 4000000 in
theorem merge_good (n : Nat) (va vb vc : Value) (st tl wt : List Int) (w : World) (hg : GIs w n va vb vc st tl wt) (hgd : Good n st tl wt) (hwn : ∀ e, e < tl.length → 0 ≤ at_ wt e) :
    Calls Try.prog 36 #[gAgg n va vb vc] w (LaidW w n (cpt (sortE n st tl wt))) := by
  obtain ⟨ao, ca, rfl⟩ := hg.s.shape
  obtain ⟨bo, cb, rfl⟩ := hg.t.shape
  obtain ⟨co, cc, rfl⟩ := hg.u.shape
  have hml := hgd.m_le
  have hn := hgd.n_le
  have hchk := good_chk' hgd
  obtain ⟨⟨r1, r2⟩, hrr⟩ : ∃ r, chk n st tl wt = r := ⟨_, rfl⟩
  rw [hrr] at hchk
  simp only at hchk
  subst hchk
  have hck := (fun W h => check_all n (.slice ao st.length ca) (.slice bo tl.length cb) (.slice co wt.length cc) st tl wt W h (by have := hgd.s_len; omega) (by omega) (by have := hgd.w_len; omega))
  rw [hrr] at hck
  have HCK := hide hck
  have HTK := hide (cpt_takes (sortE_takes hgd hwn) sortE_lxl)
  have HSL := hide (sortE_len hgd)
  have HSO := hide (fun W h => sorted_any n (.slice ao st.length ca) (.slice bo tl.length cb) (.slice co wt.length cc) st tl wt W h hgd)
  have HK1 := hide (MT.start w n (.slice ao st.length ca) (.slice bo tl.length cb) (.slice co wt.length cc))
  have HG := hide hg
  have c0 := cell_of HK1.out.bg (i := 0) rfl
  have c1 := cell_of HK1.out.bg (i := 1) rfl
  have c2 := cell_of HK1.out.bg (i := 2) rfl
  have c3 := cell_of HK1.out.bg (i := 3) rfl
  obtain ⟨L, hL⟩ : ∃ L, L = sortE n st tl wt := ⟨_, rfl⟩
  rw [← hL] at HTK HSL HSO ⊢
  clear hL
  have HAR := hide (fun x lb hs => arr_call n (cpt L) HTK.out x lb hs)
  have HSQ := hide (fun ao c w0 x x' he hb hx => values_seq n ao c (cpt L) w0 x x' HTK.out he hb hx)
  have HCO := hide (fun R W hA => compact_any R tl.length L W hA HSL.out hml)
  obtain ⟨M, hM⟩ : ∃ M, M = tl.length := ⟨_, rfl⟩
  rw [← hM] at HSL HSO HCO hml
  unfold gAgg at HCK HSO ⊢
  rw [← hM] at HCK HG HK1 c2 ⊢
  clear hg hck hrr hgd hM hwn
  go_enter Try.func36, Try.ntmps36
  go_wp2_with fail
  generalize ((w.alloc (.cells #[.int .i64 n, .slice ao st.length ca, .slice bo M cb, .slice co wt.length cc] 25)).alloc (.cells #[.int .i64 0, .slice none 0 0, .slice none 0 0, .slice none 0 0] 25)) = w1 at c0 c1 c2 c3 HK1 ⊢
  refine (HCK.out w1 (HG.out.below HK1.out.bel)).mono ?_
  rintro e w2 ⟨rfl, hb2⟩
  have HK2 := hide (HK1.out.below hb2)
  have HS3 := hide (HSO.out w2 (HG.out.below HK2.out.bel))
  have d0 := cell_of HK2.out.bg (i := 0) rfl
  have d1 := cell_of HK2.out.bg (i := 1) rfl
  have d2 := cell_of HK2.out.bg (i := 2) rfl
  have d3 := cell_of HK2.out.bg (i := 3) rfl
  clear c0 c1 c2 c3 HK1 hb2 HCK HG HSO
  go_wp2_with (first
    | (go_at_call 72; refine HS3.out.mono ?_; rintro e7 w7 ⟨R, rfl, hE7, hb7, hR7⟩; have HK7 := hide (HK2.out.below hb7); have HE7 := hide hE7; have HR7 : Hid (w.heap.size + 1 < R) := (show _ < _ by have := lt_of_heap HK2.out.rs; omega); clear hE7 hb7 hR7 d0 d1 d2 d3)
    | (go_at_call 73; refine (HCO.out R w7 HE7.out).mono ?_; rintro e6 w6 ⟨rfl, hE6, hC6⟩; have HK6 := hide (HK7.out.turn HR7.out hC6); have HE6 := hide hE6; clear hE6 hC6)
    | fail)
  have f0 := cell_of HK6.out.bg (i := 0) rfl
  obtain ⟨K, hK⟩ : ∃ K, K = (cpt L).length := ⟨_, rfl⟩
  rw [← hK] at HE6 ⊢
  have HKL := hide hK
  have HS4 := hide (fun x' hx => HSQ.out (some ⟨R, 0, none⟩) M w6 w6.drew x' (by rw [← HKL.out]; exact HE6.out) (below_drew (Below.refl _ _)) hx)
  rw [← hK] at HS4
  clear hK HCO HSQ HK7 HE7
  go_region_with (first
    | (go_at_call 62; refine (callsIn_wide.1 (values_any 0 (some ⟨R, 0, none⟩) K M _)).mono ?_; rintro e9 w9 ⟨rfl, hw9⟩; have HS9 := hide (HS4.out w9 hw9); have HK9 := hide (show MT w w9 n (.slice ao st.length ca) (.slice bo M cb) (.slice co wt.length cc) from HK6.out.below (by rw [hw9]; exact below_alloc (below_drew (Below.refl _ _)) _)); have g0 := cell_of HK9.out.bg (i := 0) rfl; clear hw9)
    | (go_at_call 61; refine (HAR.out _ _ (by rw [← HKL.out]; exact HS9.out)).mono ?_; rintro e8 w8 ⟨va8, vb8, vc8, st8, tl8, wt8, nx8, rfl, hGI, hSm, hLy, hb8⟩; obtain ⟨ao8, ca8, rfl⟩ := (hGI w8 (fun _ _ => rfl)).s.shape; obtain ⟨bo8, cb8, rfl⟩ := (hGI w8 (fun _ _ => rfl)).t.shape; obtain ⟨co8, cc8, rfl⟩ := (hGI w8 (fun _ _ => rfl)).u.shape; have HK8 := hide (HK9.out.below hb8); have HGI := hide hGI; have HSM := hide hSm; have HLY := hide hLy; have b0 := cell_of HK8.out.bg (i := 0) rfl; have r0 := cell_of HK8.out.rs (i := 0) rfl; have r1 := cell_of HK8.out.rs (i := 1) rfl; have r2 := cell_of HK8.out.rs (i := 2) rfl; have r3 := cell_of HK8.out.rs (i := 3) rfl; have q0 := free_of HK8.out.rs 0; have q1 := free_of HK8.out.rs 1; have q2 := free_of HK8.out.rs 2; have q3 := free_of HK8.out.rs 3; clear hGI hSm hLy hb8; unfold gAgg))
  all_goals
    go_wp2
    have hlt : w.heap.size + 1 < w9.heap.size := lt_of_heap HK9.out.rs
    have HPU := HK8.out.put (.int .i64 n) (.slice ao8 st8.length ca8) (.slice bo8 tl8.length cb8) (.slice co8 wt8.length cc8)
    exact bodyPost_ret (results_cell2 Try.results36 _ _ (w.heap.size + 1) 25 _ (0, 0) _ rfl HPU.1 Try.underlying25 rfl (by kernel_rfl) (.int .i64 0) rfl) rfl ⟨_, _, _, _, _, _, _, rfl, HGI.out _ (fun k hk => HPU.2.2 k (by omega)), HSM.out, HLY.out, HPU.2.1⟩
end Go.Proofs.Ytmagigmcbegmiaa
