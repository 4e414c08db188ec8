/- The reference's CrcJoin. -/
import Derived.Test.YtpfpelhhebafeaaDoorRefCrc
import Derived.Laws.Rows
import Derived.Laws.Tables
import Derived.Laws.CopyOwn
namespace Go.Proofs.YtpfpelhhebafeaaDoor
open Go.RowKit Go.Lib
set_option linter.unusedVariables false

def stepCells (k : Nat) : Array Value := ((List.range 32).map fun i => Value.int .u32 ((mvs k (2 ^ i) : Nat) : Int)).toArray
theorem stepCells_size (k : Nat) : (stepCells k).size = 32 := by simp [stepCells]
theorem stepCells_at (k i : Nat) (h : i < 32) : (stepCells k)[i]? = some (.int .u32 ((mvs k (2 ^ i) : Nat) : Int)) := by simp [stepCells, h]
theorem stepCells_of {k : Nat} {cur : Array Value} (hs : cur.size = 32) (h : ∀ i, i < 32 → cur[i]? = some (.int .u32 ((mvs k (2 ^ i) : Nat) : Int))) : cur = stepCells k := by
  apply Array.ext_getElem?
  intro i
  rcases Nat.lt_or_ge i 32 with hi | hi
  · rw [h i hi, stepCells_at k i hi]
  · rw [Array.getElem?_eq_none (by omega), Array.getElem?_eq_none (by rw [stepCells_size]; exact hi)]
theorem stepCells_one (k : Nat) : (stepCells k).all (·.oneCell') = true := by
  rw [Array.all_eq_true]
  intro i hi
  simp [stepCells, Value.oneCell']
def StepAt (w : World) (B k : Nat) : Prop := w.heap[B]? = some (.cells (stepCells k) 87 (0, 0))
theorem StepAt.cell {w : World} {B k : Nat} (h : StepAt w B k) {i : Nat} (hi : i < 32) : w.cell? ⟨B, i, none⟩ = some (.int .u32 ((mvs k (2 ^ i) : Nat) : Int)) := cell_of h (stepCells_at k i hi)
theorem StepAt.below {w w' : World} {B k : Nat} (h : StepAt w B k) (hb : Below w.heap.size w w') : StepAt w' B k := (hb.block B (lt_of_heap h)).trans h
theorem Tryd.size87 : (Tryd.prog.info? 87).map (·.size) = some 32 := by kernel_rfl
theorem two_lt {i : Nat} (h : i < 32) : 2 ^ i < 4294967296 := Nat.lt_of_lt_of_le (Nat.pow_lt_pow_right (by decide) h) (by decide)

set_option maxRecDepth 100000 in
set_option maxHeartbeats 2000000 in
theorem moved_any (B k x : Nat) (w : World) (h : StepAt w B k) (hx : x < 4294967296) :
    Calls Tryd.prog 54 #[.pointer (some ⟨B, 0, none⟩), .int .u32 x] w fun e w' => e = .returned (.int .u32 ((mvs k x : Nat) : Int)) ∧ w' = w := by
  have H := hide h
  have HZ : Hid (mvs k 0 = 0) := by
    show mvs k 0 = 0
    have := mvs_xor k 0 0
    simpa using this
  clear h
  go_enter Tryd.func54, Tryd.ntmps54
  go_wp2_with fail
  go_loopw [5, 6] (fun y t wr => ∃ i : Nat, i ≤ 32 ∧ y = .int .u32 ((mvs k (x % 2 ^ i) : Nat) : Int) ∧ t = .int .i64 i ∧ wr = w) (fun _ t _ => 32 - (RowKit.intOf t).toNat)
  case atStart => exact ⟨0, by omega, by rw [Nat.pow_zero, Nat.mod_one, HZ.out]; rfl, rfl, rfl⟩
  case round =>
    obtain ⟨i, hi, rfl, rfl, rfl⟩ := hrel
    by_cases hlt : i < 32
    · have d := H.out.cell hlt
      have h1 : mvs k (x % 2 ^ i) < 4294967296 := mvs_lt k (Nat.lt_of_le_of_lt (Nat.mod_le _ _) hx)
      have h2 : mvs k (2 ^ i) < 4294967296 := mvs_lt k (two_lt hlt)
      have hxr := xor32 _ _ h1 h2
      have hdv : ((x : Int) / 2 ^ i).tmod 2 = ((x / 2 ^ i % 2 : Nat) : Int) := by
        have e : (x : Int) / 2 ^ i = ((x / 2 ^ i : Nat) : Int) := by push_cast; rfl
        rw [e]
        exact (Int.ofNat_tmod _ 2).symm
      have hil : (i : Int) < 32 := by omega
      rcases Nat.mod_two_eq_zero_or_one (x / 2 ^ i) with hb | hb
      · have HN := hide (turn_none hb)
        rw [hb] at hdv
        obtain ⟨z, hz⟩ : ∃ z, z = mvs k (x % 2 ^ i) := ⟨_, rfl⟩
        rw [← hz]
        have HZ2 := hide hz
        clear hb hz h1 h2 hxr d
        go_wp2_with fail
        go_roundw
        case rel => exact ⟨i + 1, by omega, by rw [HN.out, ← HZ2.out], by simp, by first | exact trivial | rfl⟩
        case measure => simp [RowKit.intOf]; omega
      · have HN : Hid (mvs k (x % 2 ^ (i + 1)) = mvs k (x % 2 ^ i) ^^^ mvs k (2 ^ i)) := by
          show mvs k (x % 2 ^ (i + 1)) = mvs k (x % 2 ^ i) ^^^ mvs k (2 ^ i)
          rw [more_bit, hb, Nat.mul_one, ← mvs_xor]
          congr 1
          have := add_xor (x % 2 ^ i) 1 i (Nat.mod_lt _ (Nat.two_pow_pos i))
          simpa using this
        rw [hb] at hdv
        replace hdv : ((x : Int) / 2 ^ i).tmod 2 = 1 := hdv
        obtain ⟨z, hz⟩ : ∃ z, z = mvs k (x % 2 ^ i) := ⟨_, rfl⟩
        obtain ⟨y, hy⟩ : ∃ y, y = mvs k (2 ^ i) := ⟨_, rfl⟩
        rw [← hz, ← hy] at hxr HN
        rw [← hz]
        rw [← hy] at d
        clear hb hz hy h1 h2
        go_wp2_with fail
        go_roundw
        case rel => exact ⟨i + 1, by omega, by rw [HN.out, ← hxr], by simp, by first | exact trivial | rfl⟩
        case measure => simp [RowKit.intOf]; omega
    · obtain rfl : i = 32 := by omega
      have HE : Hid (x % 2 ^ 32 = x) := Nat.mod_eq_of_lt hx
      rw [HE.out]
      go_wp2
      go_ret
      exact ⟨rfl, rfl⟩

def zeros32 : Array Value := Array.replicate 32 (.int .u32 0)
/-- An array of 32 words of which the first n are those of a step. -/
def StepPart (w : World) (B k n : Nat) : Prop := ∃ cur : Array Value, w.heap[B]? = some (.cells cur 87 (0, 0)) ∧ cur.size = 32 ∧ ∀ i, i < n → cur[i]? = some (.int .u32 ((mvs k (2 ^ i) : Nat) : Int))
theorem StepPart.put {w : World} {B k n : Nat} (h : StepPart w B k n) (hn : n < 32) : StepPart (w.setCell ⟨B, n, none⟩ (.int .u32 ((mvs k (2 ^ n) : Nat) : Int))) B k (n + 1) := by
  obtain ⟨cur, hh, hs, hc⟩ := h
  refine ⟨_, heap_set hh _, by simpa using hs, fun i hi => ?_⟩
  rw [Array.getElem?_setIfInBounds]
  by_cases he : n = i
  · subst he; simp [hs, hn]
  · rw [if_neg he]; exact hc i (by omega)
theorem StepPart.free {w : World} {B k n : Nat} (h : StepPart w B k n) (i : Nat) : w.frozen? ⟨B, i, none⟩ = false := by
  obtain ⟨cur, hh, _⟩ := h; exact free_of hh i
theorem StepPart.some {w : World} {B k n : Nat} (h : StepPart w B k n) {i : Nat} (hi : i < 32) : ∃ v, w.cell? ⟨B, i, none⟩ = some v := by
  obtain ⟨cur, hh, hs, _⟩ := h
  exact ⟨cur[i]'(by omega), cell_of hh (Array.getElem?_eq_getElem (by omega))⟩
theorem StepPart.all {w : World} {B k : Nat} (h : StepPart w B k 32) : StepAt w B k := by
  obtain ⟨cur, hh, hs, hc⟩ := h
  rw [stepCells_of hs hc] at hh
  exact hh

set_option maxRecDepth 100000 in
set_option maxHeartbeats 2000000 in
theorem twice_any (B k : Nat) (w : World) (h : StepAt w B k) :
    Calls Tryd.prog 55 #[.pointer (some ⟨B, 0, none⟩)] w fun e w' => e = .returned (.agg (stepCells (k + k))) ∧ Below w.heap.size w w' := by
  have H := hide h
  have hBw : B < w.heap.size := lt_of_heap h
  clear h
  have hfacts : ∀ w2 : World, w2 = (w.alloc (.cells zeros32 87)).alloc (.cells zeros32 87) → w2.heap[w.heap.size]? = some (.cells zeros32 87 (0, 0)) ∧ StepPart w2 (w.heap.size + 1) (k + k) 0 ∧ Below w.heap.size w w2 ∧ w2.heap.size = w.heap.size + 2 := by
    rintro w2 rfl
    have h1 : (w.alloc (.cells zeros32 87)).heap[w.heap.size]? = some (.cells zeros32 87 (0, 0)) := heap_new w _
    have hs1 : (w.alloc (.cells zeros32 87)).heap.size = w.heap.size + 1 := by simp
    have h2 : ((w.alloc (.cells zeros32 87)).alloc (.cells zeros32 87)).heap[w.heap.size + 1]? = some (.cells zeros32 87 (0, 0)) := by rw [← hs1]; exact heap_new _ _
    have hb1 : Below w.heap.size w (w.alloc (.cells zeros32 87)) := (Below.refl _ _).alloc (Nat.le_refl _) _
    have hb2 : Below (w.heap.size + 1) (w.alloc (.cells zeros32 87)) ((w.alloc (.cells zeros32 87)).alloc (.cells zeros32 87)) := (Below.refl _ _).alloc (by rw [hs1]; exact Nat.le_refl _) _
    exact ⟨(hb2.block _ (by omega)).trans h1, ⟨zeros32, h2, by simp [zeros32], fun i hi => by omega⟩, hb1.trans (hb2.mono (by omega)), by simp⟩
  go_enter Tryd.func55, Tryd.ntmps55
  go_wp2_with fail
  obtain ⟨w2, hw2⟩ : ∃ w2, w2 = (w.alloc (.cells zeros32 87)).alloc (.cells zeros32 87) := ⟨_, rfl⟩
  obtain ⟨hR, hT, hB, hsz⟩ := hfacts w2 hw2
  have hw3 : (w.alloc (.cells #[.int .u32 0, .int .u32 0, .int .u32 0, .int .u32 0, .int .u32 0, .int .u32 0, .int .u32 0, .int .u32 0, .int .u32 0, .int .u32 0, .int .u32 0, .int .u32 0, .int .u32 0, .int .u32 0, .int .u32 0, .int .u32 0, .int .u32 0, .int .u32 0, .int .u32 0, .int .u32 0, .int .u32 0, .int .u32 0, .int .u32 0, .int .u32 0, .int .u32 0, .int .u32 0, .int .u32 0, .int .u32 0, .int .u32 0, .int .u32 0, .int .u32 0, .int .u32 0] 87)).alloc (.cells #[.int .u32 0, .int .u32 0, .int .u32 0, .int .u32 0, .int .u32 0, .int .u32 0, .int .u32 0, .int .u32 0, .int .u32 0, .int .u32 0, .int .u32 0, .int .u32 0, .int .u32 0, .int .u32 0, .int .u32 0, .int .u32 0, .int .u32 0, .int .u32 0, .int .u32 0, .int .u32 0, .int .u32 0, .int .u32 0, .int .u32 0, .int .u32 0, .int .u32 0, .int .u32 0, .int .u32 0, .int .u32 0, .int .u32 0, .int .u32 0, .int .u32 0, .int .u32 0] 87) = w2 := hw2.symm
  rw [hw3]
  have HR := hide hR
  have HT := hide hT
  have HB := hide hB
  clear hfacts hw2 hw3 hR hT hB
  go_loopw [4] (fun t wr => ∃ n : Nat, n ≤ 32 ∧ t = .int .i64 n ∧ wr.heap[w.heap.size]? = some (.cells zeros32 87 (0, 0)) ∧ StepPart wr (w.heap.size + 1) (k + k) n ∧ Below w.heap.size w wr) (fun t _ => 32 - (RowKit.intOf t).toNat)
  case atStart => exact ⟨0, by omega, rfl, HR.out, HT.out, HB.out⟩
  case round =>
    obtain ⟨n, hn, rfl, hR, hT, hB⟩ := hrel
    clear HR HT HB
    have HR := hide hR
    have HB := hide hB
    by_cases hlt : n < 32
    · have hst := H.out.below hB
      have d := hst.cell hlt
      have HM := hide (moved_any B k (mvs k (2 ^ n)) wr hst (mvs_lt k (two_lt hlt)))
      rw [← mvs_add] at HM
      have HP := hide (hT.put hlt)
      have f0 := hT.free n
      obtain ⟨old, ho⟩ := hT.some hlt
      have HB2 := hide (fun v => hB.setCell (p := ⟨w.heap.size + 1, n, none⟩) (by show w.heap.size ≤ w.heap.size + 1; omega) v)
      have HR2 : Hid (∀ v, (wr.setCell ⟨w.heap.size + 1, n, none⟩ v).heap[w.heap.size]? = some (.cells zeros32 87 (0, 0))) := fun v => by
        rw [Below.heap_setCell _ _ _ _ (by show w.heap.size ≠ w.heap.size + 1; omega)]
        exact hR
      obtain ⟨z, hz⟩ : ∃ z, z = mvs k (2 ^ n) := ⟨_, rfl⟩
      rw [← hz] at d HM
      have hnl : (n : Int) < 32 := by omega
      clear hst hR hT hB hz
      go_wp2_with fail
      refine HM.out.mono ?_
      rintro e w' ⟨rfl, rfl⟩
      go_wp2_with fail
      go_roundw
      case rel => exact ⟨n + 1, by omega, by simp, HR2.out _, HP.out, HB2.out _⟩
      case measure => simp [RowKit.intOf]; omega
    · obtain rfl : n = 32 := by omega
      have hst := hT.all
      have HST := hide hst
      clear hR hT hB
      go_wp2_with (first
        | (refine wpList_load_row rfl 87 _ rfl (w.heap.size + 1) rfl 87 (stepCells (k + k)) (0, 0) _ HST.out Tryd.underlying87 rfl (by rw [stepCells_size]; exact Tryd.size87) ?_)
        | (refine wpList_store_row rfl 87 _ _ rfl w.heap.size (stepCells (k + k)) rfl rfl 87 zeros32 HR.out (by rw [stepCells_size]; exact Tryd.size87) (by rw [stepCells_size]; simp [zeros32]) (stepCells_one _) ?_)
        | fail)
      refine bodyPost_ret (results_cell_row rfl _ _ w.heap.size 87 (stepCells (k + k)) (0, 0) _ rfl (setRow_heap _ _ _ _ _ _ HR.out) Tryd.underlying87 rfl (by rw [stepCells_size]; exact Tryd.size87)) rfl ?_
      exact ⟨rfl, below_setRow HB.out (Nat.le_refl _) _⟩

set_option maxRecDepth 100000 in
set_option maxHeartbeats 4000000 in
theorem refJoin_any (a b n : Nat) (w : World) (ha : a < 4294967296) (hb : b < 4294967296) (hn : n < 9223372036854775808) :
    Calls Tryd.prog 36 #[.int .u32 a, .int .u32 b, .int .i64 n] w fun e w' => e = .returned (.tuple #[.int .u32 ((mvs (8 * n) a ^^^ b : Nat) : Int), .int .i64 0]) ∧ Below w.heap.size w w' := by
  have hfacts : ∀ w2 : World, w2 = w.alloc (.cells zeros32 87) → StepPart w2 w.heap.size 8 0 ∧ Below w.heap.size w w2 := by
    rintro w2 rfl
    exact ⟨⟨zeros32, heap_new w _, by simp [zeros32], fun i hi => by omega⟩, (Below.refl _ _).alloc (Nat.le_refl _) _⟩
  go_enter Tryd.func36, Tryd.ntmps36
  go_wp2_with fail
  obtain ⟨w2, hw2⟩ : ∃ w2, w2 = w.alloc (.cells zeros32 87) := ⟨_, rfl⟩
  obtain ⟨hT, hB⟩ := hfacts w2 hw2
  have hw3 : w.alloc (.cells #[.int .u32 0, .int .u32 0, .int .u32 0, .int .u32 0, .int .u32 0, .int .u32 0, .int .u32 0, .int .u32 0, .int .u32 0, .int .u32 0, .int .u32 0, .int .u32 0, .int .u32 0, .int .u32 0, .int .u32 0, .int .u32 0, .int .u32 0, .int .u32 0, .int .u32 0, .int .u32 0, .int .u32 0, .int .u32 0, .int .u32 0, .int .u32 0, .int .u32 0, .int .u32 0, .int .u32 0, .int .u32 0, .int .u32 0, .int .u32 0, .int .u32 0, .int .u32 0] 87) = w2 := hw2.symm
  rw [hw3]
  have HT := hide hT
  have HB := hide hB
  clear hfacts hw2 hw3 hT hB
  go_loopw [9] (fun t wr => ∃ i : Nat, i ≤ 32 ∧ t = .int .i64 i ∧ StepPart wr w.heap.size 8 i ∧ Below w.heap.size w wr) (fun t _ => 32 - (RowKit.intOf t).toNat)
  case atStart => exact ⟨0, by omega, rfl, HT.out, HB.out⟩
  case round =>
    obtain ⟨i, hi, rfl, hT, hB⟩ := hrel
    clear HT HB
    by_cases hlt : i < 32
    · have hp := two_lt hlt
      have HP := hide (hT.put hlt)
      have f0 := hT.free i
      obtain ⟨old, ho⟩ := hT.some hlt
      have HB2 := hide (fun v => hB.setCell (p := ⟨w.heap.size, i, none⟩) (Nat.le_refl _) v)
      have HSH : Hid ((2 : Int) ^ i % 4294967296 = ((2 ^ i : Nat) : Int)) := by
        show (2 : Int) ^ i % 4294967296 = ((2 ^ i : Nat) : Int)
        have h3 : (2 : Int) ^ i = ((2 ^ i : Nat) : Int) := by push_cast; rfl
        rw [h3]
        exact Int.emod_eq_of_lt (Int.natCast_nonneg _) (Int.ofNat_lt.2 (show 2 ^ i < 4294967296 from hp))
      have HQL := hide (fun k => mvs_lt k hp)
      have hil : (i : Int) < 32 := by omega
      obtain ⟨wq, hwq⟩ : ∃ wq, wq = wr := ⟨_, rfl⟩
      subst hwq
      clear hT hB
      go_wp2_with fail
      rw [HSH.out]
      obtain ⟨q, hq⟩ : ∃ q, q = 2 ^ i := ⟨_, rfl⟩
      rw [← hq] at HQL HP ⊢
      clear hq HSH hp
      go_loopw [10, 11] (fun x t wr2 => ∃ k : Nat, k ≤ 8 ∧ x = .int .u32 ((mvs k q : Nat) : Int) ∧ t = .int .i64 k ∧ wr2 = wq) (fun _ t _ => 8 - (RowKit.intOf t).toNat)
      case atStart => exact ⟨0, by omega, rfl, rfl, rfl⟩
      case round =>
        obtain ⟨k, hk, rfl, rfl, rfl⟩ := hrel
        by_cases hlt2 : k < 8
        · have HM := hide (bit_any (mvs k q) wr (HQL.out k))
          rw [show mv (mvs k q) = mvs (k + 1) q from (mvs_add k 1 q).symm] at HM
          obtain ⟨z, hz⟩ : ∃ z, z = mvs k q := ⟨_, rfl⟩
          rw [← hz] at HM ⊢
          clear hz
          go_wp2_with (go_at_call 53; refine HM.out.mono ?_; rintro e w' ⟨rfl, rfl⟩)
          go_roundw
          case rel => exact ⟨k + 1, by omega, rfl, by simp, by first | exact trivial | rfl⟩
          case measure => simp [RowKit.intOf]; omega
        · obtain rfl : k = 8 := by omega
          have h8 := HQL.out 8
          obtain ⟨z, hz⟩ : ∃ z, z = mvs 8 q := ⟨_, rfl⟩
          rw [← hz] at HP h8 ⊢
          clear hz
          go_wp2_with fail
          go_roundw
          case rel => exact ⟨i + 1, by omega, by simp, HP.out, HB2.out _⟩
          case measure => simp [RowKit.intOf]; omega
    · obtain rfl : i = 32 := by omega
      have HST := hide hT.all
      have HB := hide hB
      clear hT hB
      go_wp2_with fail
      rw [show ((32 : Nat) : Int) = 32 from rfl]
      go_loopw [0, 2] (fun x y wr => ∃ q m k : Nat, n = m + k * q ∧ q < 9223372036854775808 ∧ x = .int .u32 ((mvs (8 * m) a : Nat) : Int) ∧ y = .int .i64 q ∧ StepAt wr w.heap.size (8 * k) ∧ Below w.heap.size w wr) (fun _ y _ => (RowKit.intOf y).toNat)
      case atStart => exact ⟨n, 0, 1, by omega, hn, rfl, rfl, HST.out, HB.out⟩
      case round =>
        obtain ⟨q, m, k, hq, hq2, rfl, rfl, hst, hB⟩ := hrel
        clear HST HB
        have hol : mvs (8 * m) a < 4294967296 := mvs_lt _ ha
        have HQ := hide hq
        have HST := hide hst
        have HB := hide hB
        by_cases h0 : q = 0
        · have hng : ¬ (0 : Int) < (q : Int) := by omega
          have HQ2 : Hid (n = m) := by
            show n = m
            have h1 := HQ.out
            rw [h0, Nat.mul_zero, Nat.add_zero] at h1
            exact h1
          have HX := hide (xor32 _ _ hol hb)
          clear h0 hq hst hB hol
          go_wp2
          go_ret2
          refine ⟨?_, HB.out⟩
          rw [HQ2.out, ← HX.out]
          rfl
        · have hpos : (0 : Int) < (q : Int) := by omega
          have HM := hide (moved_any w.heap.size (8 * k) (mvs (8 * m) a) wr hst hol)
          rw [← mvs_add, show 8 * m + 8 * k = 8 * (m + k) by omega] at HM
          have HTW := hide (twice_any w.heap.size (8 * k) wr hst)
          rw [show 8 * k + 8 * k = 8 * (2 * k) by omega] at HTW
          have hBs := hB.size
          clear hq hst hB hol
          rcases Nat.mod_two_eq_zero_or_one q with hbit | hbit
          · have hqh : q = 2 * (q / 2) := by omega
            have HE : Hid (n = m + 2 * k * (q / 2)) := by
              show n = m + 2 * k * (q / 2)
              have h1 := HQ.out
              rw [hqh] at h1
              rw [h1, Nat.mul_comm 2 k, Nat.mul_assoc]
            have hrm : (q : Int) % 2 = 0 := by omega
            clear hbit hqh
            go_wp2_with fail
            refine HTW.out.mono ?_
            rintro e w5 ⟨rfl, hb5⟩
            have HS5 := hide (HST.out.below hb5)
            have HB5 := hide (below_on HB.out hb5)
            clear hb5
            go_wp2_with (first
              | (refine wpList_store_row rfl 87 _ _ rfl w.heap.size (stepCells (8 * (2 * k))) rfl rfl 87 (stepCells (8 * k)) HS5.out (by rw [stepCells_size]; exact Tryd.size87) (by rw [stepCells_size, stepCells_size]) (stepCells_one _) ?_)
              | fail)
            go_roundw
            case rel => exact ⟨q / 2, m, 2 * k, HE.out, by omega, rfl, by simp, setRow_heap _ _ _ _ _ _ HS5.out, below_setRow HB5.out (Nat.le_refl _) _⟩
            case measure => simp [RowKit.intOf]; omega
          · have hqh : q = 2 * (q / 2) + 1 := by omega
            have HE : Hid (n = m + k + 2 * k * (q / 2)) := by
              show n = m + k + 2 * k * (q / 2)
              have h1 := HQ.out
              rw [hqh, Nat.mul_add, Nat.mul_one] at h1
              rw [h1, Nat.mul_comm 2 k, Nat.mul_assoc]
              omega
            have hrm : (q : Int) % 2 = 1 := by omega
            clear hbit hqh
            go_wp2_with fail
            refine HM.out.mono ?_
            rintro e w4 ⟨rfl, rfl⟩
            go_wp2_with fail
            refine HTW.out.mono ?_
            rintro e w5 ⟨rfl, hb5⟩
            have HS5 := hide (HST.out.below hb5)
            have HB5 := hide (below_on HB.out hb5)
            clear hb5
            go_wp2_with (first
              | (refine wpList_store_row rfl 87 _ _ rfl w.heap.size (stepCells (8 * (2 * k))) rfl rfl 87 (stepCells (8 * k)) HS5.out (by rw [stepCells_size]; exact Tryd.size87) (by rw [stepCells_size, stepCells_size]) (stepCells_one _) ?_)
              | fail)
            go_roundw
            case rel => exact ⟨q / 2, m + k, 2 * k, HE.out, by omega, rfl, by simp, setRow_heap _ _ _ _ _ _ HS5.out, below_setRow HB5.out (Nat.le_refl _) _⟩
            case measure => simp [RowKit.intOf]; omega
end Go.Proofs.YtpfpelhhebafeaaDoor
