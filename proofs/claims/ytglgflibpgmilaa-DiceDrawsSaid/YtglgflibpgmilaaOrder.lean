/- dice.Order. -/
import Derived.Test.YtglgflibpgmilaaFrom
import Derived.RegionTactic
import Derived.BigRegion
namespace Go.Proofs.Ytglgflibpgmilaa
open Go.RowKit Go.Lib

/-- A block of plain numbers. -/
def ints (l : List Int) : Array Value := (l.map (Value.int .i64)).toArray
def Arr (w : World) (g : Nat) (l : List Int) : Prop := w.heap[g]? = some (.cells (ints l) 3 (0, 0))

theorem Arr.cell {w : World} {g : Nat} {l : List Int} (h : Arr w g l) (i : Nat) (hi : i < l.length) : w.cell? ⟨g, i, none⟩ = some (.int .i64 (l[i]?.getD 0)) := by
  refine cell_of h ?_
  simp [ints, List.getElem?_eq_getElem hi]
theorem Arr.free {w : World} {g : Nat} {l : List Int} (h : Arr w g l) (i : Nat) : w.frozen? ⟨g, i, none⟩ = false := free_of h i
theorem Arr.set {w : World} {g : Nat} {l : List Int} (h : Arr w g l) (i : Nat) (x : Int) : Arr (w.setCell ⟨g, i, none⟩ (.int .i64 x)) g (l.set i x) := by
  unfold Arr
  rw [heap_set h]
  simp [ints, List.map_set]
theorem Arr.lt {w : World} {g : Nat} {l : List Int} (h : Arr w g l) : g < w.heap.size := lt_of_heap h
theorem Arr.but {w w' : World} {g b : Nat} {l : List Int} (h : Arr w g l) (k : But b w w') (hb : g ≠ b) : Arr w' g l := k.heap h hb

def swap (l : List Int) (i j : Nat) : List Int := (l.set i (l[j]?.getD 0)).set j (l[i]?.getD 0)
theorem swap_length (l : List Int) (i j : Nat) : (swap l i j).length = l.length := by simp [swap]

def pick (x : Int) (n : Nat) : Nat := x.toNat * n / 18446744073709551616
def shuf : Nat → List Int → St → List Int → List Int × St × List Int
  | 0, ws, s, l => (ws, s, l)
  | i + 1, ws, s, l => shuf i ws.tail (stLeft ws s) (swap l (i + 1) (pick (drawn ws s) (i + 2)))

def fill (n k : Nat) : List Int := (List.range n).map fun (i : Nat) => if i < k then (i : Int) else 0
def iota (n : Nat) : List Int := (List.range n).map fun (i : Nat) => (i : Int)
theorem fill_length (n k : Nat) : (fill n k).length = n := by simp [fill]
theorem fill_zero (n : Nat) : fill n 0 = List.replicate n 0 := by
  apply List.ext_getElem <;> simp [fill]
theorem fill_full (n k : Nat) (h : n ≤ k) : fill n k = iota n := by
  apply List.ext_getElem
  · simp [fill, iota]
  · intro i h1 h2
    simp only [fill, iota, List.getElem_map, List.getElem_range]
    rw [if_pos]
    simp [fill] at h1
    omega
theorem fill_succ (n k : Nat) : (fill n k).set k (k : Int) = fill n (k + 1) := by
  apply List.ext_getElem
  · simp [fill]
  · intro i h1 h2
    simp only [List.getElem_set, fill, List.getElem_map, List.getElem_range]
    by_cases e : k = i
    · subst e; simp
    · rw [if_neg e]
      by_cases h : i < k
      · rw [if_pos h, if_pos (by omega)]
      · rw [if_neg h, if_neg (by omega)]

theorem Try.info3 : (Try.prog.info? 3).map (fun i => (i.zero, i.size, i.bytes)) = some (some (.int .i64 0), 1, 8) := by kernel_rfl

theorem made_arr {w : World} {B g n : Nat} (h : w.ownsRow B 3 1 (.slice (some ⟨g, 0, none⟩) n n) n (madeCells (Value.int .i64 0).cells (n * 1)).toList) : Arr w g (fill n 0) := by
  obtain ⟨hl, ⟨he, _⟩ | ⟨g', cap, cur, he, hg, hh, hnc, hcm, hcur, htake⟩⟩ := h
  · cases he
  · simp only [Value.slice.injEq, Option.some.injEq, true_and] at he
    obtain ⟨h1, rfl⟩ := he
    injection h1 with h1
    subst h1
    unfold Arr
    rw [hh]
    have e : cur = ints (fill n 0) := by
      apply Array.ext'
      rw [List.take_of_length_le (by simp; omega)] at htake
      rw [htake, fill_zero]
      apply List.ext_getElem
      · simp [madeCells, ints]
      · intro i h1 h2
        simp [madeCells, ints, Value.cells, Nat.mod_one]
    rw [e]

theorem Arr.below {w w' : World} {g B : Nat} {l : List Int} (h : Arr w g l) (k : Below B w w') (hb : g < B) : Arr w' g l := (k.block g hb).trans h

/-- What Order hands back, and where. -/
def OrderPost (w : World) (b n : Nat) (ws : List Int) (s : St) (u : Int) (e : Ending) (w' : World) : Prop :=
  ∃ g, e = .returned (.tuple #[.slice (some ⟨g, 0, none⟩) n n, .int .i64 0]) ∧ w.heap.size ≤ g ∧
    Arr w' g (shuf (n - 1) ws s (iota n)).2.2 ∧ DiceIs w' b (shuf (n - 1) ws s (iota n)).1 (shuf (n - 1) ws s (iota n)).2.1 (u + (n - 1 : Nat)) ∧ But b w w'

def Words (ws : List Int) : Prop := ∀ x ∈ ws, 0 ≤ x ∧ x < 18446744073709551616
theorem drawn_bounds {ws : List Int} (h : Words ws) (s : St) : 0 ≤ drawn ws s ∧ drawn ws s < 18446744073709551616 := by
  cases ws with
  | nil => have := stWord_lt s; simp only [drawn]; omega
  | cons x r => exact h x (by simp)
theorem Words.tail {ws : List Int} (h : Words ws) : Words ws.tail := fun x hx => h x (List.mem_of_mem_tail hx)
theorem pick_lt (x : Int) (n : Nat) (h0 : 0 ≤ x) (h1 : x < 18446744073709551616) (hn : 0 < n) : pick x n < n := by
  unfold pick
  apply Nat.div_lt_of_lt_mul
  exact Nat.mul_lt_mul_of_pos_right (by omega) hn

theorem But.later {b : Nat} {w w1 w2 : World} (h : But b w w1) (k : ∀ i, i < w.heap.size → w2.heap[i]? = w1.heap[i]?) (ho : w2.os = w1.os) (ht : w2.tape = w1.tape) (hu : w2.output = w1.output) (hs : w1.heap.size ≤ w2.heap.size) : But b w w2 :=
  ⟨ho.trans h.os, ht.trans h.tape, hu.trans h.output, Nat.le_trans h.size hs, fun i hi hb => (k i hi).trans (h.block i hi hb)⟩
theorem But.drew {b : Nat} {w w1 : World} (h : But b w w1) : But b w w1.drew := ⟨h.os, h.tape, h.output, h.size, h.block⟩
theorem But.setLater {b g : Nat} {w w1 : World} (h : But b w w1) (hg : w.heap.size ≤ g) (o : Nat) (v : Value) : But b w (w1.setCell ⟨g, o, none⟩ v) :=
  h.later (fun i hi => Below.heap_setCell _ _ _ _ (by show i ≠ g; omega)) rfl rfl rfl (by simp [World.setCell])
theorem DiceIs.drew {w : World} {b : Nat} {ws : List Int} {s : St} {u : Int} (h : DiceIs w b ws s u) : DiceIs w.drew b ws s u := h
theorem Arr.drew {w : World} {g : Nat} {l : List Int} (h : Arr w g l) : Arr w.drew g l := h

theorem order_step (w w2 : World) (b n : Nat) (ws : List Int) (s : St) (u : Int) (wsc : List Int) (sc : St) (lc : List Int) (i : Int) (q : Nat) (u' : Int)
    (hpos : 0 < i) (hi1 : i ≤ (n : Int) - 1) (hlen : lc.length = n) (hsc : sc.Ok) (hwc : Words wsc) (hb : b < w.heap.size)
    (HQ : Hid (q = pick (drawn wsc sc) (i.toNat + 1))) (HU : Hid (u' = u + ((n - 1 : Nat) : Int) - (i.toNat : Int)))
    (HS : Hid (shuf i.toNat wsc sc lc = shuf (n - 1) ws s (iota n))) (HA3 : Hid (Arr w2 w.heap.size lc))
    (HD2 : Hid (DiceIs w2 b wsc.tail (stLeft wsc sc) (u' + 1))) (HB3 : Hid (But b w w2)) :
    ∃ (i' : Int) (wsc' : List Int) (sc' : St) (lc' : List Int), Value.int .i64 (i - 1) = .int .i64 i' ∧ -1 ≤ i' ∧ i' ≤ (n : Int) - 1 ∧ lc'.length = n ∧ sc'.Ok ∧ Words wsc' ∧
      shuf i'.toNat wsc' sc' lc' = shuf (n - 1) ws s (iota n) ∧
      DiceIs ((w2.setCell ⟨w.heap.size, i.toNat, none⟩ (.int .i64 (lc[q]?.getD 0))).setCell ⟨w.heap.size, q, none⟩ (.int .i64 (lc[i.toNat]?.getD 0))).drew b wsc' sc' (u + (n - 1 : Nat) - (i'.toNat : Int)) ∧
      Arr ((w2.setCell ⟨w.heap.size, i.toNat, none⟩ (.int .i64 (lc[q]?.getD 0))).setCell ⟨w.heap.size, q, none⟩ (.int .i64 (lc[i.toNat]?.getD 0))).drew w.heap.size lc' ∧
      But b w ((w2.setCell ⟨w.heap.size, i.toNat, none⟩ (.int .i64 (lc[q]?.getD 0))).setCell ⟨w.heap.size, q, none⟩ (.int .i64 (lc[i.toNat]?.getD 0))).drew := by
  obtain ⟨m, hm⟩ : ∃ m : Nat, i = ((m + 1 : Nat) : Int) := ⟨i.toNat - 1, by omega⟩
  subst hm
  have e1 : (((m + 1 : Nat) : Int)).toNat = m + 1 := by omega
  have e2 : (((m + 1 : Nat) : Int) - 1).toNat = m := by omega
  rw [e1] at HQ HU HS
  rw [e1]
  refine ⟨((m + 1 : Nat) : Int) - 1, wsc.tail, stLeft wsc sc, swap lc (m + 1) q, rfl, by omega, by omega, by rw [swap_length]; exact hlen, stLeft_ok hsc, hwc.tail, ?_, ?_, ?_, ?_⟩
  · rw [e2, ← HS.out, HQ.out]; rfl
  · rw [e2]
    have hu : u + ((n - 1 : Nat) : Int) - (m : Int) = u' + 1 := by have := HU.out; omega
    rw [hu]
    exact ((HD2.out.beyond (But.setCell w2 ⟨w.heap.size, m + 1, none⟩ _) hb).beyond (But.setCell _ ⟨w.heap.size, q, none⟩ _) hb).drew
  · exact ((HA3.out.set (m + 1) _).set q _).drew
  · exact ((HB3.out.setLater (Nat.le_refl _) _ _).setLater (Nat.le_refl _) _ _).drew

set_option maxRecDepth 100000 in
set_option maxHeartbeats 1000000 in
theorem order_any (w : World) (b n : Nat) (ws : List Int) (s : St) (u : Int) (hd : DiceIs w b ws s u) (hs : s.Ok) (hws : Words ws) (hu0 : 0 ≤ u) (hu1 : u < 9223372036850581504) (hn : n ≤ 1048576) :
    Calls Try.prog 29 #[.pointer (some ⟨b, 0, none⟩), .int .i64 n] w (OrderPost w b n ws s u) := by
  obtain ⟨i0, hi, hz0, hz1, hz2⟩ := info_parts Try.info3
  have HD := hide hd
  have hb : b < w.heap.size := by obtain ⟨fn, v, hh, _⟩ := hd; exact lt_of_heap hh
  clear hd
  have hd1 : decide ((n : Int) < 0) = false := by simp
  have hd2 : decide ((1048576 : Int) < (n : Int)) = false := by simp; omega
  go_enter Try.func29, Try.ntmps29
  go_wp2_with (at_make; refine wpList_make_full _ rfl _ _ 58 rfl w.heap.size 3 i0 (.int .i64 0) 1 Try.underlying58 hi hz0 hz1 _ _ _ _ n rfl rfl rfl rfl (by rw [hz2]; omega) (by unfold maxLen; omega) (Nat.le_refl _) ?_; intro w1 hown hgrow)
  have hA : Arr w1 w.heap.size (fill n 0) := made_arr hown
  have hL : Below w.heap.size w w1 := (Below.refl _ _).grown hgrow (Nat.le_refl _) (by intro k hk; cases hk)
  have HA := hide hA; have HL := hide hL
  clear hA hL hown hgrow
  go_loopw [19] (fun i wr => ∃ k : Nat, k ≤ n ∧ i = .int .i64 k ∧ Arr wr w.heap.size (fill n k) ∧ Below w.heap.size w wr) (fun i _ => n - (RowKit.intOf i).toNat)
  case atStart => exact ⟨0, by omega, rfl, HA.out, HL.out⟩
  case round =>
    obtain ⟨k, hk, rfl, hA, hL⟩ := hrel
    clear HA HL
    by_cases hlt : k < n
    · have HA := hide hA; have HL := hide hL
      have ck := hA.cell k (by rw [fill_length]; exact hlt)
      have fk := hA.free k
      clear hA hL
      go_wp2
      go_roundw
      case rel =>
        refine ⟨k + 1, by omega, by go_num, ?_, HL.out.setCell (Nat.le_refl _) _⟩
        rw [← fill_succ]
        exact HA.out.set k _
      case measure => simp [RowKit.intOf]; omega
    · obtain rfl : n = k := by omega
      rw [fill_full n n (Nat.le_refl _)] at hA
      have HA := hide hA; have HL := hide hL
      clear hA hL
      go_wp2
      go_loopw [8] (fun t wr => ∃ (i : Int) (wsc : List Int) (sc : St) (lc : List Int), t = .int .i64 i ∧ -1 ≤ i ∧ i ≤ (n : Int) - 1 ∧ lc.length = n ∧ sc.Ok ∧ Words wsc ∧
          shuf i.toNat wsc sc lc = shuf (n - 1) ws s (iota n) ∧ DiceIs wr b wsc sc (u + (n - 1 : Nat) - (i.toNat : Int)) ∧ Arr wr w.heap.size lc ∧ But b w wr) (fun t _ => (RowKit.intOf t).toNat)
      case atStart =>
        refine ⟨(n : Int) - 1, ws, s, iota n, rfl, by omega, by omega, by simp [iota], hs, hws, ?_, ?_, HA.out, But.of_below HL.out⟩
        · rw [show ((n : Int) - 1).toNat = n - 1 by omega]
        · rw [show u + ((n - 1 : Nat) : Int) - (((n : Int) - 1).toNat : Int) = u by omega]
          exact HD.out.below HL.out
      case round =>
        obtain ⟨i, wsc, sc, lc, rfl, hi0, hi1, hlen, hsc, hwc, hsh, hdc, hA2, hB2⟩ := hrel
        clear HA HL HD
        by_cases hpos : 0 < i
        · have hx := drawn_bounds hwc sc
          obtain ⟨q, hq⟩ : ∃ q, q = pick (drawn wsc sc) (i.toNat + 1) := ⟨_, rfl⟩
          have hqlt : q < i.toNat + 1 := hq ▸ pick_lt _ _ hx.1 hx.2 (by omega)
          obtain ⟨u', hu'⟩ : ∃ u', u' = u + ((n - 1 : Nat) : Int) - (i.toNat : Int) := ⟨_, rfl⟩
          rw [← hu'] at hdc
          have hub : 0 ≤ u' ∧ u' < 9223372036854775807 := by omega
          have HB := below_any wr b wsc sc u' (i + 1) (drawn wsc sc) rfl hdc hsc hub.1 hub.2 hx.1 hx.2 (by omega) (by omega)
          rw [show (drawn wsc sc).toNat * (i + 1).toNat / 18446744073709551616 = q by rw [hq, pick, show (i + 1).toNat = i.toNat + 1 by omega]] at HB
          have H := hide HB; have HA2 := hide hA2; have HB2 := hide hB2; have HQ := hide hq; have HU := hide hu'; have HS := hide hsh; have HX := hide hx
          clear HB hA2 hB2 hq hu' hsh hx hdc
          go_wp2_with fail
          refine H.out.mono ?_
          clear H
          rintro e w2 ⟨rfl, hd2, hbut⟩
          have hA3 := HA2.out.but hbut (by omega)
          have c1 := hA3.cell i.toNat (by omega)
          have c2 := hA3.cell q (by omega)
          have f1 := hA3.free i.toNat
          have f2 := hA3.free q
          have HA3 := hide hA3; have HD2 := hide hd2; have HB3 := hide (HB2.out.trans hbut)
          clear hA3 hd2 hbut HB2 HA2
          go_wp2
          obtain ⟨v3, c3⟩ := cell?_setCell_some (w := w2) (p := ⟨w.heap.size, i.toNat, none⟩) (x := .int .i64 (lc[q]?.getD 0)) (q := ⟨w.heap.size, q, none⟩) (v := .int .i64 (lc[q]?.getD 0)) c2
          have f3 : (w2.setCell ⟨w.heap.size, i.toNat, none⟩ (.int .i64 (lc[q]?.getD 0))).frozen? ⟨w.heap.size, q, none⟩ = false := (HA3.out.set i.toNat _).free q
          have bi : i < (n : Int) := by omega
          have bq : (q : Int) < (n : Int) := by omega
          go_region
          go_wp2
          go_roundw
          case rel =>
            exact order_step w w2 b n ws s u wsc sc lc i q u' hpos hi1 hlen hsc hwc hb HQ HU HS HA3 HD2 HB3
          case measure => simp [RowKit.intOf]; omega
        · have h0 : i.toNat = 0 := by omega
          rw [h0] at hsh hdc
          simp only [shuf] at hsh
          have hP : Hid (∃ g, Ending.returned (.tuple #[.slice (some ⟨w.heap.size, 0, none⟩) n n, .int .i64 0]) = .returned (.tuple #[.slice (some ⟨g, 0, none⟩) n n, .int .i64 0]) ∧ w.heap.size ≤ g ∧
              Arr wr g (shuf (n - 1) ws s (iota n)).2.2 ∧ DiceIs wr b (shuf (n - 1) ws s (iota n)).1 (shuf (n - 1) ws s (iota n)).2.1 (u + (n - 1 : Nat)) ∧ But b w wr) := by
            rw [← hsh]
            refine ⟨_, rfl, Nat.le_refl _, hA2, ?_, hB2⟩
            have e : u + ((n - 1 : Nat) : Int) - ((0 : Nat) : Int) = u + ((n - 1 : Nat) : Int) := by omega
            rw [e] at hdc
            exact hdc
          clear hsh hdc hA2 hB2 hwc hsc
          go_wp2
          go_ret2
          exact hP.out
end Go.Proofs.Ytglgflibpgmilaa
