import Derived.Test.YtiohimbifjlfdaaKw
import Derived.Laws.BitsAllLaws
import Derived.Laws.CopyRow
import Derived.Deep.OwnRows
import Derived.Laws.CopyOwn
/- slices.Repeat of one entry of two numbers. -/
namespace Go.Proofs.Ytiohimbifjlfdaa
open Go.RowKit Go.Lib
set_option linter.unusedVariables false
set_option linter.unusedSimpArgs false
set_option maxRecDepth 100000 in
set_option maxHeartbeats 2000000 in
theorem mul64_one (y : Nat) (hy : (y : Int) ≤ 1048576) (w : World) :
    Calls Try.prog 67 #[.int .u64 1, .int .u64 (y : Int)] w fun e w' => e = .returned (.tuple #[.int .u64 0, .int .u64 (y : Int)]) ∧ w' = w := by
  have e1 : bits .and .u64 1 4294967295 = 1 := by decide +kernel
  have e0 : bits .and .u64 0 4294967295 = 0 := by decide +kernel
  have e2 : bits .and .u64 (y : Int) 4294967295 = (y : Int) := by
    have h := u64_and_nat y 4294967295 (by omega) (by decide)
    rw [show (4294967295 : Nat) = 2 ^ 32 - 1 from rfl, Nat.and_two_pow_sub_one_eq_mod, Nat.mod_eq_of_lt (by omega)] at h
    exact h
  have e3 : (y : Int) / 4294967296 = 0 := by omega
  have e5 : IntKind.u64.wrap 0 = 0 := by decide +kernel
  go_enter Try.func67, Try.ntmps67
  go_wp2
  go_ret2
  exact ⟨rfl, rfl⟩
set_option maxRecDepth 100000 in
set_option maxHeartbeats 2000000 in
theorem mul_one' (y : Nat) (hy : (y : Int) ≤ 1048576) (w : World) :
    Calls Try.prog 54 #[.int .u64 1, .int .u64 (y : Int)] w fun e w' => e = .returned (.tuple #[.int .u64 0, .int .u64 (y : Int)]) ∧ w' = w := by
  have HM := hide (mul64_one y hy w)
  go_enter Try.func54, Try.ntmps54
  go_wp2_with fail
  refine HM.out.mono ?_
  rintro e w' ⟨rfl, rfl⟩
  go_wp2
  go_ret2
  exact ⟨rfl, rfl⟩
theorem size61 : (Try.prog.info? 95).map (·.size) = some 2 := by kernel_rfl
theorem Try.info95 : (Try.prog.info? 95).map (fun i => (i.zero, i.size, i.bytes)) = some (some (.agg #[.int .i64 0, .int .i64 0]), 2, 16) := by kernel_rfl
theorem run_copy_two {P : Program} (w : World) (dT sT ty elem : TypeId) (g o dLen dCap : Nat) (a : Addr) (sLen sCap : Nat) (cur : Array Value) (t : TypeId) (cs : List Value)
    (hu : P.underlying dT = some (.slice elem)) (hs : (P.info? elem).map (·.size) = some 2)
    (hg : w.heap[g]? = some (.cells cur t (0, 0))) (hn : cs.length = 2 * Nat.min sLen dLen)
    (hsrc : ∀ j v, cs[j]? = some v → w.cell? (a.add j) = some v) (hfit : o + cs.length ≤ cur.size) (h1 : ∀ v ∈ cs, v.oneCell' = true) :
    (Builtin.copy_ #[dT, sT] ty #[.slice (some ⟨g, o, none⟩) dLen dCap, .slice (some a) sLen sCap]).run P w =
      .ok (goInt (Nat.min sLen dLen)) (w.setRow g (cur.toList.take o ++ cs ++ cur.toList.drop (o + cs.length)).toArray) := by
  have hl := run_loadCells_list (P := P) w a cs hsrc
  have hst := run_storeCells_at P g o t cs 0 cur w hg (by simpa using hfit) h1
  cases hq : P.info? elem with
  | none => simp [hq] at hs
  | some i =>
    have hi : i.size = 2 := by simpa [hq] using hs
    have hn2 : Nat.min sLen dLen * 2 = cs.length := by omega
    simp [Builtin.copy_, run_underlying hu, Builtin.lenOf, Builtin.firstCells, sizeOf, typeInfo, hq, hi, hn2, ← hn, hl, hst]
/-- The first j cells are -1. -/
def pad (n j : Nat) : List Int := List.replicate j (-1) ++ List.replicate (n - j) 0
theorem pad_cells (n j : Nat) : (iCells (pad n j)).toList = List.replicate j (.int .i64 (-1)) ++ List.replicate (n - j) (.int .i64 0) := by simp [iCells, pad]
theorem pad_more (n j l : Nat) (h : j + l ≤ n) : (((iCells (pad n j)).toList.take j ++ List.replicate l (Value.int .i64 (-1)) ++ (iCells (pad n j)).toList.drop (j + l)).toArray) = iCells (pad n (j + l)) := by
  apply Array.ext'
  rw [pad_cells, pad_cells]
  show _ = _
  rw [List.take_left' (by simp), List.drop_append, List.drop_replicate, List.length_replicate, List.drop_replicate]
  rw [show j - (j + l) = 0 by omega, show n - j - (j + l - j) = n - (j + l) by omega]
  simp only [List.replicate_zero, List.nil_append]
  rw [List.replicate_append_replicate]
theorem pad_all (n : Nat) : pad n n = tab n (fun _ => -1) := by
  unfold pad tab
  rw [Nat.sub_self, List.replicate_zero, List.append_nil]
  apply List.ext_getElem
  · simp
  · intro i h1 h2; simp
def E2 (w : World) (g : Nat) (l : List Int) : Prop := w.heap[g]? = some (.cells (iCells l) 95 (0, 0))
theorem E2.cell {w : World} {g : Nat} {l : List Int} (h : E2 w g l) (i : Nat) (hi : i < l.length) : w.cell? ⟨g, i, none⟩ = some (.int .i64 (at_ l i)) := cell_of h (by simp [iCells, at_, hi])
theorem E2.free {w : World} {g : Nat} {l : List Int} (h : E2 w g l) (i : Nat) : w.frozen? ⟨g, i, none⟩ = false := free_of h i
theorem E2.put {w : World} {g : Nat} {l : List Int} (h : E2 w g l) (i : Nat) (x : Int) : E2 (w.setCell ⟨g, i, none⟩ (.int .i64 x)) g (l.set i x) := by
  unfold E2 at h ⊢
  rw [heap_set h]
  congr 2
  apply Array.ext'
  simp [iCells, List.map_set]
theorem pad2_copy {w : World} {g n j dc sc : Nat} (h : E2 w g (pad (n * 2) (j * 2))) (hj : j ≤ n) :
    (Builtin.copy_ #[91, 91] 3 #[.slice (some ⟨g, j * 2, none⟩) (n - j) dc, .slice (some ⟨g, 0, none⟩) j sc]).run Try.prog w = .ok (goInt (min j (n - j) : Nat)) (w.setRow g (iCells (pad (n * 2) ((j + min j (n - j)) * 2)))) := by
  have hl : (iCells (pad (n * 2) (j * 2))).size = n * 2 := by simp [iCells, pad]; omega
  have := run_copy_two (P := Try.prog) w 91 91 3 95 g (j * 2) (n - j) dc ⟨g, 0, none⟩ j sc (iCells (pad (n * 2) (j * 2))) 95 (List.replicate (2 * min j (n - j)) (.int .i64 (-1))) Try.underlying91 size61 h (by simp [Nat.min_def]) (fun i v hi => ?_) (by rw [hl]; simp; omega) (fun v hv => by rw [List.mem_replicate] at hv; rw [hv.2]; rfl)
  · rw [this]
    simp only [List.length_replicate]
    rw [pad_more (n * 2) (j * 2) _ (by omega), show j * 2 + 2 * min j (n - j) = (j + min j (n - j)) * 2 by omega]
  · have hi2 : i < 2 * min j (n - j) := by
      have := (List.getElem?_eq_some_iff.1 hi).1; simpa using this
    rw [List.getElem?_replicate, if_pos hi2] at hi
    rw [Addr.add_lit, Nat.zero_add, h.cell i (by simp [pad]; omega), ← hi]
    unfold at_ pad
    rw [List.getElem?_append_left (by simp; omega), List.getElem?_replicate, if_pos (by omega)]
    rfl
theorem pad2_first {w : World} {g n B dc : Nat} (h : E2 w g (pad (n * 2) (0 * 2))) (hB : w.cell? ⟨B, 0, none⟩ = some (.int .i64 (-1))) (hB1 : w.cell? ⟨B, 1, none⟩ = some (.int .i64 (-1))) (hn : 0 < n) :
    (Builtin.copy_ #[91, 91] 3 #[.slice (some ⟨g, 0, none⟩) n dc, .slice (some ⟨B, 0, none⟩) 1 1]).run Try.prog w = .ok (goInt 1) (w.setRow g (iCells (pad (n * 2) (1 * 2)))) := by
  have hl : (iCells (pad (n * 2) (0 * 2))).size = n * 2 := by simp [iCells, pad]
  have hm : Nat.min 1 n = 1 := by simp [Nat.min_def]; omega
  have := run_copy_two (P := Try.prog) w 91 91 3 95 g 0 n dc ⟨B, 0, none⟩ 1 1 (iCells (pad (n * 2) (0 * 2))) 95 [.int .i64 (-1), .int .i64 (-1)] Try.underlying91 size61 h (by rw [hm]; rfl) (fun i v hi => ?_) (by rw [hl]; simp; omega) (fun v hv => by simp at hv; rw [hv]; rfl)
  · rw [this, hm]
    have e := pad_more (n * 2) 0 2 (by omega)
    simp only [List.replicate_succ, List.replicate_zero, Nat.zero_add] at e
    rw [show ([Value.int .i64 (-1), Value.int .i64 (-1)] : List Value).length = 2 from rfl]
    simp only [Nat.zero_mul, Nat.zero_add, Nat.one_mul]
    rw [e]
    rfl
  · match i, hi with
    | 0, hi => simp at hi; rw [← hi]; exact hB
    | 1, hi => simp at hi; rw [← hi]; exact hB1
theorem e2_row {w : World} {g : Nat} {l l2 : List Int} (h : E2 w g l) : E2 (w.setRow g (iCells l2)) g l2 := setRow_heap w g _ _ 95 (0, 0) h
theorem e2_made {w : World} {base g n : Nat} (h : w.ownsRow base 95 2 (.slice (some ⟨g, 0, none⟩) n n) n (madeCells (Value.agg #[.int .i64 0, .int .i64 0]).cells (n * 2)).toList) : E2 w g (pad (n * 2) (0 * 2)) := by
  obtain ⟨h0, ⟨he, hn⟩ | ⟨g', cap, cur, he, hg, hb, h1, h2, h3, h4⟩⟩ := h
  · simp at he
  · simp only [Value.slice.injEq, Option.some.injEq, Addr.mk.injEq, true_and, and_true] at he
    obtain ⟨rfl, rfl⟩ := he
    unfold E2
    rw [hb]
    congr 2
    apply Array.ext'
    have h5 : cur.toList.take (n * 2) = cur.toList := List.take_of_length_le (by simp; omega)
    rw [h5] at h4
    rw [h4]
    apply List.ext_getElem?
    intro i
    by_cases hi : i < n * 2
    · have e1 : (iCells (pad (n * 2) (0 * 2))).toList[i]? = some (.int .i64 0) := by simp [iCells, pad, hi]
      rw [e1]
      have hm : i % 2 = 0 ∨ i % 2 = 1 := by omega
      rcases hm with hm | hm <;> simp [madeCells, Value.cells, hi, hm]
    · rw [List.getElem?_eq_none (by simp [madeCells]; omega), List.getElem?_eq_none (by simp [iCells, pad]; omega)]
set_option maxRecDepth 100000 in
set_option maxHeartbeats 4000000 in
theorem repeat_any (n B : Nat) (h0 : 0 < n) (hn : n ≤ 1048576) (w : World) (hB : w.cell? ⟨B, 0, none⟩ = some (.int .i64 (-1))) (hB1 : w.cell? ⟨B, 1, none⟩ = some (.int .i64 (-1))) :
    Calls Try.prog 65 #[.slice (some ⟨B, 0, none⟩) 1 1, .int .i64 (n : Int)] w fun e w' => e = .returned (.slice (some ⟨w.heap.size, 0, none⟩) n n) ∧ E2 w' w.heap.size (tab (n * 2) (fun _ => -1)) ∧ Below w.heap.size w w' := by
  obtain ⟨i0, hi, hz0, hz1, hz2⟩ := info_parts Try.info95
  have HM := hide (mul_one' n (by omega) w)
  have hBl := block_of_cell hB
  have d1 : decide ((n : Int) < 0) = false := by simp
  have d2 : decide ((9223372036854775807 : Int) < (n : Int)) = false := by simp; omega
  have HBC := hide (And.intro hB hB1)
  clear hB hB1
  go_enter Try.func65, Try.ntmps65
  go_wp2_with fail
  refine HM.out.mono ?_
  rintro e w' ⟨rfl, hww⟩
  have hw2 := hww.symm
  subst hw2
  clear hww
  go_upto_region 7 with (first | (at_make; refine wpList_make_full _ rfl _ _ 91 rfl w.heap.size 95 i0 (.agg #[.int .i64 0, .int .i64 0]) 2 Try.underlying91 hi hz0 hz1 _ _ _ _ n rfl rfl rfl rfl (by rw [hz2]; omega) (by unfold maxLen; omega) (Nat.le_refl _) ?_; intro w1 hown hgrow) | fail)
  have hb1 : Below w.heap.size w w1 := (Below.refl _ _).grown hgrow (Nat.le_refl _) (by intro j hj; cases hj)
  have hE := e2_made hown
  have hcp := pad2_first (dc := n) hE ((below_cell hb1 hBl).trans HBC.out.1) ((below_cell hb1 hBl).trans HBC.out.2) h0
  have HA1 := hide (e2_row (l2 := pad (n * 2) (1 * 2)) hE)
  have HB1 := hide (below_setRow hb1 (Nat.le_refl _) (iCells (pad (n * 2) (1 * 2))))
  obtain ⟨g, hg⟩ : ∃ g, g = w.heap.size := ⟨_, rfl⟩
  rw [← hg] at hcp HA1 HB1 ⊢
  have HG' := hide hg
  have hgw : w.heap.size ≤ g := by omega
  clear hown hgrow hb1 hE hg hi hz0 hz1 hz2 HM
  go_wp2_with fail
  generalize (w1.setRow g (iCells (pad (n * 2) (1 * 2)))) = w2 at HA1 HB1 ⊢
  clear hcp
  rw [HG'.out] at HB1
  go_loopw [8] (fun t wr => ∃ j : Nat, 1 ≤ j ∧ j ≤ n ∧ t = .int .i64 j ∧ E2 wr g (pad (n * 2) (j * 2)) ∧ Below w.heap.size w wr) (fun t _ => n - (RowKit.intOf t).toNat)
  case atStart => exact ⟨1, by omega, by omega, rfl, HA1.out, HB1.out⟩
  case round =>
    clear HA1 HB1
    obtain ⟨j, h1, hjn, rfl, hA, hB⟩ := hrel
    have HA := hide hA; have HB := hide hB
    by_cases hlt : j < n
    · have hAd : E2 wr.drew g (pad (n * 2) (j * 2)) := hA
      have hcp := pad2_copy (dc := n - j) (sc := n) hAd (by omega)
      obtain ⟨l, hl⟩ : ∃ l, l = min j (n - j) := ⟨_, rfl⟩
      rw [← hl] at hcp
      have hl1 : 1 ≤ l := by omega
      have hl2 : j + l ≤ n := by omega
      have HA2 := hide (e2_row (l2 := pad (n * 2) ((j + l) * 2)) hAd)
      have HB2 := hide (below_setRow (below_drew hB) hgw (iCells (pad (n * 2) ((j + l) * 2))))
      have hji : (j : Int) < (n : Int) := by omega
      have hjne : ¬ n = j := by omega
      clear hA hB hAd hl
      go_wp2_with fail
      go_region
      all_goals
        go_wp2
        exact ⟨⟨j + l, by omega, by omega, by simp, HA2.out, HB2.out⟩, by simp [RowKit.intOf]; omega⟩
    · have hjn2 : n = j := by omega
      subst hjn2
      have hki : ¬ (n : Int) < (n : Int) := by omega
      clear hA hB
      go_wp2
      go_ret
      have hbb := HB.out
      have haa := HA.out
      rw [pad_all] at haa
      have hgg := HG'.out
      subst hgg
      exact ⟨rfl, haa, hbb⟩
end Go.Proofs.Ytiohimbifjlfdaa

/- slices.Repeat of one number. -/
namespace Go.Proofs.Ytiohimbifjlfdaa
open Go.RowKit Go.Lib
set_option linter.unusedVariables false
set_option linter.unusedSimpArgs false
theorem run_copy_one {P : Program} (w : World) (dT sT ty elem : TypeId) (g o dLen dCap : Nat) (a : Addr) (sLen sCap : Nat) (cur : Array Value) (t : TypeId) (cs : List Value)
    (hu : P.underlying dT = some (.slice elem)) (hs : (P.info? elem).map (·.size) = some 1)
    (hg : w.heap[g]? = some (.cells cur t (0, 0))) (hn : cs.length = Nat.min sLen dLen)
    (hsrc : ∀ j v, cs[j]? = some v → w.cell? (a.add j) = some v) (hfit : o + cs.length ≤ cur.size) (h1 : ∀ v ∈ cs, v.oneCell' = true) :
    (Builtin.copy_ #[dT, sT] ty #[.slice (some ⟨g, o, none⟩) dLen dCap, .slice (some a) sLen sCap]).run P w =
      .ok (goInt (Nat.min sLen dLen)) (w.setRow g (cur.toList.take o ++ cs ++ cur.toList.drop (o + cs.length)).toArray) := by
  have hl := run_loadCells_list (P := P) w a cs hsrc
  have hst := run_storeCells_at P g o t cs 0 cur w hg (by simpa using hfit) h1
  cases hq : P.info? elem with
  | none => simp [hq] at hs
  | some i =>
    have hi : i.size = 1 := by simpa [hq] using hs
    simp [Builtin.copy_, run_underlying hu, Builtin.lenOf, Builtin.firstCells, sizeOf, typeInfo, hq, hi, ← hn, hl, hst]
theorem sizeI3 : (Try.prog.info? 3).map (·.size) = some 1 := by kernel_rfl
theorem padI_copy {w : World} {g n j dc sc : Nat} (h : Arr w g (pad n j)) (hj : j ≤ n) :
    (Builtin.copy_ #[25, 25] 3 #[.slice (some ⟨g, j, none⟩) (n - j) dc, .slice (some ⟨g, 0, none⟩) j sc]).run Try.prog w = .ok (goInt (min j (n - j) : Nat)) (w.setRow g (iCells (pad n (j + min j (n - j))))) := by
  have hl : (iCells (pad n j)).size = n := by simp [iCells, pad]; omega
  have := run_copy_one (P := Try.prog) w 25 25 3 3 g j (n - j) dc ⟨g, 0, none⟩ j sc (iCells (pad n j)) 3 (List.replicate (min j (n - j)) (.int .i64 (-1))) Try.underlying25 sizeI3 h (by simp [Nat.min_def]) (fun i v hi => ?_) (by rw [hl]; simp; omega) (fun v hv => by rw [List.mem_replicate] at hv; rw [hv.2]; rfl)
  · rw [this]
    simp only [List.length_replicate]
    rw [pad_more n j _ (by omega)]
  · have hi2 : i < min j (n - j) := by
      have := (List.getElem?_eq_some_iff.1 hi).1; simpa using this
    rw [List.getElem?_replicate, if_pos hi2] at hi
    rw [Addr.add_lit, Nat.zero_add, h.cell i (by simp [pad]; omega), ← hi]
    unfold at_ pad
    rw [List.getElem?_append_left (by simp; omega), List.getElem?_replicate, if_pos (by omega)]
    rfl
theorem padI_first {w : World} {g n B dc : Nat} (h : Arr w g (pad n 0)) (hB : w.cell? ⟨B, 0, none⟩ = some (.int .i64 (-1))) (hn : 0 < n) :
    (Builtin.copy_ #[25, 25] 3 #[.slice (some ⟨g, 0, none⟩) n dc, .slice (some ⟨B, 0, none⟩) 1 1]).run Try.prog w = .ok (goInt 1) (w.setRow g (iCells (pad n 1))) := by
  have hl : (iCells (pad n 0)).size = n := by simp [iCells, pad]
  have hm : Nat.min 1 n = 1 := by simp [Nat.min_def]; omega
  have := run_copy_one (P := Try.prog) w 25 25 3 3 g 0 n dc ⟨B, 0, none⟩ 1 1 (iCells (pad n 0)) 3 [.int .i64 (-1)] Try.underlying25 sizeI3 h (by rw [hm]; rfl) (fun i v hi => ?_) (by rw [hl]; simp; omega) (fun v hv => by simp at hv; rw [hv]; rfl)
  · rw [this, hm]
    have e := pad_more n 0 1 (by omega)
    simp only [List.replicate_succ, List.replicate_zero, Nat.zero_add] at e
    rw [show ([Value.int .i64 (-1)] : List Value).length = 1 from rfl]
    simp only [Nat.zero_add]
    rw [e]
    rfl
  · match i, hi with
    | 0, hi => simp at hi; rw [← hi]; exact hB
theorem padI_none {w : World} {g B dc : Nat} (h : Arr w g (pad 0 0)) (hB : w.cell? ⟨B, 0, none⟩ = some (.int .i64 (-1))) :
    (Builtin.copy_ #[25, 25] 3 #[.slice (some ⟨g, 0, none⟩) 0 dc, .slice (some ⟨B, 0, none⟩) 1 1]).run Try.prog w = .ok (goInt 0) (w.setRow g (iCells (pad 0 0))) := by
  have := run_copy_one (P := Try.prog) w 25 25 3 3 g 0 0 dc ⟨B, 0, none⟩ 1 1 (iCells (pad 0 0)) 3 [] Try.underlying25 sizeI3 h (by simp) (fun i v hi => by simp at hi) (by simp) (fun v hv => by simp at hv)
  rw [this]
  rfl
theorem arr_row {w : World} {g : Nat} {l l2 : List Int} (h : Arr w g l) : Arr (w.setRow g (iCells l2)) g l2 := setRow_heap w g _ _ 3 (0, 0) h
theorem pad_zero (n : Nat) : pad n 0 = tab n (fun _ => 0) := by
  unfold pad tab
  apply List.ext_getElem
  · simp
  · intro i h1 h2; simp
set_option maxRecDepth 100000 in
set_option maxHeartbeats 4000000 in
theorem repI_any (n B : Nat) (h0 : 0 < n) (hn : n ≤ 1048576) (w : World) (hB : w.cell? ⟨B, 0, none⟩ = some (.int .i64 (-1))) :
    Calls Try.prog 31 #[.slice (some ⟨B, 0, none⟩) 1 1, .int .i64 (n : Int)] w fun e w' => e = .returned (.slice (some ⟨w.heap.size, 0, none⟩) n n) ∧ Arr w' w.heap.size (tab n (fun _ => -1)) ∧ Below w.heap.size w w' := by
  obtain ⟨i0, hi, hz0, hz1, hz2⟩ := info_parts Try.info3q
  have HM := hide (mul_one' n (by omega) w)
  have hBl := block_of_cell hB
  have d1 : decide ((n : Int) < 0) = false := by simp
  have d2 : decide ((9223372036854775807 : Int) < (n : Int)) = false := by simp; omega
  have HBC := hide (hB)
  clear hB
  go_enter Try.func31, Try.ntmps31
  go_wp2_with fail
  refine HM.out.mono ?_
  rintro e w' ⟨rfl, hww⟩
  have hw2 := hww.symm
  subst hw2
  clear hww
  go_upto_region 7 with (first | (at_make; refine wpList_make_full _ rfl _ _ 25 rfl w.heap.size 3 i0 (.int .i64 0) 1 Try.underlying25 hi hz0 hz1 _ _ _ _ n rfl rfl rfl rfl (by rw [hz2]; omega) (by unfold maxLen; omega) (Nat.le_refl _) ?_; intro w1 hown hgrow) | fail)
  have hb1 : Below w.heap.size w w1 := (Below.refl _ _).grown hgrow (Nat.le_refl _) (by intro j hj; cases hj)
  have hE : Arr w1 w.heap.size (pad n 0) := by rw [pad_zero]; exact arr_made hown
  have hcp := padI_first (dc := n) hE ((below_cell hb1 hBl).trans HBC.out) h0
  have HA1 := hide (arr_row (l2 := pad n 1) hE)
  have HB1 := hide (below_setRow hb1 (Nat.le_refl _) (iCells (pad n 1)))
  obtain ⟨g, hg⟩ : ∃ g, g = w.heap.size := ⟨_, rfl⟩
  rw [← hg] at hcp HA1 HB1 ⊢
  have HG' := hide hg
  have hgw : w.heap.size ≤ g := by omega
  clear hown hgrow hb1 hE hg hi hz0 hz1 hz2 HM
  go_wp2_with fail
  generalize (w1.setRow g (iCells (pad n 1))) = w2 at HA1 HB1 ⊢
  clear hcp
  rw [HG'.out] at HB1
  go_loopw [8] (fun t wr => ∃ j : Nat, 1 ≤ j ∧ j ≤ n ∧ t = .int .i64 j ∧ Arr wr g (pad n j) ∧ Below w.heap.size w wr) (fun t _ => n - (RowKit.intOf t).toNat)
  case atStart => exact ⟨1, by omega, by omega, rfl, HA1.out, HB1.out⟩
  case round =>
    clear HA1 HB1
    obtain ⟨j, h1, hjn, rfl, hA, hB⟩ := hrel
    have HA := hide hA; have HB := hide hB
    by_cases hlt : j < n
    · have hAd : Arr wr.drew g (pad n j) := hA
      have hcp := padI_copy (dc := n - j) (sc := n) hAd (by omega)
      obtain ⟨l, hl⟩ : ∃ l, l = min j (n - j) := ⟨_, rfl⟩
      rw [← hl] at hcp
      have hl1 : 1 ≤ l := by omega
      have hl2 : j + l ≤ n := by omega
      have HA2 := hide (arr_row (l2 := pad n (j + l)) hAd)
      have HB2 := hide (below_setRow (below_drew hB) hgw (iCells (pad n (j + l))))
      have hji : (j : Int) < (n : Int) := by omega
      have hjne : ¬ n = j := by omega
      clear hA hB hAd hl
      go_wp2_with fail
      go_region
      all_goals
        go_wp2
        exact ⟨⟨j + l, by omega, by omega, by simp, HA2.out, HB2.out⟩, by simp [RowKit.intOf]; omega⟩
    · have hjn2 : n = j := by omega
      subst hjn2
      have hki : ¬ (n : Int) < (n : Int) := by omega
      clear hA hB
      go_wp2
      go_ret
      have hbb := HB.out
      have haa := HA.out
      rw [pad_all] at haa
      have hgg := HG'.out
      subst hgg
      exact ⟨rfl, haa, hbb⟩
set_option maxRecDepth 100000 in
set_option maxHeartbeats 4000000 in
theorem repI_zero (B : Nat) (w : World) (hB : w.cell? ⟨B, 0, none⟩ = some (.int .i64 (-1))) :
    Calls Try.prog 31 #[.slice (some ⟨B, 0, none⟩) 1 1, .int .i64 0] w fun e w' => e = .returned (.slice (some ⟨w.heap.size, 0, none⟩) 0 0) ∧ Arr w' w.heap.size (tab 0 (fun _ => -1)) ∧ Below w.heap.size w w' := by
  obtain ⟨i0, hi, hz0, hz1, hz2⟩ := info_parts Try.info3q
  have HM := hide (mul_one' 0 (by omega) w)
  have hBl := block_of_cell hB
  have HBC := hide hB
  clear hB
  rw [show ((0 : Nat) : Int) = 0 from rfl] at HM
  go_enter Try.func31, Try.ntmps31
  go_wp2_with fail
  refine HM.out.mono ?_
  rintro e w' ⟨rfl, hww⟩
  have hw2 := hww.symm
  subst hw2
  clear hww
  go_upto_region 7 with (first | (at_make; refine wpList_make_full _ rfl _ _ 25 rfl w.heap.size 3 i0 (.int .i64 0) 1 Try.underlying25 hi hz0 hz1 _ _ _ _ 0 rfl rfl rfl rfl (by rw [hz2]; omega) (by unfold maxLen; omega) (Nat.le_refl _) ?_; intro w1 hown hgrow) | fail)
  have hb1 : Below w.heap.size w w1 := (Below.refl _ _).grown hgrow (Nat.le_refl _) (by intro j hj; cases hj)
  have hE : Arr w1 w.heap.size (pad 0 0) := by rw [pad_zero]; exact arr_made hown
  have hcp := padI_none (dc := 0) hE ((below_cell hb1 hBl).trans HBC.out)
  have HA1 := hide (arr_row (l2 := pad 0 0) hE)
  have HB1 := hide (below_setRow hb1 (Nat.le_refl _) (iCells (pad 0 0)))
  obtain ⟨g, hg⟩ : ∃ g, g = w.heap.size := ⟨_, rfl⟩
  rw [← hg] at hcp HA1 HB1 ⊢
  have HG' := hide hg
  clear hown hgrow hb1 hE hg hi hz0 hz1 hz2 HM
  go_wp2_with fail
  generalize (w1.setRow g (iCells (pad 0 0))) = w2 at HA1 HB1 ⊢
  clear hcp
  rw [HG'.out] at HB1
  go_loopw [8] (fun t wr => t = .int .i64 0 ∧ Arr wr g (pad 0 0) ∧ Below w.heap.size w wr) (fun _ _ => 0)
  case atStart => exact ⟨rfl, HA1.out, HB1.out⟩
  case round =>
    clear HA1 HB1
    obtain ⟨rfl, hA, hB⟩ := hrel
    have HA := hide hA; have HB := hide hB
    clear hA hB
    go_wp2
    go_ret
    have hgg := HG'.out
    have haa := HA.out
    rw [pad_all] at haa
    subst hgg
    exact ⟨rfl, haa, HB.out⟩
theorem repI_all (n B : Nat) (hn : n ≤ 1048576) (w : World) (hB : w.cell? ⟨B, 0, none⟩ = some (.int .i64 (-1))) :
    Calls Try.prog 31 #[.slice (some ⟨B, 0, none⟩) 1 1, .int .i64 (n : Int)] w fun e w' => e = .returned (.slice (some ⟨w.heap.size, 0, none⟩) n n) ∧ Arr w' w.heap.size (tab n (fun _ => -1)) ∧ Below w.heap.size w w' := by
  by_cases h : n = 0
  · subst h; exact repI_zero B w hB
  · exact repI_any n B (by omega) hn w hB
end Go.Proofs.Ytiohimbifjlfdaa
