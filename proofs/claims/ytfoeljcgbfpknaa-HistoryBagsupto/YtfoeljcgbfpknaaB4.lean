/- The program's takers; slices.DeleteFunc of ints. -/
import Derived.Test.YtfoeljcgbfpknaaB3
import Derived.Test.YtfoeljcgbfpknaaH20
namespace Go.Proofs.Ytfoeljcgbfpknaa
open Go.RowKit Go.Lib Go.Maps
set_option linter.unusedVariables false
set_option linter.unusedSimpArgs false
/-- The tasks taken so far. -/
def TkS (l : List Sp) (i : Nat) (a b : Int) : Prop := ∃ k, k < i ∧ (spAt l k).kind = 4 ∧ (spAt l k).key = a ∧ (spAt l k).load = b
theorem TkS.zero {l : List Sp} {a b : Int} : TkS l 0 a b ↔ False := ⟨fun ⟨k, h, _⟩ => by omega, fun h => h.elim⟩
theorem TkS.skip {l : List Sp} {i : Nat} (h : (spAt l i).kind ≠ 4 ∨ TkS l i (spAt l i).key (spAt l i).load) (a b : Int) : TkS l (i + 1) a b ↔ TkS l i a b := by
  constructor
  · rintro ⟨k, h1, h2, h3, h4⟩
    by_cases e : k = i
    · subst e
      rcases h with h | h
      · exact (h h2).elim
      · rw [h3, h4] at h; exact h
    · exact ⟨k, by omega, h2, h3, h4⟩
  · rintro ⟨k, h1, h2⟩; exact ⟨k, by omega, h2⟩
theorem TkS.step {l : List Sp} {i : Nat} (h : (spAt l i).kind = 4) (a b : Int) : TkS l (i + 1) a b ↔ (a = (spAt l i).key ∧ b = (spAt l i).load) ∨ TkS l i a b := by
  constructor
  · rintro ⟨k, h1, h2, h3, h4⟩
    by_cases e : k = i
    · subst e; exact .inl ⟨h3.symm, h4.symm⟩
    · exact .inr ⟨k, by omega, h2, h3, h4⟩
  · rintro (⟨rfl, rfl⟩ | ⟨k, h1, h2⟩)
    · exact ⟨i, by omega, h, rfl, rfl⟩
    · exact ⟨k, by omega, h2⟩
structure TG (w wr : World) (l : List Sp) (i : Nat) : Prop where
  bel : Below w.heap.size w wr
  mp : MpT wr w.heap.size i (TkS l i)
theorem TG.on {w wr X : World} {l : List Sp} {i : Nat} (h : TG w wr l i) (hb : Below wr.heap.size wr X) : TG w X l i := ⟨below_on h.bel hb, h.mp.below hb⟩
set_option maxRecDepth 100000 in
set_option maxHeartbeats 4000000 in
theorem takers_any (v : Value) (l : List Sp) (w : World) (h : RAt Sp.arr 7 w v l) (ht : Tok l) (hl : l.length ≤ 140737488351232) : Calls Try.prog 67 #[v] w fun x w' => x = .returned (.map (some w.heap.size)) ∧ TG w w' l l.length := by
  obtain ⟨ao, cap, rfl, hcap, h63⟩ := h.shape
  have H := hide h
  have HT := hide ht
  obtain ⟨n, hn⟩ : ∃ n, n = l.length := ⟨_, rfl⟩
  have HN := hide hn
  rw [← hn] at hcap H hl ⊢
  clear h hn ht
  have hmm := @run_makeMap Try.prog
  have HL0 : Hid (TG w (w.alloc (.map #[] 0)) l 0) := ⟨below_alloc (Below.refl _ _) _, (mpT_start w).congr (fun a b => TkS.zero) (Nat.le_refl _)⟩
  go_enter Try.func67, Try.ntmps67
  go_wp2_with fail
  clear hmm
  go_loopw [11] (fun t wr => ∃ i : Nat, i ≤ n ∧ t = .int .i64 (i : Int) ∧ TG w wr l i) (fun t _ => n - (RowKit.intOf t).toNat)
  case atStart => exact ⟨0, Nat.zero_le _, rfl, HL0.out⟩
  case round =>
    clear HL0
    obtain ⟨i, hin, rfl, hlg⟩ := hrel
    have HLG := hide hlg
    clear hlg
    by_cases hlt : i < n
    · have hli : (i : Int) < (n : Int) := by omega
      obtain ⟨gs, os, rfl, hgs, i0, i1, i2, i3, i4, i5, i6⟩ := sp_cells (H.out.below HLG.out.bel) i (by rw [← HN.out]; exact hlt)
      obtain ⟨hk1, hk2⟩ := HT.out i (by rw [← HN.out]; exact hlt)
      have HSK : Hid (∀ X, TG w X l i → ((spAt l i).kind ≠ 4 ∨ TkS l i (spAt l i).key (spAt l i).load) → TG w X l (i + 1)) := fun X a b => ⟨a.bel, a.mp.congr (TkS.skip b) (Nat.le_succ _)⟩
      have HPG : Hid (∀ X Y, TG w X l i → (spAt l i).kind = 4 → X.grownBy Y (some w.heap.size) → MpT Y w.heap.size (i + 1) (fun c d => (c = (spAt l i).key ∧ d = (spAt l i).load) ∨ TkS l i c d) → TG w Y l (i + 1)) := fun X Y a b d e => ⟨a.bel.grown d a.bel.size (fun j hj => by cases hj; exact Nat.le_refl _), e.congr (TkS.step b) (Nat.le_refl _)⟩
      generalize spAt l i = si at i0 i1 i2 i3 i4 i5 i6 hk1 hk2 HSK HPG
      obtain ⟨who, ins, key, load, beg, en, kind⟩ := si
      simp only at i0 i1 i2 i3 i4 i5 i6 hk1 hk2 HSK HPG
      have HK1 := hide hk1; have HK2 := hide hk2
      obtain ⟨X, hX⟩ : ∃ X, X = wr.alloc (.cells #[.int .i64 who, .bool ins, .int .u64 key, .int .u64 load, .int .i64 beg, .int .i64 en, .int .i64 kind] 69) := ⟨_, rfl⟩
      have HBX : Hid (Below wr.heap.size wr X) := by rw [hX]; exact below_alloc (Below.refl _ _) _
      have HQX : Hid (X.heap[wr.heap.size]? = some (.cells #[.int .i64 who, .bool ins, .int .u64 key, .int .u64 load, .int .i64 beg, .int .i64 en, .int .i64 kind] 69 (0, 0))) := by rw [hX]; exact heap_new _ _
      have HLX := hide (HLG.out.on HBX.out)
      have HFR : Hid (w.heap.size < wr.heap.size) := HLG.out.mp.lt
      clear hk1 hk2
      go_upto_region 5 with fail
      rw [← hX]
      obtain ⟨B, hBr⟩ : ∃ B, B = wr.heap.size := ⟨_, rfl⟩
      rw [← hBr] at HQX HFR ⊢
      clear hX HBX HLG hBr hgs i0 i1 i2 i3 i4 i5 i6
      have z2 := cell_of HQX.out (i := 2) rfl
      have z3 := cell_of HQX.out (i := 3) rfl
      have z6 := cell_of HQX.out (i := 6) rfl
      obtain ⟨x, q, hlk, hq⟩ := HLX.out.mp.look HK1.out HK2.out
      by_cases hkd : kind = 4
      · have hkb : (kind == 4) = true := by simp [hkd]
        have HKD := hide hkd
        clear hkd
        cases q with
        | true =>
          have HN2 := hide (HSK.out _ HLX.out (.inr (hq.1 rfl)))
          clear HSK HPG hq
          go_wp2_with fail
          exact ⟨⟨i + 1, by omega, by simp, HN2.out⟩, by simp [RowKit.intOf]; omega⟩
        | false =>
          obtain ⟨W9, hup, hmp9, hgr9⟩ := HLX.out.mp.put (x := (i : Int)) HK1.out HK2.out (by omega) (WalkArith.wf_i64 ⟨by omega, by omega⟩)
          have HN2 := hide (HPG.out _ _ HLX.out HKD.out hgr9 hmp9)
          clear HSK HPG hq hmp9 hgr9
          go_wp2_with fail
          exact ⟨⟨i + 1, by omega, by simp, HN2.out⟩, by simp [RowKit.intOf]; omega⟩
      · have hkb : (kind == 4) = false := by simp [hkd]
        have HN2 := hide (HSK.out _ HLX.out (.inl hkd))
        clear hkd HSK HPG hq
        go_wp2_with fail
        exact ⟨⟨i + 1, by omega, by simp, HN2.out⟩, by simp [RowKit.intOf]; omega⟩
    · obtain rfl : n = i := by omega
      go_wp2_with fail
      go_ret
      exact ⟨rfl, HLG.out⟩
set_option maxRecDepth 100000 in
theorem isNone_any (x : Int) (w : World) : Calls Try.prog 71 #[.int .i64 x] w fun e w' => e = .returned (.bool (x == -1)) ∧ Below w.heap.size w w' := by
  go_enter Try.func71, Try.ntmps71
  go_wp2_with fail
  go_ret
  exact ⟨rfl, Below.refl _ _⟩
/-- The first that is none. -/
def FnA (L : List Int) (r : Int) : Prop := (∃ i : Nat, i < L.length ∧ at_ L i = -1 ∧ (∀ k, k < i → at_ L k ≠ -1) ∧ r = (i : Int)) ∨ ((∀ k, k < L.length → at_ L k ≠ -1) ∧ r = -1)
def FnP (L : List Int) (w : World) (x : Ending) (w' : World) : Prop := Below w.heap.size w w' ∧ ∃ r, x = .returned (.int .i64 r) ∧ FnA L r
set_option maxRecDepth 100000 in
set_option maxHeartbeats 2000000 in
theorem indexNone_any (g m : Nat) (L : List Int) (w : World) (h : Arr w g L) (hm : L.length = m) (hb : m ≤ 1048576) : Calls Try.prog 97 #[.slice (some ⟨g, 0, none⟩) m m, .func (.func 71) #[] #[]] w (FnP L w) := by
  have H := hide h
  have HM := hide hm
  have HC := hide (fun x W => isNone_any x W)
  clear h hm
  go_enter Try.func97, Try.ntmps97
  go_wp2_with fail
  go_loopw [4, 8] (fun va t wr => ∃ k : Nat, k ≤ m ∧ va = .int .i64 0 ∧ t = .int .i64 (k : Int) ∧ Below w.heap.size w wr ∧ ∀ j, j < k → at_ L j ≠ -1) (fun _ t _ => m - (RowKit.intOf t).toNat)
  case atStart => exact ⟨0, Nat.zero_le _, rfl, rfl, Below.refl _ _, fun j hj => by omega⟩
  case round =>
    obtain ⟨k, hk, rfl, rfl, hbb, hno⟩ := hrel
    have HB := hide hbb; have HNO := hide hno
    clear hbb hno
    by_cases hlt : k < m
    · have hli : (k : Int) < (m : Int) := by omega
      have y0 := (H.out.below HB.out (lt_of_heap H.out)).cell k (by rw [HM.out]; exact hlt)
      have HCC := hide (HC.out (at_ L k) wr)
      have HYE : Hid (at_ L k = -1 → FnA L k) := fun e => .inl ⟨k, by rw [HM.out]; exact hlt, e, HNO.out, rfl⟩
      have HNX : Hid (at_ L k ≠ -1 → ∀ j, j < k + 1 → at_ L j ≠ -1) := fun e j hj => by
        by_cases q : j = k
        · rw [q]; exact e
        · exact HNO.out j (by omega)
      generalize at_ L k = y at y0 HCC HYE HNX
      by_cases hy : y = -1
      · have hyb : (y == -1) = true := by simp [hy]
        rw [hyb] at HCC
        have HY := hide (HYE.out hy)
        clear hy hyb
        go_wp2_with fail
        refine HCC.out.mono ?_
        rintro e w2 ⟨rfl, hb2⟩
        have HB2 := hide (below_on HB.out hb2)
        clear hb2
        go_wp2_with fail
        go_ret
        exact ⟨HB2.out, _, rfl, HY.out⟩
      · have hyb : (y == -1) = false := by simp [hy]
        rw [hyb] at HCC
        have HY := hide (HNX.out hy)
        clear hy hyb
        go_wp2_with fail
        refine HCC.out.mono ?_
        rintro e w2 ⟨rfl, hb2⟩
        have HB2 := hide (below_on HB.out hb2)
        clear hb2
        go_wp2_with fail
        exact ⟨⟨k + 1, by omega, rfl, by simp, HB2.out, HY.out⟩, by simp [RowKit.intOf]; omega⟩
    · obtain rfl : m = k := by omega
      have HR : Hid (FnA L (-1)) := .inr ⟨fun j hj => HNO.out j (by rw [← HM.out]; exact hj), rfl⟩
      go_wp2_with fail
      go_ret
      exact ⟨HB.out, _, rfl, HR.out⟩
/-- The numbers that are not none. -/
def flt (L : List Int) : List Int := L.filter (fun x => x != -1)
theorem flt_all {L : List Int} (h : ∀ k, k < L.length → at_ L k ≠ -1) : flt L = L := by
  unfold flt
  rw [List.filter_eq_self]
  intro x hx
  obtain ⟨k, hk, e⟩ := List.getElem_of_mem hx
  have := h k hk
  simp [at_, hk, e] at this
  simpa using this
/-- The numbers under way: the first i are those of the first j that are not none, those from j on as they were. -/
structure Dl (L X : List Int) (i j : Nat) : Prop where
  len : X.length = L.length
  low : X.take i = flt (L.take j)
  cnt : i = (flt (L.take j)).length
  hi : ∀ t, j ≤ t → t < L.length → at_ X t = at_ L t
  lt : i < j
theorem Dl.start {L : List Int} {i : Nat} (hi : i < L.length) (he : at_ L i = -1) (hn : ∀ k, k < i → at_ L k ≠ -1) : Dl L L i (i + 1) := by
  have e : at_ L i = L[i] := by simp [at_, hi]
  have h1 : flt (L.take (i + 1)) = L.take i := by
    rw [List.take_add_one, List.getElem?_eq_getElem hi, Option.toList_some]
    unfold flt
    rw [List.filter_append]
    have h2 : List.filter (fun x => x != -1) [L[i]] = [] := by rw [← e, he]; rfl
    rw [h2, List.append_nil]
    have := flt_all (L := L.take i) (fun k hk => by
      rw [List.length_take] at hk
      have := hn k (by omega)
      simpa [at_, List.getElem?_take_of_lt (show k < i by omega)] using this)
    exact this
  exact ⟨rfl, h1.symm, by rw [h1, List.length_take]; omega, fun t _ _ => rfl, by omega⟩
theorem Dl.skip {L X : List Int} {i j : Nat} (h : Dl L X i j) (hj : j < L.length) (he : at_ L j = -1) : Dl L X i (j + 1) := by
  have e : at_ L j = L[j] := by simp [at_, hj]
  have h1 : flt (L.take (j + 1)) = flt (L.take j) := by
    rw [List.take_add_one, List.getElem?_eq_getElem hj, Option.toList_some]
    unfold flt
    rw [List.filter_append]
    have h2 : List.filter (fun x => x != -1) [L[j]] = [] := by rw [← e, he]; rfl
    rw [h2, List.append_nil]
  exact ⟨h.len, by rw [h1]; exact h.low, by rw [h1]; exact h.cnt, fun t ht => h.hi t (by omega), by have := h.lt; omega⟩
theorem Dl.keep {L X : List Int} {i j : Nat} (h : Dl L X i j) (hj : j < L.length) (he : at_ L j ≠ -1) : Dl L (X.set i (at_ L j)) (i + 1) (j + 1) := by
  have e : at_ L j = L[j] := by simp [at_, hj]
  have hlt := h.lt
  have hxl := h.len
  have h1 : flt (L.take (j + 1)) = flt (L.take j) ++ [at_ L j] := by
    rw [List.take_add_one, List.getElem?_eq_getElem hj, Option.toList_some]
    unfold flt
    rw [List.filter_append, e]
    congr 1
    rw [e] at he
    simp [he]
  refine ⟨by simpa using h.len, ?_, by rw [h1, List.length_append, ← h.cnt]; rfl, fun t ht htl => ?_, by omega⟩
  · rw [h1, ← h.low, List.take_add_one, List.getElem?_set_self (by omega), Option.toList_some, List.take_set]
    rw [List.set_eq_of_length_le (by rw [List.length_take]; omega)]
  · rw [← h.hi t (by omega) htl]
    simp only [at_]
    rw [List.getElem?_set_ne (by omega)]
theorem run_clearI {w : World} {g m i c : Nat} {X : List Int} (h : Arr w g X) (hi : i + (m + 1) = X.length) (ty : TypeId) : (Builtin.clear_ #[23] ty #[.slice (some ⟨g, i, none⟩) (m + 1) c]).run Try.prog w = .ok (.tuple #[]) (w.setCells g i (Builtin.zeroCells (Value.int .i64 0).cells (m + 1)).toList) := by
  have hz : ∀ v ∈ (Builtin.zeroCells (Value.int .i64 0).cells (m + 1)).toList, v.oneCell' = true := fun v hv => by
    simp only [Builtin.zeroCells, Value.cells, Array.toList_map, List.mem_map] at hv
    obtain ⟨t, _, rfl⟩ := hv
    show (#[Value.int .i64 0][t % 1]!).oneCell' = true
    rw [Nat.mod_one]; rfl
  have hzl : (Builtin.zeroCells (Value.int .i64 0).cells (m + 1)).toList.length = m + 1 := by simp [Builtin.zeroCells, Value.cells]
  have hst := run_storeCells_cells (P := Try.prog) g i _ 0 w (fun j hj => by
    rw [hzl] at hj
    have : (iCells X)[i + 0 + j]? = some (.int .i64 (at_ X (i + 0 + j))) := by simp [iCells, at_, show i + j < X.length by omega]
    rw [cell_of h this]; rfl) (fun j hj => h.free _) hz
  simp only [Nat.add_zero] at hst
  simp [Builtin.clear_, run_underlying Try.underlying23, Try.zeroValue3, hst]
end Go.Proofs.Ytfoeljcgbfpknaa
