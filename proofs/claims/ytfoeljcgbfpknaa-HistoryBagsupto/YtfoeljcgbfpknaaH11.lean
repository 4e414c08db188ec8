/- The program's mayStand and keepTime; the document's Ahead. -/
import Derived.Test.YtfoeljcgbfpknaaH10
namespace Go.Proofs.Ytfoeljcgbfpknaa
open Go.RowKit Go.Lib
set_option linter.unusedVariables false
set_option linter.unusedSimpArgs false
/-- The program's mayStand. -/
def mayP (s : Sp) (q : Bool) : Bool := (s.kind == 2 || s.kind == 4) || (s.en == -1 && (s.ins || q))
set_option maxRecDepth 100000 in
set_option maxHeartbeats 2000000 in
theorem mayStand_any (s : Sp) (q : Bool) (w : World) : Calls Try.prog 95 #[.agg s.arr, .bool q] w fun x w' => x = .returned (.bool (mayP s q)) ∧ Below w.heap.size w w' := by
  have HC := hide (fun W => countsP_any s W)
  have HY := hide (fun W => isOpen_any s W)
  obtain ⟨who, ins, key, load, beg, en, kind⟩ := s
  have HA : Hid (Below w.heap.size w (w.alloc (.cells #[.int .i64 who, .bool ins, .int .u64 key, .int .u64 load, .int .i64 beg, .int .i64 en, .int .i64 kind] 69))) := below_alloc (Below.refl _ _) _
  have HB : Hid ((w.alloc (.cells #[.int .i64 who, .bool ins, .int .u64 key, .int .u64 load, .int .i64 beg, .int .i64 en, .int .i64 kind] 69)).heap[w.heap.size]? = some (.cells #[.int .i64 who, .bool ins, .int .u64 key, .int .u64 load, .int .i64 beg, .int .i64 en, .int .i64 kind] 69 (0, 0))) := heap_new _ _
  unfold Sp.arr at HC HY ⊢
  unfold mayP
  simp only at HC HY ⊢
  generalize (kind == 2 || kind == 4) = cb at HC ⊢
  generalize (en == -1) = oq at HY ⊢
  cases cb with
  | true =>
    go_enter Try.func95, Try.ntmps95
    go_wp2_with fail
    refine (HC.out _).mono ?_
    rintro e w5 ⟨rfl, hb⟩
    have HP := hide (below_on HA.out hb)
    clear hb
    go_wp2_with fail
    go_ret
    exact ⟨rfl, HP.out⟩
  | false =>
    go_enter Try.func95, Try.ntmps95
    go_wp2_with fail
    refine (HC.out _).mono ?_
    rintro e w5 ⟨rfl, hb⟩
    have HP := hide (below_on HA.out hb)
    have hq := (hb.block _ (lt_of_heap HB.out)).trans HB.out
    have HQ5 := hide hq
    have z0 := cell_of hq (i := 0) rfl; have z1 := cell_of hq (i := 1) rfl; have z2 := cell_of hq (i := 2) rfl; have z3 := cell_of hq (i := 3) rfl; have z4 := cell_of hq (i := 4) rfl; have z5 := cell_of hq (i := 5) rfl; have z6 := cell_of hq (i := 6) rfl
    clear hb hq
    go_wp2_with fail
    refine (HY.out _).mono ?_
    rintro e w6 ⟨rfl, hb⟩
    have HP2 := hide (below_on HP.out hb)
    have y1 := cell_of ((hb.block _ (lt_of_heap HQ5.out)).trans HQ5.out) (i := 1) rfl
    clear hb z0 z1 z2 z3 z4 z5 z6
    cases oq <;> cases ins <;> (go_wp2_with fail; go_ret; exact ⟨by simp, HP2.out⟩)
/-- One is ahead of another. -/
def ahd (a b : Sp) : Bool := a.en != -1 && decide (a.en < b.beg)
set_option maxRecDepth 100000 in
set_option maxHeartbeats 2000000 in
theorem ahead_any (a b : Sp) (w : World) : Calls Try.prog 89 #[.agg a.arr, .agg b.arr] w fun x w' => x = .returned (.bool (ahd a b)) ∧ Below w.heap.size w w' := by
  obtain ⟨who, ins, key, load, beg, en, kind⟩ := a
  obtain ⟨who2, ins2, key2, load2, beg2, en2, kind2⟩ := b
  have HA : Hid (Below w.heap.size w ((w.alloc (.cells #[.int .i64 who, .bool ins, .int .u64 key, .int .u64 load, .int .i64 beg, .int .i64 en, .int .i64 kind] 69)).alloc (.cells #[.int .i64 who2, .bool ins2, .int .u64 key2, .int .u64 load2, .int .i64 beg2, .int .i64 en2, .int .i64 kind2] 69))) := below_alloc (below_alloc (Below.refl _ _) _) _
  unfold Sp.arr ahd
  simp only
  by_cases he : en = -1
  · subst he
    go_enter Try.func89, Try.ntmps89
    go_wp2_with fail
    go_ret
    exact ⟨by simp, HA.out⟩
  · have he1 : (en == -1) = false := by simp [he]
    have he2 : (en != -1) = true := by simp [he]
    have HH := hide he
    clear he
    by_cases hl : en < beg2
    · go_enter Try.func89, Try.ntmps89
      go_wp2_with fail
      go_ret
      exact ⟨by simp [hl, HH.out], HA.out⟩
    · go_enter Try.func89, Try.ntmps89
      go_wp2_with fail
      go_ret
      exact ⟨by simp [hl, HH.out], HA.out⟩
/-- The number in the k-th place of an order. -/
def oN (o : List Int) (k : Nat) : Nat := (at_ o k).toNat
/-- The latest begin of the first k of an order. -/
def lat (l : List Sp) (o : List Int) : Nat → Int
  | 0 => 0
  | k + 1 => max (lat l o k) (spAt l (oN o k)).beg
/-- The numbers of an order are numbers of spans. -/
def Ord (l : List Sp) (o : List Int) : Prop := ∀ k, k < o.length → 0 ≤ at_ o k ∧ at_ o k < (l.length : Int)
def ktP (l : List Sp) (o : List Int) (k : Nat) : Prop := (spAt l (oN o k)).en = -1 ∨ lat l o k ≤ (spAt l (oN o k)).en
def KtP (l : List Sp) (o : List Int) (w : World) (x : Ending) (w' : World) : Prop := Below w.heap.size w w' ∧ ∃ b : Bool, x = .returned (.bool b) ∧ (b = true ↔ ∀ k, k < o.length → ktP l o k)
set_option maxRecDepth 100000 in
set_option maxHeartbeats 4000000 in
theorem keepTime_any (v vo : Value) (l : List Sp) (o : List Int) (w : World) (h : RAt Sp.arr 7 w v l) (ho : RowAt .i64 w vo o) (hr : Ord l o) : Calls Try.prog 59 #[v, vo] w (KtP l o w) := by
  obtain ⟨ao, cap, rfl, hcap, h63⟩ := h.shape
  have H := hide h
  have ho63 := ho
  obtain ⟨oo, oc, rfl, ho1, ho2, _⟩ := ho63
  have HO := hide ho
  have HR := hide hr
  obtain ⟨n, hn⟩ : ∃ n, n = l.length := ⟨_, rfl⟩
  have HN := hide hn
  obtain ⟨m, hm⟩ : ∃ m, m = o.length := ⟨_, rfl⟩
  have HM := hide hm
  rw [← hn] at hcap H ⊢
  rw [← hm] at HO ho1 ⊢
  clear h hn hm ho hr
  go_enter Try.func59, Try.ntmps59
  go_wp2_with fail
  go_loopw [4, 5, 11] (fun va t1 t wr => ∃ i : Nat, i ≤ m ∧ va = .bool false ∧ t1 = .int .i64 (lat l o i) ∧ t = .int .i64 (i : Int) ∧ Below w.heap.size w wr ∧ ∀ k, k < i → ktP l o k) (fun _ _ t _ => m - (RowKit.intOf t).toNat)
  case atStart => exact ⟨0, Nat.zero_le _, rfl, rfl, rfl, Below.refl _ _, fun k hk => by omega⟩
  case round =>
    obtain ⟨i, him, rfl, rfl, rfl, hb, hall⟩ := hrel
    have HB := hide hb
    have HAL := hide hall
    clear hb hall
    by_cases hlt : i < m
    · have hli : (i : Int) < (m : Int) := by omega
      obtain ⟨go, po, co, e1, _, x1⟩ := (HO.out.below HB.out).cellAt i (by rw [← HM.out]; exact hlt)
      simp only [Value.slice.injEq] at e1
      obtain ⟨rfl, he17, rfl⟩ := e1
      clear he17
      obtain ⟨hr0, hr1⟩ := HR.out i (by rw [← HM.out]; exact hlt)
      obtain ⟨p, hp⟩ : ∃ p, p = oN o i := ⟨_, rfl⟩
      have hpi : at_ o i = (p : Int) := by rw [hp]; unfold oN; omega
      rw [hpi] at x1 hr1
      rw [← HN.out] at hr1
      obtain ⟨gs, os, rfl, hgs, i0, i1, i2, i3, i4, i5, i6⟩ := sp_cells (H.out.below HB.out) p (by rw [← HN.out]; omega)
      have HPI := hide (fun W => isOpen_any (spAt l p) W)
      have HKT : Hid (ktP l o i ↔ (spAt l p).en = -1 ∨ lat l o i ≤ (spAt l p).en) := by rw [hp]; exact Iff.rfl
      have HLT : Hid (lat l o (i + 1) = max (lat l o i) (spAt l p).beg) := by rw [hp]; rfl
      generalize spAt l p = si at i0 i1 i2 i3 i4 i5 i6 HPI HKT HLT
      obtain ⟨who, ins, key, load, beg, en, kind⟩ := si
      unfold Sp.arr at HPI
      simp only at i0 i1 i2 i3 i4 i5 i6 HPI HKT HLT
      generalize lat l o i = la at HKT HLT ⊢
      clear hr0 hpi hp
      obtain ⟨X, hX⟩ : ∃ X, X = wr.alloc (.cells #[.int .i64 who, .bool ins, .int .u64 key, .int .u64 load, .int .i64 beg, .int .i64 en, .int .i64 kind] 69) := ⟨_, rfl⟩
      have HBX : Hid (Below wr.heap.size wr X) := by rw [hX]; exact below_alloc (Below.refl _ _) _
      have HQX : Hid (X.heap[wr.heap.size]? = some (.cells #[.int .i64 who, .bool ins, .int .u64 key, .int .u64 load, .int .i64 beg, .int .i64 en, .int .i64 kind] 69 (0, 0))) := by rw [hX]; exact heap_new _ _
      have HI4 := hide i4
      by_cases hen : en = -1
      · have hen1 : (en == -1) = true := by simp [hen]
        rw [hen1] at HPI
        have HKY := hide (HKT.out.2 (.inl hen))
        clear hen hen1
        go_upto_region 8 with (first
          | (go_at_call 96; refine (HPI.out _).mono ?_; rintro e w5 ⟨rfl, hb⟩; rw [← hX] at hb; have HBB := hide (below_on HBX.out hb); have y4 := (below_cell HBB.out hgs).trans HI4.out; clear hb i0 i1 i2 i3 i4 i5 i6)
          | fail)
        clear hX HBX HQX HPI HI4
        go_wp2_with fail
        exact ⟨⟨i + 1, by omega, rfl, by rw [HLT.out], by simp, below_on HB.out HBB.out, fun k hk => by
          by_cases e : k = i
          · rw [e]; exact HKY.out
          · exact HAL.out k (by omega)⟩, by simp [RowKit.intOf]; omega⟩
      · have hen1 : (en == -1) = false := by simp [hen]
        rw [hen1] at HPI
        have HEN := hide hen
        clear hen hen1
        by_cases hle : en < la
        · have HNO : Hid (¬ ∀ k, k < o.length → ktP l o k) := fun q => by
            rcases HKT.out.1 (q i (by rw [← HM.out]; exact hlt)) with e | e
            · exact HEN.out e
            · omega
          go_wp2_with (first
            | (go_at_call 96; refine (HPI.out _).mono ?_; rintro e w5 ⟨rfl, hb⟩; rw [← hX] at hb; have HBB := hide (below_on HBX.out hb); have z5 := cell_of ((hb.block _ (lt_of_heap HQX.out)).trans HQX.out) (i := 5) rfl; clear hb i0 i1 i2 i3 i4 i5 i6)
            | fail)
          go_ret
          exact ⟨below_on HB.out HBB.out, false, rfl, fun q => (by cases q), fun q => (HNO.out q).elim⟩
        · have HKY := hide (HKT.out.2 (.inr (by omega)))
          go_upto_region 8 with (first
            | (go_at_call 96; refine (HPI.out _).mono ?_; rintro e w5 ⟨rfl, hb⟩; rw [← hX] at hb; have HBB := hide (below_on HBX.out hb); have y4 := (below_cell HBB.out hgs).trans HI4.out; have z5 := cell_of ((hb.block _ (lt_of_heap HQX.out)).trans HQX.out) (i := 5) rfl; clear hb i0 i1 i2 i3 i4 i5 i6)
            | fail)
          clear hX HBX HQX HPI HI4
          go_wp2_with fail
          exact ⟨⟨i + 1, by omega, rfl, by rw [HLT.out], by simp, below_on HB.out HBB.out, fun k hk => by
            by_cases e : k = i
            · rw [e]; exact HKY.out
            · exact HAL.out k (by omega)⟩, by simp [RowKit.intOf]; omega⟩
    · obtain rfl : m = i := by omega
      go_wp2_with fail
      go_ret
      exact ⟨HB.out, true, rfl, fun _ => by rw [← HM.out]; exact HAL.out, fun _ => rfl⟩
end Go.Proofs.Ytfoeljcgbfpknaa
