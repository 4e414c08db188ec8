/- The document's look at spans: are they a history's? -/
import Derived.Test.YtfoeljcgbfpknaaH1
import Derived.Deep.OwnRows
import Derived.BigQuiet
namespace Go.Proofs.Ytfoeljcgbfpknaa
open Go.RowKit Go.Lib
set_option linter.unusedVariables false
set_option linter.unusedSimpArgs false
/-- A row of bools in a block. -/
def UB (w : World) (g m : Nat) (f : Nat → Bool) : Prop := w.heap[g]? = some (.cells ((List.range m).map (fun t => Value.bool (f t))).toArray 4 (0, 0))
theorem UB.cell {w : World} {g m : Nat} {f : Nat → Bool} (h : UB w g m f) {t : Nat} (ht : t < m) : w.cell? ⟨g, t, none⟩ = some (.bool (f t)) := cell_of h (by simp [ht])
theorem UB.free {w : World} {g m : Nat} {f : Nat → Bool} (h : UB w g m f) (t : Nat) : w.frozen? ⟨g, t, none⟩ = false := free_of h t
theorem UB.below {w w' : World} {g m : Nat} {f : Nat → Bool} (h : UB w g m f) (hb : Below w.heap.size w w') : UB w' g m f := (hb.block g (by
  have := h
  unfold UB at this
  by_cases q : g < w.heap.size
  · exact q
  · rw [Array.getElem?_eq_none (by omega)] at this; cases this)).trans h
theorem UB.lt {w : World} {g m : Nat} {f : Nat → Bool} (h : UB w g m f) : g < w.heap.size := by
  unfold UB at h
  by_cases q : g < w.heap.size
  · exact q
  · rw [Array.getElem?_eq_none (by omega)] at h; cases h
theorem UB.put {w : World} {g m : Nat} {f : Nat → Bool} (h : UB w g m f) (t : Nat) : UB (w.setCell ⟨g, t, none⟩ (.bool true)) g m (fun u => if u = t then true else f u) := by
  unfold UB
  rw [heap_set h]
  congr 2
  apply Array.ext'
  simp only [Array.toList_setIfInBounds]
  apply List.ext_getElem?
  intro i
  rw [List.getElem?_set]
  by_cases hi : i < m
  · by_cases e : t = i
    · subst e; simp [hi]
    · have e2 : ¬ i = t := fun q => e q.symm
      simp [hi, e, e2]
  · simp [hi]; omega
theorem made_bool (m : Nat) : madeCells #[.bool false] m = ((List.range m).map (fun t => Value.bool ((fun _ => false) t))).toArray := by
  apply Array.ext'
  simp only [madeCells]
  apply List.ext_getElem?
  intro i
  by_cases hi : i < m
  · simp [hi, Nat.mod_one]
  · simp [hi]
theorem UB.ext {w : World} {g m : Nat} {f f' : Nat → Bool} (h : UB w g m f) (he : ∀ t, t < m → f t = f' t) : UB w g m f' := by
  unfold UB at *
  rw [h]
  congr 3
  apply List.map_congr_left
  intro t ht
  rw [he t (by simpa using ht)]
/-- While the spans are looked at. -/
structure HM (w wr : World) (g m : Nat) (f : Nat → Bool) : Prop where
  bel : Below w.heap.size w wr
  ub : UB wr g m f
  ge : w.heap.size ≤ g
theorem HM.on {w wr w' : World} {g m : Nat} {f : Nat → Bool} (h : HM w wr g m f) (hb : Below wr.heap.size wr w') : HM w w' g m f := ⟨below_on h.bel hb, h.ub.below hb, h.ge⟩
theorem HM.put {w wr : World} {g m : Nat} {f : Nat → Bool} (h : HM w wr g m f) (t : Nat) : HM w (wr.setCell ⟨g, t, none⟩ (.bool true)) g m (fun u => if u = t then true else f u) := ⟨h.bel.setCell (p := ⟨g, t, none⟩) h.ge _, h.ub.put t, h.ge⟩
/-- Is the moment one of the first i spans'? -/
def usd (l : List Sp) (i t : Nat) : Bool := decide (∃ k, k < i ∧ ((t : Int) = (spAt l k).beg ∨ ((spAt l k).en ≠ -1 ∧ (t : Int) = (spAt l k).en)))
/-- The begin of the span ahead. -/
def lst (l : List Sp) : Nat → Int
  | 0 => -1
  | i + 1 => (spAt l i).beg
theorem lst_inc {m : Nat} {l : List Sp} {i : Nat} (h : ∀ k, k < i → HsAt m l k) {b : Int} (hb : lst l i < b) : 0 ≤ b ∧ ∀ k, k < i → (spAt l k).beg < b := by
  cases i with
  | zero => exact ⟨by simp [lst] at hb; omega, fun k hk => by omega⟩
  | succ i =>
    simp only [lst] at hb
    have h0 := (h i (by omega)).b0
    refine ⟨by omega, fun k hk => ?_⟩
    by_cases e : k = i
    · subst e; exact hb
    · have := (h i (by omega)).inc k (by omega); omega
theorem inc_lst {m : Nat} {l : List Sp} {i : Nat} (h : HsAt m l i) : lst l i < (spAt l i).beg := by
  cases i with
  | zero => simp [lst]; have := h.b0; omega
  | succ i => exact h.inc i (by omega)
theorem usd_succ (l : List Sp) (i t : Nat) (h0 : 0 ≤ (spAt l i).beg) : usd l (i + 1) t = (if (spAt l i).en = -1 then (if t = (spAt l i).beg.toNat then true else usd l i t) else (if t = (spAt l i).en.toNat ∧ 0 ≤ (spAt l i).en then true else if t = (spAt l i).beg.toNat then true else usd l i t)) := by
  have key : usd l (i + 1) t = (decide ((t : Int) = (spAt l i).beg ∨ ((spAt l i).en ≠ -1 ∧ (t : Int) = (spAt l i).en)) || usd l i t) := by
    unfold usd
    rw [Bool.eq_iff_iff]
    simp only [decide_eq_true_eq, Bool.or_eq_true]
    constructor
    · rintro ⟨k, hk, r⟩
      by_cases e : k = i
      · subst e; exact .inl r
      · exact .inr ⟨k, by omega, r⟩
    · rintro (r | ⟨k, hk, r⟩)
      · exact ⟨i, by omega, r⟩
      · exact ⟨k, by omega, r⟩
  rw [key]
  split
  · rename_i q
    split
    · rename_i e; rw [decide_eq_true (.inl (by omega))]; rfl
    · rename_i e; rw [decide_eq_false (by rintro (r | ⟨r, _⟩) <;> omega)]; rfl
  · rename_i q
    split
    · rename_i e; rw [decide_eq_true (.inr ⟨q, by omega⟩)]; rfl
    · rename_i e
      split
      · rename_i e2; rw [decide_eq_true (.inl (by omega))]; rfl
      · rename_i e2; rw [decide_eq_false (by rintro (r | ⟨_, r⟩) <;> omega)]; rfl
/-- All that is asked of the span i, in the order in which it is asked. -/
theorem hs_of {m : Nat} {l : List Sp} {i : Nat} (h : ∀ k, k < i → HsAt m l k) (t1 : 0 ≤ (spAt l i).who) (t2 : lst l i < (spAt l i).beg) (t3 : (spAt l i).beg < (m : Int)) (t4 : usd l i (spAt l i).beg.toNat = false) (t5 : kfit (spAt l i) = true)
    (t6 : (spAt l i).en ≠ -1 → (spAt l i).beg < (spAt l i).en ∧ (spAt l i).en < (m : Int) ∧ usd l i (spAt l i).en.toNat = false) (t7 : ∀ k, k < i → (spAt l k).who = (spAt l i).who → (spAt l k).en ≠ -1 ∧ (spAt l k).en < (spAt l i).beg) : HsAt m l i := by
  obtain ⟨b0, inc⟩ := lst_inc h t2
  have u4 : ∀ k, k < i → ¬ (((spAt l i).beg.toNat : Int) = (spAt l k).beg ∨ ((spAt l k).en ≠ -1 ∧ ((spAt l i).beg.toNat : Int) = (spAt l k).en)) := fun k hk r => by
    have := of_decide_eq_false t4
    exact this ⟨k, hk, r⟩
  refine ⟨t1, b0, t3, inc, fun k hk r => u4 k hk (.inr ⟨by omega, by omega⟩), t5, fun q => ?_, t7⟩
  obtain ⟨q1, q2, q3⟩ := t6 q
  refine ⟨q1, q2, fun k hk => ?_⟩
  have := of_decide_eq_false q3
  exact ⟨fun r => this ⟨k, hk, .inl (by omega)⟩, fun r => this ⟨k, hk, .inr ⟨by omega, by omega⟩⟩⟩
theorem hs_to {m : Nat} {l : List Sp} {i : Nat} (h : HsAt m l i) : usd l i (spAt l i).beg.toNat = false ∧ ((spAt l i).en ≠ -1 → usd l i (spAt l i).en.toNat = false) := by
  have b0 := h.b0
  constructor
  · refine decide_eq_false ?_
    rintro ⟨k, hk, r | ⟨r1, r2⟩⟩
    · have := h.inc k hk; omega
    · exact h.nb k hk (by omega)
  · intro q
    obtain ⟨q1, q2, q3⟩ := h.en q
    refine decide_eq_false ?_
    rintro ⟨k, hk, r | ⟨r1, r2⟩⟩
    · exact (q3 k hk).1 (by omega)
    · exact (q3 k hk).2 (by omega)
/-- What history answers. -/
def HiP (m n : Nat) (l : List Sp) (w : World) (x : Ending) (w' : World) : Prop := Below w.heap.size w w' ∧ ∃ b : Bool, x = .returned (.bool b) ∧ (b = true ↔ ∀ k, k < n → HsAt m l k)
theorem HiP.made {m n : Nat} {l : List Sp} {w w' : World} {x : Ending} {b : Bool} (h1 : Below w.heap.size w w') (h2 : x = .returned (.bool b)) (h3 : b = true ↔ ∀ k, k < n → HsAt m l k) : HiP m n l w x w' := ⟨h1, b, h2, h3⟩
theorem Try.info4 : (Try.prog.info? 4).map (fun i => (i.zero, i.size, i.bytes)) = some (some (.bool false), 1, 1) := by kernel_rfl
set_option maxRecDepth 100000 in
set_option maxHeartbeats 4000000 in
theorem history_any (v : Value) (l : List Sp) (w : World) (h : RAt Sp.arr 7 w v l) (hl : l.length * 56 ≤ 140737488351232) : Calls Try.prog 54 #[v] w (HiP (momD l l.length) l.length l w) := by
  obtain ⟨ii, hi0⟩ := Option.isSome_iff_exists.1 (show (Try.prog.info? 4).isSome = true by kernel_rfl)
  have hq := Try.info4
  rw [hi0] at hq
  simp only [Option.map_some, Option.some.injEq, Prod.mk.injEq] at hq
  obtain ⟨hz0, hz1, hz2⟩ := hq
  obtain ⟨ao, cap, rfl, hcap, h63⟩ := h.shape
  have H := hide h
  have HMo := hide (momR_any _ l w h (by omega))
  have hmp := momD_le l l.length
  obtain ⟨m, hm⟩ : ∃ m, m = momD l l.length := ⟨_, rfl⟩
  rw [← hm] at HMo hmp ⊢
  have hml : m ≤ 5026338869834 := by omega
  obtain ⟨n, hn⟩ : ∃ n, n = l.length := ⟨_, rfl⟩
  have HN := hide hn
  rw [← hn] at hcap H hl HMo ⊢
  clear h hn hm hmp
  go_enter Try.func54, Try.ntmps54
  go_wp2_with fail
  refine HMo.out.mono ?_
  rintro e w1 ⟨rfl, hw1⟩
  subst hw1
  clear HMo
  go_wp2_with (at_make; refine wpList_make_row _ rfl _ _ 83 rfl 4 ii (.bool false) Try.underlying83 hi0 hz0 hz1 rfl _ _ m rfl rfl (by rw [hz2]; omega) (by omega) ?_)
  have HE : Hid (HM w1 (w1.alloc (.cells (madeCells #[.bool false] m) 4)) w1.heap.size m (usd l 0)) := ⟨below_alloc (Below.refl _ _) _, by (unfold UB; rw [made_bool]; exact (heap_new _ _).trans (by simp [usd])), Nat.le_refl _⟩
  generalize (w1.alloc (.cells (madeCells #[.bool false] m) 4)) = w2 at HE ⊢
  generalize hg0 : w1.heap.size = g at HE ⊢
  have HG0 := hide hg0
  clear hg0
  go_loopw [2, 5, 6, 7, 8] (fun va t5 t6 _ _ wr => ∃ i : Nat, i ≤ n ∧ va = .bool false ∧ t5 = .int .i64 (lst l i) ∧ t6 = .int .i64 (i : Int) ∧ HM w1 wr g m (usd l i) ∧ ∀ k, k < i → HsAt m l k) (fun _ _ t _ _ _ => n - (RowKit.intOf t).toNat)
  case atStart => exact ⟨0, Nat.zero_le _, rfl, rfl, rfl, HE.out, fun k hk => by omega⟩
  case round =>
    clear HE
    obtain ⟨i, hin, rfl, rfl, rfl, hev, hft⟩ := hrel
    have HE := hide hev; have HF := hide hft
    clear hev hft
    by_cases hlt : i < n
    · have hli : (i : Int) < (n : Int) := by omega
      obtain ⟨gs, os, rfl, hgs, p0, p1, p2, p3, p4, p5, p6⟩ := sp_cells (H.out.below HE.out.bel) i (by rw [← HN.out]; exact hlt)
      have HNO : Hid (¬ HsAt m l i → (false = true ↔ ∀ k, k < n → HsAt m l k)) := fun q => ⟨fun a => (by cases a), fun a => (q (a i hlt)).elim⟩
      have HTO : Hid (HsAt m l i → 0 ≤ (spAt l i).who ∧ lst l i < (spAt l i).beg ∧ (spAt l i).beg < (m : Int) ∧ usd l i (spAt l i).beg.toNat = false ∧ kfit (spAt l i) = true ∧ ((spAt l i).en ≠ -1 → (spAt l i).beg < (spAt l i).en ∧ (spAt l i).en < (m : Int) ∧ usd l i (spAt l i).en.toNat = false) ∧ ∀ k, k < i → (spAt l k).who = (spAt l i).who → (spAt l k).en ≠ -1 ∧ (spAt l k).en < (spAt l i).beg) := fun q => ⟨q.w0, inc_lst q, q.bm, (hs_to q).1, q.kf, fun r => ⟨(q.en r).1, (q.en r).2.1, (hs_to q).2 r⟩, q.wh⟩
      have HOF : Hid (0 ≤ (spAt l i).who → lst l i < (spAt l i).beg → (spAt l i).beg < (m : Int) → usd l i (spAt l i).beg.toNat = false → kfit (spAt l i) = true → ((spAt l i).en ≠ -1 → (spAt l i).beg < (spAt l i).en ∧ (spAt l i).en < (m : Int) ∧ usd l i (spAt l i).en.toNat = false) → (∀ k, k < i → (spAt l k).who = (spAt l i).who → (spAt l k).en ≠ -1 ∧ (spAt l k).en < (spAt l i).beg) → ∀ k, k < i + 1 → HsAt m l k) := fun a1 a2 a3 a4 a5 a6 a7 k hk => by
        by_cases e : k = i
        · subst e; exact hs_of HF.out a1 a2 a3 a4 a5 a6 a7
        · exact HF.out k (by omega)
      have HLS : Hid (lst l (i + 1) = (spAt l i).beg) := rfl
      have HLB : Hid (lst l i < (spAt l i).beg → 0 ≤ (spAt l i).beg) := fun q => (lst_inc HF.out q).1
      have HUS : Hid (0 ≤ (spAt l i).beg → ∀ t, usd l (i + 1) t = (if (spAt l i).en = -1 then (if t = (spAt l i).beg.toNat then true else usd l i t) else (if t = (spAt l i).en.toNat ∧ 0 ≤ (spAt l i).en then true else if t = (spAt l i).beg.toNat then true else usd l i t))) := fun q t => usd_succ l i t q
      have HKF := hide (fun W => kindFits_any (spAt l i) W)
      generalize spAt l i = s at p0 p1 p2 p3 p4 p5 p6 HTO HOF HLS HLB HUS HKF
      obtain ⟨who, ins, key, load, beg, en, kind⟩ := s
      simp only at HTO HOF HLS HLB HUS p0 p1 p2 p3 p4 p5 p6
      unfold Sp.arr at HKF
      simp only at HKF
      have HA : Hid (HM w1 (wr.alloc (.cells #[.int .i64 who, .bool ins, .int .u64 key, .int .u64 load, .int .i64 beg, .int .i64 en, .int .i64 kind] 69)) g m (usd l i)) := HE.out.on (below_alloc (Below.refl _ _) _)
      have HBX : Hid ((wr.alloc (.cells #[.int .i64 who, .bool ins, .int .u64 key, .int .u64 load, .int .i64 beg, .int .i64 en, .int .i64 kind] 69)).heap[wr.heap.size]? = some (.cells #[.int .i64 who, .bool ins, .int .u64 key, .int .u64 load, .int .i64 beg, .int .i64 en, .int .i64 kind] 69 (0, 0))) := heap_new _ _
      obtain ⟨la, hla⟩ : ∃ la, la = lst l i := ⟨_, rfl⟩
      rw [← hla] at HTO HOF HLB ⊢
      clear hla
      by_cases c1 : who < 0
      · have HR := hide (HNO.out (fun q => by have := (HTO.out q).1; omega))
        go_wp2_with fail
        go_ret
        exact HiP.made HA.out.bel rfl HR.out
      · by_cases c2 : beg ≤ la
        · have HR := hide (HNO.out (fun q => by have := (HTO.out q).2.1; omega))
          go_wp2_with fail
          go_ret
          exact HiP.made HA.out.bel rfl HR.out
        · by_cases c3 : (m : Int) ≤ beg
          · have HR := hide (HNO.out (fun q => by have := (HTO.out q).2.2.1; omega))
            go_wp2_with fail
            go_ret
            exact HiP.made HA.out.bel rfl HR.out
          · have hb0 := HLB.out (by omega)
            obtain ⟨b, rfl⟩ : ∃ b : Nat, beg = (b : Int) := ⟨beg.toNat, by omega⟩
            have hbl : (b : Int) < (m : Int) := by omega
            have hbl2 : b < m := by omega
            simp only [Int.toNat_natCast] at HTO HOF HUS
            clear hb0
            have q4 := HA.out.ub.cell hbl2
            cases c4 : usd l i b with
            | true =>
              rw [c4] at q4
              have HR := hide (HNO.out (fun q => by have := (HTO.out q).2.2.2.1; rw [c4] at this; cases this))
              go_wp2_with fail
              go_ret
              exact HiP.made HA.out.bel rfl HR.out
            | false =>
              rw [c4] at q4
              cases c5 : kfit ⟨who, ins, key, load, (b : Int), en, kind⟩ with
              | false =>
                rw [c5] at HKF
                have HR := hide (HNO.out (fun q => by have := (HTO.out q).2.2.2.2.1; rw [c5] at this; cases this))
                go_wp2_with fail
                refine (HKF.out _).mono ?_
                rintro e w5 ⟨rfl, hb⟩
                have HP := hide (HA.out.on hb)
                clear hb
                go_wp2_with fail
                go_ret
                exact HiP.made HP.out.bel rfl HR.out
              | true =>
                rw [c5] at HKF
                have HOF2 := hide (HOF.out (by omega) (by omega) hbl c4 c5)
                clear HOF c4
                go_wp2_with fail
                refine (HKF.out _).mono ?_
                rintro e w5 ⟨rfl, hb⟩
                have HP := hide (HA.out.on hb)
                have HB5 := hide ((hb.block _ (lt_of_heap HBX.out)).trans HBX.out)
                clear hb q4 p0 p1 p2 p3 p4 p5 p6 HA HBX HKF
                have z0 := cell_of HB5.out (i := 0) rfl; have z4 := cell_of HB5.out (i := 4) rfl; have z5 := cell_of HB5.out (i := 5) rfl
                have q4 := HP.out.ub.cell hbl2
                have f4 := HP.out.ub.free b
                have hne : ¬ g = wr.heap.size := by have := HE.out.ub.lt; omega
                have HP2 := hide (HP.out.put b)
                have HB6 : Hid ((w5.setCell ⟨g, b, none⟩ (.bool true)).heap[wr.heap.size]? = some (.cells #[.int .i64 who, .bool ins, .int .u64 key, .int .u64 load, .int .i64 (b : Int), .int .i64 en, .int .i64 kind] 69 (0, 0))) := by
                  have := HB5.out
                  show (w5.setCell ⟨g, b, none⟩ (.bool true)).heap[wr.heap.size]? = _
                  rw [← this]; simp [World.setCell, Array.getElem?_modify, hne]
                have y5 := cell_of HB6.out (i := 5) rfl; have y4 := cell_of HB6.out (i := 4) rfl
                by_cases c6 : en = -1
                · have e6 : (en != -1) = false := by simp [c6]
                  have HP3 : Hid (HM w1 (w5.setCell ⟨g, b, none⟩ (.bool true)) g m (usd l (i + 1))) := ⟨HP2.out.bel, HP2.out.ub.ext (fun t ht => by rw [HUS.out (by omega) t, if_pos c6]), HP2.out.ge⟩
                  have HOF3 := hide (HOF2.out (fun q => (q c6).elim))
                  clear HP2 HP HUS HOF2 HB5 c6
                  have HV0 := hide (HB6.out)
                  go_wp2_with fail
                  generalize hV : (w5.setCell ⟨g, b, none⟩ (.bool true)) = V at HP3 HV0 ⊢
                  clear hV
                  (try clear c7); (try clear c8); (try clear hcl); (try clear hcl2); (try clear hcb); (try clear q8); (try clear f8); clear y4 y5 q4 f4 z0 z4 z5 e6
                  go_loopw [2, 8] (fun va t wx => ∃ k : Nat, k ≤ i ∧ va = .bool false ∧ t = .int .i64 (k : Int) ∧ Below V.heap.size V wx ∧ ∀ j, j < k → (spAt l j).who = who → (spAt l j).en ≠ -1 ∧ (spAt l j).en < (b : Int)) (fun _ t _ => i - (RowKit.intOf t).toNat)
                  case atStart => exact ⟨0, Nat.zero_le _, rfl, rfl, Below.refl _ _, fun j hj => by omega⟩
                  case round =>
                    obtain ⟨k, hki, rfl, rfl, hbq, hwh⟩ := hrel
                    have HWH := hide hwh
                    clear hwh
                    have HVQ := hide (HP3.out.on hbq)
                    have HBQ := hide ((hbq.block _ (lt_of_heap HV0.out)).trans HV0.out)
                    have HQQ := hide hbq
                    clear hbq
                    by_cases hkl : k < i
                    · have hkli : (k : Int) < (i : Int) := by omega
                      have hkn : (k : Int) < (n : Int) := by omega
                      obtain ⟨gs', os', hgo, _, r0, _, _, _, _, r5, _⟩ := sp_cells (H.out.below HVQ.out.bel) k (by rw [← HN.out]; omega)
                      simp only [Option.some.injEq, Addr.mk.injEq, and_true] at hgo
                      obtain ⟨rfl, rfl⟩ := hgo
                      have z0 := cell_of HBQ.out (i := 0) rfl; have z4 := cell_of HBQ.out (i := 4) rfl
                      have HST : Hid (((spAt l k).who = who → (spAt l k).en ≠ -1 ∧ (spAt l k).en < (b : Int)) → ∀ j, j < k + 1 → (spAt l j).who = who → (spAt l j).en ≠ -1 ∧ (spAt l j).en < (b : Int)) := fun a j hj => by
                        by_cases e : j = k
                        · subst e; exact a
                        · exact HWH.out j (by omega)
                      have HBD : Hid ((spAt l k).who = who → ¬ ((spAt l k).en ≠ -1 ∧ (spAt l k).en < (b : Int)) → ¬ HsAt m l i) := fun a1 a2 a3 => a2 ((HTO.out a3).2.2.2.2.2.2 k hkl a1)
                      generalize (spAt l k).who = a at r0 HST HBD
                      generalize (spAt l k).en = ek at r5 HST HBD
                      by_cases d1 : a = who
                      · have e1 : (a == who) = true := by simp [d1]
                        by_cases d2 : ek = -1
                        · have e2 : (ek == -1) = true := by simp [d2]
                          have HR := hide (HNO.out (HBD.out d1 (fun q => q.1 d2)))
                          clear HST HBD d1 d2
                          go_wp2_with fail
                          go_quiet (fail)
                          go_wp2_with fail
                          go_ret
                          exact HiP.made (HVQ.out.on (below_drewN _ _)).bel rfl HR.out
                        · have e2 : (ek == -1) = false := by simp [d2]
                          by_cases d3 : (b : Int) ≤ ek
                          · have e3 : decide ((b : Int) ≤ ek) = true := decide_eq_true d3
                            have HR := hide (HNO.out (HBD.out d1 (fun q => by have := q.2; omega)))
                            clear HST HBD d1 d2
                            go_wp2_with fail
                            go_quiet (fail)
                            go_wp2_with fail
                            go_ret
                            exact HiP.made (HVQ.out.on (below_drewN _ _)).bel rfl HR.out
                          · have e3 : decide ((b : Int) ≤ ek) = false := decide_eq_false d3
                            have HR := hide (HST.out (fun _ => ⟨d2, by omega⟩))
                            clear HST HBD d1 d2 d3
                            go_wp2_with fail
                            go_quiet (fail)
                            go_wp2_with fail
                            exact ⟨⟨k + 1, by omega, rfl, by simp, below_on HQQ.out (below_drewN _ _), HR.out⟩, mdecH hkl⟩
                      · have e1 : (a == who) = false := by simp [d1]
                        have HR := hide (HST.out (fun q => (d1 q).elim))
                        clear HST HBD d1
                        go_wp2_with fail
                        go_quiet (fail)
                        go_wp2_with fail
                        exact ⟨⟨k + 1, by omega, rfl, by simp, below_on HQQ.out (below_drewN _ _), HR.out⟩, mdecH hkl⟩
                    · obtain rfl : k = i := by omega
                      have hkli : ¬ (k : Int) < (k : Int) := by omega
                      have HR := hide (HOF3.out HWH.out)
                      go_wp2_with fail
                      exact ⟨⟨k + 1, by omega, rfl, by rw [HLS.out], by simp, HVQ.out, HR.out⟩, mdecH hlt⟩
                · have e6 : (en != -1) = true := by simp [c6]
                  by_cases c7 : en ≤ (b : Int)
                  · have HR := hide (HNO.out (fun q => by have := ((HTO.out q).2.2.2.2.2.1 c6).1; omega))
                    go_wp2_with fail
                    go_ret
                    exact HiP.made HP2.out.bel rfl HR.out
                  · by_cases c8 : (m : Int) ≤ en
                    · have HR := hide (HNO.out (fun q => by have := ((HTO.out q).2.2.2.2.2.1 c6).2.1; omega))
                      go_wp2_with fail
                      go_ret
                      exact HiP.made HP2.out.bel rfl HR.out
                    · obtain ⟨c, rfl⟩ : ∃ c : Nat, en = (c : Int) := ⟨en.toNat, by omega⟩
                      have hcl : (c : Int) < (m : Int) := by omega
                      have hcl2 : c < m := by omega
                      have hcb : ¬ c = b := by omega
                      simp only [Int.toNat_natCast] at HTO HOF2 HUS
                      have q8 := HP2.out.ub.cell hcl2
                      simp only [if_neg hcb] at q8
                      have f8 := HP2.out.ub.free c
                      cases c9 : usd l i c with
                      | true =>
                        rw [c9] at q8
                        have HR := hide (HNO.out (fun q => by have := ((HTO.out q).2.2.2.2.2.1 c6).2.2; rw [c9] at this; cases this))
                        go_wp2_with fail
                        go_ret
                        exact HiP.made HP2.out.bel rfl HR.out
                      | false =>
                        rw [c9] at q8
                        have HP3 : Hid (HM w1 ((w5.setCell ⟨g, b, none⟩ (.bool true)).setCell ⟨g, c, none⟩ (.bool true)) g m (usd l (i + 1))) := ⟨(HP2.out.put c).bel, (HP2.out.put c).ub.ext (fun t ht => by rw [HUS.out (by omega) t, if_neg c6]; by_cases q : t = c <;> simp [q]), HP2.out.ge⟩
                        have HOF3 := hide (HOF2.out (fun q => ⟨by omega, hcl, c9⟩))
                        have HB7 : Hid (((w5.setCell ⟨g, b, none⟩ (.bool true)).setCell ⟨g, c, none⟩ (.bool true)).heap[wr.heap.size]? = some (.cells #[.int .i64 who, .bool ins, .int .u64 key, .int .u64 load, .int .i64 (b : Int), .int .i64 (c : Int), .int .i64 kind] 69 (0, 0))) := by
                          have := HB6.out
                          show ((w5.setCell ⟨g, b, none⟩ (.bool true)).setCell ⟨g, c, none⟩ (.bool true)).heap[wr.heap.size]? = _
                          rw [← this]; simp [World.setCell, Array.getElem?_modify, hne]
                        clear HP2 HP HUS HOF2 HB5 c6
                        have HV0 := hide (HB7.out)
                        go_wp2_with fail
                        generalize hV : ((w5.setCell ⟨g, b, none⟩ (.bool true)).setCell ⟨g, c, none⟩ (.bool true)) = V at HP3 HV0 ⊢
                        clear hV
                        (try clear c7); (try clear c8); (try clear hcl); (try clear hcl2); (try clear hcb); (try clear q8); (try clear f8); clear y4 y5 q4 f4 z0 z4 z5 e6
                        go_loopw [2, 8] (fun va t wx => ∃ k : Nat, k ≤ i ∧ va = .bool false ∧ t = .int .i64 (k : Int) ∧ Below V.heap.size V wx ∧ ∀ j, j < k → (spAt l j).who = who → (spAt l j).en ≠ -1 ∧ (spAt l j).en < (b : Int)) (fun _ t _ => i - (RowKit.intOf t).toNat)
                        case atStart => exact ⟨0, Nat.zero_le _, rfl, rfl, Below.refl _ _, fun j hj => by omega⟩
                        case round =>
                          obtain ⟨k, hki, rfl, rfl, hbq, hwh⟩ := hrel
                          have HWH := hide hwh
                          clear hwh
                          have HVQ := hide (HP3.out.on hbq)
                          have HBQ := hide ((hbq.block _ (lt_of_heap HV0.out)).trans HV0.out)
                          have HQQ := hide hbq
                          clear hbq
                          by_cases hkl : k < i
                          · have hkli : (k : Int) < (i : Int) := by omega
                            have hkn : (k : Int) < (n : Int) := by omega
                            obtain ⟨gs', os', hgo, _, r0, _, _, _, _, r5, _⟩ := sp_cells (H.out.below HVQ.out.bel) k (by rw [← HN.out]; omega)
                            simp only [Option.some.injEq, Addr.mk.injEq, and_true] at hgo
                            obtain ⟨rfl, rfl⟩ := hgo
                            have z0 := cell_of HBQ.out (i := 0) rfl; have z4 := cell_of HBQ.out (i := 4) rfl
                            have HST : Hid (((spAt l k).who = who → (spAt l k).en ≠ -1 ∧ (spAt l k).en < (b : Int)) → ∀ j, j < k + 1 → (spAt l j).who = who → (spAt l j).en ≠ -1 ∧ (spAt l j).en < (b : Int)) := fun a j hj => by
                              by_cases e : j = k
                              · subst e; exact a
                              · exact HWH.out j (by omega)
                            have HBD : Hid ((spAt l k).who = who → ¬ ((spAt l k).en ≠ -1 ∧ (spAt l k).en < (b : Int)) → ¬ HsAt m l i) := fun a1 a2 a3 => a2 ((HTO.out a3).2.2.2.2.2.2 k hkl a1)
                            generalize (spAt l k).who = a at r0 HST HBD
                            generalize (spAt l k).en = ek at r5 HST HBD
                            by_cases d1 : a = who
                            · have e1 : (a == who) = true := by simp [d1]
                              by_cases d2 : ek = -1
                              · have e2 : (ek == -1) = true := by simp [d2]
                                have HR := hide (HNO.out (HBD.out d1 (fun q => q.1 d2)))
                                clear HST HBD d1 d2
                                go_wp2_with fail
                                go_quiet (fail)
                                go_wp2_with fail
                                go_ret
                                exact HiP.made (HVQ.out.on (below_drewN _ _)).bel rfl HR.out
                              · have e2 : (ek == -1) = false := by simp [d2]
                                by_cases d3 : (b : Int) ≤ ek
                                · have e3 : decide ((b : Int) ≤ ek) = true := decide_eq_true d3
                                  have HR := hide (HNO.out (HBD.out d1 (fun q => by have := q.2; omega)))
                                  clear HST HBD d1 d2
                                  go_wp2_with fail
                                  go_quiet (fail)
                                  go_wp2_with fail
                                  go_ret
                                  exact HiP.made (HVQ.out.on (below_drewN _ _)).bel rfl HR.out
                                · have e3 : decide ((b : Int) ≤ ek) = false := decide_eq_false d3
                                  have HR := hide (HST.out (fun _ => ⟨d2, by omega⟩))
                                  clear HST HBD d1 d2 d3
                                  go_wp2_with fail
                                  go_quiet (fail)
                                  go_wp2_with fail
                                  exact ⟨⟨k + 1, by omega, rfl, by simp, below_on HQQ.out (below_drewN _ _), HR.out⟩, mdecH hkl⟩
                            · have e1 : (a == who) = false := by simp [d1]
                              have HR := hide (HST.out (fun q => (d1 q).elim))
                              clear HST HBD d1
                              go_wp2_with fail
                              go_quiet (fail)
                              go_wp2_with fail
                              exact ⟨⟨k + 1, by omega, rfl, by simp, below_on HQQ.out (below_drewN _ _), HR.out⟩, mdecH hkl⟩
                          · obtain rfl : k = i := by omega
                            have hkli : ¬ (k : Int) < (k : Int) := by omega
                            have HR := hide (HOF3.out HWH.out)
                            go_wp2_with fail
                            exact ⟨⟨k + 1, by omega, rfl, by rw [HLS.out], by simp, HVQ.out, HR.out⟩, mdecH hlt⟩
    · obtain rfl : i = n := by omega
      have hli : ¬ (i : Int) < (i : Int) := by omega
      go_wp2_with fail
      go_ret
      exact HiP.made (b := true) HE.out.bel rfl ⟨fun _ => HF.out, fun _ => rfl⟩
end Go.Proofs.Ytfoeljcgbfpknaa
