/- Both Checks. -/
import Derived.Test.YtdjkidgkeekenaaTR
namespace Go.Proofs.Ytdjkidgkeekenaa
open Go.RowKit Go.Lib
set_option linter.unusedVariables false
set_option linter.unusedSimpArgs false
def AnP (p : Prop) (w : World) (x : Ending) (w' : World) : Prop := Below w.heap.size w w' ∧ ∃ b : Bool, x = .returned (.bool b) ∧ (b = true ↔ p)
theorem AnP.no {p : Prop} {w w' : World} {x : Ending} (hb : Below w.heap.size w w') (hx : x = .returned (.bool false)) (h : ¬ p) : AnP p w x w' := ⟨hb, false, hx, fun e => (by cases e), fun e => (h e).elim⟩
theorem AnP.yes {p : Prop} {w w' : World} {x : Ending} (hb : Below w.heap.size w w') (hx : x = .returned (.bool true)) (h : p) : AnP p w x w' := ⟨hb, true, hx, fun _ => h, fun _ => rfl⟩
def inN (n : Nat) (x : Int) : Prop := 0 ≤ x ∧ x < (n : Int)
set_option maxRecDepth 100000 in
set_option maxHeartbeats 2000000 in
theorem isNode_any (so bo : Option Addr) (n sc m bc : Nat) (b x : Int) (w : World) : Calls Try.prog 29 #[.agg #[.slice so n sc, .slice bo m bc, .int .i64 b], .int .i64 x] w (AnP (inN n x) w) := by
  have HA : Hid (Below w.heap.size w (w.alloc (.cells #[.slice so n sc, .slice bo m bc, .int .i64 b] 25))) := below_alloc (Below.refl _ _) _
  by_cases h0 : 0 ≤ x
  · by_cases h1 : x < (n : Int)
    · have HY : Hid (inN n x) := ⟨h0, h1⟩
      go_enter Try.func29, Try.ntmps29
      go_wp2_with fail
      go_ret
      exact AnP.yes HA.out rfl HY.out
    · have HN : Hid (¬ inN n x) := fun q => h1 q.2
      go_enter Try.func29, Try.ntmps29
      go_wp2_with fail
      go_ret
      exact AnP.no HA.out rfl HN.out
  · have HN : Hid (¬ inN n x) := fun q => h0 q.1
    have hd : decide (0 ≤ x) = false := by simp; omega
    go_enter Try.func29, Try.ntmps29
    go_wp2_with fail
    go_ret
    exact AnP.no HA.out rfl HN.out
set_option maxRecDepth 100000 in
set_option maxHeartbeats 2000000 in
theorem areNodes_any (so bo : Option Addr) (n sc m bc : Nat) (b : Int) (u : Value) (l : List Int) (w : World) (h : RowAt .i64 w u l) (hl : l.length ≤ 17592186043904) : Calls Try.prog 43 #[.agg #[.slice so n sc, .slice bo m bc, .int .i64 b], u] w (AnP (okN n l) w) := by
  have HC := hide (fun x W => isNode_any so bo n sc m bc b x W)
  have H := hide h
  obtain ⟨ao, ac, rfl⟩ := h.shape
  obtain ⟨k, hk⟩ : ∃ k, k = l.length := ⟨_, rfl⟩
  have HK := hide hk
  rw [← hk] at H hl ⊢
  clear h hk
  obtain ⟨X, hX⟩ : ∃ X, X = w.alloc (.cells #[.slice so n sc, .slice bo m bc, .int .i64 b] 25) := ⟨_, rfl⟩
  have HBX : Hid (Below w.heap.size w X) := by rw [hX]; exact below_alloc (Below.refl _ _) _
  have HQX : Hid (X.heap[w.heap.size]? = some (.cells #[.slice so n sc, .slice bo m bc, .int .i64 b] 25 (0, 0))) := by rw [hX]; exact heap_new _ _
  go_enter Try.func43, Try.ntmps43
  go_wp2_with fail
  rw [← hX]
  clear hX
  go_loopw [4, 9] (fun va t wr => ∃ i : Nat, i ≤ k ∧ va = .bool false ∧ t = .int .i64 (i : Int) ∧ Below X.heap.size X wr ∧ ∀ j, j < i → 0 ≤ at_ l j ∧ at_ l j < (n : Int)) (fun _ t _ => k - (RowKit.intOf t).toNat)
  case atStart => exact ⟨0, Nat.zero_le _, rfl, rfl, Below.refl _ _, fun j hj => by omega⟩
  case round =>
    obtain ⟨i, hin, rfl, rfl, hb, hno⟩ := hrel
    have HB := hide hb; have HNO := hide hno
    have HBW := hide (below_on HBX.out hb)
    have hq := (hb.block _ (lt_of_heap HQX.out)).trans HQX.out
    have z0 := cell_of hq (i := 0) rfl
    have z1 := cell_of hq (i := 1) rfl
    have z2 := cell_of hq (i := 2) rfl
    clear hb hno hq
    by_cases hlt : i < k
    · have hli : (i : Int) < (k : Int) := by omega
      obtain ⟨g1, o1, c1, e1, f0, x1⟩ := (H.out.below HBW.out).cellAt i (by rw [← HK.out]; exact hlt)
      simp only [Value.slice.injEq] at e1
      obtain ⟨rfl, f1, rfl⟩ := e1
      clear f1 f0
      have HNX : Hid ((0 ≤ at_ l i ∧ at_ l i < (n : Int)) → ∀ j, j < i + 1 → 0 ≤ at_ l j ∧ at_ l j < (n : Int)) := fun a j hj => by
        by_cases e : j = i
        · rw [e]; exact a
        · exact HNO.out j (by omega)
      have HNN : Hid (¬ (0 ≤ at_ l i ∧ at_ l i < (n : Int)) → ¬ okN n l) := fun a q => a (q i (by rw [← HK.out]; exact hlt))
      generalize at_ l i = y at x1 HNX HNN
      have HCC := hide (HC.out y wr)
      go_wp2_with fail
      refine HCC.out.mono ?_
      rintro e w2 ⟨hb2, bb, rfl, hbi⟩
      have HB2 := hide (below_on HB.out hb2)
      have HBI := hide hbi
      clear hb2 hbi z0 z1 z2 x1 HCC
      cases bb with
      | true =>
        have HY := hide (HNX.out (HBI.out.1 rfl))
        go_wp2_with fail
        exact ⟨⟨i + 1, by omega, rfl, by simp, HB2.out, HY.out⟩, by simp [RowKit.intOf]; omega⟩
      | false =>
        have HY := hide (HNN.out (fun q => by have := HBI.out.2 q; cases this))
        go_wp2_with fail
        go_ret
        exact AnP.no (below_on HBX.out HB2.out) rfl HY.out
    · obtain rfl : k = i := by omega
      have HY : Hid (okN n l) := fun j hj => HNO.out j (by rw [HK.out]; exact hj)
      go_wp2_with fail
      go_ret
      exact AnP.yes HBW.out rfl HY.out
theorem tot_le {ls : List (List Int)} (hb : ∀ i, (rowL ls i).length ≤ 17592186043904) : ∀ i, tot ls i ≤ i * 17592186043904
  | 0 => Nat.le_refl _
  | i + 1 => by have := tot_le hb i; have := hb i; unfold tot; omega
set_option maxRecDepth 100000 in
set_option maxHeartbeats 4000000 in
theorem check_any (v u : Value) (b : Int) (ls : List (List Int)) (aw : List Int) (w : World) (h : RwsI w v ls) (hu : RowAt .i64 w u aw) (hb : Bnd ls aw) : Calls Try.prog 27 #[.agg #[v, u, .int .i64 b]] w (CkP ls aw b w) := by
  obtain ⟨so, sc, rfl, hsc⟩ := h.shape
  obtain ⟨bo, bc, rfl⟩ := hu.shape
  have HAN := hide (fun t l W (q : RowAt .i64 W t l) (r : l.length ≤ 17592186043904) => areNodes_any so bo ls.length sc aw.length bc b t l W q r)
  have H := hide h
  have HU := hide hu
  have HBD := hide hb
  obtain ⟨n, hn⟩ : ∃ n, n = ls.length := ⟨_, rfl⟩
  have HN := hide hn
  have hnb : n ≤ 5864062014634 := by rw [hn]; exact hb.n
  rw [← hn] at H hsc HAN ⊢
  generalize aw.length = m at HU HAN ⊢
  clear h hu hb hn
  obtain ⟨X, hX⟩ : ∃ X, X = w.alloc (.cells #[.slice so n sc, .slice bo m bc, .int .i64 b] 25) := ⟨_, rfl⟩
  have HBX : Hid (Below w.heap.size w X) := by rw [hX]; exact below_alloc (Below.refl _ _) _
  have HQX : Hid (X.heap[w.heap.size]? = some (.cells #[.slice so n sc, .slice bo m bc, .int .i64 b] 25 (0, 0))) := by rw [hX]; exact heap_new _ _
  by_cases hs0 : (n : Int) < 1
  · have HR : Hid (CkA ls aw b 22) := .inl ⟨.inl (by rw [← HN.out]; omega), rfl⟩
    go_enter Try.func27, Try.ntmps27
    go_wp2_with fail
    rw [← hX]
    go_ret
    exact CkP.made HBX.out rfl HR.out
  · by_cases hs1 : (64 : Int) < (n : Int)
    · have HR : Hid (CkA ls aw b 22) := .inl ⟨.inr (by rw [← HN.out]; omega), rfl⟩
      go_enter Try.func27, Try.ntmps27
      go_wp2_with fail
      rw [← hX]
      go_ret
      exact CkP.made HBX.out rfl HR.out
    · have HSZ : Hid (1 ≤ ls.length ∧ ls.length ≤ 64) := by rw [← HN.out]; exact ⟨by omega, by omega⟩
      have HS0 := hide hs0
      have HS1 := hide hs1
      go_enter Try.func27, Try.ntmps27
      go_wp2_with fail
      rw [← hX]
      clear hX hs0 hs1
      go_loopw [2, 3, 19] (fun va tt t wr => ∃ i : Nat, i ≤ n ∧ va = .int .i64 0 ∧ tt = .int .i64 (tot ls i : Nat) ∧ t = .int .i64 (i : Int) ∧ Below X.heap.size X wr ∧ ∀ j, j < i → okN ls.length (rowL ls j)) (fun _ _ t _ => n - (RowKit.intOf t).toNat)
      case atStart => exact ⟨0, Nat.zero_le _, rfl, rfl, rfl, Below.refl _ _, fun j hj => by omega⟩
      case round =>
        obtain ⟨i, hin, rfl, rfl, rfl, hb, hno⟩ := hrel
        have HB := hide hb; have HNO := hide hno
        have HBW := hide (below_on HBX.out hb)
        have hq := (hb.block _ (lt_of_heap HQX.out)).trans HQX.out
        have z0 := cell_of hq (i := 0) rfl
        have z1 := cell_of hq (i := 1) rfl
        have z2 := cell_of hq (i := 2) rfl
        have htl := tot_le HBD.out.r i
        have hn64 : n ≤ 64 := by have := HSZ.out.2; rw [← HN.out] at this; exact this
        have htb : ((tot ls i : Nat) : Int) ≤ 1125899906849856 := by omega
        clear hb hno hq
        by_cases hlt : i < n
        · have hli : (i : Int) < (n : Int) := by omega
          obtain ⟨g1, o1, io, ic, e1, hg1, x1, hrow⟩ := (H.out.below HBW.out).at i (by rw [← HN.out]; exact hlt)
          subst e1
          have hrb := HBD.out.r i
          have HCC := hide (HAN.out _ _ wr hrow hrb)
          have HNX : Hid (okN n (rowL ls i) → ∀ j, j < i + 1 → okN ls.length (rowL ls j)) := fun a j hj => by
            by_cases e : j = i
            · rw [e, ← HN.out]; exact a
            · exact HNO.out j (by omega)
          have HNN : Hid (¬ okN n (rowL ls i) → CkA ls aw b 30) := fun a => .inr ⟨HSZ.out.1, HSZ.out.2, .inl ⟨⟨i, by rw [← HN.out]; exact hlt, by rw [← HN.out]; exact a⟩, rfl⟩⟩
          have HTT : Hid (tot ls (i + 1) = tot ls i + (rowL ls i).length) := rfl
          generalize hrl : (rowL ls i).length = rl at x1 HCC HTT hrb
          generalize tot ls i = tt at HTT htb htl ⊢
          clear hrl hrow
          have hrbi : (rl : Int) ≤ 17592186043904 := by omega
          clear htl
          go_wp2_with fail
          refine HCC.out.mono ?_
          rintro e w2 ⟨hb2, bb, rfl, hbi⟩
          have HB2 := hide (below_on HB.out hb2)
          have HBI := hide hbi
          clear hb2 hbi z0 z1 z2 x1 HCC
          cases bb with
          | true =>
            have HY := hide (HNX.out (HBI.out.1 rfl))
            go_wp2_with fail
            exact ⟨⟨i + 1, by omega, rfl, by rw [HTT.out]; simp, by simp, HB2.out, HY.out⟩, by simp [RowKit.intOf]; omega⟩
          | false =>
            have HY := hide (HNN.out (fun q => by have := HBI.out.2 q; cases this))
            go_wp2_with fail
            go_ret
            exact CkP.made (below_on HBX.out HB2.out) rfl HY.out
        · obtain rfl : n = i := by omega
          have HALL : Hid (∀ i, i < ls.length → okN ls.length (rowL ls i)) := fun j hj => HNO.out j (by rw [HN.out]; exact hj)
          have HTE : Hid (tot ls n = tot ls ls.length) := by rw [← HN.out]; exact rfl
          by_cases ht : (10000 : Int) < ((tot ls n : Nat) : Int)
          · have HR : Hid (CkA ls aw b 22) := .inr ⟨HSZ.out.1, HSZ.out.2, .inr ⟨HALL.out, .inl ⟨by rw [← HTE.out]; omega, rfl⟩⟩⟩
            go_wp2_with fail
            go_ret
            exact CkP.made HBW.out rfl HR.out
          · have HNT : Hid (¬ 10000 < tot ls ls.length) := by rw [← HTE.out]; show ¬ _; omega
            have HCC := hide (HAN.out _ _ wr (HU.out.below HBW.out) HBD.out.a)
            go_wp2_with fail
            refine HCC.out.mono ?_
            rintro e w2 ⟨hb2, bb, rfl, hbi⟩
            have HB2 := hide (below_on HB.out hb2)
            have HBI := hide hbi
            have hq2 := (HB2.out.block _ (lt_of_heap HQX.out)).trans HQX.out
            have y2 := cell_of hq2 (i := 2) rfl
            clear hb2 hbi z0 z1 z2 HCC hq2
            rw [HN.out] at HBI
            cases bb with
            | false =>
              have HR : Hid (CkA ls aw b 30) := .inr ⟨HSZ.out.1, HSZ.out.2, .inr ⟨HALL.out, .inr ⟨HNT.out, .inl ⟨fun q => (by have := HBI.out.2 q; cases this), rfl⟩⟩⟩⟩
              go_wp2_with fail
              go_ret
              exact CkP.made (below_on HBX.out HB2.out) rfl HR.out
            | true =>
              have HOK := hide (HBI.out.1 rfl)
              by_cases hbn : b < 0
              · have HR : Hid (CkA ls aw b 60) := .inr ⟨HSZ.out.1, HSZ.out.2, .inr ⟨HALL.out, .inr ⟨HNT.out, .inr ⟨HOK.out, .inl ⟨hbn, rfl⟩⟩⟩⟩⟩
                go_wp2_with fail
                go_ret
                exact CkP.made (below_on HBX.out HB2.out) rfl HR.out
              · have HR : Hid (CkA ls aw b 0) := .inr ⟨HSZ.out.1, HSZ.out.2, .inr ⟨HALL.out, .inr ⟨HNT.out, .inr ⟨HOK.out, .inr ⟨hbn, rfl⟩⟩⟩⟩⟩
                go_wp2_with fail
                go_ret
                exact CkP.made (below_on HBX.out HB2.out) rfl HR.out
end Go.Proofs.Ytdjkidgkeekenaa
