/- The program's Bag; HistoryBags. -/
import Derived.Test.YtfoeljcgbfpknaaB6
namespace Go.Proofs.Ytfoeljcgbfpknaa
open Go.RowKit Go.Lib
set_option linter.unusedVariables false
set_option linter.unusedSimpArgs false
theorem FiA.un {l : List Sp} (h : FiA l 0) : (∀ i k, i < l.length → k < i → ¬ Twc l i k) ∧ momD l l.length ≤ 2000 := by
  rcases h with ⟨_, e⟩ | ⟨_, _, e⟩ | ⟨_, _, _, e⟩ | ⟨_, h2, h3, _⟩
  · cases e
  · cases e
  · cases e
  · exact ⟨h3, by omega⟩
theorem momD_geB (l : List Sp) : ∀ n, n ≤ momD l n
  | 0 => Nat.le_refl _
  | n + 1 => by have := momD_geB l n; unfold momD; split <;> omega
set_option maxRecDepth 100000 in
set_option maxHeartbeats 4000000 in
theorem bag_any (v : Value) (l : List Sp) (w : World) (h : RAt Sp.arr 7 w v l) (ht : Tok l) (hw : Wok l) (hl : l.length ≤ 1759218604440) : Calls Try.prog 18 #[v] w (BgP l w) := by
  have HL := hide (look_any v l w h ht hw hl)
  have HWD := hide (fun W (hb : Below w.heap.size w W) (q : FiA l 0) => widest_any v l (momD l l.length) W (h.below hb) ht q.hs (look_mom q.hs) (Nat.le_trans (momD_geB l _) q.un.2) q.un.2)
  have HBO := hide (fun W vo o (hb : Below w.heap.size w W) (ho : RowAt .i64 W vo o) => bearsOut_any v vo l o false W (h.below hb) ho hl)
  obtain ⟨ao, cap, rfl, _, _⟩ := h.shape
  clear h hl ht hw
  go_enter Try.func18, Try.ntmps18
  go_wp2_with fail
  refine HL.out.mono ?_
  rintro e w1 ⟨hb1, r, rfl, hfi⟩
  have HB1 := hide hb1
  have HFI := hide hfi
  clear hb1 hfi HL
  by_cases hr : r = 0
  · subst hr
    have HW2 := hide (HWD.out w1 HB1.out HFI.out)
    clear HWD
    go_wp2_with fail
    refine HW2.out.mono ?_
    rintro e w2 ⟨hb2, v2, rfl, hrow⟩
    have HB2 := hide (below_on HB1.out hb2)
    have HRW := hide hrow
    have HB3 := hide (HBO.out w2 v2 _ HB2.out hrow)
    clear hb2 hrow HW2 HBO
    obtain ⟨vo, vc, hv2⟩ := HRW.out.shape
    subst hv2
    go_wp2_with fail
    refine HB3.out.mono ?_
    rintro e w3 ⟨hb3, b, rfl, hi3⟩
    have HB4 := hide (below_on HB2.out hb3)
    have HI3 := hide (hi3.trans (bo_bag HFI.out.hs HFI.out.un.1))
    replace HRW := hide (HRW.out.below hb3)
    clear hb3 hi3 HB3
    cases b with
    | false =>
      have HTF : Hid (TwiD l ∨ FreD l) := by
        by_cases q : TwiD l
        · exact .inl q
        · by_cases q2 : FreD l
          · exact .inr q2
          · have := HI3.out.2 ⟨q, q2⟩
            cases this
      have HA : Hid (BgA l [] false 0) := .inr (.inl ⟨HFI.out, HTF.out, rfl, rfl, rfl⟩)
      clear HI3 HFI HRW
      go_wp2_with fail
      go_ret3
      exact BgP.made HB4.out rfl (row_nil _) HA.out
    | true =>
      have HA : Hid (BgA l (ordB l (momD l l.length)) true 0) := .inr (.inr ⟨HFI.out, (HI3.out.1 rfl).1, (HI3.out.1 rfl).2, rfl, rfl, rfl⟩)
      clear HI3 HFI
      go_wp2_with fail
      go_ret3
      exact BgP.made HB4.out rfl HRW.out HA.out
  · have hrb : (r != 0) = true := by simp [hr]
    have HA : Hid (BgA l [] false r) := .inl ⟨HFI.out, hr, rfl, rfl⟩
    clear hr HFI HWD HBO
    go_wp2_with fail
    go_ret3
    exact BgP.made HB1.out rfl (row_nil _) HA.out
set_option maxRecDepth 100000 in
set_option maxHeartbeats 2000000 in
theorem sameInts_any (v u : Value) (L : List Int) (w : World) (h : RowAt .i64 w v L) (k : RowAt .i64 w u L) : Calls Try.prog 19 #[v, u] w fun x w' => x = .returned (.bool true) ∧ Below w.heap.size w w' := by
  have H := hide h; have K := hide k
  obtain ⟨ao, ac, rfl, ha1, ha2, ha3⟩ := h
  obtain ⟨bo, bc, rfl, hb1, hb2, hb3⟩ := k
  obtain ⟨n, hn⟩ : ∃ n, n = L.length := ⟨_, rfl⟩
  have HN := hide hn
  rw [← hn] at H K ha1 hb1 ⊢
  clear ha3 hb3 hn
  go_enter Try.func19, Try.ntmps19
  go_wp2_with fail
  go_loopw [4, 5] (fun va t wr => ∃ i : Nat, i ≤ n ∧ va = .bool false ∧ t = .int .i64 (i : Int) ∧ Below w.heap.size w wr) (fun _ t _ => n - (RowKit.intOf t).toNat)
  case atStart => exact ⟨0, Nat.zero_le _, rfl, rfl, Below.refl _ _⟩
  case round =>
    obtain ⟨i, hin, rfl, rfl, hb⟩ := hrel
    have HB := hide hb
    clear hb
    by_cases hlt : i < n
    · have hli : (i : Int) < (n : Int) := by omega
      obtain ⟨g1, o1, c1, e1, _, x1⟩ := (H.out.below HB.out).cellAt i (by rw [← HN.out]; exact hlt)
      obtain ⟨g2, o2, c2, e2, _, x2⟩ := (K.out.below HB.out).cellAt i (by rw [← HN.out]; exact hlt)
      simp only [Value.slice.injEq] at e1 e2
      obtain ⟨rfl, f1, rfl⟩ := e1
      obtain ⟨rfl, f2, rfl⟩ := e2
      clear f1 f2
      generalize at_ L i = s at x1 x2
      go_wp2_with fail
      go_quiet (fail)
      go_wp2_with fail
      exact ⟨⟨i + 1, by omega, rfl, by simp, below_on HB.out (below_drewN _ _)⟩, by simp [RowKit.intOf]; omega⟩
    · obtain rfl : n = i := by omega
      go_wp2_with fail
      go_ret
      exact ⟨rfl, HB.out⟩
set_option maxRecDepth 100000 in
set_option maxHeartbeats 4000000 in
theorem bags_law (v : Value) (l : List Sp) (w : World) (h : RAt Sp.arr 7 w v l) (ht : Tok l) (hw : Wok l) (hl : l.length ≤ 1759218604440) : Calls Try.prog 5 #[v] w fun x w' => x = .returned (.bool true) ∧ Below w.heap.size w w' := by
  have HR := hide (refBag_any v l w h hl)
  have HS := hide (fun W (hb : Below w.heap.size w W) => spans_any v l W (h.below hb) (by omega))
  have HSK := hide (fun W fr g c (hb : Below w.heap.size w W) hm => spansKept_any v l fr g c W (h.below hb) hm (by omega))
  have HF := hide (fun W v2 (h2 : RAt Sp.arr 7 W v2 l) => bag_any v2 l W h2 ht hw hl)
  obtain ⟨ao, cap, rfl, _, _⟩ := h.shape
  clear h hl ht hw
  go_enter Try.func5, Try.ntmps5
  go_wp2_with fail
  refine HR.out.mono ?_
  rintro e w1 ⟨hb1, v1, L, b, r, rfl, hrw, hfi⟩
  have HB1 := hide hb1
  have HFI := hide hfi
  have HRW := hide hrw
  have HS2 := hide (HS.out w1 hb1)
  clear hb1 hfi hrw HR HS
  go_wp2_with fail
  refine HS2.out.mono ?_
  rintro e w2 ⟨g2, c2, rfl, hm2, hb2⟩
  have HM2 := hide hm2
  have HB2 := hide (below_on HB1.out hb2)
  replace HRW := hide (HRW.out.below hb2)
  have HF2 := hide (HF.out w2 _ (hm2.rat Sp.size))
  clear hm2 hb2 HS2 HF
  go_wp2_with fail
  refine HF2.out.mono ?_
  rintro e w4 ⟨hb4, v4, L', b', r', rfl, hrw', hfi'⟩
  obtain ⟨e1, rfl, rfl⟩ := HFI.out.one hfi'
  subst e1
  have HB4 := hide (below_on HB2.out hb4)
  replace HM2 := hide (HM2.out.below hb4)
  have HSI := hide (sameInts_any v4 v1 L w4 hrw' (HRW.out.below hb4))
  clear hb4 hfi' hrw' HFI HF2 HRW
  go_wp2_with fail
  refine HSI.out.mono ?_
  rintro e w5 ⟨rfl, hb5⟩
  have HB5 := hide (below_on HB4.out hb5)
  replace HM2 := hide (HM2.out.below hb5)
  have HSK2 := hide (HSK.out w5 _ g2 c2 HB5.out HM2.out)
  clear hb5 HSI HSK
  go_wp2_with fail
  refine HSK2.out.mono ?_
  rintro e w6 ⟨rfl, hb6⟩
  have HB6 := hide (below_on HB5.out hb6)
  clear hb6 HSK2
  go_wp2_with fail
  go_ret
  exact ⟨rfl, HB6.out⟩
end Go.Proofs.Ytfoeljcgbfpknaa
