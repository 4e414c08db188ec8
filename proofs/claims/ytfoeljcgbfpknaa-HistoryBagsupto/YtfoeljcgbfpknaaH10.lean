/- The program's look: the document's First. -/
import Derived.Test.YtfoeljcgbfpknaaH9
import Derived.Test.YtfoeljcgbfpknaaH6
import Derived.Test.YtfoeljcgbfpknaaH5
namespace Go.Proofs.Ytfoeljcgbfpknaa
open Go.RowKit Go.Lib
set_option linter.unusedVariables false
set_option linter.unusedSimpArgs false
theorem put_same {s : Sp} (h : kfit s = true) : putP s = putD s := by
  unfold putP putD
  cases hi : s.ins with
  | false => rfl
  | true =>
    by_cases he : s.en = -1
    · simp [he]
    · rcases (kfit_ins he hi).1 h with e | e <;> simp [e]
theorem tw_same {l : List Sp} {m : Nat} (h : HsAll m l) {i k : Nat} (hi : i < l.length) (hk : k < i) : TwP l i k ↔ Twc l i k := by
  unfold TwP Twc
  rw [put_same (h i hi).kf, put_same (h k (by omega)).kf]
/-- Whose numbers are ints. -/
def Wok (l : List Sp) : Prop := ∀ i, i < l.length → In64 (spAt l i).who
theorem In64.zero : In64 0 := ⟨by decide, by decide⟩
theorem lay_ok {m : Nat} {l : List Sp} (h : Wok l) : ∀ {k : Nat}, k ≤ l.length → ∀ i, In64 (evAt (layE m l k) i).who
  | 0, _, i => by
    unfold layE evAt
    by_cases hi : i < m
    · simp [hi, ev0, In64.zero]
    · rw [List.getElem?_eq_none (by simp; omega)]; exact In64.zero
  | k + 1, hk, i => by
    have ih := lay_ok (m := m) h (k := k) (by omega)
    have hb : In64 (begE (spAt l k)).who := by unfold begE; split <;> exact h k (by omega)
    have he : In64 (endE (spAt l k)).who := h k (by omega)
    have hset : ∀ (L : List Ev) (a : Nat) (e : Ev), (∀ j, In64 (evAt L j).who) → In64 e.who → ∀ j, In64 (evAt (L.set a e) j).who := fun L a e h1 h2 j => by
      by_cases ha : a < L.length
      · rw [evAt_set ha]; split
        · exact h2
        · exact h1 j
      · rw [List.set_eq_of_length_le (by omega)]; exact h1 j
    unfold layE
    split
    · exact hset _ _ _ (hset _ _ _ ih hb) he i
    · exact hset _ _ _ ih hb i
theorem bad_not {evs : List Ev} {i : Nat} (h : badAt evs = some i) : rn evs evs.length = none := by
  obtain ⟨h1, h2⟩ := first_of_some h
  cases hr : rn evs evs.length with
  | none => rfl
  | some p =>
    have := rn_down evs (i := evs.length) (by rw [hr]; rfl) (i + 1) (by omega)
    cases hq : rn evs (i + 1) with
    | none => rw [hq] at this; cases this
    | some q => rw [hq] at h2; cases h2
set_option maxRecDepth 100000 in
set_option maxHeartbeats 4000000 in
theorem look_any (v : Value) (l : List Sp) (w : World) (h : RAt Sp.arr 7 w v l) (ht : Tok l) (hw : Wok l) (hl : l.length ≤ 1759218604440) : Calls Try.prog 31 #[v] w (FiP l w) := by
  have HE := hide (eventsOf_any v l w h (by omega))
  obtain ⟨m, hm⟩ : ∃ m, m = l.length + momP l l.length := ⟨_, rfl⟩
  have hml : m ≤ 3518437208880 := by have := momP_le l l.length; omega
  have HLI := hide (look_iff l)
  unfold EvP at HE
  rw [← hm] at HE HLI
  have HMM : Hid (HsAll (momD l l.length) l → m = momD l l.length) := fun q => by rw [hm]; exact look_mom q
  obtain ⟨L, hL⟩ : ∃ L, L = layE m l l.length := ⟨_, rfl⟩
  have hLl : L.length = m := by rw [hL]; exact layE_len _ _ _
  rw [← hL] at HE HLI
  have HOP := hide (fun W v (q : RAt Ev.arr 5 W v L) => operations_any v L W q (by omega) (fun i _ => by rw [hL]; exact lay_ok hw (Nat.le_refl _) i))
  have HEQ := hide (fun W v2 l2 (q : Below w.heap.size w W) (r : RAt Sp.arr 7 W v2 l2) => equal_any v2 v l2 l W r (h.below q))
  have HIT := hide (fun W (q : Below w.heap.size w W) => insertedTwice_any v l W (h.below q) ht (by omega))
  obtain ⟨ao, cap, rfl, hcap, h63⟩ := h.shape
  obtain ⟨n, hn⟩ : ∃ n, n = l.length := ⟨_, rfl⟩
  have HN := hide hn
  rw [← hn] at hcap hl HE HEQ HIT ⊢
  have HLL := hide hLl
  clear h hn hm hL ht hw hLl
  go_enter Try.func31, Try.ntmps31
  go_wp2_with fail
  refine HE.out.mono ?_
  rintro e w1 ⟨hb1, ⟨⟨i, hi, hnf⟩, rfl⟩ | ⟨hf, v1, rfl, ho1⟩⟩
  · have HB1 := hide hb1
    have HR : Hid (FiA l 70) := .inl ⟨fun q => hnf ((HLI.out.2 q).1 i (by rw [← HN.out]; exact hi)), rfl⟩
    clear hb1 hnf HE HLI HOP HEQ HIT
    go_wp2_with fail
    go_ret
    exact FiP.made HB1.out rfl HR.out
  · have HB1 := hide hb1
    have HF := hide hf
    have hra := ho1.rat Ev.size
    obtain ⟨ao1, cap1, rfl, hc1, hc2⟩ := hra.shape
    have HO := hide (HOP.out w1 _ hra)
    rw [HLL.out] at HO hc1 ⊢
    clear hb1 hf ho1 hra HOP HE
    go_wp2_with fail
    refine HO.out.mono ?_
    rintro e w2 (⟨j, hbad, rfl, hb2⟩ | ⟨v2, l2, last, hbad, hrn, rfl, ho2, hb2⟩)
    · have HB2 := hide (below_on HB1.out hb2)
      have HR : Hid (FiA l 70) := .inl ⟨fun q => by
        obtain ⟨last, hr⟩ := (HLI.out.2 q).2
        have := bad_not hbad
        rw [HLL.out, hr] at this; exact (by cases this), rfl⟩
      have hjn : ((j : Int) == -1) = false := by simp
      clear hb2 hbad HO HLI HEQ HIT
      go_wp2_with fail
      go_ret
      exact FiP.made HB2.out rfl HR.out
    · have HB2 := hide (below_on HB1.out hb2)
      rw [HLL.out] at hrn
      have hra2 := ho2.rat Sp.size
      have HQ := hide (HEQ.out w2 v2 l2 HB2.out hra2)
      have HRN := hide hrn
      clear hb2 hbad hrn ho2 hra2 HO HEQ
      go_wp2_with fail
      refine HQ.out.mono ?_
      rintro e w3 ⟨hb3, b, rfl, hbi⟩
      have HB3 := hide (below_on HB2.out hb3)
      have HBI := hide hbi
      clear hb3 hbi HQ
      cases b with
      | false =>
        have HR : Hid (FiA l 70) := .inl ⟨fun q => by
          obtain ⟨last', hr⟩ := (HLI.out.2 q).2
          rw [HRN.out] at hr
          simp only [Option.some.injEq, Prod.mk.injEq] at hr
          have := HBI.out.2 hr.1
          exact (by cases this), rfl⟩
        go_wp2_with fail
        go_ret
        exact FiP.made HB3.out rfl HR.out
      | true =>
        have HHS : Hid (HsAll (momD l l.length) l) := HLI.out.1 ⟨fun i hi => HF.out i (by rw [HN.out]; exact hi), last, by rw [HRN.out, HBI.out.1 rfl]⟩
        have HM2 := hide (HMM.out HHS.out)
        clear HLI HBI HRN HMM HF
        by_cases hm2 : (2000 : Int) < (m : Int)
        · have HR : Hid (FiA l 71) := .inr (.inl ⟨HHS.out, by rw [← HM2.out]; omega, rfl⟩)
          go_wp2_with fail
          go_ret
          exact FiP.made HB3.out rfl HR.out
        · have HMS : Hid (¬ 2000 < momD l l.length) := by rw [← HM2.out]; show ¬ _; omega
          go_wp2_with fail
          refine (HIT.out w3 HB3.out).mono ?_
          rintro e w4 ⟨hb4, b, rfl, hbi⟩
          have HB4 := hide (below_on HB3.out hb4)
          have HBI := hide hbi
          clear hb4 hbi
          cases b with
          | true =>
            have HR : Hid (FiA l 72) := .inr (.inr (.inl ⟨HHS.out, HMS.out, by
              obtain ⟨i, k, hi, hk, q⟩ := HBI.out.1 rfl
              exact ⟨i, k, hi, hk, (tw_same HHS.out hi hk).1 q⟩, rfl⟩))
            go_wp2_with fail
            go_ret
            exact FiP.made HB4.out rfl HR.out
          | false =>
            have HR : Hid (FiA l 0) := .inr (.inr (.inr ⟨HHS.out, HMS.out, fun i k hi hk q => by
              have := HBI.out.2 ⟨i, k, hi, hk, (tw_same HHS.out hi hk).2 q⟩
              exact (by cases this), rfl⟩))
            go_wp2_with fail
            go_ret
            exact FiP.made HB4.out rfl HR.out
end Go.Proofs.Ytfoeljcgbfpknaa
