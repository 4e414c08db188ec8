/- The program's look and the document's, plainly: one answer. -/
import Derived.Test.YtfoeljcgbfpknaaH3
namespace Go.Proofs.Ytfoeljcgbfpknaa
set_option linter.unusedVariables false
set_option linter.unusedSimpArgs false
theorem mom_same {l : List Sp} : ∀ {k : Nat}, (∀ i, i < k → (spAt l i).en = -1 ∨ 0 ≤ (spAt l i).en) → k + momP l k = momD l k
  | 0, _ => rfl
  | k + 1, h => by
    have ih := mom_same (l := l) (k := k) (fun i hi => h i (by omega))
    have hk := h k (by omega)
    unfold momP momD
    by_cases e : (spAt l k).en = -1
    · rw [if_pos e, if_neg (by omega)]; omega
    · rw [if_neg e, if_pos (by omega)]; omega
theorem ends_of {m : Nat} {l : List Sp} (h : HsAll m l) : ∀ i, i < l.length → (spAt l i).en = -1 ∨ 0 ≤ (spAt l i).en := fun i hi => by
  by_cases e : (spAt l i).en = -1
  · exact .inl e
  · have := ((h i hi).en e).1; have := (h i hi).b0; right; omega
theorem evAt_set {L : List Ev} {a b : Nat} {e : Ev} (ha : a < L.length) : evAt (L.set a e) b = if b = a then e else evAt L b := by
  unfold evAt
  rw [List.getElem?_set]
  by_cases q : a = b
  · subst q; simp [ha]
  · rw [if_neg q, if_neg (fun r => q r.symm)]
theorem laid_lay {m : Nat} {l : List Sp} (h : HsAll m l) : ∀ {k : Nat}, k ≤ l.length → ∀ i, i < k → evAt (layE m l k) (spAt l i).beg.toNat = begE (spAt l i) ∧ ((spAt l i).en ≠ -1 → evAt (layE m l k) (spAt l i).en.toNat = endE (spAt l i))
  | 0, _, i, hi => by omega
  | k + 1, hk, i, hi => by
    have hkk := h k (by omega)
    have hii := h i (by omega)
    have b0 := hkk.b0; have bm := hkk.bm; have b0i := hii.b0
    have hl := layE_len m l k
    have ih := laid_lay h (k := k) (by omega)
    unfold layE
    by_cases hen : 0 ≤ (spAt l k).en
    · rw [if_pos hen]
      have q : (spAt l k).en ≠ -1 := by omega
      obtain ⟨e1, e2, e3⟩ := hkk.en q
      have l1 : (spAt l k).beg.toNat < (layE m l k).length := by rw [hl]; omega
      have l2 : (spAt l k).en.toNat < ((layE m l k).set (spAt l k).beg.toNat (begE (spAt l k))).length := by rw [List.length_set, hl]; omega
      by_cases e : i = k
      · subst e
        refine ⟨?_, fun _ => ?_⟩
        · rw [evAt_set l2, if_neg (by omega), evAt_set l1, if_pos rfl]
        · rw [evAt_set l2, if_pos rfl]
      · have hik : i < k := by omega
        have c1 := hkk.inc i hik; have c2 := hkk.nb i hik; have c3 := e3 i hik
        refine ⟨?_, fun r => ?_⟩
        · rw [evAt_set l2, if_neg (by omega), evAt_set l1, if_neg (by omega)]; exact (ih i hik).1
        · have := (hii.en r).1
          rw [evAt_set l2, if_neg (by omega), evAt_set l1, if_neg (by omega)]; exact (ih i hik).2 r
    · rw [if_neg hen]
      have l1 : (spAt l k).beg.toNat < (layE m l k).length := by rw [hl]; omega
      by_cases e : i = k
      · subst e
        refine ⟨?_, fun r => ?_⟩
        · rw [evAt_set l1, if_pos rfl]
        · have := (hii.en r).1; omega
      · have hik : i < k := by omega
        have c1 := hkk.inc i hik; have c2 := hkk.nb i hik
        refine ⟨?_, fun r => ?_⟩
        · rw [evAt_set l1, if_neg (by omega)]; exact (ih i hik).1
        · have := (hii.en r).1
          rw [evAt_set l1, if_neg (by omega)]; exact (ih i hik).2 r
/-- The events fit, and their operations are the spans: just if the spans look like a history's. -/
theorem look_iff (l : List Sp) : ((∀ i, i < l.length → fits (l.length + momP l l.length) (spAt l i)) ∧ ∃ last, rn (layE (l.length + momP l l.length) l l.length) (l.length + momP l l.length) = some (l, last)) ↔ HsAll (momD l l.length) l := by
  constructor
  · rintro ⟨_, last, h⟩
    have hs := rn_hs _ h
    have e := mom_same (ends_of hs)
    rw [e] at hs
    exact hs
  · intro h
    have e := mom_same (ends_of h)
    rw [e]
    refine ⟨fun i hi => ?_, 0, run_all h (fun i hi => laid_lay h (Nat.le_refl _) i hi)⟩
    have hi' := h i hi
    refine ⟨hi'.b0, hi'.bm, ?_⟩
    by_cases q : (spAt l i).en = -1
    · rw [q]; have := hi'.b0; have := hi'.bm; omega
    · exact (hi'.en q).2.1
theorem look_mom {l : List Sp} (h : HsAll (momD l l.length) l) : l.length + momP l l.length = momD l l.length := mom_same (ends_of h)
end Go.Proofs.Ytfoeljcgbfpknaa
