/- Whether spans are a history's, plainly: by laying out their events, and by looking at them. -/
import Derived.Test.YtfoeljcgbfpknaaPl
namespace Go.Proofs.Ytfoeljcgbfpknaa
set_option linter.unusedVariables false
set_option linter.unusedSimpArgs false
/-- Is the span's kind what its end and its direction want, and its task? -/
def kfit (s : Sp) : Bool := if s.en = -1 then decide (s.kind = 0 ∧ (s.ins = true ∨ (s.key = 0 ∧ s.load = 0))) else if s.ins = true then decide (s.kind = 2 ∨ s.kind = 6) else decide (s.kind = 4 ∨ ((s.kind = 5 ∨ s.kind = 6) ∧ s.key = 0 ∧ s.load = 0))
/-- The span i among m moments, behind those ahead of it. -/
structure HsAt (m : Nat) (l : List Sp) (i : Nat) : Prop where
  w0 : 0 ≤ (spAt l i).who
  b0 : 0 ≤ (spAt l i).beg
  bm : (spAt l i).beg < (m : Int)
  inc : ∀ k, k < i → (spAt l k).beg < (spAt l i).beg
  nb : ∀ k, k < i → (spAt l k).en ≠ (spAt l i).beg
  kf : kfit (spAt l i) = true
  en : (spAt l i).en ≠ -1 → (spAt l i).beg < (spAt l i).en ∧ (spAt l i).en < (m : Int) ∧ ∀ k, k < i → (spAt l k).beg ≠ (spAt l i).en ∧ (spAt l k).en ≠ (spAt l i).en
  wh : ∀ k, k < i → (spAt l k).who = (spAt l i).who → (spAt l k).en ≠ -1 ∧ (spAt l k).en < (spAt l i).beg
def HsAll (m : Nat) (l : List Sp) : Prop := ∀ i, i < l.length → HsAt m l i
theorem spAt_left {l : List Sp} {s : Sp} {i : Nat} (h : i < l.length) : spAt (l ++ [s]) i = spAt l i := by simp [spAt, List.getElem?_append_left h]
theorem spAt_last {l : List Sp} {s : Sp} : spAt (l ++ [s]) l.length = s := by simp [spAt]
/-- No open span of who: all of them are shut. -/
theorem opnTo_none {l : List Sp} {who : Int} {m : Nat} (hl : HsAll m l) : ∀ {j : Nat}, j ≤ l.length → opnTo l who j = none → ∀ k, k < j → (spAt l k).who = who → (spAt l k).en ≠ -1
  | 0, _, _, k, hk, _ => by omega
  | j + 1, hj, h, k, hk, hw => by
    unfold opnTo at h
    split at h
    · rename_i h1
      split at h
      · cases h
      · rename_i h2
        by_cases e : k = j
        · subst e; exact h2
        · exact ((hl j (by omega)).wh k (by omega) (hw.trans h1.symm)).1
    · rename_i h1
      by_cases e : k = j
      · subst e; exact (h1 hw).elim
      · exact opnTo_none hl (by omega) h k (by omega) hw
theorem kfit_open {s : Sp} (h : s.en = -1) : kfit s = true ↔ s.kind = 0 ∧ (s.ins = true ∨ (s.key = 0 ∧ s.load = 0)) := by unfold kfit; rw [if_pos h]; simp
theorem kfit_ins {s : Sp} (h : s.en ≠ -1) (hi : s.ins = true) : kfit s = true ↔ s.kind = 2 ∨ s.kind = 6 := by unfold kfit; rw [if_neg h, if_pos hi]; simp
theorem kfit_out {s : Sp} (h : s.en ≠ -1) (hi : s.ins = false) : kfit s = true ↔ s.kind = 4 ∨ ((s.kind = 5 ∨ s.kind = 6) ∧ s.key = 0 ∧ s.load = 0) := by unfold kfit; rw [if_neg h, if_neg (by simp [hi])]; simp
theorem hs_born {l : List Sp} {j : Nat} {e : Ev} {last : Int} (hl : HsAll j l) (ho : okE e last = true) (hn : opn l e.who = none) (hb : begs e.kind = true) : HsAll (j + 1) (l ++ [born j e]) := by
  have ho' : 0 ≤ e.who ∧ 1 ≤ e.kind ∧ e.kind ≤ 6 ∧ 0 ≤ e.tm ∧ last ≤ e.tm ∧ (e.kind = 1 ∨ e.kind = 4 ∨ (e.key = 0 ∧ e.load = 0)) := by simpa [okE] using ho
  have hb' : e.kind = 1 ∨ e.kind = 3 := by simpa [begs] using hb
  intro i hi
  rw [List.length_append, List.length_singleton] at hi
  by_cases e1 : i = l.length
  · subst e1
    refine ⟨?_, ?_, ?_, fun k hk => ?_, fun k hk => ?_, ?_, fun h => ?_, fun k hk hw => ?_⟩
    · rw [spAt_last]; exact ho'.1
    · rw [spAt_last]; simp [born]
    · rw [spAt_last]; simp [born]; omega
    · rw [spAt_last, spAt_left hk]; have := (hl k hk).bm; simpa [born] using this
    · rw [spAt_last, spAt_left hk]
      simp only [born]
      by_cases q : (spAt l k).en = -1
      · rw [q]; omega
      · have := ((hl k hk).en q).2.1; omega
    · rw [spAt_last, kfit_open (by rfl)]
      refine ⟨rfl, ?_⟩
      simp only [born]
      rcases hb' with h | h
      · left; rw [h]; rfl
      · right
        rcases ho'.2.2.2.2.2 with q | q | q
        · omega
        · omega
        · exact q
    · rw [spAt_last] at h; exact (h rfl).elim
    · rw [spAt_last, spAt_left hk] at *
      have h1 := opnTo_none hl (Nat.le_refl _) hn k hk hw
      exact ⟨h1, by have := ((hl k hk).en h1).2.1; simpa [born] using this⟩
  · have hi' : i < l.length := by omega
    have h := hl i hi'
    have ek : ∀ k, k < i → spAt (l ++ [born j e]) k = spAt l k := fun k hk => spAt_left (by omega)
    refine ⟨?_, ?_, ?_, fun k hk => ?_, fun k hk => ?_, ?_, fun q => ?_, fun k hk hw => ?_⟩
    · rw [spAt_left hi']; exact h.w0
    · rw [spAt_left hi']; exact h.b0
    · rw [spAt_left hi']; have := h.bm; omega
    · rw [spAt_left hi', ek k hk]; exact h.inc k hk
    · rw [spAt_left hi', ek k hk]; exact h.nb k hk
    · rw [spAt_left hi']; exact h.kf
    · rw [spAt_left hi'] at q ⊢
      obtain ⟨q1, q2, q3⟩ := h.en q
      exact ⟨q1, by omega, fun k hk => by rw [ek k hk]; exact q3 k hk⟩
    · rw [spAt_left hi', ek k hk] at *; exact h.wh k hk hw
theorem hs_shut {l : List Sp} {j k : Nat} {e : Ev} {last : Int} (hl : HsAll j l) (ho : okE e last = true) (hn : opn l e.who = some k) (hb : ends (spAt l k).ins e.kind = true) : HsAll (j + 1) (l.set k (shut j e (spAt l k))) := by
  have ho' : 0 ≤ e.who ∧ 1 ≤ e.kind ∧ e.kind ≤ 6 ∧ 0 ≤ e.tm ∧ last ≤ e.tm ∧ (e.kind = 1 ∨ e.kind = 4 ∨ (e.key = 0 ∧ e.load = 0)) := by simpa [okE] using ho
  have hb' : e.kind = 6 ∨ (e.kind = 2 ∧ (spAt l k).ins = true) ∨ ((e.kind = 4 ∨ e.kind = 5) ∧ (spAt l k).ins = false) := by simpa [ends] using hb
  obtain ⟨k1, k2, k3, k4⟩ := opn_some hn
  have hk := hl k k1
  have hkf := (kfit_open k3).1 hk.kf
  have lt : ∀ a, a < l.length → (spAt l a).beg < (j : Int) ∧ (spAt l a).en < (j : Int) := fun a ha => ⟨(hl a ha).bm, by
    by_cases q : (spAt l a).en = -1
    · rw [q]; omega
    · exact ((hl a ha).en q).2.1⟩
  intro i hi
  rw [List.length_set] at hi
  have at' : ∀ a, spAt (l.set k (shut j e (spAt l k))) a = if a = k then shut j e (spAt l k) else spAt l a := fun a => spAt_set l k _ a k1
  have hbeg : ∀ a, (spAt (l.set k (shut j e (spAt l k))) a).beg = (spAt l a).beg := fun a => by
    rw [at']; split
    · rename_i q; subst q; rfl
    · rfl
  have hwho : ∀ a, (spAt (l.set k (shut j e (spAt l k))) a).who = (spAt l a).who := fun a => by
    rw [at']; split
    · rename_i q; subst q; rfl
    · rfl
  have hen : ∀ a, (spAt (l.set k (shut j e (spAt l k))) a).en = if a = k then (j : Int) else (spAt l a).en := fun a => by
    rw [at']; split <;> rfl
  have h := hl i hi
  refine ⟨?_, ?_, ?_, fun a ha => ?_, fun a ha => ?_, ?_, fun q => ?_, fun a ha hw => ?_⟩
  · rw [hwho]; exact h.w0
  · rw [hbeg]; exact h.b0
  · rw [hbeg]; have := h.bm; omega
  · rw [hbeg, hbeg]; exact h.inc a ha
  · rw [hbeg, hen]
    split
    · have := (lt i hi).1; omega
    · exact h.nb a ha
  · rw [at']
    split
    · rename_i q
      subst q
      cases hins : (spAt l i).ins with
      | true =>
        refine (kfit_ins (s := shut j e (spAt l i)) (by simp [shut]) (by simp [shut, hins])).2 ?_
        simp only [shut]
        rw [hins] at hb'
        rcases hb' with q | q | q
        · exact .inr q
        · exact .inl q.1
        · cases q.2
      | false =>
        refine (kfit_out (s := shut j e (spAt l i)) (by simp [shut]) (by simp [shut, hins])).2 ?_
        simp only [shut]
        rw [hins] at hb'
        have hz : (spAt l i).key = 0 ∧ (spAt l i).load = 0 := by
          rcases hkf.2 with q | q
          · rw [hins] at q; cases q
          · exact q
        rcases hb' with q | q | q
        · right; refine ⟨.inr q, ?_⟩; rw [if_neg (by omega), if_neg (by omega)]; exact hz
        · cases q.2
        · rcases q.1 with q | q
          · exact .inl q
          · right; refine ⟨.inl q, ?_⟩; rw [if_neg (by omega), if_neg (by omega)]; exact hz
    · exact h.kf
  · rw [hen] at q ⊢
    rw [hbeg]
    split at q
    · rename_i q1
      subst q1
      rw [if_pos rfl]
      refine ⟨(lt i hi).1, by omega, fun a ha => ?_⟩
      rw [hbeg, hen, if_neg (by omega)]
      have := lt a (by omega)
      exact ⟨by omega, by omega⟩
    · rename_i q1
      rw [if_neg q1]
      obtain ⟨r1, r2, r3⟩ := h.en q
      refine ⟨r1, by omega, fun a ha => ?_⟩
      rw [hbeg, hen]
      refine ⟨(r3 a ha).1, ?_⟩
      split
      · omega
      · exact (r3 a ha).2
  · rw [hwho, hwho] at hw
    rw [hen, hbeg]
    split
    · rename_i q1
      subst q1
      exact absurd (hw.symm.trans k2) (k4 i ha hi)
    · exact h.wh a ha hw
theorem rn_hs (evs : List Ev) : ∀ {j : Nat} {l : List Sp} {last : Int}, rn evs j = some (l, last) → HsAll j l
  | 0, l, last, h => by
    simp [rn] at h
    intro i hi
    rw [h.1] at hi
    simp at hi
  | j + 1, l, last, h => by
    unfold rn at h
    split at h
    · cases h
    · rename_i l0 last0 h0
      have hl := rn_hs evs h0
      cases hs : stp l0 last0 j (evAt evs j) with
      | none => rw [hs] at h; cases h
      | some l' =>
        rw [hs] at h
        simp at h
        obtain ⟨rfl, _⟩ := h
        unfold stp at hs
        split at hs
        · rename_i ho
          split at hs
          · rename_i hn
            split at hs
            · rename_i hb; simp at hs; subst hs; exact hs_born hl ho hn hb
            · cases hs
          · rename_i k hn
            split at hs
            · rename_i hb; simp at hs; subst hs; exact hs_shut hl ho hn hb
            · cases hs
        · cases hs
end Go.Proofs.Ytfoeljcgbfpknaa
