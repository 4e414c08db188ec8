/- A list of spans that looks like a history's is one: its events, laid out, give it back. -/
import Derived.Test.YtfoeljcgbfpknaaHp
namespace Go.Proofs.Ytfoeljcgbfpknaa
set_option linter.unusedVariables false
set_option linter.unusedSimpArgs false
theorem nodup_le : ∀ (m : Nat) (l : List Nat), l.Nodup → (∀ x ∈ l, x < m) → l.length ≤ m
  | 0, l, _, h => by
    cases l with
    | nil => simp
    | cons a l => have := h a (by simp); omega
  | m + 1, l, hn, h => by
    by_cases hm : m ∈ l
    · have h1 := nodup_le m (l.erase m) (hn.erase m) (fun x hx => by
        have h2 := h x (List.mem_of_mem_erase hx)
        have h3 : x ≠ m := fun e => by subst e; exact (List.Nodup.not_mem_erase hn) hx
        omega)
      rw [List.length_erase_of_mem hm] at h1
      omega
    · have := nodup_le m l hn (fun x hx => by have := h x hx; have : x ≠ m := fun e => hm (e ▸ hx); omega)
      omega
theorem pigeon {m : Nat} {l : List Nat} (hn : l.Nodup) (h : ∀ x ∈ l, x < m) (hl : l.length = m) : ∀ t, t < m → t ∈ l := by
  intro t ht
  by_cases q : t ∈ l
  · exact q
  · have := nodup_le m (t :: l) (List.nodup_cons.2 ⟨q, hn⟩) (fun x hx => by
      rcases List.mem_cons.1 hx with rfl | hx
      · exact ht
      · exact h x hx)
    simp at this
    omega
/-- The moments of the first n spans. -/
def momL (l : List Sp) : Nat → List Nat
  | 0 => []
  | n + 1 => if (spAt l n).en = -1 then (spAt l n).beg.toNat :: momL l n else (spAt l n).en.toNat :: (spAt l n).beg.toNat :: momL l n
theorem mem_mom {l : List Sp} {m : Nat} (hl : HsAll m l) : ∀ {n : Nat}, n ≤ l.length → ∀ t, t ∈ momL l n ↔ ∃ i, i < n ∧ ((t : Int) = (spAt l i).beg ∨ ((spAt l i).en ≠ -1 ∧ (t : Int) = (spAt l i).en))
  | 0, _, t => by simp [momL]
  | n + 1, hn, t => by
    have h := hl n (by omega)
    have ih := mem_mom hl (n := n) (by omega) t
    have b0 := h.b0
    constructor
    · intro ht
      unfold momL at ht
      split at ht
      · rename_i q
        rcases List.mem_cons.1 ht with r | r
        · exact ⟨n, by omega, .inl (by omega)⟩
        · obtain ⟨i, hi, r⟩ := ih.1 r; exact ⟨i, by omega, r⟩
      · rename_i q
        have e0 := (h.en q).1
        rcases List.mem_cons.1 ht with r | r
        · exact ⟨n, by omega, .inr ⟨q, by omega⟩⟩
        · rcases List.mem_cons.1 r with r | r
          · exact ⟨n, by omega, .inl (by omega)⟩
          · obtain ⟨i, hi, r⟩ := ih.1 r; exact ⟨i, by omega, r⟩
    · rintro ⟨i, hi, r⟩
      unfold momL
      by_cases e : i = n
      · subst e
        rcases r with r | ⟨q, r⟩
        · split
          · exact List.mem_cons.2 (.inl (by omega))
          · exact List.mem_cons.2 (.inr (List.mem_cons.2 (.inl (by omega))))
        · rw [if_neg q]; exact List.mem_cons.2 (.inl (by omega))
      · have := ih.2 ⟨i, by omega, r⟩
        split
        · exact List.mem_cons.2 (.inr this)
        · exact List.mem_cons.2 (.inr (List.mem_cons.2 (.inr this)))
theorem nodup_mom {l : List Sp} {m : Nat} (hl : HsAll m l) : ∀ {n : Nat}, n ≤ l.length → (momL l n).Nodup
  | 0, _ => by simp [momL]
  | n + 1, hn => by
    have h := hl n (by omega)
    have ih := nodup_mom hl (n := n) (by omega)
    have b0 := h.b0
    have nb : (spAt l n).beg.toNat ∉ momL l n := fun q => by
      obtain ⟨i, hi, r | ⟨_, r⟩⟩ := (mem_mom hl (by omega) _).1 q
      · have := h.inc i hi; omega
      · have := h.nb i hi; omega
    unfold momL
    split
    · exact List.nodup_cons.2 ⟨nb, ih⟩
    · rename_i q
      obtain ⟨e1, e2, e3⟩ := h.en q
      refine List.nodup_cons.2 ⟨fun r => ?_, List.nodup_cons.2 ⟨nb, ih⟩⟩
      rcases List.mem_cons.1 r with r | r
      · omega
      · obtain ⟨i, hi, r | ⟨_, r⟩⟩ := (mem_mom hl (by omega) _).1 r
        · have := (e3 i hi).1; omega
        · have := (e3 i hi).2; omega
/-- How many moments. -/
def momD (l : List Sp) : Nat → Nat
  | 0 => 0
  | n + 1 => if (spAt l n).en = -1 then momD l n + 1 else momD l n + 2
theorem mom_len (l : List Sp) : ∀ n, (momL l n).length = momD l n
  | 0 => rfl
  | n + 1 => by
    unfold momL momD
    split <;> simp [mom_len l n]
/-- Each moment is a begin or an end. -/
theorem all_moments {l : List Sp} (hl : HsAll (momD l l.length) l) : ∀ t, t < momD l l.length → ∃ i, i < l.length ∧ ((t : Int) = (spAt l i).beg ∨ ((spAt l i).en ≠ -1 ∧ (t : Int) = (spAt l i).en)) := by
  intro t ht
  refine (mem_mom hl (Nat.le_refl _) t).1 (pigeon (nodup_mom hl (Nat.le_refl _)) (fun x hx => ?_) (mom_len l _) t ht)
  obtain ⟨i, hi, r | ⟨q, r⟩⟩ := (mem_mom hl (Nat.le_refl _) x).1 hx
  · have := (hl i hi).bm; omega
  · have := ((hl i hi).en q).2.1; omega
/-- The events of a span. -/
def begE (s : Sp) : Ev := if s.ins = true then ⟨0, s.who, 1, s.key, s.load⟩ else ⟨0, s.who, 3, 0, 0⟩
def endE (s : Sp) : Ev := ⟨0, s.who, s.kind, if s.kind = 4 then s.key else 0, if s.kind = 4 then s.load else 0⟩
/-- A span that has not ended yet. -/
def opd (s : Sp) : Sp := ⟨s.who, s.ins, if s.ins = true then s.key else 0, if s.ins = true then s.load else 0, s.beg, -1, 0⟩
/-- A span as it is told behind j moments. -/
def msk (j : Nat) (s : Sp) : Sp := if s.en ≠ -1 ∧ s.en < (j : Int) then s else opd s
/-- The spans that have begun behind j moments. -/
def snp (l : List Sp) (j c : Nat) : List Sp := (l.take c).map (msk j)
theorem snp_at {l : List Sp} {j c i : Nat} (hc : c ≤ l.length) (hi : i < c) : spAt (snp l j c) i = msk j (spAt l i) := by
  have h1 : i < l.length := by omega
  simp [spAt, snp, List.getElem?_take_of_lt hi, h1]
theorem snp_len {l : List Sp} {j c : Nat} (hc : c ≤ l.length) : (snp l j c).length = c := by simp [snp]; omega
theorem msk_who (j : Nat) (s : Sp) : (msk j s).who = s.who := by unfold msk; split <;> rfl
/-- Laid out: the event of each moment is that of the span whose moment it is. -/
def Laid (l : List Sp) (evs : List Ev) : Prop := ∀ i, i < l.length → evAt evs (spAt l i).beg.toNat = begE (spAt l i) ∧ ((spAt l i).en ≠ -1 → evAt evs (spAt l i).en.toNat = endE (spAt l i))
theorem opnTo_all_shut {l : List Sp} {who : Int} : ∀ {j : Nat}, (∀ k, k < j → (spAt l k).who = who → (spAt l k).en ≠ -1) → opnTo l who j = none
  | 0, _ => rfl
  | j + 1, h => by
    unfold opnTo
    split
    · rename_i q; rw [if_neg (h j (by omega) q)]
    · exact opnTo_all_shut (fun k hk hw => h k (by omega) hw)
theorem opnTo_one {l : List Sp} {who : Int} {k : Nat} (h1 : (spAt l k).who = who) (h2 : (spAt l k).en = -1) : ∀ {j : Nat}, k < j → (∀ a, k < a → a < j → (spAt l a).who ≠ who) → opnTo l who j = some k
  | 0, h, _ => by omega
  | j + 1, h, ha => by
    unfold opnTo
    by_cases e : k = j
    · subst e; rw [if_pos h1, if_pos h2]
    · rw [if_neg (ha j (by omega) (by omega))]
      exact opnTo_one h1 h2 (by omega) (fun a q1 q2 => ha a q1 (by omega))
theorem shut_back {s : Sp} {j : Nat} (q : s.en ≠ -1) (hk2 : s.en = (j : Int)) (hkf : kfit s = true) : shut j (endE s) (opd s) = s := by
  obtain ⟨who, ins, key, load, beg, en, kind⟩ := s
  unfold shut endE opd
  cases ins with
  | true =>
    rw [kfit_ins q rfl] at hkf
    simp only at hkf hk2 ⊢
    have h4 : ¬ kind = 4 := by omega
    simp [h4, hk2]
  | false =>
    rw [kfit_out q rfl] at hkf
    simp only at hkf hk2 ⊢
    rcases hkf with a | ⟨a, b1, b2⟩
    · simp [hk2, a]
    · have h4 : ¬ kind = 4 := by omega
      simp [h4, hk2, b1, b2]
theorem opd_same {s : Sp} (q : s.en = -1) (hkf : kfit s = true) : opd s = s := by
  rw [kfit_open q] at hkf
  obtain ⟨who, ins, key, load, beg, en, kind⟩ := s
  unfold opd
  simp only at hkf q ⊢
  cases ins with
  | true => simp [hkf.1, q]
  | false =>
    rcases hkf.2 with a | a
    · cases a
    · simp [hkf.1, q, a.1, a.2]
/-- How many have begun behind j moments: those with a lower begin. -/
theorem run_back {l : List Sp} {evs : List Ev} (hl : HsAll (momD l l.length) l) (he : Laid l evs) : ∀ j, j ≤ momD l l.length → ∃ c, c ≤ l.length ∧ (∀ i, i < l.length → (i < c ↔ (spAt l i).beg < (j : Int))) ∧ rn evs j = some (snp l j c, 0)
  | 0, _ => ⟨0, by omega, fun i hi => by have := (hl i hi).b0; constructor <;> intro h <;> omega, by simp [rn, snp]⟩
  | j + 1, hj => by
    obtain ⟨c, hc, hci, hr⟩ := run_back hl he j (by omega)
    obtain ⟨i, hi, r | ⟨q, r⟩⟩ := all_moments hl j (by omega)
    · -- a span begins
      have h := hl i hi
      have hic : i = c := by
        have h1 : ¬ i < c := fun q => by have := (hci i hi).1 q; omega
        by_cases q : c < i
        · have := h.inc c q
          have := (hci c (by omega)).2 (by omega)
          omega
        · omega
      subst hic
      have ee : evAt evs j = begE (spAt l i) := by
        have := (he i hi).1
        rw [← r] at this
        simpa using this
      have nen : ∀ k, k < l.length → (spAt l k).en ≠ (j : Int) := fun k hk q => by
        rcases Nat.lt_trichotomy k i with a | a | a
        · exact h.nb k a (q.trans r)
        · subst a
          have := (h.en (by omega)).1; omega
        · have := (hl k hk).en (by omega)
          exact (this.2.2 i a).1 (r.symm.trans q.symm)
      have hm : ∀ k, k < l.length → msk (j + 1) (spAt l k) = msk j (spAt l k) := fun k hk => by
        have := nen k hk
        unfold msk
        by_cases q : (spAt l k).en ≠ -1 ∧ (spAt l k).en < (j : Int)
        · rw [if_pos q, if_pos ⟨q.1, by omega⟩]
        · rw [if_neg q, if_neg (fun a => q ⟨a.1, by omega⟩)]
      refine ⟨i + 1, by omega, fun k hk => ?_, ?_⟩
      · by_cases e : k < i
        · have := (hci k hk).1 e; constructor <;> intro _ <;> omega
        · by_cases e2 : k = i
          · subst e2; constructor <;> intro _ <;> omega
          · have := (hl k hk).inc i (by omega)
            constructor <;> intro _ <;> omega
      · rw [rn_next hr, ee]
        have hok : okE (begE (spAt l i)) 0 = true := by
          have := h.w0
          unfold okE begE
          split <;> simp <;> omega
        have hon : opn (snp l j i) (begE (spAt l i)).who = none := by
          have hw : (begE (spAt l i)).who = (spAt l i).who := by unfold begE; split <;> rfl
          unfold opn
          rw [hw, snp_len hc]
          refine opnTo_all_shut fun k hk hwk => ?_
          rw [snp_at hc hk, msk_who] at hwk
          rw [snp_at hc hk]
          obtain ⟨q1, q2⟩ := h.wh k hk hwk
          unfold msk
          rw [if_pos ⟨q1, by omega⟩]
          exact q1
        have hbg : begs (begE (spAt l i)).kind = true := by unfold begE begs; split <;> simp
        unfold stp
        rw [if_pos hok, hon]
        simp only
        rw [if_pos hbg]
        simp only [Option.map_some, Option.some.injEq, Prod.mk.injEq]
        refine ⟨?_, by unfold begE; split <;> rfl⟩
        have hb : born j (begE (spAt l i)) = msk (j + 1) (spAt l i) := by
          unfold msk
          rw [if_neg (fun a => by have := (h.en a.1).1; omega)]
          unfold born begE opd
          cases q : (spAt l i).ins <;> simp [r]
        rw [hb]
        unfold snp
        have ht : l.take (i + 1) = l.take i ++ [spAt l i] := by
          rw [List.take_add_one, spAt_get hi]; rfl
        rw [ht, List.map_append, List.map_singleton]
        congr 1
        refine List.map_congr_left fun s hs => ?_
        obtain ⟨k, hk⟩ := List.mem_iff_getElem?.1 (List.mem_of_mem_take hs)
        have hkl : k < l.length := (List.getElem?_eq_some_iff.1 hk).1
        have : s = spAt l k := by rw [spAt_get hkl] at hk; simpa using hk.symm
        rw [this]; exact (hm k hkl).symm
    · -- a span ends
      have h := hl i hi
      obtain ⟨e1, e2, e3⟩ := h.en q
      have hic : i < c := (hci i hi).2 (by omega)
      have ee : evAt evs j = endE (spAt l i) := by
        have := (he i hi).2 q
        rw [← r] at this
        simpa using this
      have nbg : ∀ k, k < l.length → (spAt l k).beg ≠ (j : Int) := fun k hk a => by
        rcases Nat.lt_trichotomy k i with b | b | b
        · exact (e3 k b).1 (a.trans r)
        · subst b; omega
        · exact (hl k hk).nb i b (r.symm.trans a.symm)
      have nen : ∀ k, k < l.length → k ≠ i → (spAt l k).en ≠ (j : Int) := fun k hk hki a => by
        rcases Nat.lt_trichotomy k i with b | b | b
        · exact (e3 k b).2 (a.trans r)
        · exact hki b
        · exact ((hl k hk).en (by omega)).2.2 i b |>.2 (r.symm.trans a.symm)
      refine ⟨c, hc, fun k hk => ?_, ?_⟩
      · have := hci k hk
        have := nbg k hk
        constructor
        · intro a; have := (hci k hk).1 a; omega
        · intro a; exact (hci k hk).2 (by omega)
      · have hmi : msk j (spAt l i) = opd (spAt l i) := by unfold msk; rw [if_neg (fun a => by omega)]
        have hon : opn (snp l j c) (spAt l i).who = some i := by
          unfold opn
          rw [snp_len hc]
          refine opnTo_one (by rw [snp_at hc hic, msk_who]) (by rw [snp_at hc hic, hmi]; rfl) hic fun a a1 a2 hw => ?_
          rw [snp_at hc a2, msk_who] at hw
          have := ((hl a (by omega)).wh i a1 hw.symm).2
          have := (hci a (by omega)).1 a2
          omega
        have hkf := h.kf
        have hin : (opd (spAt l i)).ins = (spAt l i).ins := rfl
        have hok : okE (endE (spAt l i)) 0 = true := by
          have := h.w0
          unfold okE endE
          cases q2 : (spAt l i).ins with
          | true =>
            rw [kfit_ins q q2] at hkf
            simp only [decide_eq_true_eq]
            refine ⟨this, by omega, by omega, by omega, by omega, .inr (.inr ?_)⟩
            rw [if_neg (by omega), if_neg (by omega)]; exact ⟨rfl, rfl⟩
          | false =>
            rw [kfit_out q q2] at hkf
            simp only [decide_eq_true_eq]
            refine ⟨this, by omega, by omega, by omega, by omega, ?_⟩
            rcases hkf with q3 | q3
            · exact .inr (.inl q3)
            · right; right; rw [if_neg (by omega), if_neg (by omega)]; exact ⟨rfl, rfl⟩
        have hends : ends (opd (spAt l i)).ins (endE (spAt l i)).kind = true := by
          unfold ends endE
          rw [hin]
          cases q2 : (spAt l i).ins with
          | true => rw [kfit_ins q q2] at hkf; simp only [decide_eq_true_eq]; rcases hkf with a | a
                    · exact .inr (.inl ⟨a, by simp⟩)
                    · exact .inl a
          | false => rw [kfit_out q q2] at hkf; simp only [decide_eq_true_eq]; rcases hkf with a | ⟨a | a, _⟩
                     · exact .inr (.inr ⟨.inl a, by simp⟩)
                     · exact .inr (.inr ⟨.inr a, by simp⟩)
                     · exact .inl a
        have hsh : shut j (endE (spAt l i)) (opd (spAt l i)) = spAt l i := shut_back q r.symm hkf
        rw [rn_next hr, ee]
        unfold stp
        rw [if_pos hok, show (endE (spAt l i)).who = (spAt l i).who from rfl, hon]
        simp only
        rw [snp_at hc hic, hmi, if_pos hends, hsh]
        simp only [Option.map_some, Option.some.injEq, Prod.mk.injEq]
        refine ⟨?_, rfl⟩
        apply List.ext_getElem?
        intro k
        have hlen : i < (snp l j c).length := by rw [snp_len hc]; exact hic
        rw [List.getElem?_set]
        by_cases hkc : k < c
        · have hkl : k < l.length := by omega
          have g1 : (snp l (j + 1) c)[k]? = some (msk (j + 1) (spAt l k)) := by
            simp [snp, List.getElem?_take_of_lt hkc, spAt_get hkl]
          have g2 : (snp l j c)[k]? = some (msk j (spAt l k)) := by
            simp [snp, List.getElem?_take_of_lt hkc, spAt_get hkl]
          rw [g1]
          split
          · rename_i a
            subst a
            try rw [if_pos hlen]
            unfold msk
            rw [if_pos ⟨q, by omega⟩]
          · rename_i a
            rw [g2]
            congr 1
            have := nen k hkl (fun b => a b.symm)
            unfold msk
            by_cases b : (spAt l k).en ≠ -1 ∧ (spAt l k).en < (j : Int)
            · rw [if_pos b, if_pos ⟨b.1, by omega⟩]
            · rw [if_neg b, if_neg (fun d => b ⟨d.1, by omega⟩)]
        · have g1 : (snp l (j + 1) c)[k]? = none := List.getElem?_eq_none (by rw [snp_len hc]; omega)
          have g2 : (snp l j c)[k]? = none := List.getElem?_eq_none (by rw [snp_len hc]; omega)
          rw [g1, if_neg (by omega), g2]
/-- Run to the end it is the list itself. -/
theorem run_all {l : List Sp} {evs : List Ev} (hl : HsAll (momD l l.length) l) (he : Laid l evs) : rn evs (momD l l.length) = some (l, 0) := by
  obtain ⟨c, hc, hci, hr⟩ := run_back hl he _ (Nat.le_refl _)
  have hcl : c = l.length := by
    by_cases q : c < l.length
    · have := (hci c q).2 (hl c q).bm; omega
    · omega
  subst hcl
  rw [hr]
  congr 2
  unfold snp
  rw [List.take_length]
  conv => rhs; rw [← List.map_id l]
  refine List.map_congr_left fun s hs => ?_
  obtain ⟨k, hk⟩ := List.mem_iff_getElem?.1 hs
  have hkl : k < l.length := (List.getElem?_eq_some_iff.1 hk).1
  have e : s = spAt l k := by rw [spAt_get hkl] at hk; simpa using hk.symm
  rw [e]
  have h := hl k hkl
  unfold msk
  by_cases q : (spAt l k).en = -1
  · rw [if_neg (fun a => a.1 q)]
    exact opd_same q h.kf
  · rw [if_pos ⟨q, (h.en q).2.1⟩]; rfl
end Go.Proofs.Ytfoeljcgbfpknaa
