/- RouteLeast: the marks in memory; no way is shorter than the labels say. -/
import Derived.Test.YthoklgdlnmccmaaLeastBad
import Derived.Test.YthoklgdlnmccmaaLenB
namespace Go.Proofs.Ythoklgdlnmccmaa
open Go.RowKit Go.Lib
set_option linter.unusedVariables false

def bCells (l : List Bool) : Array Value := (l.map Value.bool).toArray
def bAt (l : List Bool) (i : Nat) : Bool := l[i]?.getD false
theorem bAt_set (l : List Bool) (i : Nat) (x : Bool) (v : Nat) (hi : i < l.length) : bAt (l.set i x) v = if v = i then x else bAt l v := by
  unfold bAt
  by_cases h : v = i
  · subst h; simp [hi]
  · rw [if_neg h, List.getElem?_set_ne (by omega)]
/-- A block that holds these marks. -/
def ArrB (w : World) (g : Nat) (l : List Bool) : Prop := w.heap[g]? = some (.cells (bCells l) 4 (0, 0))
theorem ArrB.cell {w : World} {g : Nat} {l : List Bool} (h : ArrB w g l) (i : Nat) (hi : i < l.length) : w.cell? ⟨g, i, none⟩ = some (.bool (bAt l i)) := by
  refine cell_of h ?_
  simp [bCells, bAt, hi]
theorem ArrB.free {w : World} {g : Nat} {l : List Bool} (h : ArrB w g l) (i : Nat) : w.frozen? ⟨g, i, none⟩ = false := free_of h i
theorem ArrB.put {w : World} {g : Nat} {l : List Bool} (h : ArrB w g l) (i : Nat) (x : Bool) : ArrB (w.setCell ⟨g, i, none⟩ (.bool x)) g (l.set i x) := by
  have := heap_set (i := i) h (.bool x)
  unfold ArrB
  rw [this]
  simp [bCells]
theorem Try.info4 : (Try.prog.info? 4).map (fun i => (i.zero, i.size, i.bytes)) = some (some (.bool false), 1, 1) := by kernel_rfl
theorem arrb_made {w : World} {base g n : Nat} (h : w.ownsRow base 4 1 (.slice (some ⟨g, 0, none⟩) n n) n (madeCells (Value.bool false).cells (n * 1)).toList) : ArrB w g (List.replicate n false) := by
  obtain ⟨h1, ⟨he, _⟩ | ⟨g', cap, cur, he, hg, hh, hnc, hcm, hcur, htake⟩⟩ := h
  · simp at he
  · simp only [Value.slice.injEq, Option.some.injEq, Addr.mk.injEq, true_and, and_true] at he
    obtain ⟨rfl, rfl⟩ := he
    rw [List.take_of_length_le (by simp; omega)] at htake
    unfold ArrB
    rw [hh]
    have e : cur = bCells (List.replicate n false) := by
      apply Array.ext'
      rw [htake]
      apply List.ext_getElem
      · simp [madeCells, bCells]
      · intro i h1 h2
        simp [madeCells, bCells, Value.cells, Nat.mod_one]
    rw [e]

/-- The marks behind the first j starts and the first e edges. -/
structure Okay (n : Nat) (st tl wt : List Int) (k : Int) (S : List Pr) (L : List Int) (ok : List Bool) (j e : Nat) : Prop where
  len : ok.length = n
  sts : ∀ i, i < j → ∀ v, v < n → sAt S i = ((v : Int), at_ L v) → bAt ok v = true
  eds : ∀ i, i < e → ext k (at_ L (src st n i)) (at_ wt i) = at_ L (tov tl i) → bAt ok (tov tl i) = true
theorem Okay.init (n : Nat) (st tl wt : List Int) (k : Int) (S : List Pr) (L : List Int) : Okay n st tl wt k S L (List.replicate n false) 0 0 :=
  ⟨by simp, fun i hi => by omega, fun i hi => by omega⟩
section
variable {n : Nat} {st tl wt : List Int} {k : Int} {S : List Pr} {L : List Int} {ok : List Bool} {j e : Nat}
theorem Okay.start (h : Okay n st tl wt k S L ok j e) {v : Nat} (hv : v < n) (hs : (sAt S j).1 = (v : Int)) (b : Bool) (hb : bAt ok v = true ∨ at_ L v = (sAt S j).2 → b = true) : Okay n st tl wt k S L (ok.set v b) (j + 1) e := by
  refine ⟨by rw [List.length_set]; exact h.len, fun i hi u hu hw => ?_, fun i hi hw => ?_⟩
  · rw [bAt_set _ _ _ _ (by rw [h.len]; exact hv)]
    by_cases huv : u = v
    · subst huv
      rw [if_pos rfl]
      rcases Nat.lt_or_ge i j with hij | hij
      · exact hb (.inl (h.sts i hij u hu hw))
      · obtain rfl : i = j := by omega
        exact hb (.inr (by rw [hw]))
    · rw [if_neg huv]
      rcases Nat.lt_or_ge i j with hij | hij
      · exact h.sts i hij u hu hw
      · obtain rfl : i = j := by omega
        rw [hw] at hs
        simp only at hs
        omega
  · rw [bAt_set _ _ _ _ (by rw [h.len]; exact hv)]
    by_cases huv : tov tl i = v
    · rw [if_pos huv]; rw [← huv] at hb; exact hb (.inl (h.eds i hi hw))
    · rw [if_neg huv]; exact h.eds i hi hw
theorem Okay.edge (h : Okay n st tl wt k S L ok j e) (hv : tov tl e < n) (b : Bool) (hb : bAt ok (tov tl e) = true ∨ ext k (at_ L (src st n e)) (at_ wt e) = at_ L (tov tl e) → b = true) : Okay n st tl wt k S L (ok.set (tov tl e) b) j (e + 1) := by
  refine ⟨by rw [List.length_set]; exact h.len, fun i hi u hu hw => ?_, fun i hi hw => ?_⟩
  · rw [bAt_set _ _ _ _ (by rw [h.len]; exact hv)]
    by_cases huv : u = tov tl e
    · rw [if_pos huv]; rw [← huv] at hb; exact hb (.inl (h.sts i hi u hu hw))
    · rw [if_neg huv]; exact h.sts i hi u hu hw
  · rw [bAt_set _ _ _ _ (by rw [h.len]; exact hv)]
    by_cases huv : tov tl i = tov tl e
    · rw [if_pos huv]
      rcases Nat.lt_or_ge i e with hie | hie
      · rw [← huv] at hb
        exact hb (.inl (h.eds i hie hw))
      · obtain rfl : i = e := by omega
        exact hb (.inr hw)
    · rw [if_neg huv]
      rcases Nat.lt_or_ge i e with hie | hie
      · exact h.eds i hie hw
      · obtain rfl : i = e := by omega
        exact absurd rfl huv
theorem Okay.all (h : Okay n st tl wt k S L ok S.length tl.length) (hf : Found n st tl wt k S L) {v : Nat} (hv : v < n) (hne : at_ L v ≠ Nev) : bAt ok v = true := by
  rcases hf.att v hv hne with ⟨i, hi, hw⟩ | ⟨i, hi, hw, hx⟩
  · exact h.sts i hi v hv hw
  · subst hw; exact h.eds i hi hx

/-- Along a way from a start the label does not become less than the label of the way's end. -/
theorem way_ge (hg : Good n st tl wt) (hf : Found n st tl wt k S L) (hw : ∀ e, 0 ≤ at_ wt e ∧ at_ wt e ≤ 18446744073709551615) {q : Nat} (hq : q < S.length) (hq0 : 0 ≤ (sAt S q).2) (hq1 : (sAt S q).2 ≤ 18446744073709551615) {way : List Int} (hl : 0 < way.length)
    (h0 : 0 ≤ at_ way 0 ∧ at_ way 0 < (tl.length : Int)) (hs : (src st n (at_ way 0).toNat : Int) = (sAt S q).1) (hst : ∀ i, i < way.length → stepNo n st tl way i = 0) :
    ∀ i, i < way.length → at_ L (tov tl (at_ way i).toNat) ≤ lab k (sAt S q).2 wt way (i + 1) ∧ lab k (sAt S q).2 wt way (i + 1) ≤ 18446744073709551615 ∧ 0 ≤ lab k (sAt S q).2 wt way (i + 1) := by
  have hin : ∀ i, i < way.length → 0 ≤ at_ way i ∧ at_ way i < (tl.length : Int) := fun i hi => by
    have := hst i hi
    unfold stepNo at this
    by_cases h : 0 ≤ at_ way i ∧ at_ way i < (tl.length : Int)
    · exact h
    · rw [if_neg h] at this; omega
  intro i
  induction i with
  | zero =>
    intro hi
    obtain ⟨v, hvn, hv, hle⟩ := hf.sts q hq
    have hb := hf.bell (at_ way 0).toNat (by have := hin 0 hi; omega)
    have hsv : src st n (at_ way 0).toNat = v := by omega
    rw [hsv] at hb
    have hwt := hw (at_ way 0).toNat
    have hm := ext_mono (k := k) hq1 hle hwt.1
    have hbd := ext_bound (k := k) hq0 hq1 hwt.1 hwt.2
    exact ⟨Int.le_trans hb hm, hbd.2, hbd.1⟩
  | succ i ih =>
    intro hi
    obtain ⟨h1, h2, h3⟩ := ih (by omega)
    have hb := hf.bell (at_ way (i + 1)).toNat (by have := hin (i + 1) hi; omega)
    have hsv : src st n (at_ way (i + 1)).toNat = tov tl (at_ way i).toNat := by
      have hc := hst (i + 1) hi
      unfold stepNo at hc
      rw [if_pos (hin (i + 1) hi)] at hc
      have ht := (tov_lt hg (e := (at_ way i).toNat) (by have := hin i (by omega); omega)).2
      by_cases hd : 0 < i + 1 ∧ (src st n (at_ way (i + 1)).toNat : Int) ≠ at_ tl (at_ way (i + 1 - 1)).toNat
      · rw [if_pos hd] at hc; omega
      · simp only [Nat.add_sub_cancel] at hd
        omega
    rw [hsv] at hb
    have hwt := hw (at_ way (i + 1)).toNat
    have hm := ext_mono (k := k) h2 h1 hwt.1
    have hbd := ext_bound (k := k) h3 h2 hwt.1 hwt.2
    exact ⟨Int.le_trans hb hm, hbd.2, hbd.1⟩
end
end Go.Proofs.Ythoklgdlnmccmaa
