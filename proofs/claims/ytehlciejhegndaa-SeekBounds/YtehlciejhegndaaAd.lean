import Derived.Test.YtehlciejhegndaaFaP
import Derived.Test.YtehlciejhegndaaLists
import Derived.Maps.AppendAt
import Derived.BigRegion
import Derived.BigQuiet
import Derived.Deep.Draws
/- areDistances: plain. -/
namespace Go.Proofs.Ytehlciejhegndaa
open Go.RowKit Go.Lib
set_option linter.unusedVariables false
def bAt (l : List Bool) (i : Nat) : Bool := l[i]?.getD false
theorem bAt_set {l : List Bool} {i j : Nat} (hi : i < l.length) : bAt (l.set i true) j = if j = i then true else bAt l j := by
  unfold bAt
  rw [List.getElem?_set]
  by_cases h : i = j
  · subst h; simp [hi]
  · rw [if_neg h, if_neg (fun e => h e.symm)]
def fls (n : Nat) : List Bool := List.replicate n false
theorem fls_at (n i : Nat) : bAt (fls n) i = false := by
  unfold bAt fls
  by_cases h : i < n <;> simp [h]
/-- How many are not marked. -/
def unm (B : List Bool) : Nat := B.count false
theorem unm_set {B : List Bool} {x : Nat} (hx : x < B.length) (hb : bAt B x = false) : unm (B.set x true) + 1 = unm B := by
  unfold unm
  have hx' : B[x] = false := by unfold bAt at hb; rw [List.getElem?_eq_getElem hx] at hb; simpa using hb
  rw [List.count_set hx, hx']
  have : 0 < B.count false := List.count_pos_iff.2 (by rw [← hx']; exact List.getElem_mem hx)
  simp
  omega
theorem unm_fls (n : Nat) : unm (fls n) = n := by simp [unm, fls]
/-- A walk along tight edges under way: B: what is met; O: met, and its row not yet gone over; of the row of v the places below i are done. -/
structure AS (n : Nat) (st tl wt L : List Int) (f : Nat) (B : List Bool) (O : List Nat) (v i : Nat) : Prop where
  len : B.length = n
  pos : ∀ u, u < n → bAt B u = true → 0 ≤ at_ L u ∧ at_ L u + ((unm B : Nat) + 1) * 4294967295 ≤ (n : Int) * 4294967295
  came : ∀ u, u < n → bAt B u = true → Came n st tl wt 1 (S0 [(f : Int)]) u (at_ L u)
  att : ∀ u, u < n → bAt B u = true → u = f ∨ ∃ e, e < tl.length ∧ tov tl e = u ∧ at_ L (src st n e) + at_ wt e = at_ L u ∧ bAt B (src st n e) = true
  opn : ∀ u, u ∈ O → u < n ∧ bAt B u = true
  don : ∀ e, e < tl.length → bAt B (src st n e) = true → src st n e ∉ O → (src st n e = v → e < i) → at_ L (tov tl e) ≤ at_ L (src st n e) + at_ wt e ∧ (at_ L (src st n e) + at_ wt e = at_ L (tov tl e) → bAt B (tov tl e) = true)
  frm : bAt B f = true
  f_lt : f < n
  zero : at_ L f = 0
section
variable {n : Nat} {st tl wt L : List Int} {f : Nat} {B : List Bool} {O : List Nat} {v i x e : Nat}
theorem good_wt (hg : Good n st tl wt) (he : e < tl.length) (hw : 0 ≤ at_ wt e) : at_ wt e ≤ 4294967295 := by
  have := hg.edges e he
  unfold edgeNo at this
  split at this
  · split at this <;> omega
  · omega
theorem came_f (hf : f < n) : Came n st tl wt 1 (S0 [(f : Int)]) f 0 := Came.start 0 f 0 (by simp [S0]) hf (by simp [S0, sAt])
theorem AS.start (hf : f < n) (h0 : at_ L f = 0) : AS n st tl wt L f ((fls n).set f true) [f] n 0 := by
  have hl : f < (fls n).length := by simp [fls]; exact hf
  have hu := unm_set hl (fls_at n f)
  rw [unm_fls] at hu
  have key : ∀ u, bAt ((fls n).set f true) u = true → u = f := fun u hb => by
    rw [bAt_set hl] at hb
    by_cases e : u = f
    · exact e
    · rw [if_neg e, fls_at] at hb; cases hb
  refine ⟨by simp [fls], fun u _ hb => ?_, fun u _ hb => ?_, fun u _ hb => .inl (key u hb), fun u hu => ?_, fun e _ hb ho _ => ?_, ?_, hf, h0⟩
  · obtain rfl := key u hb
    rw [h0]
    refine ⟨Int.le_refl _, ?_⟩
    omega
  · obtain rfl := key u hb
    rw [h0]
    exact came_f hf
  · simp at hu; subst hu; exact ⟨hf, by rw [bAt_set hl]; simp⟩
  · exact absurd (by rw [key _ hb]; simp) ho
  · rw [bAt_set hl]; simp
theorem AS.small (h : AS n st tl wt L f B O v i) (hg : Good n st tl wt) {u : Nat} (hu : u < n) (hb : bAt B u = true) : 0 ≤ at_ L u ∧ at_ L u ≤ 4503599627370496 := by
  obtain ⟨h1, h2⟩ := h.pos u hu hb
  have := hg.n_le
  refine ⟨h1, ?_⟩
  have h3 : (0 : Int) ≤ ((unm B : Nat) : Int) := by omega
  omega
theorem ext_small {a b : Int} (h1 : a ≤ 4503599627370496) (h2 : b ≤ 4294967295) : ext 1 a b = a + b := by
  unfold ext
  rw [if_neg (by omega), if_pos rfl, if_pos (by omega)]
theorem AS.mark (h : AS n st tl wt L f B O v i) (hg : Good n st tl wt) (hw : ∀ e, 0 ≤ at_ wt e ∧ at_ wt e ≤ 18446744073709551615) (he : e < tl.length) (hs : src st n e = v) (hv : bAt B v = true) (hx : tov tl e = x) (ht : at_ L v + at_ wt e = at_ L x) (hb : bAt B x = false) : AS n st tl wt L f (B.set x true) (O ++ [x]) v i := by
  have hxn : x < n := by rw [← hx]; exact (tov_lt hg he).1
  have hvn : v < n := by rw [← hs]; exact src_lt hg he
  have hl : x < B.length := by rw [h.len]; exact hxn
  have hun := unm_set hl hb
  have hwt := good_wt hg he (hw e).1
  have hp := h.pos v hvn hv
  have hsm := h.small hg hvn hv
  refine ⟨by rw [List.length_set]; exact h.len, fun u hu hbu => ?_, fun u hu hbu => ?_, fun u hu hbu => ?_, fun u hu => ?_, fun e' he' hb' ho hv' => ?_, ?_, h.f_lt, h.zero⟩
  · rw [bAt_set hl] at hbu
    by_cases c : u = x
    · subst c
      have := (hw e).1
      refine ⟨by omega, ?_⟩
      have e1 : ((unm B : Nat) : Int) = ((unm (B.set u true) : Nat) : Int) + 1 := by omega
      rw [e1] at hp
      omega
    · rw [if_neg c] at hbu
      have := h.pos u hu hbu
      refine ⟨this.1, ?_⟩
      have e1 : ((unm B : Nat) : Int) = ((unm (B.set x true) : Nat) : Int) + 1 := by omega
      rw [e1] at this
      omega
  · rw [bAt_set hl] at hbu
    by_cases c : u = x
    · subst c
      rw [← ht, ← ext_small hsm.2 hwt]
      have := Came.edge (n := n) (st := st) (tl := tl) (wt := wt) (k := 1) (S := S0 [(f : Int)]) e (at_ L v) he (by unfold Nev; omega) (by rw [hs]; exact h.came v hvn hv)
      rw [hx] at this
      exact this
    · rw [if_neg c] at hbu; exact h.came u hu hbu
  · rw [bAt_set hl] at hbu
    have up : ∀ q, bAt B q = true → bAt (B.set x true) q = true := fun q hq => by rw [bAt_set hl]; split; rfl; exact hq
    by_cases c : u = x
    · subst c
      exact .inr ⟨e, he, hx, by rw [hs]; exact ht, up _ (by rw [hs]; exact hv)⟩
    · rw [if_neg c] at hbu
      rcases h.att u hu hbu with q | ⟨e', h1, h2, h3, h4⟩
      · exact .inl q
      · exact .inr ⟨e', h1, h2, h3, up _ h4⟩
  · rw [bAt_set hl]
    rcases List.mem_append.1 hu with hu | hu
    · exact ⟨(h.opn u hu).1, by split; rfl; exact (h.opn u hu).2⟩
    · simp at hu; subst hu; exact ⟨hxn, by simp⟩
  · rw [bAt_set hl] at hb'
    have hne : src st n e' ≠ x := fun c => ho (by rw [c]; simp)
    rw [if_neg hne] at hb'
    obtain ⟨h1, h2⟩ := h.don e' he' hb' (fun c => ho (List.mem_append.2 (.inl c))) hv'
    refine ⟨h1, fun q => ?_⟩
    rw [bAt_set hl]
    split
    · rfl
    · exact h2 q
  · rw [bAt_set hl]
    split
    · rfl
    · exact h.frm
theorem AS.popLast (h : AS n st tl wt L f B (O ++ [v]) n 0) (hg : Good n st tl wt) (hi : at_ st v = (i : Int)) : AS n st tl wt L f B O v i := by
  refine ⟨h.len, h.pos, h.came, h.att, fun u hu => h.opn u (List.mem_append.2 (.inl hu)), fun e he hb ho hv => h.don e he hb (fun c => ?_) (fun c => by have := src_lt hg he; omega), h.frm, h.f_lt, h.zero⟩
  rcases List.mem_append.1 c with c | c
  · exact ho c
  · simp at c
    have h1 := hv c
    have h2 := (src_spec hg he).1
    rw [c, hi] at h2
    omega
theorem AS.next (h : AS n st tl wt L f B O v i) (h1 : at_ L (tov tl i) ≤ at_ L v + at_ wt i) (h2 : at_ L v + at_ wt i = at_ L (tov tl i) → bAt B (tov tl i) = true) : AS n st tl wt L f B O v (i + 1) :=
  ⟨h.len, h.pos, h.came, h.att, h.opn, fun e he hs ho hv => by
    by_cases c : e = i
    · by_cases q : src st n e = v
      · rw [q, c]; exact ⟨h1, h2⟩
      · exact h.don e he hs ho (fun k => absurd k q)
    · exact h.don e he hs ho (fun k => by have := hv k; omega), h.frm, h.f_lt, h.zero⟩
theorem AS.rowEnd (h : AS n st tl wt L f B O v i) (hg : Good n st tl wt) (hi : at_ st (v + 1) = (i : Int)) : AS n st tl wt L f B O n 0 :=
  ⟨h.len, h.pos, h.came, h.att, h.opn, fun e he hs ho hv => h.don e he hs ho (fun k => by
    have := (src_spec hg he).2
    rw [k, hi] at this
    omega), h.frm, h.f_lt, h.zero⟩
theorem s1_len : (S0 [(f : Int)]).length = 1 := by simp [S0]
theorem s1_at : sAt (S0 [(f : Int)]) 0 = ((f : Int), 0) := by simp [S0, sAt]
theorem AS.edge (h : AS n st tl wt L f B [] n 0) (hg : Good n st tl wt) (he : e < tl.length) (hb : bAt B (src st n e) = true) : at_ L (tov tl e) ≤ at_ L (src st n e) + at_ wt e ∧ (at_ L (src st n e) + at_ wt e = at_ L (tov tl e) → bAt B (tov tl e) = true) :=
  h.don e he hb (by simp) (fun c => by have := src_lt hg he; omega)
/-- All that is not Never is met: these are the labels. -/
theorem AS.found (h : AS n st tl wt L f B [] n 0) (hg : Good n st tl wt) (hw : ∀ e, 0 ≤ at_ wt e ∧ at_ wt e ≤ 18446744073709551615) (hl : L.length = n) (hr : ∀ v, v < n → 0 ≤ at_ L v ∧ at_ L v ≤ Nev) (hu : ∀ v, v < n → bAt B v = false → at_ L v = Nev) : Found n st tl wt 1 (S0 [(f : Int)]) L := by
  have met : ∀ v, v < n → at_ L v ≠ Nev → bAt B v = true := fun v hv hn => by
    cases hb : bAt B v with
    | true => rfl
    | false => exact absurd (hu v hv hb) hn
  refine ⟨hl, hr, fun e he => ?_, fun v hv hn => ?_, fun j hj => ?_, fun v hv hn => h.came v hv (met v hv hn)⟩
  · have hs := src_lt hg he
    have hwt := good_wt hg he (hw e).1
    cases hb : bAt B (src st n e) with
    | true =>
      rw [ext_small (h.small hg hs hb).2 hwt]
      exact (h.edge hg he hb).1
    | false =>
      rw [hu _ hs hb]
      have := (hr (tov tl e) (tov_lt hg he).1).2
      unfold ext
      unfold Nev at this ⊢
      rw [if_pos rfl]
      exact this
  · rcases h.att v hv (met v hv hn) with q | ⟨e, he, h1, h2, h3⟩
    · refine .inl ⟨0, by rw [s1_len]; omega, ?_⟩
      rw [s1_at, q, h.zero]
    · exact .inr ⟨e, he, h1, by rw [ext_small (h.small hg (src_lt hg he) h3).2 (good_wt hg he (hw e).1)]; exact h2⟩
  · rw [s1_len] at hj
    obtain rfl : j = 0 := by omega
    rw [s1_at]
    exact ⟨f, h.f_lt, rfl, by rw [h.zero]; exact Int.le_refl _⟩
/-- An edge makes less: these are not the labels. -/
theorem AS.less (h : AS n st tl wt L f B O v i) (hg : Good n st tl wt) (hw : ∀ e, 0 ≤ at_ wt e ∧ at_ wt e ≤ 18446744073709551615) (he : e < tl.length) (hs : src st n e = v) (hv : bAt B v = true) (hl : at_ L v + at_ wt e < at_ L (tov tl e)) : ¬ Found n st tl wt 1 (S0 [(f : Int)]) L := fun hf => by
  have hb := hf.bell e he
  have hvn : v < n := by rw [← hs]; exact src_lt hg he
  rw [hs, ext_small (h.small hg hvn hv).2 (good_wt hg he (hw e).1)] at hb
  omega
theorem not_zero (hf : f < n) (h0 : at_ L f ≠ 0) : ¬ Found n st tl wt 1 (S0 [(f : Int)]) L := fun hF => by
  obtain ⟨u, h1, h2, h3⟩ := hF.sts 0 (by rw [s1_len]; omega)
  rw [s1_at] at h2 h3
  simp only at h2 h3
  obtain rfl : u = f := by omega
  have := (hF.rng u h1).1
  omega
/-- Something is left that is not Never: these are not the labels. -/
theorem AS.left (h : AS n st tl wt L f B [] n 0) (hg : Good n st tl wt) (hw : ∀ e, 0 ≤ at_ wt e ∧ at_ wt e ≤ 18446744073709551615) {v : Nat} (hv : v < n) (hb : bAt B v = false) (hn : at_ L v ≠ Nev) : ¬ Found n st tl wt 1 (S0 [(f : Int)]) L := fun hf => by
  have hS : ∀ j, j < (S0 [(f : Int)]).length → 0 ≤ (sAt (S0 [(f : Int)]) j).2 ∧ (sAt (S0 [(f : Int)]) j).2 ≤ 18446744073709551615 := fun j hj => by
    rw [s1_len] at hj
    obtain rfl : j = 0 := by omega
    rw [s1_at]; simp
  have up : ∀ m : Nat, (∀ u, u < n → bAt B u = false → at_ L u ≠ Nev → (m : Int) ≤ at_ L u) → ∀ u x, Came n st tl wt 1 (S0 [(f : Int)]) u x → u < n → bAt B u = false → (m : Int) < x := by
    intro m hm u x hc
    induction hc with
    | start j u x hj hu hs =>
      intro _ hbu
      rw [s1_len] at hj
      obtain rfl : j = 0 := by omega
      rw [s1_at] at hs
      simp only [Prod.mk.injEq] at hs
      obtain rfl : f = u := by omega
      rw [h.frm] at hbu; cases hbu
    | edge e x he hx hc ih =>
      intro hu hbu
      have hs := src_lt hg he
      have hle := hf.le hw hS hc
      have hwt := good_wt hg he (hw e).1
      have hmono := ext_mono (k := 1) hle.2.2 hle.1 (hw e).1
      cases hbs : bAt B (src st n e) with
      | true =>
        have hsm := h.small hg hs hbs
        obtain ⟨h1, h2⟩ := h.edge hg he hbs
        rw [ext_small hsm.2 hwt] at hmono
        have h3 : at_ L (src st n e) + at_ wt e ≠ at_ L (tov tl e) := fun q => by rw [h2 q] at hbu; cases hbu
        have h4 : at_ L (tov tl e) ≠ Nev := by unfold Nev; omega
        have := hm _ hu hbu h4
        omega
      | false =>
        have := ih hs hbs
        have hx' : x ≤ 18446744073709551614 := by
          have := hle.2.2
          unfold Nev at hx
          omega
        have := (hw e).1
        unfold ext
        rw [if_neg (by omega), if_pos rfl]
        split <;> omega
  have all : ∀ m : Nat, ∀ u, u < n → bAt B u = false → at_ L u ≠ Nev → (m : Int) ≤ at_ L u := by
    intro m
    induction m with
    | zero => intro u hu _ _; exact (hf.rng u hu).1
    | succ m ih =>
      intro u hu hbu hnu
      have := up m ih u _ (hf.came u hu hnu) hu hbu
      omega
  have := all 18446744073709551616 v hv hb hn
  have := (hf.rng v hv).2
  unfold Nev at this
  omega
end
end Go.Proofs.Ytehlciejhegndaa

/- areDistances' memory: what is met, and the open ones. -/
namespace Go.Proofs.Ytehlciejhegndaa
open Go.RowKit Go.Lib
set_option linter.unusedVariables false
def bCells (l : List Bool) : Array Value := (l.map Value.bool).toArray
def ArrB (w : World) (g : Nat) (l : List Bool) : Prop := w.heap[g]? = some (.cells (bCells l) 4 (0, 0))
theorem ArrB.cell {w : World} {g : Nat} {l : List Bool} (h : ArrB w g l) (i : Nat) (hi : i < l.length) : w.cell? ⟨g, i, none⟩ = some (.bool (bAt l i)) := by
  refine cell_of h ?_
  simp [bCells, bAt, hi]
theorem ArrB.free {w : World} {g : Nat} {l : List Bool} (h : ArrB w g l) (i : Nat) : w.frozen? ⟨g, i, none⟩ = false := free_of h i
theorem ArrB.put {w : World} {g : Nat} {l : List Bool} (h : ArrB w g l) (i : Nat) (x : Bool) : ArrB (w.setCell ⟨g, i, none⟩ (.bool x)) g (l.set i x) := by
  have := heap_set (i := i) h (.bool x)
  unfold ArrB
  rw [this]
  simp [bCells]
def oCells (O : List Nat) : List Value := O.map fun (v : Nat) => Value.int .i64 (v : Int)
theorem own_type {w : World} {lo m : Nat} {v : Value} {xs : List Value} (h : w.ownsRow lo 3 1 v m xs) {g : Nat} (hg : v.ownBlock = some g) : lo ≤ g ∧ ∃ c f, w.heap[g]? = some (.cells c 3 f) := by
  obtain ⟨_, ⟨rfl, _⟩ | ⟨g', cap, cur, rfl, hl, hh, _⟩⟩ := h
  · simp [Value.ownBlock] at hg
  · simp [Value.ownBlock] at hg
    subst hg
    exact ⟨hl, _, _, hh⟩
theorem own_slice {w : World} {lo m : Nat} {v : Value} {xs : List Value} (h : w.ownsRow lo 3 1 v m xs) : ∃ ao c, v = .slice ao m c := by
  obtain ⟨_, ⟨rfl, hm⟩ | ⟨g', cap, cur, rfl, _⟩⟩ := h
  · exact ⟨none, 0, by rw [hm]⟩
  · exact ⟨_, _, rfl⟩
theorem own_keepB {w w' : World} {lo m : Nat} {v : Value} {xs : List Value} (h : w.ownsRow lo 3 1 v m xs) (hk : ∀ g, v.ownBlock = some g → w'.heap[g]? = w.heap[g]?) : w'.ownsRow lo 3 1 v m xs := by
  obtain ⟨h1, h2⟩ := h
  refine ⟨h1, h2.imp id ?_⟩
  rintro ⟨g, cap, cur, rfl, hl, hh, r⟩
  exact ⟨g, cap, cur, rfl, hl, (hk g rfl).trans hh, r⟩
theorem own_last {w : World} {lo m : Nat} {ao : Option Addr} {c : Nat} {xs : List Value} {y : Value} (h : w.ownsRow lo 3 1 (.slice ao (m + 1) c) (m + 1) (xs ++ [y])) (hx : xs.length = m) :
    ∃ g, ao = some ⟨g, 0, none⟩ ∧ m + 1 ≤ c ∧ w.cell? ⟨g, m, none⟩ = some y ∧ w.ownsRow lo 3 1 (.slice ao m c) m xs := by
  obtain ⟨h1, ⟨he, _⟩ | ⟨g, cap, cur, he, hl, hh, hnc, hcm, hcur, htake⟩⟩ := h
  · simp at he
  · simp only [Value.slice.injEq, true_and] at he
    obtain ⟨rfl, rfl⟩ := he
    simp only [Nat.mul_one] at htake
    have hc : cur.toList[m]? = some y := by
      have : (cur.toList.take (m + 1))[m]? = some y := by rw [htake, List.getElem?_append_right (by omega)]; simp [hx]
      rw [List.getElem?_take_of_lt (by omega)] at this
      exact this
    refine ⟨g, rfl, hnc, ?_, ?_⟩
    · refine cell_of hh ?_
      rw [← Array.getElem?_toList]; exact hc
    · refine ⟨by simp [hx], .inr ⟨g, c, cur, rfl, hl, hh, by omega, hcm, hcur, ?_⟩⟩
      simp only [Nat.mul_one]
      have e : cur.toList.take m = (cur.toList.take (m + 1)).take m := by rw [List.take_take, Nat.min_eq_left (by omega)]
      rw [e, htake, List.take_append_of_le_length (by omega), List.take_of_length_le (by omega)]
def fal : Value → Bool | .bool false => true | _ => false
def unmW (w : World) (R : Nat) : Nat := match w.heap[R]? with | some (.cells cs _ _) => cs.toList.countP fal | _ => 0
theorem Try.infoB : (Try.prog.info? 4).map (fun i => (i.zero, i.size, i.bytes)) = some (some (.bool false), 1, 1) := by kernel_rfl
theorem run_makeB (k : Nat) (hk : k ≤ 4194305) (w : World) :
    (Instr.makeSlice 82 (.int .i64 k) (.int .i64 k)).run Try.prog w = .ok (.slice (some ⟨w.heap.size, 0, none⟩) k k) (w.alloc (.cells (madeCells #[.bool false] k) 4)) := by
  obtain ⟨i0, hi, hz0, hz1, hz2⟩ := info_parts Try.infoB
  have h := run_make (P := Try.prog) w 82 4 i0 (.bool false) Try.underlying82 hi hz0 .i64 .i64 k k (by omega) (Int.le_refl _) (by rw [hz2]; omega) (by omega)
  rw [hz1] at h
  simp only [Int.toNat_natCast, Nat.mul_one] at h
  exact h
theorem made_bools (n : Nat) : madeCells #[.bool false] n = bCells (fls n) := by
  apply Array.ext'
  simp [madeCells, bCells, fls]
  apply List.ext_getElem
  · simp
  · intro i h1 h2
    simp [Nat.mod_one]
/-- The graph's box, what is met (the block lo), the open ones' row. -/
structure AM (w wr : World) (lo n : Nat) (va vb vc : Value) (B : List Bool) (O : List Nat) (ov : Value) : Prop where
  bg : wr.heap[w.heap.size]? = some (.cells #[.int .i64 n, va, vb, vc] 25 (0, 0))
  ab : ArrB wr lo B
  ow : wr.ownsRow (lo + 1) 3 1 ov O.length (oCells O)
  bel : Below w.heap.size w wr
  hlo : w.heap.size < lo
  sz : lo < wr.heap.size
theorem AM.drew {w wr : World} {lo n : Nat} {va vb vc : Value} {B : List Bool} {O : List Nat} {ov : Value} (h : AM w wr lo n va vb vc B O ov) (k : Nat) : AM w (wr.drewN k) lo n va vb vc B O ov := by
  have hb : Below wr.heap.size wr (wr.drewN k) := below_drewN (Below.refl _ _) k
  exact ⟨(hb.block _ (lt_of_heap h.bg)).trans h.bg, (hb.block _ (lt_of_heap h.ab)).trans h.ab, own_keepB h.ow (fun g hg => by
    obtain ⟨_, c, f, h2⟩ := own_type h.ow hg
    exact hb.block _ (lt_of_heap h2)), below_on h.bel hb, h.hlo, Nat.lt_of_lt_of_le h.sz hb.size⟩
theorem AM.mark {w wr w3 : World} {lo n : Nat} {va vb vc : Value} {B : List Bool} {O : List Nat} {ov v3 : Value} {x : Nat} {o : Obj} (h : AM w wr lo n va vb vc B O ov)
    (hown : w3.ownsRow (lo + 1) 3 1 v3 (O.length + 1) (oCells O ++ [.int .i64 (x : Int)])) (hg : ((wr.setCell ⟨lo, x, none⟩ (.bool true)).alloc o).grownBy w3 ov.ownBlock) : AM w w3 lo n va vb vc (B.set x true) (O ++ [x]) v3 := by
  have hne : ∀ g, ov.ownBlock = some g → g ≠ lo ∧ lo + 1 ≤ g := fun g e => by
    obtain ⟨h1, _⟩ := own_type h.ow e
    exact ⟨by omega, h1⟩
  have hk : ∀ k, k < wr.heap.size → k ≠ lo → (∀ g, ov.ownBlock = some g → g ≠ k) → w3.heap[k]? = wr.heap[k]? := fun k hk hl hn => by
    rw [hg.block k (by simp [World.setCell]; omega) (fun e => hn k e.symm rfl), Below.heap_alloc _ _ _ (by simp [World.setCell]; omega), Below.heap_setCell _ _ _ _ (by exact hl)]
  have ha : ArrB w3 lo (B.set x true) := by
    have h1 := h.ab.put x true
    have hl := lt_of_heap h.ab
    unfold ArrB at h1 ⊢
    rw [hg.block lo (by simp [World.setCell]; omega) (fun e => (hne lo e.symm).1 rfl), Below.heap_alloc _ _ _ (by simp [World.setCell]; omega)]
    exact h1
  refine ⟨(hk _ (lt_of_heap h.bg) (by have := h.hlo; omega) (fun g e => by have := (hne g e).2; have := h.hlo; omega)).trans h.bg, ha, by simpa [oCells] using hown, ?_, h.hlo, ?_⟩
  · refine ((h.bel.setCell (p := ⟨lo, x, none⟩) (by show w.heap.size ≤ lo; have := h.hlo; omega) _).alloc (by have := h.bel.size; simp [World.setCell]; omega) o).grown hg (by have := h.bel.size; simp [World.setCell]; omega) (fun j hj => by have := (hne j hj).2; have := h.hlo; omega)
  · have := hg.size
    have := h.sz
    simp [World.setCell] at *
    omega
theorem AM.pop {w wr : World} {lo n m c : Nat} {va vb vc : Value} {B : List Bool} {O : List Nat} {ao : Option Addr} {v : Nat} (h : AM w wr lo n va vb vc B (O ++ [v]) (.slice ao m c)) : 
    ∃ g, ao = some ⟨g, 0, none⟩ ∧ m = O.length + 1 ∧ m ≤ c ∧ wr.cell? ⟨g, O.length, none⟩ = some (.int .i64 (v : Int)) ∧ AM w wr lo n va vb vc B O (.slice ao O.length c) := by
  have h1 := h.ow
  obtain ⟨ao', c', he⟩ := own_slice h1
  simp only [Value.slice.injEq, List.length_append, List.length_singleton] at he
  obtain ⟨rfl, rfl, rfl⟩ := he
  have h2 : wr.ownsRow (lo + 1) 3 1 (.slice ao (O.length + 1) c) (O.length + 1) (oCells O ++ [.int .i64 (v : Int)]) := by simpa [oCells] using h1
  obtain ⟨g, rfl, q1, q2, q3⟩ := own_last h2 (by simp [oCells])
  exact ⟨g, rfl, rfl, q1, q2, h.bg, h.ab, q3, h.bel, h.hlo, h.sz⟩
end Go.Proofs.Ytehlciejhegndaa

/- areDistances. -/
namespace Go.Proofs.Ytehlciejhegndaa
open Go.RowKit Go.Lib
set_option linter.unusedVariables false
attribute [local go_sem] Oper.semAt_some
theorem mdec3 {i n : Nat} (h : i < n) : n - (RowKit.intOf (.int .i64 ((i : Int) + 1))).toNat < n - (RowKit.intOf (.int .i64 (i : Int))).toNat := by simp [RowKit.intOf]; omega
theorem one_own (w : World) (x : Int) (base : Nat) (hb : base ≤ w.heap.size) : (w.alloc (.cells #[.int .i64 x] 3)).ownsRow base 3 1 (.slice (some ⟨w.heap.size, 0, none⟩) 1 1) 1 ([x].map (Value.int .i64)) :=
  ⟨by simp, .inr ⟨w.heap.size, 1, #[.int .i64 x], rfl, hb, heap_new _ _, Nat.le_refl _, by decide, by simp, by simp⟩⟩
theorem concat_of {α : Type} {l : List α} (h : l ≠ []) : ∃ k v, l = k ++ [v] := ⟨l.dropLast, l.getLast h, (List.dropLast_concat_getLast h).symm⟩
set_option maxRecDepth 100000 in
set_option maxHeartbeats 8000000 in
theorem areDist_any (n : Nat) (va vb vc : Value) (st tl wt : List Int) (f : Nat) (lv : Value) (L : List Int) (b : Bool) (w : World) (hg : GIs w n va vb vc st tl wt) (hgd : Good n st tl wt) (hwb : ∀ e, 0 ≤ at_ wt e ∧ at_ wt e ≤ 18446744073709551615) (hf : f < n) (hL : RowAt .u64 w lv L) (hll : L.length = n) (hr : ∀ v, v < n → 0 ≤ at_ L v ∧ at_ L v ≤ Nev) (hb : b = true ↔ Found n st tl wt 1 (S0 [(f : Int)]) L) :
    Calls Try.prog 64 #[gAgg n va vb vc, .int .i64 f, lv] w fun e w' => e = .returned (.bool b) ∧ Below w.heap.size w w' := by
  obtain ⟨ao, ca, rfl⟩ := hg.s.shape
  obtain ⟨bo, cb, rfl⟩ := hg.t.shape
  obtain ⟨co, cc, rfl⟩ := hg.u.shape
  obtain ⟨gl, ol, lc, rfl, hlc, l0⟩ := hL.cellAt f (by omega)
  have hn := hgd.n_le
  have hml := hgd.m_le
  have HNF : Hid (¬ Found n st tl wt 1 (S0 [(f : Int)]) L → b = false) := fun h => by
    cases b with
    | false => rfl
    | true => exact absurd (hb.1 rfl) h
  have HYF : Hid (Found n st tl wt 1 (S0 [(f : Int)]) L → b = true) := fun h => hb.2 h
  have HLC : Hid (∀ W, Below w.heap.size w W → ∀ i, i < n → W.cell? ⟨gl, ol + i, none⟩ = some (.int .u64 (at_ L i))) := fun W h i hi => by
    obtain ⟨g, o, c, hs, hc, d⟩ := hL.cellAt i (by omega)
    simp only [Value.slice.injEq, true_and, Option.some.injEq, Addr.mk.injEq, and_true] at hs
    obtain ⟨⟨rfl, rfl⟩, _⟩ := hs
    exact (below_cell h (block_of_cell d)).trans d
  obtain ⟨w1, hw1⟩ : ∃ w1, w1 = w.alloc (.cells #[.int .i64 n, .slice ao st.length ca, .slice bo tl.length cb, .slice co wt.length cc] 25) := ⟨_, rfl⟩
  have b1 : Below w.heap.size w w1 := by rw [hw1]; exact below_alloc (Below.refl _ _) _
  have hb1 : w1.heap[w.heap.size]? = some (.cells #[.int .i64 n, .slice ao st.length ca, .slice bo tl.length cb, .slice co wt.length cc] 25 (0, 0)) := by rw [hw1]; exact heap_new _ _
  have c0 := cell_of hb1 (i := 0) rfl
  have l1 := HLC.out w1 b1 f hf
  have HB1 := hide b1
  have HX1 := hide hb1
  have HG := hide hg; have HGD := hide hgd; have HWB := hide hwb; have HR := hide hr; have HLL := hide hll
  have hmk := run_makeB n (by omega)
  have hfi : (f : Int) < (n : Int) := by omega
  unfold gAgg
  rw [hll]
  clear hg hgd b1 hb1 hL hlc l0 hwb hr hb hll
  by_cases h0 : at_ L f = 0
  · rw [h0] at l1
    have hs1 : w1.heap.size = w.heap.size + 1 := by rw [hw1]; simp
    have hA0 : ArrB (w1.alloc (.cells (madeCells #[.bool false] n) 4)) (w.heap.size + 1) (fls n) := by unfold ArrB; rw [← hs1, heap_new, made_bools]
    have a1 := hA0.cell f (by simp [fls]; omega)
    rw [fls_at] at a1
    have a2 := hA0.free f
    have HAM : Hid (AM w ((w1.alloc (.cells ((madeCells #[.bool false] n).setIfInBounds f (.bool true)) 4)).alloc (.cells #[.int .i64 (f : Int)] 3)) (w.heap.size + 1) n (.slice ao st.length ca) (.slice bo tl.length cb) (.slice co wt.length cc) ((fls n).set f true) [f] (.slice (some ⟨w.heap.size + 1 + 1, 0, none⟩) 1 1)) := by
      have hs : (w1.alloc (.cells ((madeCells #[.bool false] n).setIfInBounds f (.bool true)) 4)).heap.size = w.heap.size + 1 + 1 := by simp [hs1]
      refine ⟨?_, ?_, ?_, below_alloc (below_alloc HB1.out _) _, by omega, by simp [hs1]⟩
      · rw [Below.heap_alloc _ _ _ (by rw [hs]; omega), Below.heap_alloc _ _ _ (by rw [hs1]; omega)]; exact HX1.out
      · unfold ArrB
        rw [Below.heap_alloc _ _ _ (by rw [hs]; omega), ← hs1, heap_new, made_bools]
        simp [bCells]
      · have := one_own (w1.alloc (.cells ((madeCells #[.bool false] n).setIfInBounds f (.bool true)) 4)) (f : Int) (w.heap.size + 1 + 1) (by rw [hs]; exact Nat.le_refl _)
        rw [hs] at this
        exact this
    have HAS : Hid (AS n st tl wt L f ((fls n).set f true) [f] n 0) := AS.start hf h0
    clear hA0 hs1
    rw [hw1] at l1 c0 a1 a2
    go_enter Try.func64, Try.ntmps64
    go_wp2_with fail
    rw [← hw1]
    clear hw1 l1 c0 a1 a2 hmk
    generalize ((w1.alloc (.cells ((madeCells #[.bool false] n).setIfInBounds f (.bool true)) 4)).alloc (.cells #[.int .i64 (f : Int)] 3)) = wA at HAM ⊢
    obtain ⟨lo, hlo⟩ : ∃ lo, lo = w.heap.size + 1 := ⟨_, rfl⟩
    rw [← hlo] at HAM ⊢
    have HLO := hide hlo
    clear hlo HB1 HX1
    have HU0 : Hid (unm ((fls n).set f true) + [f].length = n) := by
      have := unm_set (B := fls n) (x := f) (by simp [fls]; omega) (fls_at n f)
      rw [unm_fls] at this
      exact this
    obtain ⟨i0, hi, hz0, hz1, hz2⟩ := info_parts Try.info3
    have HGS := hide (fun W (h : Below w.heap.size w W) i (hi : i < st.length) => (HG.out.s.below h).cellAt i hi)
    have HGT := hide (fun W (h : Below w.heap.size w W) i (hi : i < tl.length) => (HG.out.t.below h).cellAt i hi)
    have HGU := hide (fun W (h : Below w.heap.size w W) i (hi : i < wt.length) => (HG.out.u.below h).cellAt i hi)
    go_loopg [8] n (fun m u wr => ∃ (B : List Bool) (O : List Nat), m = unm B + O.length ∧ Hid (AM w wr lo n (.slice ao st.length ca) (.slice bo tl.length cb) (.slice co wt.length cc) B O u ∧ AS n st tl wt L f B O n 0 ∧ unm B + O.length ≤ n))
    case atStart => exact ⟨_, _, HU0.out.symm, HAM.out, HAS.out, Nat.le_of_eq HU0.out⟩
    case round =>
      clear HAM HAS HU0
      obtain ⟨B, O, hgk, HH⟩ := hrel
      have HGK := hide hgk
      clear hgk
      obtain ⟨oo, oc, rfl⟩ := own_slice HH.out.1.ow
      by_cases hO : O = []
      · subst hO
        have HE := hide (And.intro HH.out.1.ab HH.out.2.1)
        have HBW := hide HH.out.1.bel
        have hfin := HE.out.2
        clear HH HGK HGS HGT HGU
        go_wp2
        obtain ⟨V, hV⟩ : ∃ V, V = wr := ⟨_, rfl⟩
        rw [← hV] at HE HBW ⊢
        have HFI := hide hfin
        clear hV hfin
        go_loopw [100] (fun t wx => ∃ i : Nat, i ≤ n ∧ t = .int .i64 i ∧ (∀ j, j < i → bAt B j = false → at_ L j = Nev) ∧ wx = V) (fun t _ => n - (RowKit.intOf t).toNat)
        case atStart => exact ⟨0, Nat.zero_le _, rfl, fun j hj => absurd hj (Nat.not_lt_zero _), rfl⟩
        case round =>
          obtain ⟨i, hi1, rfl, hall, hwx⟩ := hrel
          subst hwx
          have HAL := hide hall
          clear hall
          by_cases hlt : i < n
          · have d1 := HLC.out wr HBW.out i hlt
            have d2 := HE.out.1.cell i (by rw [HE.out.2.len]; exact hlt)
            have hii : (i : Int) < (n : Int) := by omega
            obtain ⟨x, hx⟩ : ∃ x, x = at_ L i := ⟨_, rfl⟩
            have HX := hide hx
            rw [← hx] at d1
            clear hx
            cases hbi : bAt B i with
            | true =>
              rw [hbi] at d2
              go_wp2
              exact ⟨⟨i + 1, hlt, by simp, fun j hj hb => by
                rcases Nat.lt_or_ge j i with q | q
                · exact HAL.out j q hb
                · obtain rfl : j = i := by omega
                  exact absurd (hbi.symm.trans hb) (by decide), trivial⟩, mdec3 hlt⟩
            | false =>
              rw [hbi] at d2
              by_cases hxn : x = 18446744073709551615
              · subst hxn
                go_wp2
                exact ⟨⟨i + 1, hlt, by simp, fun j hj hb => by
                  rcases Nat.lt_or_ge j i with q | q
                  · exact HAL.out j q hb
                  · obtain rfl : j = i := by omega
                    exact HX.out.symm, trivial⟩, mdec3 hlt⟩
              · have HBF := hide (HNF.out (HE.out.2.left HGD.out HWB.out hlt hbi (by rw [← HX.out]; exact hxn)))
                go_wp2
                go_ret
                exact ⟨by rw [HBF.out]; rfl, HBW.out⟩
          · obtain rfl : i = n := by omega
            have HBF := hide (HYF.out (HE.out.2.found HGD.out HWB.out HLL.out HR.out HAL.out))
            go_wp2
            go_ret
            exact ⟨by rw [HBF.out]; rfl, HBW.out⟩
      · obtain ⟨O', v, rfl⟩ := concat_of hO
        obtain ⟨hvn, hvm⟩ := HH.out.2.1.opn v (by simp)
        obtain ⟨g, rfl, hoc, hoc2, d, hpm⟩ := HH.out.1.pop
        obtain ⟨k, hk⟩ : ∃ k, k = O'.length := ⟨_, rfl⟩
        obtain ⟨e1, he1⟩ : ∃ e1 : Nat, at_ st v = (e1 : Int) := ⟨(at_ st v).toNat, by have := (HGD.out.range v (by omega)).1; omega⟩
        obtain ⟨m, hm⟩ : ∃ m : Nat, at_ st (v + 1) = ((e1 + m : Nat) : Int) := ⟨(at_ st (v + 1) - e1).toNat, by have := HGD.out.step v hvn; omega⟩
        have hme : e1 + m ≤ tl.length := by have := (HGD.out.range (v + 1) (by omega)).2; omega
        obtain ⟨M, hM⟩ : ∃ M, M + 1 = unm B + (O' ++ [v]).length := ⟨unm B + O'.length, by simp; omega⟩
        have HP := hide (And.intro hpm (And.intro (HH.out.2.1.popLast HGD.out he1) (And.intro hvm (show unm B + O'.length = M by have := hM; simp at this; omega))))
        have HGM : Hid (_ = M + 1) := HGK.out.trans hM.symm
        have hsl : st.length = n + 1 := HGD.out.s_len
        obtain ⟨ga, oa, ca', hsa, hca, r0⟩ := HGS.out wr HH.out.1.bel v (by omega)
        simp only [Value.slice.injEq, true_and] at hsa
        obtain ⟨rfl, rfl⟩ := hsa
        rw [he1] at r0
        have c1 := cell_of HH.out.1.bg (i := 1) rfl
        rw [← hk] at d
        rw [hoc, ← hk] at hoc2
        have hlen : (O' ++ [v]).length = k + 1 := by simp [hk]
        rw [hlen]
        have hvi : (v : Int) < (st.length : Int) := by omega
        have hki : (k : Int) ≤ (oc : Int) := by omega
        have hko : k ≤ oc := by omega
        have hkb : k < 10000000 := by have := HH.out.2.2; rw [hlen] at this; omega
        have HMN : Hid (M + 1 ≤ n) := by rw [hM]; exact HH.out.2.2
        have HE1 := hide he1; have HM := hide hm; have HSL := hide hsl; have HKK := hide hk
        rw [← hk] at HP
        clear HH HGK hk he1 hm hsl hca hM hO hlen hpm hoc
        go_wp2
        go_loopw [10, 8] (fun t u wr => ∃ (p : Nat) (B : List Bool) (O : List Nat), t = .int .i64 p ∧ e1 ≤ p ∧ p ≤ e1 + m ∧ Hid (AM w wr lo n (.slice (some ⟨ga, oa, none⟩) st.length ca) (.slice bo tl.length cb) (.slice co wt.length cc) B O u ∧ AS n st tl wt L f B O v p ∧ bAt B v = true ∧ unm B + O.length = M)) (fun t _ _ => e1 + m - (RowKit.intOf t).toNat)
        case atStart => exact ⟨e1, B, O', rfl, Nat.le_refl _, by omega, by have := HKK.out; subst this; exact HP.out⟩
        case round =>
          clear HP d r0 c1
          obtain ⟨p, B, O, rfl, hp1, hp2, HH⟩ := hrel
          have c1 := cell_of HH.out.1.bg (i := 1) rfl
          have c2 := cell_of HH.out.1.bg (i := 2) rfl
          have c3 := cell_of HH.out.1.bg (i := 3) rfl
          obtain ⟨ga', oa', ca'', hsa, _, r1⟩ := HGS.out wr HH.out.1.bel (v + 1) (by have := HSL.out; omega)
          simp only [Value.slice.injEq, true_and, Option.some.injEq, Addr.mk.injEq, and_true] at hsa
          obtain ⟨⟨rfl, rfl⟩, rfl⟩ := hsa
          rw [HM.out] at r1
          obtain ⟨q, hq⟩ : ∃ q, q = e1 + m := ⟨_, rfl⟩
          rw [← hq] at r1
          have HQ0 := hide hq
          have hvi1 : (v : Int) + 1 < (st.length : Int) := by have := HSL.out; omega
          by_cases hlt2 : p < q
          · have hpt : p < tl.length := by omega
            have hwl : wt.length = tl.length := HGD.out.w_len
            have hpq : (p : Int) < (q : Int) := by omega
            have hpti : (p : Int) < (tl.length : Int) := by omega
            have hpwi : (p : Int) < (wt.length : Int) := by omega
            obtain ⟨u, hu⟩ : ∃ u, u = tov tl p := ⟨_, rfl⟩
            have hun : u < n := by rw [hu]; exact (tov_lt HGD.out hpt).1
            have htl : at_ tl p = (u : Int) := by rw [hu]; exact (tov_lt HGD.out hpt).2
            have hui : (u : Int) < (n : Int) := by omega
            have hvi2 : (v : Int) < (n : Int) := by omega
            obtain ⟨gt, ot, ct', hst', _, d2⟩ := HGT.out wr HH.out.1.bel p hpt
            simp only [Value.slice.injEq, true_and] at hst'
            obtain ⟨rfl, rfl⟩ := hst'
            obtain ⟨gu, ou, cu', hsu', _, d3⟩ := HGU.out wr HH.out.1.bel p (by omega)
            simp only [Value.slice.injEq, true_and] at hsu'
            obtain ⟨rfl, rfl⟩ := hsu'
            rw [htl] at d2
            have l2 := HLC.out wr HH.out.1.bel v hvn
            have l3 := HLC.out wr HH.out.1.bel u hun
            obtain ⟨hx0, hx1⟩ := HH.out.2.1.small HGD.out hvn HH.out.2.2.1
            have hy0 := (HWB.out p).1
            have hy1 := good_wt HGD.out hpt hy0
            have a1 := HH.out.1.ab.cell u (by rw [HH.out.2.1.len]; exact hun)
            have HSRC : Hid (src st n p = v) := src_eq HGD.out hvn (by have := HE1.out; omega) (by have := HM.out; have := HQ0.out; omega)
            have hzz0 := (HR.out u hun).1
            have hz1' := (HR.out u hun).2
            unfold Nev at hz1'
            obtain ⟨x, hx⟩ : ∃ x, x = at_ L v := ⟨_, rfl⟩
            obtain ⟨y, hy⟩ : ∃ y, y = at_ wt p := ⟨_, rfl⟩
            obtain ⟨z, hz⟩ : ∃ z, z = at_ L u := ⟨_, rfl⟩
            have HXX := hide hx; have HYY := hide hy; have HZZ := hide hz; have HU := hide hu
            rw [← hx] at l2 hx0 hx1
            rw [← hy] at d3 hy0 hy1
            rw [← hz] at l3 hzz0 hz1'
            have hpb : p < 10000000 := by omega
            have hwr : IntKind.u64.wrap (x + y) = x + y := IntWalk.u64_in _ (by omega)
            clear hx hy hz hu htl hq hwl
            go_wp2_with fail
            go_region
            have HD : Hid (AM w wr.drew lo n (.slice (some ⟨ga, oa, none⟩) st.length ca) (.slice (some ⟨gt, ot, none⟩) tl.length cb) (.slice (some ⟨gu, ou, none⟩) wt.length cc) B O u8) := HH.out.1.drew 1
            by_cases hless : x + y < z
            · have HBF := hide (HNF.out (HH.out.2.1.less HGD.out HWB.out hpt HSRC.out HH.out.2.2.1 (by rw [← HXX.out, ← HYY.out, ← HU.out, ← HZZ.out]; exact hless)))
              go_wp2
              go_ret
              exact ⟨by rw [HBF.out]; rfl, HD.out.bel⟩
            · have HNX : Hid (∀ B' O', AS n st tl wt L f B' O' v p → (x + y = z → bAt B' u = true) → AS n st tl wt L f B' O' v (p + 1)) := fun B' O' h1 h2 => h1.next (by rw [← HXX.out, ← HYY.out, ← HU.out, ← HZZ.out]; omega) (by rw [← HXX.out, ← HYY.out, ← HU.out, ← HZZ.out]; exact h2)
              by_cases heq : x + y = z
              · cases hbu : bAt B u with
                | true =>
                  rw [hbu] at a1
                  have g1 : ((x + y) == z) = true := by simp [heq]
                  go_wp2
                  exact ⟨⟨p + 1, B, O, by simp, by omega, by have := HQ0.out; omega, HD.out, HNX.out _ _ HH.out.2.1 (fun _ => hbu), HH.out.2.2⟩, mdec3 (by have := HQ0.out; omega)⟩
                | false =>
                  rw [hbu] at a1
                  have g1 : ((x + y) == z) = true := by simp [heq]
                  have a2 := HD.out.ab.free u
                  obtain ⟨w5, hw5⟩ : ∃ w5, w5 = wr.drew := ⟨_, rfl⟩
                  rw [← hw5] at a2 HD ⊢
                  have a3 : w5.cell? ⟨lo, u, none⟩ = some (.bool false) := by rw [hw5]; exact a1
                  have l4 : w5.cell? ⟨gl, ol + u, none⟩ = some (.int .u64 z) := by rw [hw5]; exact l3
                  obtain ⟨w4, hw4⟩ : ∃ w4, w4 = w5.setCell ⟨lo, u, none⟩ (.bool true) := ⟨_, rfl⟩
                  have s4 : w4.heap.size = w5.heap.size := by rw [hw4]; simp [World.setCell]
                  have hon : w4.ownsRow (lo + 1) 3 1 u8 O.length (oCells O) := own_keepB HD.out.ow (fun k hk => by
                    obtain ⟨h1, _⟩ := own_type HD.out.ow hk
                    rw [hw4]; exact Below.heap_setCell _ _ _ _ (by show k ≠ lo; omega))
                  have hcl : ∀ (j : Nat) (z : Value), ([Value.int .i64 (u : Int)] : List Value)[j]? = some z → (w4.alloc (.cells #[.int .i64 (u : Int)] 3)).cell? ((⟨w5.heap.size, 0, none⟩ : Addr).add j) = some z := by
                    intro j z hj
                    have : j = 0 := by have := (List.getElem?_eq_some_iff.1 hj).1; simpa using this
                    subst this
                    simp at hj
                    subst hj
                    have hh := heap_new w4 (.cells #[.int .i64 (u : Int)] 3)
                    rw [s4] at hh
                    exact cell_of hh (i := 0) rfl
                  have hsz : lo + 1 ≤ (w4.alloc (.cells #[.int .i64 (u : Int)] 3)).heap.size := by have := HD.out.sz; simp; omega
                  have hOn : O.length ≤ n := by have := HH.out.2.2.2; have := HMN.out; omega
                  have HFN : Hid (∀ v3 w3, w3.ownsRow (lo + 1) 3 1 v3 (O.length + 1) (oCells O ++ [.int .i64 (u : Int)]) → (w4.alloc (.cells #[.int .i64 (u : Int)] 3)).grownBy w3 u8.ownBlock → AM w w3 lo n (.slice (some ⟨ga, oa, none⟩) st.length ca) (.slice (some ⟨gt, ot, none⟩) tl.length cb) (.slice (some ⟨gu, ou, none⟩) wt.length cc) (B.set u true) (O ++ [u]) v3) := fun v3 w3 h1 h2 => HD.out.mark h1 (by rw [← hw4]; exact h2)
                  have HA2 := hide HH.out.2
                  have HBU := hide hbu; have HEQ := hide heq
                  obtain ⟨oo, oc2, hu8⟩ := own_slice HD.out.ow
                  rw [hu8] at hon HFN ⊢
                  obtain ⟨K2, hK2⟩ : ∃ K2, K2 = O.length := ⟨_, rfl⟩
                  have HK2 := hide hK2
                  rw [← hK2] at hon HFN hOn ⊢
                  rw [hw4] at hon hcl hsz HFN
                  clear hw4 s4 hu8 HH HD a1 hw5 hbu l2 d2 d3 c2 c3 hK2 heq
                  go_wp2_with (first
                    | (at_builtin; refine wpList_append_own_at _ rfl (.tmp 94) (.tmp 96) 22 rfl (lo + 1) 3 i0 (.int .i64 0) 1 8 Try.underlying22 hi hz0 hz1 hz2 rfl (by decide) _ _ _ rfl (hon.alloc _) ⟨w5.heap.size, 0, none⟩ 1 1 [.int .i64 (u : Int)] rfl rfl hcl (by simp [Value.oneCell']) (by unfold maxLen; omega) (by omega) hsz ?_; intro v3 w3 hown3 hgrow3 hq3 hblk3; have HR3 := hide (HFN.out v3 w3 hown3 hgrow3); clear hown3 hgrow3 hq3 hblk3 hon hcl hsz HFN)
                    | fail)
                  go_wp2
                  exact ⟨⟨p + 1, B.set u true, O ++ [u], by simp, by omega, by have := HQ0.out; omega, HR3.out, HNX.out _ _ (HA2.out.1.mark HGD.out HWB.out hpt HSRC.out HA2.out.2.1 HU.out.symm (by rw [← HXX.out, ← HYY.out, ← HZZ.out]; exact HEQ.out) HBU.out) (fun _ => by rw [bAt_set (by rw [HA2.out.1.len]; exact hun)]; simp), by rw [bAt_set (by rw [HA2.out.1.len]; exact hun)]; split; rfl; exact HA2.out.2.1, by have h8 := unm_set (B := B) (x := u) (by rw [HA2.out.1.len]; exact hun) HBU.out; have h9 := HA2.out.2.2; simp; omega⟩, mdec3 (by have := HQ0.out; omega)⟩
              · have g1 : ((x + y) == z) = false := by simp [heq]
                go_wp2
                exact ⟨⟨p + 1, B, O, by simp, by omega, by have := HQ0.out; omega, HD.out, HNX.out _ _ HH.out.2.1 (fun q => absurd q heq), HH.out.2.2⟩, mdec3 (by have := HQ0.out; omega)⟩
          · obtain rfl : p = q := by omega
            have HEND := hide (And.intro HH.out.1 (And.intro (HH.out.2.1.rowEnd HGD.out (by have := HM.out; rw [this, HQ0.out])) HH.out.2.2.2))
            clear HH hq
            go_wp2
            go_roundg M
            case measure => have := HGM.out; omega
            case rel => exact ⟨B, O, HEND.out.2.2.symm, HEND.out.1, HEND.out.2.1, by have := HEND.out.2.2; have := HMN.out; omega⟩
  · obtain ⟨x, hx⟩ : ∃ x, x = at_ L f := ⟨_, rfl⟩
    have hbf := HNF.out (not_zero hf h0)
    rw [← hx] at l1 h0
    rw [hw1] at l1 c0
    have HBE : Hid (Below w.heap.size w (w.alloc (.cells #[.int .i64 n, .slice ao st.length ca, .slice bo tl.length cb, .slice co wt.length cc] 25))) := by rw [← hw1]; exact HB1.out
    rw [hbf]
    clear hx hw1 hbf hmk
    go_enter Try.func64, Try.ntmps64
    go_wp2
    go_ret
    exact ⟨rfl, HBE.out⟩
end Go.Proofs.Ytehlciejhegndaa
