import Derived.Test.YtiohimbifjlfdaaRB
import Derived.Test.YtiohimbifjlfdaaMarks
import Derived.Test.YtiohimbifjlfdaaCopy
import Derived.Maps.AppendAt
import Derived.Test.YtiohimbifjlfdaaRIter
/- What can be reached: plain. -/
namespace Go.Proofs.Ytiohimbifjlfdaa
open Go.RowKit Go.Lib
set_option linter.unusedVariables false
def tov (tl : List Int) (e : Nat) : Nat := (at_ tl e).toNat
theorem tov_lt {n : Nat} {st tl wt : List Int} (h : Good n st tl wt) {e : Nat} (he : e < tl.length) : tov tl e < n ∧ at_ tl e = (tov tl e : Int) := by
  have := h.vtx e he
  unfold tov
  omega
theorem src_specG {n : Nat} {st tl wt : List Int} (h : Good n st tl wt) {p : Nat} (hp : p < tl.length) : at_ st (src st n p) ≤ (p : Int) ∧ (p : Int) < at_ st (src st n p + 1) := by
  unfold src
  cases he : first (fun v => decide ((p : Int) < at_ st (v + 1))) n with
  | none =>
    exfalso
    have h0 := first_none_of he
    have hl := h.last
    have hz := h.zero
    rcases Nat.eq_zero_or_pos n with hn | hn
    · subst hn; rw [hz] at hl; omega
    · have := h0 (n - 1) (by omega)
      simp only [decide_eq_false_iff_not] at this
      rw [show n - 1 + 1 = n by omega, hl] at this
      omega
  | some v =>
    have h1 := (first_of_some he).2
    simp only [decide_eq_true_eq] at h1
    refine ⟨?_, h1⟩
    show at_ st v ≤ (p : Int)
    rcases Nat.eq_zero_or_pos v with hv | hv
    · subst hv; rw [h.zero]; omega
    · unfold first at he
      rw [List.find?_range_eq_some] at he
      have h2 := he.2.2 (v - 1) (by omega)
      simp at h2
      rw [show v - 1 + 1 = v by omega] at h2
      exact h2
/-- What can be reached from the vertices of fr. -/
inductive Rch (n : Nat) (st tl fr : List Int) : Nat → Prop where
  | start (i v : Nat) (hi : i < fr.length) (hv : at_ fr i = (v : Int)) : Rch n st tl fr v
  | edge (e : Nat) (he : e < tl.length) (h : Rch n st tl fr (src st n e)) : Rch n st tl fr (tov tl e)
def bAt (l : List Bool) (i : Nat) : Bool := l[i]?.getD false
theorem bAt_set {l : List Bool} {i j : Nat} (hi : i < l.length) : bAt (l.set i true) j = if j = i then true else bAt l j := by
  unfold bAt
  rw [List.getElem?_set]
  by_cases h : i = j
  · subst h; simp [hi]
  · rw [if_neg h, if_neg (fun e => h e.symm)]
/-- A walk under way: B: what is marked; O: marked, and its row not yet gone over; of the row of v the places below i are done. -/
structure RS (n : Nat) (st tl fr : List Int) (B : List Bool) (O : List Nat) (v i : Nat) : Prop where
  len : B.length = n
  rch : ∀ u, u < n → bAt B u = true → Rch n st tl fr u
  opn : ∀ u, u ∈ O → u < n ∧ bAt B u = true
  don : ∀ e, e < tl.length → bAt B (src st n e) = true → src st n e ∉ O → (src st n e = v → e < i) → bAt B (tov tl e) = true
def fls (n : Nat) : List Bool := List.replicate n false
theorem fls_at (n i : Nat) : bAt (fls n) i = false := by
  unfold bAt fls
  by_cases h : i < n <;> simp [h]
section
variable {n : Nat} {st tl wt fr : List Int} {B : List Bool} {O : List Nat} {v i x : Nat}
theorem RS.zero : RS n st tl fr (fls n) [] n 0 :=
  ⟨by simp [fls], fun u _ h => (by rw [fls_at] at h; cases h), fun u h => (by cases h), fun e _ h => (by rw [fls_at] at h; cases h)⟩
theorem RS.mark (h : RS n st tl fr B O v i) (hx : x < n) (hr : Rch n st tl fr x) : RS n st tl fr (B.set x true) (O ++ [x]) v i := by
  have hl : x < B.length := by rw [h.len]; exact hx
  refine ⟨by rw [List.length_set]; exact h.len, fun u hu hb => ?_, fun u hu => ?_, fun e he hb ho hv => ?_⟩
  · rw [bAt_set hl] at hb
    by_cases e : u = x
    · rw [e]; exact hr
    · rw [if_neg e] at hb; exact h.rch u hu hb
  · rw [bAt_set hl]
    rcases List.mem_append.1 hu with hu | hu
    · exact ⟨(h.opn u hu).1, by split; rfl; exact (h.opn u hu).2⟩
    · simp at hu; subst hu; exact ⟨hx, by simp⟩
  · rw [bAt_set hl] at hb ⊢
    have hne : src st n e ≠ x := fun c => ho (by rw [c]; simp)
    rw [if_neg hne] at hb
    split
    · rfl
    · exact h.don e he hb (fun c => ho (List.mem_append.2 (.inl c))) hv
theorem RS.popLast (h : RS n st tl fr B (O ++ [v]) n 0) (hg : Good n st tl wt) (hi : at_ st v = (i : Int)) : RS n st tl fr B O v i := by
  refine ⟨h.len, h.rch, fun u hu => h.opn u (List.mem_append.2 (.inl hu)), fun e he hb ho hv => h.don e he hb (fun c => ?_) (fun c => by have := src_lt hg he; omega)⟩
  rcases List.mem_append.1 c with c | c
  · exact ho c
  · simp at c
    have h1 := hv c
    have h2 := (src_specG hg he).1
    rw [c, hi] at h2
    omega
theorem RS.popFirst (h : RS n st tl fr B (v :: O) n 0) (hg : Good n st tl wt) (hi : at_ st v = (i : Int)) : RS n st tl fr B O v i := by
  refine ⟨h.len, h.rch, fun u hu => h.opn u (List.mem_cons_of_mem _ hu), fun e he hb ho hv => h.don e he hb (fun c => ?_) (fun c => by have := src_lt hg he; omega)⟩
  rcases List.mem_cons.1 c with c | c
  · have h1 := hv c
    have h2 := (src_specG hg he).1
    rw [c, hi] at h2
    omega
  · exact ho c
theorem RS.next (h : RS n st tl fr B O v i) (hb : bAt B (tov tl i) = true) : RS n st tl fr B O v (i + 1) :=
  ⟨h.len, h.rch, h.opn, fun e he hs ho hv => by
    by_cases c : e = i
    · rw [c]; exact hb
    · exact h.don e he hs ho (fun k => by have := hv k; omega)⟩
theorem RS.rowEnd (h : RS n st tl fr B O v i) (hg : Good n st tl wt) (hi : at_ st (v + 1) = (i : Int)) : RS n st tl fr B O n 0 :=
  ⟨h.len, h.rch, h.opn, fun e he hs ho hv => h.don e he hs ho (fun k => by
    have := (src_specG hg he).2
    rw [k, hi] at this
    omega)⟩
/-- It reaches what the row's vertex does. -/
theorem RS.goes (h : RS n st tl fr B O v i) (hv : v < n) (hb : bAt B v = true) (hg : Good n st tl wt) {e : Nat} (he : e < tl.length) (hs : src st n e = v) : Rch n st tl fr (tov tl e) :=
  Rch.edge e he (by rw [hs]; exact h.rch v hv hb)
theorem RS.whole (h : RS n st tl fr B [] n 0) (hg : Good n st tl wt) (hs : ∀ i v, i < fr.length → at_ fr i = ((v : Nat) : Int) → bAt B v = true) : ∀ u, u < n → (bAt B u = true ↔ Rch n st tl fr u) := by
  intro u hu
  refine ⟨h.rch u hu, fun hr => ?_⟩
  clear hu
  induction hr with
  | start i v hi hv => exact hs i v hi hv
  | edge e he hr ih => exact h.don e he ih (by simp) (fun c => by have := src_lt hg he; omega)
theorem bools_eq {C : List Bool} (h1 : B.length = n) (h2 : C.length = n) (h : ∀ u, u < n → (bAt B u = true ↔ bAt C u = true)) : B = C := by
  apply List.ext_getElem (by omega)
  intro k k1 k2
  have := h k (by omega)
  unfold bAt at this
  rw [List.getElem?_eq_getElem k1, List.getElem?_eq_getElem k2] at this
  simp only [Option.getD_some] at this
  exact Bool.eq_iff_iff.2 this
/-- How many are not marked. -/
def unm (B : List Bool) : Nat := B.count false
theorem unm_set (hx : x < B.length) (hb : bAt B x = false) : unm (B.set x true) + 1 = unm B := by
  unfold unm
  have hx' : B[x] = false := by unfold bAt at hb; rw [List.getElem?_eq_getElem hx] at hb; simpa using hb
  rw [List.count_set hx, hx']
  have : 0 < B.count false := List.count_pos_iff.2 (by rw [← hx']; exact List.getElem_mem hx)
  simp
  omega
end
end Go.Proofs.Ytiohimbifjlfdaa

/- Reach's memory: marks and the open ones; the function that marks. -/
namespace Go.Proofs.Ytiohimbifjlfdaa
open Go.RowKit Go.Lib
set_option linter.unusedVariables false
def bCellsG (l : List Bool) : Array Value := (l.map Value.bool).toArray
def ArrB (w : World) (g : Nat) (l : List Bool) : Prop := w.heap[g]? = some (.cells (bCellsG l) 4 (0, 0))
theorem ArrB.cell {w : World} {g : Nat} {l : List Bool} (h : ArrB w g l) (i : Nat) (hi : i < l.length) : w.cell? ⟨g, i, none⟩ = some (.bool (bAt l i)) := by
  refine cell_of h ?_
  simp [bCellsG, bAt, hi]
theorem ArrB.free {w : World} {g : Nat} {l : List Bool} (h : ArrB w g l) (i : Nat) : w.frozen? ⟨g, i, none⟩ = false := free_of h i
theorem ArrB.put {w : World} {g : Nat} {l : List Bool} (h : ArrB w g l) (i : Nat) (x : Bool) : ArrB (w.setCell ⟨g, i, none⟩ (.bool x)) g (l.set i x) := by
  have := heap_set (i := i) h (.bool x)
  unfold ArrB
  rw [this]
  simp [bCellsG]
def oCells (O : List Nat) : List Value := O.map fun (v : Nat) => Value.int .i64 (v : Int)
/-- Boxes of the marks and of the open ones; the latter's row is not in the block ban. -/
structure RMG (w : World) (lo R Br Bo : Nat) (ban : Nat → Prop) (n : Nat) (B : List Bool) (O : List Nat) (ov : Value) : Prop where
  br : w.heap[Br]? = some (.cells #[.slice (some ⟨R, 0, none⟩) n n] 42 (0, 0))
  ab : ArrB w R B
  bo : w.heap[Bo]? = some (.cells #[ov] 25 (0, 0))
  ow : w.ownsRow lo 3 1 ov O.length (oCells O)
  bn : ∀ g, ov.ownBlock = some g → ¬ ban g
/-- What a call of it may turn. -/
def Tn (w : World) (lo : Nat) (ban : Nat → Prop) (k : Nat) : Prop := ¬ ban k ∧ lo ≤ k ∧ ∃ c t f, w.heap[k]? = some (.cells c t f) ∧ (t = 4 ∨ t = 25 ∨ t = 3)
theorem own_type {w : World} {lo m : Nat} {v : Value} {xs : List Value} (h : w.ownsRow lo 3 1 v m xs) {g : Nat} (hg : v.ownBlock = some g) : lo ≤ g ∧ ∃ c f, w.heap[g]? = some (.cells c 3 f) := by
  obtain ⟨_, ⟨rfl, _⟩ | ⟨g', cap, cur, rfl, hl, hh, _⟩⟩ := h
  · simp [Value.ownBlock] at hg
  · simp [Value.ownBlock] at hg
    subst hg
    exact ⟨hl, _, _, hh⟩
theorem own_slice {w : World} {lo m : Nat} {v : Value} {xs : List Value} (h : w.ownsRow lo 3 1 v m xs) : ∃ ao c, v = .slice ao m c := by
  obtain ⟨_, ⟨rfl, hm⟩ | ⟨g', cap, cur, rfl, _⟩⟩ := h
  · exact ⟨none, 0, by rw [hm]⟩
  · exact ⟨_, _, rfl⟩
theorem own_keepB {w w' : World} {lo m : Nat} {v : Value} {xs : List Value} (h : w.ownsRow lo 3 1 v m xs) (hk : ∀ g, v.ownBlock = some g → w'.heap[g]? = w.heap[g]?) : w'.ownsRow lo 3 1 v m xs := by
  obtain ⟨h1, h2⟩ := h
  refine ⟨h1, h2.imp id ?_⟩
  rintro ⟨g, cap, cur, rfl, hl, hh, r⟩
  exact ⟨g, cap, cur, rfl, hl, (hk g rfl).trans hh, r⟩
def RPost (w : World) (lo R Br Bo : Nat) (ban : Nat → Prop) (n : Nat) (B : List Bool) (O : List Nat) (e : Ending) (w' : World) : Prop :=
  (∃ v, e = .returned v) ∧ (∃ ov, RMG w' lo R Br Bo ban n B O ov) ∧ Chg (Tn w lo ban) w w'
set_option maxRecDepth 100000 in
theorem reach_old (n x lo R Br Bo : Nat) (ban : Nat → Prop) (B : List Bool) (O : List Nat) (ov : Value) (w : World) (h : RMG w lo R Br Bo ban n B O ov) (hx : x < n) (hB : B.length = n) (hb : bAt B x = true) :
    Calls Try.prog 26 #[.int .i64 x, .pointer (some ⟨Br, 0, none⟩), .pointer (some ⟨Bo, 0, none⟩)] w (RPost w lo R Br Bo ban n B O) := by
  have c0 := cell_of h.br (i := 0) rfl
  have c1 := h.ab.cell x (by omega)
  rw [hb] at c1
  have hxi : (x : Int) < (n : Int) := by omega
  have HR : Hid (RPost w lo R Br Bo ban n B O (.returned (.tuple #[])) w) := ⟨⟨_, rfl⟩, ⟨ov, h⟩, Chg.refl _ _⟩
  clear h hb
  go_enter Try.func26, Try.ntmps26
  go_wp2
  go_end0
  exact HR.out
set_option maxRecDepth 100000 in
set_option maxHeartbeats 4000000 in
theorem reach_new (n x lo R Br Bo : Nat) (ban : Nat → Prop) (B : List Bool) (O : List Nat) (ov : Value) (w : World) (h : RMG w lo R Br Bo ban n B O ov) (hx : x < n) (hB : B.length = n) (hb : bAt B x = false) (hn : n ≤ 1048576) (hO : O.length ≤ n) (hR : lo ≤ R) (hBo : lo ≤ Bo) (hRb : ¬ ban R) (hBb : ¬ ban Bo) (hbl : ∀ k, ban k → k < w.heap.size) (hlo : lo ≤ w.heap.size) :
    Calls Try.prog 26 #[.int .i64 x, .pointer (some ⟨Br, 0, none⟩), .pointer (some ⟨Bo, 0, none⟩)] w (RPost w lo R Br Bo ban n (B.set x true) (O ++ [x])) := by
  obtain ⟨i0, hi, hz0, hz1, hz2⟩ := info_parts Try.info3G
  have n1 : Br ≠ R := by rintro rfl; have := h.br; have h2 := h.ab; unfold ArrB at h2; rw [h2] at this; simp at this
  have n2 : Bo ≠ R := by rintro rfl; have := h.bo; have h2 := h.ab; unfold ArrB at h2; rw [h2] at this; simp at this
  have n3 : Br ≠ Bo := by rintro rfl; have := h.bo; rw [h.br] at this; simp at this
  have n4 : ∀ g, ov.ownBlock = some g → g ≠ R ∧ g ≠ Bo ∧ g ≠ Br := fun g hg => by
    obtain ⟨_, c, f, hh⟩ := own_type h.ow hg
    refine ⟨?_, ?_, ?_⟩
    · rintro rfl; have h2 := h.ab; unfold ArrB at h2; rw [h2] at hh; simp at hh
    · rintro rfl; rw [h.bo] at hh; simp at hh
    · rintro rfl; rw [h.br] at hh; simp at hh
  obtain ⟨w1, hw1⟩ : ∃ w1, w1 = w.setCell ⟨R, x, none⟩ (.bool true) := ⟨_, rfl⟩
  have o1 : ∀ k, k ≠ R → w1.heap[k]? = w.heap[k]? := fun k hk => by rw [hw1]; exact Below.heap_setCell _ _ _ _ (by exact hk)
  have a1 : ArrB w1 R (B.set x true) := by rw [hw1]; exact h.ab.put x true
  have b1 := (o1 Bo n2).trans h.bo
  have r1 := (o1 Br n1).trans h.br
  have w1o : w1.ownsRow lo 3 1 ov O.length (oCells O) := own_keepB h.ow fun g hg => o1 g (n4 g hg).1
  have s1 : w1.heap.size = w.heap.size := by rw [hw1]; simp [World.setCell]
  have c0 := cell_of h.br (i := 0) rfl
  have c1 := h.ab.cell x (by omega)
  rw [hb] at c1
  have c2 := h.ab.free x
  have d0 := cell_of r1 (i := 0) rfl
  have d1 := cell_of b1 (i := 0) rfl
  have hxi : (x : Int) < (n : Int) := by omega
  have HB1 := hide b1; have HR1 := hide r1; have HA1 := hide a1; have HO1 := hide w1o; have HS1 := hide s1; have HK1 := hide o1; have HH := hide h
  have hon : (w.setCell ⟨R, x, none⟩ (.bool true)).ownsRow lo 3 1 ov O.length (oCells O) := by rw [← hw1]; exact HO1.out
  have hcl : ∀ (j : Nat) (u : Value), ([Value.int .i64 (x : Int)] : List Value)[j]? = some u → ((w.setCell ⟨R, x, none⟩ (.bool true)).alloc (.cells #[.int .i64 (x : Int)] 3)).cell? ((⟨w.heap.size, 0, none⟩ : Addr).add j) = some u := by
    intro j u hj
    have : j = 0 := by have := (List.getElem?_eq_some_iff.1 hj).1; simpa using this
    subst this
    simp at hj
    subst hj
    have hh := heap_new (w.setCell ⟨R, x, none⟩ (.bool true)) (.cells #[.int .i64 (x : Int)] 3)
    rw [← hw1, HS1.out] at hh
    rw [← hw1]
    exact cell_of hh (i := 0) rfl
  have hsz : lo ≤ ((w.setCell ⟨R, x, none⟩ (.bool true)).alloc (.cells #[.int .i64 (x : Int)] 3)).heap.size := by rw [← hw1]; have := HS1.out; simp; omega
  obtain ⟨w2, hw2⟩ : ∃ w2, w2 = (w.setCell ⟨R, x, none⟩ (.bool true)).alloc (.cells #[.int .i64 (x : Int)] 3) := ⟨_, rfl⟩
  have e2 : ∀ k, k < w.heap.size → w2.heap[k]? = w1.heap[k]? := fun k hk => by rw [hw2, ← hw1]; exact Below.heap_alloc _ _ _ (by have := HS1.out; omega)
  have s2 : w2.heap.size = w.heap.size + 1 := by rw [hw2, ← hw1]; have := HS1.out; simp; omega
  have hRl := lt_of_heap h.ab
  have hBrl := lt_of_heap h.br
  have hBol := lt_of_heap h.bo
  have HN4 := hide n4
  have HF : Hid (∀ v3 w3, w3.ownsRow lo 3 1 v3 (O.length + 1) (oCells O ++ [.int .i64 (x : Int)]) → w2.grownBy w3 ov.ownBlock → (v3.ownBlock = ov.ownBlock ∨ v3.ownBlock = some w2.heap.size) → w3.heap[Bo]? = some (.cells #[ov] 25 (0, 0)) ∧ RPost w lo R Br Bo ban n (B.set x true) (O ++ [x]) (.returned (.tuple #[])) (w3.setCell ⟨Bo, 0, none⟩ v3)) := by
    intro v3 w3 hw3 hg3 hk3
    have hb3 : w3.heap[Bo]? = some (.cells #[ov] 25 (0, 0)) := (hg3.block Bo (by omega) (fun e => (n4 Bo e.symm).2.1 rfl)).trans ((e2 Bo hBol).trans HB1.out)
    have hr3 : w3.heap[Br]? = _ := (hg3.block Br (by omega) (fun e => (n4 Br e.symm).2.2 rfl)).trans ((e2 Br hBrl).trans HR1.out)
    have ha3 : w3.heap[R]? = _ := (hg3.block R (by omega) (fun e => (n4 R e.symm).1 rfl)).trans ((e2 R hRl).trans HA1.out)
    have hso : ∀ k, k ≠ Bo → (w3.setCell ⟨Bo, 0, none⟩ v3).heap[k]? = w3.heap[k]? := fun k hk => Below.heap_setCell _ _ _ _ (by exact hk)
    have hv3 : ∀ g, v3.ownBlock = some g → g ≠ Bo ∧ ¬ ban g := fun g hg => by
      rcases hk3 with e | e
      · rw [e] at hg; exact ⟨(n4 g hg).2.1, h.bn g hg⟩
      · rw [e] at hg; simp only [Option.some.injEq] at hg; exact ⟨by omega, fun c => by have := hbl g c; omega⟩
    refine ⟨hb3, ⟨_, rfl⟩, ⟨v3, ⟨(hso Br n3).trans hr3, (hso R (fun c => n2 c.symm)).trans ha3, by rw [heap_set hb3]; rfl, ?_, fun g c => (hv3 g c).2⟩⟩, ?_⟩
    · have : (O ++ [x]).length = O.length + 1 := by simp
      rw [this, show oCells (O ++ [x]) = oCells O ++ [.int .i64 (x : Int)] by simp [oCells]]
      exact own_keepB hw3 fun g hg => hso g (hv3 g hg).1
    · have k1 : Chg (Tn w lo ban) w w2 := by
        rw [hw2]; exact ((Chg.refl _ w).setCell (p := ⟨R, x, none⟩) ⟨hRb, hR, _, _, _, h.ab, .inl rfl⟩ _).alloc _
      refine (k1.grown hg3 fun k hk => ?_).setCell (p := ⟨Bo, 0, none⟩) ⟨hBb, hBo, _, _, _, h.bo, .inr (.inl rfl)⟩ _
      obtain ⟨q1, c, f, q2⟩ := own_type h.ow hk
      exact .inl ⟨h.bn k hk, q1, _, _, _, q2, .inr (.inr rfl)⟩
  rw [hw2] at HF
  clear e2 s2 n1 n2 n3 n4 HN4 hRl hBrl hBol hw2 HB1 HR1 HA1 HK1 HH
  rw [hw1] at d0 d1
  clear h hb o1 a1 b1 r1 w1o s1
  go_enter Try.func26, Try.ntmps26
  go_wp2_with (first
    | (at_builtin; refine wpList_append_own_at _ rfl (.tmp 12) (.tmp 14) 25 rfl lo 3 i0 (.int .i64 0) 1 8 Try.underlying25 hi hz0 hz1 hz2 rfl (by decide) _ _ _ rfl (hon.alloc _) ⟨w.heap.size, 0, none⟩ 1 1 [.int .i64 (x : Int)] rfl rfl hcl (by simp [Value.oneCell']) (by unfold maxLen; omega) (by omega) hsz ?_; intro v3 w3 hown3 hgrow3 hq3 hblk3; obtain ⟨hb3, hpost⟩ := HF.out v3 w3 hown3 hgrow3 hblk3; obtain ⟨ao3, c3, rfl⟩ := own_slice hown3; have f0 := cell_of hb3 (i := 0) rfl; have f1 := free_of hb3 0; have HP := hide hpost; clear hown3 hgrow3 hq3 hblk3 hon hcl hsz hb3 hpost HF)
    | fail)
  go_wp2
  go_end0
  exact HP.out
end Go.Proofs.Ytiohimbifjlfdaa

/- Marking, in one word; what stays. -/
namespace Go.Proofs.Ytiohimbifjlfdaa
open Go.RowKit Go.Lib
set_option linter.unusedVariables false
def mkB (B : List Bool) (x : Nat) : List Bool := if bAt B x = true then B else B.set x true
def mkO (B : List Bool) (O : List Nat) (x : Nat) : List Nat := if bAt B x = true then O else O ++ [x]
section
variable {n : Nat} {st tl wt fr : List Int} {B : List Bool} {O : List Nat} {v i x u : Nat}
theorem mkB_len : (mkB B x).length = B.length := by unfold mkB; split <;> simp
theorem mkB_at (hx : x < B.length) : bAt (mkB B x) x = true := by
  unfold mkB
  split
  · assumption
  · rw [bAt_set hx]; simp
theorem mkB_mono (hx : x < B.length) (h : bAt B u = true) : bAt (mkB B x) u = true := by
  unfold mkB
  split
  · exact h
  · rw [bAt_set hx]; split; rfl; exact h
theorem mk_sum (hx : x < B.length) : (mkO B O x).length + unm (mkB B x) = O.length + unm B := by
  unfold mkO mkB
  split
  · rfl
  · rename_i h
    have := unm_set hx (by simpa using h)
    simp
    omega
theorem mk_less (hx : x < B.length) : unm (mkB B x) ≤ unm B := by
  unfold mkB
  split
  · exact Nat.le_refl _
  · rename_i h
    have := unm_set hx (by simpa using h)
    omega
theorem RS.reach (h : RS n st tl fr B O v i) (hx : x < n) (hr : Rch n st tl fr x) : RS n st tl fr (mkB B x) (mkO B O x) v i := by
  unfold mkB mkO
  split
  · exact h
  · exact h.mark hx hr
theorem mkO_sub (h : u ∈ O) : u ∈ mkO B O x := by
  unfold mkO; split
  · exact h
  · exact List.mem_append.2 (.inl h)
theorem unm_fls : unm (fls n) = n := by simp [unm, fls]
end
theorem reach_any (n x lo R Br Bo : Nat) (ban : Nat → Prop) (B : List Bool) (O : List Nat) (ov : Value) (w : World) (h : RMG w lo R Br Bo ban n B O ov) (hx : x < n) (hB : B.length = n) (hn : n ≤ 1048576) (hO : O.length + unm B ≤ n) (hR : lo ≤ R) (hBo : lo ≤ Bo) (hRb : ¬ ban R) (hBb : ¬ ban Bo) (hbl : ∀ k, ban k → k < w.heap.size) (hlo : lo ≤ w.heap.size) :
    Calls Try.prog 26 #[.int .i64 x, .pointer (some ⟨Br, 0, none⟩), .pointer (some ⟨Bo, 0, none⟩)] w (RPost w lo R Br Bo ban n (mkB B x) (mkO B O x)) := by
  unfold mkB mkO
  by_cases hb : bAt B x = true
  · rw [if_pos hb, if_pos hb]
    exact reach_old n x lo R Br Bo ban B O ov w h hx hB hb
  · rw [if_neg hb, if_neg hb]
    exact reach_new n x lo R Br Bo ban B O ov w h hx hB (by simpa using hb) hn (by omega) hR hBo hRb hBb hbl hlo
theorem RMG.reban {w : World} {lo R Br Bo n : Nat} {ban ban' : Nat → Prop} {B : List Bool} {O : List Nat} {ov : Value} (h : RMG w lo R Br Bo ban n B O ov) (hb : ∀ g, g < w.heap.size → ¬ ban' g) : RMG w lo R Br Bo ban' n B O ov :=
  ⟨h.br, h.ab, h.bo, h.ow, fun g e => by
    obtain ⟨h1, c, f, h2⟩ := own_type h.ow e
    exact hb g (lt_of_heap h2)⟩
/-- What stays: the graph's box, the function's, all that was there ahead. -/
structure RX (w x : World) (Bg Bc Br Bo n : Nat) (va vb vc : Value) : Prop where
  bg : x.heap[Bg]? = some (.cells #[.int .i64 n, va, vb, vc] 28 (0, 0))
  bc : x.heap[Bc]? = some (.cells #[.func (.func 26) #[] #[.pointer (some ⟨Br, 0, none⟩), .pointer (some ⟨Bo, 0, none⟩)]] 64 (0, 0))
  bel : Below w.heap.size w x
theorem RX.chg {w x x' : World} {Bg Bc Br Bo n lo : Nat} {ban : Nat → Prop} {va vb vc : Value} (h : RX w x Bg Bc Br Bo n va vb vc) (hc : Chg (Tn x lo ban) x x') (hlo : w.heap.size ≤ lo) (hs : lo ≤ x.heap.size) : RX w x' Bg Bc Br Bo n va vb vc := by
  refine ⟨hc.heap h.bg ?_, hc.heap h.bc ?_, Chg.below h.bel hc (fun i hi => Nat.le_trans hlo hi.2.1) h.bel.size⟩
  · rintro ⟨_, _, c, t, f, he, ht⟩
    rw [h.bg] at he
    simp only [Option.some.injEq, Obj.cells.injEq] at he
    obtain ⟨_, rfl, _⟩ := he
    revert ht; decide
  · rintro ⟨_, _, c, t, f, he, ht⟩
    rw [h.bc] at he
    simp only [Option.some.injEq, Obj.cells.injEq] at he
    obtain ⟨_, rfl, _⟩ := he
    revert ht; decide
theorem RX.below {w x x' : World} {Bg Bc Br Bo n : Nat} {va vb vc : Value} (h : RX w x Bg Bc Br Bo n va vb vc) (hb : Below x.heap.size x x') : RX w x' Bg Bc Br Bo n va vb vc :=
  ⟨(hb.block _ (lt_of_heap h.bg)).trans h.bg, (hb.block _ (lt_of_heap h.bc)).trans h.bc, below_onG h.bel hb⟩
theorem RMG.below {w w' : World} {lo R Br Bo n : Nat} {ban : Nat → Prop} {B : List Bool} {O : List Nat} {ov : Value} (h : RMG w lo R Br Bo ban n B O ov) (hb : Below w.heap.size w w') : RMG w' lo R Br Bo ban n B O ov :=
  ⟨(hb.block _ (lt_of_heap h.br)).trans h.br, (hb.block _ (lt_of_heap h.ab)).trans h.ab, (hb.block _ (lt_of_heap h.bo)).trans h.bo, own_keepB h.ow (fun g hg => by
    obtain ⟨_, c, f, h2⟩ := own_type h.ow hg
    exact hb.block _ (lt_of_heap h2)), h.bn⟩
end Go.Proofs.Ytiohimbifjlfdaa

/- The open ones' row: its last one, and without it. -/
namespace Go.Proofs.Ytiohimbifjlfdaa
open Go.RowKit Go.Lib
set_option linter.unusedVariables false
theorem own_last {w : World} {lo m : Nat} {ao : Option Addr} {c : Nat} {xs : List Value} {y : Value} (h : w.ownsRow lo 3 1 (.slice ao (m + 1) c) (m + 1) (xs ++ [y])) (hx : xs.length = m) :
    ∃ g, ao = some ⟨g, 0, none⟩ ∧ m + 1 ≤ c ∧ w.cell? ⟨g, m, none⟩ = some y ∧ w.ownsRow lo 3 1 (.slice ao m c) m xs := by
  obtain ⟨h1, ⟨he, _⟩ | ⟨g, cap, cur, he, hl, hh, hnc, hcm, hcur, htake⟩⟩ := h
  · simp at he
  · simp only [Value.slice.injEq, true_and] at he
    obtain ⟨rfl, rfl⟩ := he
    simp only [Nat.mul_one] at htake
    have hc : cur.toList[m]? = some y := by
      have : (cur.toList.take (m + 1))[m]? = some y := by rw [htake, List.getElem?_append_right (by omega)]; simp [hx]
      rw [List.getElem?_take_of_lt (by omega)] at this
      exact this
    refine ⟨g, rfl, hnc, ?_, ?_⟩
    · refine cell_of hh ?_
      rw [← Array.getElem?_toList]; exact hc
    · refine ⟨by simp [hx], .inr ⟨g, c, cur, rfl, hl, hh, by omega, hcm, hcur, ?_⟩⟩
      simp only [Nat.mul_one]
      have e : cur.toList.take m = (cur.toList.take (m + 1)).take m := by rw [List.take_take, Nat.min_eq_left (by omega)]
      rw [e, htake, List.take_append_of_le_length (by omega), List.take_of_length_le (by omega)]
/-- How many there are in the box, and how many cells of a block are false. -/
def lenW (w : World) (B : Nat) : Nat := match w.cell? ⟨B, 0, none⟩ with | some (.slice _ n _) => n | _ => 0
def fal : Value → Bool | .bool false => true | _ => false
def unmW (w : World) (R : Nat) : Nat := match w.heap[R]? with | some (.cells cs _ _) => cs.toList.countP fal | _ => 0
theorem lenW_eq {w : World} {lo R Br Bo n : Nat} {ban : Nat → Prop} {B : List Bool} {O : List Nat} {ov : Value} (h : RMG w lo R Br Bo ban n B O ov) : lenW w Bo = O.length := by
  obtain ⟨ao, c, rfl⟩ := own_slice h.ow
  unfold lenW
  rw [cell_of h.bo (i := 0) rfl]
  rfl
theorem unmW_eq {w : World} {lo R Br Bo n : Nat} {ban : Nat → Prop} {B : List Bool} {O : List Nat} {ov : Value} (h : RMG w lo R Br Bo ban n B O ov) : unmW w R = unm B := by
  unfold unmW
  have := h.ab
  unfold ArrB at this
  rw [this]
  simp only [bCellsG, unm, List.count]
  rw [List.countP_map]
  congr 1
  funext b
  cases b <;> simp [fal]
theorem leave_marks2 {P : Program} {fn : Func} {tmps : Array Value} {n : Nat} {α : Type} {B : Nat} {J : α → World → Prop} {s : α} {v : Value} {R : Ending → World → Prop} (hJ : OwnFrom B J) (hres : ∀ w, (results fn tmps).run P w = .ok v w) (hR : ∀ w, J s w → R (.returned v) w) : ∀ (ds : List Deferred) (w : World), MarksAt B w ds → J s w → LeavesInM Fence.wide n P fn tmps R ds .returning w := by
  intro ds
  induction ds with
  | nil => intro w _ hj; exact ⟨_, hres _, hR _ hj⟩
  | cons d ds ih =>
    intro w ⟨⟨D, hd, h1, h2, h3⟩, h4⟩ hj
    subst hd
    refine ⟨by simp, .inl ⟨D, _, rfl, run_takeDeferred h2, ih _ (h4.kept fun D' _ hm hw => ?_) (hJ.putObj _ hj h1 h2 rfl)⟩⟩
    exact (World.putObj_heap_other (h3 D' hm)).trans hw
end Go.Proofs.Ytiohimbifjlfdaa
