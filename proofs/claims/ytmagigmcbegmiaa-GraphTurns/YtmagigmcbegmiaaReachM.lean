/- Reach's memory: marks and the open ones; the function that marks. -/
import Derived.Test.YtmagigmcbegmiaaReachP
import Derived.Test.YtmagigmcbegmiaaMarks
import Derived.Test.YtmagigmcbegmiaaCopy
import Derived.Maps.AppendAt
namespace Go.Proofs.Ytmagigmcbegmiaa
open Go.RowKit Go.Lib
set_option linter.unusedVariables false
def bCells (l : List Bool) : Array Value := (l.map Value.bool).toArray
def ArrB (w : World) (g : Nat) (l : List Bool) : Prop := w.heap[g]? = some (.cells (bCells l) 4 (0, 0))
theorem ArrB.cell {w : World} {g : Nat} {l : List Bool} (h : ArrB w g l) (i : Nat) (hi : i < l.length) : w.cell? ⟨g, i, none⟩ = some (.bool (bAt l i)) := by
  refine cell_of h ?_
  simp [bCells, bAt, hi]
theorem ArrB.free {w : World} {g : Nat} {l : List Bool} (h : ArrB w g l) (i : Nat) : w.frozen? ⟨g, i, none⟩ = false := free_of h i
theorem ArrB.put {w : World} {g : Nat} {l : List Bool} (h : ArrB w g l) (i : Nat) (x : Bool) : ArrB (w.setCell ⟨g, i, none⟩ (.bool x)) g (l.set i x) := by
  have := heap_set (i := i) h (.bool x)
  unfold ArrB
  rw [this]
  simp [bCells]
def oCells (O : List Nat) : List Value := O.map fun (v : Nat) => Value.int .i64 (v : Int)
/-- Boxes of the marks and of the open ones; the latter's row is not in the block ban. -/
structure RM (w : World) (lo R Br Bo : Nat) (ban : Nat → Prop) (n : Nat) (B : List Bool) (O : List Nat) (ov : Value) : Prop where
  br : w.heap[Br]? = some (.cells #[.slice (some ⟨R, 0, none⟩) n n] 38 (0, 0))
  ab : ArrB w R B
  bo : w.heap[Bo]? = some (.cells #[ov] 22 (0, 0))
  ow : w.ownsRow lo 3 1 ov O.length (oCells O)
  bn : ∀ g, ov.ownBlock = some g → ¬ ban g
/-- What a call of it may turn. -/
def Tn (w : World) (lo : Nat) (ban : Nat → Prop) (k : Nat) : Prop := ¬ ban k ∧ lo ≤ k ∧ ∃ c t f, w.heap[k]? = some (.cells c t f) ∧ (t = 4 ∨ t = 22 ∨ t = 3)
theorem own_type {w : World} {lo m : Nat} {v : Value} {xs : List Value} (h : w.ownsRow lo 3 1 v m xs) {g : Nat} (hg : v.ownBlock = some g) : lo ≤ g ∧ ∃ c f, w.heap[g]? = some (.cells c 3 f) := by
  obtain ⟨_, ⟨rfl, _⟩ | ⟨g', cap, cur, rfl, hl, hh, _⟩⟩ := h
  · simp [Value.ownBlock] at hg
  · simp [Value.ownBlock] at hg
    subst hg
    exact ⟨hl, _, _, hh⟩
theorem own_slice {w : World} {lo m : Nat} {v : Value} {xs : List Value} (h : w.ownsRow lo 3 1 v m xs) : ∃ ao c, v = .slice ao m c := by
  obtain ⟨_, ⟨rfl, hm⟩ | ⟨g', cap, cur, rfl, _⟩⟩ := h
  · exact ⟨none, 0, by rw [hm]⟩
  · exact ⟨_, _, rfl⟩
theorem own_keepB {w w' : World} {lo m : Nat} {v : Value} {xs : List Value} (h : w.ownsRow lo 3 1 v m xs) (hk : ∀ g, v.ownBlock = some g → w'.heap[g]? = w.heap[g]?) : w'.ownsRow lo 3 1 v m xs := by
  obtain ⟨h1, h2⟩ := h
  refine ⟨h1, h2.imp id ?_⟩
  rintro ⟨g, cap, cur, rfl, hl, hh, r⟩
  exact ⟨g, cap, cur, rfl, hl, (hk g rfl).trans hh, r⟩
def RPost (w : World) (lo R Br Bo : Nat) (ban : Nat → Prop) (n : Nat) (B : List Bool) (O : List Nat) (e : Ending) (w' : World) : Prop :=
  (∃ v, e = .returned v) ∧ (∃ ov, RM w' lo R Br Bo ban n B O ov) ∧ Chg (Tn w lo ban) w w'
set_option maxRecDepth 100000 in
theorem reach_old (n x lo R Br Bo : Nat) (ban : Nat → Prop) (B : List Bool) (O : List Nat) (ov : Value) (w : World) (h : RM w lo R Br Bo ban n B O ov) (hx : x < n) (hB : B.length = n) (hb : bAt B x = true) :
    Calls Try.prog 50 #[.int .i64 x, .pointer (some ⟨Br, 0, none⟩), .pointer (some ⟨Bo, 0, none⟩)] w (RPost w lo R Br Bo ban n B O) := by
  have c0 := cell_of h.br (i := 0) rfl
  have c1 := h.ab.cell x (by omega)
  rw [hb] at c1
  have hxi : (x : Int) < (n : Int) := by omega
  have HR : Hid (RPost w lo R Br Bo ban n B O (.returned (.tuple #[])) w) := ⟨⟨_, rfl⟩, ⟨ov, h⟩, Chg.refl _ _⟩
  clear h hb
  go_enter Try.func50, Try.ntmps50
  go_wp2
  go_end0
  exact HR.out
set_option maxRecDepth 100000 in
set_option maxHeartbeats 4000000 in
theorem reach_new (n x lo R Br Bo : Nat) (ban : Nat → Prop) (B : List Bool) (O : List Nat) (ov : Value) (w : World) (h : RM w lo R Br Bo ban n B O ov) (hx : x < n) (hB : B.length = n) (hb : bAt B x = false) (hn : n ≤ 1048576) (hO : O.length ≤ n) (hR : lo ≤ R) (hBo : lo ≤ Bo) (hRb : ¬ ban R) (hBb : ¬ ban Bo) (hbl : ∀ k, ban k → k < w.heap.size) (hlo : lo ≤ w.heap.size) :
    Calls Try.prog 50 #[.int .i64 x, .pointer (some ⟨Br, 0, none⟩), .pointer (some ⟨Bo, 0, none⟩)] w (RPost w lo R Br Bo ban n (B.set x true) (O ++ [x])) := by
  obtain ⟨i0, hi, hz0, hz1, hz2⟩ := info_parts Try.info3
  have n1 : Br ≠ R := by rintro rfl; have := h.br; have h2 := h.ab; unfold ArrB at h2; rw [h2] at this; simp at this
  have n2 : Bo ≠ R := by rintro rfl; have := h.bo; have h2 := h.ab; unfold ArrB at h2; rw [h2] at this; simp at this
  have n3 : Br ≠ Bo := by rintro rfl; have := h.bo; rw [h.br] at this; simp at this
  have n4 : ∀ g, ov.ownBlock = some g → g ≠ R ∧ g ≠ Bo ∧ g ≠ Br := fun g hg => by
    obtain ⟨_, c, f, hh⟩ := own_type h.ow hg
    refine ⟨?_, ?_, ?_⟩
    · rintro rfl; have h2 := h.ab; unfold ArrB at h2; rw [h2] at hh; simp at hh
    · rintro rfl; rw [h.bo] at hh; simp at hh
    · rintro rfl; rw [h.br] at hh; simp at hh
  obtain ⟨w1, hw1⟩ : ∃ w1, w1 = w.setCell ⟨R, x, none⟩ (.bool true) := ⟨_, rfl⟩
  have o1 : ∀ k, k ≠ R → w1.heap[k]? = w.heap[k]? := fun k hk => by rw [hw1]; exact Below.heap_setCell _ _ _ _ (by exact hk)
  have a1 : ArrB w1 R (B.set x true) := by rw [hw1]; exact h.ab.put x true
  have b1 := (o1 Bo n2).trans h.bo
  have r1 := (o1 Br n1).trans h.br
  have w1o : w1.ownsRow lo 3 1 ov O.length (oCells O) := own_keepB h.ow fun g hg => o1 g (n4 g hg).1
  have s1 : w1.heap.size = w.heap.size := by rw [hw1]; simp [World.setCell]
  have c0 := cell_of h.br (i := 0) rfl
  have c1 := h.ab.cell x (by omega)
  rw [hb] at c1
  have c2 := h.ab.free x
  have d0 := cell_of r1 (i := 0) rfl
  have d1 := cell_of b1 (i := 0) rfl
  have hxi : (x : Int) < (n : Int) := by omega
  have HB1 := hide b1; have HR1 := hide r1; have HA1 := hide a1; have HO1 := hide w1o; have HS1 := hide s1; have HK1 := hide o1; have HH := hide h
  have hon : (w.setCell ⟨R, x, none⟩ (.bool true)).ownsRow lo 3 1 ov O.length (oCells O) := by rw [← hw1]; exact HO1.out
  have hcl : ∀ (j : Nat) (u : Value), ([Value.int .i64 (x : Int)] : List Value)[j]? = some u → ((w.setCell ⟨R, x, none⟩ (.bool true)).alloc (.cells #[.int .i64 (x : Int)] 3)).cell? ((⟨w.heap.size, 0, none⟩ : Addr).add j) = some u := by
    intro j u hj
    have : j = 0 := by have := (List.getElem?_eq_some_iff.1 hj).1; simpa using this
    subst this
    simp at hj
    subst hj
    have hh := heap_new (w.setCell ⟨R, x, none⟩ (.bool true)) (.cells #[.int .i64 (x : Int)] 3)
    rw [← hw1, HS1.out] at hh
    rw [← hw1]
    exact cell_of hh (i := 0) rfl
  have hsz : lo ≤ ((w.setCell ⟨R, x, none⟩ (.bool true)).alloc (.cells #[.int .i64 (x : Int)] 3)).heap.size := by rw [← hw1]; have := HS1.out; simp; omega
  obtain ⟨w2, hw2⟩ : ∃ w2, w2 = (w.setCell ⟨R, x, none⟩ (.bool true)).alloc (.cells #[.int .i64 (x : Int)] 3) := ⟨_, rfl⟩
  have e2 : ∀ k, k < w.heap.size → w2.heap[k]? = w1.heap[k]? := fun k hk => by rw [hw2, ← hw1]; exact Below.heap_alloc _ _ _ (by have := HS1.out; omega)
  have s2 : w2.heap.size = w.heap.size + 1 := by rw [hw2, ← hw1]; have := HS1.out; simp; omega
  have hRl := lt_of_heap h.ab
  have hBrl := lt_of_heap h.br
  have hBol := lt_of_heap h.bo
  have HN4 := hide n4
  have HF : Hid (∀ v3 w3, w3.ownsRow lo 3 1 v3 (O.length + 1) (oCells O ++ [.int .i64 (x : Int)]) → w2.grownBy w3 ov.ownBlock → (v3.ownBlock = ov.ownBlock ∨ v3.ownBlock = some w2.heap.size) → w3.heap[Bo]? = some (.cells #[ov] 22 (0, 0)) ∧ RPost w lo R Br Bo ban n (B.set x true) (O ++ [x]) (.returned (.tuple #[])) (w3.setCell ⟨Bo, 0, none⟩ v3)) := by
    intro v3 w3 hw3 hg3 hk3
    have hb3 : w3.heap[Bo]? = some (.cells #[ov] 22 (0, 0)) := (hg3.block Bo (by omega) (fun e => (n4 Bo e.symm).2.1 rfl)).trans ((e2 Bo hBol).trans HB1.out)
    have hr3 : w3.heap[Br]? = _ := (hg3.block Br (by omega) (fun e => (n4 Br e.symm).2.2 rfl)).trans ((e2 Br hBrl).trans HR1.out)
    have ha3 : w3.heap[R]? = _ := (hg3.block R (by omega) (fun e => (n4 R e.symm).1 rfl)).trans ((e2 R hRl).trans HA1.out)
    have hso : ∀ k, k ≠ Bo → (w3.setCell ⟨Bo, 0, none⟩ v3).heap[k]? = w3.heap[k]? := fun k hk => Below.heap_setCell _ _ _ _ (by exact hk)
    have hv3 : ∀ g, v3.ownBlock = some g → g ≠ Bo ∧ ¬ ban g := fun g hg => by
      rcases hk3 with e | e
      · rw [e] at hg; exact ⟨(n4 g hg).2.1, h.bn g hg⟩
      · rw [e] at hg; simp only [Option.some.injEq] at hg; exact ⟨by omega, fun c => by have := hbl g c; omega⟩
    refine ⟨hb3, ⟨_, rfl⟩, ⟨v3, ⟨(hso Br n3).trans hr3, (hso R (fun c => n2 c.symm)).trans ha3, by rw [heap_set hb3]; rfl, ?_, fun g c => (hv3 g c).2⟩⟩, ?_⟩
    · have : (O ++ [x]).length = O.length + 1 := by simp
      rw [this, show oCells (O ++ [x]) = oCells O ++ [.int .i64 (x : Int)] by simp [oCells]]
      exact own_keepB hw3 fun g hg => hso g (hv3 g hg).1
    · have k1 : Chg (Tn w lo ban) w w2 := by
        rw [hw2]; exact ((Chg.refl _ w).setCell (p := ⟨R, x, none⟩) ⟨hRb, hR, _, _, _, h.ab, .inl rfl⟩ _).alloc _
      refine (k1.grown hg3 fun k hk => ?_).setCell (p := ⟨Bo, 0, none⟩) ⟨hBb, hBo, _, _, _, h.bo, .inr (.inl rfl)⟩ _
      obtain ⟨q1, c, f, q2⟩ := own_type h.ow hk
      exact .inl ⟨h.bn k hk, q1, _, _, _, q2, .inr (.inr rfl)⟩
  rw [hw2] at HF
  clear e2 s2 n1 n2 n3 n4 HN4 hRl hBrl hBol hw2 HB1 HR1 HA1 HK1 HH
  rw [hw1] at d0 d1
  clear h hb o1 a1 b1 r1 w1o s1
  go_enter Try.func50, Try.ntmps50
  go_wp2_with (first
    | (at_builtin; refine wpList_append_own_at _ rfl (.tmp 12) (.tmp 14) 22 rfl lo 3 i0 (.int .i64 0) 1 8 Try.underlying22 hi hz0 hz1 hz2 rfl (by decide) _ _ _ rfl (hon.alloc _) ⟨w.heap.size, 0, none⟩ 1 1 [.int .i64 (x : Int)] rfl rfl hcl (by simp [Value.oneCell']) (by unfold maxLen; omega) (by omega) hsz ?_; intro v3 w3 hown3 hgrow3 hq3 hblk3; obtain ⟨hb3, hpost⟩ := HF.out v3 w3 hown3 hgrow3 hblk3; obtain ⟨ao3, c3, rfl⟩ := own_slice hown3; have f0 := cell_of hb3 (i := 0) rfl; have f1 := free_of hb3 0; have HP := hide hpost; clear hown3 hgrow3 hq3 hblk3 hon hcl hsz hb3 hpost HF)
    | fail)
  go_wp2
  go_end0
  exact HP.out
theorem Try.infoB : (Try.prog.info? 4).map (fun i => (i.zero, i.size, i.bytes)) = some (some (.bool false), 1, 1) := by kernel_rfl
theorem run_makeB (k : Nat) (hk : k ≤ 4194305) (w : World) :
    (Instr.makeSlice 38 (.int .i64 k) (.int .i64 k)).run Try.prog w = .ok (.slice (some ⟨w.heap.size, 0, none⟩) k k) (w.alloc (.cells (madeCells #[.bool false] k) 4)) := by
  obtain ⟨i0, hi, hz0, hz1, hz2⟩ := info_parts Try.infoB
  have h := run_make (P := Try.prog) w 38 4 i0 (.bool false) Try.underlying38 hi hz0 .i64 .i64 k k (by omega) (Int.le_refl _) (by rw [hz2]; omega) (by omega)
  rw [hz1] at h
  simp only [Int.toNat_natCast, Nat.mul_one] at h
  exact h
theorem made_bools (n : Nat) : madeCells #[.bool false] n = bCells (fls n) := by
  apply Array.ext'
  simp [madeCells, bCells, fls]
  apply List.ext_getElem
  · simp
  · intro i h1 h2
    simp [Nat.mod_one]
end Go.Proofs.Ytmagigmcbegmiaa
