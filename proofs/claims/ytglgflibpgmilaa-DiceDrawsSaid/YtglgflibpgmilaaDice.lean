/- A Dice in memory; Next where a given word is left; Used. -/
import Derived.Test.YtglgflibpgmilaaClone
import Derived.Test.YtglgflibpgmilaaMul
namespace Go.Proofs.Ytglgflibpgmilaa
open Go.RowKit Go.Lib

structure St where
  a : Nat
  b : Nat
  c : Nat
  d : Nat

def fnv (n : Nat) : Value := .func (.func n) #[] #[]

def DObj (fn v : Value) (s : St) (u : Int) : Obj :=
  .cells #[fn, v, .int .u64 s.a, .int .u64 s.b, .int .u64 s.c, .int .u64 s.d, .int .i64 u] 79 (0, 0)

/-- A block that is a row of words. -/
abbrev W22 (w : World) (g : Nat) : Prop := g < w.heap.size ∧ ∃ cs fr, w.heap[g]? = some (.cells cs 22 fr)
theorem W22.lt {w : World} {g : Nat} (h : W22 w g) : g < w.heap.size := h.1
theorem W22.row {w : World} {g : Nat} (h : W22 w g) : ∃ cs fr, w.heap[g]? = some (.cells cs 22 fr) := h.2
theorem W22.but {w w' : World} {g b : Nat} (h : W22 w g) (k : But b w w') (hne : g ≠ b) : W22 w' g := by
  obtain ⟨h1, cs, fr, h2⟩ := h
  exact ⟨Nat.lt_of_lt_of_le h1 k.size, cs, fr, (k.block g h1 hne).trans h2⟩
theorem W22.below {w w' : World} {g : Nat} (h : W22 w g) (k : Below w.heap.size w w') : W22 w' g := by
  obtain ⟨h1, cs, fr, h2⟩ := h
  exact ⟨Nat.lt_of_lt_of_le h1 k.size, cs, fr, (k.block g h1).trans h2⟩
/-- The given words that are left: nil, or a row in a block below b. -/
def WordsAt (w : World) (b : Nat) (v : Value) (ws : List Int) : Prop :=
  (v = .slice none 0 0 ∧ ws = []) ∨ ∃ g o c, v = .slice (some ⟨g, o, none⟩) ws.length c ∧ g < b ∧ W22 w g ∧ ws.length ≤ c ∧ c ≤ 9223372036854775807 ∧
    ∀ i, i < ws.length → w.cell? ⟨g, o + i, none⟩ = some (.int .u64 (ws.getD i 0))

theorem WordsAt.but {w w' : World} {b : Nat} {v : Value} {ws : List Int} (h : WordsAt w b v ws) (k : But b w w') : WordsAt w' b v ws := by
  rcases h with h | ⟨g, o, c, hv, hg, hgs, h1, h2, h3⟩
  · exact Or.inl h
  · refine Or.inr ⟨g, o, c, hv, hg, hgs.but k (by omega), h1, h2, fun i hi => ?_⟩
    rw [World.cell?_of_block (w := w) (k.block g hgs.lt (by omega))]
    exact h3 i hi

theorem heap_set {w : World} {b i : Nat} {cs : Array Value} {t : TypeId} {fr : Nat × Nat} (h : w.heap[b]? = some (.cells cs t fr)) (u : Value) :
    (w.setCell ⟨b, i, none⟩ u).heap[b]? = some (.cells (cs.setIfInBounds i u) t fr) := by
  simp [World.setCell, Array.getElem?_modify, h]

theorem cell_of {w : World} {b i : Nat} {cs : Array Value} {t : TypeId} {fr : Nat × Nat} {v : Value} (h : w.heap[b]? = some (.cells cs t fr)) (hv : cs[i]? = some v) :
    w.cell? ⟨b, i, none⟩ = some v := by simp [World.cell?, h, hv]
theorem free_of {w : World} {b : Nat} {cs : Array Value} {t : TypeId} (h : w.heap[b]? = some (.cells cs t (0, 0))) (i : Nat) :
    w.frozen? ⟨b, i, none⟩ = false := by simp [World.frozen?, h]

/-- A function value held against nil. -/
theorem eql_func_nil (f : Fn) (p q : Array Value) (w : World) : (binOp .eql 77 (.func f p q) .nilFunc).run Try.prog w = .ok (.bool false) w := by
  have h : ∀ d : Nat, (Op.equalIn (d + 1) 77 (.func f p q) .nilFunc).run Try.prog w = .ok false w := fun d => by
    simp [Op.equalIn, run_underlying Try.underlying77]
  simp only [binOp]
  simp [Op.equal, Op.maxDepth, h 9999]

theorem given_end (w : World) (b g o o' c c' : Nat) (s : St) (u x : Int) (ws : List Int)
    (HH : Hid (w.heap[b]? = some (DObj (fnv 41) (.slice (some ⟨g, o, none⟩) (x :: ws).length c) s u)))
    (HC : Hid (∀ i, i < (x :: ws).length → w.cell? ⟨g, o + i, none⟩ = some (.int .u64 ((x :: ws).getD i 0))))
    (hg : g < b) (hgs : W22 w g) (hl : ws.length ≤ c') (hm : c' ≤ 9223372036854775807) (ho : ws = [] ∨ o' = o + 1) :
    ∃ v', ((w.setCell ⟨b, 6, none⟩ (.int .i64 (u + 1))).setCell ⟨b, 1, none⟩ (.slice (some ⟨g, o', none⟩) ws.length c')).heap[b]? = some (DObj (fnv 41) v' s (u + 1)) ∧
      WordsAt ((w.setCell ⟨b, 6, none⟩ (.int .i64 (u + 1))).setCell ⟨b, 1, none⟩ (.slice (some ⟨g, o', none⟩) ws.length c')) b v' ws ∧
      But b w ((w.setCell ⟨b, 6, none⟩ (.int .i64 (u + 1))).setCell ⟨b, 1, none⟩ (.slice (some ⟨g, o', none⟩) ws.length c')) := by
  have hbut : But b w ((w.setCell ⟨b, 6, none⟩ (.int .i64 (u + 1))).setCell ⟨b, 1, none⟩ (.slice (some ⟨g, o', none⟩) ws.length c')) :=
    (But.setCell w ⟨b, 6, none⟩ _).trans (But.setCell _ ⟨b, 1, none⟩ _)
  refine ⟨.slice (some ⟨g, o', none⟩) ws.length c', ?_, ?_, hbut⟩
  · exact heap_set (heap_set HH.out _) _
  · refine WordsAt.but (Or.inr ⟨g, o', c', rfl, hg, hgs, hl, hm, fun i hi => ?_⟩) hbut
    rcases ho with rfl | rfl
    · simp at hi
    · have := HC.out (i + 1) (by simp; omega)
      rw [show o + 1 + i = o + (i + 1) by omega, this]
      simp

set_option maxRecDepth 100000 in
/-- Next where a given word is left. -/
theorem next_given (w : World) (b : Nat) (v : Value) (s : St) (u : Int) (x : Int) (ws : List Int)
    (hh : w.heap[b]? = some (DObj (fnv 41) v s u)) (hw : WordsAt w b v (x :: ws)) (hu0 : 0 ≤ u) (hu1 : u < 9223372036854775807) :
    Calls Try.prog 25 #[.pointer (some ⟨b, 0, none⟩)] w fun e w' => e = .returned (.int .u64 x) ∧
      ∃ v', w'.heap[b]? = some (DObj (fnv 41) v' s (u + 1)) ∧ WordsAt w' b v' ws ∧ But b w w' := by
  rcases hw with ⟨_, h⟩ | ⟨g, o, c, rfl, hg, hgs, hl, hm, hcell⟩
  · cases h
  have hgb : g ≠ b := by omega
  have hx : w.cell? ⟨g, o, none⟩ = some (.int .u64 x) := by simpa using hcell 0 (by simp)
  have HC : Hid (∀ i, i < (x :: ws).length → w.cell? ⟨g, o + i, none⟩ = some (.int .u64 ((x :: ws).getD i 0))) := hcell
  have HH : Hid (w.heap[b]? = some (DObj (fnv 41) (.slice (some ⟨g, o, none⟩) (x :: ws).length c) s u)) := hh
  have c0 : w.cell? ⟨b, 0, none⟩ = some (.func (.func 41) #[] #[]) := cell_of hh rfl
  have c1 : w.cell? ⟨b, 1, none⟩ = some (.slice (some ⟨g, o, none⟩) (ws.length + 1) c) := cell_of hh rfl
  have c6 : w.cell? ⟨b, 6, none⟩ = some (.int .i64 u) := cell_of hh rfl
  have f1 : w.frozen? ⟨b, 1, none⟩ = false := free_of hh 1
  have f6 : w.frozen? ⟨b, 6, none⟩ = false := free_of hh 6
  simp only [List.length_cons] at hl
  clear hh hcell
  have q77 := eql_func_nil
  go_enter Try.func25, Try.ntmps25
  go_wp2
  · go_ret
    exact ⟨rfl, given_end w b g o o c 0 s u x ws HH HC hg hgs (by omega) (by omega) (.inl (List.eq_nil_of_length_eq_zero (by omega)))⟩
  · go_ret
    exact ⟨rfl, given_end w b g o (o + 1) c (c - 1) s u x ws HH HC hg hgs (by omega) (by omega) (.inr rfl)⟩

theorem used_any (w : World) (b : Nat) (fn v : Value) (s : St) (u : Int) (hh : w.heap[b]? = some (DObj fn v s u)) :
    Calls Try.prog 20 #[.pointer (some ⟨b, 0, none⟩)] w fun e w' => e = .returned (.int .i64 u) ∧ w' = w := by
  have c6 : w.cell? ⟨b, 6, none⟩ = some (.int .i64 u) := cell_of hh rfl
  clear hh
  go_enter Try.func20, Try.ntmps20
  go_wp2
  go_ret
  exact ⟨rfl, rfl⟩

theorem below_zero (w : World) (p : Value) :
    Calls Try.prog 37 #[p, .int .u64 0] w fun e w' => e = .returned (.tuple #[.int .u64 0, .int .i64 7]) ∧ w' = w := by
  go_enter Try.func37, Try.ntmps37
  go_wp2
  go_ret2
  exact ⟨rfl, rfl⟩

set_option maxRecDepth 100000 in
theorem below_given (w : World) (b : Nat) (v : Value) (s : St) (u x n : Int) (ws : List Int)
    (hh : w.heap[b]? = some (DObj (fnv 41) v s u)) (hw : WordsAt w b v (x :: ws)) (hu0 : 0 ≤ u) (hu1 : u < 9223372036854775807)
    (hx0 : 0 ≤ x) (hx1 : x < 18446744073709551616) (hn0 : 0 < n) (hn1 : n < 18446744073709551616) :
    Calls Try.prog 37 #[.pointer (some ⟨b, 0, none⟩), .int .u64 n] w fun e w' =>
      e = .returned (.tuple #[.int .u64 ((x.toNat * n.toNat / 18446744073709551616 : Nat) : Int), .int .i64 0]) ∧
      ∃ v', w'.heap[b]? = some (DObj (fnv 41) v' s (u + 1)) ∧ WordsAt w' b v' ws ∧ But b w w' := by
  have hne : (n == 0) = false := by simp; omega
  obtain ⟨X, rfl⟩ := Int.eq_ofNat_of_zero_le hx0
  obtain ⟨N, rfl⟩ := Int.eq_ofNat_of_zero_le (Int.le_of_lt hn0)
  have hc := next_given w b v s u X ws hh hw hu0 hu1
  have HC : Hid (Calls Try.prog 25 #[.pointer (some ⟨b, 0, none⟩)] w fun e w' => e = .returned (.int .u64 (X : Int)) ∧
      ∃ v', w'.heap[b]? = some (DObj (fnv 41) v' s (u + 1)) ∧ WordsAt w' b v' ws ∧ But b w w') := hc
  clear hc hh hw
  go_enter Try.func37, Try.ntmps37
  go_wp2_with fail
  refine HC.out.mono ?_
  rintro e w' ⟨rfl, h⟩
  have H : Hid (∃ v', w'.heap[b]? = some (DObj (fnv 41) v' s (u + 1)) ∧ WordsAt w' b v' ws ∧ But b w w') := h
  clear h
  go_wp2_with fail
  refine (Try.bits_Mul64 X N (by omega) (by omega) _).mono ?_
  rintro e w1 ⟨rfl, rfl⟩
  go_wp2_with fail
  go_ret2
  exact ⟨rfl, H.out⟩
end Go.Proofs.Ytglgflibpgmilaa
