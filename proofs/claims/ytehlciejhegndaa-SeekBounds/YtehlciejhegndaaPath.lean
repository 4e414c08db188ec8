/- route.Path. -/
import Derived.Test.YtehlciejhegndaaReverse
import Derived.Test.YtehlciejhegndaaLenWalk
namespace Go.Proofs.Ytehlciejhegndaa
open Go.RowKit Go.Lib
set_option linter.unusedVariables false

def PathPost (w : World) (r : List Int × Int) (e : Ending) (w' : World) : Prop := ∃ v, e = .returned (.tuple #[v, .int .i64 r.2]) ∧ RowAt .i64 w' v r.1 ∧ Below w.heap.size w w'
theorem RowAt.nil (w : World) : RowAt .i64 w (.slice none 0 0) [] := ⟨none, 0, rfl, by simp, by omega, (fun _ => rfl), (fun a ha => by cases ha)⟩
def slen : Value → Nat
  | .slice _ n _ => n
  | _ => 0
theorem owns_shape {w : World} {base n : Nat} {e : TypeId} {v : Value} {xs : List Value} (h : w.ownsRow base e 1 v n xs) : (v = .slice none 0 0 ∧ n = 0) ∨ ∃ g c, v = .slice (some ⟨g, 0, none⟩) n c := by
  obtain ⟨_, ⟨rfl, h0⟩ | ⟨g, cap, cur, rfl, _⟩⟩ := h
  · exact .inl ⟨rfl, h0⟩
  · exact .inr ⟨g, cap, rfl⟩
theorem owns_slen {w : World} {base n : Nat} {e : TypeId} {v : Value} {xs : List Value} (h : w.ownsRow base e 1 v n xs) : slen v = n := by
  rcases owns_shape h with ⟨rfl, h0⟩ | ⟨g, c, rfl⟩
  · exact h0.symm
  · rfl
theorem owns_len {w : World} {base n : Nat} {e : TypeId} {v : Value} {xs : List Value} (h : w.ownsRow base e 1 v n xs) : ∃ ao c, v = .slice ao n c := by
  rcases owns_shape h with ⟨rfl, rfl⟩ | ⟨g, c, rfl⟩
  · exact ⟨none, 0, rfl⟩
  · exact ⟨_, c, rfl⟩
theorem own_below {w w1 w2 : World} {e : TypeId} {size n : Nat} {v : Value} {xs : List Value} {p : Obj} (hb1 : Below w.heap.size w w1) (h1 : w1.ownsRow w.heap.size e size v n xs) (hgrow : (w1.alloc p).grownBy w2 v.ownBlock) : Below w.heap.size w w2 := by
  refine (hb1.alloc hb1.size _).grown hgrow (by have := hb1.size; simp; omega) ?_
  intro j hj
  obtain ⟨_, ⟨rfl, _⟩ | ⟨g', cap, cur', rfl, hg', _⟩⟩ := h1
  · simp [Value.ownBlock] at hj
  · simp [Value.ownBlock] at hj; omega
theorem one_at (w : World) (x : Value) (t : TypeId) : ∀ j u, [x][j]? = some u → (w.alloc (.cells #[x] t)).cell? ((⟨w.heap.size, 0, none⟩ : Addr).add j) = some u := by
  intro j u hj
  have hh : (w.alloc (.cells #[x] t)).heap[w.heap.size]? = some (.cells #[x] t (0, 0)) := heap_new _ _
  rw [Addr.add_lit]
  match j, hj with
  | 0, hj => simp at hj; subst hj; exact cell_of hh rfl
theorem owns_below {w w1 w2 : World} {e : TypeId} {size n : Nat} {v : Value} {xs : List Value} (h1 : w1.ownsRow w.heap.size e size v n xs) (hb : Below w1.heap.size w1 w2) : w2.ownsRow w.heap.size e size v n xs := by
  obtain ⟨hl, ⟨rfl, h0⟩ | ⟨g, cap, cur, rfl, hg, hh, r⟩⟩ := h1
  · exact ⟨hl, .inl ⟨rfl, h0⟩⟩
  · exact ⟨hl, .inr ⟨g, cap, cur, rfl, hg, (hb.block g (lt_of_heap hh)).trans hh, r⟩⟩

theorem RowW.of_owns2 {w : World} {base g n c : Nat} {l : List Int} (h : w.ownsRow base 3 1 (.slice (some ⟨g, 0, none⟩) n c) n (l.map (Value.int .i64))) (hn : l.length = n) : RowW w g l ∧ n ≤ c ∧ c ≤ 9223372036854775807 ∧ base ≤ g := by
  subst hn
  obtain ⟨a, b, c, d, _⟩ := RowW.of_owns h
  exact ⟨a, b, c, d⟩

end Go.Proofs.Ytehlciejhegndaa
