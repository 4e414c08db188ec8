/- A matrix of states in memory. -/
import Derived.Test.YtglgflibpgmilaaRefSkip
namespace Go.Proofs.Ytglgflibpgmilaa
open Go.RowKit Go.Lib

theorem addr_add0 (g i : Nat) : (⟨g, 0, none⟩ : Addr).add i = ⟨g, i, none⟩ := by cases i <;> simp [Addr.add]
/-- A state's four cells, and a matrix' cells in a row. -/
def four (s : St) : List Value := [.int .u64 s.a, .int .u64 s.b, .int .u64 s.c, .int .u64 s.d]
def matCells (m : Nat → St) : Nat → List Value
  | 0 => []
  | k + 1 => matCells m k ++ four (m k)
theorem matCells_length (m : Nat → St) : ∀ k, (matCells m k).length = k * 4
  | 0 => rfl
  | k + 1 => by simp [matCells, matCells_length m k, four]; omega
theorem four_at (s : St) (j : Nat) (hj : j < 4) : (four s)[j]? = some (.int .u64 (Leap.word s j : Nat)) := by
  rcases (show j = 0 ∨ j = 1 ∨ j = 2 ∨ j = 3 by omega) with rfl | rfl | rfl | rfl <;> rfl
theorem matCells_at (m : Nat → St) (n k j : Nat) (hk : k < n) (hj : j < 4) : (matCells m n)[k * 4 + j]? = some (.int .u64 (Leap.word (m k) j : Nat)) := by
  induction n with
  | zero => omega
  | succ n ih =>
    simp only [matCells]
    by_cases h : k < n
    · rw [List.getElem?_append_left (by rw [matCells_length]; omega)]
      exact ih h
    · obtain rfl : k = n := by omega
      rw [List.getElem?_append_right (by rw [matCells_length]; omega), matCells_length, show k * 4 + j - k * 4 = j by omega]
      exact four_at (m k) j hj
theorem matCells_congr {m m' : Nat → St} (n : Nat) (h : ∀ k, k < n → m k = m' k) : matCells m n = matCells m' n := by
  induction n with
  | zero => rfl
  | succ n ih => simp only [matCells]; rw [ih (fun k hk => h k (by omega)), h n (by omega)]

/-- A row of states of its own is a matrix. -/
theorem mat_of_owns {w : World} {B n : Nat} {v : Value} {m : Nat → St} (hn : 0 < n) (h : w.ownsRow B 44 4 v n (matCells m n)) :
    ∃ g c, v = .slice (some ⟨g, 0, none⟩) n c ∧ B ≤ g ∧ n ≤ c ∧ Mat w g m n := by
  obtain ⟨_, ⟨_, h0⟩ | ⟨g, cap, cur, rfl, hg, hh, hnc, hcm, hcur, htake⟩⟩ := h
  · omega
  · refine ⟨g, cap, rfl, hg, hnc, lt_of_heap hh, fun k hk j hj => cell_of hh ?_⟩
    have e1 : (cur.toList.take (n * 4))[k * 4 + j]? = (matCells m n)[k * 4 + j]? := by rw [htake]
    rw [List.getElem?_take_of_lt (by omega)] at e1
    have e2 : cur[k * 4 + j]? = cur.toList[k * 4 + j]? := by simp
    rw [e2, e1]
    exact matCells_at m n k j hk hj

theorem Try.info44 : (Try.prog.info? 44).map (fun i => (i.zero, i.size, i.bytes)) = some (some (.agg #[.int .u64 0, .int .u64 0, .int .u64 0, .int .u64 0]), 4, 32) := by kernel_rfl
theorem four_one (s : St) : ∀ u ∈ four s, u.oneCell' = true := by
  intro u hu
  simp only [four, List.mem_cons, List.not_mem_nil, or_false] at hu
  rcases hu with rfl | rfl | rfl | rfl <;> rfl
theorem four_news (w : World) (s : St) (t : TypeId) : ∀ j u, (four s)[j]? = some u → (w.alloc (.cells #[.int .u64 s.a, .int .u64 s.b, .int .u64 s.c, .int .u64 s.d] t)).cell? ((⟨w.heap.size, 0, none⟩ : Addr).add j) = some u := by
  intro j u hj
  have hjl : j < 4 := by
    have := (List.getElem?_eq_some_iff.1 hj).1
    simpa [four] using this
  rw [addr_add0]
  refine cell_of (heap_new w _) ?_
  rw [← hj]
  simp [four]

theorem owns_below {w w' : World} {B n z : Nat} {e : TypeId} {v : Value} {xs : List Value} (h : w.ownsRow B e z v n xs) (k : Below w.heap.size w w') : w'.ownsRow B e z v n xs := by
  obtain ⟨h1, h2 | ⟨g, cap, cur, rfl, hg, hh, r⟩⟩ := h
  · exact ⟨h1, .inl h2⟩
  · exact ⟨h1, .inr ⟨g, cap, cur, rfl, hg, (k.block g (lt_of_heap hh)).trans hh, r⟩⟩

theorem mat_step {w0 wr w2 w3 : World} {v v' : Value} {k : Nat} {m : Nat → St} {o : Obj} {z : St} (hz : m k = z) (hL : Below w0.heap.size w0 wr) (hb : Below wr.heap.size wr w2)
    (HO : Hid (wr.ownsRow w0.heap.size 44 4 v k (matCells m k)))
    (hown : w3.ownsRow w0.heap.size 44 4 v' (k + 1) (matCells m k ++ four z)) (hgrow : (w2.alloc o).grownBy w3 v.ownBlock) :
    w3.ownsRow w0.heap.size 44 4 v' (k + 1) (matCells m (k + 1)) ∧ Below w0.heap.size w0 w3 := by
  refine ⟨by simp only [matCells]; rw [hz]; exact hown, ?_⟩
  have h2 : Below w0.heap.size w0 w2 := hL.trans (hb.mono hL.size)
  refine (h2.alloc h2.size _).grown hgrow (by have := h2.size; simp; omega) ?_
  intro j hj
  obtain ⟨_, ⟨rfl, _⟩ | ⟨g, cap, cur, rfl, hg, _⟩⟩ := HO.out
  · simp [Value.ownBlock] at hj
  · simp [Value.ownBlock] at hj; omega

/-- The matrix of so many steps. -/
def steps (e k : Nat) : St := Leap.it e (Leap.bitSt k)
theorem steps_ok (e k : Nat) : (steps e k).Ok := Leap.it_ok (Leap.bitSt_ok k) e
end Go.Proofs.Ytglgflibpgmilaa
