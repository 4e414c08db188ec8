/- The open ones' row: its last one, and without it. -/
import Derived.Test.YtmagigmcbegmiaaReachN
import Derived.Test.YtmagigmcbegmiaaRIter
namespace Go.Proofs.Ytmagigmcbegmiaa
open Go.RowKit Go.Lib
set_option linter.unusedVariables false
theorem own_last {w : World} {lo m : Nat} {ao : Option Addr} {c : Nat} {xs : List Value} {y : Value} (h : w.ownsRow lo 3 1 (.slice ao (m + 1) c) (m + 1) (xs ++ [y])) (hx : xs.length = m) :
    ∃ g, ao = some ⟨g, 0, none⟩ ∧ m + 1 ≤ c ∧ w.cell? ⟨g, m, none⟩ = some y ∧ w.ownsRow lo 3 1 (.slice ao m c) m xs := by
  obtain ⟨h1, ⟨he, _⟩ | ⟨g, cap, cur, he, hl, hh, hnc, hcm, hcur, htake⟩⟩ := h
  · simp at he
  · simp only [Value.slice.injEq, true_and] at he
    obtain ⟨rfl, rfl⟩ := he
    simp only [Nat.mul_one] at htake
    have hc : cur.toList[m]? = some y := by
      have : (cur.toList.take (m + 1))[m]? = some y := by rw [htake, List.getElem?_append_right (by omega)]; simp [hx]
      rw [List.getElem?_take_of_lt (by omega)] at this
      exact this
    refine ⟨g, rfl, hnc, ?_, ?_⟩
    · refine cell_of hh ?_
      rw [← Array.getElem?_toList]; exact hc
    · refine ⟨by simp [hx], .inr ⟨g, c, cur, rfl, hl, hh, by omega, hcm, hcur, ?_⟩⟩
      simp only [Nat.mul_one]
      have e : cur.toList.take m = (cur.toList.take (m + 1)).take m := by rw [List.take_take, Nat.min_eq_left (by omega)]
      rw [e, htake, List.take_append_of_le_length (by omega), List.take_of_length_le (by omega)]
/-- How many there are in the box, and how many cells of a block are false. -/
def lenW (w : World) (B : Nat) : Nat := match w.cell? ⟨B, 0, none⟩ with | some (.slice _ n _) => n | _ => 0
def fal : Value → Bool | .bool false => true | _ => false
def unmW (w : World) (R : Nat) : Nat := match w.heap[R]? with | some (.cells cs _ _) => cs.toList.countP fal | _ => 0
theorem lenW_eq {w : World} {lo R Br Bo n : Nat} {ban : Nat → Prop} {B : List Bool} {O : List Nat} {ov : Value} (h : RM w lo R Br Bo ban n B O ov) : lenW w Bo = O.length := by
  obtain ⟨ao, c, rfl⟩ := own_slice h.ow
  unfold lenW
  rw [cell_of h.bo (i := 0) rfl]
  rfl
theorem unmW_eq {w : World} {lo R Br Bo n : Nat} {ban : Nat → Prop} {B : List Bool} {O : List Nat} {ov : Value} (h : RM w lo R Br Bo ban n B O ov) : unmW w R = unm B := by
  unfold unmW
  have := h.ab
  unfold ArrB at this
  rw [this]
  simp only [bCells, unm, List.count]
  rw [List.countP_map]
  congr 1
  funext b
  cases b <;> simp [fal]
theorem leave_marks2 {P : Program} {fn : Func} {tmps : Array Value} {n : Nat} {α : Type} {B : Nat} {J : α → World → Prop} {s : α} {v : Value} {R : Ending → World → Prop} (hJ : OwnFrom B J) (hres : ∀ w, (results fn tmps).run P w = .ok v w) (hR : ∀ w, J s w → R (.returned v) w) : ∀ (ds : List Deferred) (w : World), MarksAt B w ds → J s w → LeavesInM Fence.wide n P fn tmps R ds .returning w := by
  intro ds
  induction ds with
  | nil => intro w _ hj; exact ⟨_, hres _, hR _ hj⟩
  | cons d ds ih =>
    intro w ⟨⟨D, hd, h1, h2, h3⟩, h4⟩ hj
    subst hd
    refine ⟨by simp, .inl ⟨D, _, rfl, run_takeDeferred h2, ih _ (h4.kept fun D' _ hm hw => ?_) (hJ.putObj _ hj h1 h2 rfl)⟩⟩
    exact (World.putObj_heap_other (h3 D' hm)).trans hw
end Go.Proofs.Ytmagigmcbegmiaa
