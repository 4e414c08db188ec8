/- isEvent; the open span of one; end. -/
import Derived.Test.YtedebahkcgdekaaDoorSm
namespace Go.Proofs.YtedebahkcgdekaaDoor
open Go.RowKit Go.Lib
set_option linter.unusedVariables false
set_option linter.unusedSimpArgs false
def isE (e : Ev) : Bool := decide (0 ≤ e.who ∧ 1 ≤ e.kind ∧ e.kind ≤ 6 ∧ 0 ≤ e.tm ∧ (e.kind = 1 ∨ e.kind = 4 ∨ (e.key = 0 ∧ e.load = 0)))
theorem okE_is (e : Ev) (last : Int) : okE e last = (isE e && !decide (e.tm < last)) := by
  unfold okE isE
  by_cases h : e.tm < last
  · rw [decide_eq_true h, decide_eq_false (fun g => by omega)]; simp
  · rw [decide_eq_false h]
    simp only [Bool.not_false, Bool.and_true]
    apply decide_eq_decide.2
    constructor
    · rintro ⟨a, b, c, d, e, f⟩; exact ⟨a, b, c, d, f⟩
    · rintro ⟨a, b, c, d, f⟩; exact ⟨a, b, c, d, by omega, f⟩
set_option maxRecDepth 100000 in
set_option maxHeartbeats 1000000 in
theorem isE_any (e : Ev) (w : World) : Calls Tryd.prog 12 #[.agg e.arr] w fun x w' => x = .returned (.bool (isE e)) ∧ Below w.heap.size w w' := by
  obtain ⟨tm, who, kind, key, load⟩ := e
  simp only [Ev.arr]
  have HN := hide (fun w => has_any kind w)
  have hq := eql_task
  by_cases h0 : tm < 0
  · have hE : isE ⟨tm, who, kind, key, load⟩ = false := by unfold isE; rw [decide_eq_false (fun h => by simp only at h; omega)]
    rw [hE]
    go_enter Tryd.func12, Tryd.ntmps12
    go_wp2
    go_ret
    exact ⟨rfl, below_alloc (Below.refl _ _) _⟩
  ·
    by_cases h1 : who < 0
    · have hE : isE ⟨tm, who, kind, key, load⟩ = false := by unfold isE; rw [decide_eq_false (fun h => by simp only at h; omega)]
      rw [hE]
      go_enter Tryd.func12, Tryd.ntmps12
      go_wp2
      go_ret
      exact ⟨rfl, below_alloc (Below.refl _ _) _⟩
    ·
      by_cases g2 : kind = 2
      · have hE : isE ⟨tm, who, kind, key, load⟩ = decide (key = 0 ∧ load = 0) := by
          unfold isE
          apply decide_eq_decide.2
          simp only
          omega
        rw [hE]
        clear hE
        subst g2
        go_enter Tryd.func12, Tryd.ntmps12
        go_wp2
        go_ret
        exact ⟨by simp [Bool.beq_eq_decide_eq], below_alloc (Below.refl _ _) _⟩
      ·
        by_cases g3 : kind = 3
        · have hE : isE ⟨tm, who, kind, key, load⟩ = decide (key = 0 ∧ load = 0) := by
            unfold isE
            apply decide_eq_decide.2
            simp only
            omega
          rw [hE]
          clear hE
          subst g3
          go_enter Tryd.func12, Tryd.ntmps12
          go_wp2
          go_ret
          exact ⟨by simp [Bool.beq_eq_decide_eq], below_alloc (Below.refl _ _) _⟩
        ·
          by_cases g5 : kind = 5
          · have hE : isE ⟨tm, who, kind, key, load⟩ = decide (key = 0 ∧ load = 0) := by
              unfold isE
              apply decide_eq_decide.2
              simp only
              omega
            rw [hE]
            clear hE
            subst g5
            go_enter Tryd.func12, Tryd.ntmps12
            go_wp2
            go_ret
            exact ⟨by simp [Bool.beq_eq_decide_eq], below_alloc (Below.refl _ _) _⟩
          ·
            by_cases g6 : kind = 6
            · have hE : isE ⟨tm, who, kind, key, load⟩ = decide (key = 0 ∧ load = 0) := by
                unfold isE
                apply decide_eq_decide.2
                simp only
                omega
              rw [hE]
              clear hE
              subst g6
              go_enter Tryd.func12, Tryd.ntmps12
              go_wp2
              go_ret
              exact ⟨by simp [Bool.beq_eq_decide_eq], below_alloc (Below.refl _ _) _⟩
            ·
              have hE : isE ⟨tm, who, kind, key, load⟩ = decide (kind = 1 ∨ kind = 4) := by
                unfold isE
                apply decide_eq_decide.2
                simp only
                omega
              rw [hE]
              clear hE
              go_enter Tryd.func12, Tryd.ntmps12
              go_wp2_with (go_at_call 19; refine (HN.out _).mono ?_; rintro e w2 ⟨rfl, hb⟩)
              go_ret
              exact ⟨by simp, below_on (below_alloc (Below.refl _ _) _) hb⟩
theorem getq_set {α : Type} {l : List α} {k : Nat} {x y : α} (h : l[k]? = some x) : (l.set k y)[k]? = some y := by
  have := (List.getElem?_eq_some_iff.1 h).1
  simp [this]
end Go.Proofs.YtedebahkcgdekaaDoor
