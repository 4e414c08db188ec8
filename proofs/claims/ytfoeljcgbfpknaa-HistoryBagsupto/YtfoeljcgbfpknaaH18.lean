/- Plainly: the playing of turns, as a bag and as a queue. -/
import Derived.Test.YtfoeljcgbfpknaaH17
namespace Go.Proofs.Ytfoeljcgbfpknaa
set_option linter.unusedVariables false
set_option linter.unusedSimpArgs false
/-- The task of an operation. -/
def tkS (s : Sp) : Tk := ⟨s.key, s.load⟩
/-- One turn: what is held behind it, if it can be; k: must what is taken be the task? -/
def play1 (q : Bool) (k : Bool) (l : List Tk) (s : Sp) : Option (List Tk) :=
  if s.ins = true then some (l ++ [tkS s])
  else if q = true then (match l with | [] => none | t :: r => if k = true ∧ t ≠ tkS s then none else some r)
  else if tkS s ∈ l then some (l.erase (tkS s)) else none
/-- The first i turns. -/
def play (q : Bool) (c : Sp → Bool) (l : List Sp) (o : List Int) : Nat → Option (List Tk)
  | 0 => some []
  | i + 1 => (play q c l o i).bind fun x => play1 q (c (spAt l (oN o i))) x (spAt l (oN o i))
theorem play_len (q : Bool) (c : Sp → Bool) (l : List Sp) (o : List Int) : ∀ i x, play q c l o i = some x → x.length ≤ i
  | 0, x, h => by simp only [play, Option.some.injEq] at h; subst h; simp
  | i + 1, x, h => by
    unfold play at h
    cases hp : play q c l o i with
    | none => rw [hp] at h; cases h
    | some y =>
      rw [hp] at h
      have ih := play_len q c l o i y hp
      simp only [Option.bind_some, play1] at h
      split at h
      · simp only [Option.some.injEq] at h; subst h; simp; exact ih
      · split at h
        · cases y with
          | nil => cases h
          | cons t r =>
            simp only at h
            split at h
            · cases h
            · simp only [Option.some.injEq] at h; subst h; simp at ih; omega
        · split at h
          · simp only [Option.some.injEq] at h; subst h; have := List.length_erase_le (a := tkS (spAt l (oN o i))) (l := y); omega
          · cases h
theorem play_stays (q : Bool) (c : Sp → Bool) (l : List Sp) (o : List Int) {i : Nat} (h : play q c l o i = none) : ∀ {j : Nat}, i ≤ j → play q c l o j = none := by
  intro j hj
  induction hj with
  | refl => exact h
  | step _ ih => unfold play; rw [ih]; rfl
theorem play_same {q : Bool} {c c' : Sp → Bool} {l : List Sp} {o : List Int} : ∀ {n : Nat}, (∀ i, i < n → (spAt l (oN o i)).ins = false → q = true → c (spAt l (oN o i)) = c' (spAt l (oN o i))) → play q c l o n = play q c' l o n
  | 0, _ => rfl
  | n + 1, h => by
    unfold play
    rw [play_same (n := n) (fun i hi => h i (by omega))]
    congr 1
    funext x
    unfold play1
    cases hi : (spAt l (oN o n)).ins with
    | true => simp
    | false =>
      cases q with
      | true => rw [h n (by omega) hi rfl]
      | false => simp
/-- The first place of a task, taken out. -/
theorem fd_erase {l : List Tk} {t : Tk} {i : Nat} (h : i < l.length) (e : tkAt l i = t) (hf : ∀ k, k < i → tkAt l k ≠ t) : l.eraseIdx i = l.erase t := by
  induction l generalizing i with
  | nil => simp at h
  | cons a l ih =>
    cases i with
    | zero =>
      simp [tkAt] at e
      subst e
      simp
    | succ i =>
      have h0 := hf 0 (by omega)
      simp [tkAt] at h0
      rw [List.eraseIdx_cons_succ, List.erase_cons_tail (by simpa using h0)]
      rw [ih (by simpa using h) (by simpa [tkAt] using e) (fun k hk => by have := hf (k + 1) (by omega); simpa [tkAt] using this)]
theorem fd_mem {l : List Tk} {t : Tk} {i : Nat} (h : i < l.length) (e : tkAt l i = t) : t ∈ l := by
  subst e
  simp only [tkAt, List.getElem?_eq_getElem h, Option.getD_some]
  exact List.getElem_mem h
theorem fd_not {l : List Tk} {t : Tk} (h : ∀ k, k < l.length → tkAt l k ≠ t) : t ∉ l := fun hm => by
  obtain ⟨i, hi, e⟩ := List.getElem_of_mem hm
  exact h i hi (by simp [tkAt, hi, e])
end Go.Proofs.Ytfoeljcgbfpknaa
