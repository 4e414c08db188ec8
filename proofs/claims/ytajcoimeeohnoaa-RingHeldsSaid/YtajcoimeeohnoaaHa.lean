/- Held, HeldError and the reference's Held, each in one answer: errH, ansH. -/
import Derived.Test.YtajcoimeeohnoaaTo
import Derived.Test.YtajcoimeeohnoaaHh
import Derived.Test.YtajcoimeeohnoaaHe
import Derived.Test.YtajcoimeeohnoaaRh
import Derived.Deep.RegionHeld3
namespace Go.Proofs.Ytajcoimeeohnoaa
open Go.RowKit Go.Lib
set_option linter.unusedVariables false
set_option linter.unusedSimpArgs false
/-- Held's error; A: one of the handles is nil or of another ring. -/
def errH (b C : Int) (n : Nat) (A : Bool) : Int := if OkR b C then (if (n : Int) < b + 2 + 3 * C then 34 else if A then 60 else 0) else 60
def ansH (b C : Int) (xs : List Int) (A : Bool) : List Tk := if errH b C xs.length A = 0 then srt (fil b.toNat C.toNat xs C.toNat) else []
def anyO (b C : Int) (hs : List Hn) : Bool := (List.range hs.length).any fun i => hOth b C (hAt hs i)
theorem held_any (b C : Int) (xs : List Int) (v hv : Value) (hs : List Hn) (w : World) (h : RowAt .u64 w v xs) (hw : Wds xs) (h63 : (xs.length : Int) ≤ 9223372036854775807) (hh : HsAt w hv hs) :
    Calls Try.prog 15 #[qAgg b C, v, hv] w fun e w' => ∃ u, e = .returned (.tuple #[u, .int .i64 (errH b C xs.length (anyO b C hs))]) ∧ TOwn w' w.heap.size u (ansH b C xs (anyO b C hs)) ∧ Below w.heap.size w w' := by
  obtain ⟨ao, c, rfl⟩ := h.shape
  obtain ⟨ho, d, rfl, hr⟩ := id hh
  by_cases hok : OkR b C
  · have hck := fun W => checkCells_ok b C ao xs.length c W hok h63
    obtain ⟨⟨h1, h2⟩, h3, h4⟩ := id hok
    by_cases hn : (xs.length : Int) < b + 2 + 3 * C
    · have e : errH b C xs.length (anyO b C hs) = 34 := by unfold errH; rw [if_pos hok, if_pos hn]
      simp only [if_pos (show (xs.length : Int) < b + (2 + 3 * C) by omega)] at hck
      refine (held_check b C 34 (by decide) ao ho xs.length c hs.length d w hck).mono ?_
      rintro e' w' ⟨rfl, hb⟩
      unfold ansH
      rw [e, if_neg (by decide)]
      exact ⟨_, rfl, TOwn.nil _ _, hb⟩
    · cases hA : anyO b C hs
      · have e : errH b C xs.length false = 0 := by unfold errH; rw [if_pos hok, if_neg hn]; rfl
        obtain ⟨b', rfl⟩ : ∃ k : Nat, b = (k : Int) := ⟨b.toNat, by omega⟩
        obtain ⟨C', rfl⟩ : ∃ k : Nat, C = (k : Int) := ⟨C.toNat, by omega⟩
        refine (held_good b' C' xs _ _ hs w h hw (by omega) (by omega) (by omega) (by omega) h63 hh hA).mono ?_
        rintro e' w' ⟨u, rfl, ht, hb⟩
        unfold ansH
        rw [e, if_pos rfl]
        exact ⟨u, rfl, by simpa using ht, hb⟩
      · have e : errH b C xs.length true = 60 := by unfold errH; rw [if_pos hok, if_neg hn]; rfl
        simp only [if_neg (show ¬ (xs.length : Int) < b + (2 + 3 * C) by omega)] at hck
        refine (held_other b C ao xs.length c _ hs w hck hh hA).mono ?_
        rintro e' w' ⟨rfl, hb⟩
        unfold ansH
        rw [e, if_neg (by decide)]
        exact ⟨_, rfl, TOwn.nil _ _, hb⟩
  · have e : errH b C xs.length (anyO b C hs) = 60 := by unfold errH; rw [if_neg hok]
    refine (held_check b C 60 (by decide) ao ho xs.length c hs.length d w (fun W => checkCells_shape b C ao xs.length c W hok)).mono ?_
    rintro e' w' ⟨rfl, hb⟩
    unfold ansH
    rw [e, if_neg (by decide)]
    exact ⟨_, rfl, TOwn.nil _ _, hb⟩
theorem herr_any (b C : Int) (ao : Option Addr) (n c : Nat) (v : Value) (l : List (Int × Int)) (w : World) (hl : RsAt w v l) :
    Calls Try.prog 14 #[qAgg b C, .slice ao n c, v] w fun e w' => e = .returned (.int .i64 (errH b C n (rOth b C l))) ∧ Below w.heap.size w w' := by
  obtain ⟨ro, d, rfl, hr⟩ := id hl
  unfold errH
  by_cases hok : OkR b C
  · rw [if_pos hok]
    by_cases hn : (n : Int) < b + 2 + 3 * C
    · rw [if_pos hn]; exact herr_list b C ao ro n c l.length d w hok hn
    · rw [if_neg hn]; exact herr_rest b C ao n c _ l w hok hn hl
  · rw [if_neg hok]; exact herr_shape b C ao ro n c l.length d w hok
/-- Zero cells hold no task. -/
theorem fil_zero (b C : Nat) (xs : List Int) (k : Nat) (h : ∀ i, at_ xs i = 0) : fil b C xs k = [] := by
  induction k with
  | zero => rfl
  | succ k ih => unfold fil; rw [if_neg (by unfold fkeep; simp [h]), ih]
theorem refHeld_ans (b C : Int) (xs : List Int) (v : Value) (A : Bool) (w : World) (h : RowAt .u64 w v xs) (hw : Wds xs) (he : errH b C xs.length A = 0) :
    Calls Try.prog 17 #[qAgg b C, v, .slice none 0 0] w fun e w' => ∃ u, e = .returned u ∧ TOwn w' w.heap.size u (ansH b C xs A) ∧ Below w.heap.size w w' := by
  unfold ansH
  rw [if_pos he]
  unfold errH at he
  by_cases hok : OkR b C
  · rw [if_pos hok] at he
    by_cases hn : (xs.length : Int) < b + 2 + 3 * C
    · rw [if_pos hn] at he; simp at he
    · obtain ⟨⟨h1, h2⟩, h3, h4⟩ := hok
      obtain ⟨b', rfl⟩ : ∃ k : Nat, b = (k : Int) := ⟨b.toNat, by omega⟩
      obtain ⟨C', rfl⟩ : ∃ k : Nat, C = (k : Int) := ⟨C.toNat, by omega⟩
      simpa using refHeld_any b' C' xs v w h hw (by omega) (by omega) (by omega) (by omega)
  · rw [if_neg hok] at he; simp at he
end Go.Proofs.Ytajcoimeeohnoaa
