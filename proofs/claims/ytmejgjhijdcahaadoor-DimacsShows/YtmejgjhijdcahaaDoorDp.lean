/- The texts that are shown, plainly. -/
import Derived.Test.YtmejgjhijdcahaaDoorBs
namespace Go.Proofs.YtmejgjhijdcahaaDoor
open Go.Shelf Go.RowKit Go.Sort Go.Lib
set_option linter.unusedVariables false
/-- A line of words. -/
def lineW (F : List UInt8) (ws : List (List UInt8)) : List UInt8 := F ++ ws.flatMap (fun x => 32 :: x) ++ [10]
def ct (n : Int) : List UInt8 := Lib.decDigits n.toNat
def vx (v : Int) : List UInt8 := Lib.decDigits (v + 1).toNat
structure Eg where
  f : Int
  t : Int
  w : Int
structure Pt where
  x : Int
  y : Int
def Eg.arr (e : Eg) : Array Value := #[.int .i64 e.f, .int .i64 e.t, .int .u64 e.w]
def Pt.arr (e : Pt) : Array Value := #[.int .i64 e.x, .int .i64 e.y]
def iArr (x : Int) : Array Value := #[.int .i64 x]
theorem Eg.size (e : Eg) : e.arr.size = 3 := rfl
theorem Pt.size (e : Pt) : e.arr.size = 2 := rfl
theorem iSize (e : Int) : (iArr e).size = 1 := rfl
def eg0 : Eg := ⟨0, 0, 0⟩
def pt0 : Pt := ⟨0, 0⟩
section
variable {α : Type} (d0 : α) (it : Nat → α → List UInt8) (vd : α → Int)
def aAt (l : List α) (i : Nat) : α := l[i]?.getD d0
theorem aAt_get {l : List α} {i : Nat} (h : i < l.length) : l[i]? = some (aAt d0 l i) := by simp [aAt, h]
/-- The first n lines. -/
def tx (l : List α) : Nat → List UInt8
  | 0 => []
  | n + 1 => tx l n ++ it n (aAt d0 l n)
def okN (l : List α) (n : Nat) : Prop := ∀ i, i < n → vd (aAt d0 l i) = 0
open Classical in
noncomputable def gS (hd : List UInt8) (l : List α) : ByteArray := if okN d0 vd l l.length then bs (hd ++ tx d0 it l l.length) else ⟨#[]⟩
open Classical in
noncomputable def gE (l : List α) : Int := if h : ∃ i, i < l.length ∧ vd (aAt d0 l i) ≠ 0 ∧ okN d0 vd l i then vd (aAt d0 l h.choose) else 0
theorem g_good {hd : List UInt8} {l : List α} (h : okN d0 vd l l.length) : gS d0 it vd hd l = bs (hd ++ tx d0 it l l.length) ∧ gE d0 vd l = 0 := by
  refine ⟨if_pos h, dif_neg ?_⟩
  rintro ⟨i, h1, h2, _⟩
  exact h2 (h i h1)
theorem g_bad {hd : List UInt8} {l : List α} {i : Nat} (hi : i < l.length) (h : vd (aAt d0 l i) ≠ 0) (ho : okN d0 vd l i) : gS d0 it vd hd l = ⟨#[]⟩ ∧ gE d0 vd l = vd (aAt d0 l i) := by
  refine ⟨if_neg (fun k => h (k i hi)), ?_⟩
  have hex : ∃ i, i < l.length ∧ vd (aAt d0 l i) ≠ 0 ∧ okN d0 vd l i := ⟨i, hi, h, ho⟩
  unfold gE
  rw [dif_pos hex]
  obtain ⟨h1, h2, h3⟩ := hex.choose_spec
  rcases Nat.lt_trichotomy hex.choose i with e | e | e
  · exact absurd (ho _ e) h2
  · rw [e]
  · exact absurd (h3 _ e) h
theorem okN_next {l : List α} {n : Nat} (h : okN d0 vd l n) (k : vd (aAt d0 l n) = 0) : okN d0 vd l (n + 1) := fun i hi => by
  by_cases e : i = n
  · subst e; exact k
  · exact h i (by omega)
theorem tx_len {l : List α} {m : Nat} (h : ∀ i, i < l.length → (it i (aAt d0 l i)).length ≤ m) : ∀ n, n ≤ l.length → (tx d0 it l n).length ≤ n * m
  | 0, _ => by simp [tx]
  | n + 1, hn => by
    have h1 := tx_len h n (by omega)
    have h2 := h n (by omega)
    rw [tx, List.length_append, Nat.succ_mul]; omega
end
def pSp : List UInt8 := [112, 32, 115, 112]
def pCo : List UInt8 := [112, 32, 97, 117, 120, 32, 115, 112, 32, 99, 111]
def pSs : List UInt8 := [112, 32, 97, 117, 120, 32, 115, 112, 32, 115, 115]
def pPp : List UInt8 := [112, 32, 97, 117, 120, 32, 115, 112, 32, 112, 50, 112]
def vdE (N : Int) (e : Eg) : Int := if 0 ≤ e.f ∧ e.f < N ∧ 0 ≤ e.t ∧ e.t < N then (if 4294967295 < e.w then 31 else 0) else 30
def itE (i : Nat) (e : Eg) : List UInt8 := lineW [97] [vx e.f, vx e.t, ct e.w]
def itP (i : Nat) (e : Pt) : List UInt8 := lineW [118] [vx (i : Int), Lib.itoa e.x, Lib.itoa e.y]
def vdI (v : Int) : Int := if 0 ≤ v ∧ v < 1048576 then 0 else 30
def itI (i : Nat) (v : Int) : List UInt8 := lineW [115] [vx v]
def vdQ (e : Pt) : Int := if 0 ≤ e.x ∧ e.x < 1048576 ∧ 0 ≤ e.y ∧ e.y < 1048576 then 0 else 30
def itQ (i : Nat) (e : Pt) : List UInt8 := lineW [113] [vx e.x, vx e.y]
end Go.Proofs.YtmejgjhijdcahaaDoor
