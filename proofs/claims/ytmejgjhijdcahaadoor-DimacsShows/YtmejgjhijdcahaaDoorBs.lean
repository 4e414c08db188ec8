/- Texts, plainly. -/
import Derived.Test.YtmejgjhijdcahaaDoorNmC
import Derived.Laws.Concat
namespace Go.Proofs.YtmejgjhijdcahaaDoor
open Go.Shelf Go.RowKit Go.Sort Go.Lib
set_option linter.unusedVariables false
set_option linter.unusedSimpArgs false
def bs (l : List UInt8) : ByteArray := ⟨l.toArray⟩
theorem bs_app (a b : List UInt8) : bs a ++ bs b = bs (a ++ b) := by
  unfold bs
  rw [ByteArray.mk_append_mk]
theorem bs_size (a : List UInt8) : (bs a).size = a.length := by simp [bs, ByteArray.size]
theorem add_bs (a b : List UInt8) (h : a.length + b.length ≤ 9223372036854775807) (W : World) : (Op.stringOp .add (bs a) (bs b)).run Tryd.prog W = .ok (.string (bs (a ++ b))) W := by
  rw [run_string_add_if, if_neg (by rw [bs_size, bs_size]; omega), bs_app]
theorem add_let (a b : List UInt8) {A B : ByteArray} (hA : A = bs a) (hB : B = bs b) (h : a.length + b.length ≤ 9223372036854775807) : ∃ C, (∀ W, (Op.stringOp .add A B).run Tryd.prog W = .ok (.string C) W) ∧ C = bs (a ++ b) := by
  subst hA hB
  exact ⟨_, add_bs a b h, rfl⟩
theorem dec_len {u : Nat} (h : u < 18446744073709551616) : (Lib.decDigits u).length ≤ 20 := by
  rw [Lib.decDigits_length]
  by_cases h1 : 1 ≤ u
  · have := Lib.numDigits_eq u h1 h; split at this <;> omega
  · have h2 : Lib.nDigits u = 1 := by rw [← Lib.decDigits_length, show u = 0 by omega, Lib.decDigits, dif_pos (by decide)]; rfl
    omega
theorem gw_cell {w : World} {b i : Nat} {v : Value} (h : w.cell? ⟨b, i, none⟩ = some v) (x : GW w) : x.world.cell? ⟨b, i, none⟩ = some v := (below_cell x.bel (block_of_cell h)).trans h
end Go.Proofs.YtmejgjhijdcahaaDoor
