/- What the bound on the bulk gives, for lists. -/
import Derived.Test.YtdjkidgkeekenaaRows
namespace Go.Proofs.Ytdjkidgkeekenaa.bulks
open Go

theorem pos {H : Type} (d : DataW H) : 0 < Rows.uptoBulk d := by
  cases d
  case lit l => cases l <;> simp [Rows.uptoBulk]
  all_goals simp [Rows.uptoBulk]
theorem count {H : Type} : (l : List (DataW H)) → l.length ≤ Rows.uptoBulkAll l
  | [] => Nat.zero_le _
  | d :: r => by
    have h1 := pos d
    have h2 := count r
    rw [Rows.uptoBulkAll, List.length_cons]
    omega
theorem slice_le {H : Type} (a b : List (DataW H)) : a.length + b.length < Rows.uptoBulk (.slice a b) := by
  have h1 := count a
  have h2 := count b
  rw [Rows.uptoBulk]
  omega
theorem mem {H : Type} : {l : List (DataW H)} → {d : DataW H} → d ∈ l → Rows.uptoBulk d ≤ Rows.uptoBulkAll l
  | x :: r, d, h => by
    rw [Rows.uptoBulkAll]
    rcases List.mem_cons.1 h with rfl | h
    · omega
    · have := mem h; omega
theorem part {H : Type} {a b : List (DataW H)} {d : DataW H} (h : d ∈ a) : Rows.uptoBulk d ≤ Rows.uptoBulk (.slice a b) := by
  have := mem h
  rw [Rows.uptoBulk]
  omega
theorem agg {H : Type} {a : List (DataW H)} {d : DataW H} (h : d ∈ a) : Rows.uptoBulk d ≤ Rows.uptoBulk (.agg a) := by
  have := mem h
  rw [Rows.uptoBulk]
  omega
theorem bound {H : Type} {l : List (DataW H)} (h : Rows.uptoSmall H l = true) : Rows.uptoBulkAll l ≤ 1048576 := of_decide_eq_true h
end Go.Proofs.Ytdjkidgkeekenaa.bulks
