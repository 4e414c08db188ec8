/- Lists of tasks: the document's find, the program's rankOf. -/
import Derived.Test.YtfoeljcgbfpknaaH14
namespace Go.Proofs.Ytfoeljcgbfpknaa
open Go.RowKit Go.Lib
set_option linter.unusedVariables false
set_option linter.unusedSimpArgs false
structure Tk where
  key : Int
  load : Int
  deriving DecidableEq
def Tk.arr (t : Tk) : Array Value := #[.int .u64 t.key, .int .u64 t.load]
theorem Tk.size (t : Tk) : t.arr.size = 2 := rfl
def tkAt (l : List Tk) (i : Nat) : Tk := l[i]?.getD ⟨0, 0⟩
theorem tk_cells {w : World} {ao : Option Addr} {n cap : Nat} {l : List Tk} (h : RAt Tk.arr 2 w (.slice ao n cap) l) (i : Nat) (hi : i < l.length) : ∃ g o, ao = some ⟨g, o, none⟩ ∧ g < w.heap.size ∧ w.cell? ⟨g, o + i * 2, none⟩ = some (.int .u64 (tkAt l i).key) ∧ w.cell? ⟨g, o + i * 2 + 1, none⟩ = some (.int .u64 (tkAt l i).load) := by
  obtain ⟨g, o, h1, h2, h3⟩ := h.at i hi
  have e : tkAt l i = l[i] := by simp [tkAt, hi]
  rw [← e] at h3
  exact ⟨g, o, h1, h2, h3 0 _ rfl, h3 1 _ rfl⟩
/-- The first place of a task, or -1. -/
def FdA (l : List Tk) (t : Tk) (r : Int) : Prop := (∃ i : Nat, i < l.length ∧ tkAt l i = t ∧ (∀ k, k < i → tkAt l k ≠ t) ∧ r = (i : Int)) ∨ ((∀ k, k < l.length → tkAt l k ≠ t) ∧ r = -1)
def FdP (l : List Tk) (t : Tk) (w : World) (x : Ending) (w' : World) : Prop := Below w.heap.size w w' ∧ ∃ r, x = .returned (.int .i64 r) ∧ FdA l t r
theorem tk_eq (a b : Tk) : (a.key == b.key && (a.load == b.load && true)) = true ↔ a = b := by cases a; cases b; simp
set_option maxRecDepth 100000 in
set_option maxHeartbeats 2000000 in
theorem find_any (v : Value) (l : List Tk) (t : Tk) (w : World) (h : RAt Tk.arr 2 w v l) (hl : l.length ≤ 1759218604440) : Calls Try.prog 34 #[v, .agg t.arr] w (FdP l t w) := by
  obtain ⟨ao, cap, rfl, hcap, h63⟩ := h.shape
  have H := hide h
  obtain ⟨n, hn⟩ : ∃ n, n = l.length := ⟨_, rfl⟩
  have HN := hide hn
  rw [← hn] at hcap H hl ⊢
  clear h hn
  have HTE := hide (fun i => tk_eq (tkAt l i) t)
  obtain ⟨T, hT⟩ : ∃ T, T = t := ⟨_, rfl⟩
  have HT := hide hT
  rw [show FdP l t w = FdP l T w by rw [hT]]
  rw [← hT] at HTE
  obtain ⟨ky, ld⟩ := t
  have HTK : Hid (T.key = ky ∧ T.load = ld) := by rw [hT]; exact ⟨rfl, rfl⟩
  clear hT HT
  unfold Tk.arr
  simp only
  obtain ⟨X, hX⟩ : ∃ X, X = w.alloc (.cells #[.int .u64 ky, .int .u64 ld] 67) := ⟨_, rfl⟩
  have HBX : Hid (Below w.heap.size w X) := by rw [hX]; exact below_alloc (Below.refl _ _) _
  have HQX : Hid (X.heap[w.heap.size]? = some (.cells #[.int .u64 ky, .int .u64 ld] 67 (0, 0))) := by rw [hX]; exact heap_new _ _
  go_enter Try.func34, Try.ntmps34
  go_wp2_with fail
  rw [← hX]
  clear hX
  go_loopw [4, 5] (fun va tt wr => ∃ i : Nat, i ≤ n ∧ va = .int .i64 0 ∧ tt = .int .i64 (i : Int) ∧ Below X.heap.size X wr ∧ ∀ k, k < i → tkAt l k ≠ T) (fun _ tt _ => n - (RowKit.intOf tt).toNat)
  case atStart => exact ⟨0, Nat.zero_le _, rfl, rfl, Below.refl _ _, fun k hk => by omega⟩
  case round =>
    obtain ⟨i, hin, rfl, rfl, hb, hno⟩ := hrel
    have HB := hide hb; have HNO := hide hno
    have HBW := hide (below_on HBX.out hb)
    have hq := (hb.block _ (lt_of_heap HQX.out)).trans HQX.out
    have z0 := cell_of hq (i := 0) rfl
    have z1 := cell_of hq (i := 1) rfl
    clear hb hno hq
    by_cases hlt : i < n
    · have hli : (i : Int) < (n : Int) := by omega
      obtain ⟨gs, os, rfl, hgs, p0, p1⟩ := tk_cells (H.out.below HBW.out) i (by rw [← HN.out]; exact hlt)
      have HE := hide (HTE.out i)
      have HTK2 := HTK.out
      rw [HTK2.1, HTK2.2] at HE
      clear HTK2
      generalize hti : tkAt l i = ti at p0 p1 HE
      have HTI := hide hti
      obtain ⟨kyi, ldi⟩ := ti
      simp only at p0 p1 HE
      have heq := fun W => eql_task kyi ldi ky ld W
      generalize (kyi == ky && (ldi == ld && true)) = qq at HE heq
      clear hti
      cases qq with
      | true =>
        have HR : Hid (FdA l T i) := .inl ⟨i, by rw [← HN.out]; exact hlt, by rw [HTI.out]; exact HE.out.1 rfl, HNO.out, rfl⟩
        go_wp2_with fail
        go_quiet (fail)
        go_wp2_with fail
        go_ret
        exact ⟨below_on HBW.out (below_drewN _ _), _, rfl, HR.out⟩
      | false =>
        have HR : Hid (∀ k, k < i + 1 → tkAt l k ≠ T) := fun k hk z => by
          by_cases e : k = i
          · subst e; rw [HTI.out] at z; have := HE.out.2 z; cases this
          · exact HNO.out k (by omega) z
        go_wp2_with fail
        go_quiet (fail)
        go_wp2_with fail
        exact ⟨⟨i + 1, by omega, rfl, by simp, below_on HB.out (below_drewN _ _), HR.out⟩, by simp [RowKit.intOf]; omega⟩
    · obtain rfl : n = i := by omega
      have HR : Hid (FdA l T (-1)) := .inr ⟨fun k hk => HNO.out k (by rw [HN.out]; exact hk), rfl⟩
      go_wp2_with fail
      go_ret
      exact ⟨HBW.out, _, rfl, HR.out⟩
end Go.Proofs.Ytfoeljcgbfpknaa
