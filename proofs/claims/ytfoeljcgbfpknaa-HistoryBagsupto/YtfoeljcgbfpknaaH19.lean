/- The document's without: a list of tasks without one of them. -/
import Derived.Test.YtfoeljcgbfpknaaH18
import Derived.Test.YtfoeljcgbfpknaaMk
namespace Go.Proofs.Ytfoeljcgbfpknaa
open Go.RowKit Go.Lib
set_option linter.unusedVariables false
set_option linter.unusedSimpArgs false
theorem info67 : (Try.prog.info? 67).map (fun i => (i.zero, i.size, i.bytes)) = some (some (.agg #[.int .u64 0, .int .u64 0]), 2, 16) := by kernel_rfl
/-- A list of tasks of one's own, in a block from w's end on. -/
structure TO (w W : World) (v : Value) (l : List Tk) : Prop where
  bel : Below w.heap.size w W
  own : ROwn Tk.arr 2 67 W w.heap.size v l
theorem TO.on {w W W' : World} {v : Value} {l : List Tk} (h : TO w W v l) (hb : Below W.heap.size W W') : TO w W' v l := ⟨below_on h.bel hb, h.own.below hb⟩
theorem TO.rat {w W : World} {v : Value} {l : List Tk} (h : TO w W v l) : RAt Tk.arr 2 W v l := h.own.rat Tk.size
theorem TO.nil (w W : World) (h : Below w.heap.size w W) : TO w W (.slice none 0 0) [] := ⟨h, ROwn.nil W _⟩
theorem TO.push {w W W5 : World} {v v5 : Value} {l : List Tk} {t : Tk} {p : Obj} {n : Nat} (h : TO w W v l) (hn : l.length = n) (hown : W5.ownsRow w.heap.size 67 2 v5 (n + 1) (rCells Tk.arr l ++ t.arr.toList)) (hgrow : (W.alloc p).grownBy W5 v.ownBlock) : TO w W5 v5 (l ++ [t]) := by
  refine ⟨(below_alloc h.bel p).grown hgrow (by have := h.bel.size; simp; omega) (fun j hj => (h.own.lt j hj).1), ?_⟩
  exact ROwn.grown (w := W) (v := v) hn hown
/-- The first i without the one at p. -/
def wo (l : List Tk) (p i : Nat) : List Tk := (l.take i).eraseIdx p
theorem wo_same {l : List Tk} {p : Nat} : wo l p (p + 1) = wo l p p := by
  unfold wo
  rw [List.eraseIdx_eq_take_drop_succ, List.eraseIdx_of_length_le (by rw [List.length_take]; omega)]
  simp [List.take_take]
theorem wo_next {l : List Tk} {p i : Nat} (hi : i < l.length) (hp : i ≠ p) : wo l p (i + 1) = wo l p i ++ [tkAt l i] := by
  unfold wo
  have e : tkAt l i = l[i] := by simp [tkAt, hi]
  rw [e, List.take_add_one, List.getElem?_eq_getElem hi, Option.toList_some]
  by_cases h : p < i
  · rw [List.eraseIdx_append_of_lt_length (by rw [List.length_take]; omega)]
  · rw [List.eraseIdx_of_length_le (by simp [List.length_take]; omega), List.eraseIdx_of_length_le (by rw [List.length_take]; omega)]
theorem wo_len (l : List Tk) (p i : Nat) : (wo l p i).length ≤ i := by
  unfold wo
  have := List.length_eraseIdx_le (l.take i) p
  rw [List.length_take] at this
  omega
def WoP (l : List Tk) (p : Nat) (w : World) (x : Ending) (w' : World) : Prop := ∃ v', x = .returned v' ∧ TO w w' v' (l.eraseIdx p)
set_option maxRecDepth 100000 in
set_option maxHeartbeats 2000000 in
theorem without_any (v : Value) (l : List Tk) (p : Nat) (w : World) (h : RAt Tk.arr 2 w v l) (hl : l.length ≤ 1759218604440) : Calls Try.prog 33 #[v, .int .i64 (p : Int)] w (WoP l p w) := by
  obtain ⟨i0, hi0, hz0, hz1, hz2⟩ := info_parts info67
  obtain ⟨ao, cap, rfl, hcap, h63⟩ := h.shape
  have H := hide h
  obtain ⟨n, hn⟩ : ∃ n, n = l.length := ⟨_, rfl⟩
  have HN := hide hn
  have HF : Hid (wo l p n = l.eraseIdx p) := by unfold wo; rw [hn, List.take_length]; exact rfl
  rw [← hn] at hcap H hl ⊢
  clear h hn
  go_enter Try.func33, Try.ntmps33
  go_wp2_with fail
  go_loopw [5, 6] (fun va tt wr => ∃ i : Nat, i ≤ n ∧ tt = .int .i64 (i : Int) ∧ TO w wr va (wo l p i)) (fun _ tt _ => n - (RowKit.intOf tt).toNat)
  case atStart => exact ⟨0, Nat.zero_le _, rfl, by unfold wo; simp; exact TO.nil w w (Below.refl _ _)⟩
  case round =>
    obtain ⟨i, hin, rfl, hto⟩ := hrel
    have HT := hide hto
    clear hto
    by_cases hlt : i < n
    · have hli : (i : Int) < (n : Int) := by omega
      by_cases hp : i = p
      · have HS : Hid (TO w wr u5 (wo l p (i + 1))) := by rw [show wo l p (i + 1) = wo l p i by rw [hp]; exact wo_same]; exact HT.out
        clear HT
        have hpb : ((i : Int) != (p : Int)) = false := by simp [hp]
        clear hp
        go_wp2_with fail
        exact ⟨⟨i + 1, by omega, by simp, HS.out⟩, by simp [RowKit.intOf]; omega⟩
      · have hpb : ((i : Int) != (p : Int)) = true := by simp; omega
        obtain ⟨gs, os, rfl, hgs, p0, p1⟩ := tk_cells (H.out.below HT.out.bel) i (by rw [← HN.out]; exact hlt)
        have HNX := hide (wo_next (p := p) (l := l) (i := i) (by rw [← HN.out]; exact hlt) hp)
        have hwl : Hid ((wo l p i).length ≤ 1759218604440) := by have := wo_len l p i; show _ ≤ _; omega
        generalize tkAt l i = ti at p0 p1 HNX
        obtain ⟨ky, ld⟩ := ti
        simp only at p0 p1
        generalize wo l p i = L at HT HNX hwl
        clear hp
        have HT2 := hide (HT.out.on (below_alloc (Below.refl _ _) (.cells #[.int .u64 ky, .int .u64 ld] 67)))
        go_wp2_with (first
          | (at_builtin; refine wpList_append_own _ rfl (.tmp 16) (.tmp 21) 71 rfl w.heap.size 67 i0 _ 2 16 Try.underlying71 hi0 hz0 hz1 hz2 rfl (by decide) _ _ _ rfl HT2.out.own ⟨wr.heap.size, 0, none⟩ 1 1 (Tk.arr ⟨ky, ld⟩).toList rfl rfl (arr_at wr _ _) (by simp [Value.oneCell', Tk.arr]) (by have := hwl.out; unfold maxLen; omega) (by have := hwl.out; omega) (by have hq := HT2.out.bel.size; exact hq) ?_; intro v5 w5 hownB hgrowB hqB; have HP := hide (HT.out.push rfl hownB hgrowB); clear hownB hgrowB hqB)
          | fail)
        exact ⟨⟨i + 1, by omega, by simp, by rw [HNX.out]; exact HP.out⟩, by simp [RowKit.intOf]; omega⟩
    · obtain rfl : n = i := by omega
      go_wp2_with fail
      go_ret
      exact ⟨_, rfl, by rw [← HF.out]; exact HT.out⟩
end Go.Proofs.Ytfoeljcgbfpknaa
