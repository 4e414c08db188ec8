/- task.Sort 36: whatever the length, the list holds the sorted tasks. -/
import Derived.Test.YtajcoimeeohnoaaTo
import Derived.Test.YtajcoimeeohnoaaSoC
import Derived.Test.YtajcoimeeohnoaaSoL
import Derived.Shelf.SlSortCmp.NoneTotal
namespace Go.Proofs.Ytajcoimeeohnoaa
open Go.RowKit Go.Lib Go.Shelf Go.Sort
set_option linter.unusedVariables false
def encT (x : Tk) : List Value := [.int .u64 x.1, .int .u64 x.2]
theorem flat_at (l : List Tk) (t : Nat) (h : t < l.length * 2) : (tCells l)[t]? = some (flatK encT 2 l.toArray)[t]! := by
  rw [get_flatK _ _ _ _ (by simpa using h)]
  have hh : t / 2 < l.length := by omega
  obtain ⟨p, q⟩ := tCells_at l (t / 2) hh
  have e0 : l.toArray[t / 2]! = tAt l (t / 2) := by
    rw [getElem!_pos _ _ (by simpa using hh)]
    simp [tAt, List.getElem?_eq_getElem hh]
  rw [e0]
  rcases Nat.mod_two_eq_zero_or_one t with hm | hm
  · rw [show t / 2 * 2 = t by omega] at p
    rw [p, hm]; rfl
  · rw [show t / 2 * 2 + 1 = t by omega] at q
    rw [q, hm]; rfl
theorem flat_list (l : List Tk) : (flatK encT 2 l.toArray).toList = tCells l := by
  apply List.ext_getElem?
  intro t
  rcases Nat.lt_or_ge t (l.length * 2) with h | h
  · rw [flat_at l t h]
    have h' : t < (flatK encT 2 l.toArray).size := by simpa using h
    rw [getElem!_pos (flatK encT 2 l.toArray) t h']
    simp
  · rw [List.getElem?_eq_none (l := (flatK encT 2 l.toArray).toList) (by simpa using h), List.getElem?_eq_none (l := tCells l) (by rw [tCells_length]; exact h)]
theorem TOwn.holds {w : World} {fr g n c : Nat} {l : List Tk} (h : TOwn w fr (.slice (some ⟨g, 0, none⟩) n c) l) : HoldsK encT 2 w g 0 l.toArray := by
  obtain ⟨h0, ⟨hv, _⟩ | ⟨g', cap, cur, hv, hg, hb, h1, h2, h3, h4⟩⟩ := h
  · cases hv
  · simp only [Value.slice.injEq, Option.some.injEq, Addr.mk.injEq] at hv
    obtain ⟨⟨rfl, _, _⟩, rfl, rfl⟩ := hv
    intro j hj
    rw [size_flatK] at hj
    have hj' : j < l.length * 2 := by simpa using hj
    have p := flat_at l j hj'
    rw [← h4, List.getElem?_take, if_pos hj'] at p
    have p' : cur[j]? = some (flatK encT 2 l.toArray)[j]! := by simpa using p
    rw [Nat.zero_add]
    exact ⟨cell_of hb p', free_of hb j⟩
/-- What lies behind the sort. -/
theorem TOwn.sorted {w : World} {fr g n c : Nat} {l m : List Tk} (h : TOwn w fr (.slice (some ⟨g, 0, none⟩) n c) l) (hm : m.length = l.length) (q : Nat) (os : Array Obj) :
    TOwn (sortWorldK encT 2 w g 0 q m.toArray os) fr (.slice (some ⟨g, 0, none⟩) n c) m := by
  obtain ⟨h0, ⟨hv, _⟩ | ⟨g', cap, cur, hv, hg, hb, h1, h2, h3, h4⟩⟩ := h
  · cases hv
  · simp only [Value.slice.injEq, Option.some.injEq, Addr.mk.injEq] at hv
    obtain ⟨⟨rfl, _, _⟩, rfl, rfl⟩ := hv
    have hgs : g < w.heap.size := lt_of_heap hb
    refine ⟨by rw [tCells_length], Or.inr ⟨g, c, putCells id 0 (flatK encT 2 m.toArray) cur, by rw [hm], hg, ?_, by omega, h2, by simp [putCells, h3], ?_⟩⟩
    · unfold sortWorldK
      rw [heap_grow_old _ _ (by show g < (putRow id _ g 0 _).heap.size; rw [size_putRow]; exact hgs)]
      show (mapBlock (Go.Sort.ahead w q) g _).heap[g]? = _
      simp only [mapBlock, heap_ahead, Array.getElem?_modify, if_true, hb, Option.map_some, onCells]
    · rw [← flat_list m]
      apply List.ext_getElem?
      intro t
      have hs : (flatK encT 2 m.toArray).size = m.length * 2 := by simp
      rcases Nat.lt_or_ge t (m.length * 2) with ht | ht
      · have hc : t < cur.size := by rw [h3]; omega
        rw [List.getElem?_take, if_pos ht]
        simp only [putCells, Array.getElem?_toList, Array.getElem?_mapIdx]
        have ht' : t < (flatK encT 2 m.toArray).size := by rw [hs]; exact ht
        rw [Array.getElem?_eq_getElem hc]
        simp [ht]
      · rw [List.getElem?_take, if_neg (by omega), List.getElem?_eq_none (by simpa using ht)]
theorem sort_below {w : World} {fr g : Nat} {d : Array Tk} (hg : fr ≤ g) (hs : fr ≤ w.heap.size) (q : Nat) (os : Array Obj) : Below fr w (sortWorldK encT 2 w g 0 q d os) := by
  refine ⟨rfl, rfl, rfl, ?_, ?_⟩
  · unfold sortWorldK putRowK
    rw [size_grow, size_putRow, heap_ahead]; omega
  · intro k hk
    unfold sortWorldK putRowK
    rw [heap_grow_old _ _ (by rw [size_putRow]; show k < w.heap.size; omega)]
    show (mapBlock (Go.Sort.ahead w q) g _).heap[k]? = _
    simp only [mapBlock, heap_ahead, Array.getElem?_modify]
    rw [if_neg (by omega)]
theorem cmpLays_any (blk off size : Nat) (w : World) : CmpLays Try.prog 63 #[] encT 2 tcf blk off size w :=
  fun _ _ _ _ x y => clos_any x y _
set_option maxHeartbeats 1000000 in
theorem sortFunc_own (l : List Tk) (fr g n c : Nat) (w : World) (h : TOwn w fr (.slice (some ⟨g, 0, none⟩) n c) l) (hs : fr ≤ w.heap.size) (hl : l.length < 4611686018427387904) :
    Calls Try.prog 62 #[.slice (some ⟨g, 0, none⟩) n c, .func (.func 63) #[] #[]] w fun e w' => e = .returned (.tuple #[]) ∧ TOwn w' fr (.slice (some ⟨g, 0, none⟩) n c) (srt l) ∧ Below fr w w' := by
  have eg : ∀ args w, (callFunc 63 args).run Try.prog w = .ok (.enter 63 args) w := enters_of Try.func63 (by kernel_rfl) rfl
  obtain ⟨hfg, hgs, hn⟩ : fr ≤ g ∧ g < w.heap.size ∧ n = l.length := by
    obtain ⟨h0, ⟨hv, _⟩ | ⟨g', cap, cur, hv, hg, hb, r⟩⟩ := h
    · cases hv
    · simp only [Value.slice.injEq, Option.some.injEq, Addr.mk.injEq] at hv
      obtain ⟨⟨rfl, _, _⟩, e, rfl⟩ := hv
      exact ⟨hg, lt_of_heap hb, e⟩
  have hcon := AnyQ.slices_SortFunc_total Try.sortTk 2 Try.isAgg34 Try.sizeOf34 encT (fun _ => rfl) (fun x v hv => by simp [encT] at hv; rcases hv with rfl | rfl <;> rfl) tcf swo_tcf 63 #[] g 0 c l.toArray w eg (cmpLays_any g 0 _ w) h.holds hgs (by simpa using hl) tot_tcf
  change Calls Try.prog 62 _ _ _ at hcon
  have e1 : (l.toArray).size = n := by simp [hn]
  rw [e1] at hcon
  refine hcon.mono ?_
  rintro e w' ⟨rfl, q, os, rfl⟩
  rw [show l.toArray.toList = l from rfl, srt_tcf]
  exact ⟨rfl, h.sorted (srt_length l) q os, sort_below hfg hs q os⟩
set_option maxHeartbeats 1000000 in
/-- task.Sort of a list of one's own. -/
theorem sort_any (v : Value) (l : List Tk) (fr : Nat) (w : World) (h : TOwn w fr v l) (hs : fr ≤ w.heap.size) (hl : l.length < 4611686018427387904) :
    Calls Try.prog 36 #[v] w fun e w' => e = .returned (.tuple #[]) ∧ TOwn w' fr v (srt l) ∧ Below fr w w' := by
  have hcon : Calls Try.prog 62 #[v, .func (.func 63) #[] #[]] w fun e w' => e = .returned (.tuple #[]) ∧ TOwn w' fr v (srt l) ∧ Below fr w w' := by
    obtain ⟨h0, hh⟩ := id h
    rcases hh with ⟨rfl, hn⟩ | ⟨g, cap, cur, rfl, _⟩
    · obtain rfl : l = [] := List.eq_nil_of_length_eq_zero hn
      have hc := AnyF.slices_SortFunc_none Try.sortTk none 0 (.func (.func 63) #[] #[]) w
      change Calls Try.prog 62 _ _ _ at hc
      refine hc.mono ?_
      rintro e w' ⟨rfl, rfl⟩
      exact ⟨rfl, by simpa [srt] using TOwn.nil _ _, Below.refl _ _⟩
    · exact sortFunc_own l fr g _ cap w h hs hl
  have HC := hide hcon
  clear hcon
  obtain ⟨ao, c, rfl, _, _⟩ := h.tat.shape
  clear h
  go_enter Try.func36, Try.ntmps36
  go_wp2_with (go_at_call 62; refine HC.out.mono ?_; rintro e w' ⟨rfl, ht, hb⟩)
  go_end0
  exact ⟨rfl, ht, hb⟩
end Go.Proofs.Ytajcoimeeohnoaa
