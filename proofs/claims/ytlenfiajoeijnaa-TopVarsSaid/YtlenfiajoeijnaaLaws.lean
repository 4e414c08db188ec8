/- TopVars: what stands between the calls. -/
import Derived.Test.YtlenfiajoeijnaaReads
namespace Go.Proofs.Ytlenfiajoeijnaa
open Go.RowKit Go.Lib
set_option linter.unusedVariables false

theorem own_keep {w w' : World} {B : Nat} {e : TypeId} {v : Value} {n : Nat} {xs : List Value} (h : w.ownsRow B e 1 v n xs) (hk : ∀ (g : Nat) (cs : Array Value), w.heap[g]? = some (.cells cs e (0, 0)) → w'.heap[g]? = w.heap[g]?) : w'.ownsRow B e 1 v n xs := by
  obtain ⟨hl, hh⟩ := h
  exact ⟨hl, hh.imp id fun ⟨g, cap, cur, he, hg, hh, r⟩ => ⟨g, cap, cur, he, hg, (hk g cur hh).trans hh, r⟩⟩

def endsOf (ls : List Nat) (i : Nat) : List Int := (List.range i).map fun (k : Nat) => ((endAt ls (k + 1) : Nat) : Int)
theorem endsOf_length (ls : List Nat) (i : Nat) : (endsOf ls i).length = i := by simp [endsOf]
theorem endsOf_succ (ls : List Nat) (i : Nat) : endsOf ls (i + 1) = endsOf ls i ++ [((endAt ls (i + 1) : Nat) : Int)] := by simp [endsOf, List.range_succ]
theorem endsOf_at (ls : List Nat) (i k : Nat) (h : k < i) : (endsOf ls i)[k]?.getD 0 = ((endAt ls (k + 1) : Nat) : Int) := by simp [endsOf, h]

/-- The writer, the ends so far. -/
structure L1 (W0 w : World) (b : Nat) (ve vv : Value) (ls : List Nat) (i j : Nat) : Prop where
  wo : WOwn w W0.heap.size b vv (encs (ls.take i))
  en : w.ownsRow W0.heap.size 3 1 ve j ((endsOf ls j).map (Value.int .i64))
  bel : Below W0.heap.size W0 w

theorem take_next (ls : List Nat) (i : Nat) (h : i < ls.length) : encs (ls.take (i + 1)) = encs (ls.take i) ++ enc (ls[i]?.getD 0) := by
  rw [List.take_add_one, encs_append]
  simp [List.getElem?_eq_getElem h, encs]

theorem L1.var {W0 w w2 : World} {b : Nat} {ve vv vv' : Value} {ls : List Nat} {i : Nat} (h : L1 W0 w b ve vv ls i i) (hi : i < ls.length) (ht : Turn W0.heap.size b w w2) (hw : WOwn w2 W0.heap.size b vv' (encs (ls.take i) ++ enc (ls[i]?.getD 0))) :
    L1 W0 w2 b ve vv' ls (i + 1) i := by
  refine ⟨by rw [take_next ls i hi]; exact hw, own_keep h.en fun g cs hg => ?_, h.bel.trans ht.bel⟩
  rw [ht.far g cs 3 (0, 0) hg (by decide) (fun e => by rw [e, h.wo.hb] at hg; cases hg), hg]

theorem L1.app {W0 w w3 : World} {b : Nat} {ve ve' vv : Value} {ls : List Nat} {i : Nat} (h : L1 W0 w b ve vv ls (i + 1) i) (hown : w3.ownsRow W0.heap.size 3 1 ve' (i + 1) ((endsOf ls i).map (Value.int .i64) ++ [.int .i64 ((endAt ls (i + 1) : Nat) : Int)]))
    (hgrow : (w.alloc (.cells #[.int .i64 ((endAt ls (i + 1) : Nat) : Int)] 3)).grownBy w3 ve.ownBlock) : L1 W0 w3 b ve' vv ls (i + 1) (i + 1) := by
  have hvo : ∀ k, ve.ownBlock = some k → W0.heap.size ≤ k ∧ ∃ cs, w.heap[k]? = some (.cells cs 3 (0, 0)) := by
    intro k hk
    obtain ⟨_, ⟨rfl, _⟩ | ⟨g', cap', cur', rfl, hg', hh', _⟩⟩ := h.en
    · cases hk
    · cases hk; exact ⟨hg', cur', hh'⟩
  have hal : Below w.heap.size w (w.alloc (.cells #[.int .i64 ((endAt ls (i + 1) : Nat) : Int)] 3)) := (Below.refl _ _).alloc (Nat.le_refl _) _
  have far : ∀ (k : Nat) (cs : Array Value) (t : TypeId), w.heap[k]? = some (.cells cs t (0, 0)) → t ≠ 3 → w3.heap[k]? = w.heap[k]? := by
    intro k cs t hk ht
    have hlt := lt_of_heap hk
    rw [hgrow.block k (by simp; omega) (fun e => by
      obtain ⟨_, cs', h5⟩ := hvo k e.symm
      rw [hk] at h5
      cases h5
      exact ht rfl), hal.block k hlt]
  refine ⟨⟨(far b _ _ h.wo.hb (by decide)).trans h.wo.hb, own_keep h.wo.own fun g cs hg => far g cs 5 hg (by decide), h.wo.lo⟩, by rw [endsOf_succ]; simpa using hown, ?_⟩
  exact ((h.bel.alloc h.bel.size _).grown hgrow (by have := h.bel.size; simp; omega) (fun k hk => (hvo k hk).1))

theorem RowAt.taken {k : IntKind} {w : World} {ao : Option Addr} {n c m : Nat} {xs : List Int} (h : RowAt k w (.slice ao n c) xs) (hm : m ≤ xs.length) : RowAt k w (.slice ao m c) (xs.take m) := by
  obtain ⟨ao', c', he, h1, h2, h3, h4⟩ := h
  simp only [Value.slice.injEq] at he
  obtain ⟨rfl, _, rfl⟩ := he
  have hl : (xs.take m).length = m := by rw [List.length_take]; omega
  refine ⟨ao, c, by rw [hl], by omega, h2, h3, fun a ha i hi => ?_⟩
  rw [hl] at hi
  rw [h4 a ha i (by omega)]
  simp [List.getD, List.getElem?_take_of_lt hi]

/-- What is left of the bytes, at the i-th number. -/
theorem left_whole (ls : List Nat) (i nn : Nat) (hi : i < ls.length) (hn : endAt ls (i + 1) ≤ nn) : ∃ post, ((encs ls).take nn).drop (endAt ls i) = enc (ls[i]?.getD 0) ++ post := by
  have hs := encs_split ls i hi
  have he : endAt ls i = (encs (ls.take i)).length := rfl
  have he2 := endAt_succ ls i hi
  refine ⟨(encs (ls.drop (i + 1))).take (nn - endAt ls (i + 1)), ?_⟩
  rw [hs, List.append_assoc, List.take_append, List.drop_append, ← he]
  rw [List.take_of_length_le (show (encs (ls.take i)).length ≤ nn by omega), List.drop_of_length_le (by omega), List.nil_append]
  rw [show endAt ls i - (encs (ls.take i)).length = 0 by omega, List.drop_zero, List.take_append, List.take_of_length_le (by omega)]
  congr 2
  omega
theorem left_short (ls : List Nat) (i nn : Nat) (hi : i < ls.length) (h0 : endAt ls i ≤ nn) (hn : nn < endAt ls (i + 1)) : ((encs ls).take nn).drop (endAt ls i) = (enc (ls[i]?.getD 0)).take (nn - endAt ls i) ∧ nn - endAt ls i < (enc (ls[i]?.getD 0)).length := by
  have hs := encs_split ls i hi
  have he : endAt ls i = (encs (ls.take i)).length := rfl
  have he2 := endAt_succ ls i hi
  refine ⟨?_, by omega⟩
  rw [hs, List.append_assoc, List.take_append, List.drop_append, ← he]
  rw [List.take_of_length_le (show (encs (ls.take i)).length ≤ nn by omega), List.drop_of_length_le (by omega), List.nil_append]
  rw [show endAt ls i - (encs (ls.take i)).length = 0 by omega, List.drop_zero, List.take_append]
  have e : (encs (ls.drop (i + 1))).take (nn - endAt ls i - (enc (ls[i]?.getD 0)).length) = [] := by rw [show nn - endAt ls i - (enc (ls[i]?.getD 0)).length = 0 by omega]; rfl
  rw [e, List.append_nil]
theorem endAt_all (ls : List Nat) : endAt ls ls.length = (encs ls).length := by unfold endAt; rw [List.take_length]
end Go.Proofs.Ytlenfiajoeijnaa
