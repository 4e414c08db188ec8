/- The book: the lists of a graph go into it. -/
import Derived.Test.YtmagigmcbegmiaaBv
import Derived.Test.YtmagigmcbegmiaaAqR
import Derived.Test.YtmagigmcbegmiaaRr
import Derived.Deep.Cut
import Derived.Deep.CutRange
namespace Go.Proofs.Ytmagigmcbegmiaa
open Go.RowKit Go.Lib
set_option linter.unusedVariables false
set_option linter.unusedSimpArgs false
/-- What putting lists into the book may turn: the book, and its rows of lists. -/
structure Hd (base top : Nat) (w w' : World) : Prop where
  os : w'.os = w.os
  tape : w'.tape = w.tape
  output : w'.output = w.output
  size : w.heap.size ≤ w'.heap.size
  keep : ∀ (k : Nat) (cur : Array Value) (t : TypeId), w.heap[k]? = some (.cells cur t (0, 0)) → t ≠ 22 → t ≠ 23 → t ≠ 56 → w'.heap[k]? = w.heap[k]?
  low : ∀ k, k < base → w'.heap[k]? = w.heap[k]?
  high : ∀ k, top ≤ k → k < w.heap.size → w'.heap[k]? = w.heap[k]?
theorem Hd.refl (base top : Nat) (w : World) : Hd base top w w := ⟨rfl, rfl, rfl, Nat.le_refl _, fun _ _ _ _ _ _ _ => rfl, fun _ _ => rfl, fun _ _ _ => rfl⟩
theorem Hd.trans {base top : Nat} {w w' w'' : World} (h : Hd base top w w') (k : Hd base top w' w'') : Hd base top w w'' :=
  ⟨k.os.trans h.os, k.tape.trans h.tape, k.output.trans h.output, Nat.le_trans h.size k.size, fun b cur t h1 h2 h3 h4 => (k.keep b cur t ((h.keep b cur t h1 h2 h3 h4).trans h1) h2 h3 h4).trans (h.keep b cur t h1 h2 h3 h4), fun b hb => (k.low b hb).trans (h.low b hb), fun b h1 h2 => (k.high b h1 (Nat.lt_of_lt_of_le h2 h.size)).trans (h.high b h1 h2)⟩
theorem Hd.of_below {base top : Nat} {w w' : World} (hb : base ≤ w.heap.size) (h : Below w.heap.size w w') : Hd base top w w' :=
  ⟨h.os, h.tape, h.output, h.size, fun k cur t h1 _ _ _ => h.block k (lt_of_heap h1), fun k hk => h.block k (by omega), fun k _ hk => h.block k hk⟩
/-- The book in memory. -/
structure BkH (base top B : Nat) (w : World) (L1 L2 : List Value) : Prop where
  ex : ∃ v1 v2, w.heap[B]? = some (.cells #[v1, v2, .slice none 0 0] 56 (0, 0)) ∧ w.ownsRow base 22 1 v1 L1.length L1 ∧ w.ownsRow base 23 1 v2 L2.length L2 ∧ (∀ g, v1.ownBlock = some g → g < top) ∧ (∀ g, v2.ownBlock = some g → g < top)
  le : base ≤ B
  lt : B < top
theorem BkH.below {base top B : Nat} {w w' : World} {L1 L2 : List Value} (h : BkH base top B w L1 L2) (hb : Below w.heap.size w w') : BkH base top B w' L1 L2 := by
  obtain ⟨v1, v2, h1, h2, h3, h4⟩ := h.ex
  exact ⟨⟨v1, v2, (hb.block _ (lt_of_heap h1)).trans h1, ownA_stay h2 (fun g hg => hb.block g (h2.lt g hg).2), ownA_stay h3 (fun g hg => hb.block g (h3.lt g hg).2), h4⟩, h.le, h.lt⟩
/-- A store of the grown row into the book. -/
theorem hd_put {base top B i : Nat} {w w' : World} {u v x0 x1 x2 : Value} {t : TypeId} {n : Nat} {xs : List Value} (hB : w.heap[B]? = some (.cells #[x0, x1, x2] 56 (0, 0))) (hle : base ≤ B) (hu : w.ownsRow base t 1 u n xs) (ht : t = 22 ∨ t = 23) (hg : w.grownBy w' u.ownBlock) (hBt : B < top) (hut : ∀ g, u.ownBlock = some g → g < top) : Hd base top w (w'.setCell ⟨B, i, none⟩ v) := by
  have hne : ∀ k, k ≠ B → (w'.setCell ⟨B, i, none⟩ v).heap[k]? = w'.heap[k]? := fun k hk => by simp [World.setCell, Array.getElem?_modify, Ne.symm hk]
  refine ⟨hg.os, hg.tape, hg.output, by simpa [World.setCell] using hg.size, fun k cur t' h1 h2 h3 h4 => ?_, fun k hk => ?_, fun k hk hs => ?_⟩
  · have hkB : k ≠ B := by rintro rfl; rw [hB] at h1; cases h1; exact h4 rfl
    rw [hne k hkB]
    refine hg.block k (lt_of_heap h1) (fun q => ?_)
    obtain ⟨c, hc⟩ := ownA_type hu q.symm
    rw [h1] at hc; cases hc
    rcases ht with rfl | rfl
    · exact h2 rfl
    · exact h3 rfl
  · rw [hne k (by omega)]
    by_cases hks : k < w.heap.size
    · refine hg.block k hks (fun q => ?_)
      have := (hu.lt k q.symm).1
      omega
    · have := lt_of_heap hB
      omega
  · rw [hne k (by omega)]
    exact hg.block k hs (fun q => by have := hut k q.symm; omega)
/-- What stands behind one append and its store. -/
structure AfB (base top B : Nat) (W : World) (X : Nat) (xs : Array Value) (v1 v2 : Value) (L1 L2 : List Value) (w' : World) : Prop where
  book : w'.heap[B]? = some (.cells #[v1, v2, .slice none 0 0] 56 (0, 0))
  box : w'.heap[X]? = some (.cells xs 25 (0, 0))
  o1 : w'.ownsRow base 22 1 v1 L1.length L1
  o2 : w'.ownsRow base 23 1 v2 L2.length L2
  hd : Hd base top W w'
theorem grow_keep {Y w2 : World} {base k n : Nat} {t t' : TypeId} {u : Value} {xs : List Value} {cur : Array Value} (hg : Y.grownBy w2 u.ownBlock) (hu : Y.ownsRow base t 1 u n xs) (hk : Y.heap[k]? = some (.cells cur t' (0, 0))) (ht : t' ≠ t) : w2.heap[k]? = some (.cells cur t' (0, 0)) := by
  refine (hg.block k (lt_of_heap hk) (fun q => ?_)).trans hk
  obtain ⟨c, hc⟩ := ownA_type hu q.symm
  rw [hk] at hc; cases hc; exact ht rfl
theorem set_ne {w : World} {B i k : Nat} {v : Value} (h : k ≠ B) : (w.setCell ⟨B, i, none⟩ v).heap[k]? = w.heap[k]? := by simp [World.setCell, Array.getElem?_modify, Ne.symm h]
theorem AfB.one {base top B X : Nat} {W Y w2 : World} {xs : Array Value} {v1 v2 n1 : Value} {L1 L2 M : List Value} (h : AfB base top B W X xs v1 v2 L1 L2 Y) (hle : base ≤ B) (hg : Y.grownBy w2 v1.ownBlock) (hn : w2.ownsRow base 22 1 n1 (L1 ++ M).length (L1 ++ M)) (hBX : X ≠ B) (hBt : B < top) (hut : ∀ g, v1.ownBlock = some g → g < top) :
    AfB base top B W X xs n1 v2 (L1 ++ M) L2 (w2.setCell ⟨B, 0, none⟩ n1) := by
  have h1 := grow_keep hg h.o1 h.book (by decide)
  have hs : ∀ {t : TypeId} {u : Value} {n : Nat} {ys : List Value}, w2.ownsRow base t 1 u n ys → t ≠ 56 → (w2.setCell ⟨B, 0, none⟩ n1).ownsRow base t 1 u n ys := fun hu ht => ownA_stay hu (fun g hg' => set_ne (fun q => by
    obtain ⟨c, hc⟩ := ownA_type hu hg'
    rw [q, h1] at hc; cases hc; exact ht rfl))
  exact ⟨by rw [heap_set h1]; rfl, (set_ne hBX).trans (grow_keep hg h.o1 h.box (by decide)), hs hn (by decide), hs (own_grown h.o2 h.o1 (by decide) hg) (by decide), h.hd.trans (hd_put h.book hle h.o1 (.inl rfl) hg hBt hut)⟩
theorem AfB.two {base top B X : Nat} {W Y w2 : World} {xs : Array Value} {v1 v2 n2 : Value} {L1 L2 M : List Value} (h : AfB base top B W X xs v1 v2 L1 L2 Y) (hle : base ≤ B) (hg : Y.grownBy w2 v2.ownBlock) (hn : w2.ownsRow base 23 1 n2 (L2 ++ M).length (L2 ++ M)) (hBX : X ≠ B) (hBt : B < top) (hut : ∀ g, v2.ownBlock = some g → g < top) :
    AfB base top B W X xs v1 n2 L1 (L2 ++ M) (w2.setCell ⟨B, 1, none⟩ n2) := by
  have h1 := grow_keep hg h.o2 h.book (by decide)
  have hs : ∀ {t : TypeId} {u : Value} {n : Nat} {ys : List Value}, w2.ownsRow base t 1 u n ys → t ≠ 56 → (w2.setCell ⟨B, 1, none⟩ n2).ownsRow base t 1 u n ys := fun hu ht => ownA_stay hu (fun g hg' => set_ne (fun q => by
    obtain ⟨c, hc⟩ := ownA_type hu hg'
    rw [q, h1] at hc; cases hc; exact ht rfl))
  exact ⟨by rw [heap_set h1]; rfl, (set_ne hBX).trans (grow_keep hg h.o2 h.box (by decide)), hs (own_grown h.o1 h.o2 (by decide) hg) (by decide), hs hn (by decide), h.hd.trans (hd_put h.book hle h.o2 (.inr rfl) hg hBt hut)⟩
theorem AfB.alloc {base top B X : Nat} {W Y : World} {xs : Array Value} {v1 v2 : Value} {L1 L2 : List Value} (h : AfB base top B W X xs v1 v2 L1 L2 Y) (hle : base ≤ B) (o : Obj) : AfB base top B W X xs v1 v2 L1 L2 (Y.alloc o) := by
  have hb : Below Y.heap.size Y (Y.alloc o) := (Below.refl _ _).alloc (Nat.le_refl _) _
  exact ⟨(hb.block _ (lt_of_heap h.book)).trans h.book, (hb.block _ (lt_of_heap h.box)).trans h.box, h.o1.alloc _, h.o2.alloc _, h.hd.trans (Hd.of_below (by have := lt_of_heap h.book; omega) hb)⟩
theorem AfB.drew {base top B X : Nat} {W Y : World} {xs : Array Value} {v1 v2 : Value} {L1 L2 : List Value} (h : AfB base top B W X xs v1 v2 L1 L2 Y) : AfB base top B W X xs v1 v2 L1 L2 Y.drew :=
  ⟨h.book, h.box, h.o1, h.o2, ⟨h.hd.os, h.hd.tape, h.hd.output, h.hd.size, h.hd.keep, h.hd.low, h.hd.high⟩⟩
set_option maxRecDepth 100000 in
set_option maxHeartbeats 8000000 in
theorem bookGraph_any (base top B : Nat) (N : Int) (ao bo co : Option Addr) (na ca nb cb nc cc : Nat) (L1 L2 : List Value) (w : World) (h : BkH base top B w L1 L2) (hl1 : L1.length ≤ 1000) (hl2 : L2.length ≤ 1000) :
    Calls Try.prog 53 #[.pointer (some ⟨B, 0, none⟩), gAgg N (.slice ao na ca) (.slice bo nb cb) (.slice co nc cc)] w fun e w' => e = .returned (.tuple #[]) ∧ BkH base w'.heap.size B w' (L1 ++ [.slice ao na ca, .slice bo nb cb]) (L2 ++ [.slice co nc cc]) ∧ Hd base top w w' := by
  obtain ⟨i0, ti, tz0, tz1, tz2⟩ := info_parts3 Try.info22A
  obtain ⟨j0, tj, ty0, ty1, ty2⟩ := info_parts3 Try.info23A
  obtain ⟨W, hW⟩ : ∃ W, W = w.alloc (.cells #[.int .i64 N, .slice ao na ca, .slice bo nb cb, .slice co nc cc] 25) := ⟨_, rfl⟩
  have hbW : Below w.heap.size w W := by rw [hW]; exact (Below.refl _ _).alloc (Nat.le_refl _) _
  have hX : W.heap[w.heap.size]? = some (.cells #[.int .i64 N, .slice ao na ca, .slice bo nb cb, .slice co nc cc] 25 (0, 0)) := by rw [hW]; exact heap_new _ _
  have hBW := h.below hbW
  obtain ⟨v1, v2, hB, ho1, ho2, hu1, hu2⟩ := hBW.ex
  have hBt := hBW.lt
  have HU1 := hide hu1; have HU2 := hide hu2
  have hBs : B < w.heap.size := by obtain ⟨_, _, q, _⟩ := h.ex; exact lt_of_heap q
  have hsW : W.heap.size = w.heap.size + 1 := by rw [hW]; simp
  have x1 := cell_of hX (i := 1) rfl
  have x2 := cell_of hX (i := 2) rfl
  have x3 := cell_of hX (i := 3) rfl
  have b0 := cell_of hB (i := 0) rfl
  have b1 := cell_of hB (i := 1) rfl
  have f0 := free_of hB 0
  have f1 := free_of hB 1
  have HX := hide hX; have HB := hide hB; have HO1 := hide ho1; have HO2 := hide ho2; have HBW := hide hbW
  have hle := h.le
  clear hX hB ho1 ho2 hbW hBW h hu1 hu2
  unfold gAgg
  go_enter Try.func53, Try.ntmps53
  go_wp2_with fail
  rw [← hW]
  clear hW
  have HAF : Hid (AfB base top B W w.heap.size #[.int .i64 N, .slice ao na ca, .slice bo nb cb, .slice co nc cc] v1 v2 L1 L2 W) := ⟨HB.out, HX.out, HO1.out, HO2.out, Hd.refl _ _ _⟩
  have hnw := two_at W (.slice ao na ca) (.slice bo nb cb) 22
  rw [hsW] at hnw
  have HNW := hide hnw
  clear hnw
  have hne : ¬ w.heap.size = B := by omega
  have hne2 : ¬ w.heap.size + 1 = B := by omega
  go_cut [] from 4 to 14 (fun wx => ∃ n1, AfB base top B W w.heap.size #[.int .i64 N, .slice ao na ca, .slice bo nb cb, .slice co nc cc] n1 v2 (L1 ++ [.slice ao na ca, .slice bo nb cb]) L2 wx)
  case first =>
    refine wp_region_noPanic ?_
    go_region_law ((refine step_append_lies _ (by rfl) _ _ _ (by rfl) base 22 i0 (.slice none 0 0) 1 24 Try.underlying52 ti tz0 tz1 tz2 rfl (by omega) v1 L1.length L1 (by rfl) (by exact HO1.out.alloc _) ⟨w.heap.size + 1, 0, none⟩ 2 2 [.slice ao na ca, .slice bo nb cb] (by rfl) (by rfl) (by exact HNW.out) (by simp [Value.oneCell']) (by omega) (by unfold maxLen; omega) (by omega) (by simp; omega) (w.heap.size + 2) (by simp [hsW]) ?_; intro g cap w2 hown hgrow hat hlt; have zB := grow_keep hgrow (HAF.out.alloc hle (.cells #[.slice ao na ca, .slice bo nb cb] 22)).o1 (HAF.out.alloc hle (.cells #[.slice ao na ca, .slice bo nb cb] 22)).book (by decide); have z0 := free_of zB 0; have z1 := cell_of zB (i := 0) rfl))
    all_goals
      refine NoPanic.normal ?_
      go_wp2_with fail
      go_meet
      case rel => exact ⟨_, (HAF.out.alloc hle _).drew.one hle hgrow (by simpa using hown) hne hBt HU1.out⟩
  case rest =>
    obtain ⟨n1, haf⟩ := hcut
    have HA2 := hide haf
    have hsz := haf.hd.size
    have y0 := cell_of haf.book (i := 1) rfl
    have y1 := free_of haf.book 1
    have y3 := cell_of haf.box (i := 3) rfl
    have hlB : B < wc.heap.size := lt_of_heap haf.book
    have hnw := World.news_of_block (heap_new wc (.cells #[.slice co nc cc] 23))
    have HNW2 := hide hnw
    clear haf HAF HNW HX HB HO1 HO2 x1 x2 x3 b0 b1 f0 f1 hne2 hnw
    go_wp2_with fail
    refine wp_region_noPanic ?_
    go_region_law ((refine step_append_lies _ (by rfl) _ _ _ (by rfl) base 23 j0 (.slice none 0 0) 1 24 Try.underlying53 tj ty0 ty1 ty2 rfl (by omega) v2 L2.length L2 (by rfl) (by exact HA2.out.o2.alloc _) ⟨wc.heap.size, 0, none⟩ 1 1 [.slice co nc cc] (by rfl) (by rfl) (by exact HNW2.out) (by simp [Value.oneCell']) (by omega) (by unfold maxLen; omega) (by omega) (by simp; omega) (wc.heap.size + 1) (by simp) ?_; intro g cap w2 hown hgrow hat hlt; have zB := grow_keep hgrow (HA2.out.alloc hle (.cells #[.slice co nc cc] 23)).o2 (HA2.out.alloc hle (.cells #[.slice co nc cc] 23)).book (by decide); have z0 := free_of zB 1; have z1 := cell_of zB (i := 1) rfl))
    all_goals
      refine NoPanic.normal ?_
      go_wp2_with fail
      first | go_end0 | refine bodyPost_ret (results_none rfl _ _ _) rfl ?_
      have hE := (HA2.out.alloc hle (.cells #[.slice co nc cc] 23)).drew.two (M := [.slice co nc cc]) hle hgrow (by simpa using hown) hne hBt HU2.out
      exact ⟨rfl, ⟨⟨_, _, hE.book, by simpa using hE.o1, by simpa using hE.o2, fun g hg => (hE.o1.lt g hg).2, fun g hg => (hE.o2.lt g hg).2⟩, hle, lt_of_heap hE.book⟩, (Hd.of_below (by omega) HBW.out).trans hE.hd⟩
end Go.Proofs.Ytmagigmcbegmiaa
