import Derived.Test.YtmagigmcbegmiaaBv
import Derived.Test.YtmagigmcbegmiaaAqR
import Derived.Test.YtmagigmcbegmiaaRr
import Derived.Deep.Cut
import Derived.Deep.CutRange
import Derived.Test.YtmagigmcbegmiaaSame
import Derived.Test.YtmagigmcbegmiaaGOf
import Derived.Test.YtmagigmcbegmiaaTe
/- The book: the lists of a graph go into it. -/
namespace Go.Proofs.Ytmagigmcbegmiaa
open Go.RowKit Go.Lib
set_option linter.unusedVariables false
set_option linter.unusedSimpArgs false
/-- What putting lists into the book may turn: the book, and its rows of lists. -/
structure Hd (base top : Nat) (w w' : World) : Prop where
  os : w'.os = w.os
  tape : w'.tape = w.tape
  output : w'.output = w.output
  size : w.heap.size ≤ w'.heap.size
  keep : ∀ (k : Nat) (cur : Array Value) (t : TypeId), w.heap[k]? = some (.cells cur t (0, 0)) → t ≠ 22 → t ≠ 23 → t ≠ 56 → w'.heap[k]? = w.heap[k]?
  low : ∀ k, k < base → w'.heap[k]? = w.heap[k]?
  high : ∀ k, top ≤ k → k < w.heap.size → w'.heap[k]? = w.heap[k]?
theorem Hd.refl (base top : Nat) (w : World) : Hd base top w w := ⟨rfl, rfl, rfl, Nat.le_refl _, fun _ _ _ _ _ _ _ => rfl, fun _ _ => rfl, fun _ _ _ => rfl⟩
theorem Hd.trans {base top : Nat} {w w' w'' : World} (h : Hd base top w w') (k : Hd base top w' w'') : Hd base top w w'' :=
  ⟨k.os.trans h.os, k.tape.trans h.tape, k.output.trans h.output, Nat.le_trans h.size k.size, fun b cur t h1 h2 h3 h4 => (k.keep b cur t ((h.keep b cur t h1 h2 h3 h4).trans h1) h2 h3 h4).trans (h.keep b cur t h1 h2 h3 h4), fun b hb => (k.low b hb).trans (h.low b hb), fun b h1 h2 => (k.high b h1 (Nat.lt_of_lt_of_le h2 h.size)).trans (h.high b h1 h2)⟩
theorem Hd.of_below {base top : Nat} {w w' : World} (hb : base ≤ w.heap.size) (h : Below w.heap.size w w') : Hd base top w w' :=
  ⟨h.os, h.tape, h.output, h.size, fun k cur t h1 _ _ _ => h.block k (lt_of_heap h1), fun k hk => h.block k (by omega), fun k _ hk => h.block k hk⟩
/-- The book in memory. -/
structure BkH (base top B : Nat) (w : World) (L1 L2 : List Value) : Prop where
  ex : ∃ v1 v2, w.heap[B]? = some (.cells #[v1, v2, .slice none 0 0] 56 (0, 0)) ∧ w.ownsRow base 22 1 v1 L1.length L1 ∧ w.ownsRow base 23 1 v2 L2.length L2 ∧ (∀ g, v1.ownBlock = some g → g < top) ∧ (∀ g, v2.ownBlock = some g → g < top)
  le : base ≤ B
  lt : B < top
theorem BkH.below {base top B : Nat} {w w' : World} {L1 L2 : List Value} (h : BkH base top B w L1 L2) (hb : Below w.heap.size w w') : BkH base top B w' L1 L2 := by
  obtain ⟨v1, v2, h1, h2, h3, h4⟩ := h.ex
  exact ⟨⟨v1, v2, (hb.block _ (lt_of_heap h1)).trans h1, ownA_stay h2 (fun g hg => hb.block g (h2.lt g hg).2), ownA_stay h3 (fun g hg => hb.block g (h3.lt g hg).2), h4⟩, h.le, h.lt⟩
/-- A store of the grown row into the book. -/
theorem hd_put {base top B i : Nat} {w w' : World} {u v x0 x1 x2 : Value} {t : TypeId} {n : Nat} {xs : List Value} (hB : w.heap[B]? = some (.cells #[x0, x1, x2] 56 (0, 0))) (hle : base ≤ B) (hu : w.ownsRow base t 1 u n xs) (ht : t = 22 ∨ t = 23) (hg : w.grownBy w' u.ownBlock) (hBt : B < top) (hut : ∀ g, u.ownBlock = some g → g < top) : Hd base top w (w'.setCell ⟨B, i, none⟩ v) := by
  have hne : ∀ k, k ≠ B → (w'.setCell ⟨B, i, none⟩ v).heap[k]? = w'.heap[k]? := fun k hk => by simp [World.setCell, Array.getElem?_modify, Ne.symm hk]
  refine ⟨hg.os, hg.tape, hg.output, by simpa [World.setCell] using hg.size, fun k cur t' h1 h2 h3 h4 => ?_, fun k hk => ?_, fun k hk hs => ?_⟩
  · have hkB : k ≠ B := by rintro rfl; rw [hB] at h1; cases h1; exact h4 rfl
    rw [hne k hkB]
    refine hg.block k (lt_of_heap h1) (fun q => ?_)
    obtain ⟨c, hc⟩ := ownA_type hu q.symm
    rw [h1] at hc; cases hc
    rcases ht with rfl | rfl
    · exact h2 rfl
    · exact h3 rfl
  · rw [hne k (by omega)]
    by_cases hks : k < w.heap.size
    · refine hg.block k hks (fun q => ?_)
      have := (hu.lt k q.symm).1
      omega
    · have := lt_of_heap hB
      omega
  · rw [hne k (by omega)]
    exact hg.block k hs (fun q => by have := hut k q.symm; omega)
/-- What stands behind one append and its store. -/
structure AfB (base top B : Nat) (W : World) (X : Nat) (xs : Array Value) (v1 v2 : Value) (L1 L2 : List Value) (w' : World) : Prop where
  book : w'.heap[B]? = some (.cells #[v1, v2, .slice none 0 0] 56 (0, 0))
  box : w'.heap[X]? = some (.cells xs 25 (0, 0))
  o1 : w'.ownsRow base 22 1 v1 L1.length L1
  o2 : w'.ownsRow base 23 1 v2 L2.length L2
  hd : Hd base top W w'
theorem grow_keep {Y w2 : World} {base k n : Nat} {t t' : TypeId} {u : Value} {xs : List Value} {cur : Array Value} (hg : Y.grownBy w2 u.ownBlock) (hu : Y.ownsRow base t 1 u n xs) (hk : Y.heap[k]? = some (.cells cur t' (0, 0))) (ht : t' ≠ t) : w2.heap[k]? = some (.cells cur t' (0, 0)) := by
  refine (hg.block k (lt_of_heap hk) (fun q => ?_)).trans hk
  obtain ⟨c, hc⟩ := ownA_type hu q.symm
  rw [hk] at hc; cases hc; exact ht rfl
theorem set_ne {w : World} {B i k : Nat} {v : Value} (h : k ≠ B) : (w.setCell ⟨B, i, none⟩ v).heap[k]? = w.heap[k]? := by simp [World.setCell, Array.getElem?_modify, Ne.symm h]
theorem AfB.one {base top B X : Nat} {W Y w2 : World} {xs : Array Value} {v1 v2 n1 : Value} {L1 L2 M : List Value} (h : AfB base top B W X xs v1 v2 L1 L2 Y) (hle : base ≤ B) (hg : Y.grownBy w2 v1.ownBlock) (hn : w2.ownsRow base 22 1 n1 (L1 ++ M).length (L1 ++ M)) (hBX : X ≠ B) (hBt : B < top) (hut : ∀ g, v1.ownBlock = some g → g < top) :
    AfB base top B W X xs n1 v2 (L1 ++ M) L2 (w2.setCell ⟨B, 0, none⟩ n1) := by
  have h1 := grow_keep hg h.o1 h.book (by decide)
  have hs : ∀ {t : TypeId} {u : Value} {n : Nat} {ys : List Value}, w2.ownsRow base t 1 u n ys → t ≠ 56 → (w2.setCell ⟨B, 0, none⟩ n1).ownsRow base t 1 u n ys := fun hu ht => ownA_stay hu (fun g hg' => set_ne (fun q => by
    obtain ⟨c, hc⟩ := ownA_type hu hg'
    rw [q, h1] at hc; cases hc; exact ht rfl))
  exact ⟨by rw [heap_set h1]; rfl, (set_ne hBX).trans (grow_keep hg h.o1 h.box (by decide)), hs hn (by decide), hs (own_grown h.o2 h.o1 (by decide) hg) (by decide), h.hd.trans (hd_put h.book hle h.o1 (.inl rfl) hg hBt hut)⟩
theorem AfB.two {base top B X : Nat} {W Y w2 : World} {xs : Array Value} {v1 v2 n2 : Value} {L1 L2 M : List Value} (h : AfB base top B W X xs v1 v2 L1 L2 Y) (hle : base ≤ B) (hg : Y.grownBy w2 v2.ownBlock) (hn : w2.ownsRow base 23 1 n2 (L2 ++ M).length (L2 ++ M)) (hBX : X ≠ B) (hBt : B < top) (hut : ∀ g, v2.ownBlock = some g → g < top) :
    AfB base top B W X xs v1 n2 L1 (L2 ++ M) (w2.setCell ⟨B, 1, none⟩ n2) := by
  have h1 := grow_keep hg h.o2 h.book (by decide)
  have hs : ∀ {t : TypeId} {u : Value} {n : Nat} {ys : List Value}, w2.ownsRow base t 1 u n ys → t ≠ 56 → (w2.setCell ⟨B, 1, none⟩ n2).ownsRow base t 1 u n ys := fun hu ht => ownA_stay hu (fun g hg' => set_ne (fun q => by
    obtain ⟨c, hc⟩ := ownA_type hu hg'
    rw [q, h1] at hc; cases hc; exact ht rfl))
  exact ⟨by rw [heap_set h1]; rfl, (set_ne hBX).trans (grow_keep hg h.o2 h.box (by decide)), hs (own_grown h.o1 h.o2 (by decide) hg) (by decide), hs hn (by decide), h.hd.trans (hd_put h.book hle h.o2 (.inr rfl) hg hBt hut)⟩
theorem AfB.alloc {base top B X : Nat} {W Y : World} {xs : Array Value} {v1 v2 : Value} {L1 L2 : List Value} (h : AfB base top B W X xs v1 v2 L1 L2 Y) (hle : base ≤ B) (o : Obj) : AfB base top B W X xs v1 v2 L1 L2 (Y.alloc o) := by
  have hb : Below Y.heap.size Y (Y.alloc o) := (Below.refl _ _).alloc (Nat.le_refl _) _
  exact ⟨(hb.block _ (lt_of_heap h.book)).trans h.book, (hb.block _ (lt_of_heap h.box)).trans h.box, h.o1.alloc _, h.o2.alloc _, h.hd.trans (Hd.of_below (by have := lt_of_heap h.book; omega) hb)⟩
theorem AfB.drew {base top B X : Nat} {W Y : World} {xs : Array Value} {v1 v2 : Value} {L1 L2 : List Value} (h : AfB base top B W X xs v1 v2 L1 L2 Y) : AfB base top B W X xs v1 v2 L1 L2 Y.drew :=
  ⟨h.book, h.box, h.o1, h.o2, ⟨h.hd.os, h.hd.tape, h.hd.output, h.hd.size, h.hd.keep, h.hd.low, h.hd.high⟩⟩
set_option maxRecDepth 100000 in
set_option maxHeartbeats 8000000 in
theorem bookGraph_any (base top B : Nat) (N : Int) (ao bo co : Option Addr) (na ca nb cb nc cc : Nat) (L1 L2 : List Value) (w : World) (h : BkH base top B w L1 L2) (hl1 : L1.length ≤ 1000) (hl2 : L2.length ≤ 1000) :
    Calls Try.prog 53 #[.pointer (some ⟨B, 0, none⟩), gAgg N (.slice ao na ca) (.slice bo nb cb) (.slice co nc cc)] w fun e w' => e = .returned (.tuple #[]) ∧ BkH base w'.heap.size B w' (L1 ++ [.slice ao na ca, .slice bo nb cb]) (L2 ++ [.slice co nc cc]) ∧ Hd base top w w' := by
  obtain ⟨i0, ti, tz0, tz1, tz2⟩ := info_parts3 Try.info22A
  obtain ⟨j0, tj, ty0, ty1, ty2⟩ := info_parts3 Try.info23A
  obtain ⟨W, hW⟩ : ∃ W, W = w.alloc (.cells #[.int .i64 N, .slice ao na ca, .slice bo nb cb, .slice co nc cc] 25) := ⟨_, rfl⟩
  have hbW : Below w.heap.size w W := by rw [hW]; exact (Below.refl _ _).alloc (Nat.le_refl _) _
  have hX : W.heap[w.heap.size]? = some (.cells #[.int .i64 N, .slice ao na ca, .slice bo nb cb, .slice co nc cc] 25 (0, 0)) := by rw [hW]; exact heap_new _ _
  have hBW := h.below hbW
  obtain ⟨v1, v2, hB, ho1, ho2, hu1, hu2⟩ := hBW.ex
  have hBt := hBW.lt
  have HU1 := hide hu1; have HU2 := hide hu2
  have hBs : B < w.heap.size := by obtain ⟨_, _, q, _⟩ := h.ex; exact lt_of_heap q
  have hsW : W.heap.size = w.heap.size + 1 := by rw [hW]; simp
  have x1 := cell_of hX (i := 1) rfl
  have x2 := cell_of hX (i := 2) rfl
  have x3 := cell_of hX (i := 3) rfl
  have b0 := cell_of hB (i := 0) rfl
  have b1 := cell_of hB (i := 1) rfl
  have f0 := free_of hB 0
  have f1 := free_of hB 1
  have HX := hide hX; have HB := hide hB; have HO1 := hide ho1; have HO2 := hide ho2; have HBW := hide hbW
  have hle := h.le
  clear hX hB ho1 ho2 hbW hBW h hu1 hu2
  unfold gAgg
  go_enter Try.func53, Try.ntmps53
  go_wp2_with fail
  rw [← hW]
  clear hW
  have HAF : Hid (AfB base top B W w.heap.size #[.int .i64 N, .slice ao na ca, .slice bo nb cb, .slice co nc cc] v1 v2 L1 L2 W) := ⟨HB.out, HX.out, HO1.out, HO2.out, Hd.refl _ _ _⟩
  have hnw := two_at W (.slice ao na ca) (.slice bo nb cb) 22
  rw [hsW] at hnw
  have HNW := hide hnw
  clear hnw
  have hne : ¬ w.heap.size = B := by omega
  have hne2 : ¬ w.heap.size + 1 = B := by omega
  go_cut [] from 4 to 14 (fun wx => ∃ n1, AfB base top B W w.heap.size #[.int .i64 N, .slice ao na ca, .slice bo nb cb, .slice co nc cc] n1 v2 (L1 ++ [.slice ao na ca, .slice bo nb cb]) L2 wx)
  case first =>
    refine wp_region_noPanic ?_
    go_region_law ((refine step_append_lies _ (by rfl) _ _ _ (by rfl) base 22 i0 (.slice none 0 0) 1 24 Try.underlying52 ti tz0 tz1 tz2 rfl (by omega) v1 L1.length L1 (by rfl) (by exact HO1.out.alloc _) ⟨w.heap.size + 1, 0, none⟩ 2 2 [.slice ao na ca, .slice bo nb cb] (by rfl) (by rfl) (by exact HNW.out) (by simp [Value.oneCell']) (by omega) (by unfold maxLen; omega) (by omega) (by simp; omega) (w.heap.size + 2) (by simp [hsW]) ?_; intro g cap w2 hown hgrow hat hlt; have zB := grow_keep hgrow (HAF.out.alloc hle (.cells #[.slice ao na ca, .slice bo nb cb] 22)).o1 (HAF.out.alloc hle (.cells #[.slice ao na ca, .slice bo nb cb] 22)).book (by decide); have z0 := free_of zB 0; have z1 := cell_of zB (i := 0) rfl))
    all_goals
      refine NoPanic.normal ?_
      go_wp2_with fail
      go_meet
      case rel => exact ⟨_, (HAF.out.alloc hle _).drew.one hle hgrow (by simpa using hown) hne hBt HU1.out⟩
  case rest =>
    obtain ⟨n1, haf⟩ := hcut
    have HA2 := hide haf
    have hsz := haf.hd.size
    have y0 := cell_of haf.book (i := 1) rfl
    have y1 := free_of haf.book 1
    have y3 := cell_of haf.box (i := 3) rfl
    have hlB : B < wc.heap.size := lt_of_heap haf.book
    have hnw := World.news_of_block (heap_new wc (.cells #[.slice co nc cc] 23))
    have HNW2 := hide hnw
    clear haf HAF HNW HX HB HO1 HO2 x1 x2 x3 b0 b1 f0 f1 hne2 hnw
    go_wp2_with fail
    refine wp_region_noPanic ?_
    go_region_law ((refine step_append_lies _ (by rfl) _ _ _ (by rfl) base 23 j0 (.slice none 0 0) 1 24 Try.underlying53 tj ty0 ty1 ty2 rfl (by omega) v2 L2.length L2 (by rfl) (by exact HA2.out.o2.alloc _) ⟨wc.heap.size, 0, none⟩ 1 1 [.slice co nc cc] (by rfl) (by rfl) (by exact HNW2.out) (by simp [Value.oneCell']) (by omega) (by unfold maxLen; omega) (by omega) (by simp; omega) (wc.heap.size + 1) (by simp) ?_; intro g cap w2 hown hgrow hat hlt; have zB := grow_keep hgrow (HA2.out.alloc hle (.cells #[.slice co nc cc] 23)).o2 (HA2.out.alloc hle (.cells #[.slice co nc cc] 23)).book (by decide); have z0 := free_of zB 1; have z1 := cell_of zB (i := 1) rfl))
    all_goals
      refine NoPanic.normal ?_
      go_wp2_with fail
      first | go_end0 | refine bodyPost_ret (results_none rfl _ _ _) rfl ?_
      have hE := (HA2.out.alloc hle (.cells #[.slice co nc cc] 23)).drew.two (M := [.slice co nc cc]) hle hgrow (by simpa using hown) hne hBt HU2.out
      exact ⟨rfl, ⟨⟨_, _, hE.book, by simpa using hE.o1, by simpa using hE.o2, fun g hg => (hE.o1.lt g hg).2, fun g hg => (hE.o2.lt g hg).2⟩, hle, lt_of_heap hE.book⟩, (Hd.of_below (by omega) HBW.out).trans hE.hd⟩
end Go.Proofs.Ytmagigmcbegmiaa

/- edgesApart of no lists; the book's three lists, apart. -/
namespace Go.Proofs.Ytmagigmcbegmiaa
open Go.RowKit Go.Lib
set_option linter.unusedVariables false
set_option linter.unusedSimpArgs false
set_option maxRecDepth 100000 in
set_option maxHeartbeats 8000000 in
theorem edgesApart_nil (w : World) : Calls Try.prog 56 #[.slice none 0 0] w fun e w' => e = .returned (.bool true) ∧ w' = w := by
  go_enter Try.func56, Try.ntmps56
  go_wp2_with fail
  go_loopw [4, 5] (fun t _ wr => t = .int .i64 0 ∧ wr = w) (fun _ _ _ => 0)
  case atStart => exact ⟨rfl, rfl⟩
  case round =>
    obtain ⟨rfl, rfl⟩ := hrel
    go_wp2_with fail
    go_loopw [3, 6, 7, 8] (fun m t _ _ wx => t = .int .i64 0 ∧ wx = wr) (fun _ _ _ _ _ => 0)
    case atStart => exact ⟨rfl, rfl⟩
    case round =>
      obtain ⟨rfl, rfl⟩ := hrel
      go_wp2_with fail
      go_loopw [9, 10] (fun t _ wx => t = .int .i64 0 ∧ wx = wr) (fun _ _ _ => 0)
      case atStart => exact ⟨rfl, rfl⟩
      case round =>
        obtain ⟨rfl, rfl⟩ := hrel
        go_wp2_with fail
        go_ret
        exact ⟨rfl, rfl⟩
theorem Ft.other {L : List Value} {w w' : World} {k : IntKind} {e t : TypeId} {base b : Nat} {ls : List (List Int)} {cur : Array Value} (h : Ft L w w') (hl : LsO k e w base L ls) (hb : w.heap[b]? = some (.cells cur t (0, 0))) (ht : t ≠ e) : w'.heap[b]? = w.heap[b]? := by
  refine h.block b (lt_of_heap hb) (fun u hu hq => ?_)
  obtain ⟨i, hi⟩ := List.mem_iff_getElem?.mp hu
  have hlt : i < ls.length := by rw [hl.len]; exact (List.getElem?_eq_some_iff.mp hi).1
  obtain ⟨c, hc⟩ := ownA_type (hl.own i u _ hi (List.getElem?_eq_getElem hlt)) hq
  rw [hb] at hc; cases hc; exact ht rfl
theorem LsO.stay {k : IntKind} {e : TypeId} {w w' : World} {base : Nat} {L : List Value} {ls : List (List Int)} (h : LsO k e w base L ls) (hs : ∀ (b : Nat) (cur : Array Value), w.heap[b]? = some (.cells cur e (0, 0)) → w'.heap[b]? = w.heap[b]?) : LsO k e w' base L ls :=
  ⟨h.len, fun i v l hv hl => ownA_stay (h.own i v l hv hl) (fun g hg => let ⟨c, hc⟩ := ownA_type (h.own i v l hv hl) hg; hs g c hc), h.apart⟩
theorem Ft.both {L1 L2 : List Value} {w w1 w2 : World} (h : Ft L1 w w1) (k : Ft L2 w1 w2) : Ft (L1 ++ L2) w w2 :=
  ⟨k.os.trans h.os, k.tape.trans h.tape, k.output.trans h.output, Nat.le_trans h.size k.size, fun b hb hn => (k.block b (Nat.lt_of_lt_of_le hb h.size) (fun u hu => hn u (List.mem_append_right _ hu))).trans (h.block b hb (fun u hu => hn u (List.mem_append_left _ hu)))⟩
set_option maxRecDepth 100000 in
set_option maxHeartbeats 8000000 in
theorem apart_any (base top B : Nat) (L1 L2 : List Value) (ls1 ls2 : List (List Int)) (w : World) (h : BkH base top B w L1 L2) (h1 : LsO .i64 3 w base L1 ls1) (h2 : LsO .u64 48 w base L2 ls2) (hl1 : L1.length ≤ 1000) (hl2 : L2.length ≤ 1000) (hn1 : ∀ p, nsL ls1 p ≤ 1099511627776) (hn2 : ∀ p, nsL ls2 p ≤ 1099511627776) :
    Calls Try.prog 22 #[.pointer (some ⟨B, 0, none⟩)] w fun e w' => e = .returned (.bool true) ∧ Ft (L1 ++ L2) w w' := by
  obtain ⟨v1, v2, hB, ho1, ho2, _, _⟩ := h.ex
  have hbs : base ≤ w.heap.size := by have := h.le; have := lt_of_heap hB; omega
  have H1 := hide h1; have H2 := hide h2; have HB := hide hB; have HO2 := hide ho2
  have HC := hide (intsApart_any base v1 L1 ls1 w (ownA_base ho1 (Nat.zero_le _)) h1 hl1 hn1 hbs)
  have HN2 := hide hn2
  have b0 := cell_of hB (i := 0) rfl
  clear hB ho1 ho2 h1 h2 hn1 hn2 h
  go_enter Try.func22, Try.ntmps22
  go_wp2_with fail
  refine HC.out.mono ?_
  rintro e w1 ⟨rfl, hf⟩
  have hB1 : w1.heap[B]? = some (.cells #[v1, v2, .slice none 0 0] 56 (0, 0)) := (hf.other H1.out HB.out (by decide)).trans HB.out
  have HL2 := hide (H2.out.stay (w' := w1) (fun b cur hb => hf.other H1.out hb (by decide)))
  have HO2' := hide (hf.head H1.out HO2.out (by decide))
  have HC2 := hide (wordsApart_any base v2 L2 ls2 w1 (ownA_base HO2'.out (Nat.zero_le _)) HL2.out hl2 HN2.out (by have := hf.size; omega))
  have HB1 := hide hB1
  have HF := hide hf
  have c1 := cell_of hB1 (i := 1) rfl
  clear hB1 hf b0 HC HB HO2 H2
  go_wp2_with fail
  refine HC2.out.mono ?_
  rintro e w2 ⟨rfl, hf2⟩
  have hB2 : w2.heap[B]? = some (.cells #[v1, v2, .slice none 0 0] 56 (0, 0)) := (hf2.other HL2.out HB1.out (by decide)).trans HB1.out
  have c2 := cell_of hB2 (i := 2) rfl
  have HF2 := hide hf2
  clear hB2 hf2 c1 HC2 HB1 HO2'
  go_wp2_with fail
  refine (edgesApart_nil _).mono ?_
  rintro e w3 ⟨rfl, rfl⟩
  go_wp2_with fail
  go_ret
  exact ⟨rfl, HF.out.both HF2.out⟩
end Go.Proofs.Ytmagigmcbegmiaa

/- Both Builds answer alike; the lists that come are new. -/
namespace Go.Proofs.Ytmagigmcbegmiaa
open Go.RowKit Go.Lib
set_option linter.unusedVariables false
set_option linter.unusedSimpArgs false
theorem eqA_of_at {l m : List Int} (hl : l.length = m.length) (h : ∀ i, i < l.length → at_ l i = at_ m i) : l = m := by
  apply List.ext_getElem hl
  intro i h1 h2
  have := h i h1
  unfold at_ at this
  rw [List.getElem?_eq_getElem h1, List.getElem?_eq_getElem h2] at this
  simpa using this
theorem summedA_one {n m : Nat} {F : Nat → Nat} {a b : List Int} (h : Summed n m F n a) (k : Summed n m F n b) : a = b :=
  eqA_of_at (by rw [h.1, k.1]) (fun i hi => by rw [h.1] at hi; rw [h.2.1 i (by omega), k.2.1 i (by omega)])
theorem layingA_one {n m : Nat} {F T : Nat → Nat} {W : Nat → Int} {x y tl wt tl2 wt2 : List Int} (h : Laying n m F T W m x tl wt) (k : Laying n m F T W m y tl2 wt2) : tl = tl2 ∧ wt = wt2 := by
  refine ⟨eqA_of_at (by rw [h.tlen, k.tlen]) fun i hi => ?_, eqA_of_at (by rw [h.wlen, k.wlen]) fun i hi => ?_⟩
  · obtain ⟨j, hj, rfl⟩ := place_all (F := F) (m := m) (e := i) (by rw [h.tlen] at hi; exact hi)
    rw [h.tla j hj, k.tla j hj]
  · obtain ⟨j, hj, rfl⟩ := place_all (F := F) (m := m) (e := i) (by rw [h.wlen] at hi; exact hi)
    rw [h.wta j hj, k.wta j hj]
/-- What Build answers, in numbers. -/
def Ans (N : Int) (l : List Ed3) (N' : Int) (st tl wt : List Int) (f p : Int) : Prop :=
  (BadAt N l f p ∧ N' = 0 ∧ st = [] ∧ tl = [] ∧ wt = []) ∨
  (∃ n nx, N = (n : Nat) ∧ Takes n l ∧ N' = n ∧ f = 0 ∧ p = 0 ∧ Summed n l.length (eFrom l) n st ∧ Laying n l.length (eFrom l) (eTo l) (eWt l) l.length nx tl wt)
theorem bad_not {n : Nat} {l : List Ed3} {f p : Int} (h : BadAt n l f p) (ht : Takes n l) : False := by
  rcases h with ⟨h1, _⟩ | ⟨h1, i, hi, rfl, h2, h3, h4⟩
  · exact h1 ⟨by omega, by have := ht.n_le; omega, by have := ht.m_le; omega⟩
  · refine h4 (h3.trans ?_)
    have q2 := ht.eto i hi
    have q3 := ht.ewt i hi
    unfold fE edgeNo
    rw [if_pos (show IsV n (eAt l i).1 from ht.efr i hi), if_pos (show IsV n (eAt l i).2.1 from q2), if_neg (by omega)]
theorem Ans.one {N : Int} {l : List Ed3} {N1 N2 f1 p1 f2 p2 : Int} {a b c a' b' c' : List Int} (h : Ans N l N1 a b c f1 p1) (k : Ans N l N2 a' b' c' f2 p2) : N1 = N2 ∧ a = a' ∧ b = b' ∧ c = c' ∧ f1 = f2 ∧ p1 = p2 := by
  rcases h with ⟨h1, rfl, rfl, rfl, rfl⟩ | ⟨n, nx, rfl, ht, rfl, rfl, rfl, hs, hy⟩ <;> rcases k with ⟨k1, rfl, rfl, rfl, rfl⟩ | ⟨m, mx, km, kt, rfl, rfl, rfl, ks, ky⟩
  · obtain ⟨q1, q2⟩ := h1.one k1
    exact ⟨rfl, rfl, rfl, rfl, q1, q2⟩
  · subst km; exact (bad_not h1 kt).elim
  · exact (bad_not k1 ht).elim
  · have : n = m := by omega
    subst this
    obtain ⟨q1, q2⟩ := layingA_one hy ky
    exact ⟨rfl, summedA_one hs ks, q1, q2, rfl, rfl⟩
/-- Three lists in blocks of their own. -/
structure OwG (w : World) (H : Nat) (va vb vc : Value) (st tl wt : List Int) : Prop where
  s : w.ownsRow H 3 1 va st.length (st.map (Value.int .i64))
  t : w.ownsRow H 3 1 vb tl.length (tl.map (Value.int .i64))
  u : w.ownsRow H 48 1 vc wt.length (wt.map (Value.int .u64))
  ne : ∀ g, va.ownBlock = some g → vb.ownBlock ≠ some g
  len : st.length ≤ 1099511627776 ∧ tl.length ≤ 1099511627776 ∧ wt.length ≤ 1099511627776
theorem own_arr {w : World} {H G : Nat} {l : List Int} (h : Arr w G l) (hG : H ≤ G) (hl : l.length ≤ 1099511627776) : w.ownsRow H 3 1 (.slice (some ⟨G, 0, none⟩) l.length l.length) l.length (l.map (Value.int .i64)) :=
  ⟨by simp, .inr ⟨G, l.length, _, rfl, hG, h, Nat.le_refl _, by unfold maxLen; omega, by simp [iCells], by simp [iCells, List.take_of_length_le]⟩⟩
theorem own_arru {w : World} {H G : Nat} {l : List Int} (h : ArrU w G l) (hG : H ≤ G) (hl : l.length ≤ 1099511627776) : w.ownsRow H 48 1 (.slice (some ⟨G, 0, none⟩) l.length l.length) l.length (l.map (Value.int .u64)) :=
  ⟨by simp, .inr ⟨G, l.length, _, rfl, hG, h, Nat.le_refl _, by unfold maxLen; omega, by simp [uCells], by simp [uCells, List.take_of_length_le]⟩⟩
theorem buildX_ans (N : Int) (ev : Value) (l : List Ed3) (w : World) (hr : EAt w ev l) (hlu : ∀ i, i < l.length → 0 ≤ (eAt l i).2.2) :
    Calls Try.prog 30 #[.agg #[.int .i64 N, ev]] w fun e w' => ∃ N' va vb vc st tl wt f p, e = .returned (.tuple #[gAgg N' va vb vc, .int .i64 f, .int .i64 p]) ∧ Ans N l N' st tl wt f p ∧ OwG w' w.heap.size va vb vc st tl wt ∧ Below w.heap.size w w' := by
  refine (buildX_any N ev l w hr hlu).mono ?_
  rintro e w' (⟨f, p, rfl, hbad, hb⟩ | ⟨n, rfl, ht, G1, G2, G3, st, tl, wt, nx, rfl, a1, a2, a3, g1, g2, g3, g12, hs, hy, hb⟩)
  · exact ⟨0, _, _, _, [], [], [], f, p, rfl, .inl ⟨hbad, rfl, rfl, rfl, rfl⟩, ⟨World.ownsRow_nil _ _ _ _, World.ownsRow_nil _ _ _ _, World.ownsRow_nil _ _ _ _, fun g q => (by cases q), (by simp)⟩, hb⟩
  · have l1 := hs.1
    have l2 := hy.tlen
    have l3 := hy.wlen
    have m1 := ht.n_le
    have m2 := ht.m_le
    refine ⟨n, _, _, _, st, tl, wt, 0, 0, rfl, .inr ⟨n, nx, rfl, ht, rfl, rfl, rfl, hs, hy⟩, ⟨?_, ?_, ?_, fun g q r => ?_, by omega, by omega, by omega⟩, hb⟩
    · have := own_arr a1 g1 (by omega); rw [l1] at this ⊢; exact this
    · have := own_arr a2 g2 (by omega); rw [l2] at this ⊢; exact this
    · have := own_arru a3 g3 (by omega); rw [l3] at this ⊢; exact this
    · cases q; cases r; exact g12 rfl
/-- A slice that is nil, or lies from H on. -/
def NilNew (H : Nat) (v : Value) : Prop := v = .slice none 0 0 ∨ ∃ g n c, v = .slice (some ⟨g, 0, none⟩) n c ∧ H ≤ g
theorem row_nil (k : IntKind) (w : World) : RowAt k w (.slice none 0 0) [] := ⟨none, 0, rfl, by simp, by simp, fun _ => rfl, fun a h => by cases h⟩
theorem buildR_ans (N : Int) (ev : Value) (l : List Ed3) (w : World) (hr : EAt w ev l) (hlu : ∀ i, i < l.length → 0 ≤ (eAt l i).2.2) :
    Calls Try.prog 52 #[.agg #[.int .i64 N, ev]] w fun e w' => ∃ N' va vb vc st tl wt f p, e = .returned (.tuple #[gAgg N' va vb vc, .int .i64 f, .int .i64 p]) ∧ Ans N l N' st tl wt f p ∧ GIs w' N' va vb vc st tl wt ∧ NilNew w.heap.size va ∧ NilNew w.heap.size vb ∧ NilNew w.heap.size vc ∧ Below w.heap.size w w' := by
  refine (buildR_any N ev l w hr hlu).mono ?_
  rintro e w' (⟨f, p, rfl, hbad, hb⟩ | ⟨n, rfl, ht, va, vb, vc, st, tl, wt, nx, rfl, hg, hs, hy, hb, n1, n2, n3⟩)
  · exact ⟨0, _, _, _, [], [], [], f, p, rfl, .inl ⟨hbad, rfl, rfl, rfl, rfl⟩, ⟨row_nil _ _, row_nil _ _, row_nil _ _⟩, .inl rfl, .inl rfl, .inl rfl, hb⟩
  · exact ⟨n, va, vb, vc, st, tl, wt, 0, 0, rfl, .inr ⟨n, nx, rfl, ht, rfl, rfl, rfl, hs, hy⟩, hg, .inr n1, .inr n2, .inr n3, hb⟩
/-- One list more. -/
theorem LsO.snoc {k : IntKind} {e : TypeId} {w : World} {base : Nat} {L : List Value} {ls : List (List Int)} (h : LsO k e w base L ls) {v : Value} {l : List Int} (ho : w.ownsRow base e 1 v l.length (l.map (Value.int k))) (ha : ∀ u ∈ L, ∀ g, u.ownBlock = some g → v.ownBlock ≠ some g) : LsO k e w base (L ++ [v]) (ls ++ [l]) := by
  have hs : ∀ (i : Nat) (u : Value), (L ++ [v])[i]? = some u → L[i]? = some u ∨ (i = L.length ∧ u = v) := fun i u hu => by
    rw [List.getElem?_append] at hu
    split at hu
    · exact .inl hu
    · rename_i hi
      rcases Nat.eq_zero_or_pos (i - L.length) with q | q
      · rw [q] at hu; simp at hu; exact .inr ⟨by omega, hu.symm⟩
      · rw [List.getElem?_eq_none (by simp; omega)] at hu; cases hu
  refine ⟨by simp [h.len], fun i u m hu hm => ?_, fun i j u u' b hi hj q1 q2 => ?_⟩
  · rcases hs i u hu with q | ⟨rfl, rfl⟩
    · have hlt : i < ls.length := by rw [h.len]; exact (List.getElem?_eq_some_iff.mp q).1
      rw [List.getElem?_append_left hlt] at hm
      exact h.own i u m q hm
    · rw [← h.len, List.getElem?_append_right (Nat.le_refl _)] at hm
      simp at hm
      subst hm
      exact ho
  · rcases hs i u hi with r1 | ⟨rfl, rfl⟩ <;> rcases hs j u' hj with r2 | ⟨rfl, rfl⟩
    · exact h.apart i j u u' b r1 r2 q1 q2
    · exact absurd q2 (ha u (List.mem_of_getElem? r1) b q1)
    · exact absurd q1 (ha u' (List.mem_of_getElem? r2) b q2)
    · rfl
end Go.Proofs.Ytmagigmcbegmiaa

/- book.builds. -/
namespace Go.Proofs.Ytmagigmcbegmiaa
open Go.RowKit Go.Lib
set_option linter.unusedVariables false
set_option linter.unusedSimpArgs false
/-- The book and all its lists. -/
structure Bk (base B : Nat) (w : World) (L1 L2 : List Value) (ls1 ls2 : List (List Int)) : Prop where
  h : BkH base w.heap.size B w L1 L2
  l1 : LsO .i64 3 w base L1 ls1
  l2 : LsO .u64 48 w base L2 ls2
theorem OwG.stay {w w' : World} {H : Nat} {va vb vc : Value} {st tl wt : List Int} (h : OwG w H va vb vc st tl wt) (hs : ∀ (b : Nat) (cur : Array Value) (t : TypeId), w.heap[b]? = some (.cells cur t (0, 0)) → t ≠ 22 → t ≠ 23 → t ≠ 56 → w'.heap[b]? = w.heap[b]?) : OwG w' H va vb vc st tl wt :=
  ⟨ownA_stay h.s (fun g hg => let ⟨c, hc⟩ := ownA_type h.s hg; hs g c _ hc (by decide) (by decide) (by decide)), ownA_stay h.t (fun g hg => let ⟨c, hc⟩ := ownA_type h.t hg; hs g c _ hc (by decide) (by decide) (by decide)), ownA_stay h.u (fun g hg => let ⟨c, hc⟩ := ownA_type h.u hg; hs g c _ hc (by decide) (by decide) (by decide)), h.ne, h.len⟩
theorem OwG.below {w w' : World} {H : Nat} {va vb vc : Value} {st tl wt : List Int} (h : OwG w H va vb vc st tl wt) (hb : Below w.heap.size w w') : OwG w' H va vb vc st tl wt := h.stay fun b cur t hc _ _ _ => hb.block b (lt_of_heap hc)
theorem OwG.gis {w : World} {H : Nat} {N : Int} {va vb vc : Value} {st tl wt : List Int} (h : OwG w H va vb vc st tl wt) : GIs w N va vb vc st tl wt := ⟨RowAt.of_owns h.s, RowAt.of_owns h.t, RowAt.of_owns h.u⟩
theorem RowAt.high {k : IntKind} {x y : World} {H : Nat} {v : Value} {xs : List Int} (h : RowAt k x v xs) (hn : NilNew H v) (hk : ∀ j, H ≤ j → j < x.heap.size → y.heap[j]? = x.heap[j]?) : RowAt k y v xs := by
  obtain ⟨ao, c', he, h1, h2, h3, h4⟩ := h
  refine ⟨ao, c', he, h1, h2, h3, fun a ha i hi => ?_⟩
  have h5 := h4 a ha i hi
  rcases hn with rfl | ⟨g, n, c, rfl, hg⟩
  · simp only [Value.slice.injEq] at he
    obtain ⟨rfl, _, _⟩ := he
    cases ha
  · simp only [Value.slice.injEq] at he
    obtain ⟨rfl, _, _⟩ := he
    cases ha
    rw [Addr.add_lit] at h5 ⊢
    have hlt : g < x.heap.size := World.block_lt_of_cell? x _ h5
    simp only [World.cell?] at h5 ⊢
    rw [hk g hg hlt]
    exact h5
theorem BkH.up {base top top' B : Nat} {w : World} {L1 L2 : List Value} (h : BkH base top B w L1 L2) (ht : top ≤ top') : BkH base top' B w L1 L2 := by
  obtain ⟨v1, v2, q1, q2, q3, q4, q5⟩ := h.ex
  exact ⟨⟨v1, v2, q1, q2, q3, fun g hg => Nat.lt_of_lt_of_le (q4 g hg) ht, fun g hg => Nat.lt_of_lt_of_le (q5 g hg) ht⟩, h.le, Nat.lt_of_lt_of_le h.lt ht⟩
theorem LsO.lt {k : IntKind} {e : TypeId} {w : World} {base : Nat} {L : List Value} {ls : List (List Int)} (h : LsO k e w base L ls) {u : Value} (hu : u ∈ L) {g : Nat} (hg : u.ownBlock = some g) : g < w.heap.size := by
  obtain ⟨i, hi⟩ := List.mem_iff_getElem?.mp hu
  have hlt : i < ls.length := by rw [h.len]; exact (List.getElem?_eq_some_iff.mp hi).1
  exact ((h.own i u _ hi (List.getElem?_eq_getElem hlt)).lt g hg).2
/-- The lists of a new graph, put into the book's. -/
theorem Bk.more {base B H : Nat} {w x : World} {L1 L2 : List Value} {ls1 ls2 : List (List Int)} {va vb vc : Value} {st tl wt : List Int} (hk : Bk base B w L1 L2 ls1 ls2) (ho : OwG x H va vb vc st tl wt) (hH : w.heap.size ≤ H) (hb : BkH base x.heap.size B x (L1 ++ [va, vb]) (L2 ++ [vc]))
    (hs : ∀ (b : Nat) (cur : Array Value) (t : TypeId), w.heap[b]? = some (.cells cur t (0, 0)) → t ≠ 22 → t ≠ 23 → t ≠ 56 → x.heap[b]? = w.heap[b]?) : Bk base B x (L1 ++ [va, vb]) (L2 ++ [vc]) (ls1 ++ [st, tl]) (ls2 ++ [wt]) := by
  have hle : base ≤ H := by have := hk.h.le; have := hk.h.lt; omega
  have k1 := hk.l1.stay (w' := x) (fun b cur hc => hs b cur _ hc (by decide) (by decide) (by decide))
  have k2 := hk.l2.stay (w' := x) (fun b cur hc => hs b cur _ hc (by decide) (by decide) (by decide))
  have s1 := k1.snoc (v := va) (l := st) (ownA_base ho.s hle) (fun u hu g hg q => by have := hk.l1.lt hu hg; have := (ho.s.lt g q).1; omega)
  have s2 := s1.snoc (v := vb) (l := tl) (ownA_base ho.t hle) (fun u hu g hg q => by
    rcases List.mem_append.mp hu with hu | hu
    · have := hk.l1.lt hu hg; have := (ho.t.lt g q).1; omega
    · simp at hu; subst hu; exact ho.ne g hg q)
  have s3 := k2.snoc (v := vc) (l := wt) (ownA_base ho.u hle) (fun u hu g hg q => by have := hk.l2.lt hu hg; have := (ho.u.lt g q).1; omega)
  exact ⟨hb, by simpa using s2, s3⟩
set_option maxRecDepth 100000 in
set_option maxHeartbeats 8000000 in
theorem builds_any (base B : Nat) (N : Int) (ev ev' : Value) (l : List Ed3) (L1 L2 : List Value) (w : World) (hk : BkH base w.heap.size B w L1 L2) (hr : EAt w ev l) (hr' : EAt w ev' l) (hlu : ∀ i, i < l.length → 0 ≤ (eAt l i).2.2) (hl1 : L1.length ≤ 900) (hl2 : L2.length ≤ 900) :
    Calls Try.prog 21 #[.pointer (some ⟨B, 0, none⟩), .agg #[.int .i64 N, ev], .agg #[.int .i64 N, ev']] w fun e w' => e = .returned (.bool true) ∧ Hd base w.heap.size w w' ∧ ∃ va vb vc st tl wt, BkH base w'.heap.size B w' (L1 ++ [va, vb]) (L2 ++ [vc]) ∧ (∀ ls1 ls2, LsO .i64 3 w base L1 ls1 → LsO .u64 48 w base L2 ls2 → Bk base B w' (L1 ++ [va, vb]) (L2 ++ [vc]) (ls1 ++ [st, tl]) (ls2 ++ [wt])) ∧ st.length ≤ 1099511627776 ∧ tl.length ≤ 1099511627776 ∧ wt.length ≤ 1099511627776 := by
  obtain ⟨ao, ca, rfl, _⟩ := id hr
  obtain ⟨bo, cb, rfl, _⟩ := id hr'
  obtain ⟨W, hW⟩ : ∃ W, W = (w.alloc (.cells #[.int .i64 N, .slice ao l.length ca] 47)).alloc (.cells #[.int .i64 N, .slice bo l.length cb] 47) := ⟨_, rfl⟩
  have hb1 : Below w.heap.size w (w.alloc (.cells #[.int .i64 N, .slice ao l.length ca] 47)) := (Below.refl _ _).alloc (Nat.le_refl _) _
  have hbW : Below w.heap.size w W := by rw [hW]; exact hb1.alloc hb1.size _
  have hA : W.heap[w.heap.size]? = some (.cells #[.int .i64 N, .slice ao l.length ca] 47 (0, 0)) := by
    rw [hW]; exact (Below.heap_alloc _ _ _ (by simp)).trans (heap_new w _)
  have hB : W.heap[w.heap.size + 1]? = some (.cells #[.int .i64 N, .slice bo l.length cb] 47 (0, 0)) := by
    have := heap_new (w.alloc (.cells #[.int .i64 N, .slice ao l.length ca] 47)) (.cells #[.int .i64 N, .slice bo l.length cb] 47)
    rw [hW]; simpa using this
  have HA := hide hA; have HB := hide hB; have HBW := hide hbW; have HK := hide hk
  have HR' := hide hr'; have HLU := hide hlu
  have a0 := cell_of hA (i := 0) rfl; have a1 := cell_of hA (i := 1) rfl
  have HC := hide (buildX_ans N (.slice ao l.length ca) l W (hr.below hbW) hlu)
  obtain ⟨m, hm⟩ : ∃ m, m = l.length := ⟨_, rfl⟩
  rw [← hm] at a0 a1 HC HA HB HR' hW ⊢
  clear hA hB hbW hb1 hr hr' hlu hk hm
  go_enter Try.func21, Try.ntmps21
  go_wp2_with fail
  rw [← hW]
  clear hW
  refine HC.out.mono ?_
  rintro e w1 ⟨N1, va, vb, vc, st, tl, wt, f, p, rfl, hans, how, hb1⟩
  obtain ⟨ao1, ca1, hva, _⟩ := ownA_shape how.s
  obtain ⟨bo1, cb1, hvb, _⟩ := ownA_shape how.t
  obtain ⟨co1, cc1, hvc, _⟩ := ownA_shape how.u
  subst hva hvb hvc
  obtain ⟨w2, hw2⟩ : ∃ w2, w2 = w1.alloc (.cells #[.int .i64 N1, .slice ao1 st.length ca1, .slice bo1 tl.length cb1, .slice co1 wt.length cc1] 25) := ⟨_, rfl⟩
  have hb2 : Below w1.heap.size w1 w2 := by rw [hw2]; exact (Below.refl _ _).alloc (Nat.le_refl _) _
  have hG2 : w2.heap[w1.heap.size]? = some (.cells #[.int .i64 N1, .slice ao1 st.length ca1, .slice bo1 tl.length cb1, .slice co1 wt.length cc1] 25 (0, 0)) := by rw [hw2]; exact heap_new _ _
  have hBW1 : Below w.heap.size w w1 := HBW.out.trans (hb1.mono HBW.out.size)
  have hBW2 : Below w.heap.size w w2 := hBW1.trans (hb2.mono hBW1.size)
  have hB2 := (hb2.block _ (by have := lt_of_heap HB.out; have := hb1.size; omega)).trans ((hb1.block _ (lt_of_heap HB.out)).trans HB.out)
  have c0 := cell_of hB2 (i := 0) rfl; have c1 := cell_of hB2 (i := 1) rfl
  have HC := hide (buildR_ans N (.slice bo m cb) l w2 (HR'.out.below hBW2) HLU.out)
  have HAN := hide hans; have HOW := hide how; have HB1 := hide hb1; have HB2 := hide hb2; have HG2 := hide hG2; have HBW2 := hide hBW2
  clear hans how hb1 hb2 hG2 hBW1 hBW2 hB2 a0 a1
  rw [hw2] at c0 c1
  unfold gAgg
  go_wp2_with fail
  rw [← hw2]
  clear c0 c1
  refine HC.out.mono ?_
  rintro e w3 ⟨N3, va3, vb3, vc3, st3, tl3, wt3, f3, p3, rfl, hans3, hg3, n1, n2, n3, hb3⟩
  obtain ⟨rfl, rfl, rfl, rfl, rfl, rfl⟩ := HAN.out.one hans3
  obtain ⟨ao3, ca3, rfl⟩ := hg3.s.shape
  obtain ⟨bo3, cb3, rfl⟩ := hg3.t.shape
  obtain ⟨co3, cc3, rfl⟩ := hg3.u.shape
  obtain ⟨w4, hw4⟩ : ∃ w4, w4 = w3.alloc (.cells #[.int .i64 N1, .slice ao3 st.length ca3, .slice bo3 tl.length cb3, .slice co3 wt.length cc3] 25) := ⟨_, rfl⟩
  have hb4 : Below w3.heap.size w3 w4 := by rw [hw4]; exact (Below.refl _ _).alloc (Nat.le_refl _) _
  have hG4 : w4.heap[w3.heap.size]? = some (.cells #[.int .i64 N1, .slice ao3 st.length ca3, .slice bo3 tl.length cb3, .slice co3 wt.length cc3] 25 (0, 0)) := by rw [hw4]; exact heap_new _ _
  have hb24 : Below w2.heap.size w2 w4 := hb3.trans (hb4.mono hb3.size)
  have hG24 : w4.heap[w1.heap.size]? = some (.cells #[.int .i64 N1, .slice ao1 st.length ca1, .slice bo1 tl.length cb1, .slice co1 wt.length cc1] 25 (0, 0)) := (hb24.block _ (lt_of_heap HG2.out)).trans HG2.out
  have hBW4 : Below w.heap.size w w4 := HBW2.out.trans (hb24.mono HBW2.out.size)
  have d0 := cell_of hG24 (i := 0) rfl; have d1 := cell_of hG24 (i := 1) rfl; have d2 := cell_of hG24 (i := 2) rfl; have d3 := cell_of hG24 (i := 3) rfl
  have HG3 := hide (hg3.below hb4); have HG4 := hide hG4; have HG24 := hide hG24; have HBW4 := hide hBW4; have HB24 := hide hb24
  have HN1 := hide n1; have HN2 := hide n2; have HN3 := hide n3
  have HC2 := hide (bookGraph_any base w.heap.size B N1 ao1 bo1 co1 st.length ca1 tl.length cb1 wt.length cc1 L1 L2 w4 (HK.out.below hBW4) (by omega) (by omega))
  clear hb3 hb4 hG4 hb24 hG24 hBW4 hg3 n1 n2 n3 hans3 HC
  rw [hw4] at d0 d1 d2 d3
  unfold gAgg at HC2 ⊢
  go_wp2_with fail
  rw [← hw4]
  clear d0 d1 d2 d3
  refine HC2.out.mono ?_
  rintro e w5 ⟨rfl, hbk, hhd⟩
  have e0 := (hhd.keep _ _ _ HG24.out (by decide) (by decide) (by decide)).trans HG24.out
  have e4 := (hhd.keep _ _ _ HG4.out (by decide) (by decide) (by decide)).trans HG4.out
  have HBK := hide hbk; have HHD := hide hhd
  have d0 := cell_of e0 (i := 0) rfl; have d1 := cell_of e0 (i := 1) rfl; have d2 := cell_of e0 (i := 2) rfl; have d3 := cell_of e0 (i := 3) rfl
  have g0 := cell_of e4 (i := 0) rfl; have g1 := cell_of e4 (i := 1) rfl; have g2 := cell_of e4 (i := 2) rfl; have g3 := cell_of e4 (i := 3) rfl
  clear hbk hhd e0 e4 HC2
  have hw24 := HB24.out.size
  have hw12 := HB2.out.size
  have hwW := HBW.out.size
  have hwW1 := HB1.out.size
  have how4 := (HOW.out.below HB2.out).below HB24.out
  have how5 := how4.stay HHD.out.keep
  have HO5 := hide how5
  have hgr : GIs w5 N1 (.slice ao3 st.length ca3) (.slice bo3 tl.length cb3) (.slice co3 wt.length cc3) st tl wt := ⟨HG3.out.s.high HN1.out (fun j h1 h2 => HHD.out.high j (by omega) h2), HG3.out.t.high HN2.out (fun j h1 h2 => HHD.out.high j (by omega) h2), HG3.out.u.high HN3.out (fun j h1 h2 => HHD.out.high j (by omega) h2)⟩
  have HS := hide (sameG_any N1 _ _ _ _ _ _ st tl wt w5 how5.gis hgr (by have := how5.len.2.2; omega))
  unfold gAgg at HS
  clear how4 how5 hgr hw24 hw12 hwW hwW1
  go_wp2_with fail
  refine HS.out.mono ?_
  rintro e w6 ⟨rfl, hb6⟩
  have HB6 := hide hb6
  clear hb6 d0 d1 d2 d3 g0 g1 g2 g3 HS
  go_wp2_with fail
  refine (no_any f _).mono ?_
  rintro e w7 ⟨rfl, rfl⟩
  go_wp2_with fail
  go_ret
  have hbs : base ≤ w.heap.size := by have := HK.out.le; have := HK.out.lt; omega
  have hbs4 : base ≤ w4.heap.size := by have := HBW4.out.size; omega
  have hbs5 : base ≤ w5.heap.size := by have := HHD.out.size; omega
  have hd : Hd base w.heap.size w _ := ((Hd.of_below hbs HBW4.out).trans HHD.out).trans (Hd.of_below hbs5 HB6.out)
  exact ⟨rfl, hd, _, _, _, st, tl, wt, (HBK.out.below HB6.out).up HB6.out.size, fun ls1 ls2 q1 q2 => (Bk.mk HK.out q1 q2).more (HO5.out.below HB6.out) HBW.out.size ((HBK.out.below HB6.out).up HB6.out.size) hd.keep, HO5.out.len⟩
theorem Hd.low_below {base top : Nat} {w w' : World} (h : Hd base top w w') : Below base w w' := ⟨h.os, h.tape, h.output, h.size, fun k hk => h.low k hk⟩
theorem LsO.ge {k : IntKind} {e : TypeId} {w : World} {base : Nat} {L : List Value} {ls : List (List Int)} (h : LsO k e w base L ls) {u : Value} (hu : u ∈ L) {g : Nat} (hg : u.ownBlock = some g) : base ≤ g := by
  obtain ⟨i, hi⟩ := List.mem_iff_getElem?.mp hu
  have hlt : i < ls.length := by rw [h.len]; exact (List.getElem?_eq_some_iff.mp hi).1
  exact ((h.own i u _ hi (List.getElem?_eq_getElem hlt)).lt g hg).1
/-- Behind apart: all below base stays, and the book. -/
theorem Bk.apart {base B : Nat} {w w' : World} {L1 L2 : List Value} {ls1 ls2 : List (List Int)} (h : Bk base B w L1 L2 ls1 ls2) (hf : Ft (L1 ++ L2) w w') : BkH base w'.heap.size B w' L1 L2 ∧ Below base w w' := by
  have hne : ∀ (b : Nat) (cur : Array Value) (t : TypeId), w.heap[b]? = some (.cells cur t (0, 0)) → t ≠ 3 → t ≠ 48 → w'.heap[b]? = w.heap[b]? := fun b cur t hc h3 h48 => by
    refine hf.block b (lt_of_heap hc) (fun u hu q => ?_)
    rcases List.mem_append.mp hu with hu | hu <;> obtain ⟨i, hi⟩ := List.mem_iff_getElem?.mp hu
    · have hlt : i < ls1.length := by rw [h.l1.len]; exact (List.getElem?_eq_some_iff.mp hi).1
      obtain ⟨c, hc'⟩ := ownA_type (h.l1.own i u _ hi (List.getElem?_eq_getElem hlt)) q
      rw [hc] at hc'; cases hc'; exact h3 rfl
    · have hlt : i < ls2.length := by rw [h.l2.len]; exact (List.getElem?_eq_some_iff.mp hi).1
      obtain ⟨c, hc'⟩ := ownA_type (h.l2.own i u _ hi (List.getElem?_eq_getElem hlt)) q
      rw [hc] at hc'; cases hc'; exact h48 rfl
  obtain ⟨v1, v2, q1, q2, q3, q4, q5⟩ := h.h.ex
  refine ⟨⟨⟨v1, v2, (hne B _ _ q1 (by decide) (by decide)).trans q1, ownA_stay q2 (fun g hg => let ⟨c, hc⟩ := ownA_type q2 hg; hne g c _ hc (by decide) (by decide)), ownA_stay q3 (fun g hg => let ⟨c, hc⟩ := ownA_type q3 hg; hne g c _ hc (by decide) (by decide)), fun g hg => Nat.lt_of_lt_of_le (q4 g hg) hf.size, fun g hg => Nat.lt_of_lt_of_le (q5 g hg) hf.size⟩, h.h.le, Nat.lt_of_lt_of_le h.h.lt hf.size⟩, ⟨hf.os, hf.tape, hf.output, hf.size, fun k hk => hf.block k (by have := h.h.le; have := h.h.lt; omega) (fun u hu q => ?_)⟩⟩
  rcases List.mem_append.mp hu with hu | hu
  · have := h.l1.ge hu q; omega
  · have := h.l2.ge hu q; omega
end Go.Proofs.Ytmagigmcbegmiaa

/- 'append([]api.Edge{}, l...)'. -/
namespace Go.Proofs.Ytmagigmcbegmiaa
open Go.RowKit Go.Lib
set_option linter.unusedVariables false
set_option linter.unusedSimpArgs false
theorem EAt.cellsH {w : World} {ad : Addr} {c : Nat} {l : List Ed3} (h : EAt w (.slice (some ad) l.length c) l) : ∀ j u, (eCells l)[j]? = some u → w.cell? (ad.add j) = some u := by
  intro j u hu
  have hj : j < l.length * 3 := by rw [← eCells_length]; exact (List.getElem?_eq_some_iff.mp hu).1
  obtain ⟨ao, c', he, _, _, h3⟩ := h
  simp only [Value.slice.injEq] at he
  obtain ⟨rfl, _, _⟩ := he
  obtain ⟨g, o, hg, p, q, r⟩ := h3 (j / 3) (by omega)
  cases hg
  obtain ⟨e0, e1, e2⟩ := eCells_at l (j / 3) (by omega)
  rw [Addr.add_lit]
  have hm : j % 3 = 0 ∨ j % 3 = 1 ∨ j % 3 = 2 := by omega
  rcases hm with hm | hm | hm
  · have : j = j / 3 * 3 := by omega
    rw [this] at hu ⊢
    rw [e0] at hu; cases hu; exact p
  · have : j = j / 3 * 3 + 1 := by omega
    rw [this] at hu ⊢
    rw [e1] at hu; cases hu; rw [← Nat.add_assoc]; exact q
  · have : j = j / 3 * 3 + 2 := by omega
    rw [this] at hu ⊢
    rw [e2] at hu; cases hu; rw [← Nat.add_assoc]; exact r
theorem wpList_freshE {w : World} {ops : Array Oper} {rest : List Oper} {o : Oper} {a : Act} {Q : Exit → Act → World → Prop} (hgd : o.guard = none) (s x : Operand)
    (hop : o.op = .call { callee := .builtin .append, args := #[s, x], argTypes := #[45, 45] })
    (B fr : Nat) (hB : w.ownsRow fr 50 3 (.slice (some ⟨B, 0, none⟩) 0 0) 0 []) (hfr : fr ≤ w.heap.size) (xv : Value) (l : List Ed3) (hs : a.eval s = .slice (some ⟨B, 0, none⟩) 0 0) (hx : a.eval x = xv) (hrow : EAt w xv l) (hb : l.length * 24 ≤ 140737488355328)
    (h : ∀ v' w', w'.ownsRow fr 50 3 v' l.length (eCells l) → Below w.heap.size w w' → wpList Try.prog ops Q rest (a.put o.dst v') w') : wpList Try.prog ops Q (o :: rest) a w := by
  obtain ⟨i, hi, hz, hsize, hby⟩ := info_parts3 Try.info50'
  refine wpList_plain hgd fun K hK => ?_
  obtain ⟨xo, c, rfl, h1, h2, h3⟩ := id hrow
  rcases Nat.eq_zero_or_pos l.length with h0 | h0
  · obtain rfl : l = [] := List.eq_nil_of_length_eq_zero h0
    have hsrc : Src Try.prog i.size 45 (.slice xo 0 c) 0 [] w := by
      cases xo with
      | none => exact Src.ofNil w Try.underlying45 c
      | some a => exact Src.ofSlice w Try.underlying45 a 0 c [] (by simp) (fun j u h => by simp at h) (by simp)
    have hrun := run_append_nothing w 45 45 o.type 50 i Try.underlying45 hi (some ⟨B, 0, none⟩) 0 0 (Nat.le_refl _) _ hsrc
    have hx' : a.eval x = .slice xo 0 c := hx
    unfold Oper.wp
    simp [execOp, hop, resolve, invoke, builtin, hs, hx', hrun, Result.andThen]
    exact hK _ _ (h _ _ (by simpa [eCells] using hB) (Below.refl _ _))
  · obtain ⟨g, o', rfl, _⟩ := h3 0 h0
    obtain ⟨v', w', hrun, hown, hgrow⟩ := run_append_arg_grows (P := Try.prog) (w := w) 45 o.type 50 i (.agg #[.int .i64 0, .int .i64 0, .int .u64 0]) 3 24 Try.underlying45 hi hz hsize hby rfl (by decide) ⟨B, 0, none⟩ 0 0 [] rfl (fun j u h => by simp at h) ⟨g, o', none⟩ l.length c (eCells l) (eCells_length l) hrow.cellsH (by omega) (by unfold maxLen; omega) (by rw [Nat.zero_add]; exact hb)
    simp only [Nat.zero_add, List.nil_append] at hown
    have hbel : Below w.heap.size w w' := (Below.refl _ _).grown hgrow (Nat.le_refl _) (by intro j hj; cases hj)
    unfold Oper.wp
    simp [execOp, hop, resolve, invoke, builtin, hs, hx, hrun, Result.andThen]
    refine hK _ _ (h _ _ ?_ hbel)
    exact ownA_base hown hfr
end Go.Proofs.Ytmagigmcbegmiaa

/- GraphBuilds: one call after the other. -/
namespace Go.Proofs.Ytmagigmcbegmiaa
open Go.RowKit Go.Lib
set_option linter.unusedVariables false
set_option linter.unusedSimpArgs false
/-- A book with nothing in it. -/
theorem bk_new (x : World) : Bk x.heap.size x.heap.size (x.alloc (.cells #[.slice none 0 0, .slice none 0 0, .slice none 0 0] 56)) [] [] [] [] := by
  refine ⟨⟨⟨.slice none 0 0, .slice none 0 0, heap_new _ _, World.ownsRow_nil _ _ _ _, World.ownsRow_nil _ _ _ _, fun g q => (by cases q), fun g q => (by cases q)⟩, Nat.le_refl _, by simp⟩, ⟨rfl, fun i v l h => (by simp at h), fun i j u v b h => (by simp at h)⟩, ⟨rfl, fun i v l h => (by simp at h), fun i j u v b h => (by simp at h)⟩⟩
/-- The book behind k calls; all below it is as it was. -/
structure BS (B : Nat) (X0 y : World) (k : Nat) : Prop where
  ex : ∃ L1 L2 ls1 ls2, Bk B B y L1 L2 ls1 ls2 ∧ L1.length = 2 * k ∧ L2.length = k ∧ (∀ l ∈ ls1, l.length ≤ 1099511627776) ∧ (∀ l ∈ ls2, l.length ≤ 1099511627776)
  bel : Below B X0 y
theorem BS.start (x : World) : BS x.heap.size x (x.alloc (.cells #[.slice none 0 0, .slice none 0 0, .slice none 0 0] 56)) 0 :=
  ⟨⟨[], [], [], [], bk_new x, rfl, rfl, by simp, by simp⟩, below_alloc (Below.refl _ _) _⟩
theorem nsL_all {ls : List (List Int)} {K : Nat} (h : ∀ l ∈ ls, l.length ≤ K) (p : Nat) : nsL ls p ≤ K := by
  unfold nsL
  cases q : ls[p]? with
  | none => simp
  | some l => simpa using h l (List.mem_of_getElem? q)
theorem BS.step {B k : Nat} {X0 y : World} {N : Int} {ev ev' : Value} {l : List Ed3} (h : BS B X0 y k) (hk : k ≤ 400) (hB : B = X0.heap.size) (h1 : EAt X0 ev l) (h2 : EAt X0 ev' l) (hlu : ∀ i, i < l.length → 0 ≤ (eAt l i).2.2) :
    Calls Try.prog 21 #[.pointer (some ⟨B, 0, none⟩), .agg #[.int .i64 N, ev], .agg #[.int .i64 N, ev']] y fun e y' => e = .returned (.bool true) ∧ BS B X0 y' (k + 1) := by
  obtain ⟨L1, L2, ls1, ls2, hb, e1, e2, q1, q2⟩ := h.ex
  have hbel : Below X0.heap.size X0 y := by rw [← hB]; exact h.bel
  refine (builds_any B B N ev ev' l L1 L2 y hb.h (h1.below hbel) (h2.below hbel) hlu (by omega) (by omega)).mono ?_
  rintro e w' ⟨rfl, hd, va, vb, vc, st, tl, wt, _, hbk, n1, n2, n3⟩
  refine ⟨rfl, ⟨L1 ++ [va, vb], L2 ++ [vc], ls1 ++ [st, tl], ls2 ++ [wt], hbk ls1 ls2 hb.l1 hb.l2, by simp; omega, by simp; omega, fun m hm => ?_, fun m hm => ?_⟩, h.bel.trans hd.low_below⟩
  · simp only [List.mem_append, List.mem_cons, List.not_mem_nil, or_false] at hm
    rcases hm with hm | rfl | rfl
    · exact q1 m hm
    · exact n1
    · exact n2
  · simp only [List.mem_append, List.mem_cons, List.not_mem_nil, or_false] at hm
    rcases hm with hm | rfl
    · exact q2 m hm
    · exact n3
/-- The book behind apart. -/
structure BT (B : Nat) (X0 y : World) (k : Nat) : Prop where
  ex : ∃ L1 L2, BkH B y.heap.size B y L1 L2 ∧ L1.length = 2 * k ∧ L2.length = k
  bel : Below B X0 y
theorem BS.apart {B k : Nat} {X0 y : World} (h : BS B X0 y k) (hk : k ≤ 400) : Calls Try.prog 22 #[.pointer (some ⟨B, 0, none⟩)] y fun e y' => e = .returned (.bool true) ∧ BT B X0 y' k := by
  obtain ⟨L1, L2, ls1, ls2, hb, e1, e2, q1, q2⟩ := h.ex
  refine (apart_any B y.heap.size B L1 L2 ls1 ls2 y hb.h hb.l1 hb.l2 (by omega) (by omega) (nsL_all q1) (nsL_all q2)).mono ?_
  rintro e w' ⟨rfl, hf⟩
  obtain ⟨p1, p2⟩ := hb.apart hf
  exact ⟨rfl, ⟨L1, L2, p1, e1, e2⟩, h.bel.trans p2⟩
/-- A last call, behind apart: whatever lies there now. -/
theorem BkH.step {B : Nat} {y : World} {L1 L2 : List Value} {N : Int} {ev ev' : Value} {l : List Ed3} (h : BkH B y.heap.size B y L1 L2) (hl1 : L1.length ≤ 900) (hl2 : L2.length ≤ 900) (h1 : EAt y ev l) (h2 : EAt y ev' l) (hlu : ∀ i, i < l.length → 0 ≤ (eAt l i).2.2) :
    Calls Try.prog 21 #[.pointer (some ⟨B, 0, none⟩), .agg #[.int .i64 N, ev], .agg #[.int .i64 N, ev']] y fun e y' => e = .returned (.bool true) ∧ Below B y y' ∧ ∀ (b : Nat) (cur : Array Value), y.heap[b]? = some (.cells cur 50 (0, 0)) → y'.heap[b]? = y.heap[b]? := by
  refine (builds_any B B N ev ev' l L1 L2 y h h1 h2 hlu hl1 hl2).mono ?_
  rintro e w' ⟨rfl, hd, _⟩
  exact ⟨rfl, hd.low_below, fun b cur hc => hd.keep b cur 50 hc (by decide) (by decide) (by decide)⟩
theorem own_full {w : World} {base g n cap : Nat} {l : List Ed3} (h : w.ownsRow base 50 3 (.slice (some ⟨g, 0, none⟩) (n + 2) cap) (n + 2) (eCells l ++ [.int .i64 (-71), .int .i64 0, .int .u64 0, .int .i64 (-72), .int .i64 0, .int .u64 0])) (hn : n = l.length) : EAt w (.slice (some ⟨g, 0, none⟩) (n + 2) cap) (l ++ [(-71, 0, 0), (-72, 0, 0)]) := by
  have e : (l ++ [((-71 : Int), (0 : Int), (0 : Int)), (-72, 0, 0)]).length = n + 2 := by simp [hn]
  have := EAt.of_owns (w := w) (B := base) (v := .slice (some ⟨g, 0, none⟩) (n + 2) cap) (l := l ++ [(-71, 0, 0), (-72, 0, 0)]) (by rw [e]; simpa [eCells] using h)
  exact this
end Go.Proofs.Ytmagigmcbegmiaa

/- GraphBuilds: the list whose weights are halved in place. -/
namespace Go.Proofs.Ytmagigmcbegmiaa
open Go.RowKit Go.Lib
set_option linter.unusedVariables false
set_option linter.unusedSimpArgs false
/-- An edge with half its weight. -/
def hf1 (x : Ed3) : Ed3 := (x.1, x.2.1, x.2.2 / 2)
/-- The first k halved. -/
def hvL (l : List Ed3) (k : Nat) : List Ed3 := (l.take k).map hf1 ++ l.drop k
theorem hvL_zero (l : List Ed3) : hvL l 0 = l := by simp [hvL]
theorem hvL_length (l : List Ed3) (k : Nat) : (hvL l k).length = l.length := by simp [hvL]; omega
theorem hvL_get (l : List Ed3) (k i : Nat) : (hvL l k)[i]? = if i < k then l[i]?.map hf1 else l[i]? := by
  unfold hvL
  by_cases hi : i < k
  · rw [if_pos hi]
    by_cases hl : i < l.length
    · rw [List.getElem?_append_left (by simp; omega), List.getElem?_map, List.getElem?_take_of_lt hi]
    · rw [List.getElem?_eq_none (by simp; omega), List.getElem?_eq_none (by omega)]; rfl
  · rw [if_neg hi]
    by_cases hk : k ≤ l.length
    · rw [List.getElem?_append_right (by simp; omega), List.getElem?_drop]
      congr 1
      simp; omega
    · rw [List.getElem?_eq_none (by simp; omega), List.getElem?_eq_none (by omega)]
theorem hvL_step (l : List Ed3) (k : Nat) (hk : k < l.length) (m : List Ed3) : (hvL l k ++ m).set k (hf1 (eAt l k)) = hvL l (k + 1) ++ m := by
  rw [List.set_append_left _ _ (by rw [hvL_length]; exact hk)]
  congr 1
  apply List.ext_getElem?
  intro i
  rw [hvL_get, List.getElem?_set, hvL_get, hvL_length]
  by_cases e : k = i
  · subst e
    rw [if_pos rfl, if_pos hk, if_pos (by omega)]
    unfold eAt
    rw [List.getElem?_eq_getElem hk]
    rfl
  · rw [if_neg e]
    by_cases h1 : i < k
    · rw [if_pos h1, if_pos (by omega)]
    · rw [if_neg h1, if_neg (by omega)]
theorem hvL_at (l : List Ed3) (k : Nat) (hk : k < l.length) (m : List Ed3) : eAt (hvL l k ++ m) k = eAt l k := by
  unfold eAt
  rw [List.getElem?_append_left (by rw [hvL_length]; exact hk), hvL_get, if_neg (by omega)]
theorem hvL_nn (l : List Ed3) (k : Nat) (h : ∀ i, i < l.length → 0 ≤ (eAt l i).2.2) : ∀ i, i < (hvL l k).length → 0 ≤ (eAt (hvL l k) i).2.2 := by
  intro i hi
  rw [hvL_length] at hi
  have hq := h i hi
  unfold eAt at hq ⊢
  rw [hvL_get]
  rw [List.getElem?_eq_getElem hi] at hq ⊢
  split
  · simp [hf1] at hq ⊢; omega
  · exact hq
/-- Edges at the head of a block. -/
def FA (w : World) (g : Nat) (L : List Ed3) : Prop := ∃ T : List Value, w.heap[g]? = some (.cells (eCells L ++ T).toArray 50 (0, 0))
theorem FA.of_owns {w : World} {base g m cap : Nat} {L : List Ed3} (h : w.ownsRow base 50 3 (.slice (some ⟨g, 0, none⟩) m cap) m (eCells L)) : FA w g L ∧ base ≤ g := by
  obtain ⟨h0, ⟨hv, _⟩ | ⟨g', cap', cur, hv, hg, hb, h1, h2, h3, h4⟩⟩ := h
  · cases hv
  · simp only [Value.slice.injEq, Option.some.injEq, Addr.mk.injEq] at hv
    obtain ⟨⟨rfl, _, _⟩, _, rfl⟩ := hv
    refine ⟨⟨cur.toList.drop (m * 3), ?_⟩, hg⟩
    rw [hb, ← h4, List.take_append_drop]
theorem FA.get {L : List Ed3} {T : List Value} {i : Nat} (hi : i < L.length) : (eCells L ++ T)[i * 3]? = some (.int .i64 (eAt L i).1) ∧ (eCells L ++ T)[i * 3 + 1]? = some (.int .i64 (eAt L i).2.1) ∧ (eCells L ++ T)[i * 3 + 2]? = some (.int .u64 (eAt L i).2.2) := by
  obtain ⟨p, q, r⟩ := eCells_at L i hi
  have hl := eCells_length L
  refine ⟨?_, ?_, ?_⟩
  · rw [List.getElem?_append_left (by rw [hl]; omega)]; exact p
  · rw [List.getElem?_append_left (by rw [hl]; omega)]; exact q
  · rw [List.getElem?_append_left (by rw [hl]; omega)]; exact r
theorem FA.cell {w : World} {g : Nat} {L : List Ed3} (h : FA w g L) {i : Nat} (hi : i < L.length) : w.cell? ⟨g, i * 3, none⟩ = some (.int .i64 (eAt L i).1) ∧ w.cell? ⟨g, i * 3 + 1, none⟩ = some (.int .i64 (eAt L i).2.1) ∧ w.cell? ⟨g, i * 3 + 2, none⟩ = some (.int .u64 (eAt L i).2.2) := by
  obtain ⟨T, h⟩ := h
  obtain ⟨p, q, r⟩ := FA.get (T := T) hi
  exact ⟨cell_of h (by simpa using p), cell_of h (by simpa using q), cell_of h (by simpa using r)⟩
theorem FA.free {w : World} {g : Nat} {L : List Ed3} (h : FA w g L) (i : Nat) : w.frozen? ⟨g, i, none⟩ = false := by
  obtain ⟨T, h⟩ := h
  exact free_of h i
theorem FA.lt {w : World} {g : Nat} {L : List Ed3} (h : FA w g L) : g < w.heap.size := by
  obtain ⟨T, h⟩ := h
  exact lt_of_heap h
theorem FA.below {w w' : World} {g : Nat} {L : List Ed3} (h : FA w g L) (k : Below w.heap.size w w') : FA w' g L := by
  have hl := h.lt
  obtain ⟨T, h⟩ := h
  exact ⟨T, (k.block g hl).trans h⟩
theorem FA.eat {w : World} {g m c : Nat} {L l : List Ed3} (h : FA w g (l ++ L)) (hm : l.length = m) (hc : m ≤ c) (h63 : c ≤ 9223372036854775807) : EAt w (.slice (some ⟨g, 0, none⟩) m c) l := by
  refine ⟨some ⟨g, 0, none⟩, c, by rw [hm], by omega, h63, fun i hi => ⟨g, 0, rfl, ?_⟩⟩
  have he : eAt (l ++ L) i = eAt l i := by
    unfold eAt; rw [List.getElem?_append_left hi]
  have := h.cell (i := i) (by simp; omega)
  rw [he] at this
  rw [Nat.zero_add]
  exact this
theorem FA.half {w : World} {g : Nat} {L : List Ed3} (h : FA w g L) {i : Nat} (hi : i < L.length) (c : Int) : FA (w.setCell ⟨g, i * 3 + 2, none⟩ (.int .u64 c)) g (L.set i ((eAt L i).1, (eAt L i).2.1, c)) := by
  obtain ⟨T, h⟩ := h
  refine ⟨T, ?_⟩
  obtain ⟨p, q, _⟩ := eCells_at L i hi
  have hl := eCells_length L
  have e1 : (eCells L).set (i * 3) (.int .i64 (eAt L i).1) = eCells L := by
    apply List.ext_getElem?
    intro j
    rw [List.getElem?_set]
    split
    · rename_i e; subst e; rw [if_pos (by rw [hl]; omega), p]
    · rfl
  have e2 : (eCells L).set (i * 3 + 1) (.int .i64 (eAt L i).2.1) = eCells L := by
    apply List.ext_getElem?
    intro j
    rw [List.getElem?_set]
    split
    · rename_i e; subst e; rw [if_pos (by rw [hl]; omega), q]
    · rfl
  rw [heap_set h _, ← eCells_set L i hi]
  simp only [e1, e2]
  rw [List.setIfInBounds_toArray, List.set_append_left _ _ (by rw [hl]; omega)]
theorem BkH.chg {base top B g : Nat} {w w' : World} {L1 L2 : List Value} {L : List Ed3} (h : BkH base top B w L1 L2) (hf : FA w g L) (hc : Chg (fun b => b = g) w w') : BkH base top B w' L1 L2 := by
  obtain ⟨v1, v2, h1, h2, h3, h4⟩ := h.ex
  obtain ⟨T, hT⟩ := hf
  have key : ∀ (b : Nat) (cur : Array Value) (t : TypeId), w.heap[b]? = some (.cells cur t (0, 0)) → t ≠ 50 → w'.heap[b]? = w.heap[b]? := fun b cur t hb ht => by
    rw [hb]
    exact hc.heap hb (by rintro rfl; rw [hT] at hb; cases hb; exact ht rfl)
  exact ⟨⟨v1, v2, (key _ _ _ h1 (by decide)).trans h1, ownA_stay h2 (fun b hb => let ⟨c, hc⟩ := ownA_type h2 hb; key b c _ hc (by decide)), ownA_stay h3 (fun b hb => let ⟨c, hc⟩ := ownA_type h3 hb; key b c _ hc (by decide)), h4⟩, h.le, h.lt⟩
end Go.Proofs.Ytmagigmcbegmiaa
