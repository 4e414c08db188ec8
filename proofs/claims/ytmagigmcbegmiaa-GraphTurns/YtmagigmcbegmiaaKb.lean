/- The book with lists of edges. -/
import Derived.Test.YtmagigmcbegmiaaKe
import Derived.Deep.Cut
import Derived.Deep.CutRange
namespace Go.Proofs.Ytmagigmcbegmiaa
open Go.RowKit Go.Lib
set_option linter.unusedVariables false
set_option linter.unusedSimpArgs false
/-- What putting lists into the book may turn: the book, and its rows of lists. -/
structure HdE (base top : Nat) (w w' : World) : Prop where
  os : w'.os = w.os
  tape : w'.tape = w.tape
  output : w'.output = w.output
  size : w.heap.size ≤ w'.heap.size
  keep : ∀ (k : Nat) (cur : Array Value) (t : TypeId), w.heap[k]? = some (.cells cur t (0, 0)) → t ≠ 22 → t ≠ 23 → t ≠ 45 → t ≠ 56 → w'.heap[k]? = w.heap[k]?
  low : ∀ k, k < base → w'.heap[k]? = w.heap[k]?
theorem HdE.refl (base top : Nat) (w : World) : HdE base top w w := ⟨rfl, rfl, rfl, Nat.le_refl _, fun _ _ _ _ _ _ _ _ => rfl, fun _ _ => rfl⟩
theorem HdE.trans {base top : Nat} {w w' w'' : World} (h : HdE base top w w') (k : HdE base top w' w'') : HdE base top w w'' :=
  ⟨k.os.trans h.os, k.tape.trans h.tape, k.output.trans h.output, Nat.le_trans h.size k.size, fun b cur t h1 h2 h3 h4 h5 => (k.keep b cur t ((h.keep b cur t h1 h2 h3 h4 h5).trans h1) h2 h3 h4 h5).trans (h.keep b cur t h1 h2 h3 h4 h5), fun b hb => (k.low b hb).trans (h.low b hb)⟩
theorem HdE.of_below {base top : Nat} {w w' : World} (hb : base ≤ w.heap.size) (h : Below w.heap.size w w') : HdE base top w w' :=
  ⟨h.os, h.tape, h.output, h.size, fun k cur t h1 _ _ _ _ => h.block k (lt_of_heap h1), fun k hk => h.block k (by omega)⟩
theorem HdE.low_below {base top : Nat} {w w' : World} (h : HdE base top w w') : Below base w w' := ⟨h.os, h.tape, h.output, h.size, h.low⟩
/-- The book in memory. -/
structure BkE (base B : Nat) (w : World) (L1 L2 L3 : List Value) : Prop where
  ex : ∃ v1 v2 v3, w.heap[B]? = some (.cells #[v1, v2, v3] 56 (0, 0)) ∧ w.ownsRow base 22 1 v1 L1.length L1 ∧ w.ownsRow base 23 1 v2 L2.length L2 ∧ w.ownsRow base 45 1 v3 L3.length L3
  le : base ≤ B
theorem BkE.below {base B : Nat} {w w' : World} {L1 L2 L3 : List Value} (h : BkE base B w L1 L2 L3) (hb : Below w.heap.size w w') : BkE base B w' L1 L2 L3 := by
  obtain ⟨v1, v2, v3, h1, h2, h3, h4⟩ := h.ex
  exact ⟨⟨v1, v2, v3, (hb.block _ (lt_of_heap h1)).trans h1, ownA_stay h2 (fun g hg => hb.block g (h2.lt g hg).2), ownA_stay h3 (fun g hg => hb.block g (h3.lt g hg).2), ownA_stay h4 (fun g hg => hb.block g (h4.lt g hg).2)⟩, h.le⟩
theorem BkE.lt {base B : Nat} {w : World} {L1 L2 L3 : List Value} (h : BkE base B w L1 L2 L3) : B < w.heap.size := by
  obtain ⟨v1, v2, v3, h1, _⟩ := h.ex
  exact lt_of_heap h1
/-- A store of the grown row into the book. -/
theorem hdE_put {base top B i : Nat} {w w' : World} {u v x0 x1 x2 : Value} {t : TypeId} {n : Nat} {xs : List Value} (hB : w.heap[B]? = some (.cells #[x0, x1, x2] 56 (0, 0))) (hle : base ≤ B) (hu : w.ownsRow base t 1 u n xs) (ht : t = 22 ∨ t = 23 ∨ t = 45) (hg : w.grownBy w' u.ownBlock) : HdE base top w (w'.setCell ⟨B, i, none⟩ v) := by
  have hne : ∀ k, k ≠ B → (w'.setCell ⟨B, i, none⟩ v).heap[k]? = w'.heap[k]? := fun k hk => by simp [World.setCell, Array.getElem?_modify, Ne.symm hk]
  refine ⟨hg.os, hg.tape, hg.output, by simpa [World.setCell] using hg.size, fun k cur t' h1 h2 h3 h4 h5 => ?_, fun k hk => ?_⟩
  · have hkB : k ≠ B := by rintro rfl; rw [hB] at h1; cases h1; exact h5 rfl
    rw [hne k hkB]
    refine hg.block k (lt_of_heap h1) (fun q => ?_)
    obtain ⟨c, hc⟩ := ownA_type hu q.symm
    rw [h1] at hc; cases hc
    rcases ht with rfl | rfl | rfl
    · exact h2 rfl
    · exact h3 rfl
    · exact h4 rfl
  · rw [hne k (by omega)]
    by_cases hks : k < w.heap.size
    · refine hg.block k hks (fun q => ?_)
      have := (hu.lt k q.symm).1
      omega
    · have := lt_of_heap hB
      omega
/-- What stands behind one append and its store. -/
structure AfE (base B : Nat) (W : World) (v1 v2 v3 : Value) (L1 L2 L3 : List Value) (w' : World) : Prop where
  book : w'.heap[B]? = some (.cells #[v1, v2, v3] 56 (0, 0))
  o1 : w'.ownsRow base 22 1 v1 L1.length L1
  o2 : w'.ownsRow base 23 1 v2 L2.length L2
  o3 : w'.ownsRow base 45 1 v3 L3.length L3
  hd : HdE base 0 W w'
theorem AfE.box {base B X : Nat} {W w' : World} {v1 v2 v3 : Value} {L1 L2 L3 : List Value} {xs : Array Value} {t : TypeId} (h : AfE base B W v1 v2 v3 L1 L2 L3 w') (hx : W.heap[X]? = some (.cells xs t (0, 0))) (h2 : t ≠ 22) (h3 : t ≠ 23) (h4 : t ≠ 45) (h5 : t ≠ 56) : w'.heap[X]? = some (.cells xs t (0, 0)) := (h.hd.keep X xs t hx h2 h3 h4 h5).trans hx
theorem own_setB {w2 : World} {base B i n : Nat} {t : TypeId} {u v : Value} {ys : List Value} {cs : Array Value} (hu : w2.ownsRow base t 1 u n ys) (hB : w2.heap[B]? = some (.cells cs 56 (0, 0))) (ht : t ≠ 56) : (w2.setCell ⟨B, i, none⟩ v).ownsRow base t 1 u n ys := ownA_stay hu (fun g hg' => set_ne (fun q => by
    obtain ⟨c, hc⟩ := ownA_type hu hg'
    rw [q, hB] at hc; cases hc; exact ht rfl))
theorem AfE.one {base B : Nat} {W Y w2 : World} {v1 v2 v3 n1 : Value} {L1 L2 L3 M : List Value} (h : AfE base B W v1 v2 v3 L1 L2 L3 Y) (hle : base ≤ B) (hg : Y.grownBy w2 v1.ownBlock) (hn : w2.ownsRow base 22 1 n1 (L1 ++ M).length (L1 ++ M)) :
    AfE base B W n1 v2 v3 (L1 ++ M) L2 L3 (w2.setCell ⟨B, 0, none⟩ n1) := by
  have h1 := grow_keep hg h.o1 h.book (by decide)
  exact ⟨by rw [heap_set h1]; rfl, own_setB hn h1 (by decide), own_setB (own_grown h.o2 h.o1 (by decide) hg) h1 (by decide), own_setB (own_grown h.o3 h.o1 (by decide) hg) h1 (by decide), h.hd.trans (hdE_put h.book hle h.o1 (.inl rfl) hg)⟩
theorem AfE.two {base B : Nat} {W Y w2 : World} {v1 v2 v3 n2 : Value} {L1 L2 L3 M : List Value} (h : AfE base B W v1 v2 v3 L1 L2 L3 Y) (hle : base ≤ B) (hg : Y.grownBy w2 v2.ownBlock) (hn : w2.ownsRow base 23 1 n2 (L2 ++ M).length (L2 ++ M)) :
    AfE base B W v1 n2 v3 L1 (L2 ++ M) L3 (w2.setCell ⟨B, 1, none⟩ n2) := by
  have h1 := grow_keep hg h.o2 h.book (by decide)
  exact ⟨by rw [heap_set h1]; rfl, own_setB (own_grown h.o1 h.o2 (by decide) hg) h1 (by decide), own_setB hn h1 (by decide), own_setB (own_grown h.o3 h.o2 (by decide) hg) h1 (by decide), h.hd.trans (hdE_put h.book hle h.o2 (.inr (.inl rfl)) hg)⟩
theorem AfE.three {base B : Nat} {W Y w2 : World} {v1 v2 v3 n3 : Value} {L1 L2 L3 M : List Value} (h : AfE base B W v1 v2 v3 L1 L2 L3 Y) (hle : base ≤ B) (hg : Y.grownBy w2 v3.ownBlock) (hn : w2.ownsRow base 45 1 n3 (L3 ++ M).length (L3 ++ M)) :
    AfE base B W v1 v2 n3 L1 L2 (L3 ++ M) (w2.setCell ⟨B, 2, none⟩ n3) := by
  have h1 := grow_keep hg h.o3 h.book (by decide)
  exact ⟨by rw [heap_set h1]; rfl, own_setB (own_grown h.o1 h.o3 (by decide) hg) h1 (by decide), own_setB (own_grown h.o2 h.o3 (by decide) hg) h1 (by decide), own_setB hn h1 (by decide), h.hd.trans (hdE_put h.book hle h.o3 (.inr (.inr rfl)) hg)⟩
theorem AfE.alloc {base B : Nat} {W Y : World} {v1 v2 v3 : Value} {L1 L2 L3 : List Value} (h : AfE base B W v1 v2 v3 L1 L2 L3 Y) (hle : base ≤ B) (o : Obj) : AfE base B W v1 v2 v3 L1 L2 L3 (Y.alloc o) := by
  have hb : Below Y.heap.size Y (Y.alloc o) := (Below.refl _ _).alloc (Nat.le_refl _) _
  exact ⟨(hb.block _ (lt_of_heap h.book)).trans h.book, h.o1.alloc _, h.o2.alloc _, h.o3.alloc _, h.hd.trans (HdE.of_below (by have := lt_of_heap h.book; omega) hb)⟩
theorem AfE.drew {base B : Nat} {W Y : World} {v1 v2 v3 : Value} {L1 L2 L3 : List Value} (h : AfE base B W v1 v2 v3 L1 L2 L3 Y) : AfE base B W v1 v2 v3 L1 L2 L3 Y.drew :=
  ⟨h.book, h.o1, h.o2, h.o3, ⟨h.hd.os, h.hd.tape, h.hd.output, h.hd.size, h.hd.keep, h.hd.low⟩⟩
theorem AfE.bk {base B : Nat} {W Y : World} {v1 v2 v3 : Value} {L1 L2 L3 : List Value} (h : AfE base B W v1 v2 v3 L1 L2 L3 Y) (hle : base ≤ B) : BkE base B Y L1 L2 L3 := ⟨⟨v1, v2, v3, h.book, h.o1, h.o2, h.o3⟩, hle⟩
theorem ne_typeE {w : World} {a b : Nat} {x y : Array Value} {t t' : TypeId} (h : w.heap[a]? = some (.cells x t (0, 0))) (k : w.heap[b]? = some (.cells y t' (0, 0))) (ht : t ≠ t') : a ≠ b := by
  rintro rfl
  rw [h] at k
  cases k
  exact ht rfl
set_option maxRecDepth 100000 in
set_option maxHeartbeats 8000000 in
theorem bookGraphE_any (base B : Nat) (N : Int) (ao bo co : Option Addr) (na ca nb cb nc cc : Nat) (L1 L2 L3 : List Value) (w : World) (h : BkE base B w L1 L2 L3) (hl1 : L1.length ≤ 1000) (hl2 : L2.length ≤ 1000) :
    Calls Try.prog 53 #[.pointer (some ⟨B, 0, none⟩), gAgg N (.slice ao na ca) (.slice bo nb cb) (.slice co nc cc)] w fun e w' => e = .returned (.tuple #[]) ∧ BkE base B w' (L1 ++ [.slice ao na ca, .slice bo nb cb]) (L2 ++ [.slice co nc cc]) L3 ∧ HdE base 0 w w' := by
  obtain ⟨i0, ti, tz0, tz1, tz2⟩ := info_parts3 Try.info22A
  obtain ⟨j0, tj, ty0, ty1, ty2⟩ := info_parts3 Try.info23A
  obtain ⟨W, hW⟩ : ∃ W, W = w.alloc (.cells #[.int .i64 N, .slice ao na ca, .slice bo nb cb, .slice co nc cc] 25) := ⟨_, rfl⟩
  have hbW : Below w.heap.size w W := by rw [hW]; exact (Below.refl _ _).alloc (Nat.le_refl _) _
  have hX : W.heap[w.heap.size]? = some (.cells #[.int .i64 N, .slice ao na ca, .slice bo nb cb, .slice co nc cc] 25 (0, 0)) := by rw [hW]; exact heap_new _ _
  have hBW := h.below hbW
  obtain ⟨v1, v2, v3, hB, ho1, ho2, ho3⟩ := hBW.ex
  have hBs : B < w.heap.size := h.lt
  have hsW : W.heap.size = w.heap.size + 1 := by rw [hW]; simp
  have x1 := cell_of hX (i := 1) rfl
  have x2 := cell_of hX (i := 2) rfl
  have x3 := cell_of hX (i := 3) rfl
  have b0 := cell_of hB (i := 0) rfl
  have b1 := cell_of hB (i := 1) rfl
  have f0 := free_of hB 0
  have f1 := free_of hB 1
  have HX := hide hX; have HB := hide hB; have HO1 := hide ho1; have HO2 := hide ho2; have HO3 := hide ho3; have HBW := hide hbW
  have hle := h.le
  clear hX hB ho1 ho2 ho3 hbW hBW h
  unfold gAgg
  go_enter Try.func53, Try.ntmps53
  go_wp2_with fail
  rw [← hW]
  clear hW
  have HAF : Hid (AfE base B W v1 v2 v3 L1 L2 L3 W) := ⟨HB.out, HO1.out, HO2.out, HO3.out, HdE.refl _ _ _⟩
  have hnw := two_at W (.slice ao na ca) (.slice bo nb cb) 22
  rw [hsW] at hnw
  have HNW := hide hnw
  clear hnw
  have hne : ¬ w.heap.size = B := by omega
  have hne2 : ¬ w.heap.size + 1 = B := by omega
  go_cut [] from 4 to 14 (fun wx => ∃ n1, AfE base B W n1 v2 v3 (L1 ++ [.slice ao na ca, .slice bo nb cb]) L2 L3 wx)
  case first =>
    refine wp_region_noPanic ?_
    go_region_law ((refine step_append_lies _ (by rfl) _ _ _ (by rfl) base 22 i0 (.slice none 0 0) 1 24 Try.underlying52 ti tz0 tz1 tz2 rfl (by omega) v1 L1.length L1 (by rfl) (by exact HO1.out.alloc _) ⟨w.heap.size + 1, 0, none⟩ 2 2 [.slice ao na ca, .slice bo nb cb] (by rfl) (by rfl) (by exact HNW.out) (by simp [Value.oneCell']) (by omega) (by unfold maxLen; omega) (by omega) (by simp; omega) (w.heap.size + 2) (by simp [hsW]) ?_; intro g cap w2 hown hgrow hat hlt; have zB := grow_keep hgrow (HAF.out.alloc hle (.cells #[.slice ao na ca, .slice bo nb cb] 22)).o1 (HAF.out.alloc hle (.cells #[.slice ao na ca, .slice bo nb cb] 22)).book (by decide); have z0 := free_of zB 0; have z1 := cell_of zB (i := 0) rfl))
    all_goals
      refine NoPanic.normal ?_
      go_wp2_with fail
      go_meet
      case rel => exact ⟨_, (HAF.out.alloc hle _).drew.one hle hgrow (by simpa using hown)⟩
  case rest =>
    obtain ⟨n1, haf⟩ := hcut
    have HA2 := hide haf
    have hsz := haf.hd.size
    have y0 := cell_of haf.book (i := 1) rfl
    have y1 := free_of haf.book 1
    have y3 := cell_of (haf.box HX.out (by decide) (by decide) (by decide) (by decide)) (i := 3) rfl
    have hlB : B < wc.heap.size := lt_of_heap haf.book
    have hnw := World.news_of_block (heap_new wc (.cells #[.slice co nc cc] 23))
    have HNW2 := hide hnw
    clear haf HAF HNW HX HB HO1 HO2 HO3 x1 x2 x3 b0 b1 f0 f1 hne2 hnw
    go_wp2_with fail
    refine wp_region_noPanic ?_
    go_region_law ((refine step_append_lies _ (by rfl) _ _ _ (by rfl) base 23 j0 (.slice none 0 0) 1 24 Try.underlying53 tj ty0 ty1 ty2 rfl (by omega) v2 L2.length L2 (by rfl) (by exact HA2.out.o2.alloc _) ⟨wc.heap.size, 0, none⟩ 1 1 [.slice co nc cc] (by rfl) (by rfl) (by exact HNW2.out) (by simp [Value.oneCell']) (by omega) (by unfold maxLen; omega) (by omega) (by simp; omega) (wc.heap.size + 1) (by simp) ?_; intro g cap w2 hown hgrow hat hlt; have zB := grow_keep hgrow (HA2.out.alloc hle (.cells #[.slice co nc cc] 23)).o2 (HA2.out.alloc hle (.cells #[.slice co nc cc] 23)).book (by decide); have z0 := free_of zB 1; have z1 := cell_of zB (i := 1) rfl))
    all_goals
      refine NoPanic.normal ?_
      go_wp2_with fail
      first | go_end0 | refine bodyPost_ret (results_none rfl _ _ _) rfl ?_
      have hE := (HA2.out.alloc hle (.cells #[.slice co nc cc] 23)).drew.two (M := [.slice co nc cc]) hle hgrow (by simpa using hown)
      exact ⟨rfl, hE.bk hle, (HdE.of_below (by omega) HBW.out).trans hE.hd⟩
theorem LsE.stay {w w' : World} {base : Nat} {L : List Value} {ls : List (List Ed3)} (h : LsE w base L ls) (hs : ∀ (b : Nat) (cur : Array Value), w.heap[b]? = some (.cells cur 50 (0, 0)) → w'.heap[b]? = w.heap[b]?) : LsE w' base L ls :=
  ⟨h.len, fun i v l hv hl => ownA_stay (h.own i v l hv hl) (fun g hg => let ⟨c, hc⟩ := ownA_type (h.own i v l hv hl) hg; hs g c hc), h.apart⟩
theorem Ft.otherE {L : List Value} {w w' : World} {t : TypeId} {base b : Nat} {ls : List (List Ed3)} {cur : Array Value} (h : Ft L w w') (hl : LsE w base L ls) (hb : w.heap[b]? = some (.cells cur t (0, 0))) (ht : t ≠ 50) : w'.heap[b]? = w.heap[b]? := by
  refine h.block b (lt_of_heap hb) (fun u hu hq => ?_)
  obtain ⟨i, hi⟩ := List.mem_iff_getElem?.mp hu
  have hlt : i < ls.length := by rw [hl.len]; exact (List.getElem?_eq_some_iff.mp hi).1
  obtain ⟨c, hc⟩ := ownA_type (hl.own i u _ hi (List.getElem?_eq_getElem hlt)) hq
  rw [hb] at hc; cases hc; exact ht rfl
set_option maxRecDepth 100000 in
set_option maxHeartbeats 8000000 in
theorem apartE_any (base B : Nat) (L1 L2 L3 : List Value) (ls1 ls2 : List (List Int)) (ls3 : List (List Ed3)) (w : World) (h : BkE base B w L1 L2 L3) (h1 : LsO .i64 3 w base L1 ls1) (h2 : LsO .u64 48 w base L2 ls2) (h3 : LsE w base L3 ls3) (hl1 : L1.length ≤ 1000) (hl2 : L2.length ≤ 1000) (hl3 : L3.length ≤ 1000) (hn1 : ∀ p, nsL ls1 p ≤ 1099511627776) (hn2 : ∀ p, nsL ls2 p ≤ 1099511627776) (hn3 : ∀ p, nsE ls3 p ≤ 1099511627776) :
    Calls Try.prog 22 #[.pointer (some ⟨B, 0, none⟩)] w fun e w' => e = .returned (.bool true) ∧ Ft (L1 ++ L2 ++ L3) w w' := by
  obtain ⟨v1, v2, v3, hB, ho1, ho2, ho3⟩ := h.ex
  have hbs : base ≤ w.heap.size := by have := h.le; have := lt_of_heap hB; omega
  have H1 := hide h1; have H2 := hide h2; have H3 := hide h3; have HB := hide hB; have HO2 := hide ho2; have HO3 := hide ho3
  have HC := hide (intsApart_any base v1 L1 ls1 w (ownA_base ho1 (Nat.zero_le _)) h1 hl1 hn1 hbs)
  have HN2 := hide hn2; have HN3 := hide hn3
  have b0 := cell_of hB (i := 0) rfl
  clear hB ho1 ho2 ho3 h1 h2 h3 hn1 hn2 hn3 h
  go_enter Try.func22, Try.ntmps22
  go_wp2_with fail
  refine HC.out.mono ?_
  rintro e w1 ⟨rfl, hf⟩
  have hB1 : w1.heap[B]? = some (.cells #[v1, v2, v3] 56 (0, 0)) := (hf.other H1.out HB.out (by decide)).trans HB.out
  have HL2 := hide (H2.out.stay (w' := w1) (fun b cur hb => hf.other H1.out hb (by decide)))
  have HL3 := hide (H3.out.stay (w' := w1) (fun b cur hb => hf.other H1.out hb (by decide)))
  have HO2' := hide (hf.head H1.out HO2.out (by decide))
  have HO3' := hide (hf.head H1.out HO3.out (by decide))
  have HC2 := hide (wordsApart_any base v2 L2 ls2 w1 (ownA_base HO2'.out (Nat.zero_le _)) HL2.out hl2 HN2.out (by have := hf.size; omega))
  have HB1 := hide hB1
  have HF := hide hf
  have c1 := cell_of hB1 (i := 1) rfl
  clear hB1 hf b0 HC HB HO2 HO3 H2 H3
  go_wp2_with fail
  refine HC2.out.mono ?_
  rintro e w2 ⟨rfl, hf2⟩
  have hB2 : w2.heap[B]? = some (.cells #[v1, v2, v3] 56 (0, 0)) := (hf2.other HL2.out HB1.out (by decide)).trans HB1.out
  have HL3' := hide (HL3.out.stay (w' := w2) (fun b cur hb => hf2.other HL2.out hb (by decide)))
  have HO3 := hide (hf2.head HL2.out HO3'.out (by decide))
  have HC3 := hide (edgesApart_any base v3 L3 ls3 w2 (ownA_base HO3.out (Nat.zero_le _)) HL3'.out hl3 HN3.out (by have := hf2.size; have := HF.out.size; omega))
  have c2 := cell_of hB2 (i := 2) rfl
  have HF2 := hide hf2
  clear hB2 hf2 c1 HC2 HB1 HO2' HO3' HL3
  go_wp2_with fail
  refine HC3.out.mono ?_
  rintro e w3 ⟨rfl, hf3⟩
  have HF3 := hide hf3
  clear hf3
  go_wp2_with fail
  go_ret
  exact ⟨rfl, (HF.out.both HF2.out).both HF3.out⟩
end Go.Proofs.Ytmagigmcbegmiaa
