/- anew: Replay hangs on what its lists hold, not on which lists they are. -/
import Derived.Test.YtfgchkkljlbmcaaRec
import Derived.Test.YtfgchkkljlbmcaaToldRow
import Derived.Test.YtfgchkkljlbmcaaReplayWalk
import Derived.Test.YtfgchkkljlbmcaaFaU
import Derived.Test.YtfgchkkljlbmcaaFaA
namespace Go.Proofs.Ytfgchkkljlbmcaa
open Go.RowKit Go.Lib Go.MuLone
set_option linter.unusedVariables false
set_option linter.unusedSimpArgs false
def wA (x : Int) : Array Value := #[.int .u64 x]
theorem wA_size (x : Int) : (wA x).size = 1 := rfl
theorem acc_size (a : Acc) : a.arr.size = 8 := rfl
theorem rw_words : ∀ l : List Int, rCells wA l = l.map (Value.int .u64)
  | [] => rfl
  | x :: l => by rw [rCells_cons, rw_words l]; rfl
theorem rw_accs (l : List Acc) : rCells Acc.arr l = logCells l := rfl
theorem WordsAt.rat {w : World} {v : Value} {xs : List Int} (h : WordsAt w v xs) : RAt wA 1 w v xs := by
  rcases h with ⟨rfl, rfl⟩ | ⟨g, o, c, rfl, hg, hl, hm, hc⟩
  · exact RAt.nil w
  · refine ⟨_, c, rfl, hl, hm, fun i x hi => ⟨g, o, rfl, hg, fun j u hu => ?_⟩⟩
    have hi2 : i < xs.length := (List.getElem?_eq_some_iff.1 hi).1
    match j, hu with
    | 0, hu =>
      simp [wA] at hu
      subst hu
      have := hc i hi2
      unfold nth at this
      rw [List.getD_eq_getElem?_getD, hi] at this
      simpa using this
    | j + 1, hu => simp [wA] at hu
theorem AccsAt.rat {w : World} {v : Value} {l : List Acc} (h : AccsAt w v l) : RAt Acc.arr 8 w v l := by
  rcases h with ⟨rfl, rfl⟩ | ⟨g, o, c', rfl, hg, hl, hm, hc⟩
  · exact RAt.nil w
  · refine ⟨_, c', rfl, hl, hm, fun i x hi => ⟨g, o, rfl, hg, fun j u hu => ?_⟩⟩
    rw [Nat.add_assoc]
    exact hc _ u (logCells_get l i j x u hi hu)
theorem cell_inv {w : World} {g i : Nat} {cs : Array Value} {t : TypeId} {fr : Nat × Nat} {v : Value} (h : w.heap[g]? = some (.cells cs t fr)) (hc : w.cell? ⟨g, i, none⟩ = some v) : cs[i]? = some v := by
  simpa [World.cell?, h] using hc
/-- What one access written over makes of its block. -/
def set8 (cur : Array Value) (i : Nat) (x : Acc) : Array Value :=
  (((((((cur.setIfInBounds (i * 8) (.int .i64 x.who)).setIfInBounds (i * 8 + 1) (.int .i64 x.kind)).setIfInBounds (i * 8 + 2) (.int .i64 x.cell)).setIfInBounds (i * 8 + 3) (.int .u64 x.want)).setIfInBounds (i * 8 + 4) (.int .u64 x.put)).setIfInBounds (i * 8 + 5) (.int .u64 x.seen)).setIfInBounds (i * 8 + 6) (.int .u64 x.left)).setIfInBounds (i * 8 + 7) (.bool x.ok)
theorem set8_size (cur : Array Value) (i : Nat) (x : Acc) : (set8 cur i x).size = cur.size := by simp [set8]
theorem put8_heap {w : World} {g i : Nat} {x : Acc} {cur : Array Value} {t : TypeId} {fr : Nat × Nat} (h : w.heap[g]? = some (.cells cur t fr)) : (put8 w g i x).heap[g]? = some (.cells (set8 cur i x) t fr) := by
  unfold put8 set8
  exact heap_set (heap_set (heap_set (heap_set (heap_set (heap_set (heap_set (heap_set h _) _) _) _) _) _) _) _
theorem put8_size (w : World) (g i : Nat) (x : Acc) : (put8 w g i x).heap.size = w.heap.size := by simp [put8, World.setCell]
theorem put8_wr (w : World) (g i : Nat) (x : Acc) (mk : Int) (hx : x.kind = mk) : A.Wr w (put8 w g i x) g i mk := by
  refine ⟨by simp [put8, World.setCell], by simp [put8, World.setCell], by simp [put8, World.setCell], put8_size _ _ _ _, fun j hj => ?_, fun cur h => ⟨set8 cur i x, put8_heap h, set8_size _ _ _, fun m hm => ?_, fun hm => ?_⟩⟩
  · unfold put8
    rw [Below.heap_setCell _ _ _ _ hj, Below.heap_setCell _ _ _ _ hj, Below.heap_setCell _ _ _ _ hj, Below.heap_setCell _ _ _ _ hj, Below.heap_setCell _ _ _ _ hj, Below.heap_setCell _ _ _ _ hj, Below.heap_setCell _ _ _ _ hj, Below.heap_setCell _ _ _ _ hj]
  · unfold set8
    rw [Array.getElem?_setIfInBounds_ne (by omega), Array.getElem?_setIfInBounds_ne (by omega), Array.getElem?_setIfInBounds_ne (by omega), Array.getElem?_setIfInBounds_ne (by omega), Array.getElem?_setIfInBounds_ne (by omega), Array.getElem?_setIfInBounds_ne (by omega), Array.getElem?_setIfInBounds_ne (by omega), Array.getElem?_setIfInBounds_ne (by omega)]
  · unfold set8
    rw [Array.getElem?_setIfInBounds_ne (by omega), Array.getElem?_setIfInBounds_ne (by omega), Array.getElem?_setIfInBounds_ne (by omega), Array.getElem?_setIfInBounds_ne (by omega), Array.getElem?_setIfInBounds_ne (by omega), Array.getElem?_setIfInBounds_ne (by omega), Array.getElem?_setIfInBounds_self_of_lt (by simpa using hm), hx]
theorem setCell_wr (w : World) (g i : Nat) (mk : Int) : U.Wr w (w.setCell ⟨g, i, none⟩ (.int .u64 mk)) g i mk := by
  refine ⟨rfl, rfl, rfl, by simp [World.setCell], fun j hj => Below.heap_setCell _ _ _ _ hj, fun cur h => ⟨_, heap_set h _, by simp, fun m hm => ?_, fun hm => ?_⟩⟩
  · rw [Array.getElem?_setIfInBounds_ne (by omega)]
  · simp only [Nat.mul_one, Nat.add_zero] at hm ⊢
    rw [Array.getElem?_setIfInBounds_self_of_lt hm]
theorem own_put8 {w : World} {B g n c i : Nat} {l : List Acc} {x : Acc} (h : w.ownsRow B 31 8 (.slice (some ⟨g, 0, none⟩) n c) n (logCells l)) (hn : l.length = n) (hi : i < n) :
    (put8 w g i x).ownsRow B 31 8 (.slice (some ⟨g, 0, none⟩) n c) n (logCells (l.set i x)) := by
  subst hn
  have ha := accs_put (x := x) h hi
  obtain ⟨h0, ⟨he, _⟩ | ⟨g', c', cur, he, hg, hh, r1, r2, r3, r4⟩⟩ := h
  · cases he
  · simp only [Value.slice.injEq, Option.some.injEq, Addr.mk.injEq, true_and, and_true] at he
    obtain ⟨rfl, rfl⟩ := he
    have hl : (logCells (l.set i x)).length = l.length * 8 := by
      rw [← rw_accs, rCells_length acc_size, List.length_set]
    refine ⟨hl, .inr ⟨g, c, _, rfl, hg, put8_heap hh, r1, r2, by rw [set8_size]; exact r3, ?_⟩⟩
    rcases ha with ⟨e, _⟩ | ⟨g2, o2, c2, e, _, _, _, hc⟩
    · cases e
    · simp only [Value.slice.injEq, Option.some.injEq, Addr.mk.injEq, true_and, and_true] at e
      obtain ⟨⟨rfl, rfl⟩, _, rfl⟩ := e
      refine List.ext_getElem? fun m => ?_
      by_cases hm : m < l.length * 8
      · rw [List.getElem?_take_of_lt hm]
        have h5 : (logCells (l.set i x))[m]? = some (logCells (l.set i x))[m] := List.getElem?_eq_getElem (by omega)
        have h6 := cell_inv (put8_heap hh) (by have := hc m _ h5; rwa [Nat.zero_add] at this)
        rw [h5]
        simpa using h6
      · rw [List.getElem?_eq_none (by simp; omega), List.getElem?_eq_none (by omega)]
/-- Both lists of anew. -/
structure AN (w W : World) (v u : Value) (n m : Nat) (ms : List Int) (ls : List Acc) : Prop where
  a : W.ownsRow w.heap.size 29 1 v n (ms.map (Value.int .u64))
  b : W.ownsRow w.heap.size 31 8 u m (logCells ls)
  la : ms.length = n
  lb : ls.length = m
  bel : Below w.heap.size w W
section
variable {w W W' : World} {v u : Value} {n m : Nat} {ms : List Int} {ls : List Acc}
theorem AN.below (h : AN w W v u n m ms ls) (k : Below W.heap.size W W') : AN w W' v u n m ms ls :=
  ⟨ownsRow_block h.a fun i hi => k.block i (owns_lt h.a hi).2, ownsRow_block h.b fun i hi => k.block i (owns_lt h.b hi).2, h.la, h.lb, h.bel.trans (k.mono h.bel.size)⟩
theorem AN.words (h : AN w W v u n m ms ls) : WordsAt W v ms := WordsAt.of_owns (by rw [h.la]; exact h.a)
theorem AN.accs (h : AN w W v u n m ms ls) : AccsAt W u ls := AccsAt.of_owns (by rw [h.lb]; exact h.b)
theorem AN.setA {g c : Nat} (h : AN w W (.slice (some ⟨g, 0, none⟩) n c) u n m ms ls) (i : Nat) (x : Int) : AN w (W.setCell ⟨g, i, none⟩ (.int .u64 x)) (.slice (some ⟨g, 0, none⟩) n c) u n m (ms.set i x) ls := by
  have ha : W.ownsRow w.heap.size 29 1 (.slice (some ⟨g, 0, none⟩) n c) ms.length (ms.map (Value.int .u64)) := by rw [h.la]; exact h.a
  have h1 := own_set ha i x
  rw [List.length_set, h.la] at h1
  refine ⟨h1, ownsRow_block h.b fun j hj => Below.heap_setCell _ _ _ _ ?_, by rw [List.length_set]; exact h.la, h.lb, h.bel.setCell (p := ⟨g, i, none⟩) (owns_lt h.a rfl).1 _⟩
  obtain ⟨cur, hc⟩ := own_type h.b hj
  obtain ⟨cur', hc'⟩ := own_type h.a (k := g) rfl
  exact ne_of_type hc hc' (by decide)
theorem AN.setB {g c i : Nat} (h : AN w W v (.slice (some ⟨g, 0, none⟩) m c) n m ms ls) (hi : i < m) (x : Acc) : AN w (put8 W g i x) v (.slice (some ⟨g, 0, none⟩) m c) n m ms (ls.set i x) := by
  refine ⟨ownsRow_block h.a fun j hj => (put8_wr W g i x _ rfl).other j ?_, own_put8 h.b h.lb hi, h.la, by rw [List.length_set]; exact h.lb, put8_below h.bel (owns_lt h.b rfl).1⟩
  obtain ⟨cur, hc⟩ := own_type h.a hj
  obtain ⟨cur', hc'⟩ := own_type h.b (k := g) rfl
  exact ne_of_type hc hc' (by decide)
/-- Where the words lie. -/
theorem AN.spotA (h : AN w W v u n m ms ls) (hn : 0 < n) : ∃ g c, v = .slice (some ⟨g, 0, none⟩) n c ∧ n ≤ c ∧ c ≤ 9223372036854775807 ∧ (∀ i, i < n → W.cell? ⟨g, i, none⟩ = some (.int .u64 (nth ms i))) ∧ ∀ i, W.frozen? ⟨g, i, none⟩ = false := by
  obtain ⟨_, ⟨_, e⟩ | ⟨g, c, cur, e, _, hh, r1, r2, _⟩⟩ := id h.a
  · omega
  · subst e
    refine ⟨g, c, rfl, r1, r2, fun i hi => ?_, fun i => free_of hh i⟩
    rcases h.words with ⟨e, _⟩ | ⟨g2, o2, c2, e, _, _, _, hc⟩
    · cases e
    · simp only [Value.slice.injEq, Option.some.injEq, Addr.mk.injEq] at e
      obtain ⟨⟨rfl, rfl, _⟩, _, rfl⟩ := e
      have := hc i (by rw [h.la]; exact hi)
      rwa [Nat.zero_add] at this
theorem AN.spotB (h : AN w W v u n m ms ls) (hm : 0 < m) : ∃ g c, u = .slice (some ⟨g, 0, none⟩) m c ∧ m ≤ c ∧ c ≤ 9223372036854775807 ∧ (∀ i j, i < m → j < 8 → ∃ x, W.cell? ⟨g, i * 8 + j, none⟩ = some x) ∧ ∀ i, W.frozen? ⟨g, i, none⟩ = false := by
  obtain ⟨_, ⟨_, e⟩ | ⟨g, c, cur, e, _, hh, r1, r2, r3, _⟩⟩ := id h.b
  · omega
  · subst e
    exact ⟨g, c, rfl, r1, r2, fun i j hi hj => ⟨_, cell_of hh (Array.getElem?_eq_getElem (show i * 8 + j < cur.size by omega))⟩, fun i => free_of hh i⟩
end
theorem mdecA {i n : Nat} (h : i < n) : n - (RowKit.intOf (.int .i64 ((i : Int) + 1))).toNat < n - (RowKit.intOf (.int .i64 (i : Int))).toNat := by simp [RowKit.intOf]; omega
theorem AN.made {w w1 w2 : World} {v u : Value} {n m : Nat} {xs : List Int} {l : List Acc} (hA : w1.ownsRow w.heap.size 29 1 v n (rCells wA xs)) (b1 : Below w.heap.size w w1) (hB : w2.ownsRow w1.heap.size 31 8 u m (rCells Acc.arr l)) (b2 : Below w1.heap.size w1 w2) (hn : xs.length = n) (hm : l.length = m) : AN w w2 v u n m xs l := by
  refine ⟨?_, ⟨hB.1, hB.2.imp id fun ⟨g, cap, cur, he, hg, r⟩ => ⟨g, cap, cur, he, Nat.le_trans b1.size hg, r⟩⟩, hn, hm, b1.trans (b2.mono b1.size)⟩
  rw [rw_words] at hA
  exact ownsRow_block hA fun i hi => b2.block i (owns_lt hA hi).2
/-- Words in a row of one's own. -/
def OW (W : World) (v : Value) (R : List Int) : Prop := ∃ B, W.ownsRow B 29 1 v R.length (R.map (Value.int .u64))
theorem OW.of {W : World} {B N : Nat} {v : Value} {R : List Int} (h : W.ownsRow B 29 1 v N (R.map (Value.int .u64))) : OW W v R := by
  have : R.length = N := by have := h.1; simpa using this
  subst this
  exact ⟨B, h⟩
theorem OW.at {W : World} {v : Value} {R : List Int} (h : OW W v R) : WordsAt W v R := by obtain ⟨B, h⟩ := h; exact WordsAt.of_owns h
theorem OW.below {W W' : World} {v : Value} {R : List Int} (h : OW W v R) (k : Below W.heap.size W W') : OW W' v R := by
  obtain ⟨B, h⟩ := h
  exact ⟨B, ownsRow_block h fun i hi => k.block i (owns_lt h hi).2⟩
theorem OW.put8 {W : World} {v : Value} {R : List Int} {B g i n c : Nat} {x : Acc} {l : List Value} (h : OW W v R) (k : W.ownsRow B 31 8 (.slice (some ⟨g, 0, none⟩) n c) n l) : OW (put8 W g i x) v R := by
  obtain ⟨B', h⟩ := h
  refine ⟨B', ownsRow_block h fun j hj => (put8_wr W g i x _ rfl).other j ?_⟩
  obtain ⟨cur, hc⟩ := own_type h hj
  obtain ⟨cur', hc'⟩ := own_type k (k := g) rfl
  exact ne_of_type hc hc' (by decide)
set_option maxRecDepth 100000 in
set_option maxHeartbeats 4000000 in
theorem anew_any (v u : Value) (xs : List Int) (l : List Acc) (w : World) (h : WordsAt w v xs) (k : AccsAt w u l) (hx : xs.length * 8 ≤ 140737488355328) (hl : l.length * 64 ≤ 140737488355328) :
    Calls Try.prog 36 #[v, u] w fun e w' => e = .returned (.bool true) ∧ Below w.heap.size w w' := by
  obtain ⟨i0, hi0, hz0, hz1, hz2⟩ := info_parts Try.info29
  obtain ⟨i1, hi1, hy0, hy1, hy2⟩ := info_parts Try.info31
  have H := hide h.rat
  have K := hide k.rat
  obtain ⟨ao, ac, rfl, _⟩ := h.rat.shape
  obtain ⟨bo, bc, rfl, _⟩ := k.rat.shape
  have HX := hide hx
  have HL := hide hl
  clear h k hx hl
  go_enter Try.func36, Try.ntmps36
  go_upto_region 3 with (first | (at_builtin; refine wpList_freshR wA_size (by decide) rfl (.tmp 17) (.tmp 18) 26 rfl 29 i0 _ 8 Try.underlying26 hi0 hz0 hz1 hz2 rfl w.heap.size w.heap.size (own_newr w 29 _ 1 rfl) (by simp) _ xs rfl rfl (H.out.below ((Below.refl _ _).alloc (Nat.le_refl _) _)) (HX.out) (by have := HX.out; unfold maxLen; omega) ?_; intro v0 w1 hownA hbelA; have HBA0 := hide (((Below.refl _ w).alloc (Nat.le_refl _) (.cells #[] 29)).trans (hbelA.mono (by simp))); obtain ⟨a0, c0, h5⟩ := owns_shape hownA; subst h5; have HOA0 := hide hownA; clear hownA hbelA) | (at_builtin; refine wpList_freshR acc_size (by decide) rfl (.tmp 20) (.tmp 21) 27 rfl 31 i1 _ 64 Try.underlying27 hi1 hy0 hy1 hy2 rfl w1.heap.size w1.heap.size (own_newr w1 31 _ 8 rfl) (by simp) _ l rfl rfl ((K.out.below HBA0.out).below ((Below.refl _ _).alloc (Nat.le_refl _) _)) (HL.out) (by have := HL.out; unfold maxLen; omega) ?_; intro u0 w2 hownB hbelB; have HBB0 := hide (((Below.refl _ w1).alloc (Nat.le_refl _) (.cells #[] 31)).trans (hbelB.mono (by simp))); obtain ⟨b0, d0, h6⟩ := owns_shape hownB; subst h6; have HOB0 := hide hownB; clear hownB hbelB))
  obtain ⟨n, hn⟩ : ∃ n, n = xs.length := ⟨_, rfl⟩
  obtain ⟨m, hm⟩ : ∃ m, m = l.length := ⟨_, rfl⟩
  have HAN := hide (AN.made HOA0.out HBA0.out HOB0.out HBB0.out rfl rfl)
  rw [← hn] at HX HAN ⊢
  rw [← hm] at HL HAN ⊢
  clear hn hm HOA0 HBA0 HOB0 HBB0 H K
  have HR0 := hide (replay_any _ _ _ _ _ HAN.out.words HAN.out.accs (by rw [HAN.out.la]; exact HX.out) (by rw [HAN.out.lb]; have := HL.out; omega))
  go_wp2_with fail
  refine HR0.out.mono ?_
  rintro e w3 ⟨v3, rfl, _, hb3⟩
  have HA3 := hide (HAN.out.below hb3)
  clear hb3 HR0 HAN
  go_wp2_with fail
  go_loopw [7] (fun t wr => ∃ (k : Nat) (ms : List Int), k ≤ n ∧ t = .int .i64 (k : Int) ∧ Hid (AN w wr (.slice a0 n c0) (.slice b0 m d0) n m ms l)) (fun t _ => n - (RowKit.intOf t).toNat)
  case atStart => exact ⟨0, _, Nat.zero_le _, rfl, HA3⟩
  case round =>
    clear HA3
    obtain ⟨k, ms, hk, rfl, HT⟩ := hrel
    by_cases hlt : k < n
    · obtain ⟨g, c, he, hc1, hc2, hcell, hfr⟩ := HT.out.spotA (by omega)
      simp only [Value.slice.injEq, true_and] at he
      obtain ⟨rfl, rfl⟩ := he
      have x0 := hcell k hlt
      have f0 := hfr k
      have hki : (k : Int) < (n : Int) := by omega
      have hnb : n * 8 ≤ 140737488355328 := HX.out
      clear hcell hfr
      go_wp2_with fail
      go_roundw
      case rel => exact ⟨k + 1, _, hlt, by simp, hide (HT.out.setA k _)⟩
      case measure => simp [RowKit.intOf]; omega
    · obtain rfl : k = n := by omega
      have HR1 := hide (replay_any _ _ _ _ _ HT.out.words HT.out.accs (by rw [HT.out.la]; exact HX.out) (by rw [HT.out.lb]; have := HL.out; omega))
      clear hk
      go_wp2_with fail
      refine HR1.out.mono ?_
      rintro e w4 ⟨v4, rfl, ho4, hb4⟩
      obtain ⟨e4, f4, rfl⟩ := owns_shape ho4
      obtain ⟨r1, hr1⟩ : ∃ r, r = (replay ms l 0).1 := ⟨_, rfl⟩
      obtain ⟨R1, hR1⟩ : ∃ r, r = (replay ms l 0).2 := ⟨_, rfl⟩
      rw [← hR1] at ho4
      rw [← hr1]
      have H4 := hide (And.intro (HT.out.below hb4) (OW.of ho4))
      have HE1 := hide (And.intro hr1 hR1)
      clear hb4 ho4 HR1 HT hr1 hR1
      go_upto_region 9 with fail
      go_wp2_with (first | (at_builtin; refine wpList_freshR wA_size (by decide) rfl (.tmp 47) (.tmp 48) 26 rfl 29 i0 _ 8 Try.underlying26 hi0 hz0 hz1 hz2 rfl w4.heap.size w4.heap.size (own_newr w4 29 _ 1 rfl) (by simp) _ ms rfl rfl (H4.out.1.words.rat.below ((Below.refl _ _).alloc (Nat.le_refl _) _)) (by rw [H4.out.1.la]; exact HX.out) (by rw [H4.out.1.la]; have := HX.out; unfold maxLen; omega) ?_; intro v1 w5 hownA hbelA; have HBA1 := hide (((Below.refl _ w4).alloc (Nat.le_refl _) (.cells #[] 29)).trans (hbelA.mono (by simp))); obtain ⟨a1, c1, h5⟩ := owns_shape hownA; subst h5; have HOA1 := hide hownA; clear hownA hbelA) | (at_builtin; refine wpList_freshR acc_size (by decide) rfl (.tmp 50) (.tmp 51) 27 rfl 31 i1 _ 64 Try.underlying27 hi1 hy0 hy1 hy2 rfl w5.heap.size w5.heap.size (own_newr w5 31 _ 8 rfl) (by simp) _ l rfl rfl ((H4.out.1.accs.rat.below HBA1.out).below ((Below.refl _ _).alloc (Nat.le_refl _) _)) (by rw [H4.out.1.lb]; exact HL.out) (by rw [H4.out.1.lb]; have := HL.out; unfold maxLen; omega) ?_; intro u1 w6 hownB hbelB; have HBB1 := hide (((Below.refl _ w5).alloc (Nat.le_refl _) (.cells #[] 31)).trans (hbelB.mono (by simp))); obtain ⟨b1, d1, h6⟩ := owns_shape hownB; subst h6; have HOB1 := hide hownB; clear hownB hbelB))
      have HN1 := hide (AN.made HOA1.out HBA1.out HOB1.out HBB1.out rfl rfl)
      have HR2 := hide (replay_any _ _ _ _ _ HN1.out.words HN1.out.accs (by rw [H4.out.1.la]; exact HX.out) (by rw [H4.out.1.lb]; have := HL.out; omega))
      refine HR2.out.mono ?_
      rintro e w7 ⟨v7, rfl, ho7, hb7⟩
      obtain ⟨e7, f7, rfl⟩ := owns_shape ho7
      rw [← HE1.out.2] at ho7
      rw [← HE1.out.1]
      have H7 := hide (And.intro ((H4.out.1.below HN1.out.bel).below hb7) (And.intro ((H4.out.2.below HN1.out.bel).below hb7) (OW.of ho7)))
      clear hb7 ho7 HR2 HN1 HOA1 HBA1 HOB1 HBB1 H4 HE1
      go_wp2_with fail
      go_loopw [12] (fun t wr => ∃ (q : Nat) (ls : List Acc), q ≤ m ∧ t = .int .i64 (q : Int) ∧ Hid (AN w wr (.slice a0 k c0) (.slice b0 m d0) k m ms ls ∧ OW wr (.slice e4 ms.length f4) R1 ∧ OW wr (.slice e7 ms.length f7) R1)) (fun t _ => m - (RowKit.intOf t).toNat)
      case atStart => exact ⟨0, _, Nat.zero_le _, rfl, H7⟩
      case round =>
        clear H7
        obtain ⟨q, ls, hq, rfl, HT⟩ := hrel
        by_cases hlt : q < m
        · obtain ⟨g, c, he, hc1, hc2, hcell, hfr⟩ := HT.out.1.spotB (by omega)
          simp only [Value.slice.injEq, true_and] at he
          obtain ⟨rfl, rfl⟩ := he
          have hw : IntKind.u64.wrap (q : Int) = (q : Int) := IntWalk.u64_in _ (by have := HL.out; omega)
          obtain ⟨y0, x0⟩ := hcell q 0 hlt (by decide)
          have f0 := hfr (q * 8 + 0)
          obtain ⟨y1, x1⟩ := hcell q 1 hlt (by decide)
          have f1 := hfr (q * 8 + 1)
          obtain ⟨y2, x2⟩ := hcell q 2 hlt (by decide)
          have f2 := hfr (q * 8 + 2)
          obtain ⟨y3, x3⟩ := hcell q 3 hlt (by decide)
          have f3 := hfr (q * 8 + 3)
          obtain ⟨y4, x4⟩ := hcell q 4 hlt (by decide)
          have f4 := hfr (q * 8 + 4)
          obtain ⟨y5, x5⟩ := hcell q 5 hlt (by decide)
          have f5 := hfr (q * 8 + 5)
          obtain ⟨y6, x6⟩ := hcell q 6 hlt (by decide)
          have f6 := hfr (q * 8 + 6)
          obtain ⟨y7, x7⟩ := hcell q 7 hlt (by decide)
          have f7 := hfr (q * 8 + 7)
          simp only [Nat.add_zero] at x0 f0
          have hqi : (q : Int) < (m : Int) := by omega
          have hnb : m * 64 ≤ 140737488355328 := HL.out
          clear hcell hfr
          go_wp2_with fail
          exact ⟨⟨q + 1, _, hlt, by simp, hide ⟨HT.out.1.setB hlt ⟨0, 2, 0, 0, q, 0, 0, false⟩, HT.out.2.1.put8 HT.out.1.b (i := q) (x := ⟨0, 2, 0, 0, q, 0, 0, false⟩), HT.out.2.2.put8 HT.out.1.b (i := q) (x := ⟨0, 2, 0, 0, q, 0, 0, false⟩)⟩⟩, mdecA hlt⟩
        · obtain rfl : q = m := by omega
          have HR1 := hide (replay_any _ _ _ _ _ HT.out.1.words HT.out.1.accs (by rw [HT.out.1.la]; exact HX.out) (by rw [HT.out.1.lb]; have := HL.out; omega))
          clear hq
          go_wp2_with fail
          refine HR1.out.mono ?_
          rintro e w8 ⟨v8, rfl, ho8, hb8⟩
          obtain ⟨e8, f8, rfl⟩ := owns_shape ho8
          obtain ⟨r2, hr2⟩ : ∃ r, r = (replay ms ls 0).1 := ⟨_, rfl⟩
          obtain ⟨R2, hR2⟩ : ∃ r, r = (replay ms ls 0).2 := ⟨_, rfl⟩
          rw [← hR2] at ho8
          rw [← hr2]
          have H8 := hide (And.intro (HT.out.1.below hb8) (And.intro (HT.out.2.1.below hb8) (And.intro (HT.out.2.2.below hb8) (OW.of ho8))))
          have HE1 := hide (And.intro hr2 hR2)
          clear hb8 ho8 HR1 HT hr2 hR2
          go_upto_region 15 with fail
          go_wp2_with (first | (at_builtin; refine wpList_freshR wA_size (by decide) rfl (.tmp 75) (.tmp 76) 26 rfl 29 i0 _ 8 Try.underlying26 hi0 hz0 hz1 hz2 rfl w8.heap.size w8.heap.size (own_newr w8 29 _ 1 rfl) (by simp) _ ms rfl rfl (H8.out.1.words.rat.below ((Below.refl _ _).alloc (Nat.le_refl _) _)) (by rw [H8.out.1.la]; exact HX.out) (by rw [H8.out.1.la]; have := HX.out; unfold maxLen; omega) ?_; intro v2 w9 hownA hbelA; have HBA2 := hide (((Below.refl _ w8).alloc (Nat.le_refl _) (.cells #[] 29)).trans (hbelA.mono (by simp))); obtain ⟨a2, c2, h5⟩ := owns_shape hownA; subst h5; have HOA2 := hide hownA; clear hownA hbelA) | (at_builtin; refine wpList_freshR acc_size (by decide) rfl (.tmp 78) (.tmp 79) 27 rfl 31 i1 _ 64 Try.underlying27 hi1 hy0 hy1 hy2 rfl w9.heap.size w9.heap.size (own_newr w9 31 _ 8 rfl) (by simp) _ ls rfl rfl ((H8.out.1.accs.rat.below HBA2.out).below ((Below.refl _ _).alloc (Nat.le_refl _) _)) (by rw [H8.out.1.lb]; exact HL.out) (by rw [H8.out.1.lb]; have := HL.out; unfold maxLen; omega) ?_; intro u2 w10 hownB hbelB; have HBB2 := hide (((Below.refl _ w9).alloc (Nat.le_refl _) (.cells #[] 31)).trans (hbelB.mono (by simp))); obtain ⟨b2, d2, h6⟩ := owns_shape hownB; subst h6; have HOB2 := hide hownB; clear hownB hbelB))
          have HN1 := hide (AN.made HOA2.out HBA2.out HOB2.out HBB2.out rfl rfl)
          have HR2 := hide (replay_any _ _ _ _ _ HN1.out.words HN1.out.accs (by rw [H8.out.1.la]; exact HX.out) (by rw [H8.out.1.lb]; have := HL.out; omega))
          refine HR2.out.mono ?_
          rintro e w11 ⟨v11, rfl, ho11, hb11⟩
          obtain ⟨e11, f11, rfl⟩ := owns_shape ho11
          rw [← HE1.out.2] at ho11
          rw [← HE1.out.1]
          have H11 := hide (And.intro ((H8.out.1.below HN1.out.bel).below hb11) (And.intro ((H8.out.2.1.below HN1.out.bel).below hb11) (And.intro ((H8.out.2.2.1.below HN1.out.bel).below hb11) (And.intro ((H8.out.2.2.2.below HN1.out.bel).below hb11) (OW.of ho11)))))
          clear hb11 ho11 HR2 HN1 HOA2 HBA2 HOB2 HBB2 H8 HE1
          have hr1 : (r1 == r1) = true := by simp
          have hr2 : (r2 == r2) = true := by simp
          go_wp2_with fail
          refine (sameWords_any _ _ R1 _ H11.out.2.1.at H11.out.2.2.1.at).mono ?_
          rintro e w12 ⟨rfl, m12, rfl⟩
          have H12 := hide (And.intro (H11.out.2.2.2.1.below (below_drewN (Below.refl _ _) m12)) (H11.out.2.2.2.2.below (below_drewN (Below.refl _ _) m12)))
          have HBZ := hide H11.out.1.bel
          clear H11
          go_wp2_with fail
          refine (sameWords_any _ _ R2 _ H12.out.1.at H12.out.2.at).mono ?_
          rintro e w13 ⟨rfl, m13, rfl⟩
          go_wp2_with fail
          go_ret
          exact ⟨rfl, below_drewN HBZ.out _⟩
end Go.Proofs.Ytfgchkkljlbmcaa
