/- ArenaFresh: lists of words and what lies beyond them. -/
import Derived.Test.YtfgchkkljlbmcaaFa0
namespace Go.Proofs.Ytfgchkkljlbmcaa.U
open Go.RowKit Go.Lib Go.MuLone
set_option linter.unusedVariables false
set_option linter.unusedSimpArgs false
/-- A list of n in a block of [S, T), the first c of them marked. -/
def UL (X : World) (S T : Nat) (u : Value) (n c : Nat) (mk : Int) : Prop :=
  (u = .slice none 0 0 ∧ n = 0) ∨ ∃ g cap cur, u = .slice (some ⟨g, 0, none⟩) n cap ∧ S ≤ g ∧ g < T ∧ X.heap[g]? = some (.cells cur 29 (0, 0)) ∧ n ≤ cap ∧ cap ≤ maxLen ∧ cur.size = cap * 1 ∧ ∀ i, i < c → i < n → cur[i * 1 + 0]? = some (.int .u64 mk)
/-- n of them, then two of e, in a block of [S, T) or in one from B on. -/
def XL (X : World) (S T B : Nat) (x : Value) (n : Nat) (e : Int) : Prop :=
  ∃ g cap cur, x = .slice (some ⟨g, 0, none⟩) (n + 2) cap ∧ ((S ≤ g ∧ g < T) ∨ B ≤ g) ∧ X.heap[g]? = some (.cells cur 29 (0, 0)) ∧ n + 2 ≤ cap ∧ cap ≤ maxLen ∧ cur[n * 1 + 0]? = some (.int .u64 e) ∧ cur[(n + 1) * 1 + 0]? = some (.int .u64 e)
/-- One of them is written over. -/
structure Wr (W W' : World) (g c : Nat) (mk : Int) : Prop where
  os : W'.os = W.os
  tape : W'.tape = W.tape
  output : W'.output = W.output
  size : W'.heap.size = W.heap.size
  other : ∀ j, j ≠ g → W'.heap[j]? = W.heap[j]?
  cell : ∀ cur, W.heap[g]? = some (.cells cur 29 (0, 0)) → ∃ cur', W'.heap[g]? = some (.cells cur' 29 (0, 0)) ∧ cur'.size = cur.size ∧ (∀ m, (m < c * 1 ∨ c * 1 + 1 ≤ m) → cur'[m]? = cur[m]?) ∧ (c * 1 + 0 < cur.size → cur'[c * 1 + 0]? = some (.int .u64 mk))
section
variable {X Y : World} {S T B : Nat} {u x : Value} {n c : Nat} {mk e : Int}
theorem UL.of_own {xs : List Value} (h : X.ownsRow S 29 1 u n xs) (ht : ∀ g, u.ownBlock = some g → g < T) (mk : Int) : UL X S T u n 0 mk := by
  obtain ⟨h0, hn | ⟨g, cap, cur, rfl, hg, hc, r1, r2, r3, r4⟩⟩ := h
  · exact .inl hn
  · exact .inr ⟨g, cap, cur, rfl, hg, ht g rfl, hc, r1, r2, r3, fun i hi => absurd hi (Nat.not_lt_zero _)⟩
theorem UL.own (h : UL X S T u n c mk) : ∃ xs, X.ownsRow S 29 1 u n xs ∧ ∀ g, u.ownBlock = some g → g < T := by
  rcases h with ⟨rfl, rfl⟩ | ⟨g, cap, cur, rfl, h1, h2, hc, r1, r2, r3, _⟩
  · exact ⟨[], World.ownsRow_nil X _ _ _, fun g e => by cases e⟩
  · exact ⟨cur.toList.take (n * 1), ⟨by rw [List.length_take]; simp; omega, .inr ⟨g, cap, cur, rfl, h1, hc, r1, r2, r3, rfl⟩⟩, fun g' e => by cases e; exact h2⟩
theorem own_stayB {e' : TypeId} {size : Nat} {xs : List Value} (h : X.ownsRow S e' size u n xs) (hk : ∀ g, u.ownBlock = some g → g < X.heap.size → Y.heap[g]? = X.heap[g]?) : Y.ownsRow S e' size u n xs := by
  obtain ⟨h0, hn | ⟨g, cap, cur, rfl, hg, hc, r⟩⟩ := h
  · exact ⟨h0, Or.inl hn⟩
  · exact ⟨h0, Or.inr ⟨g, cap, cur, rfl, hg, (hk g rfl (lt_of_heap hc)).trans hc, r⟩⟩
theorem UL.stay (h : UL X S T u n c mk) (hk : ∀ g, S ≤ g → g < T → g < X.heap.size → Y.heap[g]? = X.heap[g]?) : UL Y S T u n c mk := by
  rcases h with h | ⟨g, cap, cur, h0, h1, h2, hc, r⟩
  · exact .inl h
  · exact .inr ⟨g, cap, cur, h0, h1, h2, (hk g h1 h2 (lt_of_heap hc)).trans hc, r⟩
theorem UL.fewer {c' : Nat} (h : UL X S T u n c mk) (hc : c' ≤ c) : UL X S T u n c' mk := by
  rcases h with h | ⟨g, cap, cur, h0, h1, h2, h3, h4, h5, h6, q⟩
  · exact .inl h
  · exact .inr ⟨g, cap, cur, h0, h1, h2, h3, h4, h5, h6, fun i hi hn => q i (by omega) hn⟩
theorem UL.more {c' : Nat} (h : UL X S T u n c mk) (hc : n ≤ c) : UL X S T u n c' mk := by
  rcases h with h | ⟨g, cap, cur, h0, h1, h2, h3, h4, h5, h6, q⟩
  · exact .inl h
  · exact .inr ⟨g, cap, cur, h0, h1, h2, h3, h4, h5, h6, fun i hi hn => q i (by omega) hn⟩
theorem UL.shape (h : UL X S T u n c mk) : ∃ ao cap, u = .slice ao n cap ∧ n ≤ cap ∧ cap ≤ maxLen := by
  rcases h with ⟨rfl, rfl⟩ | ⟨g, cap, cur, rfl, h1, h2, hc, r1, r2, r⟩
  · exact ⟨none, 0, rfl, Nat.le_refl _, by decide⟩
  · exact ⟨_, cap, rfl, r1, r2⟩
theorem UL.spot (h : UL X S T u n c mk) (hn : 0 < n) : ∃ g cap, u = .slice (some ⟨g, 0, none⟩) n cap ∧ n ≤ cap ∧ cap ≤ maxLen ∧ S ≤ g ∧ g < T ∧ g < X.heap.size ∧
    (∀ i j, i < n → j < 1 → ∃ v, X.cell? ⟨g, i * 1 + j, none⟩ = some v) ∧ (∀ i, X.frozen? ⟨g, i, none⟩ = false) ∧ (∀ i, i < c → i < n → X.cell? ⟨g, i * 1 + 0, none⟩ = some (.int .u64 mk)) := by
  rcases h with ⟨rfl, rfl⟩ | ⟨g, cap, cur, rfl, h1, h2, hc, r1, r2, r3, q⟩
  · omega
  · exact ⟨g, cap, rfl, r1, r2, h1, h2, lt_of_heap hc, fun i j hi hj => ⟨_, cell_of hc (Array.getElem?_eq_getElem (show i * 1 + j < cur.size by omega))⟩, fun i => free_of hc i, fun i hi hn => cell_of hc (q i hi hn)⟩
theorem UL.put {g cap : Nat} (h : UL X S T (.slice (some ⟨g, 0, none⟩) n cap) n c mk) (hc : c < n) (hw : Wr X Y g c mk) : UL Y S T (.slice (some ⟨g, 0, none⟩) n cap) n (c + 1) mk := by
  rcases h with ⟨h0, _⟩ | ⟨g', cap', cur, he, h1, h2, hh, r1, r2, r3, q⟩
  · cases h0
  · simp only [Value.slice.injEq, Option.some.injEq, Addr.mk.injEq, true_and, and_true] at he
    obtain ⟨rfl, rfl⟩ := he
    obtain ⟨cur', k1, k2, k3, k4⟩ := hw.cell cur hh
    refine .inr ⟨g, cap, cur', rfl, h1, h2, k1, r1, r2, by rw [k2, r3], fun i hi hn => ?_⟩
    by_cases e : i = c
    · subst e; exact k4 (by omega)
    · rw [k3 _ (by omega)]; exact q i (by omega) hn
theorem XL.stay (h : XL X S T B x n e) (hk : ∀ g, ((S ≤ g ∧ g < T) ∨ B ≤ g) → x.ownBlock = some g → g < X.heap.size → Y.heap[g]? = X.heap[g]?) : XL Y S T B x n e := by
  obtain ⟨g, cap, cur, rfl, h1, h2, r⟩ := h
  exact ⟨g, cap, cur, rfl, h1, (hk g h1 rfl (lt_of_heap h2)).trans h2, r⟩
theorem XL.put (h : XL X S T B x n e) {g k : Nat} (hk : k < n) (hw : Wr X Y g k mk) : XL Y S T B x n e := by
  obtain ⟨g', cap, cur, rfl, h1, h2, r1, r2, r3, r4⟩ := h
  by_cases hg : g' = g
  · subst hg
    obtain ⟨cur', k1, k2, k3, k4⟩ := hw.cell cur h2
    refine ⟨g', cap, cur', rfl, h1, k1, r1, r2, ?_, ?_⟩
    · rw [k3 _ (by omega)]; exact r3
    · rw [k3 _ (by omega)]; exact r4
  · exact ⟨g', cap, cur, rfl, h1, by rw [hw.other _ hg]; exact h2, r1, r2, r3, r4⟩
theorem XL.spot (h : XL X S T B x n e) : ∃ g cap, x = .slice (some ⟨g, 0, none⟩) (n + 2) cap ∧ n + 2 ≤ cap ∧ cap ≤ maxLen ∧ g < X.heap.size ∧ X.cell? ⟨g, n * 1 + 0, none⟩ = some (.int .u64 e) ∧ X.cell? ⟨g, (n + 1) * 1 + 0, none⟩ = some (.int .u64 e) := by
  obtain ⟨g, cap, cur, rfl, h1, h2, r1, r2, r3, r4⟩ := h
  exact ⟨g, cap, rfl, r1, r2, lt_of_heap h2, cell_of h2 r3, cell_of h2 r4⟩
theorem XL.of_own {xs news : List Value} {S' : Nat} (h : X.ownsRow S' 29 1 x (n + 2) (xs ++ news)) (hl : news.length = 2 * 1) (h1 : news[0]? = some (.int .u64 e)) (h2 : news[1 + 0]? = some (.int .u64 e)) (hg : ∀ g, x.ownBlock = some g → ((S ≤ g ∧ g < T) ∨ B ≤ g)) : XL X S T B x n e := by
  obtain ⟨h0, ⟨_, hn⟩ | ⟨g, cap, cur, rfl, _, hc, r1, r2, r3, r4⟩⟩ := h
  · omega
  · have hlx : xs.length = n * 1 := by simp at h0; omega
    have hz : ∀ j, j < (n + 2) * 1 → cur[j]? = (xs ++ news)[j]? := fun j hj => by
      rw [← r4, List.getElem?_take_of_lt (by omega)]
      simp
    refine ⟨g, cap, cur, rfl, hg g rfl, hc, r1, r2, ?_, ?_⟩
    · rw [hz _ (by omega), List.getElem?_append_right (by omega), hlx, show n * 1 + 0 - n * 1 = 0 by omega]; exact h1
    · rw [hz _ (by omega), List.getElem?_append_right (by omega), hlx, show (n + 1) * 1 + 0 - n * 1 = 1 + 0 by omega]; exact h2
end
/-- The lists in a row, marked so far; beyond the first k of them two more each. -/
structure LS (G B : Nat) (vs xs : Nat → Value) (n : Nat) (S T c : Nat → Nat) (bv : Value) (k : Nat) (W : World) : Prop where
  cel : ∀ i, i < 5 → W.cell? ⟨G, i, none⟩ = some (vs i)
  l : ∀ i, i < 5 → UL W (S i) (T i) (vs i) n (c i) (2000 + (i : Int))
  x : ∀ i, i < k → XL W (S i) (T i) B (xs i) n (1000 + (i : Int))
  own : W.ownsRow B 26 1 bv k ((List.range k).map xs)
  xb : ∀ i, i < k → ∀ g, (xs i).ownBlock = some g → bv.ownBlock ≠ some g
  dis : ∀ i j, i < 5 → j < 5 → i ≠ j → T i ≤ S j ∨ T j ≤ S i
  gn : ∀ i, i < 5 → G < S i ∨ T i ≤ G
  bd : ∀ i, i < 5 → T i ≤ B
  bn : n * 8 ≤ 140737488351232
  lo : G < B ∧ B ≤ W.heap.size
  k4 : k ≤ 5
/-- Only the lists' blocks below B have turned. -/
structure LK (B : Nat) (S T : Nat → Nat) (X Y : World) : Prop where
  os : Y.os = X.os
  tape : Y.tape = X.tape
  output : Y.output = X.output
  size : X.heap.size ≤ Y.heap.size
  same : ∀ j, j < B → j < X.heap.size → (∀ i, i < 5 → j < S i ∨ T i ≤ j) → Y.heap[j]? = X.heap[j]?
theorem LK.refl (B : Nat) (S T : Nat → Nat) (X : World) : LK B S T X X := ⟨rfl, rfl, rfl, Nat.le_refl _, fun _ _ _ _ => rfl⟩
theorem LK.trans {B : Nat} {S T : Nat → Nat} {X Y Z : World} (h : LK B S T X Y) (k : LK B S T Y Z) : LK B S T X Z :=
  ⟨k.os.trans h.os, k.tape.trans h.tape, k.output.trans h.output, Nat.le_trans h.size k.size, fun j h1 h2 h3 => (k.same j h1 (Nat.lt_of_lt_of_le h2 h.size) h3).trans (h.same j h1 h2 h3)⟩
section
variable {G B : Nat} {vs xs : Nat → Value} {n : Nat} {S T c : Nat → Nat} {bv : Value} {k : Nat} {W W' : World}
theorem LS.put {i j g n' cap : Nat} (h : LS G B vs xs n S T c bv k W) (hi : i < 5) (hv : vs i = .slice (some ⟨g, 0, none⟩) n' cap) (hn : n' = n) (hj : j < n) (hc : c i = j) (hg : S i ≤ g ∧ g < T i) (hw : Wr W W' g j (2000 + (i : Int))) :
    LS G B vs xs n S T (fun q => if q = i then j + 1 else c q) bv k W' ∧ LK B S T W W' := by
  subst hn
  have hG := h.gn i hi
  have hgB : g < B := by have := h.bd i hi; omega
  refine ⟨⟨fun q hq => ?_, fun q hq => ?_, fun q hq => ?_, ?_, h.xb, h.dis, h.gn, h.bd, h.bn, ⟨h.lo.1, by rw [hw.size]; exact h.lo.2⟩, h.k4⟩, hw.os, hw.tape, hw.output, by rw [hw.size]; exact Nat.le_refl _, fun q _ _ h3 => hw.other _ (by have := h3 i hi; omega)⟩
  · have := h.cel q hq
    unfold World.cell? at this ⊢
    rw [hw.other G (by omega)]
    exact this
  · by_cases e : q = i
    · subst e
      simp only [if_true]
      have hl := h.l q hq
      rw [hv, hc] at hl
      rw [hv]
      exact hl.put hj hw
    · simp only [if_neg e]
      refine (h.l q hq).stay fun b h1 h2 _ => hw.other _ ?_
      have := h.dis q i hq hi e
      omega
  · by_cases e : q = i
    · subst e
      exact (h.x q hq).put hj hw
    · refine (h.x q hq).stay fun b h1 _ _ => hw.other _ ?_
      have := h.dis q i (by have := h.k4; omega) hi e
      omega
  · refine own_stayB h.own fun b e _ => hw.other _ ?_
    have := (h.own.lt b e).1
    omega
/-- What stays where the blocks of the lists, of what lies beyond them and of both rows do; M: what lies beyond them lies below it. -/
theorem LS.keep (h : LS G B vs xs n S T c bv k W) (M : Nat) (hx : ∀ i, i < k → ∀ g, (xs i).ownBlock = some g → g < M) (hb : ∀ g, bv.ownBlock = some g → g < M) (hs : W.heap.size ≤ W'.heap.size) (hk : ∀ j, j < W.heap.size → (j = G ∨ (∃ i, i < 5 ∧ S i ≤ j ∧ j < T i) ∨ (B ≤ j ∧ j < M)) → W'.heap[j]? = W.heap[j]?) : LS G B vs xs n S T c bv k W' := by
  have hlo := h.lo
  refine ⟨fun q hq => ?_, fun q hq => ?_, fun q hq => ?_, ?_, h.xb, h.dis, h.gn, h.bd, h.bn, ⟨h.lo.1, Nat.le_trans h.lo.2 hs⟩, h.k4⟩
  · have := h.cel q hq
    unfold World.cell? at this ⊢
    rw [hk G (by omega) (.inl rfl)]
    exact this
  · exact (h.l q hq).stay fun g h1 h2 h3 => hk g h3 (.inr (.inl ⟨q, hq, h1, h2⟩))
  · refine (h.x q hq).stay fun g h1 h2 h3 => hk g h3 ?_
    rcases h1 with h1 | h1
    · exact .inr (.inl ⟨q, by have := h.k4; omega, h1⟩)
    · exact .inr (.inr ⟨h1, hx q hq g h2⟩)
  · exact own_stayB h.own fun g e hg => hk g hg (.inr (.inr ⟨(h.own.lt g e).1, hb g e⟩))
theorem LS.top (h : LS G B vs xs n S T c bv k W) : (∀ i, i < k → ∀ g, (xs i).ownBlock = some g → g < W.heap.size) ∧ (∀ g, bv.ownBlock = some g → g < W.heap.size) := by
  refine ⟨fun i hi g e => ?_, fun g e => (h.own.lt g e).2⟩
  obtain ⟨g', cap, cur, hx, _, hh, _⟩ := h.x i hi
  rw [hx] at e
  cases e
  exact lt_of_heap hh
theorem LS.rise (h : LS G B vs xs n S T c (.slice none 0 0) 0 W) : LS G W.heap.size vs xs n S T c (.slice none 0 0) 0 W :=
  ⟨h.cel, h.l, fun i hi => absurd hi (Nat.not_lt_zero _), World.ownsRow_nil _ _ _ _, fun i hi => absurd hi (Nat.not_lt_zero _), h.dis, h.gn, fun i hi => Nat.le_trans (h.bd i hi) h.lo.2, h.bn, ⟨Nat.lt_of_lt_of_le h.lo.1 h.lo.2, Nat.le_refl _⟩, h.k4⟩
theorem range_app (k : Nat) (xs : Nat → Value) (x : Value) : (List.range (k + 1)).map (fun i => if i = k then x else xs i) = (List.range k).map xs ++ [x] := by
  rw [List.range_succ, List.map_append]
  congr 1
  · refine List.map_congr_left fun i hi => ?_
    have := List.mem_range.1 hi
    rw [if_neg (by omega)]
  · simp
theorem LS.app (h : LS G B vs xs n S T (fun _ => 0) bv k W) (hk : k < 5) : ∃ g cap Y ao c Z,
    (Builtin.append_ #[26, 26] 26 #[vs k, .slice (some ⟨W.heap.size, 0, none⟩) 2 2]).run Try.prog (W.alloc (.cells #[.int .u64 (1000 + (k : Int)), .int .u64 (1000 + (k : Int))] 29)) = .ok (.slice (some ⟨g, 0, none⟩) (n + 2) cap) Y ∧
    (Builtin.append_ #[73, 73] 73 #[bv, .slice (some ⟨Y.heap.size, 0, none⟩) 1 1]).run Try.prog (Y.alloc (.cells #[.slice (some ⟨g, 0, none⟩) (n + 2) cap] 26)) = .ok (.slice ao (k + 1) c) Z ∧
    (∃ xs', LS G B vs xs' n S T (fun _ => 0) (.slice ao (k + 1) c) (k + 1) Z) ∧ LK B S T W Z := by
  obtain ⟨i0, hi0, hz0, hz1, hz2⟩ := info_parts Try.info29
  obtain ⟨i1, hi1, hy0, hy1, hy2⟩ := info_parts Try.info26
  obtain ⟨us, hu, hT⟩ := (h.l k hk).own
  have hbd := h.bd k hk
  have hbn := h.bn
  have hlo := h.lo
  have hgn := h.gn k hk
  obtain ⟨L, hL⟩ : ∃ L : Array Value, L = #[.int .u64 (1000 + (k : Int)), .int .u64 (1000 + (k : Int))] := ⟨_, rfl⟩
  have hLl : L.toList.length = 2 * 1 := by rw [hL]; rfl
  have hLa : L.toList[0]? = some (.int .u64 (1000 + (k : Int))) := by rw [hL]; rfl
  have hLb : L.toList[1 + 0]? = some (.int .u64 (1000 + (k : Int))) := by rw [hL]; rfl
  have hLo : ∀ u ∈ L.toList, u.oneCell' = true := by rw [hL]; simp [Value.oneCell']
  obtain ⟨W1, hW1⟩ : ∃ W1, W1 = W.alloc (.cells L 29) := ⟨_, rfl⟩
  have b1 : Below W.heap.size W W1 := by rw [hW1]; exact (Below.refl _ _).alloc (Nat.le_refl _) _
  have s1 : W1.heap.size = W.heap.size + 1 := by rw [hW1]; simp
  have hu1 : W1.ownsRow (S k) 29 1 (vs k) n us := own_stayB hu fun g _ hg => b1.block g hg
  obtain ⟨x, Y, hr1, hcase⟩ := run_app_split W1 (S k) 26 26 29 1 i0 (.int .u64 0) 8 Try.underlying26 hi0 hz0 hz1 hz2 rfl (by decide) (vs k) n us hu1 ⟨W.heap.size, 0, none⟩ 2 2 L.toList hLl (by rw [hW1]; exact arr_atB W L 29) hLo (by unfold maxLen; omega) (by omega)
  obtain ⟨F1, F2, F3, F4, F5⟩ : (∀ j, j < W.heap.size → (j < S k ∨ T k ≤ j) → Y.heap[j]? = W.heap[j]?) ∧ UL Y (S k) (T k) (vs k) n 0 (2000 + (k : Int)) ∧ XL Y (S k) (T k) B x n (1000 + (k : Int)) ∧
      (Y.os = W.os ∧ Y.tape = W.tape ∧ Y.output = W.output ∧ W.heap.size ≤ Y.heap.size) ∧ (∀ g, x.ownBlock = some g → bv.ownBlock ≠ some g) := by
    rcases hcase with ⟨g, cap, hv, rfl, ho, hgr⟩ | ⟨ho, hgr⟩
    · have hgS := hu.lt g (by rw [hv]; rfl)
      have hgT := hT g (by rw [hv]; rfl)
      refine ⟨fun j hj hd => (hgr.block j (by omega) (fun e => by simp only [Option.some.injEq] at e; omega)).trans (b1.block j hj), ?_, XL.of_own ho hLl hLa hLb (fun g' e => by cases e; exact .inl ⟨hgS.1, hgT⟩), ⟨hgr.os.trans b1.os, hgr.tape.trans b1.tape, hgr.output.trans b1.output, by have := hgr.size; omega⟩, fun g' e e2 => ?_⟩
      · rw [hv]
        obtain ⟨h0, ⟨he, _⟩ | ⟨g', cap', cur, he, hg', hc, r1, r2, r3, r4⟩⟩ := ho
        · simp at he
        · simp only [Value.slice.injEq, Option.some.injEq, Addr.mk.injEq, true_and, and_true] at he
          obtain ⟨rfl, rfl⟩ := he
          exact .inr ⟨g, cap, cur, rfl, hgS.1, hgT, hc, by omega, r2, r3, fun i hi => absurd hi (Nat.not_lt_zero _)⟩
      · cases e
        have := (h.own.lt g e2).1
        omega
    · refine ⟨fun j hj hd => (hgr.block j (by omega) (fun e => by cases e)).trans (b1.block j hj), ?_, XL.of_own ho hLl hLa hLb (fun g' e => .inr (by have := (ho.lt g' e).1; omega)), ⟨hgr.os.trans b1.os, hgr.tape.trans b1.tape, hgr.output.trans b1.output, by have := hgr.size; omega⟩, fun g' e e2 => ?_⟩
      · exact (h.l k hk).stay fun g _ _ hg => (hgr.block g (by omega) (fun e => by cases e)).trans (b1.block g hg)
      · have h3 := (ho.lt g' e).1
        have h4 := (h.own.lt g' e2).2
        omega
  obtain ⟨g, cap, hx⟩ : ∃ g cap, x = .slice (some ⟨g, 0, none⟩) (n + 2) cap := by obtain ⟨g, cap, cur, hx, _⟩ := F3; exact ⟨g, cap, hx⟩
  have hxl : ∀ g, x.ownBlock = some g → g < Y.heap.size := fun g' e => by
    obtain ⟨g, cap, cur, rfl, _, hh, _⟩ := F3
    cases e
    exact lt_of_heap hh
  obtain ⟨Y1, hY1⟩ : ∃ Y1, Y1 = Y.alloc (.cells #[x] 26) := ⟨_, rfl⟩
  have b2 : Below Y.heap.size Y Y1 := by rw [hY1]; exact (Below.refl _ _).alloc (Nat.le_refl _) _
  have s2 : Y1.heap.size = Y.heap.size + 1 := by rw [hY1]; simp
  have hbv : Y.ownsRow B 26 1 bv k ((List.range k).map xs) := own_stayB h.own fun g e hg => F1 g hg (by have := (h.own.lt g e).1; omega)
  have hbv1 : Y1.ownsRow B 26 1 bv k ((List.range k).map xs) := own_stayB hbv fun g _ hg => b2.block g hg
  obtain ⟨bv', Z, hr2, hcase2⟩ := run_app_split Y1 B 73 73 26 1 i1 (.slice none 0 0) 24 Try.underlying73 hi1 hy0 hy1 hy2 rfl (by decide) bv k _ hbv1 ⟨Y.heap.size, 0, none⟩ 1 1 [x] rfl (by rw [hY1]; exact arr_atB Y #[x] 26) (by rw [hx]; simp [Value.oneCell']) (by unfold maxLen; omega) (by omega)
  obtain ⟨E1, E2, E3, E4⟩ : (∀ j, j < Y.heap.size → bv.ownBlock ≠ some j → Z.heap[j]? = Y.heap[j]?) ∧ Z.ownsRow B 26 1 bv' (k + 1) ((List.range k).map xs ++ [x]) ∧ (∀ g, bv'.ownBlock = some g → bv.ownBlock = some g ∨ Y.heap.size ≤ g) ∧ (Z.os = Y.os ∧ Z.tape = Y.tape ∧ Z.output = Y.output ∧ Y.heap.size ≤ Z.heap.size) := by
    rcases hcase2 with ⟨gb, capb, rfl, rfl, ho, hgr⟩ | ⟨ho, hgr⟩
    · exact ⟨fun j hj hd => (hgr.block j (by omega) (fun e => hd (by rw [e]; rfl))).trans (b2.block j hj), ho, fun g e => .inl e, hgr.os.trans b2.os, hgr.tape.trans b2.tape, hgr.output.trans b2.output, by have := hgr.size; omega⟩
    · refine ⟨fun j hj hd => (hgr.block j (by omega) (fun e => by cases e)).trans (b2.block j hj), ⟨ho.1, ho.2.imp id fun ⟨g, cap, cur, he, hg, r⟩ => ⟨g, cap, cur, he, by omega, r⟩⟩, fun g e => .inr (by have := (ho.lt g e).1; omega), hgr.os.trans b2.os, hgr.tape.trans b2.tape, hgr.output.trans b2.output, by have := hgr.size; omega⟩
  have nb : ∀ j, j < B → bv.ownBlock ≠ some j := fun j hj e => by have := (h.own.lt j e).1; omega
  obtain ⟨ao, c, rfl⟩ := owns_shape E2
  refine ⟨g, cap, Y, ao, c, Z, by rw [← hx, ← hL, ← hW1]; exact hr1, by rw [← hx, ← hY1]; exact hr2, ⟨fun i => if i = k then x else xs i, ?_⟩, F4.1 ▸ E4.1, E4.2.1.trans F4.2.1, E4.2.2.1.trans F4.2.2.1, Nat.le_trans F4.2.2.2 E4.2.2.2, fun j h1 h2 h3 => (E1 j (Nat.lt_of_lt_of_le h2 F4.2.2.2) (nb j h1)).trans (F1 j h2 (h3 k hk))⟩
  refine ⟨fun i hi => ?_, fun i hi => ?_, fun i hi => ?_, by rw [range_app]; exact E2, fun i hi g' e => ?_, h.dis, h.gn, h.bd, h.bn, ⟨hlo.1, Nat.le_trans hlo.2 (Nat.le_trans F4.2.2.2 E4.2.2.2)⟩, hk⟩
  · have := h.cel i hi
    unfold World.cell? at this ⊢
    rw [E1 G (by omega) (nb G hlo.1), F1 G (by omega) (by omega)]
    exact this
  · by_cases e : i = k
    · subst e
      exact F2.stay fun g h1 h2 h3 => E1 g h3 (nb g (by omega))
    · have hd := h.dis i k hi hk e
      have hb := h.bd i hi
      refine (h.l i hi).stay fun g h1 h2 h3 => (E1 g (by omega) (nb g (by omega))).trans (F1 g h3 (by omega))
  · by_cases e : i = k
    · subst e
      simp only [if_true]
      exact F3.stay fun g h1 h2 h3 => E1 g h3 (F5 g h2)
    · simp only [if_neg e]
      have hd := h.dis i k (by omega) hk e
      exact (h.x i (by omega)).stay fun g h1 h2 h3 => (E1 g (by omega) (h.xb i (by omega) g h2)).trans (F1 g h3 (by omega))
  · intro e2
    by_cases ei : i = k
    · rw [if_pos ei] at e
      rcases E3 g' e2 with h4 | h4
      · exact F5 g' e h4
      · have := hxl g' e; omega
    · rw [if_neg ei] at e
      rcases E3 g' e2 with h4 | h4
      · exact h.xb i (by omega) g' e h4
      · obtain ⟨g, cap, cur, hxe, _, hh, _⟩ := h.x i (by omega)
        rw [hxe] at e
        have h5 : g = g' := Option.some.inj e
        have h6 := lt_of_heap hh
        have h7 := F4.2.2.2
        omega
end
end Go.Proofs.Ytfgchkkljlbmcaa.U
