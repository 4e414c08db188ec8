/- OctetFresh: four lists and what lies beyond them. -/
import Derived.Test.YtpfpelhhebafeaaDoorFrB
import Derived.ArgAppend
namespace Go.Proofs.YtpfpelhhebafeaaDoor
open Go.RowKit Go.Lib
set_option linter.unusedVariables false
set_option linter.unusedSimpArgs false
theorem Tryd.info22 : (Tryd.prog.info? 22).map (fun i => (i.zero, i.size, i.bytes)) = some (some (.slice none 0 0), 1, 24) := by kernel_rfl
/-- An append to a row of one's own: in place, or anew. -/
theorem run_app_split (w : World) (B : Nat) (t ty e : TypeId) (i : TypeInfo) (z : Value) (bytes : Nat) (ht : Tryd.prog.underlying t = some (.slice e)) (hi : Tryd.prog.info? e = some i) (hz : i.zero = some z) (hsize : i.size = 1) (hby : i.bytes = bytes) (hzs : z.cells.size = 1)
    (v : Value) (n : Nat) (xs : List Value) (hown : w.ownsRow B e 1 v n xs) (a : Addr) (m c : Nat) (news : List Value) (hl : news.length = m) (hnews : ∀ j u, news[j]? = some u → w.cell? (a.add j) = some u) (h1 : ∀ u ∈ news, u.oneCell' = true) (h63 : n + m ≤ maxLen) (hbytes : (n + m) * bytes ≤ 140737488355328) :
    ∃ v' w', (Builtin.append_ #[t, t] ty #[v, .slice (some a) m c]).run Tryd.prog w = .ok v' w' ∧
      ((∃ g cap, v = .slice (some ⟨g, 0, none⟩) n cap ∧ v' = .slice (some ⟨g, 0, none⟩) (n + m) cap ∧ w'.ownsRow B e 1 v' (n + m) (xs ++ news) ∧ w.grownBy w' (some g)) ∨ (w'.ownsRow w.heap.size e 1 v' (n + m) (xs ++ news) ∧ w.grownBy w' none)) := by
  have hl1 : news.length = m * 1 := by omega
  rcases id hown with ⟨h0, ⟨rfl, rfl⟩ | ⟨g, cap, cur, rfl, hg, hc, r1, r2, r3, r4⟩⟩
  · obtain rfl : xs = [] := List.eq_nil_of_length_eq_zero (by simpa using h0)
    obtain ⟨v', w', hrun, q1, q2, _⟩ := run_append_own (P := Tryd.prog) w w.heap.size t ty e i z 1 bytes ht hi hz hsize hby hzs (by decide) (.slice none 0 0) 0 [] (World.ownsRow_nil w _ e 1) a m c news hl1 hnews h1 h63 hbytes (Nat.le_refl _)
    exact ⟨v', w', hrun, .inr ⟨q1, q2⟩⟩
  · by_cases hr : n + m ≤ cap
    · obtain ⟨w', hrun, q1, q2⟩ := run_append_fits (P := Tryd.prog) w B t ty e i 1 ht hi hsize g n cap xs hown a m c news hl1 hnews h1 hr
      exact ⟨_, w', hrun, .inl ⟨g, cap, rfl, rfl, q1, q2⟩⟩
    · obtain ⟨v', w', hrun, q1, q2⟩ := run_append_arg_grows (P := Tryd.prog) w t ty e i z 1 bytes ht hi hz hsize hby hzs (by decide) ⟨g, 0, none⟩ n cap xs h0 (fun j u hj => hown.cells (g := g) rfl j u hj) a m c news hl1 hnews (by omega) h63 hbytes
      exact ⟨v', w', hrun, .inr ⟨q1, q2⟩⟩
/-- A list of n bytes in a block of [S, T), the first c of them mk. -/
def UL (X : World) (S T : Nat) (u : Value) (n c : Nat) (mk : Int) : Prop :=
  ∃ xs : List Value, X.ownsRow S 5 1 u n xs ∧ (∀ i, i < c → i < n → xs[i]? = some (.int .u8 mk)) ∧ (∀ g, u.ownBlock = some g → g < T)
/-- n bytes, then two of e, in a block of [S, T) or in one from B on. -/
def XL (X : World) (S T B : Nat) (x : Value) (n : Nat) (e : Int) : Prop :=
  ∃ g cap cur, x = .slice (some ⟨g, 0, none⟩) (n + 2) cap ∧ ((S ≤ g ∧ g < T) ∨ B ≤ g) ∧ X.heap[g]? = some (.cells cur 5 (0, 0)) ∧ n + 2 ≤ cap ∧ cap ≤ maxLen ∧ cur[n]? = some (.int .u8 e) ∧ cur[n + 1]? = some (.int .u8 e)
section
variable {X Y : World} {S T B : Nat} {u x : Value} {n c : Nat} {mk e : Int}
theorem UL.of_own {xs : List Value} (h : X.ownsRow S 5 1 u n xs) (ht : ∀ g, u.ownBlock = some g → g < T) (mk : Int) : UL X S T u n 0 mk := ⟨xs, h, fun i hi => absurd hi (Nat.not_lt_zero _), ht⟩
theorem own_stayB {e' : TypeId} {size : Nat} {xs : List Value} (h : X.ownsRow S e' size u n xs) (hk : ∀ g, u.ownBlock = some g → g < X.heap.size → Y.heap[g]? = X.heap[g]?) : Y.ownsRow S e' size u n xs := by
  obtain ⟨h0, hn | ⟨g, cap, cur, rfl, hg, hc, r⟩⟩ := h
  · exact ⟨h0, Or.inl hn⟩
  · exact ⟨h0, Or.inr ⟨g, cap, cur, rfl, hg, (hk g rfl (lt_of_heap hc)).trans hc, r⟩⟩
theorem UL.stay (h : UL X S T u n c mk) (hk : ∀ g, S ≤ g → g < T → g < X.heap.size → Y.heap[g]? = X.heap[g]?) : UL Y S T u n c mk := by
  obtain ⟨xs, h1, h2, h3⟩ := h
  exact ⟨xs, own_stayB h1 (fun g e hg => hk g (h1.lt g e).1 (h3 g e) hg), h2, h3⟩
theorem UL.fewer {c' : Nat} (h : UL X S T u n c mk) (hc : c' ≤ c) : UL X S T u n c' mk := by
  obtain ⟨xs, p, q, r⟩ := h
  exact ⟨xs, p, fun i hi hn => q i (by omega) hn, r⟩
theorem UL.more {c' : Nat} (h : UL X S T u n c mk) (hc : n ≤ c) : UL X S T u n c' mk := by
  obtain ⟨xs, p, q, r⟩ := h
  exact ⟨xs, p, fun i hi hn => q i (by omega) hn, r⟩
theorem UL.spot (h : UL X S T u n c mk) : (u = .slice none 0 0 ∧ n = 0) ∨ ∃ g cap, u = .slice (some ⟨g, 0, none⟩) n cap ∧ n ≤ cap ∧ cap ≤ maxLen ∧ S ≤ g ∧ g < T ∧
    (∀ i, i < n → ∃ v, X.cell? ⟨g, i, none⟩ = some v) ∧ (∀ i, X.frozen? ⟨g, i, none⟩ = false) ∧ (∀ i, i < c → i < n → X.cell? ⟨g, i, none⟩ = some (.int .u8 mk)) := by
  obtain ⟨xs, ⟨h0, hn | ⟨g, cap, cur, rfl, hg, hc, r1, r2, r3, r4⟩⟩, q, r⟩ := h
  · exact .inl hn
  · refine .inr ⟨g, cap, rfl, r1, r2, hg, r g rfl, fun i hi => ?_, fun i => free_of hc i, fun i hi hn => ?_⟩
    · have hlt : i < cur.size := by omega
      exact ⟨_, cell_of hc (Array.getElem?_eq_getElem hlt)⟩
    · have e := q i hi hn
      rw [← r4, List.getElem?_take_of_lt (by omega)] at e
      exact cell_of hc (by simpa using e)
theorem UL.put {g cap : Nat} (h : UL X S T (.slice (some ⟨g, 0, none⟩) n cap) n c mk) (hc : c < n) : UL (X.setCell ⟨g, c, none⟩ (.int .u8 mk)) S T (.slice (some ⟨g, 0, none⟩) n cap) n (c + 1) mk := by
  obtain ⟨xs, ⟨h0, hn | ⟨g', cap', cur, he, hg, hh, r1, r2, r3, r4⟩⟩, q, r⟩ := h
  · simp at hn
  · simp only [Value.slice.injEq, Option.some.injEq, Addr.mk.injEq, true_and, and_true] at he
    obtain ⟨rfl, rfl⟩ := he
    have hlen : xs.length = n * 1 := h0
    refine ⟨xs.set c (.int .u8 mk), ⟨by simp [hlen], .inr ⟨g, cap, _, rfl, hg, heap_set hh _, r1, r2, by simp [r3], ?_⟩⟩, fun i hi hn => ?_, r⟩
    · rw [← r4, Array.toList_setIfInBounds, List.take_set]
    · rw [List.getElem?_set]
      by_cases e : i = c
      · subst e; rw [if_pos rfl, if_pos (by omega)]
      · rw [if_neg (by omega)]; exact q i (by omega) hn
theorem XL.stay (h : XL X S T B x n e) (hk : ∀ g, ((S ≤ g ∧ g < T) ∨ B ≤ g) → x.ownBlock = some g → g < X.heap.size → Y.heap[g]? = X.heap[g]?) : XL Y S T B x n e := by
  obtain ⟨g, cap, cur, rfl, h1, h2, r⟩ := h
  exact ⟨g, cap, cur, rfl, h1, (hk g h1 rfl (lt_of_heap h2)).trans h2, r⟩
theorem XL.put (h : XL X S T B x n e) {g k : Nat} (hk : k < n) (v : Value) : XL (X.setCell ⟨g, k, none⟩ v) S T B x n e := by
  obtain ⟨g', cap, cur, rfl, h1, h2, r1, r2, r3, r4⟩ := h
  by_cases hg : g' = g
  · subst hg
    refine ⟨g', cap, _, rfl, h1, heap_set h2 _, r1, r2, ?_, ?_⟩
    · rw [Array.getElem?_setIfInBounds_ne (by omega)]; exact r3
    · rw [Array.getElem?_setIfInBounds_ne (by omega)]; exact r4
  · exact ⟨g', cap, cur, rfl, h1, by rw [Below.heap_setCell _ _ _ _ hg]; exact h2, r1, r2, r3, r4⟩
theorem XL.spot (h : XL X S T B x n e) : ∃ g cap, x = .slice (some ⟨g, 0, none⟩) (n + 2) cap ∧ n + 2 ≤ cap ∧ cap ≤ maxLen ∧ X.cell? ⟨g, n, none⟩ = some (.int .u8 e) ∧ X.cell? ⟨g, n + 1, none⟩ = some (.int .u8 e) := by
  obtain ⟨g, cap, cur, rfl, h1, h2, r1, r2, r3, r4⟩ := h
  exact ⟨g, cap, rfl, r1, r2, cell_of h2 r3, cell_of h2 r4⟩
theorem XL.of_own {xs : List Value} {S' : Nat} (h : X.ownsRow S' 5 1 x (n + 2) (xs ++ [.int .u8 e, .int .u8 e])) (hg : ∀ g, x.ownBlock = some g → ((S ≤ g ∧ g < T) ∨ B ≤ g)) : XL X S T B x n e := by
  obtain ⟨h0, ⟨_, hn⟩ | ⟨g, cap, cur, rfl, _, hc, r1, r2, r3, r4⟩⟩ := h
  · omega
  · have hl : xs.length = n := by simp at h0; omega
    have hz : ∀ j, j < n + 2 → cur[j]? = (xs ++ [.int .u8 e, .int .u8 e])[j]? := fun j hj => by
      rw [← r4, List.getElem?_take_of_lt (by omega)]
      simp
    refine ⟨g, cap, cur, rfl, hg g rfl, hc, r1, r2, ?_, ?_⟩
    · rw [hz n (by omega), List.getElem?_append_right (by omega), hl]; simp
    · rw [hz (n + 1) (by omega), List.getElem?_append_right (by omega), hl]; simp
end
/-- Four lists in a row, marked so far; beyond the first k of them two more bytes each. -/
structure LS (G B : Nat) (vs xs : Nat → Value) (ns S T c : Nat → Nat) (bv : Value) (k : Nat) (W : World) : Prop where
  cel : ∀ i, i < 4 → W.cell? ⟨G, i, none⟩ = some (vs i)
  l : ∀ i, i < 4 → UL W (S i) (T i) (vs i) (ns i) (c i) (110 + (i : Int))
  x : ∀ i, i < k → XL W (S i) (T i) B (xs i) (ns i) (100 + (i : Int))
  own : W.ownsRow B 22 1 bv k ((List.range k).map xs)
  xb : ∀ i, i < k → ∀ g, (xs i).ownBlock = some g → bv.ownBlock ≠ some g
  dis : ∀ i j, i < 4 → j < 4 → i ≠ j → T i ≤ S j ∨ T j ≤ S i
  gn : ∀ i, i < 4 → G < S i ∨ T i ≤ G
  bd : ∀ i, i < 4 → ns i ≤ 140737488351232 ∧ T i ≤ B
  lo : G < B ∧ B ≤ W.heap.size
  k4 : k ≤ 4
/-- Only the lists' blocks below B have turned. -/
structure LK (B : Nat) (S T : Nat → Nat) (X Y : World) : Prop where
  os : Y.os = X.os
  tape : Y.tape = X.tape
  output : Y.output = X.output
  size : X.heap.size ≤ Y.heap.size
  same : ∀ j, j < B → j < X.heap.size → (∀ i, i < 4 → j < S i ∨ T i ≤ j) → Y.heap[j]? = X.heap[j]?
theorem LK.refl (B : Nat) (S T : Nat → Nat) (X : World) : LK B S T X X := ⟨rfl, rfl, rfl, Nat.le_refl _, fun _ _ _ _ => rfl⟩
theorem LK.trans {B : Nat} {S T : Nat → Nat} {X Y Z : World} (h : LK B S T X Y) (k : LK B S T Y Z) : LK B S T X Z :=
  ⟨k.os.trans h.os, k.tape.trans h.tape, k.output.trans h.output, Nat.le_trans h.size k.size, fun j h1 h2 h3 => (k.same j h1 (Nat.lt_of_lt_of_le h2 h.size) h3).trans (h.same j h1 h2 h3)⟩
section
variable {G B : Nat} {vs xs : Nat → Value} {ns S T c : Nat → Nat} {bv : Value} {k : Nat} {W : World}
theorem LS.put {i j g n cap : Nat} (h : LS G B vs xs ns S T c bv k W) (hi : i < 4) (hv : vs i = .slice (some ⟨g, 0, none⟩) n cap) (hn : n = ns i) (hj : j < n) (hc : c i = j) (hg : S i ≤ g ∧ g < T i) :
    LS G B vs xs ns S T (fun q => if q = i then j + 1 else c q) bv k (W.setCell ⟨g, j, none⟩ (.int .u8 (110 + (i : Int)))) ∧ LK B S T W (W.setCell ⟨g, j, none⟩ (.int .u8 (110 + (i : Int)))) := by
  have hG := h.gn i hi
  have hgB : g < B := by have := (h.bd i hi).2; omega
  refine ⟨⟨fun q hq => ?_, fun q hq => ?_, fun q hq => ?_, ?_, h.xb, h.dis, h.gn, h.bd, ⟨h.lo.1, by rw [show (W.setCell ⟨g, j, none⟩ (.int .u8 (110 + (i : Int)))).heap.size = W.heap.size by simp [World.setCell]]; exact h.lo.2⟩, h.k4⟩, rfl, rfl, rfl, by simp [World.setCell], fun q _ _ h3 => Below.heap_setCell _ _ _ _ (by have := h3 i hi; show q ≠ g; omega)⟩
  · have := h.cel q hq
    unfold World.cell? at this ⊢
    rw [Below.heap_setCell _ _ _ _ (show G ≠ g by omega)]
    exact this
  · by_cases e : q = i
    · subst e
      simp only [if_true]
      have hl := h.l q hq
      rw [hv, ← hn, hc] at hl
      rw [hv, ← hn]
      exact hl.put hj
    · simp only [if_neg e]
      refine (h.l q hq).stay fun b h1 h2 _ => Below.heap_setCell _ _ _ _ ?_
      have := h.dis q i hq hi e
      simp only
      omega
  · by_cases e : q = i
    · subst e
      exact (h.x q hq).put (by omega) _
    · refine (h.x q hq).stay fun b h1 _ _ => Below.heap_setCell _ _ _ _ ?_
      simp only
      have := h.dis q i (by have := h.k4; omega) hi e
      omega
  · refine own_stayB h.own fun b e _ => Below.heap_setCell _ _ _ _ ?_
    have := (h.own.lt b e).1
    simp only
    omega
theorem arr_atB (W : World) (l : Array Value) (t : TypeId) : ∀ (j : Nat) (u : Value), l.toList[j]? = some u → (W.alloc (.cells l t)).cell? ((⟨W.heap.size, 0, none⟩ : Addr).add j) = some u := by
  intro j u hj
  rw [Addr.add_lit, Nat.zero_add]
  exact cell_of (heap_new W _) (by simpa using hj)
theorem range_app (k : Nat) (xs : Nat → Value) (x : Value) : (List.range (k + 1)).map (fun i => if i = k then x else xs i) = (List.range k).map xs ++ [x] := by
  rw [List.range_succ, List.map_append]
  congr 1
  · refine List.map_congr_left fun i hi => ?_
    have := List.mem_range.1 hi
    rw [if_neg (by omega)]
  · simp
theorem LS.app (h : LS G B vs xs ns S T (fun _ => 0) bv k W) (hk : k < 4) : ∃ g cap Y ao c Z,
    (Builtin.append_ #[22, 22] 22 #[vs k, .slice (some ⟨W.heap.size, 0, none⟩) 2 2]).run Tryd.prog (W.alloc (.cells #[.int .u8 (100 + (k : Int)), .int .u8 (100 + (k : Int))] 5)) = .ok (.slice (some ⟨g, 0, none⟩) (ns k + 2) cap) Y ∧
    (Builtin.append_ #[48, 48] 48 #[bv, .slice (some ⟨Y.heap.size, 0, none⟩) 1 1]).run Tryd.prog (Y.alloc (.cells #[.slice (some ⟨g, 0, none⟩) (ns k + 2) cap] 22)) = .ok (.slice ao (k + 1) c) Z ∧
    (∃ xs', LS G B vs xs' ns S T (fun _ => 0) (.slice ao (k + 1) c) (k + 1) Z) ∧ LK B S T W Z := by
  obtain ⟨i0, hi0, hz0, hz1, hz2⟩ := info_parts Tryd.info5
  obtain ⟨i1, hi1, hy0, hy1, hy2⟩ := info_parts Tryd.info22
  obtain ⟨us, hu, _, hT⟩ := h.l k hk
  have hbd := h.bd k hk
  have hlo := h.lo
  have hgn := h.gn k hk
  obtain ⟨e, he⟩ : ∃ e : Value, e = .int .u8 (100 + (k : Int)) := ⟨_, rfl⟩
  obtain ⟨W1, hW1⟩ : ∃ W1, W1 = W.alloc (.cells #[e, e] 5) := ⟨_, rfl⟩
  have b1 : Below W.heap.size W W1 := by rw [hW1]; exact (Below.refl _ _).alloc (Nat.le_refl _) _
  have s1 : W1.heap.size = W.heap.size + 1 := by rw [hW1]; simp
  have hu1 : W1.ownsRow (S k) 5 1 (vs k) (ns k) us := own_stayB hu fun g _ hg => b1.block g hg
  obtain ⟨x, Y, hr1, hcase⟩ := run_app_split W1 (S k) 22 22 5 i0 (.int .u8 0) 1 Tryd.underlying22 hi0 hz0 hz1 hz2 rfl (vs k) (ns k) us hu1 ⟨W.heap.size, 0, none⟩ 2 2 [e, e] rfl (by rw [hW1]; exact arr_atB W #[e, e] 5) (by rw [he]; simp [Value.oneCell']) (by unfold maxLen; omega) (by omega)
  obtain ⟨F1, F2, F3, F4, F5⟩ : (∀ j, j < W.heap.size → (j < S k ∨ T k ≤ j) → Y.heap[j]? = W.heap[j]?) ∧ UL Y (S k) (T k) (vs k) (ns k) 0 (110 + (k : Int)) ∧ XL Y (S k) (T k) B x (ns k) (100 + (k : Int)) ∧
      (Y.os = W.os ∧ Y.tape = W.tape ∧ Y.output = W.output ∧ W.heap.size ≤ Y.heap.size) ∧ (∀ g, x.ownBlock = some g → bv.ownBlock ≠ some g) := by
    rw [he] at hcase
    rcases hcase with ⟨g, cap, hv, rfl, ho, hgr⟩ | ⟨ho, hgr⟩
    · have hgS := hu.lt g (by rw [hv]; rfl)
      have hgT := hT g (by rw [hv]; rfl)
      refine ⟨fun j hj hd => (hgr.block j (by omega) (fun e => by simp only [Option.some.injEq] at e; omega)).trans (b1.block j hj), ?_, XL.of_own ho (fun g' e => by cases e; exact .inl ⟨hgS.1, hgT⟩), ⟨hgr.os.trans b1.os, hgr.tape.trans b1.tape, hgr.output.trans b1.output, by have := hgr.size; omega⟩, fun g' e e2 => ?_⟩
      · rw [hv]
        obtain ⟨h0, ⟨he, _⟩ | ⟨g', cap', cur, he, hg', hc, r1, r2, r3, r4⟩⟩ := ho
        · simp at he
        · simp only [Value.slice.injEq, Option.some.injEq, Addr.mk.injEq, true_and, and_true] at he
          obtain ⟨rfl, rfl⟩ := he
          have hul : us.length = ns k * 1 := hu.1
          refine ⟨us, ⟨hul, .inr ⟨g, cap, cur, rfl, hg', hc, by omega, r2, r3, ?_⟩⟩, fun i hi => absurd hi (Nat.not_lt_zero _), fun g' e => by cases e; exact hgT⟩
          have h5 := congrArg (List.take (ns k * 1)) r4
          rw [List.take_take, Nat.min_eq_left (by omega), ← hul, List.take_left] at h5
          rw [← hul]
          exact h5
      · cases e
        have := (h.own.lt g e2).1
        omega
    · refine ⟨fun j hj hd => (hgr.block j (by omega) (fun e => by cases e)).trans (b1.block j hj), ?_, XL.of_own ho (fun g' e => .inr (by have := (ho.lt g' e).1; omega)), ⟨hgr.os.trans b1.os, hgr.tape.trans b1.tape, hgr.output.trans b1.output, by have := hgr.size; omega⟩, fun g' e e2 => ?_⟩
      · exact (h.l k hk).stay fun g _ _ hg => (hgr.block g (by omega) (fun e => by cases e)).trans (b1.block g hg)
      · have h3 := (ho.lt g' e).1
        have h4 := (h.own.lt g' e2).2
        omega
  obtain ⟨g, cap, hx⟩ : ∃ g cap, x = .slice (some ⟨g, 0, none⟩) (ns k + 2) cap := by obtain ⟨g, cap, cur, hx, _⟩ := F3; exact ⟨g, cap, hx⟩
  have hxl : ∀ g, x.ownBlock = some g → g < Y.heap.size := fun g' e => by
    obtain ⟨g, cap, cur, rfl, _, hh, _⟩ := F3
    cases e
    exact lt_of_heap hh
  obtain ⟨Y1, hY1⟩ : ∃ Y1, Y1 = Y.alloc (.cells #[x] 22) := ⟨_, rfl⟩
  have b2 : Below Y.heap.size Y Y1 := by rw [hY1]; exact (Below.refl _ _).alloc (Nat.le_refl _) _
  have s2 : Y1.heap.size = Y.heap.size + 1 := by rw [hY1]; simp
  have hbv : Y.ownsRow B 22 1 bv k ((List.range k).map xs) := own_stayB h.own fun g e hg => F1 g hg (by have := (h.own.lt g e).1; omega)
  have hbv1 : Y1.ownsRow B 22 1 bv k ((List.range k).map xs) := own_stayB hbv fun g _ hg => b2.block g hg
  obtain ⟨bv', Z, hr2, hcase2⟩ := run_app_split Y1 B 48 48 22 i1 (.slice none 0 0) 24 Tryd.underlying48 hi1 hy0 hy1 hy2 rfl bv k _ hbv1 ⟨Y.heap.size, 0, none⟩ 1 1 [x] rfl (by rw [hY1]; exact arr_atB Y #[x] 22) (by rw [hx]; simp [Value.oneCell']) (by unfold maxLen; omega) (by omega)
  obtain ⟨E1, E2, E3, E4⟩ : (∀ j, j < Y.heap.size → bv.ownBlock ≠ some j → Z.heap[j]? = Y.heap[j]?) ∧ Z.ownsRow B 22 1 bv' (k + 1) ((List.range k).map xs ++ [x]) ∧ (∀ g, bv'.ownBlock = some g → bv.ownBlock = some g ∨ Y.heap.size ≤ g) ∧ (Z.os = Y.os ∧ Z.tape = Y.tape ∧ Z.output = Y.output ∧ Y.heap.size ≤ Z.heap.size) := by
    rcases hcase2 with ⟨gb, capb, rfl, rfl, ho, hgr⟩ | ⟨ho, hgr⟩
    · exact ⟨fun j hj hd => (hgr.block j (by omega) (fun e => hd (by rw [e]; rfl))).trans (b2.block j hj), ho, fun g e => .inl e, hgr.os.trans b2.os, hgr.tape.trans b2.tape, hgr.output.trans b2.output, by have := hgr.size; omega⟩
    · refine ⟨fun j hj hd => (hgr.block j (by omega) (fun e => by cases e)).trans (b2.block j hj), ⟨ho.1, ho.2.imp id fun ⟨g, cap, cur, he, hg, r⟩ => ⟨g, cap, cur, he, by omega, r⟩⟩, fun g e => .inr (by have := (ho.lt g e).1; omega), hgr.os.trans b2.os, hgr.tape.trans b2.tape, hgr.output.trans b2.output, by have := hgr.size; omega⟩
  have nb : ∀ j, j < B → bv.ownBlock ≠ some j := fun j hj e => by have := (h.own.lt j e).1; omega
  obtain ⟨ao, c, rfl⟩ := own_shape E2
  refine ⟨g, cap, Y, ao, c, Z, by rw [← hx, ← he, ← hW1]; exact hr1, by rw [← hx, ← hY1]; exact hr2, ⟨fun i => if i = k then x else xs i, ?_⟩, F4.1 ▸ E4.1, E4.2.1.trans F4.2.1, E4.2.2.1.trans F4.2.2.1, Nat.le_trans F4.2.2.2 E4.2.2.2, fun j h1 h2 h3 => (E1 j (Nat.lt_of_lt_of_le h2 F4.2.2.2) (nb j h1)).trans (F1 j h2 (h3 k hk))⟩
  refine ⟨fun i hi => ?_, fun i hi => ?_, fun i hi => ?_, by rw [range_app]; exact E2, fun i hi g' e => ?_, h.dis, h.gn, h.bd, ⟨hlo.1, Nat.le_trans hlo.2 (Nat.le_trans F4.2.2.2 E4.2.2.2)⟩, hk⟩
  · have := h.cel i hi
    unfold World.cell? at this ⊢
    rw [E1 G (by omega) (nb G hlo.1), F1 G (by omega) (by omega)]
    exact this
  · by_cases e : i = k
    · subst e
      exact F2.stay fun g h1 h2 h3 => E1 g h3 (nb g (by omega))
    · have hd := h.dis i k hi hk e
      have hb := (h.bd i hi).2
      refine (h.l i hi).stay fun g h1 h2 h3 => (E1 g (by omega) (nb g (by omega))).trans (F1 g h3 (by omega))
  · by_cases e : i = k
    · subst e
      simp only [if_true]
      exact F3.stay fun g h1 h2 h3 => E1 g h3 (F5 g h2)
    · simp only [if_neg e]
      have hd := h.dis i k (by omega) hk e
      exact (h.x i (by omega)).stay fun g h1 h2 h3 => (E1 g (by omega) (h.xb i (by omega) g h2)).trans (F1 g h3 (by omega))
  · intro e2
    by_cases ei : i = k
    · rw [if_pos ei] at e
      rcases E3 g' e2 with h4 | h4
      · exact F5 g' e h4
      · have := hxl g' e; omega
    · rw [if_neg ei] at e
      rcases E3 g' e2 with h4 | h4
      · exact h.xb i (by omega) g' e h4
      · obtain ⟨g, cap, cur, hxe, _, hh, _⟩ := h.x i (by omega)
        rw [hxe] at e
        have h5 : g = g' := Option.some.inj e
        have h6 := lt_of_heap hh
        have h7 := F4.2.2.2
        omega
end
end Go.Proofs.YtpfpelhhebafeaaDoor
