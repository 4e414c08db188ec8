/- ArenaReplays: the walk. -/
import Derived.Test.YtfgchkkljlbmcaaRefReplay
import Derived.Test.YtfgchkkljlbmcaaToldRow
namespace Go.Proofs.Ytfgchkkljlbmcaa
open Go.RowKit Go.Lib Go.MuLone

theorem two_at (w : World) (x y : Value) (t : TypeId) : ∀ j u, [x, y][j]? = some u → (w.alloc (.cells #[x, y] t)).cell? ((⟨w.heap.size, 0, none⟩ : Addr).add j) = some u := by
  intro j u hj
  have hh : (w.alloc (.cells #[x, y] t)).heap[w.heap.size]? = some (.cells #[x, y] t (0, 0)) := heap_new _ _
  rw [Addr.add_lit]
  match j, hj with
  | 0, hj => simp at hj; subst hj; exact cell_of hh rfl
  | 1, hj => simp at hj; subst hj; exact cell_of hh rfl
theorem arr_at (w : World) (cs : Array Value) (t : TypeId) : ∀ j u, cs.toList[j]? = some u → (w.alloc (.cells cs t)).cell? ((⟨w.heap.size, 0, none⟩ : Addr).add j) = some u := by
  intro j u hj
  rw [Addr.add_lit, Nat.zero_add]
  exact cell_of (heap_new _ _) (by simpa using hj)
def mark (k : Int) : Acc := ⟨0, k, 0, 0, 0, 0, 0, false⟩

theorem takeA_snoc (l : List Acc) (k : Nat) (a : Acc) (h : l[k]? = some a) : l.take (k + 1) = l.take k ++ [a] := by
  rw [List.take_add_one, h]; rfl
theorem acc_ones (a : Acc) : ∀ u ∈ a.arr.toList, u.oneCell' = true := by
  intro u hu
  simp [Acc.arr] at hu
  rcases hu with rfl | rfl | rfl | rfl | rfl | rfl | rfl | rfl <;> rfl

theorem owns_any {w : World} {B : Nat} {e : TypeId} {z n : Nat} {v : Value} {l : List Value} (h : w.ownsRow B e z v n l) (hn : n ≠ 0) :
    ∃ g c, v = .slice (some ⟨g, 0, none⟩) n c ∧ n ≤ c ∧ c ≤ 9223372036854775807 ∧ B ≤ g ∧ g < w.heap.size ∧ ∀ (i : Nat) (x : Value), l[i]? = some x → w.cell? ⟨g, i, none⟩ = some x := by
  obtain ⟨hl, ⟨_, h0⟩ | ⟨g, cap, cur, rfl, hg, hh, hnc, hcm, hcur, htake⟩⟩ := h
  · exact absurd h0 hn
  · refine ⟨g, cap, rfl, hnc, hcm, hg, lt_of_heap hh, fun i x hi => cell_of hh ?_⟩
    have hlt := (List.getElem?_eq_some_iff.1 hi).1
    rw [← htake, List.getElem?_take_of_lt (by omega)] at hi
    simpa using hi
def marks16 : Array Value := #[.int .i64 0, .int .i64 83, .int .i64 0, .int .u64 0, .int .u64 0, .int .u64 0, .int .u64 0, .bool false, .int .i64 0, .int .i64 84, .int .i64 0, .int .u64 0, .int .u64 0, .int .u64 0, .int .u64 0, .bool false]
theorem marks_ones : ∀ u ∈ marks16.toList, u.oneCell' = true := by
  intro u hu
  simp [marks16] at hu
  rcases hu with rfl | rfl | rfl | rfl | rfl | rfl | rfl | rfl | rfl | rfl <;> rfl

/-- Both lists, with marks behind them. -/
structure REnd (w V : World) (g5 c5 g6 c6 : Nat) (image : List Int) (log : List Acc) : Prop where
  c : ∀ (i : Nat) (x : Value), ((image ++ [81, 82]).map (Value.int .u64))[i]? = some x → V.cell? ⟨g5, i, none⟩ = some x
  l : ∀ (i : Nat) (x : Value), (logCells (log ++ [mark 83, mark 84]))[i]? = some x → V.cell? ⟨g6, i, none⟩ = some x
  gc : g5 < V.heap.size
  gl : g6 < V.heap.size
  bel : Below w.heap.size w V
  hc5 : image.length + 2 ≤ c5
  hc6 : log.length + 2 ≤ c6
  m5 : c5 ≤ 9223372036854775807
  m6 : c6 ≤ 9223372036854775807
theorem REnd.news {w V V' : World} {g5 c5 g6 c6 : Nat} {image : List Int} {log : List Acc} (h : REnd w V g5 c5 g6 c6 image log) (k : Below V.heap.size V V') : REnd w V' g5 c5 g6 c6 image log :=
  ⟨fun i x hx => (k.cell (p := ⟨g5, i, none⟩) h.gc).trans (h.c i x hx), fun i x hx => (k.cell (p := ⟨g6, i, none⟩) h.gl).trans (h.l i x hx), Nat.lt_of_lt_of_le h.gc k.size, Nat.lt_of_lt_of_le h.gl k.size,
    h.bel.trans (k.mono h.bel.size), h.hc5, h.hc6, h.m5, h.m6⟩
theorem REnd.words {w V : World} {g5 c5 g6 c6 : Nat} {image : List Int} {log : List Acc} (h : REnd w V g5 c5 g6 c6 image log) : WordsAt V (.slice (some ⟨g5, 0, none⟩) image.length c5) image := by
  refine .inr ⟨g5, 0, c5, rfl, h.gc, by have := h.hc5; omega, h.m5, fun i hi => ?_⟩
  rw [Nat.zero_add]
  refine h.c i _ ?_
  rw [List.getElem?_map, List.getElem?_append_left hi]
  simp [nth, List.getD, List.getElem?_eq_getElem hi]
theorem REnd.accs {w V : World} {g5 c5 g6 c6 : Nat} {image : List Int} {log : List Acc} (h : REnd w V g5 c5 g6 c6 image log) : AccsAt V (.slice (some ⟨g6, 0, none⟩) log.length c6) log := by
  refine .inr ⟨g6, 0, c6, rfl, h.gl, by have := h.hc6; omega, h.m6, fun i x hx => ?_⟩
  rw [Nat.zero_add]
  refine h.l i x ?_
  rw [logCells_append, List.getElem?_append_left (List.getElem?_eq_some_iff.1 hx).1]
  exact hx
theorem REnd.marks {w V : World} {g5 c5 g6 c6 : Nat} {image : List Int} {log : List Acc} (h : REnd w V g5 c5 g6 c6 image log) :
    V.cell? ⟨g5, image.length, none⟩ = some (.int .u64 81) ∧ V.cell? ⟨g5, image.length + 1, none⟩ = some (.int .u64 82) ∧ V.cell? ⟨g6, log.length * 8 + 1, none⟩ = some (.int .i64 83) ∧ V.cell? ⟨g6, (log.length + 1) * 8 + 1, none⟩ = some (.int .i64 84) := by
  refine ⟨h.c _ _ ?_, h.c _ _ ?_, h.l _ _ ?_, h.l _ _ ?_⟩
  · rw [List.getElem?_map, List.getElem?_append_right (Nat.le_refl _)]; simp
  · rw [List.getElem?_map, List.getElem?_append_right (by omega)]; simp
  · refine logCells_get _ log.length 1 (mark 83) _ ?_ rfl
    rw [List.getElem?_append_right (Nat.le_refl _)]; simp
  · refine logCells_get _ (log.length + 1) 1 (mark 84) _ ?_ rfl
    rw [List.getElem?_append_right (by omega)]; simp

set_option maxRecDepth 100000 in
set_option maxHeartbeats 2000000 in
theorem replays_walk (ai al : Option Addr) (ci cl n m : Nat) (image : List Int) (log : List Acc) (w : World) (hin : image.length = n) (hln : log.length = m) (hi : WordsIn w (.slice ai image.length ci) image) (hl : AccsIn w (.slice al log.length cl) log)
    (hbi : (n + 2) * 8 ≤ 140737488355328) (hbl : (m + 2) * 64 ≤ 140737488355328) :
    Calls Try.prog 5 #[.slice ai n ci, .slice al m cl] w fun r w' => r = .returned (.bool true) ∧ Below w.heap.size w w' := by
  obtain ⟨i0, hi0, hz0, hz1, hz2⟩ := info_parts Try.info29
  obtain ⟨j0, hj0, hy0, hy1, hy2⟩ := info_parts Try.info31
  have HC := hide (copiedIn_any (.slice ai image.length ci) image w hi (by omega))
  rw [hin] at HC
  have HW := hide hi
  have HL := hide hl
  have hni : (n : Int) ≤ 17592186044416 := by omega
  have hmi : (m : Int) ≤ 2199023255552 := by omega
  clear hi hl
  go_enter Try.func5, Try.ntmps5
  go_wp2_with fail
  refine HC.out.mono ?_
  rintro e w1 ⟨v15, rfl, ho1, hb1⟩
  have H1 := hide (And.intro ho1 hb1)
  clear ho1 hb1 HC
  go_wp2_with (at_builtin; refine wpList_append_own _ rfl _ _ 26 rfl w.heap.size 29 i0 (.int .u64 0) 1 8 Try.underlying26 hi0 hz0 hz1 hz2 rfl (by decide) _ _ _ rfl (H1.out.1.alloc _) ⟨w1.heap.size, 0, none⟩ 2 2 [.int .u64 81, .int .u64 82] rfl rfl (two_at w1 _ _ _) ?c2 ?c3 ?c4 ?c5 ?_)
  case c2 => intro u hu; simp at hu; rcases hu with rfl | rfl <;> rfl
  case c3 => unfold maxLen; omega
  case c4 => omega
  case c5 => have := H1.out.2.size; simp; omega
  intro v5 w2 ho2 hg2 _
  have hb2 : Below w.heap.size w w2 := (H1.out.2.alloc H1.out.2.size _).grown hg2 (by have := H1.out.2.size; simp; omega) (fun j hj => (owns_lt H1.out.1 hj).1)
  obtain ⟨g5, c5, rfl, hn5, hm5, _, hg5, hcell5⟩ := owns_any ho2 (by omega)
  have H2 := hide (And.intro hcell5 (And.intro hg5 (And.intro hb2 (And.intro hn5 hm5))))
  clear ho2 hg2 hcell5 hb2 H1 hm5
  go_wp2_with fail
  go_loopw [6, 7] (fun pv t wr => ∃ k : Nat, k ≤ m ∧ t = .int .i64 k ∧ Hid (wr.ownsRow w2.heap.size 31 8 pv k (logCells (log.take k)) ∧ Below w2.heap.size w2 wr)) (fun _ t _ => m - (RowKit.intOf t).toNat)
  case atStart => exact ⟨0, by omega, rfl, World.ownsRow_nil _ _ _ _, Below.refl _ _⟩
  case round =>
    obtain ⟨k, hk, rfl, HI⟩ := hrel
    by_cases hlt : k < m
    · obtain ⟨ao', c', he, hel⟩ := (HL.out.below H2.out.2.2.1).below HI.out.2
      simp only [Value.slice.injEq] at he
      obtain ⟨rfl, _, rfl⟩ := he
      obtain ⟨g, o, a, rfl, hgs, hka, hlc, _, hcell⟩ := hel k (by omega)
      have o0 : wr.cell? ⟨g, o + k * 8, none⟩ = some (.int .i64 a.who) := hcell 0 _ rfl
      have o1 : wr.cell? ⟨g, o + k * 8 + 1, none⟩ = some (.int .i64 a.kind) := hcell 1 _ rfl
      have o2 : wr.cell? ⟨g, o + k * 8 + 2, none⟩ = some (.int .i64 a.cell) := hcell 2 _ rfl
      have o3 : wr.cell? ⟨g, o + k * 8 + 3, none⟩ = some (.int .u64 a.want) := hcell 3 _ rfl
      have o4 : wr.cell? ⟨g, o + k * 8 + 4, none⟩ = some (.int .u64 a.put) := hcell 4 _ rfl
      have o5 : wr.cell? ⟨g, o + k * 8 + 5, none⟩ = some (.int .u64 a.seen) := hcell 5 _ rfl
      have o6 : wr.cell? ⟨g, o + k * 8 + 6, none⟩ = some (.int .u64 a.left) := hcell 6 _ rfl
      have o7 : wr.cell? ⟨g, o + k * 8 + 7, none⟩ = some (.bool a.ok) := hcell 7 _ rfl
      have hki : (k : Int) < cl := by omega
      have HK := hide hka
      clear hcell hel hka
      go_wp2_with (at_builtin; refine wpList_append_own _ rfl _ _ 27 rfl w2.heap.size 31 j0 Acc.zero.val 8 64 Try.underlying27 hj0 hy0 hy1 hy2 rfl (by decide) _ _ _ rfl (HI.out.1.alloc _) ⟨wr.heap.size, 0, none⟩ 1 1 a.arr.toList rfl rfl (arr_at wr _ 31) (acc_ones a) ?d3 ?d4 ?d5 ?_)
      case d3 => unfold maxLen; omega
      case d4 => omega
      case d5 => have := HI.out.2.size; simp; omega
      intro v' w3 hown' hgrow _
      have HR : Hid (w3.ownsRow w2.heap.size 31 8 v' (k + 1) (logCells (log.take (k + 1))) ∧ Below w2.heap.size w2 w3) := by
        refine ⟨?_, (HI.out.2.alloc HI.out.2.size _).grown hgrow (by have := HI.out.2.size; simp; omega) (fun j hj => (owns_lt HI.out.1 hj).1)⟩
        rw [takeA_snoc log k a HK.out, logCells_append, show logCells [a] = a.arr.toList by simp [logCells]]
        exact hown'
      clear hown' hgrow HI
      go_wp2_with fail
      go_roundw
      case rel => exact ⟨k + 1, by omega, by go_num, HR⟩
      case measure => simp [RowKit.intOf]; omega
    · obtain rfl : k = m := by omega
      go_wp2_with (at_builtin; refine wpList_append_own _ rfl _ _ 27 rfl w2.heap.size 31 j0 Acc.zero.val 8 64 Try.underlying27 hj0 hy0 hy1 hy2 rfl (by decide) _ _ _ rfl (HI.out.1.alloc _) ⟨wr.heap.size, 0, none⟩ 2 2 marks16.toList rfl rfl (arr_at wr marks16 31) marks_ones ?d3 ?d4 ?d5 ?_)
      case d3 => unfold maxLen; omega
      case d4 => omega
      case d5 => have := HI.out.2.size; simp; omega
      intro v6 w4 ho4 hg4 _
      have hb4 : Below w2.heap.size w2 w4 := (HI.out.2.alloc HI.out.2.size _).grown hg4 (by have := HI.out.2.size; simp; omega) (fun j hj => (owns_lt HI.out.1 hj).1)
      obtain ⟨g6, c6, rfl, hn6, hm6, _, hg6, hcell6⟩ := owns_any ho4 (by omega)
      have hE : REnd w w4 g5 c5 g6 c6 image log := by
        refine ⟨fun i x hx => (hb4.cell (p := ⟨g5, i, none⟩) H2.out.2.1).trans (H2.out.1 i x (by simpa using hx)), fun i x hx => hcell6 i x ?_, Nat.lt_of_lt_of_le H2.out.2.1 hb4.size, hg6, H2.out.2.2.1.trans (hb4.mono H2.out.2.2.1.size), by rw [hin]; exact hn5, by rw [hln]; exact hn6, H2.out.2.2.2.2, hm6⟩
        rw [List.take_of_length_le (by omega)]
        rw [logCells_append] at hx
        exact hx
      have HE := hide hE
      clear ho4 hg4 hb4 hcell6 hE HI H2
      have hs5 : (n : Int) ≤ c5 := by omega
      have hs6 : (k : Int) ≤ c6 := by omega
      have hs5' : (n : Int) ≤ (n : Int) + 2 := by omega
      have hwd := HE.out.words
      have hac := HE.out.accs
      rw [hin] at hwd
      rw [hln] at hac
      obtain ⟨R, hR⟩ : ∃ R, replay image log 0 = R := ⟨_, rfl⟩
      have HRp := hide (fun x (h1 : WordsAt x (.slice (some ⟨g5, 0, none⟩) n c5) image) (h2 : AccsAt x (.slice (some ⟨g6, 0, none⟩) k c6) log) => replay_any _ _ image log x h1 h2 (by omega) (by omega))
      rw [hR] at HRp
      have HWD := hide (And.intro (hwd.below ((Below.refl _ w4).drew)) (hac.below ((Below.refl _ w4).drew)))
      have HRR := hide hR
      clear hwd hac hR
      go_wp2_with fail
      go_region_with (go_at_call 13; refine (HRp.out _ HWD.out.1 HWD.out.2).mono ?_; rintro e w5 ⟨v9, rfl, ho9, hb9⟩; have H9 := hide (And.intro ho9 hb9); clear ho9 hb9)
      have HE5 := hide ((HE.out.news ((Below.refl _ w4).drew)).news H9.out.2)
      have HW5 := hide (And.intro (HW.out.below HE5.out.bel) (HL.out.below HE5.out.bel))
      have HRf := hide (refReplay_any (.slice ai image.length ci) (.slice al log.length cl) image log w5 HW5.out.1 HW5.out.2 (by omega) (by omega))
      rw [hin, hln, HRR.out] at HRf
      have O9 : Hid (WordsAt w5 v9 R.2) := by
        have h := H9.out.1
        have hlen : R.2.length = image.length := by have := h.1; simpa using this
        rw [← hlen] at h
        exact WordsAt.of_owns h
      clear H9 HE HRp HWD HW5
      go_wp2_with fail
      refine HRf.out.mono ?_
      rintro e w6 ⟨v11, rfl, ho11, hb11⟩
      have HE6 := hide (HE5.out.news hb11)
      have O11 : Hid (WordsAt w6 v9 R.2 ∧ WordsAt w6 v11 R.2) := by
        refine ⟨O9.out.below hb11, ?_⟩
        have hlen : R.2.length = n := by have := ho11.1; simpa using this
        rw [← hlen] at ho11
        exact WordsAt.of_owns ho11
      have HS1 := hide (sameWords_any v9 v11 R.2 w6 O11.out.1 O11.out.2)
      clear ho11 hb11 O9 O11 HE5 HRf
      have hrr : (R.1 != R.1) = false := by simp
      go_wp2_with fail
      refine HS1.out.mono ?_
      rintro e w7 ⟨rfl, m7, hw7⟩
      have HE7 := hide (HE6.out.news (V' := w7) (by rw [hw7]; exact below_drewN (Below.refl _ _) m7))
      have hwd := HE7.out.words
      rw [hin] at hwd
      have hwi := HW.out.below HE7.out.bel
      rw [hin] at hwi
      have HS2 := hide (sameWordsIn_any _ _ image w7 hwd.toIn hwi)
      clear hw7 HS1 HE6 hwd hwi
      go_wp2_with fail
      refine HS2.out.mono ?_
      rintro e w8 ⟨rfl, m8, hw8⟩
      have HE8 := hide (HE7.out.news (V' := w8) (by rw [hw8]; exact below_drewN (Below.refl _ _) m8))
      have hac := HE8.out.accs
      rw [hln] at hac
      have hai := HL.out.below HE8.out.bel
      rw [hln] at hai
      have HS3 := hide (sameLogIn_any _ _ log w8 hac.toIn hai)
      clear hw8 HS2 HE7 hac hai
      go_wp2_with fail
      refine HS3.out.mono ?_
      rintro e w9 ⟨rfl, m9, hw9⟩
      have HE9 := hide (HE8.out.news (V' := w9) (by rw [hw9]; exact below_drewN (Below.refl _ _) m9))
      obtain ⟨x1, x2, x3, x4⟩ := HE9.out.marks
      rw [hin] at x1 x2
      rw [hln] at x3 x4
      have hk2 : (k : Int) + 1 ≤ 9223372036854775807 := by omega
      have hn2 : (n : Int) + 1 ≤ 9223372036854775807 := by omega
      clear hw9 HS3 HE8
      go_wp2_with fail
      go_ret
      exact ⟨rfl, HE9.out.bel⟩
end Go.Proofs.Ytfgchkkljlbmcaa
