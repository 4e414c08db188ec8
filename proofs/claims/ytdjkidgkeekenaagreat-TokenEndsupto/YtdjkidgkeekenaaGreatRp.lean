/- Replay: the arena seat's texts, turned. -/
import Derived.Test.YtdjkidgkeekenaaGreatF4
import Derived.Test.YtdjkidgkeekenaaGreatRefAccess
import Derived.Deep.Cut
import Derived.Deep.CutRange
namespace Go.Proofs.YtdjkidgkeekenaaGreat
open Go.RowKit Go.Lib Go.MuLone
theorem own_set {w : World} {B gw n c : Nat} {xs : List Int} (h : w.ownsRow B 36 1 (.slice (some ⟨gw, 0, none⟩) n c) xs.length (xs.map (Value.int .u64))) (i : Nat) (x : Int) :
    (w.setCell ⟨gw, i, none⟩ (.int .u64 x)).ownsRow B 36 1 (.slice (some ⟨gw, 0, none⟩) n c) (xs.set i x).length ((xs.set i x).map (Value.int .u64)) := by
  obtain ⟨hl, ⟨h0, _⟩ | ⟨g, cap, cur, he, hg, hh, hnc, hcm, hcur, htake⟩⟩ := h
  · cases h0
  · refine ⟨by simp, .inr ⟨g, cap, cur.setIfInBounds i (.int .u64 x), by simpa using he, hg, ?_, by simpa using hnc, hcm, by simpa using hcur, ?_⟩⟩
    · simp only [Value.slice.injEq, Option.some.injEq, Addr.mk.injEq] at he
      obtain ⟨⟨rfl, _⟩, _, _⟩ := he
      exact heap_set hh _
    · simp only [Array.toList_setIfInBounds, List.take_set, List.length_set, List.map_set]
      rw [htake]
theorem own_cell {w : World} {B gw n c : Nat} {xs : List Int} (h : w.ownsRow B 36 1 (.slice (some ⟨gw, 0, none⟩) n c) xs.length (xs.map (Value.int .u64))) (i : Nat) (hi : i < xs.length) :
    (∃ v, w.cell? ⟨gw, i, none⟩ = some v) ∧ w.frozen? ⟨gw, i, none⟩ = false ∧ ∃ cur, w.heap[gw]? = some (.cells cur 36 (0, 0)) := by
  obtain ⟨hl, ⟨h0, _⟩ | ⟨g, cap, cur, he, hg, hh, hnc, hcm, hcur, htake⟩⟩ := h
  · cases h0
  · simp only [Value.slice.injEq, Option.some.injEq, Addr.mk.injEq] at he
    obtain ⟨⟨rfl, _⟩, _, _⟩ := he
    exact ⟨⟨cur[i]'(by omega), cell_of hh (Array.getElem?_eq_getElem (by omega))⟩, free_of hh i, cur, hh⟩

/-- A log made again: the first that is not as it says, and the cells ahead of it. -/
def replay (cs : List Int) : List Acc → Nat → Int × List Int
  | [], _ => (-1, cs)
  | a :: r, i =>
    if 0 ≤ a.cell ∧ a.cell < cs.length then
      if (known a.kind && accEq (carry a (nth cs a.cell.toNat)) a) = true then replay (cs.set a.cell.toNat (carry a (nth cs a.cell.toNat)).left) r (i + 1) else (i, cs)
    else (i, cs)

/-- What the cut around the making of an access leaves. -/
structure CutIs (W wx : World) (m : Acc) (M : Nat) : Prop where
  hM : W.heap.size ≤ M
  hm : wx.heap[M]? = some (.cells #[.int .i64 m.who, .int .i64 m.kind, .int .i64 m.cell, .int .u64 m.want, .int .u64 m.put, .int .u64 m.seen, .int .u64 m.left, .bool m.ok] 58 (0, 0))
  hb : Below W.heap.size W wx
theorem cut_one {W w1 : World} {m : Acc} (hb : Below W.drew.heap.size W.drew w1) :
    CutIs W (w1.alloc (.cells #[.int .i64 m.who, .int .i64 m.kind, .int .i64 m.cell, .int .u64 m.want, .int .u64 m.put, .int .u64 m.seen, .int .u64 m.left, .bool m.ok] 58)) m w1.heap.size := by
  have hb' : Below W.heap.size W w1 := (Below.refl _ W).drew.trans hb
  exact ⟨hb'.size, heap_new _ _, hb'.alloc hb'.size _⟩
theorem cut_two {W w1 : World} {m : Acc} {o : Obj} {n : Nat} (hs : W.heap.size = n) (hb : Below (W.alloc o).drew.heap.size (W.alloc o).drew w1) (hz : w1.heap[n]? = some (.cells Acc.zero.arr 58 (0, 0))) :
    CutIs W ((((((((w1.setCell ⟨n, 0, none⟩ (.int .i64 m.who)).setCell ⟨n, 1, none⟩ (.int .i64 m.kind)).setCell ⟨n, 2, none⟩ (.int .i64 m.cell)).setCell ⟨n, 3, none⟩ (.int .u64 m.want)).setCell ⟨n, 4, none⟩ (.int .u64 m.put)).setCell ⟨n, 5, none⟩ (.int .u64 m.seen)).setCell ⟨n, 6, none⟩ (.int .u64 m.left)).setCell ⟨n, 7, none⟩ (.bool m.ok)) m n := by
  subst hs
  have hb' : Below W.heap.size W w1 := (((Below.refl _ W).alloc (Nat.le_refl _) o).drew).trans (hb.mono (by simp))
  refine ⟨Nat.le_refl _, ?_, ?_⟩
  · have h := heap_set (i := 7) (heap_set (i := 6) (heap_set (i := 5) (heap_set (i := 4) (heap_set (i := 3) (heap_set (i := 2) (heap_set (i := 1) (heap_set (i := 0) hz (.int .i64 m.who)) (.int .i64 m.kind)) (.int .i64 m.cell)) (.int .u64 m.want)) (.int .u64 m.put)) (.int .u64 m.seen)) (.int .u64 m.left)) (.bool m.ok)
    rw [h]
    simp [Acc.zero, Acc.arr]
  · exact (((((((hb'.setCell (p := ⟨W.heap.size, 0, none⟩) (Nat.le_refl _) _).setCell (p := ⟨W.heap.size, 1, none⟩) (Nat.le_refl _) _).setCell (p := ⟨W.heap.size, 2, none⟩) (Nat.le_refl _) _).setCell (p := ⟨W.heap.size, 3, none⟩) (Nat.le_refl _) _).setCell (p := ⟨W.heap.size, 4, none⟩) (Nat.le_refl _) _).setCell (p := ⟨W.heap.size, 5, none⟩) (Nat.le_refl _) _).setCell (p := ⟨W.heap.size, 6, none⟩) (Nat.le_refl _) _).setCell (p := ⟨W.heap.size, 7, none⟩) (Nat.le_refl _) _

theorem carry_a (a m : Acc) (seen : Int) (w : World) (hm : m = carry a seen) :
    Calls Tryz.prog 50 #[.agg #[.int .i64 a.who, .int .i64 a.kind, .int .i64 a.cell, .int .u64 a.want, .int .u64 a.put, .int .u64 a.seen, .int .u64 a.left, .bool a.ok], .int .u64 seen] w fun r w' =>
      r = .returned (.tuple #[.agg #[.int .i64 m.who, .int .i64 m.kind, .int .i64 m.cell, .int .u64 m.want, .int .u64 m.put, .int .u64 m.seen, .int .u64 m.left, .bool m.ok], .bool (known a.kind)]) ∧ Below w.heap.size w w' := by
  subst hm
  exact carry_any a seen w

theorem AccsAt.below {w w' : World} {v : Value} {l : List Acc} (h : AccsAt w v l) (k : Below w.heap.size w w') : AccsAt w' v l := by
  rcases h with h | ⟨g, o, c, e, hg, hl, hm, hc⟩
  · exact .inl h
  · exact .inr ⟨g, o, c, e, Nat.lt_of_lt_of_le hg k.size, hl, hm, fun i x hx => (k.cell (p := ⟨g, o + i, none⟩) hg).trans (hc i x hx)⟩
theorem WordsAt.below {w w' : World} {v : Value} {l : List Int} (h : WordsAt w v l) (k : Below w.heap.size w w') : WordsAt w' v l := by
  rcases h with h | ⟨g, o, c, e, hg, hl, hm, hc⟩
  · exact .inl h
  · exact .inr ⟨g, o, c, e, Nat.lt_of_lt_of_le hg k.size, hl, hm, fun i hi => (k.cell (p := ⟨g, o + i, none⟩) hg).trans (hc i hi)⟩

theorem rep_out {cs : List Int} {a : Acc} {r : List Acc} {k : Nat} (h : ¬ (0 ≤ a.cell ∧ a.cell < cs.length)) : replay cs (a :: r) k = ((k : Int), cs) := by
  rw [replay, if_neg h]
theorem rep_bad {cs : List Int} {a : Acc} {r : List Acc} {k i : Nat} {seen : Int} {m : Acc} (hi : a.cell = i) (h : i < cs.length) (hs : nth cs i = seen) (hm : m = carry a seen) (hb : (known a.kind && accEq m a) = false) : replay cs (a :: r) k = ((k : Int), cs) := by
  subst hm hs
  rw [replay, if_pos ⟨by omega, by omega⟩, hi, Int.toNat_natCast, if_neg (by rw [hb]; decide)]
theorem rep_good {cs : List Int} {a : Acc} {r : List Acc} {k i : Nat} {seen : Int} {m : Acc} (hi : a.cell = i) (h : i < cs.length) (hs : nth cs i = seen) (hm : m = carry a seen) (hb : (known a.kind && accEq m a) = true) :
    replay cs (a :: r) k = replay (cs.set i m.left) r (k + 1) := by
  subst hm hs
  rw [replay, if_pos ⟨by omega, by omega⟩, hi, Int.toNat_natCast, if_pos hb]
theorem rep_keep {X w1 : World} {B T g6 i : Nat} {a : Acc} {seen : Int} (hb : Below B X w1) (h1 : T < B) (h2 : g6 < B)
    (hS : X.cell? ⟨T, 0, none⟩ = some (.int .i64 a.who) ∧ X.cell? ⟨T, 1, none⟩ = some (.int .i64 a.kind) ∧ X.cell? ⟨T, 2, none⟩ = some (.int .i64 a.cell) ∧ X.cell? ⟨T, 3, none⟩ = some (.int .u64 a.want) ∧ X.cell? ⟨T, 4, none⟩ = some (.int .u64 a.put) ∧ X.cell? ⟨T, 5, none⟩ = some (.int .u64 a.seen) ∧ X.cell? ⟨T, 6, none⟩ = some (.int .u64 a.left) ∧ X.cell? ⟨T, 7, none⟩ = some (.bool a.ok) ∧ X.cell? ⟨g6, i, none⟩ = some (.int .u64 seen)) : w1.cell? ⟨T, 0, none⟩ = some (.int .i64 a.who) ∧ w1.cell? ⟨T, 1, none⟩ = some (.int .i64 a.kind) ∧ w1.cell? ⟨T, 2, none⟩ = some (.int .i64 a.cell) ∧ w1.cell? ⟨T, 3, none⟩ = some (.int .u64 a.want) ∧ w1.cell? ⟨T, 4, none⟩ = some (.int .u64 a.put) ∧ w1.cell? ⟨T, 5, none⟩ = some (.int .u64 a.seen) ∧ w1.cell? ⟨T, 6, none⟩ = some (.int .u64 a.left) ∧ w1.cell? ⟨T, 7, none⟩ = some (.bool a.ok) ∧ w1.cell? ⟨g6, i, none⟩ = some (.int .u64 seen) := by
  obtain ⟨s1, s2, s3, s4, s5, s6, s7, s8, s9⟩ := hS
  exact ⟨(hb.cell h1).trans s1, (hb.cell h1).trans s2, (hb.cell h1).trans s3, (hb.cell h1).trans s4, (hb.cell h1).trans s5, (hb.cell h1).trans s6, (hb.cell h1).trans s7, (hb.cell h1).trans s8, (hb.cell h2).trans s9⟩

set_option maxRecDepth 100000 in
set_option maxHeartbeats 2000000 in
theorem replay_any (iv lv : Value) (cells : List Int) (log : List Acc) (w : World) (hi : WordsAt w iv cells) (hl : AccsAt w lv log) (hc : cells.length * 8 ≤ 140737488355328) (hn : (log.length : Int) ≤ 140737488355328) :
    Calls Tryz.prog 21 #[iv, lv] w fun r w' => ∃ v', r = .returned (.tuple #[.int .i64 (replay cells log 0).1, v']) ∧ w'.ownsRow w.heap.size 36 1 v' cells.length ((replay cells log 0).2.map (Value.int .u64)) ∧ Below w.heap.size w w' := by
  obtain ⟨ao, cc, rfl, hlog⟩ := hl.cell
  have HL := hide hlog
  have HC := hide (cloneW_any iv cells w hi hc)
  obtain ⟨n, hnn⟩ : ∃ n, log.length = n := ⟨_, rfl⟩
  obtain ⟨NN, hNN⟩ : ∃ NN, cells.length = NN := ⟨_, rfl⟩
  have hneq := neq_acc
  rw [hnn] at hn ⊢
  clear hlog hi hl
  go_enter Tryz.func21, Tryz.ntmps21
  go_wp2_with fail
  refine HC.out.mono ?_
  rintro e w1 ⟨v6, rfl, hown, hbel⟩
  rw [hNN] at hown
  obtain ⟨a6, c6, rfl⟩ := owns_shape hown
  have HO := hide (And.intro hown hbel)
  clear hown hbel HC
  go_wp2_with fail
  go_loopw [15] (fun t wr => ∃ k : Nat, k ≤ n ∧ t = .int .i64 k ∧ ∃ cs : List Int, cs.length = NN ∧ Hid (wr.ownsRow w.heap.size 36 1 (.slice a6 NN c6) NN (cs.map (Value.int .u64)) ∧ Below w.heap.size w wr ∧ replay cells log 0 = replay cs (log.drop k) k)) (fun t _ => n - (RowKit.intOf t).toNat)
  case atStart => exact ⟨0, by omega, rfl, cells, hNN, HO.out.1, HO.out.2, by simp⟩
  case round =>
    clear HO
    obtain ⟨k, hk, rfl, cs, hcs, HI⟩ := hrel
    by_cases hlt : k < n
    · obtain ⟨g, o, a, rfl, hg, hka, hlc, _, hcell⟩ := HL.out k (by omega)
      have hcellr : ∀ (j : Nat) (x : Value), a.arr[j]? = some x → wr.cell? ⟨g, o + k * 8 + j, none⟩ = some x := fun j x hx => (HI.out.2.1.cell (p := ⟨g, o + k * 8 + j, none⟩) hg).trans (hcell j x hx)
      have hdrop : log.drop k = a :: log.drop (k + 1) := by
        rw [List.drop_eq_getElem_cons (by omega)]
        congr 1
        rw [List.getElem?_eq_getElem (by omega)] at hka
        exact Option.some.inj hka
      have HD := hide hdrop
      have o0 : wr.cell? ⟨g, o + k * 8, none⟩ = some (.int .i64 a.who) := hcellr 0 _ rfl
      have o1 : wr.cell? ⟨g, o + k * 8 + 1, none⟩ = some (.int .i64 a.kind) := hcellr 1 _ rfl
      have o2 : wr.cell? ⟨g, o + k * 8 + 2, none⟩ = some (.int .i64 a.cell) := hcellr 2 _ rfl
      have o3 : wr.cell? ⟨g, o + k * 8 + 3, none⟩ = some (.int .u64 a.want) := hcellr 3 _ rfl
      have o4 : wr.cell? ⟨g, o + k * 8 + 4, none⟩ = some (.int .u64 a.put) := hcellr 4 _ rfl
      have o5 : wr.cell? ⟨g, o + k * 8 + 5, none⟩ = some (.int .u64 a.seen) := hcellr 5 _ rfl
      have o6 : wr.cell? ⟨g, o + k * 8 + 6, none⟩ = some (.int .u64 a.left) := hcellr 6 _ rfl
      have o7 : wr.cell? ⟨g, o + k * 8 + 7, none⟩ = some (.bool a.ok) := hcellr 7 _ rfl
      have hlci : (k : Int) < cc := by omega
      clear hcell hcellr hdrop hka hlc
      obtain ⟨who, kind, cell, want, put, sn, left, ok⟩ := a
      simp only at o0 o1 o2 o3 o4 o5 o6 o7
      go_wp2_with fail
      refine (hasCell_any _ _ _ _ _).mono ?_
      rintro e w' ⟨rfl, hw⟩
      subst w'
      by_cases hin : 0 ≤ cell ∧ cell < (NN : Int)
      · rw [decide_eq_true hin]
        obtain ⟨hin0, hin1⟩ := hin
        obtain ⟨i, rfl⟩ := Int.eq_ofNat_of_zero_le hin0
        have hiN : i < cs.length := by omega
        generalize hW : World.alloc _ _ = W
        have hA : W.heap[wr.heap.size]? = some (.cells #[.int .i64 who, .int .i64 kind, .int .i64 i, .int .u64 want, .int .u64 put, .int .u64 sn, .int .u64 left, .bool ok] 58 (0, 0)) := by rw [← hW]; exact heap_new _ _
        have hWb : Below wr.heap.size wr W := by rw [← hW]; exact (Below.refl _ _).alloc (Nat.le_refl _) _
        have hWs : W.heap.size = wr.heap.size + 1 := by rw [← hW]; simp
        have hwr := HI.out.2.1.size
        obtain ⟨g6, rfl, hg6, hown6⟩ : ∃ g6, a6 = some ⟨g6, 0, none⟩ ∧ g6 < wr.heap.size ∧ W.ownsRow w.heap.size 36 1 (.slice a6 NN c6) cs.length (cs.map (Value.int .u64)) := by
          have ho := HI.out.1
          rw [← hcs] at ho
          have ho2 := ownsRow_block ho (w' := W) (fun j hj => hWb.block j (owns_lt ho hj).2)
          obtain ⟨_, ⟨h0, h1⟩ | ⟨g, cap, cur, h0, hg, hh, _⟩⟩ := ho
          · omega
          · simp only [Value.slice.injEq] at h0
            exact ⟨g, h0.1, lt_of_heap hh, by rw [← hcs]; exact ho2⟩
        have hseen : W.cell? ⟨g6, i, none⟩ = some (.int .u64 (nth cs i)) := by
          rcases WordsAt.of_owns hown6 with ⟨h0, _⟩ | ⟨g', o', c', h0, _, _, _, hc'⟩
          · cases h0
          · simp only [Value.slice.injEq, Option.some.injEq, Addr.mk.injEq] at h0
            obtain ⟨⟨rfl, rfl, _⟩, _⟩ := h0
            have := hc' i hiN
            rwa [Nat.zero_add] at this
        obtain ⟨seen, hsn⟩ : ∃ seen, nth cs i = seen := ⟨_, rfl⟩
        rw [hsn] at hseen
        obtain ⟨m, hm⟩ : ∃ m, m = carry ⟨who, kind, i, want, put, sn, left, ok⟩ seen := ⟨_, rfl⟩
        have HCa := hide (fun x => carry_a ⟨who, kind, i, want, put, sn, left, ok⟩ m seen x hm)
        have HM := hide hm
        have HSN := hide hsn
        have HWW := hide (And.intro hown6 (And.intro hWb hA))
        generalize hT : wr.heap.size = T at *
        clear hW hA hWb hown6 hm hsn o0 o1 o2 o3 o4 o5 o6 o7
        have t0 : W.cell? ⟨T, 0, none⟩ = some (.int .i64 who) := cell_of HWW.out.2.2 rfl
        have t1 : W.cell? ⟨T, 1, none⟩ = some (.int .i64 kind) := cell_of HWW.out.2.2 rfl
        have t2 : W.cell? ⟨T, 2, none⟩ = some (.int .i64 i) := cell_of HWW.out.2.2 rfl
        have t3 : W.cell? ⟨T, 3, none⟩ = some (.int .u64 want) := cell_of HWW.out.2.2 rfl
        have t4 : W.cell? ⟨T, 4, none⟩ = some (.int .u64 put) := cell_of HWW.out.2.2 rfl
        have t5 : W.cell? ⟨T, 5, none⟩ = some (.int .u64 sn) := cell_of HWW.out.2.2 rfl
        have t6 : W.cell? ⟨T, 6, none⟩ = some (.int .u64 left) := cell_of HWW.out.2.2 rfl
        have t7 : W.cell? ⟨T, 7, none⟩ = some (.bool ok) := cell_of HWW.out.2.2 rfl
        have hTg : ¬ T + 1 = g6 := by omega
        have hTg' : ¬ g6 = T + 1 := by omega
        go_wp2_with fail
        go_cut [9, 10] from 16 to 52 (fun t u wx => ∃ M, t = .pointer (some ⟨M, 0, none⟩) ∧ u = .bool (known kind) ∧ CutIs W wx m M)
        case first =>
          go_region_held3 (fun x => x.cell? ⟨T, 0, none⟩ = some (.int .i64 who) ∧ x.cell? ⟨T, 1, none⟩ = some (.int .i64 kind) ∧ x.cell? ⟨T, 2, none⟩ = some (.int .i64 i) ∧ x.cell? ⟨T, 3, none⟩ = some (.int .u64 want) ∧ x.cell? ⟨T, 4, none⟩ = some (.int .u64 put) ∧ x.cell? ⟨T, 5, none⟩ = some (.int .u64 sn) ∧ x.cell? ⟨T, 6, none⟩ = some (.int .u64 left) ∧ x.cell? ⟨T, 7, none⟩ = some (.bool ok) ∧ x.cell? ⟨g6, i, none⟩ = some (.int .u64 seen)) (first | go_keep | (refine rep_keep (a := ⟨who, kind, i, want, put, sn, left, ok⟩) hbel (by simp; omega) (by simp; omega) ?_; refine ⟨?_, ?_, ?_, ?_, ?_, ?_, ?_, ?_, ?_⟩ <;> simp [*]) | (refine rep_keep (a := ⟨who, kind, i, want, put, sn, left, ok⟩) (hbel.alloc hbel.size _) (by simp; omega) (by simp; omega) ?_; refine ⟨?_, ?_, ?_, ?_, ?_, ?_, ?_, ?_, ?_⟩ <;> simp [*]))
            ((go_at_call 50; refine (HCa.out _).mono ?_; rintro e w2 ⟨rfl, hbel⟩; try (obtain ⟨n0, n1, n2, n3, n4, n5, n6, n7, nf, hz⟩ := zero_cells hbel (heap_at W (.cells Acc.zero.arr 58 (0, 0)) hWs); have HZ := hide hz; clear hz)))
          · go_wp2_with fail
            go_meet
            case rel => exact ⟨_, rfl, rfl, cut_one hbel⟩
          · go_wp2_with fail
            go_meet
            case rel => exact ⟨_, rfl, rfl, cut_two hWs hbel HZ.out⟩
        case rest =>
          clear t0 t1 t2 t3 t4 t5 t6 t7 hseen HCa hTg hTg'
          obtain ⟨M, rfl, rfl, hcut⟩ := hcut
          have HT := (hcut.hb.block T (by omega)).trans HWW.out.2.2
          have hg6W : g6 < W.heap.size := by omega
          have hown7 := ownsRow_block HWW.out.1 (w' := wc) (fun j hj => hcut.hb.block j (by cases hj; exact hg6W))
          obtain ⟨⟨cv, hcv⟩, hfz, _⟩ := own_cell hown7 i hiN
          have t0 : wc.cell? ⟨T, 0, none⟩ = some (.int .i64 who) := cell_of HT rfl
          have t1 : wc.cell? ⟨T, 1, none⟩ = some (.int .i64 kind) := cell_of HT rfl
          have t2 : wc.cell? ⟨T, 2, none⟩ = some (.int .i64 i) := cell_of HT rfl
          have t3 : wc.cell? ⟨T, 3, none⟩ = some (.int .u64 want) := cell_of HT rfl
          have t4 : wc.cell? ⟨T, 4, none⟩ = some (.int .u64 put) := cell_of HT rfl
          have t5 : wc.cell? ⟨T, 5, none⟩ = some (.int .u64 sn) := cell_of HT rfl
          have t6 : wc.cell? ⟨T, 6, none⟩ = some (.int .u64 left) := cell_of HT rfl
          have t7 : wc.cell? ⟨T, 7, none⟩ = some (.bool ok) := cell_of HT rfl
          have q0 : wc.cell? ⟨M, 0, none⟩ = some (.int .i64 m.who) := cell_of hcut.hm rfl
          have q1 : wc.cell? ⟨M, 1, none⟩ = some (.int .i64 m.kind) := cell_of hcut.hm rfl
          have q2 : wc.cell? ⟨M, 2, none⟩ = some (.int .i64 m.cell) := cell_of hcut.hm rfl
          have q3 : wc.cell? ⟨M, 3, none⟩ = some (.int .u64 m.want) := cell_of hcut.hm rfl
          have q4 : wc.cell? ⟨M, 4, none⟩ = some (.int .u64 m.put) := cell_of hcut.hm rfl
          have q5 : wc.cell? ⟨M, 5, none⟩ = some (.int .u64 m.seen) := cell_of hcut.hm rfl
          have q6 : wc.cell? ⟨M, 6, none⟩ = some (.int .u64 m.left) := cell_of hcut.hm rfl
          have q7 : wc.cell? ⟨M, 7, none⟩ = some (.bool m.ok) := cell_of hcut.hm rfl
          have HBl := hide (show Below w.heap.size w wc from (HI.out.2.1.trans (HWW.out.2.1.mono hwr)).trans (hcut.hb.mono (by omega)))
          have HO7 := hide hown7
          have HR := HI.out.2.2
          rw [HD.out] at HR
          have HRR := hide HR
          clear HR HT hown7 hcut HI
          cases hB : (known kind && accEq m ⟨who, kind, i, want, put, sn, left, ok⟩) with
          | false =>
            have HP := hide (HRR.out.trans (rep_bad (a := ⟨who, kind, i, want, put, sn, left, ok⟩) rfl hiN HSN.out HM.out hB))
            clear HRR
            rw [Bool.and_eq_false_iff] at hB
            rcases hB with hB | hB
            · rw [hB]
              clear hB
              go_wp2_with fail
              go_ret2
              exact ⟨_, by rw [HP.out]; rfl, by rw [HP.out, hNN, ← hcs]; rw [← hcs] at HO7; exact HO7.out, HBl.out⟩
            · cases hK : known kind with
              | false =>
                clear hB
                go_wp2_with fail
                go_ret2
                exact ⟨_, by rw [HP.out]; rfl, by rw [HP.out, hNN, ← hcs]; rw [← hcs] at HO7; exact HO7.out, HBl.out⟩
              | true =>
                go_wp2_with fail
                go_ret2
                exact ⟨_, by rw [HP.out]; rfl, by rw [HP.out, hNN, ← hcs]; rw [← hcs] at HO7; exact HO7.out, HBl.out⟩
          | true =>
            have HP := hide (HRR.out.trans (rep_good (a := ⟨who, kind, i, want, put, sn, left, ok⟩) rfl hiN HSN.out HM.out hB))
            clear HRR
            rw [Bool.and_eq_true] at hB
            obtain ⟨hK, hE⟩ := hB
            rw [hK]
            clear hK
            go_wp2_with fail
            go_roundw
            case rel =>
              have ho8 := own_set HO7.out i m.left
              rw [show (cs.set i m.left).length = NN by simp [hcs]] at ho8
              exact ⟨k + 1, by omega, by go_num, cs.set i m.left, by simp [hcs], ho8, HBl.out.setCell (p := ⟨g6, i, none⟩) (owns_lt HO7.out (k := g6) rfl).1 _, HP.out⟩
            case measure => simp [RowKit.intOf]; omega
      · rw [decide_eq_false hin]
        have HP : Hid (replay cells log 0 = ((k : Int), cs)) := HI.out.2.2.trans (by rw [HD.out]; exact rep_out (by rw [hcs]; exact hin))
        go_wp2_with fail
        go_ret2
        have hb : Below wr.heap.size wr (wr.alloc (.cells #[.int .i64 who, .int .i64 kind, .int .i64 cell, .int .u64 want, .int .u64 put, .int .u64 sn, .int .u64 left, .bool ok] 58)) := (Below.refl _ _).alloc (Nat.le_refl _) _
        refine ⟨_, by rw [HP.out]; rfl, ?_, HI.out.2.1.trans (hb.mono HI.out.2.1.size)⟩
        rw [HP.out, hNN]
        exact ownsRow_block HI.out.1 (fun j hj => hb.block j (owns_lt HI.out.1 hj).2)
    · obtain rfl : k = n := by omega
      have HP : Hid (replay cells log 0 = (-1, cs)) := HI.out.2.2.trans (by rw [List.drop_eq_nil_of_le (by omega)]; rfl)
      go_wp2_with fail
      go_ret2
      refine ⟨_, by rw [HP.out]; rfl, ?_, HI.out.2.1⟩
      rw [HP.out, hNN]
      exact HI.out.1
end Go.Proofs.YtdjkidgkeekenaaGreat
