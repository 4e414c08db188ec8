/- Replay: the walk. -/
import Derived.Test.YtfgchkkljlbmcaaReplay
namespace Go.Proofs.Ytfgchkkljlbmcaa
open Go.RowKit Go.Lib Go.MuLone

theorem rep_out {cs : List Int} {a : Acc} {r : List Acc} {k : Nat} (h : ¬ (0 ≤ a.cell ∧ a.cell < cs.length)) : replay cs (a :: r) k = ((k : Int), cs) := by
  rw [replay, if_neg h]
theorem rep_bad {cs : List Int} {a : Acc} {r : List Acc} {k i : Nat} {seen : Int} {m : Acc} (hi : a.cell = i) (h : i < cs.length) (hs : nth cs i = seen) (hm : m = carry a seen) (hb : (known a.kind && accEq m a) = false) : replay cs (a :: r) k = ((k : Int), cs) := by
  subst hm hs
  rw [replay, if_pos ⟨by omega, by omega⟩, hi, Int.toNat_natCast, if_neg (by rw [hb]; decide)]
theorem rep_good {cs : List Int} {a : Acc} {r : List Acc} {k i : Nat} {seen : Int} {m : Acc} (hi : a.cell = i) (h : i < cs.length) (hs : nth cs i = seen) (hm : m = carry a seen) (hb : (known a.kind && accEq m a) = true) :
    replay cs (a :: r) k = replay (cs.set i m.left) r (k + 1) := by
  subst hm hs
  rw [replay, if_pos ⟨by omega, by omega⟩, hi, Int.toNat_natCast, if_pos hb]
theorem rep_keep {X w1 : World} {B T g6 i : Nat} {a : Acc} {seen : Int} (hb : Below B X w1) (h1 : T < B) (h2 : g6 < B)
    (hS : X.cell? ⟨T, 0, none⟩ = some (.int .i64 a.who) ∧ X.cell? ⟨T, 1, none⟩ = some (.int .i64 a.kind) ∧ X.cell? ⟨T, 2, none⟩ = some (.int .i64 a.cell) ∧ X.cell? ⟨T, 3, none⟩ = some (.int .u64 a.want) ∧ X.cell? ⟨T, 4, none⟩ = some (.int .u64 a.put) ∧ X.cell? ⟨T, 5, none⟩ = some (.int .u64 a.seen) ∧ X.cell? ⟨T, 6, none⟩ = some (.int .u64 a.left) ∧ X.cell? ⟨T, 7, none⟩ = some (.bool a.ok) ∧ X.cell? ⟨g6, i, none⟩ = some (.int .u64 seen)) : w1.cell? ⟨T, 0, none⟩ = some (.int .i64 a.who) ∧ w1.cell? ⟨T, 1, none⟩ = some (.int .i64 a.kind) ∧ w1.cell? ⟨T, 2, none⟩ = some (.int .i64 a.cell) ∧ w1.cell? ⟨T, 3, none⟩ = some (.int .u64 a.want) ∧ w1.cell? ⟨T, 4, none⟩ = some (.int .u64 a.put) ∧ w1.cell? ⟨T, 5, none⟩ = some (.int .u64 a.seen) ∧ w1.cell? ⟨T, 6, none⟩ = some (.int .u64 a.left) ∧ w1.cell? ⟨T, 7, none⟩ = some (.bool a.ok) ∧ w1.cell? ⟨g6, i, none⟩ = some (.int .u64 seen) := by
  obtain ⟨s1, s2, s3, s4, s5, s6, s7, s8, s9⟩ := hS
  exact ⟨(hb.cell h1).trans s1, (hb.cell h1).trans s2, (hb.cell h1).trans s3, (hb.cell h1).trans s4, (hb.cell h1).trans s5, (hb.cell h1).trans s6, (hb.cell h1).trans s7, (hb.cell h1).trans s8, (hb.cell h2).trans s9⟩

set_option maxRecDepth 100000 in
set_option maxHeartbeats 2000000 in
theorem replay_any (iv lv : Value) (cells : List Int) (log : List Acc) (w : World) (hi : WordsAt w iv cells) (hl : AccsAt w lv log) (hc : cells.length * 8 ≤ 140737488355328) (hn : (log.length : Int) ≤ 140737488355328) :
    Calls Try.prog 13 #[iv, lv] w fun r w' => ∃ v', r = .returned (.tuple #[.int .i64 (replay cells log 0).1, v']) ∧ w'.ownsRow w.heap.size 29 1 v' cells.length ((replay cells log 0).2.map (Value.int .u64)) ∧ Below w.heap.size w w' := by
  obtain ⟨ao, cc, rfl, hlog⟩ := hl.cell
  have HL := hide hlog
  have HC := hide (cloneW_any iv cells w hi hc)
  obtain ⟨n, hnn⟩ : ∃ n, log.length = n := ⟨_, rfl⟩
  obtain ⟨NN, hNN⟩ : ∃ NN, cells.length = NN := ⟨_, rfl⟩
  have hneq := neq_acc
  rw [hnn] at hn ⊢
  clear hlog hi hl
  go_enter Try.func13, Try.ntmps13
  go_wp2_with fail
  refine HC.out.mono ?_
  rintro e w1 ⟨v6, rfl, hown, hbel⟩
  rw [hNN] at hown
  obtain ⟨a6, c6, rfl⟩ := owns_shape hown
  have HO := hide (And.intro hown hbel)
  clear hown hbel HC
  go_wp2_with fail
  go_loopw [15] (fun t wr => ∃ k : Nat, k ≤ n ∧ t = .int .i64 k ∧ ∃ cs : List Int, cs.length = NN ∧ Hid (wr.ownsRow w.heap.size 29 1 (.slice a6 NN c6) NN (cs.map (Value.int .u64)) ∧ Below w.heap.size w wr ∧ replay cells log 0 = replay cs (log.drop k) k)) (fun t _ => n - (RowKit.intOf t).toNat)
  case atStart => exact ⟨0, by omega, rfl, cells, hNN, HO.out.1, HO.out.2, by simp⟩
  case round =>
    clear HO
    obtain ⟨k, hk, rfl, cs, hcs, HI⟩ := hrel
    by_cases hlt : k < n
    · obtain ⟨g, o, a, rfl, hg, hka, hlc, _, hcell⟩ := HL.out k (by omega)
      have hcellr : ∀ (j : Nat) (x : Value), a.arr[j]? = some x → wr.cell? ⟨g, o + k * 8 + j, none⟩ = some x := fun j x hx => (HI.out.2.1.cell (p := ⟨g, o + k * 8 + j, none⟩) hg).trans (hcell j x hx)
      have hdrop : log.drop k = a :: log.drop (k + 1) := by
        rw [List.drop_eq_getElem_cons (by omega)]
        congr 1
        rw [List.getElem?_eq_getElem (by omega)] at hka
        exact Option.some.inj hka
      have HD := hide hdrop
      have o0 : wr.cell? ⟨g, o + k * 8, none⟩ = some (.int .i64 a.who) := hcellr 0 _ rfl
      have o1 : wr.cell? ⟨g, o + k * 8 + 1, none⟩ = some (.int .i64 a.kind) := hcellr 1 _ rfl
      have o2 : wr.cell? ⟨g, o + k * 8 + 2, none⟩ = some (.int .i64 a.cell) := hcellr 2 _ rfl
      have o3 : wr.cell? ⟨g, o + k * 8 + 3, none⟩ = some (.int .u64 a.want) := hcellr 3 _ rfl
      have o4 : wr.cell? ⟨g, o + k * 8 + 4, none⟩ = some (.int .u64 a.put) := hcellr 4 _ rfl
      have o5 : wr.cell? ⟨g, o + k * 8 + 5, none⟩ = some (.int .u64 a.seen) := hcellr 5 _ rfl
      have o6 : wr.cell? ⟨g, o + k * 8 + 6, none⟩ = some (.int .u64 a.left) := hcellr 6 _ rfl
      have o7 : wr.cell? ⟨g, o + k * 8 + 7, none⟩ = some (.bool a.ok) := hcellr 7 _ rfl
      have hlci : (k : Int) < cc := by omega
      clear hcell hcellr hdrop hka hlc
      obtain ⟨who, kind, cell, want, put, sn, left, ok⟩ := a
      simp only at o0 o1 o2 o3 o4 o5 o6 o7
      go_wp2_with fail
      refine (hasCell_any _ _ _ _ _).mono ?_
      rintro e w' ⟨rfl, hw⟩
      subst w'
      by_cases hin : 0 ≤ cell ∧ cell < (NN : Int)
      · rw [decide_eq_true hin]
        obtain ⟨hin0, hin1⟩ := hin
        obtain ⟨i, rfl⟩ := Int.eq_ofNat_of_zero_le hin0
        have hiN : i < cs.length := by omega
        generalize hW : World.alloc _ _ = W
        have hA : W.heap[wr.heap.size]? = some (.cells #[.int .i64 who, .int .i64 kind, .int .i64 i, .int .u64 want, .int .u64 put, .int .u64 sn, .int .u64 left, .bool ok] 31 (0, 0)) := by rw [← hW]; exact heap_new _ _
        have hWb : Below wr.heap.size wr W := by rw [← hW]; exact (Below.refl _ _).alloc (Nat.le_refl _) _
        have hWs : W.heap.size = wr.heap.size + 1 := by rw [← hW]; simp
        have hwr := HI.out.2.1.size
        obtain ⟨g6, rfl, hg6, hown6⟩ : ∃ g6, a6 = some ⟨g6, 0, none⟩ ∧ g6 < wr.heap.size ∧ W.ownsRow w.heap.size 29 1 (.slice a6 NN c6) cs.length (cs.map (Value.int .u64)) := by
          have ho := HI.out.1
          rw [← hcs] at ho
          have ho2 := ownsRow_block ho (w' := W) (fun j hj => hWb.block j (owns_lt ho hj).2)
          obtain ⟨_, ⟨h0, h1⟩ | ⟨g, cap, cur, h0, hg, hh, _⟩⟩ := ho
          · omega
          · simp only [Value.slice.injEq] at h0
            exact ⟨g, h0.1, lt_of_heap hh, by rw [← hcs]; exact ho2⟩
        have hseen : W.cell? ⟨g6, i, none⟩ = some (.int .u64 (nth cs i)) := by
          rcases WordsAt.of_owns hown6 with ⟨h0, _⟩ | ⟨g', o', c', h0, _, _, _, hc'⟩
          · cases h0
          · simp only [Value.slice.injEq, Option.some.injEq, Addr.mk.injEq] at h0
            obtain ⟨⟨rfl, rfl, _⟩, _⟩ := h0
            have := hc' i hiN
            rwa [Nat.zero_add] at this
        obtain ⟨seen, hsn⟩ : ∃ seen, nth cs i = seen := ⟨_, rfl⟩
        rw [hsn] at hseen
        obtain ⟨m, hm⟩ : ∃ m, m = carry ⟨who, kind, i, want, put, sn, left, ok⟩ seen := ⟨_, rfl⟩
        have HCa := hide (fun x => carry_a ⟨who, kind, i, want, put, sn, left, ok⟩ m seen x hm)
        have HM := hide hm
        have HSN := hide hsn
        have HWW := hide (And.intro hown6 (And.intro hWb hA))
        generalize hT : wr.heap.size = T at *
        clear hW hA hWb hown6 hm hsn o0 o1 o2 o3 o4 o5 o6 o7
        have t0 : W.cell? ⟨T, 0, none⟩ = some (.int .i64 who) := cell_of HWW.out.2.2 rfl
        have t1 : W.cell? ⟨T, 1, none⟩ = some (.int .i64 kind) := cell_of HWW.out.2.2 rfl
        have t2 : W.cell? ⟨T, 2, none⟩ = some (.int .i64 i) := cell_of HWW.out.2.2 rfl
        have t3 : W.cell? ⟨T, 3, none⟩ = some (.int .u64 want) := cell_of HWW.out.2.2 rfl
        have t4 : W.cell? ⟨T, 4, none⟩ = some (.int .u64 put) := cell_of HWW.out.2.2 rfl
        have t5 : W.cell? ⟨T, 5, none⟩ = some (.int .u64 sn) := cell_of HWW.out.2.2 rfl
        have t6 : W.cell? ⟨T, 6, none⟩ = some (.int .u64 left) := cell_of HWW.out.2.2 rfl
        have t7 : W.cell? ⟨T, 7, none⟩ = some (.bool ok) := cell_of HWW.out.2.2 rfl
        have hTg : ¬ T + 1 = g6 := by omega
        have hTg' : ¬ g6 = T + 1 := by omega
        go_wp2_with fail
        go_cut [9, 10] from 16 to 52 (fun t u wx => ∃ M, t = .pointer (some ⟨M, 0, none⟩) ∧ u = .bool (known kind) ∧ CutIs W wx m M)
        case first =>
          go_region_held3 (fun x => x.cell? ⟨T, 0, none⟩ = some (.int .i64 who) ∧ x.cell? ⟨T, 1, none⟩ = some (.int .i64 kind) ∧ x.cell? ⟨T, 2, none⟩ = some (.int .i64 i) ∧ x.cell? ⟨T, 3, none⟩ = some (.int .u64 want) ∧ x.cell? ⟨T, 4, none⟩ = some (.int .u64 put) ∧ x.cell? ⟨T, 5, none⟩ = some (.int .u64 sn) ∧ x.cell? ⟨T, 6, none⟩ = some (.int .u64 left) ∧ x.cell? ⟨T, 7, none⟩ = some (.bool ok) ∧ x.cell? ⟨g6, i, none⟩ = some (.int .u64 seen)) (first | go_keep | (refine rep_keep (a := ⟨who, kind, i, want, put, sn, left, ok⟩) hbel (by simp; omega) (by simp; omega) ?_; refine ⟨?_, ?_, ?_, ?_, ?_, ?_, ?_, ?_, ?_⟩ <;> simp [*]) | (refine rep_keep (a := ⟨who, kind, i, want, put, sn, left, ok⟩) (hbel.alloc hbel.size _) (by simp; omega) (by simp; omega) ?_; refine ⟨?_, ?_, ?_, ?_, ?_, ?_, ?_, ?_, ?_⟩ <;> simp [*]))
            ((go_at_call 42; refine (HCa.out _).mono ?_; rintro e w2 ⟨rfl, hbel⟩; try (obtain ⟨n0, n1, n2, n3, n4, n5, n6, n7, nf, hz⟩ := zero_cells hbel (heap_at W (.cells Acc.zero.arr 31 (0, 0)) hWs); have HZ := hide hz; clear hz)))
          · go_wp2_with fail
            go_meet
            case rel => exact ⟨_, rfl, rfl, cut_one hbel⟩
          · go_wp2_with fail
            go_meet
            case rel => exact ⟨_, rfl, rfl, cut_two hWs hbel HZ.out⟩
        case rest =>
          clear t0 t1 t2 t3 t4 t5 t6 t7 hseen HCa hTg hTg'
          obtain ⟨M, rfl, rfl, hcut⟩ := hcut
          have HT := (hcut.hb.block T (by omega)).trans HWW.out.2.2
          have hg6W : g6 < W.heap.size := by omega
          have hown7 := ownsRow_block HWW.out.1 (w' := wc) (fun j hj => hcut.hb.block j (by cases hj; exact hg6W))
          obtain ⟨⟨cv, hcv⟩, hfz, _⟩ := own_cell hown7 i hiN
          have t0 : wc.cell? ⟨T, 0, none⟩ = some (.int .i64 who) := cell_of HT rfl
          have t1 : wc.cell? ⟨T, 1, none⟩ = some (.int .i64 kind) := cell_of HT rfl
          have t2 : wc.cell? ⟨T, 2, none⟩ = some (.int .i64 i) := cell_of HT rfl
          have t3 : wc.cell? ⟨T, 3, none⟩ = some (.int .u64 want) := cell_of HT rfl
          have t4 : wc.cell? ⟨T, 4, none⟩ = some (.int .u64 put) := cell_of HT rfl
          have t5 : wc.cell? ⟨T, 5, none⟩ = some (.int .u64 sn) := cell_of HT rfl
          have t6 : wc.cell? ⟨T, 6, none⟩ = some (.int .u64 left) := cell_of HT rfl
          have t7 : wc.cell? ⟨T, 7, none⟩ = some (.bool ok) := cell_of HT rfl
          have q0 : wc.cell? ⟨M, 0, none⟩ = some (.int .i64 m.who) := cell_of hcut.hm rfl
          have q1 : wc.cell? ⟨M, 1, none⟩ = some (.int .i64 m.kind) := cell_of hcut.hm rfl
          have q2 : wc.cell? ⟨M, 2, none⟩ = some (.int .i64 m.cell) := cell_of hcut.hm rfl
          have q3 : wc.cell? ⟨M, 3, none⟩ = some (.int .u64 m.want) := cell_of hcut.hm rfl
          have q4 : wc.cell? ⟨M, 4, none⟩ = some (.int .u64 m.put) := cell_of hcut.hm rfl
          have q5 : wc.cell? ⟨M, 5, none⟩ = some (.int .u64 m.seen) := cell_of hcut.hm rfl
          have q6 : wc.cell? ⟨M, 6, none⟩ = some (.int .u64 m.left) := cell_of hcut.hm rfl
          have q7 : wc.cell? ⟨M, 7, none⟩ = some (.bool m.ok) := cell_of hcut.hm rfl
          have HBl := hide (show Below w.heap.size w wc from (HI.out.2.1.trans (HWW.out.2.1.mono hwr)).trans (hcut.hb.mono (by omega)))
          have HO7 := hide hown7
          have HR := HI.out.2.2
          rw [HD.out] at HR
          have HRR := hide HR
          clear HR HT hown7 hcut HI
          cases hB : (known kind && accEq m ⟨who, kind, i, want, put, sn, left, ok⟩) with
          | false =>
            have HP := hide (HRR.out.trans (rep_bad (a := ⟨who, kind, i, want, put, sn, left, ok⟩) rfl hiN HSN.out HM.out hB))
            clear HRR
            rw [Bool.and_eq_false_iff] at hB
            rcases hB with hB | hB
            · rw [hB]
              clear hB
              go_wp2_with fail
              go_ret2
              exact ⟨_, by rw [HP.out]; rfl, by rw [HP.out, hNN, ← hcs]; rw [← hcs] at HO7; exact HO7.out, HBl.out⟩
            · cases hK : known kind with
              | false =>
                clear hB
                go_wp2_with fail
                go_ret2
                exact ⟨_, by rw [HP.out]; rfl, by rw [HP.out, hNN, ← hcs]; rw [← hcs] at HO7; exact HO7.out, HBl.out⟩
              | true =>
                go_wp2_with fail
                go_ret2
                exact ⟨_, by rw [HP.out]; rfl, by rw [HP.out, hNN, ← hcs]; rw [← hcs] at HO7; exact HO7.out, HBl.out⟩
          | true =>
            have HP := hide (HRR.out.trans (rep_good (a := ⟨who, kind, i, want, put, sn, left, ok⟩) rfl hiN HSN.out HM.out hB))
            clear HRR
            rw [Bool.and_eq_true] at hB
            obtain ⟨hK, hE⟩ := hB
            rw [hK]
            clear hK
            go_wp2_with fail
            go_roundw
            case rel =>
              have ho8 := own_set HO7.out i m.left
              rw [show (cs.set i m.left).length = NN by simp [hcs]] at ho8
              exact ⟨k + 1, by omega, by go_num, cs.set i m.left, by simp [hcs], ho8, HBl.out.setCell (p := ⟨g6, i, none⟩) (owns_lt HO7.out (k := g6) rfl).1 _, HP.out⟩
            case measure => simp [RowKit.intOf]; omega
      · rw [decide_eq_false hin]
        have HP : Hid (replay cells log 0 = ((k : Int), cs)) := HI.out.2.2.trans (by rw [HD.out]; exact rep_out (by rw [hcs]; exact hin))
        go_wp2_with fail
        go_ret2
        have hb : Below wr.heap.size wr (wr.alloc (.cells #[.int .i64 who, .int .i64 kind, .int .i64 cell, .int .u64 want, .int .u64 put, .int .u64 sn, .int .u64 left, .bool ok] 31)) := (Below.refl _ _).alloc (Nat.le_refl _) _
        refine ⟨_, by rw [HP.out]; rfl, ?_, HI.out.2.1.trans (hb.mono HI.out.2.1.size)⟩
        rw [HP.out, hNN]
        exact ownsRow_block HI.out.1 (fun j hj => hb.block j (owns_lt HI.out.1 hj).2)
    · obtain rfl : k = n := by omega
      have HP : Hid (replay cells log 0 = (-1, cs)) := HI.out.2.2.trans (by rw [List.drop_eq_nil_of_le (by omega)]; rfl)
      go_wp2_with fail
      go_ret2
      refine ⟨_, by rw [HP.out]; rfl, ?_, HI.out.2.1⟩
      rw [HP.out, hNN]
      exact HI.out.1
end Go.Proofs.Ytfgchkkljlbmcaa
