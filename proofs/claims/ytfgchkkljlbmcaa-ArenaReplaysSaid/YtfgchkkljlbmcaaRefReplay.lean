/- The reference's Replay. -/
import Derived.Test.YtfgchkkljlbmcaaRight
import Derived.Test.YtfgchkkljlbmcaaIn
import Derived.Test.YtfgchkkljlbmcaaReplayWalk
namespace Go.Proofs.Ytfgchkkljlbmcaa
open Go.RowKit Go.Lib Go.MuLone

set_option maxRecDepth 100000 in
set_option maxHeartbeats 2000000 in
theorem refReplay_any (iv lv : Value) (cells : List Int) (log : List Acc) (w : World) (hi : WordsIn w iv cells) (hl : AccsIn w lv log) (hc : cells.length * 8 ≤ 140737488355328) (hn : (log.length : Int) ≤ 140737488355328) :
    Calls Try.prog 14 #[iv, lv] w fun r w' => ∃ v', r = .returned (.tuple #[.int .i64 (replay cells log 0).1, v']) ∧ w'.ownsRow w.heap.size 29 1 v' cells.length ((replay cells log 0).2.map (Value.int .u64)) ∧ Below w.heap.size w w' := by
  obtain ⟨ao, cc, rfl, hlog⟩ := hl
  have HL := hide hlog
  have HC := hide (copiedIn_any iv cells w hi hc)
  obtain ⟨n, hnn⟩ : ∃ n, log.length = n := ⟨_, rfl⟩
  obtain ⟨NN, hNN⟩ : ∃ NN, cells.length = NN := ⟨_, rfl⟩
  rw [hnn] at hn ⊢
  clear hlog hi
  go_enter Try.func14, Try.ntmps14
  go_wp2_with fail
  refine HC.out.mono ?_
  rintro e w1 ⟨v6, rfl, hown, hbel⟩
  rw [hNN] at hown
  obtain ⟨a6, c6, rfl⟩ := owns_shape hown
  have HO := hide (And.intro hown hbel)
  clear hown hbel HC
  go_wp2_with fail
  go_loopw [7] (fun t wr => ∃ k : Nat, k ≤ n ∧ t = .int .i64 k ∧ ∃ cs : List Int, cs.length = NN ∧ Hid (wr.ownsRow w.heap.size 29 1 (.slice a6 NN c6) NN (cs.map (Value.int .u64)) ∧ Below w.heap.size w wr ∧ replay cells log 0 = replay cs (log.drop k) k)) (fun t _ => n - (RowKit.intOf t).toNat)
  case atStart => exact ⟨0, by omega, rfl, cells, hNN, HO.out.1, HO.out.2, by simp⟩
  case round =>
    clear HO
    obtain ⟨k, hk, rfl, cs, hcs, HI⟩ := hrel
    by_cases hlt : k < n
    · obtain ⟨g, o, a, rfl, hg, hka, hlc, _, hcell⟩ := HL.out k (by omega)
      have hcellr : ∀ (j : Nat) (x : Value), a.arr[j]? = some x → wr.cell? ⟨g, o + k * 8 + j, none⟩ = some x := fun j x hx => (HI.out.2.1.cell (p := ⟨g, o + k * 8 + j, none⟩) hg).trans (hcell j x hx)
      have hdrop : log.drop k = a :: log.drop (k + 1) := by
        rw [List.drop_eq_getElem_cons (by omega)]
        congr 1
        rw [List.getElem?_eq_getElem (by omega)] at hka
        exact Option.some.inj hka
      have HD := hide hdrop
      have o0 : wr.cell? ⟨g, o + k * 8, none⟩ = some (.int .i64 a.who) := hcellr 0 _ rfl
      have o1 : wr.cell? ⟨g, o + k * 8 + 1, none⟩ = some (.int .i64 a.kind) := hcellr 1 _ rfl
      have o2 : wr.cell? ⟨g, o + k * 8 + 2, none⟩ = some (.int .i64 a.cell) := hcellr 2 _ rfl
      have o3 : wr.cell? ⟨g, o + k * 8 + 3, none⟩ = some (.int .u64 a.want) := hcellr 3 _ rfl
      have o4 : wr.cell? ⟨g, o + k * 8 + 4, none⟩ = some (.int .u64 a.put) := hcellr 4 _ rfl
      have o5 : wr.cell? ⟨g, o + k * 8 + 5, none⟩ = some (.int .u64 a.seen) := hcellr 5 _ rfl
      have o6 : wr.cell? ⟨g, o + k * 8 + 6, none⟩ = some (.int .u64 a.left) := hcellr 6 _ rfl
      have o7 : wr.cell? ⟨g, o + k * 8 + 7, none⟩ = some (.bool a.ok) := hcellr 7 _ rfl
      have hlci : (k : Int) < cc := by omega
      clear hcell hcellr hdrop hka hlc
      obtain ⟨who, kind, cell, want, put, sn, left, ok⟩ := a
      simp only at o0 o1 o2 o3 o4 o5 o6 o7
      by_cases hin : 0 ≤ cell ∧ cell < (NN : Int)
      · obtain ⟨hin0, hin1⟩ := hin
        obtain ⟨i, rfl⟩ := Int.eq_ofNat_of_zero_le hin0
        have hiN : i < cs.length := by omega
        have hd0 : decide ((i : Int) < 0) = false := decide_eq_false (by omega)
        have hd1 : decide ((NN : Int) ≤ (i : Int)) = false := decide_eq_false (by omega)
        have hd2 : decide (NN ≤ i) = false := decide_eq_false (by omega)
        have hd3 : ¬ NN ≤ i := by omega
        go_wp2_with fail
        generalize hW : World.alloc _ _ = W
        have hA : W.heap[wr.heap.size]? = some (.cells #[.int .i64 who, .int .i64 kind, .int .i64 i, .int .u64 want, .int .u64 put, .int .u64 sn, .int .u64 left, .bool ok] 31 (0, 0)) := by rw [← hW]; exact heap_new _ _
        have hWb : Below wr.heap.size wr W := by rw [← hW]; exact (Below.refl _ _).alloc (Nat.le_refl _) _
        have hWs : W.heap.size = wr.heap.size + 1 := by rw [← hW]; simp
        have hwr := HI.out.2.1.size
        obtain ⟨g6, rfl, hg6, hown6⟩ : ∃ g6, a6 = some ⟨g6, 0, none⟩ ∧ g6 < wr.heap.size ∧ W.ownsRow w.heap.size 29 1 (.slice a6 NN c6) cs.length (cs.map (Value.int .u64)) := by
          have ho := HI.out.1
          rw [← hcs] at ho
          have ho2 := ownsRow_block ho (w' := W) (fun j hj => hWb.block j (owns_lt ho hj).2)
          obtain ⟨_, ⟨h0, h1⟩ | ⟨g, cap, cur, h0, hg, hh, _⟩⟩ := ho
          · omega
          · simp only [Value.slice.injEq] at h0
            exact ⟨g, h0.1, lt_of_heap hh, by rw [← hcs]; exact ho2⟩
        have hseen : W.cell? ⟨g6, i, none⟩ = some (.int .u64 (nth cs i)) := by
          rcases WordsAt.of_owns hown6 with ⟨h0, _⟩ | ⟨g', o', c', h0, _, _, _, hc'⟩
          · cases h0
          · simp only [Value.slice.injEq, Option.some.injEq, Addr.mk.injEq] at h0
            obtain ⟨⟨rfl, rfl, _⟩, _⟩ := h0
            have := hc' i hiN
            rwa [Nat.zero_add] at this
        obtain ⟨seen, hsn⟩ : ∃ seen, nth cs i = seen := ⟨_, rfl⟩
        rw [hsn] at hseen
        obtain ⟨m, hm⟩ : ∃ m, m = carry ⟨who, kind, i, want, put, sn, left, ok⟩ seen := ⟨_, rfl⟩
        obtain ⟨BB, hBB⟩ : ∃ BB, (known kind && accEq m ⟨who, kind, i, want, put, sn, left, ok⟩) = BB := ⟨_, rfl⟩
        have HCa : Hid (∀ x, Calls Try.prog 43 #[.agg #[.int .i64 who, .int .i64 kind, .int .i64 i, .int .u64 want, .int .u64 put, .int .u64 sn, .int .u64 left, .bool ok], .int .u64 seen] x fun r w' => r = .returned (.bool BB) ∧ Below x.heap.size x w') := fun x => by
          have h := right_any ⟨who, kind, i, want, put, sn, left, ok⟩ seen x
          rw [← hm] at h
          simp only [hBB] at h
          exact h
        have HBB := hide hBB
        clear hBB
        have HM := hide hm
        have HSN := hide hsn
        have HWW := hide (And.intro hown6 (And.intro hWb hA))
        generalize hT : wr.heap.size = T at *
        clear hW hA hWb hown6 hm hsn o0 o1 o2 o3 o4 o5 o6 o7
        have t0 : W.cell? ⟨T, 0, none⟩ = some (.int .i64 who) := cell_of HWW.out.2.2 rfl
        have t1 : W.cell? ⟨T, 1, none⟩ = some (.int .i64 kind) := cell_of HWW.out.2.2 rfl
        have t2 : W.cell? ⟨T, 2, none⟩ = some (.int .i64 i) := cell_of HWW.out.2.2 rfl
        have t3 : W.cell? ⟨T, 3, none⟩ = some (.int .u64 want) := cell_of HWW.out.2.2 rfl
        have t4 : W.cell? ⟨T, 4, none⟩ = some (.int .u64 put) := cell_of HWW.out.2.2 rfl
        have t5 : W.cell? ⟨T, 5, none⟩ = some (.int .u64 sn) := cell_of HWW.out.2.2 rfl
        have t6 : W.cell? ⟨T, 6, none⟩ = some (.int .u64 left) := cell_of HWW.out.2.2 rfl
        have t7 : W.cell? ⟨T, 7, none⟩ = some (.bool ok) := cell_of HWW.out.2.2 rfl
        go_region_held3 (fun x => x.cell? ⟨T, 0, none⟩ = some (.int .i64 who) ∧ x.cell? ⟨T, 1, none⟩ = some (.int .i64 kind) ∧ x.cell? ⟨T, 2, none⟩ = some (.int .i64 i) ∧ x.cell? ⟨T, 3, none⟩ = some (.int .u64 want) ∧ x.cell? ⟨T, 4, none⟩ = some (.int .u64 put) ∧ x.cell? ⟨T, 5, none⟩ = some (.int .u64 sn) ∧ x.cell? ⟨T, 6, none⟩ = some (.int .u64 left) ∧ x.cell? ⟨T, 7, none⟩ = some (.bool ok) ∧ x.cell? ⟨g6, i, none⟩ = some (.int .u64 seen)) (first | go_keep | exact ⟨z0, z1, z2, z3, z4, z5, z6, z7, z8⟩)
          ((go_at_call 43; refine (HCa.out _).mono ?_; rintro e w2 ⟨rfl, hbel⟩; obtain ⟨z0, z1, z2, z3, z4, z5, z6, z7, z8⟩ := rep_keep (a := ⟨who, kind, i, want, put, sn, left, ok⟩) hbel (show T < W.heap.size by omega) (show g6 < W.heap.size by omega) ⟨t0, t1, t2, t3, t4, t5, t6, t7, hseen⟩; have HB2 := hide hbel; clear hbel))
        all_goals
          have hb2 : Below W.heap.size W w2 := (Below.refl _ W).drew.trans HB2.out
          have hg6W : g6 < W.heap.size := by omega
          have hown7 := ownsRow_block HWW.out.1 (w' := w2) (fun j hj => hb2.block j (by cases hj; exact hg6W))
          obtain ⟨⟨cv, hcv⟩, hfz, _⟩ := own_cell hown7 i hiN
          have HBl := hide (show Below w.heap.size w w2 from (HI.out.2.1.trans (HWW.out.2.1.mono hwr)).trans (hb2.mono (by omega)))
          have HO7 := hide hown7
          have HR := HI.out.2.2
          rw [HD.out] at HR
          have HRR := hide HR
          clear HR hown7 HI HB2 hb2 t0 t1 t2 t3 t4 t5 t6 t7 hseen HCa
          cases BB with
          | false =>
            have hB := HBB.out
            have HP := hide (HRR.out.trans (rep_bad (a := ⟨who, kind, i, want, put, sn, left, ok⟩) rfl hiN HSN.out HM.out hB))
            clear HRR hB
            go_wp2_with fail
            go_ret2
            exact ⟨_, by rw [HP.out]; rfl, by rw [HP.out, hNN, ← hcs]; rw [← hcs] at HO7; exact HO7.out, HBl.out⟩
          | true =>
            have hB := HBB.out
            have HP := hide (HRR.out.trans (rep_good (a := ⟨who, kind, i, want, put, sn, left, ok⟩) rfl hiN HSN.out HM.out hB))
            have hml : m.left = left := by
              rw [Bool.and_eq_true] at hB
              rw [(accEq_iff _ _).1 hB.2]
            rw [hml] at HP
            clear HRR hB hml
            go_wp2_with fail
            go_roundw
            case rel =>
              have ho8 := own_set HO7.out i left
              rw [show (cs.set i left).length = NN by simp [hcs]] at ho8
              exact ⟨k + 1, by omega, by go_num, cs.set i left, by simp [hcs], ho8, HBl.out.setCell (p := ⟨g6, i, none⟩) (owns_lt HO7.out (k := g6) rfl).1 _, HP.out⟩
            case measure => simp [RowKit.intOf]; omega
      · have HP : Hid (replay cells log 0 = ((k : Int), cs)) := HI.out.2.2.trans (by rw [HD.out]; exact rep_out (by rw [hcs]; exact hin))
        by_cases hc0 : cell < 0
        · have hd0 : decide (cell < 0) = true := decide_eq_true hc0
          clear hin hc0
          go_wp2_with fail
          go_region
          all_goals
            go_wp2_with fail
            go_ret2
            have hb : Below wr.heap.size wr (wr.alloc (.cells #[.int .i64 who, .int .i64 kind, .int .i64 cell, .int .u64 want, .int .u64 put, .int .u64 sn, .int .u64 left, .bool ok] 31)).drew := ((Below.refl _ _).alloc (Nat.le_refl _) _).drew
            refine ⟨_, by rw [HP.out]; rfl, ?_, HI.out.2.1.trans (hb.mono HI.out.2.1.size)⟩
            rw [HP.out, hNN]
            exact ownsRow_block HI.out.1 (fun j hj => hb.block j (owns_lt HI.out.1 hj).2)
        · have hd0 : decide (cell < 0) = false := decide_eq_false hc0
          have hd1 : decide ((NN : Int) ≤ cell) = true := decide_eq_true (by omega)
          clear hin hc0
          go_wp2_with fail
          go_region
          all_goals
            go_wp2_with fail
            go_ret2
            have hb : Below wr.heap.size wr (wr.alloc (.cells #[.int .i64 who, .int .i64 kind, .int .i64 cell, .int .u64 want, .int .u64 put, .int .u64 sn, .int .u64 left, .bool ok] 31)).drew := ((Below.refl _ _).alloc (Nat.le_refl _) _).drew
            refine ⟨_, by rw [HP.out]; rfl, ?_, HI.out.2.1.trans (hb.mono HI.out.2.1.size)⟩
            rw [HP.out, hNN]
            exact ownsRow_block HI.out.1 (fun j hj => hb.block j (owns_lt HI.out.1 hj).2)
    · obtain rfl : k = n := by omega
      have HP : Hid (replay cells log 0 = (-1, cs)) := HI.out.2.2.trans (by rw [List.drop_eq_nil_of_le (by omega)]; rfl)
      go_wp2_with fail
      go_ret2
      refine ⟨_, by rw [HP.out]; rfl, ?_, HI.out.2.1⟩
      rw [HP.out, hNN]
      exact HI.out.1
end Go.Proofs.Ytfgchkkljlbmcaa
