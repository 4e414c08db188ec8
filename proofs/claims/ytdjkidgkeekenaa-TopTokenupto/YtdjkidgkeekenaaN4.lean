/- The steps of a node: 8, 9, 10; Over, Step, Tell. -/
import Derived.Test.YtdjkidgkeekenaaN3
namespace Go.Proofs.Ytdjkidgkeekenaa
open Go.RowKit Go.Lib
set_option linter.unusedVariables false
set_option linter.unusedSimpArgs false
section
variable {w : World} {q p : Nat} {d : Nd} {sv : Value} {x : Int} {P : World → Prop}

set_option maxRecDepth 100000 in
set_option maxHeartbeats 4000000 in
theorem ph8N (h0 : w.heap[q]? = some (d.obj sv)) (hd : d.ph = 8)
    (HA : ∀ X, Below w.heap.size w X → Calls Try.prog 79 #[.pointer (some ⟨p, 0, none⟩), .int .i64 2, .int .u64 d.put8] X fun e w2 => e = .returned (.tuple #[]) ∧ P w2) (hP : ∀ w2, P w2 → w2.heap[q]? = some (d.obj sv)) :
    Calls Try.prog 78 #[.pointer (some ⟨q, 0, none⟩), .pointer (some ⟨p, 0, none⟩)] w fun e w' => e = .returned (.tuple #[]) ∧ StN P q ((d.next x).obj sv) w' := by
  have HQ := hide hP
  have HC := hide HA
  have HD := hide hd
  clear hP HA
  have hq0 := h0
  unfold Nd.obj NObj at hq0
  obtain ⟨yw, hyw⟩ : ∃ yw, yw = d.who := ⟨_, rfl⟩
  have HYW := hide hyw
  have b3 := cell_of hq0 (i := 3) rfl; have b11 := cell_of hq0 (i := 11) rfl
  have b5 : w.cell? ⟨q, 5, none⟩ = some (.int .i64 (yw : Int)) := by rw [hyw]; exact cell_of hq0 rfl
  have HF := hide (fun X (k : Below w.heap.size w X) => isFirst_at (q := q) X yw ((below_cell k (lt_of_heap hq0)).trans b5))
  have HN : Hid (d.next x = { d with ph := 9 }) := by
    unfold Nd.next Hid; simp only [HD.out]
  clear hq0 h0 hd hyw b5
  by_cases h0 : yw = 0
  · have hd0 : decide (yw = 0) = true := by simpa using h0
    rw [hd0] at HF
    have HV : Hid (d.put8 = 0) := by unfold Nd.put8 Hid; rw [if_pos (by rw [← HYW.out]; exact h0)]
    rw [HV.out] at HC
    clear h0
    go_enter Try.func78, Try.ntmps78
    go_wp2_with fail
    go_quiet (fail)
    go_wp2_with fail
    refine (HF.out _ (below_drN w _)).mono ?_
    rintro e w1 ⟨rfl, rfl⟩
    have HBW := hide (below_drN w nq)
    unfold wr at *
    go_wp2_with fail
    refine (HC.out _ HBW.out).mono ?_
    rintro e w2 ⟨rfl, hp2⟩
    have hq := HQ.out w2 hp2
    unfold Nd.obj NObj at hq
    have c9 := cell_of hq (i := 9) rfl; have c4 := cell_of hq (i := 4) rfl
    have f9 := free_of hq 9; have f4 := free_of hq 4
    have HE : Hid (StN P q ((d.next x).obj sv) (w2.setCell ⟨q, 9, none⟩ (.func (.func 80) #[] #[]))) := hide ((StN.of hp2 hq (Below.refl _ _)).more (by rw [HN.out]; unfold Nd.obj NObj; simp only [nxF]; rfl))
    clear hp2 hq
    go_wp2_with fail
    first | go_end0 | refine bodyPost_ret (results_none rfl _ _ _) rfl ?_
    exact ⟨rfl, HE.out⟩
  · have hd0 : decide (yw = 0) = false := by simpa using h0
    rw [hd0] at HF
    have HV : Hid (d.put8 = wr (d.q + wr d.bal)) := by unfold Nd.put8 Hid; rw [if_neg (by rw [← HYW.out]; exact h0)]
    rw [HV.out] at HC
    clear h0
    go_enter Try.func78, Try.ntmps78
    go_wp2_with fail
    go_quiet (fail)
    go_wp2_with fail
    refine (HF.out _ (below_drN w _)).mono ?_
    rintro e w1 ⟨rfl, rfl⟩
    have HBW := hide (below_drN w nq)
    unfold wr at *
    go_wp2_with fail
    refine (HC.out _ HBW.out).mono ?_
    rintro e w2 ⟨rfl, hp2⟩
    have hq := HQ.out w2 hp2
    unfold Nd.obj NObj at hq
    have c9 := cell_of hq (i := 9) rfl; have c4 := cell_of hq (i := 4) rfl
    have f9 := free_of hq 9; have f4 := free_of hq 4
    have HE : Hid (StN P q ((d.next x).obj sv) (w2.setCell ⟨q, 9, none⟩ (.func (.func 80) #[] #[]))) := hide ((StN.of hp2 hq (Below.refl _ _)).more (by rw [HN.out]; unfold Nd.obj NObj; simp only [nxF]; rfl))
    clear hp2 hq
    go_wp2_with fail
    first | go_end0 | refine bodyPost_ret (results_none rfl _ _ _) rfl ?_
    exact ⟨rfl, HE.out⟩

set_option maxRecDepth 100000 in
set_option maxHeartbeats 4000000 in
theorem ph9N (h0 : w.heap[q]? = some (d.obj sv)) (hd : d.ph = 9)
    (HA : ∀ X, Below w.heap.size w X → Calls Try.prog 79 #[.pointer (some ⟨p, 0, none⟩), .int .i64 3, .int .u64 d.put9] X fun e w2 => e = .returned (.tuple #[]) ∧ P w2) (hP : ∀ w2, P w2 → w2.heap[q]? = some (d.obj sv)) :
    Calls Try.prog 80 #[.pointer (some ⟨q, 0, none⟩), .pointer (some ⟨p, 0, none⟩)] w fun e w' => e = .returned (.tuple #[]) ∧ StN P q ((d.next x).obj sv) w' := by
  have HQ := hide hP
  have HC := hide HA
  have HD := hide hd
  clear hP HA
  have hq0 := h0
  unfold Nd.obj NObj at hq0
  obtain ⟨yw, hyw⟩ : ∃ yw, yw = d.who := ⟨_, rfl⟩
  obtain ⟨yk, hyk⟩ : ∃ yk, yk = d.k := ⟨_, rfl⟩
  obtain ⟨yb, hyb⟩ : ∃ yb, yb = d.black := ⟨_, rfl⟩
  have HYW := hide hyw; have HYK := hide hyk; have HYB := hide hyb
  rw [← hyk, ← hyb] at hq0
  have b4 := cell_of hq0 (i := 4) rfl; have b12 := cell_of hq0 (i := 12) rfl
  have b5 : w.cell? ⟨q, 5, none⟩ = some (.int .i64 (yw : Int)) := by rw [hyw]; exact cell_of hq0 rfl
  have HF := hide (isFirst_at (q := q) w yw b5)
  have HN : Hid (d.next x = { d with ph := 10, black := false }) := by
    unfold Nd.next Hid; simp only [HD.out]
  clear hq0 h0 hd hyw hyk hyb b5
  by_cases h0 : yw = 0
  · have hd0 : decide (yw = 0) = true := by simpa using h0
    rw [hd0] at HF
    have HV : Hid (d.put9 = 0) := by
      unfold Nd.put9 Hid
      rw [if_neg (fun q => q.1 (by rw [← HYW.out]; exact h0))]
    rw [HV.out] at HC
    have HBW := hide (Below.refl w.heap.size w)
    go_enter Try.func80, Try.ntmps80
    go_wp2_with fail
    refine HF.out.mono ?_
    rintro e w1 ⟨rfl, rfl⟩
    go_wp2_with fail
    refine (HC.out _ HBW.out).mono ?_
    rintro e w2 ⟨rfl, hp2⟩
    have hq := HQ.out w2 hp2
    unfold Nd.obj NObj at hq
    have c9 := cell_of hq (i := 9) rfl; have c4 := cell_of hq (i := 4) rfl
    have f9 := free_of hq 9; have f4 := free_of hq 4
    have HE : Hid (StN P q ((d.next x).obj sv) ((w2.setCell ⟨q, 4, none⟩ (.bool false)).setCell ⟨q, 9, none⟩ (.func (.func 81) #[] #[]))) := hide (((StN.of hp2 hq (Below.refl _ _)).more rfl).more (by rw [HN.out]; unfold Nd.obj NObj; simp only [nxF]; rfl))
    clear hp2 hq
    go_wp2_with fail
    first | go_end0 | refine bodyPost_ret (results_none rfl _ _ _) rfl ?_
    exact ⟨rfl, HE.out⟩
  · have hd0 : decide (yw = 0) = false := by simpa using h0
    rw [hd0] at HF
    by_cases hk : yk = 0
    · have hk0 : (yk != 0) = false := by simp [hk]
      cases yb with
      | true =>
        have HV : Hid (d.put9 = 1) := by
          unfold Nd.put9 Hid
          rw [if_pos ⟨by rw [← HYW.out]; exact h0, .inr HYB.out.symm⟩]
        rw [HV.out] at HC
        have HBW := hide (Below.refl w.heap.size w)
        go_enter Try.func80, Try.ntmps80
        go_wp2_with fail
        refine HF.out.mono ?_
        rintro e w1 ⟨rfl, rfl⟩
        go_wp2_with fail
        refine (HC.out _ HBW.out).mono ?_
        rintro e w2 ⟨rfl, hp2⟩
        have hq := HQ.out w2 hp2
        unfold Nd.obj NObj at hq
        have c9 := cell_of hq (i := 9) rfl; have c4 := cell_of hq (i := 4) rfl
        have f9 := free_of hq 9; have f4 := free_of hq 4
        have HE : Hid (StN P q ((d.next x).obj sv) ((w2.setCell ⟨q, 4, none⟩ (.bool false)).setCell ⟨q, 9, none⟩ (.func (.func 81) #[] #[]))) := hide (((StN.of hp2 hq (Below.refl _ _)).more rfl).more (by rw [HN.out]; unfold Nd.obj NObj; simp only [nxF]; rfl))
        clear hp2 hq
        go_wp2_with fail
        first | go_end0 | refine bodyPost_ret (results_none rfl _ _ _) rfl ?_
        exact ⟨rfl, HE.out⟩
      | false =>
        have HV : Hid (d.put9 = 0) := by
          unfold Nd.put9 Hid
          rw [if_neg (fun q => by
            rcases q.2 with e | e
            · exact e (by rw [← HYK.out]; exact hk)
            · rw [← HYB.out] at e; cases e)]
        rw [HV.out] at HC
        have HBW := hide (Below.refl w.heap.size w)
        go_enter Try.func80, Try.ntmps80
        go_wp2_with fail
        refine HF.out.mono ?_
        rintro e w1 ⟨rfl, rfl⟩
        go_wp2_with fail
        refine (HC.out _ HBW.out).mono ?_
        rintro e w2 ⟨rfl, hp2⟩
        have hq := HQ.out w2 hp2
        unfold Nd.obj NObj at hq
        have c9 := cell_of hq (i := 9) rfl; have c4 := cell_of hq (i := 4) rfl
        have f9 := free_of hq 9; have f4 := free_of hq 4
        have HE : Hid (StN P q ((d.next x).obj sv) ((w2.setCell ⟨q, 4, none⟩ (.bool false)).setCell ⟨q, 9, none⟩ (.func (.func 81) #[] #[]))) := hide (((StN.of hp2 hq (Below.refl _ _)).more rfl).more (by rw [HN.out]; unfold Nd.obj NObj; simp only [nxF]; rfl))
        clear hp2 hq
        go_wp2_with fail
        first | go_end0 | refine bodyPost_ret (results_none rfl _ _ _) rfl ?_
        exact ⟨rfl, HE.out⟩
    · have hk0 : (yk != 0) = true := by simp [hk]
      have HV : Hid (d.put9 = 1) := by
        unfold Nd.put9 Hid
        rw [if_pos ⟨by rw [← HYW.out]; exact h0, .inl (by rw [← HYK.out]; exact hk)⟩]
      rw [HV.out] at HC
      have HBW := hide (Below.refl w.heap.size w)
      go_enter Try.func80, Try.ntmps80
      go_wp2_with fail
      refine HF.out.mono ?_
      rintro e w1 ⟨rfl, rfl⟩
      go_wp2_with fail
      refine (HC.out _ HBW.out).mono ?_
      rintro e w2 ⟨rfl, hp2⟩
      have hq := HQ.out w2 hp2
      unfold Nd.obj NObj at hq
      have c9 := cell_of hq (i := 9) rfl; have c4 := cell_of hq (i := 4) rfl
      have f9 := free_of hq 9; have f4 := free_of hq 4
      have HE : Hid (StN P q ((d.next x).obj sv) ((w2.setCell ⟨q, 4, none⟩ (.bool false)).setCell ⟨q, 9, none⟩ (.func (.func 81) #[] #[]))) := hide (((StN.of hp2 hq (Below.refl _ _)).more rfl).more (by rw [HN.out]; unfold Nd.obj NObj; simp only [nxF]; rfl))
      clear hp2 hq
      go_wp2_with fail
      first | go_end0 | refine bodyPost_ret (results_none rfl _ _ _) rfl ?_
      exact ⟨rfl, HE.out⟩

set_option maxRecDepth 100000 in
set_option maxHeartbeats 4000000 in
theorem ph10N (hwh : d.who < 64) (hnn : 1 ≤ d.n ∧ d.n ≤ 64) (h0 : w.heap[q]? = some (d.obj sv)) (hd : d.ph = 10)
    (HA : ∀ X, Below w.heap.size w X → Calls Try.prog 79 #[.pointer (some ⟨p, 0, none⟩), .int .i64 1, .int .u64 d.put10] X fun e w2 => e = .returned (.tuple #[]) ∧ P w2) (hP : ∀ w2, P w2 → w2.heap[q]? = some (d.obj sv)) :
    Calls Try.prog 81 #[.pointer (some ⟨q, 0, none⟩), .pointer (some ⟨p, 0, none⟩)] w fun e w' => e = .returned (.tuple #[]) ∧ StN P q ((d.next x).obj sv) w' := by
  have HQ := hide hP
  have HC := hide HA
  have HD := hide hd
  clear hP HA
  have hq0 := h0
  unfold Nd.obj NObj at hq0
  obtain ⟨yw, hyw⟩ : ∃ yw, yw = d.who := ⟨_, rfl⟩
  obtain ⟨yn, hyn⟩ : ∃ yn, yn = d.n := ⟨_, rfl⟩
  have HYW := hide hyw; have HYN := hide hyn
  have b6 : w.cell? ⟨q, 6, none⟩ = some (.int .i64 (yn : Int)) := by rw [hyn]; exact cell_of hq0 rfl
  have b5 : w.cell? ⟨q, 5, none⟩ = some (.int .i64 (yw : Int)) := by rw [hyw]; exact cell_of hq0 rfl
  have HF := hide (isFirst_at (q := q) w yw b5)
  have HN : Hid (d.next x = { d with ph := 1 }) := by
    unfold Nd.next Hid; simp only [HD.out]
  rw [← hyw] at hwh; rw [← hyn] at hnn
  clear hq0 h0 hd hyw hyn
  by_cases h0 : yw = 0
  · have hd0 : decide (yw = 0) = true := by simpa using h0
    rw [hd0] at HF
    have HV : Hid (d.put10 = (yn : Int) - 1) := by unfold Nd.put10 Hid; rw [if_pos (by rw [← HYW.out]; exact h0), ← HYN.out]
    rw [HV.out] at HC
    have hw1 : IntKind.i64.wrap ((yw : Int) - 1) = (yw : Int) - 1 := IntWalk.i64_in _ (by omega)
    have hw2 : IntKind.i64.wrap ((yn : Int) - 1) = (yn : Int) - 1 := IntWalk.i64_in _ (by omega)
    have hw3 : IntKind.u64.wrap ((yn : Int) - 1) = (yn : Int) - 1 := wr_id (by unfold W64; omega)
    have HBW := hide (Below.refl w.heap.size w)
    go_enter Try.func81, Try.ntmps81
    go_wp2_with fail
    refine HF.out.mono ?_
    rintro e w1 ⟨rfl, rfl⟩
    go_wp2_with fail
    refine (HC.out _ HBW.out).mono ?_
    rintro e w2 ⟨rfl, hp2⟩
    have hq := HQ.out w2 hp2
    unfold Nd.obj NObj at hq
    have c9 := cell_of hq (i := 9) rfl; have c4 := cell_of hq (i := 4) rfl
    have f9 := free_of hq 9; have f4 := free_of hq 4
    have HE : Hid (StN P q ((d.next x).obj sv) (w2.setCell ⟨q, 9, none⟩ (.func (.func 31) #[] #[]))) := hide ((StN.of hp2 hq (Below.refl _ _)).more (by rw [HN.out]; unfold Nd.obj NObj; simp only [nxF]; rfl))
    clear hp2 hq
    go_wp2_with fail
    first | go_end0 | refine bodyPost_ret (results_none rfl _ _ _) rfl ?_
    exact ⟨rfl, HE.out⟩
  · have hd0 : decide (yw = 0) = false := by simpa using h0
    rw [hd0] at HF
    have HV : Hid (d.put10 = (yw : Int) - 1) := by unfold Nd.put10 Hid; rw [if_neg (by rw [← HYW.out]; exact h0), ← HYW.out]
    rw [HV.out] at HC
    have hw1 : IntKind.i64.wrap ((yw : Int) - 1) = (yw : Int) - 1 := IntWalk.i64_in _ (by omega)
    have hw2 : IntKind.i64.wrap ((yn : Int) - 1) = (yn : Int) - 1 := IntWalk.i64_in _ (by omega)
    have hw3 : IntKind.u64.wrap ((yw : Int) - 1) = (yw : Int) - 1 := wr_id (by unfold W64; omega)
    have HBW := hide (Below.refl w.heap.size w)
    go_enter Try.func81, Try.ntmps81
    go_wp2_with fail
    refine HF.out.mono ?_
    rintro e w1 ⟨rfl, rfl⟩
    go_wp2_with fail
    refine (HC.out _ HBW.out).mono ?_
    rintro e w2 ⟨rfl, hp2⟩
    have hq := HQ.out w2 hp2
    unfold Nd.obj NObj at hq
    have c9 := cell_of hq (i := 9) rfl; have c4 := cell_of hq (i := 4) rfl
    have f9 := free_of hq 9; have f4 := free_of hq 4
    have HE : Hid (StN P q ((d.next x).obj sv) (w2.setCell ⟨q, 9, none⟩ (.func (.func 31) #[] #[]))) := hide ((StN.of hp2 hq (Below.refl _ _)).more (by rw [HN.out]; unfold Nd.obj NObj; simp only [nxF]; rfl))
    clear hp2 hq
    go_wp2_with fail
    first | go_end0 | refine bodyPost_ret (results_none rfl _ _ _) rfl ?_
    exact ⟨rfl, HE.out⟩

end
end Go.Proofs.Ytdjkidgkeekenaa
